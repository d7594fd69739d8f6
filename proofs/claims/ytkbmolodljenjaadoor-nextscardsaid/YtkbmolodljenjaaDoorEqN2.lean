/- Next states: the two lists are the same. Pure. Our own text. -/
import Derived.Test.YtkbmolodljenjaaDoorEqF
import Derived.Test.YtkbmolodljenjaaDoorMNext
namespace Go.Proofs.YtkbmolodljenjaaDoor

theorem folF_iff (tops d e : List Nat) : ∀ (rs : List R2) (st : Bool), folF tops d e rs st = true ↔ (∃ r ∈ rs, mayC r.cl d = true ∧ makesF r.dl d 0 tops d e = true) ∨ (st = true ∧ (∀ r ∈ rs, mayC r.cl d = false) ∧ (txtL d).toList = (txtL e).toList)
  | [], st => by simp [folF]
  | r :: rs, st => by
    unfold folF
    cases hm : mayC r.cl d with
    | true =>
      rw [if_pos rfl, Bool.or_eq_true, folF_iff tops d e rs false]
      constructor
      · rintro (h | ⟨r', h1, h2⟩ | ⟨h, _⟩)
        · exact .inl ⟨r, by simp, hm, h⟩
        · exact .inl ⟨r', by simp [h1], h2⟩
        · cases h
      · rintro (⟨r', h1, h2⟩ | ⟨_, h, _⟩)
        · rcases List.mem_cons.1 h1 with rfl | h1
          · exact .inl h2.2
          · exact .inr (.inl ⟨r', h1, h2⟩)
        · have := h r (by simp); rw [hm] at this; cases this
    | false =>
      rw [if_neg (by simp), folF_iff tops d e rs st]
      constructor
      · rintro (⟨r', h1, h2⟩ | ⟨h1, h2, h3⟩)
        · exact .inl ⟨r', by simp [h1], h2⟩
        · refine .inr ⟨h1, fun r' hr' => ?_, h3⟩
          rcases List.mem_cons.1 hr' with rfl | hr'
          · exact hm
          · exact h2 r' hr'
      · rintro (⟨r', h1, h2⟩ | ⟨h1, h2, h3⟩)
        · rcases List.mem_cons.1 h1 with rfl | h1
          · rw [hm] at h2; cases h2.1
          · exact .inl ⟨r', h1, h2⟩
        · exact .inr ⟨h1, fun r' hr' => h2 r' (by simp [hr']), h3⟩
theorem may_same {s : ByteArray} {n x : Nat} {r : R2} (h : RuleOk s n r) : mayC r.cl (digs n x) = (r.cl.map C7.ast).all (fun c => cdP s c x) := by
  unfold mayC
  rw [List.all_map, Bool.eq_iff_iff, List.all_eq_true, List.all_eq_true]
  constructor
  · intro hh c hc
    have := hh c hc
    rw [so_same (h.tied.1 c hc) (h.conds c hc).1 (h.conds c hc).2] at this
    exact this
  · intro hh c hc
    rw [so_same (h.tied.1 c hc) (h.conds c hc).1 (h.conds c hc).2]
    exact hh c hc
theorem nxU_bit (x y : Nat) : ∀ (ρs : List (Nat → Nat)) (a : Nat), (ρs.foldl (fun a ρ => a ||| ρ x) a).testBit y = true ↔ a.testBit y = true ∨ ∃ ρ ∈ ρs, (ρ x).testBit y = true
  | [], a => by simp
  | ρ :: ρs, a => by
    rw [List.foldl_cons, nxU_bit x y ρs, Nat.testBit_or, Bool.or_eq_true]
    constructor
    · rintro ((h | h) | ⟨σ, h1, h2⟩)
      · exact .inl h
      · exact .inr ⟨ρ, by simp, h⟩
      · exact .inr ⟨σ, by simp [h1], h2⟩
    · rintro (h | ⟨σ, h1, h2⟩)
      · exact .inl (.inl h)
      · rcases List.mem_cons.1 h1 with rfl | h1
        · exact .inl (.inr h2)
        · exact .inr ⟨σ, h1, h2⟩
theorem ru_some {s : ByteArray} {tops : List Nat} {G : Nat → Nat} {r : R2} (h3 : tops.length ≤ 3) (hG : ∀ k (h : k < tops.length), G k = tops[k]) (ht : ∀ t ∈ tops, 1 ≤ t ∧ t ≤ 3) (ho : RuleOk s tops.length r) {x : Nat} (hx : x < 64) :
    ∃ y, y < 64 ∧ (chF (dsP s G (r.dl.map D7.ast) x) (2 ^ x)).testBit y = true := by
  refine chF_some _ _ ?_ ?_ ⟨x, hx, (pow_bit x x).2 rfl⟩
  · intro d hd
    simp [dsP] at hd
    obtain ⟨c, hc, rfl⟩ := hd
    have := (ho.chgs c hc).2.1
    have := (ho.chgs c hc).1
    show c.v.toNat < 3
    omega
  · intro d hd
    simp [dsP] at hd
    obtain ⟨c, hc, rfl⟩ := hd
    have h1 := (ho.chgs c hc).2.1
    have h0 := (ho.chgs c hc).1
    have hk : c.v.toNat < tops.length := by omega
    have h13 := ht _ (List.getElem_mem hk)
    show ∃ v, v < 4 ∧ (toP s c.ast (G c.v.toNat + 1) x).testBit v = true
    rw [hG _ hk]
    have hb := toP_bit (x := x) (ho.tied.2 c hc) (ho.chgs c hc).2.2.2.1 (ho.chgs c hc).2.2.1 tops[c.v.toNat]
    by_cases hany : c.any = true
    · exact ⟨0, by omega, (hb 0).2 (by rw [if_pos hany]; omega)⟩
    · have h5 := Int.emod_nonneg (wor c.t0 c.t1 (digs tops.length x) + c.more) (show ((tops[c.v.toNat] : Nat) : Int) + 1 ≠ 0 by omega)
      have h6 := Int.emod_lt_of_pos (wor c.t0 c.t1 (digs tops.length x) + c.more) (show (0 : Int) < ((tops[c.v.toNat] : Nat) : Int) + 1 by omega)
      refine ⟨((wor c.t0 c.t1 (digs tops.length x) + c.more) % (((tops[c.v.toNat] : Nat) : Int) + 1)).toNat, by omega, (hb _).2 ?_⟩
      rw [if_neg hany]; omega
theorem txt_inj {n x y : Nat} {tops : List Nat} (hn : tops.length = n) (h3 : n ≤ 3) (hx : x < 64) (hy : y < 64) (hvx : valid tops x = true) (hvy : valid tops y = true) : (txtL (digs n x)).toList = (txtL (digs n y)).toList ↔ x = y := by
  subst hn
  constructor
  · intro h
    obtain ⟨_, hx2⟩ := (valid_iff tops h3 x).1 hvx
    obtain ⟨_, hy2⟩ := (valid_iff tops h3 y).1 hvy
    apply dig_ext hx hy
    intro j hj
    by_cases hl : j < tops.length
    · unfold txtL at h
      rw [Go.ByteArray.toList_mk, Go.ByteArray.toList_mk] at h
      have h1 := congrArg (fun l => l[j]?) h
      simp [digs, List.getElem?_map, List.getElem?_range hl] at h1
      have e1 := dig_lt x j
      have e2 := dig_lt y j
      have := congrArg UInt8.toNat h1
      simp at this
      omega
    · rw [hx2 j (by omega) hj, hy2 j (by omega) hj]
  · rintro rfl; rfl
theorem nexts_same {s : ByteArray} {tops : List Nat} {G : Nat → Nat} {rs : List R2} (h1 : 1 ≤ tops.length) (h3 : tops.length ≤ 3) (ht : ∀ t ∈ tops, 1 ≤ t ∧ t ≤ 3) (hG : ∀ k (h : k < tops.length), G k = tops[k]) (ho : ∀ r ∈ rs, RuleOk s tops.length r) {x : Nat} (hx : x < 64) (hvx : valid tops x = true) :
    (mem (nxS (rs.map (fun r => ruP s G r.ast)) x)).map (fun i => digs tops.length i.val) = (allL tops).filter (fun d => folF tops (digs tops.length x) d rs true) := by
  apply lists_same tops h1 h3 ht
  intro y hy
  rw [Bool.eq_iff_iff, Bool.and_eq_true, folF_iff]
  have hru : ∀ r ∈ rs, ruP s G r.ast x = if mayC r.cl (digs tops.length x) = true then chF (dsP s G (r.dl.map D7.ast) x) (2 ^ x) else 0 := by
    intro r hr
    unfold ruP
    rw [may_same (ho r hr)]
    rfl
  have hU : ∀ z, (nxU (rs.map (fun r => ruP s G r.ast)) x).testBit z = true ↔ ∃ r ∈ rs, mayC r.cl (digs tops.length x) = true ∧ (chF (dsP s G (r.dl.map D7.ast) x) (2 ^ x)).testBit z = true := by
    intro z
    unfold nxU
    rw [nxU_bit]
    simp only [Nat.zero_testBit, Bool.false_eq_true, false_or, List.mem_map]
    constructor
    · rintro ⟨_, ⟨r, hr, rfl⟩, h⟩
      have h' : (ruP s G r.ast x).testBit z = true := h
      rw [hru r hr] at h'
      by_cases hm : mayC r.cl (digs tops.length x) = true
      · rw [if_pos hm] at h'; exact ⟨r, hr, hm, h'⟩
      · rw [if_neg hm] at h'; simp at h'
    · rintro ⟨r, hr, hm, h⟩
      refine ⟨_, ⟨r, hr, rfl⟩, ?_⟩
      show (ruP s G r.ast x).testBit z = true
      rw [hru r hr, if_pos hm]; exact h
  unfold nxS
  by_cases h0 : nxU (rs.map (fun r => ruP s G r.ast)) x = 0
  · rw [if_pos h0, pow_bit]
    have hno : ∀ r ∈ rs, mayC r.cl (digs tops.length x) = false := by
      intro r hr
      cases hm : mayC r.cl (digs tops.length x) with
      | false => rfl
      | true =>
        obtain ⟨z, _, hz⟩ := ru_some h3 hG ht (ho r hr) hx
        have := (hU z).2 ⟨r, hr, hm, hz⟩
        rw [h0] at this
        simp at this
    constructor
    · rintro rfl
      exact ⟨hvx, .inr ⟨rfl, hno, rfl⟩⟩
    · rintro ⟨hvy, ⟨r, hr, hm, _⟩ | ⟨_, _, h⟩⟩
      · rw [hno r hr] at hm; cases hm
      · exact (txt_inj rfl h3 hx hy hvx hvy).1 h
  · rw [if_neg h0, hU y]
    have hsome : ∃ r ∈ rs, mayC r.cl (digs tops.length x) = true := by
      apply Classical.byContradiction
      intro hn
      apply h0
      apply Nat.eq_of_testBit_eq
      intro z
      have : ¬ (nxU (rs.map (fun r => ruP s G r.ast)) x).testBit z = true := fun h => by
        obtain ⟨r, hr, hm, _⟩ := (hU z).1 h
        exact hn ⟨r, hr, hm⟩
      simpa using this
    constructor
    · rintro ⟨r, hr, hm, h⟩
      obtain ⟨a, b⟩ := (rule_bit h3 hG (ho r hr) hx hy hvx).1 h
      exact ⟨a, .inl ⟨r, hr, hm, b⟩⟩
    · rintro ⟨hvy, ⟨r, hr, hm, h⟩ | ⟨_, h, _⟩⟩
      · exact ⟨r, hr, hm, (rule_bit h3 hG (ho r hr) hx hy hvx).2 ⟨hvy, h⟩⟩
      · obtain ⟨r, hr, hm⟩ := hsome
        rw [h r hr] at hm; cases hm
end Go.Proofs.YtkbmolodljenjaaDoor
