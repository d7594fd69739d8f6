import Derived.Test.YtgoebckimmofoaaDoorP10
import Derived.Test.YtgoebckimmofoaaDoorP11
import Derived.Test.YtgoebckimmofoaaDoorP8
/- Next states: the two lists are the same. Pure. Our own text. -/
namespace Go.Proofs.YtgoebckimmofoaaDoor

theorem folF_iff (tops d e : List Nat) : ∀ (rs : List R2) (st : Bool), folF tops d e rs st = true ↔ (∃ r ∈ rs, mayC r.cl d = true ∧ makesF r.dl d 0 tops d e = true) ∨ (st = true ∧ (∀ r ∈ rs, mayC r.cl d = false) ∧ (txtL d).toList = (txtL e).toList)
  | [], st => by simp [folF]
  | r :: rs, st => by
    unfold folF
    cases hm : mayC r.cl d with
    | true =>
      rw [if_pos rfl, Bool.or_eq_true, folF_iff tops d e rs false]
      constructor
      · rintro (h | ⟨r', h1, h2⟩ | ⟨h, _⟩)
        · exact .inl ⟨r, by simp, hm, h⟩
        · exact .inl ⟨r', by simp [h1], h2⟩
        · cases h
      · rintro (⟨r', h1, h2⟩ | ⟨_, h, _⟩)
        · rcases List.mem_cons.1 h1 with rfl | h1
          · exact .inl h2.2
          · exact .inr (.inl ⟨r', h1, h2⟩)
        · have := h r (by simp); rw [hm] at this; cases this
    | false =>
      rw [if_neg (by simp), folF_iff tops d e rs st]
      constructor
      · rintro (⟨r', h1, h2⟩ | ⟨h1, h2, h3⟩)
        · exact .inl ⟨r', by simp [h1], h2⟩
        · refine .inr ⟨h1, fun r' hr' => ?_, h3⟩
          rcases List.mem_cons.1 hr' with rfl | hr'
          · exact hm
          · exact h2 r' hr'
      · rintro (⟨r', h1, h2⟩ | ⟨h1, h2, h3⟩)
        · rcases List.mem_cons.1 h1 with rfl | h1
          · rw [hm] at h2; cases h2.1
          · exact .inl ⟨r', h1, h2⟩
        · exact .inr ⟨h1, fun r' hr' => h2 r' (by simp [hr']), h3⟩
theorem may_same {s : ByteArray} {n x : Nat} {r : R2} (h : RuleOk s n r) : mayC r.cl (digs n x) = (r.cl.map C7.ast).all (fun c => cdP s c x) := by
  unfold mayC
  rw [List.all_map, Bool.eq_iff_iff, List.all_eq_true, List.all_eq_true]
  constructor
  · intro hh c hc
    have := hh c hc
    rw [so_same (h.tied.1 c hc) (h.conds c hc).1 (h.conds c hc).2] at this
    exact this
  · intro hh c hc
    rw [so_same (h.tied.1 c hc) (h.conds c hc).1 (h.conds c hc).2]
    exact hh c hc
theorem nxU_bit (x y : Nat) : ∀ (ρs : List (Nat → Nat)) (a : Nat), (ρs.foldl (fun a ρ => a ||| ρ x) a).testBit y = true ↔ a.testBit y = true ∨ ∃ ρ ∈ ρs, (ρ x).testBit y = true
  | [], a => by simp
  | ρ :: ρs, a => by
    rw [List.foldl_cons, nxU_bit x y ρs, Nat.testBit_or, Bool.or_eq_true]
    constructor
    · rintro ((h | h) | ⟨σ, h1, h2⟩)
      · exact .inl h
      · exact .inr ⟨ρ, by simp, h⟩
      · exact .inr ⟨σ, by simp [h1], h2⟩
    · rintro (h | ⟨σ, h1, h2⟩)
      · exact .inl (.inl h)
      · rcases List.mem_cons.1 h1 with rfl | h1
        · exact .inl (.inr h2)
        · exact .inr ⟨σ, h1, h2⟩
theorem ru_some {s : ByteArray} {tops : List Nat} {G : Nat → Nat} {r : R2} (h3 : tops.length ≤ 3) (hG : ∀ k (h : k < tops.length), G k = tops[k]) (ht : ∀ t ∈ tops, 1 ≤ t ∧ t ≤ 3) (ho : RuleOk s tops.length r) {x : Nat} (hx : x < 64) :
    ∃ y, y < 64 ∧ (chF (dsP s G (r.dl.map D7.ast) x) (2 ^ x)).testBit y = true := by
  refine chF_some _ _ ?_ ?_ ⟨x, hx, (pow_bit x x).2 rfl⟩
  · intro d hd
    simp [dsP] at hd
    obtain ⟨c, hc, rfl⟩ := hd
    have := (ho.chgs c hc).2.1
    have := (ho.chgs c hc).1
    show c.v.toNat < 3
    omega
  · intro d hd
    simp [dsP] at hd
    obtain ⟨c, hc, rfl⟩ := hd
    have h1 := (ho.chgs c hc).2.1
    have h0 := (ho.chgs c hc).1
    have hk : c.v.toNat < tops.length := by omega
    have h13 := ht _ (List.getElem_mem hk)
    show ∃ v, v < 4 ∧ (toP s c.ast (G c.v.toNat + 1) x).testBit v = true
    rw [hG _ hk]
    have hb := toP_bit (x := x) (ho.tied.2 c hc) (ho.chgs c hc).2.2.2.1 (ho.chgs c hc).2.2.1 tops[c.v.toNat]
    by_cases hany : c.any = true
    · exact ⟨0, by omega, (hb 0).2 (by rw [if_pos hany]; omega)⟩
    · have h5 := Int.emod_nonneg (wor c.t0 c.t1 (digs tops.length x) + c.more) (show ((tops[c.v.toNat] : Nat) : Int) + 1 ≠ 0 by omega)
      have h6 := Int.emod_lt_of_pos (wor c.t0 c.t1 (digs tops.length x) + c.more) (show (0 : Int) < ((tops[c.v.toNat] : Nat) : Int) + 1 by omega)
      refine ⟨((wor c.t0 c.t1 (digs tops.length x) + c.more) % (((tops[c.v.toNat] : Nat) : Int) + 1)).toNat, by omega, (hb _).2 ?_⟩
      rw [if_neg hany]; omega
theorem txt_inj {n x y : Nat} {tops : List Nat} (hn : tops.length = n) (h3 : n ≤ 3) (hx : x < 64) (hy : y < 64) (hvx : valid tops x = true) (hvy : valid tops y = true) : (txtL (digs n x)).toList = (txtL (digs n y)).toList ↔ x = y := by
  subst hn
  constructor
  · intro h
    obtain ⟨_, hx2⟩ := (valid_iff tops h3 x).1 hvx
    obtain ⟨_, hy2⟩ := (valid_iff tops h3 y).1 hvy
    apply dig_ext hx hy
    intro j hj
    by_cases hl : j < tops.length
    · unfold txtL at h
      rw [Go.ByteArray.toList_mk, Go.ByteArray.toList_mk] at h
      have h1 := congrArg (fun l => l[j]?) h
      simp [digs, List.getElem?_map, List.getElem?_range hl] at h1
      have e1 := dig_lt x j
      have e2 := dig_lt y j
      have := congrArg UInt8.toNat h1
      simp at this
      omega
    · rw [hx2 j (by omega) hj, hy2 j (by omega) hj]
  · rintro rfl; rfl
theorem nexts_same {s : ByteArray} {tops : List Nat} {G : Nat → Nat} {rs : List R2} (h1 : 1 ≤ tops.length) (h3 : tops.length ≤ 3) (ht : ∀ t ∈ tops, 1 ≤ t ∧ t ≤ 3) (hG : ∀ k (h : k < tops.length), G k = tops[k]) (ho : ∀ r ∈ rs, RuleOk s tops.length r) {x : Nat} (hx : x < 64) (hvx : valid tops x = true) :
    (mem (nxS (rs.map (fun r => ruP s G r.ast)) x)).map (fun i => digs tops.length i.val) = (allL tops).filter (fun d => folF tops (digs tops.length x) d rs true) := by
  apply lists_same tops h1 h3 ht
  intro y hy
  rw [Bool.eq_iff_iff, Bool.and_eq_true, folF_iff]
  have hru : ∀ r ∈ rs, ruP s G r.ast x = if mayC r.cl (digs tops.length x) = true then chF (dsP s G (r.dl.map D7.ast) x) (2 ^ x) else 0 := by
    intro r hr
    unfold ruP
    rw [may_same (ho r hr)]
    rfl
  have hU : ∀ z, (nxU (rs.map (fun r => ruP s G r.ast)) x).testBit z = true ↔ ∃ r ∈ rs, mayC r.cl (digs tops.length x) = true ∧ (chF (dsP s G (r.dl.map D7.ast) x) (2 ^ x)).testBit z = true := by
    intro z
    unfold nxU
    rw [nxU_bit]
    simp only [Nat.zero_testBit, Bool.false_eq_true, false_or, List.mem_map]
    constructor
    · rintro ⟨_, ⟨r, hr, rfl⟩, h⟩
      have h' : (ruP s G r.ast x).testBit z = true := h
      rw [hru r hr] at h'
      by_cases hm : mayC r.cl (digs tops.length x) = true
      · rw [if_pos hm] at h'; exact ⟨r, hr, hm, h'⟩
      · rw [if_neg hm] at h'; simp at h'
    · rintro ⟨r, hr, hm, h⟩
      refine ⟨_, ⟨r, hr, rfl⟩, ?_⟩
      show (ruP s G r.ast x).testBit z = true
      rw [hru r hr, if_pos hm]; exact h
  unfold nxS
  by_cases h0 : nxU (rs.map (fun r => ruP s G r.ast)) x = 0
  · rw [if_pos h0, pow_bit]
    have hno : ∀ r ∈ rs, mayC r.cl (digs tops.length x) = false := by
      intro r hr
      cases hm : mayC r.cl (digs tops.length x) with
      | false => rfl
      | true =>
        obtain ⟨z, _, hz⟩ := ru_some h3 hG ht (ho r hr) hx
        have := (hU z).2 ⟨r, hr, hm, hz⟩
        rw [h0] at this
        simp at this
    constructor
    · rintro rfl
      exact ⟨hvx, .inr ⟨rfl, hno, rfl⟩⟩
    · rintro ⟨hvy, ⟨r, hr, hm, _⟩ | ⟨_, _, h⟩⟩
      · rw [hno r hr] at hm; cases hm
      · exact (txt_inj rfl h3 hx hy hvx hvy).1 h
  · rw [if_neg h0, hU y]
    have hsome : ∃ r ∈ rs, mayC r.cl (digs tops.length x) = true := by
      apply Classical.byContradiction
      intro hn
      apply h0
      apply Nat.eq_of_testBit_eq
      intro z
      have : ¬ (nxU (rs.map (fun r => ruP s G r.ast)) x).testBit z = true := fun h => by
        obtain ⟨r, hr, hm, _⟩ := (hU z).1 h
        exact hn ⟨r, hr, hm⟩
      simpa using this
    constructor
    · rintro ⟨r, hr, hm, h⟩
      obtain ⟨a, b⟩ := (rule_bit h3 hG (ho r hr) hx hy hvx).1 h
      exact ⟨a, .inl ⟨r, hr, hm, b⟩⟩
    · rintro ⟨hvy, ⟨r, hr, hm, h⟩ | ⟨_, h, _⟩⟩
      · exact ⟨r, hr, hm, (rule_bit h3 hG (ho r hr) hx hy hvx).2 ⟨hvy, h⟩⟩
      · obtain ⟨r, hr, hm⟩ := hsome
        rw [h r hr] at hm; cases hm
end Go.Proofs.YtgoebckimmofoaaDoor

/- What is so of a model that Check takes. Pure. Our own text. -/
namespace Go.Proofs.YtgoebckimmofoaaDoor

section
variable {s : ByteArray}
theorem qTerm_rng {q q' : Q} {a : Tm} (h : qTerm s q = (some a, q')) : 0 ≤ a.2.1 ∧ a.2.1 ≤ 3 ∧ 0 ≤ a.2.2 := by
  unfold qTerm at h
  split at h
  · simp at h; obtain ⟨rfl, _⟩ := h; exact ⟨by simp, by simp, by simp⟩
  · split at h
    · next n hn =>
      simp at h; obtain ⟨rfl, _⟩ := h
      have : n ≤ 3 := by
        cases q with
        | ok i => exact (num_le hn).2
        | error p => cases hn
      exact ⟨by simp, by simp; omega, by simp⟩
    · simp at h
/-- What a condition's ast is like, read of a text. -/
def PC (c : Tm × Tm) : Prop := (0 ≤ c.1.2.1 ∧ c.1.2.1 ≤ 3 ∧ 0 ≤ c.1.2.2) ∧ 0 ≤ c.2.2.1 ∧ c.2.2.1 ≤ 3 ∧ 0 ≤ c.2.2.2
def PD (s : ByteArray) (c : Chg) : Prop := 0 ≤ c.1 ∧ c.1 ≤ 2 ∧ 0 ≤ c.2.1 ∧ (0 ≤ c.2.2.2.2.1 ∧ c.2.2.2.2.1 ≤ 3 ∧ 0 ≤ c.2.2.2.2.2) ∧ 0 ≤ moreAt s c.2.2.1 c.2.2.2.2.2 ∧ moreAt s c.2.2.1 c.2.2.2.2.2 ≤ 3 ∧ (c.2.2.1 = true → c.2.2.2.1 = 0)
theorem qCond_rng {q q' : Q} {c : Tm × Tm} (h : qCond s q = (some c, q')) : PC c := by
  unfold qCond at h
  split at h
  · simp at h
  · next a q1 h1 =>
    split at h
    · split at h
      · simp at h
      · next b q2 h2 =>
        simp at h
        obtain ⟨rfl, _⟩ := h
        exact ⟨qTerm_rng h1, qTerm_rng h2⟩
    · simp at h
theorem qChange_rng {q q' : Q} {c : Chg} (h : qChange s q = (some c, q')) : PD s c := by
  unfold qChange at h
  split at h
  · simp at h
  · next k hk =>
    have hk2 : k ≤ 2 := by
      cases q with
      | ok i => exact (num_le hk).2
      | error p => cases hk
    split at h
    · simp at h
    · split at h
      · simp at h; obtain ⟨rfl, _⟩ := h
        exact ⟨by simp, by simp; omega, by simp, by simp, by simp [moreAt], by simp [moreAt], fun _ => rfl⟩
      · split at h
        · simp at h
        · next a q3 h4 =>
          split at h
          · next h5 =>
            simp at h; obtain ⟨rfl, _⟩ := h
            have hm := more_none h4 h5
            exact ⟨by simp, by simp; omega, by simp, qTerm_rng h4, by show 0 ≤ moreAt s false a.2.2; omega, by show moreAt s false a.2.2 ≤ 3; omega, fun h => by cases h⟩
          · next k5 h5 =>
            split at h
            · simp at h
            · next kd h6 =>
              simp at h; obtain ⟨rfl, _⟩ := h
              have hm := more_some h4 h5 h6
              have hd : kd ≤ 3 := by
                obtain ⟨i, rfl⟩ := qTerm_some h4
                exact (num_le h6).2
              exact ⟨by simp, by simp; omega, by simp, qTerm_rng h4, by show 0 ≤ moreAt s false a.2.2; omega, by show moreAt s false a.2.2 ≤ 3; omega, fun h => by cases h⟩
theorem qLoop1_all : ∀ (f : Nat) (b : Bool) (q : Q) (acc l : List (Tm × Tm)) (q' : Q), qLoop1 s f b q acc = (some l, q') → (∀ c ∈ acc, PC c) → ∀ c ∈ l, PC c
  | 0, false, q, acc, l, q', h, ha => by simp [qLoop1] at h; obtain ⟨rfl, _⟩ := h; exact ha
  | f + 1, false, q, acc, l, q', h, ha => by simp [qLoop1] at h; obtain ⟨rfl, _⟩ := h; exact ha
  | 0, true, q, acc, l, q', h, _ => by simp [qLoop1] at h
  | f + 1, true, q, acc, l, q', h, ha => by
    unfold qLoop1 at h
    split at h
    · simp at h
    · next c q1 hc =>
      have hc' := tied_snoc (p := PC) ha (qCond_rng hc)
      split at h
      · exact qLoop1_all f true _ _ l q' h hc'
      · exact qLoop1_all f false _ _ l q' h hc'
theorem qLoop2_all : ∀ (f : Nat) (b : Bool) (q : Q) (acc l : List Chg) (q' : Q), qLoop2 s f b q acc = (some l, q') → (∀ c ∈ acc, PD s c) → ∀ c ∈ l, PD s c
  | 0, false, q, acc, l, q', h, ha => by simp [qLoop2] at h; obtain ⟨rfl, _⟩ := h; exact ha
  | f + 1, false, q, acc, l, q', h, ha => by simp [qLoop2] at h; obtain ⟨rfl, _⟩ := h; exact ha
  | 0, true, q, acc, l, q', h, _ => by simp [qLoop2] at h
  | f + 1, true, q, acc, l, q', h, ha => by
    unfold qLoop2 at h
    split at h
    · simp at h
    · next c q1 hc =>
      have hc' := tied_snoc (p := PD s) ha (qChange_rng hc)
      split at h
      · exact qLoop2_all f true _ _ l q' h hc'
      · exact qLoop2_all f false _ _ l q' h hc'
theorem qRule_all {q q' : Q} {r : RA} (h : qRule s q = (some r, q')) : (∀ c ∈ r.1, PC c) ∧ ∀ c ∈ r.2, PD s c := by
  unfold qRule at h
  split at h
  · simp at h
  · next cs q1 h1 =>
    split at h
    · simp at h
    · split at h
      · simp at h
      · next ds q2 h2 =>
        simp at h; obtain ⟨rfl, _⟩ := h
        exact ⟨qLoop1_all _ _ _ _ _ _ h1 (by simp), qLoop2_all _ _ _ _ _ _ h2 (by simp)⟩
theorem qRules_all : ∀ (f i : Nat) (acc l : List RA) (q' : Q), qRules s f i acc = (some l, q') → (∀ r ∈ acc, (∀ c ∈ r.1, PC c) ∧ ∀ c ∈ r.2, PD s c) → ∀ r ∈ l, (∀ c ∈ r.1, PC c) ∧ ∀ c ∈ r.2, PD s c
  | 0, i, acc, l, q', h, _ => by simp [qRules] at h
  | f + 1, i, acc, l, q', h, ha => by
    unfold qRules at h
    split at h
    · split at h
      · simp at h
      · split at h
        · simp at h
        · split at h
          · simp at h
          · next r q1 hr => exact qRules_all f _ _ l q' h (tied_snoc (p := fun r : RA => (∀ c ∈ r.1, PC c) ∧ ∀ c ∈ r.2, PD s c) ha (qRule_all hr))
    · simp at h; obtain ⟨rfl, _⟩ := h; exact ha
def PV (v : VA) : Prop := 1 ≤ v.1 ∧ v.1 ≤ 3 ∧ ∀ x ∈ v.2.1, x ≤ 3
theorem qFirst_all : ∀ (f n j : Nat) (acc : List Nat), (∀ x ∈ acc, x ≤ 3) → ∀ x ∈ (qFirst s f n j acc).1, x ≤ 3
  | 0, _, _, _, ha => ha
  | f + 1, n, j, acc, ha => by
    unfold qFirst
    split
    · next v hv => exact qFirst_all f _ _ _ (tied_snoc (p := fun x => x ≤ 3) ha (num_le hv).2)
    · exact ha
theorem qVar_rng {k : Nat} {q q' : Q} {v : VA} (h : qVar s k q = (some v, q')) : PV v := by
  unfold qVar at h
  split at h
  · simp at h
  · next n j hb =>
    have h1 := qBet_le (s := s) (q := qMust s q (97 + k)) 49 2
    have h2 := qBet_le (s := s) (q := (qMust s (qBet s (qMust s q (97 + k)) 49 2).2 61)) 48 3
    rw [hb] at h2
    simp only [Prod.mk.injEq, Option.some.injEq] at h
    obtain ⟨rfl, _⟩ := h
    exact ⟨by simp, by show _ + 1 ≤ 3; omega, qFirst_all _ _ _ _ (by simp; exact h2)⟩
theorem qVars_all : ∀ (f : Nat) (q : Q) (acc l : List VA) (q' : Q), qVars s f q acc = (some l, q') → acc.length + f = 3 → (∀ v ∈ acc, PV v) → (∀ v ∈ l, PV v) ∧ l.length ≤ 3 ∧ (0 < f → 1 ≤ l.length) ∧ acc.length ≤ l.length
  | 0, q, acc, l, q', h, hl, ha => by simp [qVars] at h; obtain ⟨rfl, _⟩ := h; exact ⟨ha, by omega, by omega, Nat.le_refl _⟩
  | f + 1, q, acc, l, q', h, hl, ha => by
    unfold qVars at h
    split at h
    · simp at h
    · next v q1 hv =>
      have hc := tied_snoc (p := PV) ha (qVar_rng hv)
      split at h
      · split at h
        · obtain ⟨a, b, c, d⟩ := qVars_all f _ _ l q' h (by simp; omega) hc
          simp at d
          exact ⟨a, b, fun _ => by omega, by omega⟩
        · simp at h; obtain ⟨rfl, _⟩ := h; exact ⟨hc, by simp; omega, by simp, by simp⟩
      · simp at h; obtain ⟨rfl, _⟩ := h; exact ⟨hc, by simp; omega, by simp, by simp⟩
theorem qRead_all {va : List VA} {ra : List RA} {q' : Q} (h : qRead s = (some (va, ra), q')) : (∀ v ∈ va, PV v) ∧ 1 ≤ va.length ∧ va.length ≤ 3 ∧ ∀ r ∈ ra, (∀ c ∈ r.1, PC c) ∧ ∀ c ∈ r.2, PD s c := by
  unfold qRead at h
  split at h
  · simp at h
  · next vs q hv =>
    split at h
    · simp at h
    · next rs q2 hr =>
      simp at h; obtain ⟨⟨rfl, rfl⟩, _⟩ := h
      obtain ⟨a, b, c, _⟩ := qVars_all 3 _ _ _ _ hv rfl (by simp)
      exact ⟨a, c (by omega), b, qRules_all _ _ _ _ _ hr (by simp)⟩
end
theorem fb_none {top at_ : Nat} : ∀ {l : List Nat} {k : Nat}, fb top at_ l k = none → ∀ x ∈ l, x ≤ top
  | [], _, _ => by simp
  | y :: l, k, h => by
    unfold fb at h
    split at h
    · cases h
    · intro x hx
      rcases List.mem_cons.1 hx with rfl | hx
      · omega
      · exact fb_none h x hx
theorem fb_code {top at_ : Nat} : ∀ {l : List Nat} {k : Nat} {y : Nat × Int}, fb top at_ l k = some y → y.1 ≠ 0
  | [], _, _, h => by cases h
  | x :: l, k, y, h => by
    unfold fb at h
    split at h
    · simp at h; subst h; simp
    · exact fb_code h
theorem wv_none : ∀ {l : List VA}, wv l = none → ∀ v ∈ l, ∀ x ∈ v.2.1, x ≤ v.1
  | [], _ => by simp
  | u :: l, h => by
    unfold wv at h
    split at h
    · cases h
    · next hf =>
      intro v hv
      rcases List.mem_cons.1 hv with rfl | hv
      · exact fb_none hf
      · exact wv_none h v hv
theorem wv_code : ∀ {l : List VA} {y : Nat × Int}, wv l = some y → y.1 ≠ 0
  | [], _, h => by cases h
  | u :: l, y, h => by
    unfold wv at h
    split at h
    · next x hx => cases h; exact fb_code hx
    · exact wv_code h
theorem wc_none {n : Nat} : ∀ {l : List (Tm × Tm)}, (∀ c ∈ l, PC c) → wc n l = none → ∀ c ∈ l, c.1.1 < (n : Int) ∧ c.2.1 < (n : Int)
  | [], _, _ => by simp
  | u :: l, hp, h => by
    unfold wc at h
    split at h
    · cases h
    · next hu =>
      intro c hc
      rcases List.mem_cons.1 hc with rfl | hc
      · have h1 := hp c (by simp)
        unfold unnamed at hu
        split at hu
        · exact absurd h1.1.2.2 hu
        · split at hu
          · exact absurd h1.2.2.2 hu
          · omega
      · exact wc_none (fun d hd => hp d (by simp [hd])) h c hc
theorem wc_code {n : Nat} : ∀ {l : List (Tm × Tm)} {y : Nat × Int}, wc n l = some y → y.1 ≠ 0
  | [], _, h => by cases h
  | u :: l, y, h => by
    unfold wc at h
    split at h
    · cases h; simp
    · exact wc_code h
theorem wd_none {n : Nat} : ∀ {l pre : List Chg}, wd n pre l = none → (∀ c ∈ l, c.1 < (n : Int) ∧ (c.2.2.1 = false → c.2.2.2.1 < (n : Int)) ∧ ∀ d ∈ pre, d.1 ≠ c.1) ∧ (l.map Prod.fst).Nodup
  | [], _, _ => by simp
  | u :: l, pre, h => by
    unfold wd at h
    split at h
    · next hu =>
      obtain ⟨a, b⟩ := wd_none h
      have h1 : ¬ (n : Int) ≤ u.1 ∧ pre.any (fun d => decide (d.1 = u.1)) = false ∧ ¬ (u.2.2.1 = false ∧ (n : Int) ≤ u.2.2.2.1) := by
        unfold twiceP at hu
        split at hu
        · simp at hu
        · next g1 =>
          split at hu
          · simp at hu
          · next g2 =>
            split at hu
            · simp at hu
            · next g3 => exact ⟨g1, Bool.eq_false_iff.2 g2, g3⟩
      have h2 : ∀ d ∈ pre, d.1 ≠ u.1 := by
        intro d hd e
        have := h1.2.1
        rw [List.any_eq_false] at this
        exact this d hd (by simpa using e)
      refine ⟨fun c hc => ?_, ?_⟩
      · rcases List.mem_cons.1 hc with rfl | hc
        · exact ⟨by omega, fun hf => by have := h1.2.2; simp [hf] at this; omega, h2⟩
        · obtain ⟨a1, a2, a3⟩ := a c hc
          exact ⟨a1, a2, fun d hd => a3 d (by simp [hd])⟩
      · rw [List.map_cons, List.nodup_cons]
        refine ⟨fun hm => ?_, b⟩
        obtain ⟨c, hc, e⟩ := List.mem_map.1 hm
        exact (a c hc).2.2 u (by simp) e.symm
    · cases h
theorem wd_code {n : Nat} : ∀ {l pre : List Chg} {y : Nat × Int}, wd n pre l = some y → y.1 ≠ 0
  | [], _, _, h => by cases h
  | u :: l, pre, y, h => by
    unfold wd at h
    split at h
    · exact wd_code h
    · next hu => cases h; exact hu
theorem wr_none {n : Nat} : ∀ {l : List RA}, wr n l = none → ∀ r ∈ l, wc n r.1 = none ∧ wd n [] r.2 = none
  | [], _ => by simp
  | u :: l, h => by
    unfold wr at h
    split at h
    · cases h
    · next h1 =>
      split at h
      · cases h
      · next h2 =>
        intro r hr
        rcases List.mem_cons.1 hr with rfl | hr
        · exact ⟨h1, h2⟩
        · exact wr_none h r hr
theorem wr_code {n : Nat} : ∀ {l : List RA} {y : Nat × Int}, wr n l = some y → y.1 ≠ 0
  | [], _, h => by cases h
  | u :: l, y, h => by
    unfold wr at h
    split at h
    · next x hx => cases h; exact wc_code hx
    · split at h
      · next x hx => cases h; exact wd_code hx
      · exact wr_code h
theorem wrong_none {vs : List VA} {rs : List RA} (h : (wrongP vs rs).1 = 0) : wv vs = none ∧ wr vs.length rs = none := by
  unfold wrongP at h
  cases h1 : wv vs with
  | some x => rw [h1] at h; exact absurd h (wv_code h1)
  | none =>
    rw [h1] at h
    cases h2 : wr vs.length rs with
    | some x => rw [h2] at h; exact absurd h (wr_code h2)
    | none => exact ⟨rfl, rfl⟩
/-- All that is so of a good model. -/
theorem good_model {s : ByteArray} {vs : List V3} {rs : List R2} {q' : Q} (h : qRead s = (some (vs.map V3.ast, rs.map R2.ast), q')) (hw : (wrongP (vs.map V3.ast) (rs.map R2.ast)).1 = 0) (ht : ∀ r ∈ rs, R2.Tied s r) :
    1 ≤ vs.length ∧ vs.length ≤ 3 ∧ (∀ v ∈ vs, (1 ≤ v.top ∧ v.top ≤ 3) ∧ ∀ x ∈ v.l, x ≤ v.top) ∧ ∀ r ∈ rs, RuleOk s vs.length r := by
  obtain ⟨a, b, c, d⟩ := qRead_all h
  obtain ⟨e, f⟩ := wrong_none hw
  rw [List.length_map] at b c f
  refine ⟨b, c, fun v hv => ?_, fun r hr => ?_⟩
  · have h1 := a v.ast (List.mem_map_of_mem hv)
    have h2 := wv_none e v.ast (List.mem_map_of_mem hv)
    exact ⟨⟨h1.1, h1.2.1⟩, h2⟩
  · obtain ⟨d1, d2⟩ := d r.ast (List.mem_map_of_mem hr)
    obtain ⟨f1, f2⟩ := wr_none f r.ast (List.mem_map_of_mem hr)
    have g1 := wc_none d1 f1
    obtain ⟨g2, g3⟩ := wd_none f2
    refine ⟨ht r hr, fun c hc => ?_, fun c hc => ?_, ?_⟩
    · have hm : c.ast ∈ r.ast.1 := List.mem_map_of_mem hc
      have k1 := d1 _ hm
      have k2 := g1 _ hm
      exact ⟨⟨k2.1, k1.1.1, k1.1.2.1⟩, ⟨k2.2, k1.2.1, k1.2.2.1⟩⟩
    · have hm : c.ast ∈ r.ast.2 := List.mem_map_of_mem hc
      have k1 := d2 _ hm
      have k2 := g2 _ hm
      have ht' : c.more = moreAt s c.any c.t2 := (ht r hr).2 c hc
      have m1 : 0 ≤ moreAt s c.any c.t2 := k1.2.2.2.2.1
      have m2 : moreAt s c.any c.t2 ≤ 3 := k1.2.2.2.2.2.1
      refine ⟨k1.1, k2.1, ⟨?_, k1.2.2.2.1.1, k1.2.2.2.1.2.1⟩, by rw [ht']; exact m1, by rw [ht']; exact m2⟩
      cases hany : c.any with
      | false => exact k2.2.1 hany
      | true =>
        have : c.t0 = 0 := k1.2.2.2.2.2.2 hany
        show c.t0 < (vs.length : Int)
        omega
    · have : r.ast.2.map Prod.fst = r.dl.map D7.v := by simp [R2.ast, D7.ast, Function.comp_def]
      rw [← this]; exact g3
end Go.Proofs.YtgoebckimmofoaaDoor

/- The reference's list of next states. Our own text. -/
namespace Go.Proofs.YtgoebckimmofoaaDoor
open Go.RowKit

section
variable {w : World}
end
end Go.Proofs.YtgoebckimmofoaaDoor

/- A state's number from its text. Our own text. -/
namespace Go.Proofs.YtgoebckimmofoaaDoor
open Go.RowKit Go.Lib

/-- The text is a state's, of n variables with these greatest values. -/
def OkS (s : ByteArray) (n : Nat) (g : Nat → Nat) : Prop := s.size = n ∧ ∀ k (h : k < s.size), 48 ≤ s[k].toNat ∧ s[k].toNat ≤ 48 + g k
/-- The state's number that it is the text of. -/
def IsS (s : ByteArray) (n : Nat) (g : Nat → Nat) (x : Nat) : Prop := x < 64 ∧ s.size = n ∧ (∀ k (h : k < s.size), s[k].toNat = 48 + dig x k ∧ dig x k ≤ g k) ∧ ∀ k, n ≤ k → k < 3 → dig x k = 0

set_option maxRecDepth 100000 in
set_option maxHeartbeats 1000000 in
theorem state_any (B n : Nat) (g f : Nat → Nat) (hn : n ≤ 3) (hg : ∀ k, g k ≤ 3) (s : ByteArray) (_hs : s.size ≤ maxLen) (w : World) (hm : MC B g f n w) (hB : B < w.heap.size) :
    Calls Tryd.prog 28 #[.pointer (some ⟨B, 0, none⟩), .string s] w fun e w' => ((∃ x, IsS s n g x ∧ e = .returned (.tuple #[.int .u8 (x : Nat), .bool true])) ∨ (¬ OkS s n g ∧ ∃ y : Value, e = .returned (.tuple #[y, .bool false]))) ∧ Below w.heap.size w w' := by
  have hc := hm.2
  by_cases hsz : s.size = n
  · have h1 : ((s.size : Int) == (n : Int)) = true := by simp; omega
    have n0 : (0 : Int) ≤ (n : Int) := by omega
    have n3 : (n : Int) ≤ 3 := by omega
    go_enter Tryd.func28, Tryd.ntmps28
    go_wp2_with fail
    go_quiet (fail)
    go_wp2_with fail
    go_loopg [6, 27] n (fun gk sv iv wr => ∃ (i a : Nat), iv = .int .i64 i ∧ sv = .int .u8 (a : Nat) ∧ i + gk = n ∧ Below w.heap.size w wr ∧ a < 64 ∧ (∀ k (h : k < s.size), k < i → s[k].toNat = 48 + dig a k ∧ dig a k ≤ g k) ∧ ∀ k, i ≤ k → k < 3 → dig a k = 0)
    case atStart => exact ⟨0, 0, rfl, rfl, by omega, below_drewN (Below.refl _ _) _, by omega, fun k _ h => by omega, fun k _ _ => dig_zero k⟩
    case round =>
      obtain ⟨i, a, rfl, rfl, hik, hBr, ha, hpre, hpost⟩ := hrel
      have HPRE : Put (_) := ⟨hpre⟩
      have HPOST : Put (_) := ⟨hpost⟩
      clear hpre hpost
      by_cases hlt : i < n
      · have hlt' : (i : Int) < (n : Int) := by omega
        have i0 : (0 : Int) ≤ (i : Int) := by omega
        obtain ⟨g', rfl⟩ : ∃ g', gk = g' + 1 := ⟨gk - 1, by omega⟩
        obtain ⟨c1, c2⟩ := (hm.below hBr hB).1 i (by omega)
        have hgi := hg i
        have hsr := hBr.size
        have his : i < s.size := by omega
        have his' : (i : Int) < (s.size : Int) := by omega
        obtain ⟨b, hb⟩ : ∃ b : Nat, s[i].toNat = b := ⟨_, rfl⟩
        have hb255 : b < 256 := by rw [← hb]; exact s[i].toNat_lt
        by_cases hok : 48 ≤ b ∧ b ≤ 48 + g i
        · have k1 : ¬ ((b : Int) - 48 < 0) := by omega
          have k2 : ¬ ((g i : Int) < (b : Int) - 48) := by omega
          go_wp2_with fail
          have hBa := hBr.alloc hsr (.cells #[.int .i64 (g i), .int .u8 (f i)] 70)
          obtain ⟨v, rfl⟩ : ∃ v, b = 48 + v := ⟨b - 48, by omega⟩
          have ev : ((48 + v : Nat) : Int) - 48 = (v : Int) := by omega
          have hv4 : v < 4 := by omega
          have hcall := with_any a i v ha (by omega) hv4 (wr.alloc (.cells #[.int .i64 (g i), .int .u8 (f i)] 70))
          rw [← ev] at hcall
          refine hcall.mono ?_
          rintro e w2 ⟨rfl, mq, rfl⟩
          have hB2 : Below w.heap.size w ((wr.alloc (.cells #[.int .i64 (g i), .int .u8 (f i)] 70)).drewN mq) := below_drewN hBa mq
          have ha2 : stW a i v < 64 := stW_lt ha (by omega) hv4
          have HD : Put (∀ j, j < 3 → dig (stW a i v) j = if j = i then v else dig a j) := ⟨fun j hj => dig_stW ha (by omega) hv4 hj⟩
          generalize stW a i v = a2 at ha2 HD
          clear hcall
          generalize (wr.alloc (.cells #[.int .i64 (g i), .int .u8 (f i)] 70)).drewN mq = w2 at *
          clear c1 c2 hBa hBr
          go_wp2
          go_roundg g'
          case measure => exact Nat.lt_succ_self _
          case rel =>
            refine ⟨i + 1, a2, by go_num, rfl, by omega, hB2, ha2, fun k h hk => ?_, fun k h hk => ?_⟩
            · rw [HD.out k (by omega)]
              by_cases e : k = i
              · subst e; rw [if_pos rfl]; exact ⟨hb, by omega⟩
              · rw [if_neg e]; exact HPRE.out k h (by omega)
            · rw [HD.out k hk, if_neg (by omega)]; exact HPOST.out k (by omega) hk
        · have HNO : Put (¬ OkS s n g) := ⟨fun h => hok (by have := h.2 i his; rw [hb] at this; exact this)⟩
          by_cases hb48 : b < 48
          · have k1 : ((b : Int) - 48 < 0) := by omega
            go_wp2
            go_ret2
            exact ⟨.inr ⟨HNO.out, _, rfl⟩, hBr.alloc hsr _⟩
          · have k1 : ¬ ((b : Int) - 48 < 0) := by omega
            have k2 : ((g i : Int) < (b : Int) - 48) := by omega
            go_wp2
            go_ret2
            exact ⟨.inr ⟨HNO.out, _, rfl⟩, hBr.alloc hsr _⟩
      · obtain rfl : i = n := by omega
        have hlt' : ¬ ((i : Int) < (i : Int)) := by omega
        go_wp2
        go_ret2
        exact ⟨.inl ⟨a, ⟨ha, hsz, fun k h => HPRE.out k h (by omega), HPOST.out⟩, rfl⟩, hBr⟩
  · have h1 : ((s.size : Int) == (n : Int)) = false := by simp; omega
    go_enter Tryd.func28, Tryd.ntmps28
    go_wp2
    go_ret2
    exact ⟨.inr ⟨fun h => hsz h.1, _, rfl⟩, Below.refl _ _⟩
end Go.Proofs.YtgoebckimmofoaaDoor

/- The reference: whether a text is a state's. Our own text. -/
namespace Go.Proofs.YtgoebckimmofoaaDoor
open Go.RowKit

/-- The same, of the reference's variables. -/
def okT (s : ByteArray) (tops : List Nat) : Prop := s.size = tops.length ∧ ∀ k (h : k < s.size) (h' : k < tops.length), 48 ≤ s[k].toNat ∧ s[k].toNat ≤ 48 + tops[k]

section
variable {w : World}
set_option maxRecDepth 100000 in
set_option maxHeartbeats 1600000 in
theorem rstate_any (ao aor : Option Addr) (cap nr capr base : Nat) (vs : List V3) (s : ByteArray) (h3 : vs.length ≤ 3) (hs : s.size ≤ maxLen)
    (hv : w.ownsRow base 88 3 (.slice ao vs.length cap) vs.length (vs.flatMap V3.cells)) :
    Calls Tryd.prog 39 #[.agg #[.slice ao vs.length cap, .slice aor nr capr], .string s] w fun e w' => (∃ (y : Value) (b : Bool), e = .returned (.tuple #[y, .bool b]) ∧ (b = true ↔ okT s (vs.map V3.top))) ∧ Below w.heap.size w w' := by
  have hA := heap_alloc_new w (.cells #[.slice ao vs.length cap, .slice aor nr capr] 48)
  have hBel : Below w.heap.size w (w.alloc (.cells #[.slice ao vs.length cap, .slice aor nr capr] 48)) := (Below.refl _ _).alloc (Nat.le_refl _) _
  have hsw : (w.alloc (.cells #[.slice ao vs.length cap, .slice aor nr capr] 48)).heap.size = w.heap.size + 1 := by simp
  obtain ⟨n0, n1, nf⟩ := cell2 hA
  have HV : Put (w.ownsRow base 88 3 (.slice ao vs.length cap) vs.length (vs.flatMap V3.cells)) := ⟨hv⟩
  obtain ⟨i0, hi, hz0, hz1, hz2⟩ := info_parts Tryd.info3
  clear hv hA nf n1
  by_cases hsz : s.size = vs.length
  · have h1 : ((s.size : Int) == (vs.length : Int)) = true := by simp; omega
    go_enter Tryd.func39, Tryd.ntmps39
    go_wp2_with fail
    generalize w.alloc (.cells #[.slice ao vs.length cap, .slice aor nr capr] 48) = w1 at *
    go_loopg [6, 7] s.size (fun gk lv iv wr => ∃ (i : Nat), iv = .int .i64 i ∧ i + gk = s.size ∧ (∃ xs : List Value, xs.length = i ∧ wr.ownsRow w1.heap.size 3 1 lv i xs) ∧ Below w1.heap.size w1 wr ∧ ∀ k (h : k < s.size) (h' : k < (vs.map V3.top).length), k < i → 48 ≤ s[k].toNat ∧ s[k].toNat ≤ 48 + (vs.map V3.top)[k])
    case atStart => exact ⟨0, rfl, by omega, ⟨[], rfl, World.ownsRow_nil _ _ _ _⟩, Below.refl _ _, fun k _ _ h => by omega⟩
    case round =>
      obtain ⟨i, rfl, hik, ⟨xs, hxl, hrow⟩, hBr, hpre⟩ := hrel
      have HPRE : Put (_) := ⟨hpre⟩
      clear hpre
      have c0 := (hBr.cell (p := ⟨w.heap.size, 0, none⟩) (by show w.heap.size < w1.heap.size; omega)).trans n0
      have hsr := hBr.size
      have hBw : Below w.heap.size w wr := hBel.trans (hBr.mono (by omega))
      by_cases hlt : i < s.size
      · have hlt' : (i : Int) < (s.size : Int) := by omega
        have i0' : (0 : Int) ≤ (i : Int) := by omega
        have hiv : i < vs.length := by omega
        have hiv' : (i : Int) < (vs.length : Int) := by omega
        obtain ⟨g', rfl⟩ : ∃ g', gk = g' + 1 := ⟨gk - 1, by omega⟩
        obtain ⟨gv, rfl, hgv1, hgv2, hgv3, hcv⟩ := row_at V3.len HV.out (by omega)
        have v0 := (hBw.cell (p := ⟨gv, i * 3 + 0, none⟩) hgv2).trans (hcv i hiv 0 (by omega))
        simp only [V3.cells, V3.vf, List.getElem?_cons_zero, Nat.add_zero] at v0
        obtain ⟨b, hb⟩ : ∃ b : Nat, s[i].toNat = b := ⟨_, rfl⟩
        have hb255 : b < 256 := by rw [← hb]; exact s[i].toNat_lt
        have HTP : Put (∀ h : i < (vs.map V3.top).length, (vs.map V3.top)[i] = vs[i].top) := ⟨fun h => by simp⟩
        generalize vs[i].top = tp at v0 HTP
        clear hcv
        by_cases hok : 48 ≤ b ∧ b ≤ 48 + tp
        · have k1 : ¬ ((b : Int) < 48) := by omega
          have k2 : ¬ ((tp : Int) < (b : Int) - 48) := by omega
          have hd1 : decide ((b : Int) < 48) = false := by simp; omega
          have hd2 : decide ((tp : Int) < (b : Int) - 48) = false := by simp; omega
          have hw64 : IntKind.i64.wrap ((b : Int) - 48) = (b : Int) - 48 := by simp [IntKind.wrap, IntKind.signed, IntKind.bits]; omega
          have hw8 : IntKind.u8.wrap ((b : Int) - 48) = (b : Int) - 48 := by simp [IntKind.wrap, IntKind.signed, IntKind.bits]; omega
          go_wp2_with fail
          go_quiet (fail)
          have hoN : (wr.drewN nq).ownsRow w1.heap.size 3 1 u6 i xs := hrow
          have hBN : Below w1.heap.size w1 (wr.drewN nq) := below_drewN hBr nq
          generalize wr.drewN nq = wz at *
          have hsz' := hBN.size
          clear v0 c0 hBr hBw hrow
          go_wp2_with (at_builtin; refine wpList_append_own _ rfl _ _ 86 rfl w1.heap.size 3 i0 _ 1 8 Tryd.underlying86 hi hz0 hz1 hz2 rfl Nat.one_pos u6 i xs rfl (hoN.alloc _) ⟨wz.heap.size, 0, none⟩ 1 1 [.int .i64 ((b : Int) - 48)] rfl rfl (cell_one_new _ _ _) (by simp [Value.oneCell']) (by omega) (by omega) (by simp; omega) ?_)
          intro v' w5 hown' hgrow _
          obtain ⟨g5, cap5, rfl⟩ := ownsRow_succ hown'
          have hB5 : Below w1.heap.size w1 w5 := (hBN.alloc hsz' _).grown hgrow (by simp; omega) (fun k e => (hoN.lt k e).1)
          have HR5 : Put (_) := ⟨hown'⟩
          clear hown' hgrow hoN hBN
          go_wp2
          go_roundg g'
          case measure => exact Nat.lt_succ_self _
          case rel =>
            refine ⟨i + 1, by go_num, by omega, ⟨xs ++ [.int .i64 ((b : Int) - 48)], by simp [hxl], by rw [hsw]; exact HR5.out⟩, hB5, fun k h h' hk => ?_⟩
            by_cases e : k = i
            · subst e; rw [hb, HTP.out h']; exact hok
            · exact HPRE.out k h h' (by omega)
        · have HNO : Put (¬ okT s (vs.map V3.top)) := ⟨fun h => hok (by have := h.2 i hlt (by simpa using hiv); rw [hb, HTP.out] at this; exact this)⟩
          have hF : (false = true ↔ okT s (vs.map V3.top)) := by simpa using HNO.out
          have HF : Put (_) := ⟨hF⟩
          clear hF
          by_cases hb48 : b < 48
          · have k1 : ((b : Int) < 48) := by omega
            have hd1 : decide ((b : Int) < 48) = true := by simp; omega
            go_wp2_with fail
            go_quiet (fail)
            go_wp2
            go_ret2
            exact ⟨⟨_, false, rfl, HF.out⟩, below_drewN hBw _⟩
          · have k1 : ¬ ((b : Int) < 48) := by omega
            have k2 : ((tp : Int) < (b : Int) - 48) := by omega
            have hd1 : decide ((b : Int) < 48) = false := by simp; omega
            have hd2 : decide ((tp : Int) < (b : Int) - 48) = true := by simp; omega
            have hw64 : IntKind.i64.wrap ((b : Int) - 48) = (b : Int) - 48 := by simp [IntKind.wrap, IntKind.signed, IntKind.bits]; omega
            have hw8 : IntKind.u8.wrap ((b : Int) - 48) = (b : Int) - 48 := by simp [IntKind.wrap, IntKind.signed, IntKind.bits]; omega
            go_wp2_with fail
            go_quiet (fail)
            go_wp2
            go_ret2
            exact ⟨⟨_, false, rfl, HF.out⟩, below_drewN hBw _⟩
      · obtain rfl : i = s.size := by omega
        have hlt' : ¬ ((s.size : Int) < (s.size : Int)) := by omega
        have HF : Put (true = true ↔ okT s (vs.map V3.top)) := ⟨⟨fun _ => ⟨by simpa using hsz, fun k h h' => HPRE.out k h h' h⟩, fun _ => rfl⟩⟩
        obtain ⟨aol, capl, rfl⟩ := owned_slice' hrow
        go_wp2
        go_ret2
        first
          | exact ⟨⟨_, true, rfl, HF.out⟩, hBw⟩
          | exact ⟨⟨_, .inr ⟨rfl, by simpa using HF.out⟩⟩, hBw⟩
  · have h1 : ((s.size : Int) == (vs.length : Int)) = false := by simp; omega
    go_enter Tryd.func39, Tryd.ntmps39
    go_wp2
    go_ret2
    refine ⟨⟨_, false, rfl, ?_⟩, hBel⟩
    simp only [Bool.false_eq_true, false_iff]
    exact fun h => hsz (by simpa using h.1)
end
end Go.Proofs.YtgoebckimmofoaaDoor

/- The reference's Check, First and Next, walked. Our own text. -/
namespace Go.Proofs.YtgoebckimmofoaaDoor
open Go.RowKit

def rCheck (s : ByteArray) : Nat × Int := if 120 < s.size then (1, 0) else match qRead s with
  | (none, q) => (2, (q.pos : Int))
  | (some x, _) => wrongP x.1 x.2
theorem rCheck_ok {s : ByteArray} (h : (rCheck s).1 = 0) : s.size ≤ 120 ∧ ∃ va ra q, qRead s = (some (va, ra), q) ∧ (wrongP va ra).1 = 0 := by
  unfold rCheck at h
  split at h
  · simp at h
  · next hs =>
    split at h
    · simp at h
    · next x q hq => exact ⟨by omega, x.1, x.2, q, hq, h⟩

set_option maxRecDepth 100000 in
set_option maxHeartbeats 1600000 in
theorem rcheck_any (s : ByteArray) (w : World) (_hs : s.size ≤ maxLen) :
    Calls Tryd.prog 7 #[.string s] w fun e w' => e = .returned (.tuple #[.int .i64 ((rCheck s).1 : Nat), .int .i64 (rCheck s).2]) ∧ Below w.heap.size w w' := by
  by_cases h : 120 < s.size
  · have hr : rCheck s = (1, 0) := by unfold rCheck; rw [if_pos h]
    rw [hr]
    have h' : (120 : Int) < s.size := by omega
    clear hr
    go_enter Tryd.func7, Tryd.ntmps7
    go_wp2
    go_ret2
    exact ⟨rfl, Below.refl _ _⟩
  · have hle : s.size ≤ 120 := by omega
    have h' : ¬ (120 : Int) < s.size := by omega
    obtain ⟨P, hP⟩ : ∃ P, rCheck s = P := ⟨_, rfl⟩
    obtain ⟨r, q', hq⟩ : ∃ r q', qRead s = (r, q') := ⟨_, _, rfl⟩
    have HN : Put (∀ p, r = none → q' = .error p → P = (2, (p : Int))) := ⟨fun p h1 h2 => by
      subst h1 h2; rw [← hP]; unfold rCheck; rw [if_neg h, hq]; rfl⟩
    have HS : Put (∀ x, r = some x → P = wrongP x.1 x.2) := ⟨fun x h1 => by
      subst h1; rw [← hP]; unfold rCheck; rw [if_neg h, hq]⟩
    rw [hP]
    clear hP h
    go_enter Tryd.func7, Tryd.ntmps7
    go_wp2_with fail
    refine (rread_any hle hq).mono ?_
    rintro e w1 ⟨⟨ao, aor, cap, capr, vs, rs, bad, rfl, hv, hrr, hOv, hOr, h3, h8, hfin⟩, hb1⟩
    rcases hfin with ⟨p, h1, h2, rfl⟩ | ⟨h1, rfl, _⟩
    · have hP := HN.out p h1 h2
      subst hP
      have h0 : ¬ ((p : Int) < 0) := by omega
      have h0' : (0 : Int) ≤ (p : Int) := by omega
      clear hv hrr hOv hOr hq HN HS
      go_wp2
      go_ret2
      exact ⟨rfl, hb1.alloc hb1.size _⟩
    · have hP := HS.out _ h1
      subst hP
      clear HN HS hq
      have hl : Below w1.heap.size w1 (w1.alloc (Obj.cells #[Value.slice ao vs.length cap, Value.slice aor rs.length capr] 48)) := (Below.refl _ _).alloc (Nat.le_refl _) _
      have HV : Put _ := ⟨hl.ownsRow' hv⟩
      have HRR : Put _ := ⟨hl.ownsRow' hrr⟩
      have HOV : Put (∀ v ∈ vs, V3.Ok (w1.alloc (Obj.cells #[Value.slice ao vs.length cap, Value.slice aor rs.length capr] 48)) w.heap.size v) := ⟨fun v h => ⟨hl.ownsRow' (hOv v h).1, (hOv v h).2⟩⟩
      have HOR : Put (∀ x ∈ rs, R2.Ok (w1.alloc (Obj.cells #[Value.slice ao vs.length cap, Value.slice aor rs.length capr] 48)) w.heap.size x) := ⟨fun x h => ⟨hl.ownsRow' (hOr x h).1, hl.ownsRow' (hOr x h).2⟩⟩
      have HB : Put (Below w.heap.size w w1) := ⟨hb1⟩
      have hsz := hb1.size
      have HL : Put (Below w1.heap.size w1 (w1.alloc (Obj.cells #[Value.slice ao vs.length cap, Value.slice aor rs.length capr] 48))) := ⟨hl⟩
      clear hv hrr hOv hOr hb1 hl
      go_wp2_with fail
      refine (wrong_any ao aor cap capr w.heap.size vs rs (by simp; omega) h3 h8 HV.out HRR.out HOV.out HOR.out).mono ?_
      rintro e w2 ⟨rfl, hb2⟩
      go_wp2
      go_ret2
      exact ⟨rfl, (HB.out.trans (HL.out.mono hsz)).trans (hb2.mono (by simp; omega))⟩

/-- What First answers, of the text alone. -/
def refF (s : ByteArray) : List (List Nat) := match qRead s with
  | (some (va, _), _) => (allL (va.map (fun v => v.1))).filter (isFP (va.map (fun v => v.2.1)))
  | _ => []
/-- A state's text is the text of its digits. -/
theorem okT_txt {s : ByteArray} {tops : List Nat} (h : okT s tops) : ∃ d : List Nat, s = txtL d ∧ d.length = tops.length ∧ ∀ k (h1 : k < d.length) (h2 : k < tops.length), d[k] ≤ tops[k] := by
  obtain ⟨h1, h2⟩ := h
  refine ⟨s.data.toList.map (fun b => b.toNat - 48), ?_, by rw [List.length_map, Array.length_toList]; exact h1, fun k hk1 hk2 => ?_⟩
  · cases s with
    | mk data =>
      unfold txtL
      congr 1
      rw [List.map_map]
      apply Array.ext'
      simp only
      symm
      refine (List.map_congr_left (fun b hb => ?_)).trans (List.map_id' _)
      obtain ⟨k, hk, rfl⟩ := List.mem_iff_getElem.1 hb
      have hk' : k < data.size := by simpa using hk
      have := h2 k hk' (by have : data.size = tops.length := h1; omega)
      have h3 : 48 ≤ data[k].toNat := this.1
      simp only [Function.comp, Array.getElem_toList]
      have e : 48 + (data[k].toNat - 48) = data[k].toNat := by omega
      rw [e]; simp
  · have hk' : k < s.size := by
      have hk3 := hk1
      rw [List.length_map, Array.length_toList] at hk3
      exact hk3
    have := h2 k hk' hk2
    simp only [List.getElem_map, Array.getElem_toList]
    have h3 : s.data[k].toNat ≤ 48 + tops[k] := this.2
    omega
end Go.Proofs.YtgoebckimmofoaaDoor
