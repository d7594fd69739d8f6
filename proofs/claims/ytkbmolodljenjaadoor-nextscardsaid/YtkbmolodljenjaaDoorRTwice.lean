/- What is wrong with a change, with a condition. Our own text. -/
import Derived.Test.YtkbmolodljenjaaDoorRRead
import Derived.Deep.RegionHeld3
namespace Go.Proofs.YtkbmolodljenjaaDoor
open Go.RowKit

theorem flat_get {α : Type} (f : α → List Value) (z : Nat) (hf : ∀ a, (f a).length = z) : ∀ (l : List α) (k j : Nat) (hk : k < l.length), j < z → (l.flatMap f)[k * z + j]? = (f (l[k]))[j]?
  | [], k, j, hk, _ => by simp at hk
  | a :: l, 0, j, _, hj => by
    rw [List.flatMap_cons, Nat.zero_mul, Nat.zero_add, List.getElem?_append_left (by rw [hf]; exact hj)]
    rfl
  | a :: l, k + 1, j, hk, hj => by
    have ih := flat_get f z hf l k j (by simpa using hk) hj
    rw [List.flatMap_cons, List.getElem?_append_right (by rw [hf, Nat.succ_mul]; omega), hf]
    have e : (k + 1) * z + j - z = k * z + j := by rw [Nat.succ_mul]; omega
    rw [e, ih]
    rfl
theorem row_at {α : Type} {w : World} {base e z : Nat} {ao : Option Addr} {cap : Nat} {l : List α} {f : α → List Value} (hf : ∀ a, (f a).length = z) (h : w.ownsRow base e z (.slice ao l.length cap) l.length (l.flatMap f)) (hl : 0 < l.length) :
    ∃ g, ao = some ⟨g, 0, none⟩ ∧ base ≤ g ∧ g < w.heap.size ∧ l.length ≤ cap ∧ ∀ k (hk : k < l.length) j, j < z → w.cell? ⟨g, k * z + j, none⟩ = (f (l[k]))[j]? := by
  rcases h.2 with ⟨_, h0⟩ | ⟨g, cap', cur, hv, hb, hg, hc, _⟩
  · omega
  · cases hv
    refine ⟨g, rfl, hb, lt_of_block hg, hc, ?_⟩
    intro k hk j hj
    have hx := flat_get f z hf l k j hk hj
    have hlen : j < (f (l[k])).length := by rw [hf]; exact hj
    rw [List.getElem?_eq_getElem hlen]
    rw [List.getElem?_eq_getElem hlen] at hx
    have hc := h.cells (g := g) rfl (k * z + j) _ hx
    have hadd : (⟨g, 0, none⟩ : Addr).add (k * z + j) = ⟨g, k * z + j, none⟩ := by unfold Addr.add; split <;> simp_all
    rw [hadd] at hc
    exact hc
def unnamed (n : Nat) (a b : Tm) : Int := if (n : Int) ≤ a.1 then a.2.2 else if (n : Int) ≤ b.1 then b.2.2 else -1

section
variable {w : World}
set_option maxRecDepth 100000 in
set_option maxHeartbeats 800000 in
theorem unnamed_any (n : Nat) (a b : Tm) (ao aor : Option Addr) (cap nr capr : Nat) :
    Calls Tryd.prog 45 #[.agg #[.slice ao n cap, .slice aor nr capr], .agg #[.int .i64 a.1, .int .i64 a.2.1, .int .i64 a.2.2], .agg #[.int .i64 b.1, .int .i64 b.2.1, .int .i64 b.2.2]] w fun e w' => e = .returned (.int .i64 (unnamed n a b)) ∧ Below w.heap.size w w' := by
  obtain ⟨a0, a1, a2⟩ := a
  obtain ⟨b0, b1, b2⟩ := b
  unfold unnamed
  simp only
  by_cases h1 : (n : Int) ≤ a0
  · rw [if_pos h1]
    go_enter Tryd.func45, Tryd.ntmps45
    go_wp2
    go_ret
    exact ⟨rfl, (((Below.refl _ _).alloc (Nat.le_refl _) _).alloc (by simp) _).alloc (by simp; omega) _⟩
  · rw [if_neg h1]
    by_cases h2 : (n : Int) ≤ b0
    · rw [if_pos h2]
      go_enter Tryd.func45, Tryd.ntmps45
      go_wp2
      go_ret
      exact ⟨rfl, (((Below.refl _ _).alloc (Nat.le_refl _) _).alloc (by simp) _).alloc (by simp; omega) _⟩
    · rw [if_neg h2]
      go_enter Tryd.func45, Tryd.ntmps45
      go_wp2
      go_ret
      exact ⟨rfl, (((Below.refl _ _).alloc (Nat.le_refl _) _).alloc (by simp) _).alloc (by simp; omega) _⟩

def twiceP (n : Nat) (dl : List Chg) (c : Chg) : Nat × Int :=
  if (n : Int) ≤ c.1 then (3, c.2.1) else if dl.any (fun d => decide (d.1 = c.1)) then (5, c.2.1) else if c.2.2.1 = false ∧ (n : Int) ≤ c.2.2.2.1 then (3, c.2.2.2.2.2) else (0, 0)

theorem own_len {w : World} {b e z n : Nat} {v : Value} {xs : List Value} (h : w.ownsRow b e z v n xs) : n ≤ 9223372036854775807 := by
  rcases h.2 with ⟨_, rfl⟩ | ⟨g, cap, _, _, _, _, h1, h2, _⟩
  · omega
  · unfold maxLen at h2; omega
theorem D7.len (c : D7) : c.cells.length = 7 := rfl
set_option maxRecDepth 100000 in
set_option maxHeartbeats 1600000 in
theorem twice_any (n k : Nat) (dl : List D7) (ao aor aoi aod : Option Addr) (cap nr capr ni capi capd base : Nat) (hk : k < dl.length) (hl : dl.length ≤ 9223372036854775807) (_hb : base ≤ w.heap.size)
    (ho : w.ownsRow base 128 7 (.slice aod dl.length capd) dl.length (dl.flatMap D7.cells)) :
    Calls Tryd.prog 46 #[.agg #[.slice ao n cap, .slice aor nr capr], .agg #[.slice aoi ni capi, .slice aod dl.length capd], .int .i64 k] w fun e w' => e = .returned (.tuple #[.int .i64 ((twiceP n ((dl.take k).map D7.ast) (dl[k]).ast).1 : Nat), .int .i64 (twiceP n ((dl.take k).map D7.ast) (dl[k]).ast).2]) ∧ Below w.heap.size w w' := by
  obtain ⟨g, rfl, hg1, hg2, hcap, hcell⟩ := row_at D7.len ho (by omega)
  have q0 := hcell k hk 0 (by omega)
  have q1 := hcell k hk 1 (by omega)
  have q2 := hcell k hk 2 (by omega)
  have q3 := hcell k hk 3 (by omega)
  have q4 := hcell k hk 4 (by omega)
  have q5 := hcell k hk 5 (by omega)
  have q6 := hcell k hk 6 (by omega)
  obtain ⟨c, hc⟩ : ∃ c, c = dl[k] := ⟨_, rfl⟩
  rw [← hc] at q0 q1 q2 q3 q4 q5 q6 ⊢
  simp only [D7.cells, List.getElem?_cons_zero, List.getElem?_cons_succ, Nat.add_zero] at q0 q1 q2 q3 q4 q5 q6
  have HC : Hid (∀ k (hk : k < dl.length) j, j < 7 → w.cell? ⟨g, k * 7 + j, none⟩ = (D7.cells (dl[k]))[j]?) := hcell
  have HE : Hid (c = dl[k]) := hc
  have k0 : (0 : Int) ≤ (k : Int) := by omega
  have k1 : (k : Int) < (dl.length : Int) := by omega
  clear hcell hc ho
  have hA : (((w.alloc (.cells #[.slice ao n cap, .slice aor nr capr] 53)).alloc (.cells #[.slice aoi ni capi, .slice (some ⟨g, 0, none⟩) dl.length capd] 104)).alloc (.cells #[.int .i64 c.v, .int .i64 c.at_, .int .i64 c.t0, .int .i64 c.t1, .int .i64 c.t2, .int .i64 c.more, .bool c.any] 128)).heap[w.heap.size]? = some (.cells #[.slice ao n cap, .slice aor nr capr] 53 (0, 0)) := by
    rw [Below.heap_alloc _ _ _ (by simp; omega), Below.heap_alloc _ _ _ (by simp), heap_alloc_new]
  have hR : (((w.alloc (.cells #[.slice ao n cap, .slice aor nr capr] 53)).alloc (.cells #[.slice aoi ni capi, .slice (some ⟨g, 0, none⟩) dl.length capd] 104)).alloc (.cells #[.int .i64 c.v, .int .i64 c.at_, .int .i64 c.t0, .int .i64 c.t1, .int .i64 c.t2, .int .i64 c.more, .bool c.any] 128)).heap[w.heap.size + 1]? = some (.cells #[.slice aoi ni capi, .slice (some ⟨g, 0, none⟩) dl.length capd] 104 (0, 0)) := by
    rw [Below.heap_alloc _ _ _ (by simp)]
    have := heap_alloc_new (w.alloc (.cells #[.slice ao n cap, .slice aor nr capr] 53)) (.cells #[.slice aoi ni capi, .slice (some ⟨g, 0, none⟩) dl.length capd] 104)
    simpa using this
  have hD : (((w.alloc (.cells #[.slice ao n cap, .slice aor nr capr] 53)).alloc (.cells #[.slice aoi ni capi, .slice (some ⟨g, 0, none⟩) dl.length capd] 104)).alloc (.cells #[.int .i64 c.v, .int .i64 c.at_, .int .i64 c.t0, .int .i64 c.t1, .int .i64 c.t2, .int .i64 c.more, .bool c.any] 128)).heap[w.heap.size + 1 + 1]? = some (.cells #[.int .i64 c.v, .int .i64 c.at_, .int .i64 c.t0, .int .i64 c.t1, .int .i64 c.t2, .int .i64 c.more, .bool c.any] 128 (0, 0)) := by
    have := heap_alloc_new ((w.alloc (.cells #[.slice ao n cap, .slice aor nr capr] 53)).alloc (.cells #[.slice aoi ni capi, .slice (some ⟨g, 0, none⟩) dl.length capd] 104)) (.cells #[.int .i64 c.v, .int .i64 c.at_, .int .i64 c.t0, .int .i64 c.t1, .int .i64 c.t2, .int .i64 c.more, .bool c.any] 128)
    simpa using this
  have hBel : Below w.heap.size w (((w.alloc (.cells #[.slice ao n cap, .slice aor nr capr] 53)).alloc (.cells #[.slice aoi ni capi, .slice (some ⟨g, 0, none⟩) dl.length capd] 104)).alloc (.cells #[.int .i64 c.v, .int .i64 c.at_, .int .i64 c.t0, .int .i64 c.t1, .int .i64 c.t2, .int .i64 c.more, .bool c.any] 128)) := (((Below.refl _ _).alloc (Nat.le_refl _) _).alloc (by simp) _).alloc (by simp; omega) _
  have hRow : ∀ i (hi : i < dl.length), (((w.alloc (.cells #[.slice ao n cap, .slice aor nr capr] 53)).alloc (.cells #[.slice aoi ni capi, .slice (some ⟨g, 0, none⟩) dl.length capd] 104)).alloc (.cells #[.int .i64 c.v, .int .i64 c.at_, .int .i64 c.t0, .int .i64 c.t1, .int .i64 c.t2, .int .i64 c.more, .bool c.any] 128)).cell? ⟨g, i * 7, none⟩ = some (.int .i64 (dl[i]).v) := by
    intro i hi
    rw [hBel.cell (p := ⟨g, i * 7, none⟩) hg2]
    have := HC.out i hi 0 (by omega)
    simpa [D7.cells] using this
  generalize hP : twiceP n ((dl.take k).map D7.ast) c.ast = P
  unfold twiceP at hP
  have hast : c.ast = (c.v, c.at_, c.any, (c.t0, c.t1, c.t2)) := rfl
  rw [hast] at hP
  simp only at hP
  by_cases h1 : (n : Int) ≤ c.v
  · rw [if_pos h1] at hP
    subst hP
    have HB : Hid (Below w.heap.size w (((w.alloc (.cells #[.slice ao n cap, .slice aor nr capr] 53)).alloc (.cells #[.slice aoi ni capi, .slice (some ⟨g, 0, none⟩) dl.length capd] 104)).alloc (.cells #[.int .i64 c.v, .int .i64 c.at_, .int .i64 c.t0, .int .i64 c.t1, .int .i64 c.t2, .int .i64 c.more, .bool c.any] 128))) := hBel
    clear hA hR hD hBel hRow
    go_enter Tryd.func46, Tryd.ntmps46
    go_wp2_with fail
    go_quiet (fail)
    go_wp2
    go_ret2
    first | exact ⟨rfl, below_drewN HB.out _⟩ | exact ⟨rfl, below_drewN (below_drewN HB.out _) _⟩ | exact ⟨rfl, below_drewN (below_drewN (below_drewN HB.out _) _) _⟩
  · rw [if_neg h1] at hP
    have h1' : ¬ ((n : Int) ≤ c.v) := h1
    have HP : Hid (_ = P) := hP
    obtain ⟨n0, n1, nf⟩ := cell2 hA
    obtain ⟨r0, r1, rf⟩ := cell2 hR
    obtain ⟨⟨d0, d1, d2, d3, d4, d5, d6⟩, df⟩ := blk7 hD
    have HRow : Hid (∀ i (hi : i < dl.length), (((w.alloc (.cells #[.slice ao n cap, .slice aor nr capr] 53)).alloc (.cells #[.slice aoi ni capi, .slice (some ⟨g, 0, none⟩) dl.length capd] 104)).alloc (.cells #[.int .i64 c.v, .int .i64 c.at_, .int .i64 c.t0, .int .i64 c.t1, .int .i64 c.t2, .int .i64 c.more, .bool c.any] 128)).cell? ⟨g, i * 7, none⟩ = some (.int .i64 (dl[i]).v)) := hRow
    have HB : Hid (Below w.heap.size w (((w.alloc (.cells #[.slice ao n cap, .slice aor nr capr] 53)).alloc (.cells #[.slice aoi ni capi, .slice (some ⟨g, 0, none⟩) dl.length capd] 104)).alloc (.cells #[.int .i64 c.v, .int .i64 c.at_, .int .i64 c.t0, .int .i64 c.t1, .int .i64 c.t2, .int .i64 c.more, .bool c.any] 128))) := hBel
    clear hA hR hD hBel hRow nf rf df hP
    go_enter Tryd.func46, Tryd.ntmps46
    go_wp2_with fail
    clear q0 q1 q2 q3 q4 q5 q6
    generalize (((w.alloc (.cells #[.slice ao n cap, .slice aor nr capr] 53)).alloc (.cells #[.slice aoi ni capi, .slice (some ⟨g, 0, none⟩) dl.length capd] 104)).alloc (.cells #[.int .i64 c.v, .int .i64 c.at_, .int .i64 c.t0, .int .i64 c.t1, .int .i64 c.t2, .int .i64 c.more, .bool c.any] 128)) = w3 at *
    go_loopg [9] k (fun gk iv wr => ∃ i m : Nat, iv = .int .i64 i ∧ i + gk = k ∧ wr = w3.drewN m ∧ ∀ j (hj : j < dl.length), j < i → (dl[j]).v ≠ c.v)
    case atStart => exact ⟨0, 0, rfl, by omega, rfl, fun j _ h => by omega⟩
    case round =>
      obtain ⟨i, m, rfl, hik, rfl, hall⟩ := hrel
      by_cases hlt : i < k
      · have hlt' : (i : Int) < (k : Int) := by omega
        have i0 : (0 : Int) ≤ (i : Int) := by omega
        have i1 : (i : Int) < (dl.length : Int) := by omega
        have hrow := HRow.out i (by omega)
        have HALL : Hid (∀ j (hj : j < dl.length), j < i → (dl[j]).v ≠ c.v) := hall
        clear hall
        by_cases heq : (dl[i]'(by omega)).v = c.v
        · have HPE : Hid (P = (5, c.at_)) := by
            have := HP.out
            rw [if_pos] at this
            · exact this.symm
            · rw [List.any_eq_true]
              refine ⟨(dl[i]'(by omega)).ast, ?_, by simp [D7.ast, heq]⟩
              rw [List.mem_map]
              refine ⟨dl[i]'(by omega), ?_, rfl⟩
              rw [List.mem_iff_getElem]
              exact ⟨i, by simp; omega, by simp⟩
          rw [heq] at hrow
          clear heq
          go_wp2_with fail
          go_quiet (fail)
          go_wp2_with fail
          go_quiet (fail)
          go_wp2
          go_ret2
          rw [HPE.out]
          first | exact ⟨rfl, below_drewN HB.out _⟩ | exact ⟨rfl, below_drewN (below_drewN HB.out _) _⟩ | exact ⟨rfl, below_drewN (below_drewN (below_drewN HB.out _) _) _⟩
        · have heq' : (((dl[i]'(by omega)).v) == c.v) = false := by simpa using heq
          have HEQ : Hid ((dl[i]'(by omega)).v ≠ c.v) := heq
          clear heq
          obtain ⟨g', rfl⟩ : ∃ g', gk = g' + 1 := ⟨gk - 1, by omega⟩
          go_wp2_with fail
          go_quiet (fail)
          go_wp2
          go_roundg g'
          case measure => exact Nat.lt_succ_self _
          case rel =>
            refine ⟨i + 1, _, by go_num, by omega, rfl, ?_⟩
            intro j hj hji
            by_cases h : j = i
            · subst h; exact HEQ.out
            · exact HALL.out j hj (by omega)
      · have hik' : i = k := by omega
        subst hik'
        have hany : ¬ ((dl.take i).map D7.ast).any (fun d => decide (d.1 = c.v)) = true := by
          rw [List.any_eq_true]
          rintro ⟨x, hx, hxc⟩
          rw [List.mem_map] at hx
          obtain ⟨d, hd, rfl⟩ := hx
          rw [List.mem_iff_getElem] at hd
          obtain ⟨j, hj, rfl⟩ := hd
          have hj' : j < i := by simp at hj; omega
          refine hall j (by omega) hj' ?_
          simpa [D7.ast] using hxc
        have hP2 := HP.out
        rw [if_neg hany] at hP2
        have HP2 : Hid (_ = P) := hP2
        clear hP2 hany hall HP
        cases hca : c.any with
        | true =>
          rw [hca] at d6
          have HPE : Hid (P = (0, 0)) := by
            have := HP2.out; rw [if_neg (by rw [hca]; simp)] at this; exact this.symm
          clear hca
          go_wp2
          go_ret2
          rw [HPE.out]
          first | exact ⟨rfl, below_drewN HB.out _⟩ | exact ⟨rfl, below_drewN (below_drewN HB.out _) _⟩ | exact ⟨rfl, below_drewN (below_drewN (below_drewN HB.out _) _) _⟩
        | false =>
          rw [hca] at d6
          by_cases ht : (n : Int) ≤ c.t0
          · have HPE : Hid (P = (3, c.t2)) := by
              have := HP2.out; rw [if_pos ⟨hca, ht⟩] at this; exact this.symm
            clear hca
            go_wp2_with fail
            go_quiet (fail)
            go_wp2
            go_ret2
            rw [HPE.out]
            first | exact ⟨rfl, below_drewN HB.out _⟩ | exact ⟨rfl, below_drewN (below_drewN HB.out _) _⟩ | exact ⟨rfl, below_drewN (below_drewN (below_drewN HB.out _) _) _⟩
          · have HPE : Hid (P = (0, 0)) := by
              have := HP2.out; rw [if_neg (fun h => ht h.2)] at this; exact this.symm
            clear hca
            go_wp2
            go_ret2
            rw [HPE.out]
            first | exact ⟨rfl, below_drewN HB.out _⟩ | exact ⟨rfl, below_drewN (below_drewN HB.out _) _⟩ | exact ⟨rfl, below_drewN (below_drewN (below_drewN HB.out _) _) _⟩
end
end Go.Proofs.YtkbmolodljenjaaDoor

namespace Go.Proofs.YtkbmolodljenjaaDoor
open Go.RowKit

def fb (top at_ : Nat) : List Nat → Nat → Option (Nat × Int)
  | [], _ => none
  | x :: l, k => if top < x then some (4, ((at_ + k : Nat) : Int)) else fb top at_ l (k + 1)
def wc (n : Nat) : List (Tm × Tm) → Option (Nat × Int)
  | [] => none
  | c :: l => if 0 ≤ unnamed n c.1 c.2 then some (3, unnamed n c.1 c.2) else wc n l
def wd (n : Nat) : List Chg → List Chg → Option (Nat × Int)
  | _, [] => none
  | pre, c :: l => if (twiceP n pre c).1 = 0 then wd n (pre ++ [c]) l else some (twiceP n pre c)
def wv : List VA → Option (Nat × Int)
  | [] => none
  | v :: l => match fb v.1 v.2.2 v.2.1 0 with
    | some x => some x
    | none => wv l
def wr (n : Nat) : List RA → Option (Nat × Int)
  | [] => none
  | r :: l => match wc n r.1 with
    | some x => some x
    | none => match wd n [] r.2 with
      | some x => some x
      | none => wr n l
def orP (a : Option (Nat × Int)) (b : Nat × Int) : Nat × Int := match a with
  | some x => x
  | none => b
def wrongP (vs : List VA) (rs : List RA) : Nat × Int := orP (wv vs) (orP (wr vs.length rs) (0, 0))
theorem orP_fb (top at_ x k : Nat) (l : List Nat) (b : Nat × Int) : orP (fb top at_ (x :: l) k) b = if top < x then (4, ((at_ + k : Nat) : Int)) else orP (fb top at_ l (k + 1)) b := by
  rw [fb]; split <;> rfl
theorem orP_wv (v : VA) (l : List VA) (b : Nat × Int) : orP (wv (v :: l)) b = orP (fb v.1 v.2.2 v.2.1 0) (orP (wv l) b) := by
  rw [wv]; cases fb v.1 v.2.2 v.2.1 0 <;> rfl
theorem orP_wr (n : Nat) (r : RA) (l : List RA) (b : Nat × Int) : orP (wr n (r :: l)) b = orP (wc n r.1) (orP (wd n [] r.2) (orP (wr n l) b)) := by
  rw [wr]; cases wc n r.1 <;> cases wd n [] r.2 <;> rfl
theorem orP_wc (n : Nat) (c : Tm × Tm) (l : List (Tm × Tm)) (b : Nat × Int) : orP (wc n (c :: l)) b = if 0 ≤ unnamed n c.1 c.2 then (3, unnamed n c.1 c.2) else orP (wc n l) b := by
  rw [wc]; split <;> rfl
theorem orP_wd (n : Nat) (pre : List Chg) (c : Chg) (l : List Chg) (b : Nat × Int) : orP (wd n pre (c :: l)) b = if (twiceP n pre c).1 = 0 then orP (wd n (pre ++ [c]) l) b else twiceP n pre c := by
  rw [wd]; split <;> rfl
theorem V3.len (v : V3) : v.cells.length = 3 := rfl
theorem R2.len (v : R2) : v.cells.length = 2 := rfl
theorem C7.len (v : C7) : v.cells.length = 7 := rfl
theorem drop_map {α β : Type} (f : α → β) (l : List α) (i : Nat) (h : i < l.length) : (l.map f).drop i = f l[i] :: (l.map f).drop (i + 1) := by
  rw [List.drop_eq_getElem_cons (by simpa using h)]; simp
theorem ints_at {w : World} {base : Nat} {ao : Option Addr} {cap : Nat} {l : List Nat} (h : w.ownsRow base 3 1 (.slice ao l.length cap) l.length (ints l)) (hl : 0 < l.length) : ∃ g, ao = some ⟨g, 0, none⟩ ∧ base ≤ g ∧ g < w.heap.size ∧ l.length ≤ cap ∧ ∀ k (hk : k < l.length), w.cell? ⟨g, k, none⟩ = some (.int .i64 (l[k] : Nat)) := by
  have e : ints l = l.flatMap (fun n : Nat => [Value.int .i64 (n : Int)]) := by
    unfold ints; rw [List.map_eq_flatMap]
  rw [e] at h
  obtain ⟨g, h1, h2, h3, h4, h5⟩ := row_at (z := 1) (fun _ => rfl) h hl
  exact ⟨g, h1, h2, h3, h4, fun k hk => by have := h5 k hk 0 (by omega); simpa using this⟩

end Go.Proofs.YtkbmolodljenjaaDoor
