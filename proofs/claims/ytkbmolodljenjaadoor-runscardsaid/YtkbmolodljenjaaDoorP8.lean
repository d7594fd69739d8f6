import Derived.Test.YtkbmolodljenjaaDoorP7
import Derived.Deep.RegionHeld3
import Derived.Test.YtkbmolodljenjaaDoorP1
import Derived.Laws.IdiomStrings
import Derived.Deep.LoopGhost
import Derived.Maps.AppendAt
import Derived.RangeFuncBox
/- What is wrong with a change, with a condition. Our own text. -/
namespace Go.Proofs.YtkbmolodljenjaaDoor
open Go.RowKit

theorem flat_get {α : Type} (f : α → List Value) (z : Nat) (hf : ∀ a, (f a).length = z) : ∀ (l : List α) (k j : Nat) (hk : k < l.length), j < z → (l.flatMap f)[k * z + j]? = (f (l[k]))[j]?
  | [], k, j, hk, _ => by simp at hk
  | a :: l, 0, j, _, hj => by
    rw [List.flatMap_cons, Nat.zero_mul, Nat.zero_add, List.getElem?_append_left (by rw [hf]; exact hj)]
    rfl
  | a :: l, k + 1, j, hk, hj => by
    have ih := flat_get f z hf l k j (by simpa using hk) hj
    rw [List.flatMap_cons, List.getElem?_append_right (by rw [hf, Nat.succ_mul]; omega), hf]
    have e : (k + 1) * z + j - z = k * z + j := by rw [Nat.succ_mul]; omega
    rw [e, ih]
    rfl
theorem row_at {α : Type} {w : World} {base e z : Nat} {ao : Option Addr} {cap : Nat} {l : List α} {f : α → List Value} (hf : ∀ a, (f a).length = z) (h : w.ownsRow base e z (.slice ao l.length cap) l.length (l.flatMap f)) (hl : 0 < l.length) :
    ∃ g, ao = some ⟨g, 0, none⟩ ∧ base ≤ g ∧ g < w.heap.size ∧ l.length ≤ cap ∧ ∀ k (hk : k < l.length) j, j < z → w.cell? ⟨g, k * z + j, none⟩ = (f (l[k]))[j]? := by
  rcases h.2 with ⟨_, h0⟩ | ⟨g, cap', cur, hv, hb, hg, hc, _⟩
  · omega
  · cases hv
    refine ⟨g, rfl, hb, lt_of_block hg, hc, ?_⟩
    intro k hk j hj
    have hx := flat_get f z hf l k j hk hj
    have hlen : j < (f (l[k])).length := by rw [hf]; exact hj
    rw [List.getElem?_eq_getElem hlen]
    rw [List.getElem?_eq_getElem hlen] at hx
    have hc := h.cells (g := g) rfl (k * z + j) _ hx
    have hadd : (⟨g, 0, none⟩ : Addr).add (k * z + j) = ⟨g, k * z + j, none⟩ := by unfold Addr.add; split <;> simp_all
    rw [hadd] at hc
    exact hc
def unnamed (n : Nat) (a b : Tm) : Int := if (n : Int) ≤ a.1 then a.2.2 else if (n : Int) ≤ b.1 then b.2.2 else -1

section
variable {w : World}
set_option maxRecDepth 100000 in
set_option maxHeartbeats 800000 in
theorem unnamed_any (n : Nat) (a b : Tm) (ao aor : Option Addr) (cap nr capr : Nat) :
    Calls Tryd.prog 45 #[.agg #[.slice ao n cap, .slice aor nr capr], .agg #[.int .i64 a.1, .int .i64 a.2.1, .int .i64 a.2.2], .agg #[.int .i64 b.1, .int .i64 b.2.1, .int .i64 b.2.2]] w fun e w' => e = .returned (.int .i64 (unnamed n a b)) ∧ Below w.heap.size w w' := by
  obtain ⟨a0, a1, a2⟩ := a
  obtain ⟨b0, b1, b2⟩ := b
  unfold unnamed
  simp only
  by_cases h1 : (n : Int) ≤ a0
  · rw [if_pos h1]
    go_enter Tryd.func45, Tryd.ntmps45
    go_wp2
    go_ret
    exact ⟨rfl, (((Below.refl _ _).alloc (Nat.le_refl _) _).alloc (by simp) _).alloc (by simp; omega) _⟩
  · rw [if_neg h1]
    by_cases h2 : (n : Int) ≤ b0
    · rw [if_pos h2]
      go_enter Tryd.func45, Tryd.ntmps45
      go_wp2
      go_ret
      exact ⟨rfl, (((Below.refl _ _).alloc (Nat.le_refl _) _).alloc (by simp) _).alloc (by simp; omega) _⟩
    · rw [if_neg h2]
      go_enter Tryd.func45, Tryd.ntmps45
      go_wp2
      go_ret
      exact ⟨rfl, (((Below.refl _ _).alloc (Nat.le_refl _) _).alloc (by simp) _).alloc (by simp; omega) _⟩

def twiceP (n : Nat) (dl : List Chg) (c : Chg) : Nat × Int :=
  if (n : Int) ≤ c.1 then (3, c.2.1) else if dl.any (fun d => decide (d.1 = c.1)) then (5, c.2.1) else if c.2.2.1 = false ∧ (n : Int) ≤ c.2.2.2.1 then (3, c.2.2.2.2.2) else (0, 0)

theorem own_len {w : World} {b e z n : Nat} {v : Value} {xs : List Value} (h : w.ownsRow b e z v n xs) : n ≤ 9223372036854775807 := by
  rcases h.2 with ⟨_, rfl⟩ | ⟨g, cap, _, _, _, _, h1, h2, _⟩
  · omega
  · unfold maxLen at h2; omega
theorem D7.len (c : D7) : c.cells.length = 7 := rfl
set_option maxRecDepth 100000 in
set_option maxHeartbeats 1600000 in
theorem twice_any (n k : Nat) (dl : List D7) (ao aor aoi aod : Option Addr) (cap nr capr ni capi capd base : Nat) (hk : k < dl.length) (hl : dl.length ≤ 9223372036854775807) (_hb : base ≤ w.heap.size)
    (ho : w.ownsRow base 128 7 (.slice aod dl.length capd) dl.length (dl.flatMap D7.cells)) :
    Calls Tryd.prog 46 #[.agg #[.slice ao n cap, .slice aor nr capr], .agg #[.slice aoi ni capi, .slice aod dl.length capd], .int .i64 k] w fun e w' => e = .returned (.tuple #[.int .i64 ((twiceP n ((dl.take k).map D7.ast) (dl[k]).ast).1 : Nat), .int .i64 (twiceP n ((dl.take k).map D7.ast) (dl[k]).ast).2]) ∧ Below w.heap.size w w' := by
  obtain ⟨g, rfl, hg1, hg2, hcap, hcell⟩ := row_at D7.len ho (by omega)
  have q0 := hcell k hk 0 (by omega)
  have q1 := hcell k hk 1 (by omega)
  have q2 := hcell k hk 2 (by omega)
  have q3 := hcell k hk 3 (by omega)
  have q4 := hcell k hk 4 (by omega)
  have q5 := hcell k hk 5 (by omega)
  have q6 := hcell k hk 6 (by omega)
  obtain ⟨c, hc⟩ : ∃ c, c = dl[k] := ⟨_, rfl⟩
  rw [← hc] at q0 q1 q2 q3 q4 q5 q6 ⊢
  simp only [D7.cells, List.getElem?_cons_zero, List.getElem?_cons_succ, Nat.add_zero] at q0 q1 q2 q3 q4 q5 q6
  have HC : Hid (∀ k (hk : k < dl.length) j, j < 7 → w.cell? ⟨g, k * 7 + j, none⟩ = (D7.cells (dl[k]))[j]?) := hcell
  have HE : Hid (c = dl[k]) := hc
  have k0 : (0 : Int) ≤ (k : Int) := by omega
  have k1 : (k : Int) < (dl.length : Int) := by omega
  clear hcell hc ho
  have hA : (((w.alloc (.cells #[.slice ao n cap, .slice aor nr capr] 53)).alloc (.cells #[.slice aoi ni capi, .slice (some ⟨g, 0, none⟩) dl.length capd] 104)).alloc (.cells #[.int .i64 c.v, .int .i64 c.at_, .int .i64 c.t0, .int .i64 c.t1, .int .i64 c.t2, .int .i64 c.more, .bool c.any] 128)).heap[w.heap.size]? = some (.cells #[.slice ao n cap, .slice aor nr capr] 53 (0, 0)) := by
    rw [Below.heap_alloc _ _ _ (by simp; omega), Below.heap_alloc _ _ _ (by simp), heap_alloc_new]
  have hR : (((w.alloc (.cells #[.slice ao n cap, .slice aor nr capr] 53)).alloc (.cells #[.slice aoi ni capi, .slice (some ⟨g, 0, none⟩) dl.length capd] 104)).alloc (.cells #[.int .i64 c.v, .int .i64 c.at_, .int .i64 c.t0, .int .i64 c.t1, .int .i64 c.t2, .int .i64 c.more, .bool c.any] 128)).heap[w.heap.size + 1]? = some (.cells #[.slice aoi ni capi, .slice (some ⟨g, 0, none⟩) dl.length capd] 104 (0, 0)) := by
    rw [Below.heap_alloc _ _ _ (by simp)]
    have := heap_alloc_new (w.alloc (.cells #[.slice ao n cap, .slice aor nr capr] 53)) (.cells #[.slice aoi ni capi, .slice (some ⟨g, 0, none⟩) dl.length capd] 104)
    simpa using this
  have hD : (((w.alloc (.cells #[.slice ao n cap, .slice aor nr capr] 53)).alloc (.cells #[.slice aoi ni capi, .slice (some ⟨g, 0, none⟩) dl.length capd] 104)).alloc (.cells #[.int .i64 c.v, .int .i64 c.at_, .int .i64 c.t0, .int .i64 c.t1, .int .i64 c.t2, .int .i64 c.more, .bool c.any] 128)).heap[w.heap.size + 1 + 1]? = some (.cells #[.int .i64 c.v, .int .i64 c.at_, .int .i64 c.t0, .int .i64 c.t1, .int .i64 c.t2, .int .i64 c.more, .bool c.any] 128 (0, 0)) := by
    have := heap_alloc_new ((w.alloc (.cells #[.slice ao n cap, .slice aor nr capr] 53)).alloc (.cells #[.slice aoi ni capi, .slice (some ⟨g, 0, none⟩) dl.length capd] 104)) (.cells #[.int .i64 c.v, .int .i64 c.at_, .int .i64 c.t0, .int .i64 c.t1, .int .i64 c.t2, .int .i64 c.more, .bool c.any] 128)
    simpa using this
  have hBel : Below w.heap.size w (((w.alloc (.cells #[.slice ao n cap, .slice aor nr capr] 53)).alloc (.cells #[.slice aoi ni capi, .slice (some ⟨g, 0, none⟩) dl.length capd] 104)).alloc (.cells #[.int .i64 c.v, .int .i64 c.at_, .int .i64 c.t0, .int .i64 c.t1, .int .i64 c.t2, .int .i64 c.more, .bool c.any] 128)) := (((Below.refl _ _).alloc (Nat.le_refl _) _).alloc (by simp) _).alloc (by simp; omega) _
  have hRow : ∀ i (hi : i < dl.length), (((w.alloc (.cells #[.slice ao n cap, .slice aor nr capr] 53)).alloc (.cells #[.slice aoi ni capi, .slice (some ⟨g, 0, none⟩) dl.length capd] 104)).alloc (.cells #[.int .i64 c.v, .int .i64 c.at_, .int .i64 c.t0, .int .i64 c.t1, .int .i64 c.t2, .int .i64 c.more, .bool c.any] 128)).cell? ⟨g, i * 7, none⟩ = some (.int .i64 (dl[i]).v) := by
    intro i hi
    rw [hBel.cell (p := ⟨g, i * 7, none⟩) hg2]
    have := HC.out i hi 0 (by omega)
    simpa [D7.cells] using this
  generalize hP : twiceP n ((dl.take k).map D7.ast) c.ast = P
  unfold twiceP at hP
  have hast : c.ast = (c.v, c.at_, c.any, (c.t0, c.t1, c.t2)) := rfl
  rw [hast] at hP
  simp only at hP
  by_cases h1 : (n : Int) ≤ c.v
  · rw [if_pos h1] at hP
    subst hP
    have HB : Hid (Below w.heap.size w (((w.alloc (.cells #[.slice ao n cap, .slice aor nr capr] 53)).alloc (.cells #[.slice aoi ni capi, .slice (some ⟨g, 0, none⟩) dl.length capd] 104)).alloc (.cells #[.int .i64 c.v, .int .i64 c.at_, .int .i64 c.t0, .int .i64 c.t1, .int .i64 c.t2, .int .i64 c.more, .bool c.any] 128))) := hBel
    clear hA hR hD hBel hRow
    go_enter Tryd.func46, Tryd.ntmps46
    go_wp2_with fail
    go_quiet (fail)
    go_wp2
    go_ret2
    first | exact ⟨rfl, below_drewN HB.out _⟩ | exact ⟨rfl, below_drewN (below_drewN HB.out _) _⟩ | exact ⟨rfl, below_drewN (below_drewN (below_drewN HB.out _) _) _⟩
  · rw [if_neg h1] at hP
    have h1' : ¬ ((n : Int) ≤ c.v) := h1
    have HP : Hid (_ = P) := hP
    obtain ⟨n0, n1, nf⟩ := cell2 hA
    obtain ⟨r0, r1, rf⟩ := cell2 hR
    obtain ⟨⟨d0, d1, d2, d3, d4, d5, d6⟩, df⟩ := blk7 hD
    have HRow : Hid (∀ i (hi : i < dl.length), (((w.alloc (.cells #[.slice ao n cap, .slice aor nr capr] 53)).alloc (.cells #[.slice aoi ni capi, .slice (some ⟨g, 0, none⟩) dl.length capd] 104)).alloc (.cells #[.int .i64 c.v, .int .i64 c.at_, .int .i64 c.t0, .int .i64 c.t1, .int .i64 c.t2, .int .i64 c.more, .bool c.any] 128)).cell? ⟨g, i * 7, none⟩ = some (.int .i64 (dl[i]).v)) := hRow
    have HB : Hid (Below w.heap.size w (((w.alloc (.cells #[.slice ao n cap, .slice aor nr capr] 53)).alloc (.cells #[.slice aoi ni capi, .slice (some ⟨g, 0, none⟩) dl.length capd] 104)).alloc (.cells #[.int .i64 c.v, .int .i64 c.at_, .int .i64 c.t0, .int .i64 c.t1, .int .i64 c.t2, .int .i64 c.more, .bool c.any] 128))) := hBel
    clear hA hR hD hBel hRow nf rf df hP
    go_enter Tryd.func46, Tryd.ntmps46
    go_wp2_with fail
    clear q0 q1 q2 q3 q4 q5 q6
    generalize (((w.alloc (.cells #[.slice ao n cap, .slice aor nr capr] 53)).alloc (.cells #[.slice aoi ni capi, .slice (some ⟨g, 0, none⟩) dl.length capd] 104)).alloc (.cells #[.int .i64 c.v, .int .i64 c.at_, .int .i64 c.t0, .int .i64 c.t1, .int .i64 c.t2, .int .i64 c.more, .bool c.any] 128)) = w3 at *
    go_loopg [9] k (fun gk iv wr => ∃ i m : Nat, iv = .int .i64 i ∧ i + gk = k ∧ wr = w3.drewN m ∧ ∀ j (hj : j < dl.length), j < i → (dl[j]).v ≠ c.v)
    case atStart => exact ⟨0, 0, rfl, by omega, rfl, fun j _ h => by omega⟩
    case round =>
      obtain ⟨i, m, rfl, hik, rfl, hall⟩ := hrel
      by_cases hlt : i < k
      · have hlt' : (i : Int) < (k : Int) := by omega
        have i0 : (0 : Int) ≤ (i : Int) := by omega
        have i1 : (i : Int) < (dl.length : Int) := by omega
        have hrow := HRow.out i (by omega)
        have HALL : Hid (∀ j (hj : j < dl.length), j < i → (dl[j]).v ≠ c.v) := hall
        clear hall
        by_cases heq : (dl[i]'(by omega)).v = c.v
        · have HPE : Hid (P = (5, c.at_)) := by
            have := HP.out
            rw [if_pos] at this
            · exact this.symm
            · rw [List.any_eq_true]
              refine ⟨(dl[i]'(by omega)).ast, ?_, by simp [D7.ast, heq]⟩
              rw [List.mem_map]
              refine ⟨dl[i]'(by omega), ?_, rfl⟩
              rw [List.mem_iff_getElem]
              exact ⟨i, by simp; omega, by simp⟩
          rw [heq] at hrow
          clear heq
          go_wp2_with fail
          go_quiet (fail)
          go_wp2_with fail
          go_quiet (fail)
          go_wp2
          go_ret2
          rw [HPE.out]
          first | exact ⟨rfl, below_drewN HB.out _⟩ | exact ⟨rfl, below_drewN (below_drewN HB.out _) _⟩ | exact ⟨rfl, below_drewN (below_drewN (below_drewN HB.out _) _) _⟩
        · have heq' : (((dl[i]'(by omega)).v) == c.v) = false := by simpa using heq
          have HEQ : Hid ((dl[i]'(by omega)).v ≠ c.v) := heq
          clear heq
          obtain ⟨g', rfl⟩ : ∃ g', gk = g' + 1 := ⟨gk - 1, by omega⟩
          go_wp2_with fail
          go_quiet (fail)
          go_wp2
          go_roundg g'
          case measure => exact Nat.lt_succ_self _
          case rel =>
            refine ⟨i + 1, _, by go_num, by omega, rfl, ?_⟩
            intro j hj hji
            by_cases h : j = i
            · subst h; exact HEQ.out
            · exact HALL.out j hj (by omega)
      · have hik' : i = k := by omega
        subst hik'
        have hany : ¬ ((dl.take i).map D7.ast).any (fun d => decide (d.1 = c.v)) = true := by
          rw [List.any_eq_true]
          rintro ⟨x, hx, hxc⟩
          rw [List.mem_map] at hx
          obtain ⟨d, hd, rfl⟩ := hx
          rw [List.mem_iff_getElem] at hd
          obtain ⟨j, hj, rfl⟩ := hd
          have hj' : j < i := by simp at hj; omega
          refine hall j (by omega) hj' ?_
          simpa [D7.ast] using hxc
        have hP2 := HP.out
        rw [if_neg hany] at hP2
        have HP2 : Hid (_ = P) := hP2
        clear hP2 hany hall HP
        cases hca : c.any with
        | true =>
          rw [hca] at d6
          have HPE : Hid (P = (0, 0)) := by
            have := HP2.out; rw [if_neg (by rw [hca]; simp)] at this; exact this.symm
          clear hca
          go_wp2
          go_ret2
          rw [HPE.out]
          first | exact ⟨rfl, below_drewN HB.out _⟩ | exact ⟨rfl, below_drewN (below_drewN HB.out _) _⟩ | exact ⟨rfl, below_drewN (below_drewN (below_drewN HB.out _) _) _⟩
        | false =>
          rw [hca] at d6
          by_cases ht : (n : Int) ≤ c.t0
          · have HPE : Hid (P = (3, c.t2)) := by
              have := HP2.out; rw [if_pos ⟨hca, ht⟩] at this; exact this.symm
            clear hca
            go_wp2_with fail
            go_quiet (fail)
            go_wp2
            go_ret2
            rw [HPE.out]
            first | exact ⟨rfl, below_drewN HB.out _⟩ | exact ⟨rfl, below_drewN (below_drewN HB.out _) _⟩ | exact ⟨rfl, below_drewN (below_drewN (below_drewN HB.out _) _) _⟩
          · have HPE : Hid (P = (0, 0)) := by
              have := HP2.out; rw [if_neg (fun h => ht h.2)] at this; exact this.symm
            clear hca
            go_wp2
            go_ret2
            rw [HPE.out]
            first | exact ⟨rfl, below_drewN HB.out _⟩ | exact ⟨rfl, below_drewN (below_drewN HB.out _) _⟩ | exact ⟨rfl, below_drewN (below_drewN (below_drewN HB.out _) _) _⟩
end
end Go.Proofs.YtkbmolodljenjaaDoor

namespace Go.Proofs.YtkbmolodljenjaaDoor
open Go.RowKit

def fb (top at_ : Nat) : List Nat → Nat → Option (Nat × Int)
  | [], _ => none
  | x :: l, k => if top < x then some (4, ((at_ + k : Nat) : Int)) else fb top at_ l (k + 1)
def wc (n : Nat) : List (Tm × Tm) → Option (Nat × Int)
  | [] => none
  | c :: l => if 0 ≤ unnamed n c.1 c.2 then some (3, unnamed n c.1 c.2) else wc n l
def wd (n : Nat) : List Chg → List Chg → Option (Nat × Int)
  | _, [] => none
  | pre, c :: l => if (twiceP n pre c).1 = 0 then wd n (pre ++ [c]) l else some (twiceP n pre c)
def wv : List VA → Option (Nat × Int)
  | [] => none
  | v :: l => match fb v.1 v.2.2 v.2.1 0 with
    | some x => some x
    | none => wv l
def wr (n : Nat) : List RA → Option (Nat × Int)
  | [] => none
  | r :: l => match wc n r.1 with
    | some x => some x
    | none => match wd n [] r.2 with
      | some x => some x
      | none => wr n l
def orP (a : Option (Nat × Int)) (b : Nat × Int) : Nat × Int := match a with
  | some x => x
  | none => b
def wrongP (vs : List VA) (rs : List RA) : Nat × Int := orP (wv vs) (orP (wr vs.length rs) (0, 0))
theorem orP_fb (top at_ x k : Nat) (l : List Nat) (b : Nat × Int) : orP (fb top at_ (x :: l) k) b = if top < x then (4, ((at_ + k : Nat) : Int)) else orP (fb top at_ l (k + 1)) b := by
  rw [fb]; split <;> rfl
theorem orP_wv (v : VA) (l : List VA) (b : Nat × Int) : orP (wv (v :: l)) b = orP (fb v.1 v.2.2 v.2.1 0) (orP (wv l) b) := by
  rw [wv]; cases fb v.1 v.2.2 v.2.1 0 <;> rfl
theorem orP_wr (n : Nat) (r : RA) (l : List RA) (b : Nat × Int) : orP (wr n (r :: l)) b = orP (wc n r.1) (orP (wd n [] r.2) (orP (wr n l) b)) := by
  rw [wr]; cases wc n r.1 <;> cases wd n [] r.2 <;> rfl
theorem orP_wc (n : Nat) (c : Tm × Tm) (l : List (Tm × Tm)) (b : Nat × Int) : orP (wc n (c :: l)) b = if 0 ≤ unnamed n c.1 c.2 then (3, unnamed n c.1 c.2) else orP (wc n l) b := by
  rw [wc]; split <;> rfl
theorem orP_wd (n : Nat) (pre : List Chg) (c : Chg) (l : List Chg) (b : Nat × Int) : orP (wd n pre (c :: l)) b = if (twiceP n pre c).1 = 0 then orP (wd n (pre ++ [c]) l) b else twiceP n pre c := by
  rw [wd]; split <;> rfl
theorem V3.len (v : V3) : v.cells.length = 3 := rfl
theorem R2.len (v : R2) : v.cells.length = 2 := rfl
theorem C7.len (v : C7) : v.cells.length = 7 := rfl
theorem drop_map {α β : Type} (f : α → β) (l : List α) (i : Nat) (h : i < l.length) : (l.map f).drop i = f l[i] :: (l.map f).drop (i + 1) := by
  rw [List.drop_eq_getElem_cons (by simpa using h)]; simp
theorem ints_at {w : World} {base : Nat} {ao : Option Addr} {cap : Nat} {l : List Nat} (h : w.ownsRow base 3 1 (.slice ao l.length cap) l.length (ints l)) (hl : 0 < l.length) : ∃ g, ao = some ⟨g, 0, none⟩ ∧ base ≤ g ∧ g < w.heap.size ∧ l.length ≤ cap ∧ ∀ k (hk : k < l.length), w.cell? ⟨g, k, none⟩ = some (.int .i64 (l[k] : Nat)) := by
  have e : ints l = l.flatMap (fun n : Nat => [Value.int .i64 (n : Int)]) := by
    unfold ints; rw [List.map_eq_flatMap]
  rw [e] at h
  obtain ⟨g, h1, h2, h3, h4, h5⟩ := row_at (z := 1) (fun _ => rfl) h hl
  exact ⟨g, h1, h2, h3, h4, fun k hk => by have := h5 k hk 0 (by omega); simpa using this⟩

end Go.Proofs.YtkbmolodljenjaaDoor

/- What is wrong with a model: the document's walk over it. Our own text. -/
namespace Go.Proofs.YtkbmolodljenjaaDoor
open Go.RowKit

end Go.Proofs.YtkbmolodljenjaaDoor
namespace Go.RowKit
open Go.Proofs.YtkbmolodljenjaaDoor
theorem Below.ownsRow' {w w' : World} (h : Below w.heap.size w w') {base e z n : Nat} {v : Value} {xs : List Value} (ho : w.ownsRow base e z v n xs) : w'.ownsRow base e z v n xs := by
  refine ⟨ho.1, ?_⟩
  rcases ho.2 with hn | ⟨g, cap, cur, rfl, hb, hg, r⟩
  · exact .inl hn
  · exact .inr ⟨g, cap, cur, rfl, hb, by rw [h.block g (lt_of_block hg)]; exact hg, r⟩
end Go.RowKit
namespace Go.Proofs.YtkbmolodljenjaaDoor
open Go.RowKit

section
variable {w : World}
set_option maxRecDepth 100000 in
set_option maxHeartbeats 3200000 in
theorem wrong_any (ao aor : Option Addr) (cap capr base : Nat) (vs : List V3) (rs : List R2) (_hb : base ≤ w.heap.size) (h3 : vs.length ≤ 3) (h8 : rs.length ≤ 200)
    (hv : w.ownsRow base 97 3 (.slice ao vs.length cap) vs.length (vs.flatMap V3.cells)) (hr : w.ownsRow base 104 2 (.slice aor rs.length capr) rs.length (rs.flatMap R2.cells))
    (hOv : ∀ v ∈ vs, V3.Ok w base v) (hOr : ∀ x ∈ rs, R2.Ok w base x) :
    Calls Tryd.prog 25 #[.agg #[.slice ao vs.length cap, .slice aor rs.length capr]] w fun e w' => e = .returned (.tuple #[.int .i64 ((wrongP (vs.map V3.ast) (rs.map R2.ast)).1 : Nat), .int .i64 (wrongP (vs.map V3.ast) (rs.map R2.ast)).2]) ∧ Below w.heap.size w w' := by
  have hA := heap_alloc_new w (.cells #[.slice ao vs.length cap, .slice aor rs.length capr] 53)
  have hBel : Below w.heap.size w (w.alloc (.cells #[.slice ao vs.length cap, .slice aor rs.length capr] 53)) := (Below.refl _ _).alloc (Nat.le_refl _) _
  obtain ⟨n0, n1, nf⟩ := cell2 hA
  clear nf
  unfold wrongP
  rw [List.length_map]
  generalize hRest : orP (wr vs.length (rs.map R2.ast)) (0, 0) = Rest
  generalize hP : orP (wv (vs.map V3.ast)) Rest = P
  have HP : Aside (_ = P) := hP
  have HRest : Aside (_ = Rest) := hRest
  have HV : Aside (w.ownsRow base 97 3 (.slice ao vs.length cap) vs.length (vs.flatMap V3.cells)) := hv
  have HR : Aside (w.ownsRow base 104 2 (.slice aor rs.length capr) rs.length (rs.flatMap R2.cells)) := hr
  have HOV : Aside (∀ v ∈ vs, V3.Ok w base v) := hOv
  have HOR : Aside (∀ x ∈ rs, R2.Ok w base x) := hOr
  have HLC : Aside (∀ x ∈ rs, x.cl.length ≤ 9223372036854775807 ∧ x.dl.length ≤ 9223372036854775807) := fun x h => ⟨own_len (hOr x h).1, own_len (hOr x h).2⟩
  have HB : Aside (Below w.heap.size w (w.alloc (.cells #[.slice ao vs.length cap, .slice aor rs.length capr] 53))) := hBel
  clear hv hr hOv hOr hBel hP hRest hA
  go_enter Tryd.func25, Tryd.ntmps25
  go_wp2_with fail
  have hsz : w.heap.size < (w.alloc (.cells #[.slice ao vs.length cap, .slice aor rs.length capr] 53)).heap.size := by simp
  generalize w.alloc (.cells #[.slice ao vs.length cap, .slice aor rs.length capr] 53) = w1 at *
  go_loopg [4] vs.length (fun gk iv wr => ∃ i m : Nat, iv = .int .i64 i ∧ i + gk = vs.length ∧ wr = w1.drewN m ∧ orP (wv ((vs.map V3.ast).drop i)) Rest = P)
  case atStart => exact ⟨0, 0, rfl, by omega, rfl, HP.out⟩
  case round =>
    clear HP
    obtain ⟨i, m, rfl, hik, rfl, hPi⟩ := hrel
    by_cases hlt : i < vs.length
    · have hlt' : (i : Int) < (vs.length : Int) := by omega
      have i0 : (0 : Int) ≤ (i : Int) := by omega
      obtain ⟨gv, rfl, hgv1, hgv2, hgv3, hcv⟩ := row_at V3.len HV.out (by omega)
      have c0 := hcv i hlt 0 (by omega)
      have c1 := hcv i hlt 1 (by omega)
      have c2 := hcv i hlt 2 (by omega)
      rw [← HB.out.cell (p := ⟨gv, _, none⟩) hgv2] at c0 c1 c2
      have hok := HOV.out _ (List.getElem_mem hlt)
      rw [drop_map _ _ _ hlt, orP_wv] at hPi
      obtain ⟨v, hvd⟩ : ∃ v, v = vs[i] := ⟨_, rfl⟩
      rw [← hvd] at c0 c1 c2 hok hPi
      simp only [V3.cells, V3.vf, List.getElem?_cons_zero, List.getElem?_cons_succ, Nat.add_zero] at c0 c1 c2
      simp only [V3.ast] at hPi
      obtain ⟨hrow, hl5, hat⟩ := hok
      clear hcv hvd
      obtain ⟨g', rfl⟩ : ∃ g', gk = g' + 1 := ⟨gk - 1, by omega⟩
      have HPi : Aside (_ = P) := hPi
      have HRow : Aside (w.ownsRow base 3 1 v.vf v.l.length (ints v.l)) := hrow
      clear hPi hrow
      go_wp2_with fail
      go_loopg [5] v.l.length (fun gk kv wr => ∃ k m : Nat, kv = .int .i64 k ∧ k + gk = v.l.length ∧ wr = w1.drewN m ∧ orP (fb v.top v.at_ (v.l.drop k) k) (orP (wv ((vs.map V3.ast).drop (i + 1))) Rest) = P)
      case atStart => exact ⟨0, m, rfl, by omega, rfl, HPi.out⟩
      case round =>
        obtain ⟨k, m', rfl, hkk, rfl, hPk⟩ := hrel
        by_cases hk : k < v.l.length
        · have hk' : (k : Int) < (v.l.length : Int) := by omega
          have k0 : (0 : Int) ≤ (k : Int) := by omega
          obtain ⟨gf, hao, hgf1, hgf2, hgf3, hcf⟩ := ints_at HRow.out (by omega)
          have hck := hcf k hk
          rw [← HB.out.cell (p := ⟨gf, k, none⟩) hgf2] at hck
          rw [hao] at c1
          rw [List.drop_eq_getElem_cons hk, orP_fb] at hPk
          generalize v.l[k] = x at *
          obtain ⟨g2, rfl⟩ : ∃ g2, gk = g2 + 1 := ⟨gk - 1, by omega⟩
          by_cases hx : v.top < x
          · rw [if_pos hx] at hPk
            subst hPk
            have hx' : (v.top : Int) < (x : Int) := by omega
            go_wp2_with fail
            go_quiet (fail)
            go_wp2_with fail
            go_quiet (fail)
            go_wp2
            go_ret2
            refine ⟨?_, ?_⟩
            · first | rfl | (rw [show ((v.at_ + k : Nat) : Int) = (v.at_ : Int) + (k : Int) from by omega]; rfl)
            · first | exact below_drewN HB.out _ | exact below_drewN (below_drewN HB.out _) _ | exact below_drewN (below_drewN (below_drewN HB.out _) _) _
          · rw [if_neg hx] at hPk
            have hx' : ¬ (v.top : Int) < (x : Int) := by omega
            have HPk : Aside (_ = P) := hPk
            clear hPk
            go_wp2_with fail
            go_quiet (fail)
            go_wp2
            go_roundg g2
            case measure => exact Nat.lt_succ_self _
            case rel => exact ⟨k + 1, _, by go_num, by omega, rfl, HPk.out⟩
        · have hk' : ¬ (k : Int) < (v.l.length : Int) := by omega
          have hPk' : orP (wv ((vs.map V3.ast).drop (i + 1))) Rest = P := by
            rw [List.drop_eq_nil_of_le (by omega)] at hPk; exact hPk
          have HPk : Aside (_ = P) := hPk'
          clear hPk hPk'
          go_wp2
          go_roundg g'
          case measure => exact Nat.lt_succ_self _
          case rel => exact ⟨i + 1, _, by go_num, by omega, rfl, HPk.out⟩
    · have hlt' : ¬ (i : Int) < (vs.length : Int) := by omega
      have hPr : Rest = P := by
        rw [List.drop_eq_nil_of_le (by simp; omega)] at hPi; exact hPi
      subst hPr
      clear hPi
      go_wp2_with fail
      have hsz1 : (w1.drewN m).heap.size = w1.heap.size := rfl
      have HB1 : Aside (Below w1.heap.size w1 (w1.drewN m)) := below_drewN (Below.refl _ _) m
      clear hsz1
      generalize w1.drewN m = w2 at *
      go_loopg [6] rs.length (fun gk iv wr => ∃ i : Nat, iv = .int .i64 i ∧ i + gk = rs.length ∧ Below w1.heap.size w1 wr ∧ orP (Go.Proofs.YtkbmolodljenjaaDoor.wr vs.length ((rs.map R2.ast).drop i)) (0, 0) = Rest)
      case atStart => exact ⟨0, rfl, by omega, HB1.out, HRest.out⟩
      case round =>
        clear HRest HB1
        generalize wr = wo at *
        obtain ⟨i, rfl, hik, hbw, hPi⟩ := hrel
        have a0 := (hbw.cell (p := ⟨w.heap.size, 0, none⟩) hsz).trans n0
        have a1 := (hbw.cell (p := ⟨w.heap.size, 1, none⟩) hsz).trans n1
        have hwz : w1.heap.size ≤ wo.heap.size := hbw.size
        have HBW : Aside (Below w1.heap.size w1 wo) := hbw
        clear hbw
        by_cases hlt : i < rs.length
        · have hlt' : (i : Int) < (rs.length : Int) := by omega
          have i0 : (0 : Int) ≤ (i : Int) := by omega
          obtain ⟨gr, rfl, hgr1, hgr2, hgr3, hcr⟩ := row_at R2.len HR.out (by omega)
          have c0 := hcr i hlt 0 (by omega)
          have c1 := hcr i hlt 1 (by omega)
          rw [← HB.out.cell (p := ⟨gr, _, none⟩) hgr2, ← HBW.out.cell (p := ⟨gr, _, none⟩) (by show gr < w1.heap.size; omega)] at c0 c1
          have hok := HOR.out _ (List.getElem_mem hlt)
          have hll := HLC.out _ (List.getElem_mem hlt)
          rw [drop_map _ _ _ hlt, orP_wr] at hPi
          obtain ⟨x, hxd⟩ : ∃ x, x = rs[i] := ⟨_, rfl⟩
          rw [← hxd] at c0 c1 hok hPi hll
          simp only [R2.cells, R2.vi, R2.vd, List.getElem?_cons_zero, List.getElem?_cons_succ, Nat.add_zero] at c0 c1
          simp only [R2.ast] at hPi
          clear hcr hxd
          obtain ⟨g', rfl⟩ : ∃ g', gk = g' + 1 := ⟨gk - 1, by omega⟩
          have HPi : Aside (_ = Rest) := hPi
          have HOK : Aside (R2.Ok w base x) := hok
          have hX := heap_alloc_new wo (.cells #[.slice x.ao x.cl.length x.cap, .slice x.ao' x.dl.length x.cap'] 104)
          obtain ⟨x0, x1, xf⟩ := cell2 hX
          have HBX : Aside (Below wo.heap.size wo (wo.alloc (.cells #[.slice x.ao x.cl.length x.cap, .slice x.ao' x.dl.length x.cap'] 104))) := (Below.refl _ _).alloc (Nat.le_refl _) _
          have hxz : wo.heap.size < (wo.alloc (.cells #[.slice x.ao x.cl.length x.cap, .slice x.ao' x.dl.length x.cap'] 104)).heap.size := by simp
          clear hPi hok hX xf
          go_wp2_with fail
          have b0 := (HBX.out.cell (p := ⟨w.heap.size, 0, none⟩) (by show w.heap.size < wo.heap.size; omega)).trans a0
          have b1 := (HBX.out.cell (p := ⟨w.heap.size, 1, none⟩) (by show w.heap.size < wo.heap.size; omega)).trans a1
          generalize wo.alloc (.cells #[.slice x.ao x.cl.length x.cap, .slice x.ao' x.dl.length x.cap'] 104) = w3 at *
          clear c0 c1 a0 a1
          go_loopg [8] x.cl.length (fun gk kv wq => ∃ k : Nat, kv = .int .i64 k ∧ k + gk = x.cl.length ∧ Below w3.heap.size w3 wq ∧ orP (wc vs.length ((x.cl.map C7.ast).drop k)) (orP (wd vs.length [] (x.dl.map D7.ast)) (orP (Go.Proofs.YtkbmolodljenjaaDoor.wr vs.length ((rs.map R2.ast).drop (i + 1))) (0, 0))) = Rest)
          case atStart => exact ⟨0, rfl, by omega, Below.refl _ _, HPi.out⟩
          case round =>
            clear HPi
            generalize wr = wq at *
            obtain ⟨k, rfl, hkk, hbq, hPk⟩ := hrel
            have e0 := (hbq.cell (p := ⟨w.heap.size, 0, none⟩) (by show w.heap.size < w3.heap.size; omega)).trans b0
            have e1 := (hbq.cell (p := ⟨w.heap.size, 1, none⟩) (by show w.heap.size < w3.heap.size; omega)).trans b1
            have y0 := (hbq.cell (p := ⟨wo.heap.size, 0, none⟩) hxz).trans x0
            have y1 := (hbq.cell (p := ⟨wo.heap.size, 1, none⟩) hxz).trans x1
            have hqz : w3.heap.size ≤ wq.heap.size := hbq.size
            have HBQ : Aside (Below w3.heap.size w3 wq) := hbq
            have HWQ : Aside (Below w.heap.size w wq) := ((HB.out.trans (HBW.out.mono (by omega))).trans (HBX.out.mono (by omega))).trans (hbq.mono (by omega))
            clear hbq
            by_cases hk : k < x.cl.length
            · have hk' : (k : Int) < (x.cl.length : Int) := by omega
              have k0 : (0 : Int) ≤ (k : Int) := by omega
              obtain ⟨gc, hao, hgc1, hgc2, hgc3, hcc⟩ := row_at C7.len HOK.out.1 (by omega)
              have q0 := hcc k hk 0 (by omega)
              have q1 := hcc k hk 1 (by omega)
              have q2 := hcc k hk 2 (by omega)
              have q3 := hcc k hk 3 (by omega)
              have q4 := hcc k hk 4 (by omega)
              have q5 := hcc k hk 5 (by omega)
              rw [← HWQ.out.cell (p := ⟨gc, _, none⟩) hgc2] at q0 q1 q2 q3 q4 q5
              rw [hao] at y0
              clear hao
              rw [drop_map _ _ _ hk, orP_wc] at hPk
              obtain ⟨c, hcd⟩ : ∃ c, c = x.cl[k] := ⟨_, rfl⟩
              rw [← hcd] at q0 q1 q2 q3 q4 q5 hPk
              simp only [C7.cells, List.getElem?_cons_zero, List.getElem?_cons_succ, Nat.add_zero] at q0 q1 q2 q3 q4 q5
              clear hcc hcd
              obtain ⟨g2, rfl⟩ : ∃ g2, gk = g2 + 1 := ⟨gk - 1, by omega⟩
              have z1 : w.heap.size < wq.heap.size := by omega
              have z2 : wo.heap.size < wq.heap.size := by omega
              have z3 : gc < wq.heap.size := by omega
              obtain ⟨U, hU⟩ : ∃ U, unnamed vs.length (c.a0, c.a1, c.a2) (c.b0, c.b1, c.b2) = U := ⟨_, rfl⟩
              replace hPk : (if 0 ≤ U then ((3 : Nat), U) else orP (wc vs.length ((x.cl.map C7.ast).drop (k + 1))) (orP (wd vs.length [] (x.dl.map D7.ast)) (orP (Go.Proofs.YtkbmolodljenjaaDoor.wr vs.length ((rs.map R2.ast).drop (i + 1))) (0, 0)))) = Rest := by rw [← hU]; exact hPk
              have HU : Aside (unnamed vs.length (c.a0, c.a1, c.a2) (c.b0, c.b1, c.b2) = U) := hU
              have HPk : Aside (_ = Rest) := hPk
              clear hPk hU
              go_wp2_with fail
              go_region_held3 (fun w' => ∀ b o, b < wq.heap.size → w'.cell? ⟨b, o, none⟩ = wq.cell? ⟨b, o, none⟩)
                (first
                  | exact fun b o hb => (hbel.cell (p := ⟨b, o, none⟩) hb)
                  | exact fun _ _ _ => rfl
                  | go_keep)
                ((go_at_call 45; refine (unnamed_any vs.length (c.a0, c.a1, c.a2) (c.b0, c.b1, c.b2) _ _ _ _ _).mono ?_; rintro e w5 ⟨rfl, hbel⟩))
              have hU' := HU.out
              have hbel' : Below w3.heap.size w3 w5 := (HBQ.out.drew).trans (hbel.mono hqz)
              have HW5 : Aside (Below w3.heap.size w3 w5 ∧ Below w.heap.size w w5) := ⟨hbel', HWQ.out.drew.trans (hbel.mono (by show w.heap.size ≤ wq.heap.size; omega))⟩
              clear hbel hbel'
              by_cases hU0 : 0 ≤ U
              · have hRe : ((3 : Nat), U) = Rest := by have := HPk.out; rw [if_pos hU0] at this; exact this
                subst hRe
                go_wp2
                go_ret2
                exact ⟨rfl, HW5.out.2⟩
              · have hRe0 := HPk.out
                rw [if_neg hU0] at hRe0
                have HRe : Aside (_ = Rest) := hRe0
                clear hRe0
                go_wp2
                go_roundg g2
                case measure => exact Nat.lt_succ_self _
                case rel => exact ⟨k + 1, by go_num, by omega, HW5.out.1, HRe.out⟩
            · have hk' : ¬ (k : Int) < (x.cl.length : Int) := by omega
              have hPd : orP (wd vs.length ((x.dl.map D7.ast).take 0) ((x.dl.map D7.ast).drop 0)) (orP (Go.Proofs.YtkbmolodljenjaaDoor.wr vs.length ((rs.map R2.ast).drop (i + 1))) (0, 0)) = Rest := by
                rw [List.drop_eq_nil_of_le (by simp; omega)] at hPk; exact hPk
              have HPd : Aside (_ = Rest) := hPd
              clear hPk hPd
              go_wp2_with fail
              go_loopg [10] x.dl.length (fun gk kv wq => ∃ k : Nat, kv = .int .i64 k ∧ k + gk = x.dl.length ∧ Below w3.heap.size w3 wq ∧ orP (wd vs.length ((x.dl.map D7.ast).take k) ((x.dl.map D7.ast).drop k)) (orP (Go.Proofs.YtkbmolodljenjaaDoor.wr vs.length ((rs.map R2.ast).drop (i + 1))) (0, 0)) = Rest)
              case atStart => exact ⟨0, rfl, by omega, HBQ.out, HPd.out⟩
              case round =>
                clear HPd e0 e1 y0 y1 hqz HBQ HWQ
                generalize wr = wz at *
                obtain ⟨k2, rfl, hkk2, hbq, hPk⟩ := hrel
                have e0 := (hbq.cell (p := ⟨w.heap.size, 0, none⟩) (by show w.heap.size < w3.heap.size; omega)).trans b0
                have e1 := (hbq.cell (p := ⟨w.heap.size, 1, none⟩) (by show w.heap.size < w3.heap.size; omega)).trans b1
                have y0 := (hbq.cell (p := ⟨wo.heap.size, 0, none⟩) hxz).trans x0
                have y1 := (hbq.cell (p := ⟨wo.heap.size, 1, none⟩) hxz).trans x1
                have hqz : w3.heap.size ≤ wz.heap.size := hbq.size
                have HBQ : Aside (Below w3.heap.size w3 wz) := hbq
                have HWQ : Aside (Below w.heap.size w wz) := ((HB.out.trans (HBW.out.mono (by omega))).trans (HBX.out.mono (by omega))).trans (hbq.mono (by omega))
                clear hbq
                by_cases hk2 : k2 < x.dl.length
                · have hk2' : (k2 : Int) < (x.dl.length : Int) := by omega
                  have hrow := HWQ.out.ownsRow' HOK.out.2
                  rw [drop_map _ _ _ hk2, orP_wd, ← List.map_take] at hPk
                  obtain ⟨P2, hP2⟩ : ∃ P2, twiceP vs.length ((x.dl.take k2).map D7.ast) (x.dl[k2]).ast = P2 := ⟨_, rfl⟩
                  replace hPk : (if P2.1 = 0 then orP (wd vs.length ((x.dl.take k2).map D7.ast ++ [(x.dl[k2]).ast]) ((x.dl.map D7.ast).drop (k2 + 1))) (orP (Go.Proofs.YtkbmolodljenjaaDoor.wr vs.length ((rs.map R2.ast).drop (i + 1))) (0, 0)) else P2) = Rest := by rw [← hP2]; exact hPk
                  obtain ⟨g2, rfl⟩ : ∃ g2, gk = g2 + 1 := ⟨gk - 1, by omega⟩
                  have HPk : Aside (_ = Rest) := hPk
                  have HROW : Aside (wz.ownsRow base 128 7 x.vd x.dl.length (x.dl.flatMap D7.cells)) := hrow
                  have HP2 : Aside (twiceP vs.length ((x.dl.take k2).map D7.ast) (x.dl[k2]).ast = P2) := hP2
                  have hll2 := hll.2
                  clear hPk hrow hP2
                  go_wp2_with fail
                  refine (twice_any vs.length k2 x.dl _ _ _ x.ao' _ _ _ _ _ x.cap' base hk2 hll2 (by omega) HROW.out).mono ?_
                  rintro e w5 ⟨rfl, hbel⟩
                  rw [HP2.out]
                  have hbel' : Below w3.heap.size w3 w5 := HBQ.out.trans (hbel.mono hqz)
                  have HW5 : Aside (Below w3.heap.size w3 w5 ∧ Below w.heap.size w w5) := ⟨hbel', HWQ.out.trans (hbel.mono (by omega))⟩
                  clear hbel hbel'
                  by_cases hz : P2.1 = 0
                  · have hRe0 := HPk.out
                    rw [if_pos hz] at hRe0
                    have HRe : Aside (_ = Rest) := hRe0
                    clear hRe0
                    rw [hz]
                    clear HPk hz
                    go_wp2
                    go_roundg g2
                    case measure => exact Nat.lt_succ_self _
                    case rel =>
                      refine ⟨k2 + 1, by go_num, by omega, HW5.out.1, ?_⟩
                      rw [← HRe.out, ← List.map_take, List.take_succ_eq_append_getElem hk2, List.map_append]
                      rfl
                  · have hRe : P2 = Rest := by have := HPk.out; rw [if_neg hz] at this; exact this
                    subst hRe
                    have hz' : (((P2.1 : Nat) : Int) != 0) = true := by simp; omega
                    clear hz HPk
                    go_wp2
                    go_ret2
                    exact ⟨rfl, HW5.out.2⟩
                · have hk2' : ¬ (k2 : Int) < (x.dl.length : Int) := by omega
                  have HRe : Aside (orP (Go.Proofs.YtkbmolodljenjaaDoor.wr vs.length ((rs.map R2.ast).drop (i + 1))) (0, 0) = Rest) := by
                    have := hPk
                    rw [List.drop_eq_nil_of_le (by simp; omega)] at this
                    rw [wd] at this
                    exact this
                  have HBO : Aside (Below w1.heap.size w1 wz) := (HBW.out.trans (HBX.out.mono (by omega))).trans (HBQ.out.mono (by omega))
                  clear hPk
                  go_wp2
                  go_roundg g'
                  case measure => exact Nat.lt_succ_self _
                  case rel => exact ⟨i + 1, by go_num, by omega, HBO.out, HRe.out⟩
        · have hlt' : ¬ (i : Int) < (rs.length : Int) := by omega
          have hRe : ((0 : Nat), (0 : Int)) = Rest := by
            rw [List.drop_eq_nil_of_le (by simp; omega)] at hPi; exact hPi
          subst hRe
          have HBO : Aside (Below w.heap.size w wo) := HB.out.trans (HBW.out.mono (by omega))
          clear hPi
          go_wp2
          go_ret2
          exact ⟨rfl, HBO.out⟩
end
end Go.Proofs.YtkbmolodljenjaaDoor

/- A state's text. Our own text. -/
namespace Go.Proofs.YtkbmolodljenjaaDoor
open Go.RowKit Go.Lib

theorem info5 : (Tryd.prog.info? 5).map (fun i => (i.zero, i.size, i.bytes)) = some (some (.int .u8 0), 1, 1) := by kernel_rfl
theorem info9 : (Tryd.prog.info? 9).map (fun i => (i.zero, i.size, i.bytes)) = some (some (.string ByteArray.empty), 1, 16) := by kernel_rfl
def strs (l : List (List Nat)) : List Value := l.map (fun d => .string (txtL d))
theorem strs_append (a b : List (List Nat)) : strs (a ++ b) = strs a ++ strs b := by simp [strs]
def dby (l : List Nat) : List Value := l.map (fun d : Nat => .int .u8 ((48 + d : Nat) : Int))
theorem digs_succ (n x : Nat) : digs (n + 1) x = digs n x ++ [dig x n] := by simp [digs, List.range_succ]
theorem digs_length (n x : Nat) : (digs n x).length = n := by simp [digs]
theorem digs_lt {n x : Nat} : ∀ d ∈ digs n x, d < 4 := by
  intro d hd
  simp [digs] at hd
  obtain ⟨k, _, rfl⟩ := hd
  exact dig_lt _ _

set_option maxRecDepth 100000 in
set_option maxHeartbeats 1000000 in
theorem text_any (B x n : Nat) (hx : x < 64) (h1 : 1 ≤ n) (hn : n ≤ 3) (w : World) (hc : w.cell? ⟨B, 6, none⟩ = some (.int .i64 n)) :
    Calls Tryd.prog 48 #[.pointer (some ⟨B, 0, none⟩), .int .u8 x] w fun e w' => e = .returned (.string (txtL (digs n x))) ∧ Below w.heap.size w w' := by
  obtain ⟨i0, hi, hz0, hz1, hz2⟩ := info_parts info5
  go_enter Tryd.func48, Tryd.ntmps48
  go_wp2
  go_loopg [5, 11] n (fun gk dv iv wr => ∃ i : Nat, iv = .int .i64 i ∧ i + gk = n ∧ wr.ownsRow w.heap.size 5 1 dv i (dby (digs i x)) ∧ Below w.heap.size w wr)
  case atStart => exact ⟨0, rfl, by omega, World.ownsRow_nil _ _ _ _, Below.refl _ _⟩
  case round =>
    obtain ⟨i, rfl, hik, hrow, hB⟩ := hrel
    by_cases hlt : i < n
    · have hlt' : (i : Int) < (n : Int) := by omega
      obtain ⟨g', rfl⟩ : ∃ g', gk = g' + 1 := ⟨gk - 1, by omega⟩
      have hd := dig_lt x i
      go_wp2_with fail
      refine (value_any x i hx (by omega) wr).mono ?_
      rintro e w' ⟨rfl, rfl⟩
      have HD : Put (digs (i + 1) x = digs i x ++ [dig x i]) := ⟨digs_succ i x⟩
      generalize dig x i = d at hd HD
      go_wp2_with (at_builtin; refine wpList_append_own _ rfl _ _ 132 rfl w.heap.size 5 i0 _ 1 1 Tryd.underlying132 hi hz0 hz1 hz2 rfl Nat.one_pos u5 i (dby (digs i x)) rfl (hrow.alloc _) ⟨w'.heap.size, 0, none⟩ 1 1 [.int .u8 (48 + (d : Int))] rfl rfl (cell_one_new _ _ _) ?c2 ?c3 ?c4 ?c5 ?_)
      case c2 => intro u hu; simp at hu; subst hu; rfl
      case c3 => unfold maxLen; omega
      case c4 => omega
      case c5 => have := hB.size; simp; omega
      intro v' w5 hown' hgrow _
      obtain ⟨g5, cap5, rfl⟩ := ownsRow_succ hown'
      have hB5 : Below w.heap.size w w5 := (hB.alloc hB.size _).grown hgrow (by have := hB.size; simp; omega) (fun k e => (hrow.lt k e).1)
      have hr5 : w5.ownsRow w.heap.size 5 1 (.slice (some ⟨g5, 0, none⟩) (i + 1) cap5) (i + 1) (dby (digs (i + 1) x)) := by
        rw [HD.out]; simpa [dby] using hown'
      clear hown' hgrow hrow hB
      go_wp2
      go_roundg g'
      case measure => exact Nat.lt_succ_self _
      case rel => exact ⟨i + 1, by go_num, by omega, hr5, hB5⟩
    · obtain rfl : i = n := by omega
      have hlt' : ¬ (i : Int) < (i : Int) := by omega
      obtain ⟨k, rfl⟩ : ∃ k, i = k + 1 := ⟨i - 1, by omega⟩
      obtain ⟨g5, cap5, rfl⟩ := ownsRow_succ hrow
      have hcv := run_convert_bytes_back (P := Tryd.prog) wr 132 9 5 ⟨g5, 0, none⟩ cap5 ((digs (k + 1) x).map (fun d => UInt8.ofNat (48 + d))) Tryd.underlying132 Tryd.underlying5 Tryd.underlying9 (by
        intro j hj
        have hj' : j < (digs (k + 1) x).length := by simpa using hj
        have hl := digs_lt (x := x) _ (List.getElem_mem hj')
        have := hrow.cells (g := g5) rfl j (.int .u8 ((48 + (digs (k + 1) x)[j] : Nat) : Int)) (by simp [dby, List.getElem?_eq_getElem hj'])
        rw [this]
        simp
        omega)
      have e : (k + 1 : Nat) = ((digs (k + 1) x).map (fun d => UInt8.ofNat (48 + d))).length := by simp [digs_length]
      rw [← e] at hcv
      have hcv' : (convert 132 9 (.slice (some ⟨g5, 0, none⟩) (k + 1) cap5)).run Tryd.prog wr = .ok (.string (txtL (digs (k + 1) x))) wr := hcv
      clear e hcv
      go_wp2
      go_ret
      exact ⟨rfl, hB⟩
end Go.Proofs.YtkbmolodljenjaaDoor
