import Derived.Test.YtgoebckimmofoaaDoorP22
import Derived.Test.YtgoebckimmofoaaDoorP13
import Derived.Test.YtgoebckimmofoaaDoorP12
/- The code: which state of a lasso may not stand where it does. Our own text. -/
namespace Go.Proofs.YtgoebckimmofoaaDoor
open Go.RowKit Go.Lib

theorem has64_any (m n : Nat) (hm : m < 18446744073709551616) (hn : n < 64) (w : World) :
    Calls Tryd.prog 38 #[.int .u64 m, .int .i64 n] w fun e w' => e = .returned (.bool (m.testBit n)) ∧ w' = w := by
  have hb := bits_and_u64_nat m (2 ^ n) hm (pow_lt64 hn)
  have ht : ((((m &&& 2 ^ n : Nat) : Int)) != 0) = m.testBit n := by
    cases h : m.testBit n with
    | true =>
      have h1 : (m &&& 2 ^ n).testBit n = true := by rw [Nat.testBit_and, h, Nat.testBit_two_pow_self]; rfl
      have : m &&& 2 ^ n ≠ 0 := fun e => by rw [e] at h1; simp at h1
      simp; omega
    | false =>
      have : m &&& 2 ^ n = 0 := by
        apply Nat.eq_of_testBit_eq
        intro i
        rw [Nat.testBit_and, Nat.testBit_two_pow, Nat.zero_testBit]
        by_cases e : n = i
        · subst e; rw [h]; rfl
        · simp [e]
      rw [this]; rfl
  have HT : Put (_ = _) := ⟨ht⟩
  clear ht
  go_enter Tryd.func38, Tryd.ntmps38
  go_wp2_with fail
  refine (one64_any n hn w).mono ?_
  rintro e w' ⟨rfl, rfl⟩
  go_wp2
  go_ret
  refine ⟨?_, rfl⟩
  show Ending.returned (Value.bool (bits .and .u64 (m : Int) ((2 ^ n : Nat) : Int) != 0)) = _
  rw [hb, HT.out]

theorem GR.up {s : ByteArray} {va : List VA} {ra : List RA} {w w1 W : World} {M : Nat} {f : Nat → Nat} {ao : Option Addr} {cap N : Nat} {vals : List Value} (h : GR s va ra w w1 M f ao cap N vals) (hb : Below w1.heap.size w1 W) : GR s va ra w W M f ao cap N vals :=
  ⟨h.lo, Nat.lt_of_lt_of_le h.hi hb.size, h.mc.below hb h.hi, h.f16, h.fb, (hb.cell (p := ⟨M, 7, none⟩) h.hi).trans h.c7, hb.ownsRow' h.row, h.mean.mono (fun _ _ g => g.kp (Kp.of_below hb)), h.l8, h.below.trans (hb.mono h.below.size)⟩

theorem GR.upK {s : ByteArray} {va : List VA} {ra : List RA} {w w1 W : World} {M b : Nat} {f : Nat → Nat} {ao : Option Addr} {cap N : Nat} {vals : List Value} (h : GR s va ra w w1 M f ao cap N vals) (hb : Below b w1 W) (hM : M < b) (hk : Kp N w1 W) (hrow : W.ownsRow w.heap.size 116 1 (.slice ao ra.length cap) ra.length vals) (hbw : w.heap.size ≤ b) : GR s va ra w W M f ao cap N vals :=
  ⟨h.lo, Nat.lt_of_lt_of_le h.hi hb.size, h.mc.below hb hM, h.f16, h.fb, (hb.cell (p := ⟨M, 7, none⟩) hM).trans h.c7, hrow, h.mean.mono (fun _ _ g => g.kp hk), h.l8, h.below.trans (hb.mono hbw)⟩
/-- The first that may not stand where it does. -/
def strayP (nx : Nat → Nat) : Nat → Nat → List Nat → Option Nat
  | _, _, [] => none
  | may, i, y :: l => if may.testBit y then strayP nx (nx y) (i + 1) l else some i
def strayE (R : Option Nat) : Ending := match R with
  | some i => .returned (.tuple #[.int .i64 (i : Nat), .bool true])
  | none => .returned (.tuple #[.int .i64 0, .bool false])
def u8s (l : List Nat) : List Value := l.map (fun y => Value.int .u8 (y : Nat))
theorem u8s_flat : ∀ l : List Nat, u8s l = l.flatMap (fun y => [Value.int .u8 (y : Nat)])
  | [] => rfl
  | a :: l => by
    have := u8s_flat l
    unfold u8s at *
    simp [this]
theorem info64s : (Tryd.prog.info? 64).map (fun i => (i.zero, i.size, i.bytes)) = some (some (.int .u8 0), 1, 1) := by kernel_rfl
theorem u8_oneCell (y : Int) : ∀ u ∈ [Value.int .u8 y], u.oneCell' = true := by
  intro u hu; simp at hu; subst hu; rfl

/-- What the rules make together, of a good model. -/
def nxtS (s : ByteArray) (va : List VA) (ra : List RA) (y : Nat) : Nat := nxS (ra.map (ruP s (GvA va))) y
theorem nxtS_lt {s : ByteArray} {va : List VA} {ra : List RA} (hg : GoodA va ra) {y : Nat} (hy : y < 64) : nxtS s va ra y < 18446744073709551616 :=
  nxS_lt hy (fun ρ hρ => by obtain ⟨r, hr, rfl⟩ := List.mem_map.1 hρ; exact ruP_lt hg hr hy)
theorem GR.next {s : ByteArray} {va : List VA} {ra : List RA} {w W : World} {M : Nat} {f : Nat → Nat} {ao : Option Addr} {cap N : Nat} {vals : List Value} (h : GR s va ra w W M f ao cap N vals) (hg : GoodA va ra) (h0 : 0 < W.heap.size) (hT : Tab W) {y : Nat} (hy : y < 64) :
    Calls Tryd.prog 29 #[.pointer (some ⟨M, 0, none⟩), .int .u8 y] W fun e w' => e = .returned (.int .u64 (nxtS s va ra y : Nat)) ∧ Below W.heap.size W w' := by
  have hlen := h.mean.length
  have hm : All2 (fun v ρ => Fn1 W v (fun x => .int .u64 (ρ x : Nat))) vals (ra.map (ruP s (GvA va))) := All2.mapr (h.mean.mono (fun _ _ g => g.fn1 h0 hT))
  exact next_any M y hy W ao cap w.heap.size vals (ra.map (ruP s (GvA va))) h.hi (by have := h.l8; omega) (by rw [hlen]; exact h.c7) (by rw [hlen]; exact h.row) hm (fun ρ hρ => by obtain ⟨r, hr, rfl⟩ := List.mem_map.1 hρ; exact ruP_lt hg hr hy)

set_option maxRecDepth 100000 in
set_option maxHeartbeats 1600000 in
theorem stray_any {s : ByteArray} {va : List VA} {ra : List RA} {w W : World} {M : Nat} {f : Nat → Nat} {ao : Option Addr} {cap N : Nat} {vals : List Value} (hR : GR s va ra w W M f ao cap N vals) (hg : GoodA va ra) (h0 : 0 < W.heap.size) (hT : Tab W)
    (xs : List Nat) (loop : Nat) (v : Value) (hx : ∀ y ∈ xs, y < 64) (hl : loop < xs.length) (h7 : xs.length ≤ 7000) (b : Nat) (hwb : w.heap.size ≤ b) (hbM : M < b) (hb0 : 0 < b) (hbw : b ≤ W.heap.size) (hrow : W.ownsRow b 64 1 v xs.length (u8s xs)) :
    Calls Tryd.prog 21 #[.pointer (some ⟨M, 0, none⟩), v, .int .i64 loop] W fun e w' => e = strayE (strayP (nxtS s va ra) (frs f va.length) 0 (xs ++ [xs[loop]])) ∧ Below b W w' := by
  obtain ⟨ys, hys⟩ : ∃ ys, ys = xs ++ [xs[loop]] := ⟨_, rfl⟩
  have hy64 : ∀ y ∈ ys, y < 64 := fun y hy => by
    rw [hys] at hy
    rcases List.mem_append.1 hy with hy | hy
    · exact hx y hy
    · simp at hy; rw [hy]; exact hx _ (List.getElem_mem hl)
  have hyl : ys.length = xs.length + 1 := by rw [hys]; simp
  rw [← hys]
  obtain ⟨ao1, cap1, rfl⟩ := owned_slice' hrow
  obtain ⟨g, rfl, hg1, hg2, hg3, hcell⟩ : ∃ g, ao1 = some ⟨g, 0, none⟩ ∧ b ≤ g ∧ g < W.heap.size ∧ xs.length ≤ cap1 ∧ ∀ k (hk : k < xs.length), W.cell? ⟨g, k, none⟩ = some (.int .u8 (xs[k] : Nat)) := by
    rw [u8s_flat] at hrow
    obtain ⟨g, h1, h3, h4, h5, h6⟩ := row_at (z := 1) (fun _ => rfl) hrow (by omega)
    exact ⟨g, h1, h3, h4, h5, fun k hk => by have := h6 k hk 0 (by omega); simpa using this⟩
  have hcl := hcell loop hl
  have HR : Put (_) := ⟨hR⟩
  have HG : Put (_) := ⟨hg⟩
  have HY : Put (_ = _) := ⟨hys⟩
  have HY64 : Put (_) := ⟨hy64⟩
  have HROW : Put (_) := ⟨hrow⟩
  have i0 : (0 : Int) ≤ (loop : Int) := by omega
  have i1 : (loop : Int) < (xs.length : Int) := by omega
  obtain ⟨j0, hi, hz0, hz1, hz2⟩ := info_parts info64s
  have hF := first_any M va.length (GvA va) f hg.l1 hg.l3 hR.f16 W hR.mc hR.hi hT
  have hFL := frs_lt f va.length hg.l3
  obtain ⟨F, hF0⟩ : ∃ F, F = frs f va.length := ⟨_, rfl⟩
  rw [← hF0] at hFL hF ⊢
  rw [p64] at hFL
  obtain ⟨R, hRr⟩ : ∃ R, R = strayP (nxtS s va ra) F 0 ys := ⟨_, rfl⟩
  rw [← hRr]
  have HRr : Put (_ = _) := ⟨hRr⟩
  clear hR hg hys hy64 hrow hcell hF0 hRr
  go_enter Tryd.func21, Tryd.ntmps21
  go_wp2_with fail
  refine hF.mono ?_
  rintro e w1 ⟨rfl, hb1⟩
  clear hF
  have hcl1 := (hb1.cell (p := ⟨g, loop, none⟩) hg2).trans hcl
  have HROW1 : Put (_) := ⟨hb1.ownsRow' HROW.out⟩
  have hs1 := hb1.size
  clear HROW hcl
  go_wp2_with (at_builtin; refine wpList_append_own _ rfl _ _ 52 rfl b 64 j0 _ 1 1 Tryd.underlying52 hi hz0 hz1 hz2 rfl Nat.one_pos _ _ _ rfl (HROW1.out.alloc _) ⟨w1.heap.size, 0, none⟩ 1 1 [.int .u8 (xs[loop] : Nat)] rfl rfl (cell_one_new _ _ _) (u8_oneCell _) (by unfold maxLen; omega) (by omega) (by simp; omega) ?_)
  intro v' w2 hown' hgrow _
  obtain ⟨g5, cap5, rfl⟩ := ownsRow_succ hown'
  have hys5 : u8s xs ++ [.int .u8 (xs[loop] : Nat)] = u8s ys := by rw [HY.out]; simp [u8s]
  rw [hys5] at hown'
  have hb2 : Below b W w2 := ((hb1.mono hbw).alloc (by omega) _).grown hgrow (by simp; omega) (ge_own (Nat.le_refl _) HROW1.out)
  have hk2 : ∀ Z, Kp Z W w2 := fun Z => ((Kp.of_below hb1).trans (Kp.alloc Z _ _)).trans (Kp.grown (HROW1.out.alloc _) (.inl (by decide)) hgrow)
  have HR2 : Put (GR s va ra w w2 M f ao cap N vals) := ⟨HR.out.upK hb2 hbM (hk2 N) (((hb1.ownsRow' HR.out.row).alloc _).kept hgrow (apart_of_types (hb1.ownsRow' HR.out.row) HROW1.out (by decide))) hwb⟩
  have hT2 : Tab w2 := hT.below hb2 hb0
  have hs2 : 0 < w2.heap.size := Nat.lt_of_lt_of_le h0 hb2.size
  obtain ⟨gy, hgy, hgy1, hgy2, _, hcy⟩ : ∃ gy, some (⟨g5, 0, none⟩ : Addr) = some ⟨gy, 0, none⟩ ∧ b ≤ gy ∧ gy < w2.heap.size ∧ ys.length ≤ cap5 ∧ ∀ k (hk : k < ys.length), w2.cell? ⟨gy, k, none⟩ = some (.int .u8 (ys[k] : Nat)) := by
    rw [u8s_flat, ← hyl] at hown'
    obtain ⟨g, h1, h3, h4, h5, h6⟩ := row_at (z := 1) (fun _ => rfl) hown' (by omega)
    exact ⟨g, h1, h3, h4, h5, fun k hk => by have := h6 k hk 0 (by omega); simpa using this⟩
  obtain rfl : g5 = gy := by simpa using hgy
  have HCY : Put (_) := ⟨hcy⟩
  have HB2 : Put (_) := ⟨hb2⟩
  clear hcy hown' hgrow hk2 hb2 hb1 HR HROW1 hcl1 hgy hys5
  go_wp2_with fail
  go_loopg [8, 21] ys.length (fun gk mv iv wr => ∃ (i m : Nat), iv = .int .i64 i ∧ mv = .int .u64 m ∧ i + gk = ys.length ∧ m < 18446744073709551616 ∧ Below w2.heap.size w2 wr ∧ R = strayP (nxtS s va ra) m i (ys.drop i))
  case atStart => exact ⟨0, F, rfl, rfl, by omega, hFL, Below.refl _ _, by rw [List.drop_zero]; exact HRr.out⟩
  case round =>
    clear HRr
    obtain ⟨i, m, rfl, rfl, hik, hm, hBr, hRi⟩ := hrel
    have hsr := hBr.size
    by_cases hlt : i < ys.length
    · have hlt' : (i : Int) < (xs.length : Int) + 1 := by omega
      have k0 : (0 : Int) ≤ (i : Int) := by omega
      obtain ⟨g', rfl⟩ : ∃ g', gk = g' + 1 := ⟨gk - 1, by omega⟩
      have q := (hBr.cell (p := ⟨g5, i, none⟩) hgy2).trans (HCY.out i hlt)
      have hy := HY64.out _ (List.getElem_mem hlt)
      rw [List.drop_eq_getElem_cons hlt, strayP] at hRi
      have HNX : Put (_) := ⟨(HR2.out.up hBr).next HG.out (Nat.lt_of_lt_of_le hs2 hsr) (hT2.below hBr hs2) hy⟩
      have hnl := nxtS_lt (s := s) HG.out hy
      generalize ys[i] = y at *
      have HRi : Put (_ = _) := ⟨hRi⟩
      clear hRi
      cases hb : m.testBit y with
      | true =>
        have HRj : Put (R = strayP (nxtS s va ra) (nxtS s va ra y) (i + 1) (ys.drop (i + 1))) := ⟨by have := HRi.out; rw [hb] at this; exact this⟩
        clear HRi
        go_wp2_with fail
        refine (has64_any m y hm hy _).mono ?_
        rintro e w3 ⟨rfl, rfl⟩
        rw [hb]
        go_wp2_with fail
        refine HNX.out.mono ?_
        rintro e w4 ⟨rfl, hb4⟩
        have hB4 := hBr.trans (hb4.mono hsr)
        clear hb4 hBr HNX
        generalize nxtS s va ra y = m2 at *
        go_wp2
        go_roundg g'
        case measure => exact Nat.lt_succ_self _
        case rel => exact ⟨i + 1, m2, by go_num, rfl, by omega, hnl, hB4, HRj.out⟩
      | false =>
        have HRj : Put (R = some i) := ⟨by have := HRi.out; rw [hb] at this; exact this⟩
        clear HRi
        go_wp2_with fail
        refine (has64_any m y hm hy _).mono ?_
        rintro e w3 ⟨rfl, rfl⟩
        rw [hb]
        have FIN : Put (Below b W w3) := ⟨HB2.out.trans (hBr.mono (Nat.le_trans hbw HB2.out.size))⟩
        clear hBr HNX
        go_wp2
        go_ret2
        exact ⟨by rw [HRj.out]; rfl, FIN.out⟩
    · obtain rfl : i = ys.length := by omega
      have hlt' : ¬ ((ys.length : Int) < (xs.length : Int) + 1) := by omega
      rw [List.drop_length] at hRi
      have HRj : Put (R = none) := ⟨hRi⟩
      have FIN : Put (Below b W wr) := ⟨HB2.out.trans (hBr.mono (Nat.le_trans hbw HB2.out.size))⟩
      clear hRi hBr
      go_wp2
      go_ret2
      exact ⟨by rw [HRj.out]; rfl, FIN.out⟩
end Go.Proofs.YtgoebckimmofoaaDoor

/- The code: the states of a lasso's list. Our own text. -/
namespace Go.Proofs.YtgoebckimmofoaaDoor
open Go.RowKit Go.Lib

theorem made_u8s (n : Nat) : (madeCells #[Value.int .u8 0] n).toList = u8s (List.replicate n 0) := by
  apply List.ext_getElem
  · simp [madeCells, u8s]
  · intro i h1 h2
    simp [madeCells, u8s, Nat.mod_one]
theorem u8s_set (l : List Nat) (i x : Nat) : (u8s l).set i (.int .u8 (x : Nat)) = u8s (l.set i x) := by simp [u8s, List.map_set]
theorem fill_next (xs : List Nat) (k x : Nat) : (xs ++ List.replicate (k + 1) 0).set xs.length x = (xs ++ [x]) ++ List.replicate k 0 := by
  simp [List.replicate_succ]

theorem IsS.okS {st : ByteArray} {n : Nat} {g : Nat → Nat} {x : Nat} (h : IsS st n g x) : OkS st n g :=
  ⟨h.2.1, fun k hk => by have := h.2.2.1 k hk; omega⟩
/-- How lasso ends. -/
def LassoPost (L : List ByteArray) (loop : Int) (n : Nat) (g : Nat → Nat) (W : World) (e : Ending) (w' : World) : Prop :=
  Below W.heap.size W w' ∧
  ((7000 < L.length ∧ e = .returned (.tuple #[.slice none 0 0, .int .i64 1, .int .i64 0])) ∨
   (L.length ≤ 7000 ∧ ∃ (i : Nat) (hi : i < L.length), ¬ OkS L[i] n g ∧ (∀ j (hj : j < i), OkS (L[j]'(Nat.lt_trans hj hi)) n g) ∧ e = .returned (.tuple #[.slice none 0 0, .int .i64 8, .int .i64 (i : Nat)])) ∨
   (L.length ≤ 7000 ∧ (∀ s ∈ L, OkS s n g) ∧ ¬ (0 ≤ loop ∧ loop < (L.length : Int)) ∧ e = .returned (.tuple #[.slice none 0 0, .int .i64 9, .int .i64 0])) ∨
   (L.length ≤ 7000 ∧ 0 ≤ loop ∧ loop < (L.length : Int) ∧ ∃ (xs : List Nat) (v : Value) (hx : xs.length = L.length), (∀ i (hi : i < L.length), IsS L[i] n g (xs[i]'(by omega))) ∧ w'.ownsRow W.heap.size 64 1 v xs.length (u8s xs) ∧ e = .returned (.tuple #[v, .int .i64 0, .int .i64 0])))

set_option maxRecDepth 100000 in
set_option maxHeartbeats 1600000 in
theorem lasso_any (M n : Nat) (g f : Nat → Nat) (hn : n ≤ 3) (hg : ∀ k, g k ≤ 3) (L : List ByteArray) (hL : ∀ s ∈ L, s.size ≤ maxLen) (loop : Int) (v : Value) (bL : Nat) (W : World) (hm : MC M g f n W) (hM : M < W.heap.size) (hrow : W.ownsRow bL 9 1 v L.length (bys L)) :
    Calls Tryd.prog 20 #[.pointer (some ⟨M, 0, none⟩), .agg #[v, .int .i64 loop]] W (LassoPost L loop n g W) := by
  have hlen := own_len hrow
  obtain ⟨aoL, capL, rfl⟩ := owned_slice' hrow
  have hbx := heap_alloc_new W (.cells #[.slice aoL L.length capL, .int .i64 loop] 33)
  have hB1 : Below W.heap.size W (W.alloc (.cells #[.slice aoL L.length capL, .int .i64 loop] 33)) := (Below.refl _ _).alloc (Nat.le_refl _) _
  have q0 := two_cell0 hbx
  have q1 := two_cell1 hbx
  have hsz1 : (W.alloc (.cells #[.slice aoL L.length capL, .int .i64 loop] 33)).heap.size = W.heap.size + 1 := by simp
  by_cases h7 : 7000 < L.length
  · have h7' : (7000 : Int) < (L.length : Int) := by omega
    have HB : Put (_) := ⟨hB1⟩
    clear hm hrow hbx hB1
    go_enter Tryd.func20, Tryd.ntmps20
    go_wp2
    refine bodyPost_ret (v := .tuple #[.slice none 0 0, .int .i64 1, .int .i64 0]) (by simp [results, Tryd.results20, go_sem]) rfl ?_
    exact ⟨HB.out, .inl ⟨h7, rfl⟩⟩
  · have h7' : ¬ (7000 : Int) < (L.length : Int) := by omega
    obtain ⟨j0, hi, hz0, hz1, hz2⟩ := info_parts info64s
    have HM : Put (_) := ⟨hm⟩
    have HROW : Put (_) := ⟨hrow⟩
    have HBX : Put (_ ∧ _) := ⟨hbx, hB1⟩
    have HL : Put (_) := ⟨hL⟩
    clear hm hrow hbx hB1 hL
    go_enter Tryd.func20, Tryd.ntmps20
    go_wp2_with (at_make; refine wpList_make_full _ rfl _ _ 52 rfl W.heap.size 64 j0 _ 1 Tryd.underlying52 hi hz0 hz1 .i64 .i64 _ _ L.length rfl rfl rfl rfl (by rw [hz2]; omega) (by unfold maxLen; omega) (by simp) ?_)
    intro w2 hown hgr
    rw [made_u8s] at hown
    have hB2 : Below W.heap.size W w2 := HBX.out.2.grown hgr (by simp) (fun k h => by cases h)
    have hbox2 : w2.heap[W.heap.size]? = some (.cells #[.slice aoL L.length capL, .int .i64 loop] 33 (0, 0)) := (hgr.block W.heap.size (by simp) (by simp)).trans HBX.out.1
    have q0' := two_cell0 hbox2
    have HO : Put (_) := ⟨hown⟩
    have HB2 : Put (_ ∧ _) := ⟨hB2, hbox2⟩
    clear hown hgr hB2 hbox2 HBX q0 q1
    clear hsz1
    go_wp2_with fail
    go_loopg [23] L.length (fun gk iv wr => ∃ (i : Nat) (xs : List Nat), iv = .int .i64 i ∧ i + gk = L.length ∧ xs.length = i ∧ Put (∀ k (hk : k < xs.length) (hk' : k < L.length), IsS L[k] n g xs[k]) ∧ Below W.heap.size W wr ∧ Put (wr.ownsRow W.heap.size 64 1 (.slice (some ⟨W.heap.size + 1, 0, none⟩) L.length L.length) L.length (u8s (xs ++ List.replicate gk 0))) ∧ Put (wr.heap[W.heap.size]? = some (.cells #[.slice aoL L.length capL, .int .i64 loop] 33 (0, 0))))
    case atStart => exact ⟨0, [], rfl, by omega, rfl, ⟨fun k hk => absurd hk (Nat.not_lt_zero _)⟩, HB2.out.1, ⟨by simpa using HO.out⟩, ⟨HB2.out.2⟩⟩
    case round =>
      clear HB2 HO
      obtain ⟨i, xs, rfl, hik, hxl, HI, hBr, HO, HX⟩ := hrel
      have hsr := hBr.size
      have hMr : M < wr.heap.size := Nat.lt_of_lt_of_le hM hsr
      by_cases hlt : i < L.length
      · have hlt' : (i : Int) < (L.length : Int) := by omega
        have k0 : (0 : Int) ≤ (i : Int) := by omega
        obtain ⟨g', rfl⟩ : ∃ g', gk = g' + 1 := ⟨gk - 1, by omega⟩
        obtain ⟨gL, capL', eL, hgL1, hgL2, hgL3, hcL⟩ := bys_at HROW.out (by omega)
        obtain ⟨rfl, rfl⟩ : aoL = some ⟨gL, 0, none⟩ ∧ capL = capL' := by simpa using eL
        have q := (hBr.cell (p := ⟨gL, i, none⟩) hgL2).trans (hcL i hlt)
        have HST : Put (_) := ⟨state_any M n g f hn hg L[i] (HL.out _ (List.getElem_mem hlt)) wr (HM.out.below hBr hM) hMr⟩
        have hbw := lt_of_block HX.out
        rcases HO.out.2 with ⟨h, _⟩ | ⟨gO, capO, cur, eO, hgO, hgO', hcO, r⟩
        · cases h
        obtain ⟨rfl, rfl⟩ : W.heap.size + 1 = gO ∧ L.length = capO := by simpa using eO
        clear eL hcL eO
        go_wp2_with fail
        refine HST.out.mono ?_
        rintro e w3 ⟨hres, hb3⟩
        have hB3 : Below W.heap.size W w3 := hBr.trans (hb3.mono hsr)
        have HX3 : Put (_) := ⟨(hb3.block _ hbw).trans HX.out⟩
        have HO3 : Put (_) := ⟨hb3.ownsRow' HO.out⟩
        have hgO3 := (hb3.block _ (lt_of_block hgO')).trans hgO'
        clear hb3 hBr HST q
        rcases hres with ⟨x, hx, rfl⟩ | ⟨hno, z, rfl⟩
        · obtain ⟨_, hcs, _⟩ := r
          have hics : i < cur.size := by omega
          have c1 : w3.cell? ⟨W.heap.size + 1, i, none⟩ = some cur[i] := by simp [World.cell?, hgO3, Array.getElem?_eq_getElem hics]
          have f1 : w3.frozen? ⟨W.heap.size + 1, i, none⟩ = false := by simp [World.frozen?, hgO3]
          have HN : Put ((w3.setCell ⟨W.heap.size + 1, i, none⟩ (.int .u8 (x : Nat))).ownsRow W.heap.size 64 1 (.slice (some ⟨W.heap.size + 1, 0, none⟩) L.length L.length) L.length (u8s ((xs ++ [x]) ++ List.replicate g' 0))) := ⟨by
            have := (HO3.out.stored i (.int .u8 (x : Nat))).1
            rw [u8s_set] at this
            have e := fill_next xs g' x
            rw [hxl] at e
            rw [e] at this
            exact this⟩
          have HI' : Put (∀ k (hk : k < (xs ++ [x]).length) (hk' : k < L.length), IsS L[k] n g (xs ++ [x])[k]) := ⟨fun k hk hk' => by
            by_cases e : k < xs.length
            · rw [List.getElem_append_left e]; exact HI.out k e hk'
            · obtain rfl : k = i := by simp at hk; omega
              have : (xs ++ [x])[k]'hk = x := by simp [hxl]
              rw [this]; exact hx⟩
          have HX' : Put ((w3.setCell ⟨W.heap.size + 1, i, none⟩ (.int .u8 (x : Nat))).heap[W.heap.size]? = some (.cells #[.slice (some ⟨gL, 0, none⟩) L.length capL, .int .i64 loop] 33 (0, 0))) := ⟨(heap_setCell_other _ _ _ _ (by show W.heap.size ≠ W.heap.size + 1; omega)).trans HX3.out⟩
          have hB4 := hB3.setCell (p := ⟨W.heap.size + 1, i, none⟩) (by show W.heap.size ≤ W.heap.size + 1; omega) (.int .u8 (x : Nat))
          have hxl' : (xs ++ [x]).length = i + 1 := by simp [hxl]
          clear hB3 HX3 HO3 hgO3 hgO' HO HX HI hcs hx
          go_wp2
          go_roundg g'
          case measure => exact Nat.lt_succ_self _
          case rel => exact ⟨i + 1, xs ++ [x], by go_num, by omega, hxl', HI', hB4, HN, HX'⟩
        · have FIN : Put (LassoPost L loop n g W (.returned (.tuple #[.slice none 0 0, .int .i64 8, .int .i64 (i : Nat)])) w3) := ⟨hB3, .inr (.inl ⟨by omega, i, hlt, hno, fun j hj => (HI.out j (by omega) (by omega)).okS, rfl⟩)⟩
          clear hB3 HX3 HO3 hgO3 hgO' HO HX HI hno
          go_wp2
          refine bodyPost_ret (v := .tuple #[.slice none 0 0, .int .i64 8, .int .i64 (i : Nat)]) (by simp [results, Tryd.results20, go_sem]) rfl ?_
          exact FIN.out
      · obtain rfl : i = L.length := by omega
        have hlt' : ¬ ((L.length : Int) < (L.length : Int)) := by omega
        obtain rfl : gk = 0 := by omega
        have q1 := two_cell1 HX.out
        have hok : ∀ s ∈ L, OkS s n g := fun s hs => by
          obtain ⟨k, hk, rfl⟩ := List.getElem_of_mem hs
          exact (HI.out k (by omega) hk).okS
        by_cases hlo : loop < 0
        · have FIN : Put (LassoPost L loop n g W (.returned (.tuple #[.slice none 0 0, .int .i64 9, .int .i64 0])) wr) := ⟨hBr, .inr (.inr (.inl ⟨by omega, hok, by omega, rfl⟩))⟩
          clear HI HO HX hBr hok
          go_wp2
          refine bodyPost_ret (v := .tuple #[.slice none 0 0, .int .i64 9, .int .i64 0]) (by simp [results, Tryd.results20, go_sem]) rfl ?_
          exact FIN.out
        · by_cases hhi : (L.length : Int) ≤ loop
          · have FIN : Put (LassoPost L loop n g W (.returned (.tuple #[.slice none 0 0, .int .i64 9, .int .i64 0])) wr) := ⟨hBr, .inr (.inr (.inl ⟨by omega, hok, by omega, rfl⟩))⟩
            clear HI HO HX hBr hok
            go_wp2
            refine bodyPost_ret (v := .tuple #[.slice none 0 0, .int .i64 9, .int .i64 0]) (by simp [results, Tryd.results20, go_sem]) rfl ?_
            exact FIN.out
          · have FIN : Put (LassoPost L loop n g W (.returned (.tuple #[.slice (some ⟨W.heap.size + 1, 0, none⟩) L.length L.length, .int .i64 0, .int .i64 0])) wr) := ⟨hBr, .inr (.inr (.inr ⟨by omega, by omega, by omega, xs, _, hxl, fun k hk => HI.out k (by omega) hk, by have := HO.out; simp at this; rw [hxl]; exact this, rfl⟩))⟩
            clear HI HO HX hBr hok
            go_wp2
            refine bodyPost_ret (v := .tuple #[.slice (some ⟨W.heap.size + 1, 0, none⟩) L.length L.length, .int .i64 0, .int .i64 0]) (by simp [results, Tryd.results20, go_sem]) rfl ?_
            exact FIN.out
end Go.Proofs.YtgoebckimmofoaaDoor

/- The code's Run. Our own text. -/
namespace Go.Proofs.YtgoebckimmofoaaDoor
open Go.RowKit Go.Lib

/-- What the code's Run answers. -/
def RunR (s : ByteArray) (L : List ByteArray) (loop : Int) (c : Nat) (p : Int) : Prop :=
  ((rCheck s).1 ≠ 0 ∧ c = (rCheck s).1 ∧ p = (rCheck s).2) ∨
  ((rCheck s).1 = 0 ∧ ∃ (va : List VA) (ra : List RA) (q' : Q), qRead s = (some (va, ra), q') ∧ GoodA va ra ∧
    ((7000 < L.length ∧ c = 1 ∧ p = 0) ∨
     (L.length ≤ 7000 ∧ ∃ (i : Nat) (hi : i < L.length), ¬ OkS L[i] va.length (GvA va) ∧ (∀ j (hj : j < i), OkS (L[j]'(Nat.lt_trans hj hi)) va.length (GvA va)) ∧ c = 8 ∧ p = (i : Int)) ∨
     (L.length ≤ 7000 ∧ (∀ s ∈ L, OkS s va.length (GvA va)) ∧ ¬ (0 ≤ loop ∧ loop < (L.length : Int)) ∧ c = 9 ∧ p = 0) ∨
     (L.length ≤ 7000 ∧ ∃ (k : Nat) (_ : loop = (k : Int)) (xs : List Nat) (f : Nat → Nat) (hx : xs.length = L.length) (hk : k < xs.length), (∀ i (hi : i < L.length), IsS L[i] va.length (GvA va) (xs[i]'(by omega))) ∧ (∀ k, k < 3 → BitsL (f k) (va.getD k (0, [], 0)).2.1) ∧
       ((∃ i, strayP (nxtS s va ra) (frs f va.length) 0 (xs ++ [xs[k]]) = some i ∧ c = 10 ∧ p = (i : Int)) ∨ (strayP (nxtS s va ra) (frs f va.length) 0 (xs ++ [xs[k]]) = none ∧ c = 0 ∧ p = 0)))))

set_option maxRecDepth 100000 in
set_option maxHeartbeats 1600000 in
theorem run_any (s : ByteArray) (L : List ByteArray) (hL : ∀ s ∈ L, s.size ≤ maxLen) (loop : Int) (v : Value) (bL : Nat) (w : World) (hs : s.size ≤ maxLen) (h0w : 0 < w.heap.size) (hT : Tab w) (hrow : w.ownsRow bL 9 1 v L.length (bys L)) :
    Calls Tryd.prog 10 #[.string s, .agg #[v, .int .i64 loop]] w fun e w' => (∃ (c : Nat) (p : Int), e = .returned (.tuple #[.int .i64 c, .int .i64 p]) ∧ RunR s L loop c p) ∧ Below w.heap.size w w' := by
  obtain ⟨aoL, capL, rfl⟩ := owned_slice' hrow
  have hbx := heap_alloc_new w (.cells #[.slice aoL L.length capL, .int .i64 loop] 33)
  have hB1 : Below w.heap.size w (w.alloc (.cells #[.slice aoL L.length capL, .int .i64 loop] 33)) := (Below.refl _ _).alloc (Nat.le_refl _) _
  have h1w : 0 < (w.alloc (.cells #[.slice aoL L.length capL, .int .i64 loop] 33)).heap.size := by simp
  by_cases h0 : (rCheck s).1 = 0
  · obtain ⟨hle, hp0, va, ra, q', hq, hw⟩ := rcheck_good h0
    have H0 : Put (_ ∧ _) := ⟨h0, hq⟩
    have HG : Put (GoodA va ra) := ⟨goodA hq hw⟩
    have HR : Put (_) := ⟨gread h0 hle hq (w.alloc (.cells #[.slice aoL L.length capL, .int .i64 loop] 33))⟩
    have HBX : Put (_ ∧ _ ∧ _) := ⟨hbx, hB1, hrow⟩
    have HL : Put (_) := ⟨hL⟩
    clear hq hw hp0 h0 hbx hrow hL
    generalize hw0 : w.alloc (.cells #[.slice aoL L.length capL, .int .i64 loop] 33) = w0 at *
    have HW0 : Put (_ = w0) := ⟨hw0⟩
    have hlt0 := lt_of_block HBX.out.1
    go_enter Tryd.func10, Tryd.ntmps10
    go_wp2_with fail
    refine HR.out.mono ?_
    rintro e w1 ⟨M, f, ao, cap, N, vals, rfl, hR⟩
    have HRR : Put (_) := ⟨hR⟩
    have hlt := hR.hi
    have hbox1 := (hR.below.block _ hlt0).trans HBX.out.1
    have q0 := two_cell0 hbox1
    have q1 := two_cell1 hbox1
    have HBW : Put (Below w.heap.size w w1) := ⟨HBX.out.2.1.trans (hR.below.mono HBX.out.2.1.size)⟩
    have hlt1 := lt_of_block hbox1
    have HX1 : Put (_) := ⟨hbox1⟩
    clear hR HR hw0 HW0 hB1 hbox1
    go_wp2_with fail
    refine (lasso_any M va.length (GvA va) f HG.out.l3 (Gv_le HG.out) L HL.out loop _ bL w1 HRR.out.mc hlt (HBW.out.ownsRow' HBX.out.2.2)).mono ?_
    rintro e w2 ⟨hb2, hres⟩
    have HB2 : Put (Below w.heap.size w w2) := ⟨HBW.out.trans (hb2.mono HBW.out.size)⟩
    rcases hres with ⟨h7, rfl⟩ | ⟨h7, i, hi, hno, hok, rfl⟩ | ⟨h7, hok, hnl, rfl⟩ | ⟨h7, hl0, hl1, xs, v, hxl, hxs, hrow, rfl⟩
    · have FIN : Put (RunR s L loop 1 0) := ⟨.inr ⟨H0.out.1, va, ra, q', H0.out.2, HG.out, .inl ⟨h7, rfl, rfl⟩⟩⟩
      clear hb2 q0 q1
      go_wp2
      go_ret2
      exact ⟨⟨1, 0, rfl, FIN.out⟩, HB2.out⟩
    · have FIN : Put (RunR s L loop 8 (i : Int)) := ⟨.inr ⟨H0.out.1, va, ra, q', H0.out.2, HG.out, .inr (.inl ⟨h7, i, hi, hno, hok, rfl, rfl⟩)⟩⟩
      clear hb2 q0 q1 hno hok
      go_wp2
      go_ret2
      exact ⟨⟨8, _, rfl, FIN.out⟩, HB2.out⟩
    · have FIN : Put (RunR s L loop 9 0) := ⟨.inr ⟨H0.out.1, va, ra, q', H0.out.2, HG.out, .inr (.inr (.inl ⟨h7, hok, hnl, rfl, rfl⟩))⟩⟩
      clear hb2 q0 q1 hok
      go_wp2
      go_ret2
      exact ⟨⟨9, 0, rfl, FIN.out⟩, HB2.out⟩
    · obtain ⟨k, rfl⟩ : ∃ k : Nat, loop = (k : Int) := ⟨loop.toNat, by omega⟩
      have hk : k < xs.length := by omega
      have hx64 : ∀ y ∈ xs, y < 64 := fun y hy => by
        obtain ⟨j, hj, rfl⟩ := List.getElem_of_mem hy
        exact (hxs j (by omega)).1
      have q2 := (hb2.cell (p := ⟨w.heap.size, 1, none⟩) hlt1).trans q1
      have HS : Put (_) := ⟨stray_any (HRR.out.up hb2) HG.out (Nat.lt_of_lt_of_le (Nat.lt_of_lt_of_le h1w HRR.out.below.size) hb2.size) (hT.below HB2.out h0w) xs k v hx64 hk (by omega) w1.heap.size (HRR.out.below.size) hlt (by omega) hb2.size hrow⟩
      obtain ⟨aov, capv, rfl⟩ := owned_slice' hrow
      have HS' : Put (_) := ⟨by
        have h := HS.out
        have e : Value.slice aov xs.length capv = Value.slice aov L.length capv := by rw [hxl]
        rw [e] at h
        exact h⟩
      have HX : Put (_) := ⟨hxs⟩
      clear hrow hxs hx64 q0 q1
      go_wp2_with fail
      refine HS'.out.mono ?_
      rintro e w3 ⟨he, hb3⟩
      have HB3 : Put (Below w.heap.size w w3) := ⟨HB2.out.trans (hb3.mono (Nat.le_trans HBX.out.2.1.size HRR.out.below.size))⟩
      clear hb3 hb2 HS HS'
      cases hst : strayP (nxtS s va ra) (frs f va.length) 0 (xs ++ [xs[k]]) with
      | some i =>
        rw [hst] at he
        have he' : e = _ := he
        unfold strayE at he'
        simp only at he'
        subst he'
        have FIN : Put (RunR s L (k : Int) 10 (i : Int)) := ⟨.inr ⟨H0.out.1, va, ra, q', H0.out.2, HG.out, .inr (.inr (.inr ⟨h7, k, rfl, xs, f, hxl, hk, HX.out, HRR.out.fb, .inl ⟨i, hst, rfl, rfl⟩⟩))⟩⟩
        clear hst
        go_wp2
        go_ret2
        exact ⟨⟨10, _, rfl, FIN.out⟩, HB3.out⟩
      | none =>
        rw [hst] at he
        have he' : e = _ := he
        unfold strayE at he'
        simp only at he'
        subst he'
        have FIN : Put (RunR s L (k : Int) 0 0) := ⟨.inr ⟨H0.out.1, va, ra, q', H0.out.2, HG.out, .inr (.inr (.inr ⟨h7, k, rfl, xs, f, hxl, hk, HX.out, HRR.out.fb, .inr ⟨hst, rfl, rfl⟩⟩))⟩⟩
        clear hst
        go_wp2
        go_ret2
        exact ⟨⟨0, 0, rfl, FIN.out⟩, HB3.out⟩
  · have hne : (((rCheck s).1 : Int) == 0) = false := by simp; exact h0
    have HCK : Put (_) := ⟨bread s (w.alloc (.cells #[.slice aoL L.length capL, .int .i64 loop] 33)) hs⟩
    have FIN : Put (RunR s L loop (rCheck s).1 (rCheck s).2) := ⟨.inl ⟨h0, rfl, rfl⟩⟩
    have HB1 : Put (_) := ⟨hB1⟩
    clear h0 hbx hrow hL hB1
    generalize (rCheck s).1 = a at *
    generalize (rCheck s).2 = b at *
    go_enter Tryd.func10, Tryd.ntmps10
    go_wp2_with fail
    refine HCK.out.mono ?_
    rintro e w1 ⟨⟨ao, rfl⟩, hb1⟩
    have HB : Put (Below w.heap.size w w1) := ⟨HB1.out.trans (hb1.mono HB1.out.size)⟩
    clear hb1 HCK
    go_wp2
    go_ret2
    exact ⟨⟨a, b, rfl, FIN.out⟩, HB.out⟩
end Go.Proofs.YtgoebckimmofoaaDoor

/- The document's has. Our own text. -/
namespace Go.Proofs.YtgoebckimmofoaaDoor
open Go.RowKit Go.Lib

def hasL (s : ByteArray) (l : List ByteArray) : Bool := l.any (fun t => t.toList == s.toList)
section
variable {w : World}
set_option maxRecDepth 100000 in
set_option maxHeartbeats 800000 in
theorem rhas_any (b1 : Nat) (va : Value) (l : List ByteArray) (s : ByteArray) (hl : l.length ≤ 9223372036854775807) (ha : w.ownsRow b1 9 1 va l.length (bys l)) :
    Calls Tryd.prog 24 #[va, .string s] w fun e w' => e = .returned (.bool (hasL s l)) ∧ Below w.heap.size w w' := by
  have HROW : Put (_) := ⟨ha⟩
  obtain ⟨ao, cap, rfl⟩ := owned_slice' ha
  obtain ⟨R, hR⟩ : ∃ R, R = hasL s l := ⟨_, rfl⟩
  rw [← hR]
  have HR : Put (R = hasL s l) := ⟨hR⟩
  clear ha hR
  go_enter Tryd.func24, Tryd.ntmps24
  go_wp2_with fail
  go_loopg [5] l.length (fun gk iv wr => ∃ i : Nat, iv = .int .i64 i ∧ i + gk = l.length ∧ wr = w ∧ R = hasL s (l.drop i))
  case atStart => exact ⟨0, rfl, by omega, rfl, by rw [List.drop_zero]; exact HR.out⟩
  case round =>
    clear HR
    obtain ⟨i, rfl, hik, rfl, hRi⟩ := hrel
    by_cases hlt : i < l.length
    · have hlt' : (i : Int) < (l.length : Int) := by omega
      have k0 : (0 : Int) ≤ (i : Int) := by omega
      obtain ⟨g', rfl⟩ : ∃ g', gk = g' + 1 := ⟨gk - 1, by omega⟩
      obtain ⟨g, cap', e, hg1, hg2, hg3, hcell⟩ := bys_at HROW.out (by omega)
      obtain ⟨rfl, rfl⟩ : ao = some ⟨g, 0, none⟩ ∧ cap = cap' := by simpa using e
      have q := hcell i hlt
      rw [List.drop_eq_getElem_cons hlt] at hRi
      generalize l[i] = t at *
      have HRi : Put (_ = _) := ⟨hRi⟩
      clear hRi hcell e
      cases h : (t.toList == s.toList) with
      | true =>
        have HT : Put (R = true) := ⟨by rw [HRi.out]; simp [hasL, h]⟩
        clear HRi
        go_wp2
        go_ret
        exact ⟨by rw [HT.out]; rfl, Below.refl _ _⟩
      | false =>
        have HT : Put (R = hasL s (l.drop (i + 1))) := ⟨by rw [HRi.out]; simp [hasL, h]⟩
        clear HRi
        go_wp2
        go_roundg g'
        case measure => exact Nat.lt_succ_self _
        case rel => exact ⟨i + 1, by go_num, by omega, rfl, HT.out⟩
    · obtain rfl : i = l.length := by omega
      have hlt' : ¬ ((l.length : Int) < (l.length : Int)) := by omega
      rw [List.drop_length] at hRi
      have HT : Put (R = false) := ⟨by rw [hRi]; rfl⟩
      clear hRi
      go_wp2
      go_ret
      exact ⟨by rw [HT.out]; rfl, Below.refl _ _⟩
end
end Go.Proofs.YtgoebckimmofoaaDoor

/- The digits of a state. Our own text. -/
namespace Go.Proofs.YtgoebckimmofoaaDoor
open Go.RowKit Go.Lib

/-- The digits of a text. -/
def dgs (s : ByteArray) : List Nat := s.data.toList.map (fun b => b.toNat - 48)
theorem okT_dgs {s : ByteArray} {tops : List Nat} (h : okT s tops) : s = txtL (dgs s) ∧ (dgs s).length = tops.length ∧ ∀ k (h1 : k < (dgs s).length) (h2 : k < tops.length), (dgs s)[k] ≤ tops[k] := by
  obtain ⟨h1, h2⟩ := h
  refine ⟨?_, by unfold dgs; rw [List.length_map, Array.length_toList]; exact h1, fun k hk1 hk2 => ?_⟩
  · cases s with
    | mk data =>
      unfold txtL dgs
      congr 1
      rw [List.map_map]
      apply Array.ext'
      simp only
      symm
      refine (List.map_congr_left (fun b hb => ?_)).trans (List.map_id' _)
      obtain ⟨k, hk, rfl⟩ := List.mem_iff_getElem.1 hb
      have hk' : k < data.size := by simpa using hk
      have := h2 k hk' (by have : data.size = tops.length := h1; omega)
      have h3 : 48 ≤ data[k].toNat := this.1
      simp only [Function.comp, Array.getElem_toList]
      have e : 48 + (data[k].toNat - 48) = data[k].toNat := by omega
      rw [e]; simp
  · have hk' : k < s.size := by
      have hk3 := hk1
      unfold dgs at hk3
      rw [List.length_map, Array.length_toList] at hk3
      exact hk3
    have := h2 k hk' hk2
    have h3 : s.data[k].toNat ≤ 48 + tops[k] := this.2
    have h4 : (dgs s)[k] = s.data[k].toNat - 48 := by simp [dgs]
    omega
def topsA (va : List VA) : List Nat := va.map (fun v => v.1)
end Go.Proofs.YtgoebckimmofoaaDoor

/- The code's Decide where it is not built yet, and the calls beside. Our own text. -/
namespace Go.Proofs.YtgoebckimmofoaaDoor
open Go.RowKit Go.Lib

theorem first_ret (s : ByteArray) (w : World) (hs : s.size ≤ maxLen) (h0w : 0 < w.heap.size) (hT : Tab w) : Calls Tryd.prog 14 #[.string s] w fun e w' => (∃ v, e = .returned v) ∧ Below w.heap.size w w' := by
  refine (first9_any s w hs h0w hT).mono ?_
  rintro e w' ⟨⟨v, rfl, _⟩, hb⟩
  exact ⟨⟨_, rfl⟩, hb⟩
theorem next_ret (s st : ByteArray) (w : World) (hs : s.size ≤ maxLen) (hst : st.size ≤ maxLen) (h0w : 0 < w.heap.size) (hT : Tab w) : Calls Tryd.prog 16 #[.string s, .string st] w fun e w' => (∃ v, e = .returned v) ∧ Below w.heap.size w w' := by
  refine (next14_any s st w hs hst h0w hT).mono ?_
  rintro e w' ⟨h, hb⟩
  refine ⟨?_, hb⟩
  rcases h with ⟨_, rfl⟩ | ⟨_, _, _, _, _, _, (⟨_, rfl⟩ | ⟨_, _, _, rfl, _⟩)⟩
  · exact ⟨_, rfl⟩
  · exact ⟨_, rfl⟩
  · exact ⟨_, rfl⟩

end Go.Proofs.YtgoebckimmofoaaDoor

/- The law Firsts. Our own text. -/
namespace Go.Proofs.YtgoebckimmofoaaDoor
open Go.RowKit Go.Lib

theorem num8_any (e : Int) (w : World) : Calls Tryd.prog 8 #[.int .i64 e] w fun r w' => r = .returned (.int .i64 e) ∧ Below w.heap.size w w' := by
  go_enter Tryd.func8, Tryd.ntmps8
  go_wp2
  go_ret
  exact ⟨rfl, Below.refl _ _⟩
/-- What was spoilt lay above. -/
theorem ExV.below {b n : Nat} {v : Value} {w w' : World} {xs : List Value} (h : ExV v w w') (ho : w.ownsRow b 9 1 v n xs) (hbw : b ≤ w.heap.size) : Below b w w' := by
  obtain ⟨g, hg, hx, hn⟩ := h
  rcases ho.2 with ⟨rfl, _⟩ | ⟨g', cap, cur, rfl, hb, hg', _⟩
  · exact (hn rfl).mono hbw
  · rcases hg with hg | hg
    · simp [Value.ownBlock] at hg
    · have e : g' = g := by simpa [Value.ownBlock] using hg
      subst e
      exact hx.below hb (Nat.le_trans hb (Nat.le_of_lt (lt_of_block hg')))
theorem ExV.row {b b' n n' N : Nat} {v v' : Value} {w w' : World} {xs ys : List Value} (h : ExV v w w') (ho : w.ownsRow b 9 1 v n xs) (hlt : ∀ g, v.ownBlock = some g → g < N) (hN : N ≤ b') (hr : w.ownsRow b' 9 1 v' n' ys) : w'.ownsRow b' 9 1 v' n' ys := by
  obtain ⟨g, hg, hx, hn⟩ := h
  rcases ho.2 with ⟨rfl, _⟩ | ⟨g', cap, cur, rfl, hb, hg', _⟩
  · exact (hn rfl).ownsRow' hr
  · rcases hg with hg | hg
    · simp [Value.ownBlock] at hg
    · exact hx.ownsRow (by have := hlt g hg; omega) hr

end Go.Proofs.YtgoebckimmofoaaDoor

namespace Go.Proofs.YtgoebckimmofoaaDoor
open Go.RowKit Go.Lib

/-- What is answered of a model and a state. -/
def NAns (s st : ByteArray) (c : Nat) (p : Int) (L : List (List Nat)) : Prop :=
  ((rCheck s).1 ≠ 0 ∧ c = (rCheck s).1 ∧ p = (rCheck s).2 ∧ L = []) ∨
  ((rCheck s).1 = 0 ∧ p = 0 ∧ ∃ (va : List VA) (ra : List RA) (q' : Q), qRead s = (some (va, ra), q') ∧
    ((¬ OkS st va.length (GvA va) ∧ c = 8 ∧ L = []) ∨ (c = 0 ∧ ∃ x, IsS st va.length (GvA va) x ∧ L = nxL s va ra x)))
theorem IsS.ok {st : ByteArray} {n : Nat} {g : Nat → Nat} {x : Nat} (h : IsS st n g x) : OkS st n g :=
  ⟨h.2.1, fun k hk => by have := h.2.2.1 k hk; omega⟩
theorem IsS.uniq {st : ByteArray} {n : Nat} {g : Nat → Nat} {x y : Nat} (h : IsS st n g x) (h' : IsS st n g y) : x = y := by
  apply dig_ext h.1 h'.1
  intro j hj
  by_cases hl : j < n
  · have a := (h.2.2.1 j (by rw [h.2.1]; exact hl)).1
    have b := (h'.2.2.1 j (by rw [h.2.1]; exact hl)).1
    omega
  · rw [h.2.2.2 j (by omega) hj, h'.2.2.2 j (by omega) hj]
theorem NAns.uniq {s st : ByteArray} {c c' : Nat} {p p' : Int} {L L' : List (List Nat)} (h : NAns s st c p L) (h' : NAns s st c' p' L') : c' = c ∧ p' = p ∧ L' = L := by
  rcases h with ⟨h0, rfl, rfl, rfl⟩ | ⟨h0, rfl, va, ra, q, hq, h⟩
  · rcases h' with ⟨_, rfl, rfl, rfl⟩ | ⟨h1, _⟩
    · exact ⟨rfl, rfl, rfl⟩
    · exact absurd h1 h0
  · rcases h' with ⟨h1, _⟩ | ⟨_, rfl, va', ra', q', hq', h'⟩
    · exact absurd h0 h1
    · rw [hq] at hq'
      simp only [Prod.mk.injEq, Option.some.injEq] at hq'
      obtain ⟨⟨rfl, rfl⟩, _⟩ := hq'
      rcases h with ⟨hno, rfl, rfl⟩ | ⟨rfl, x, hx, rfl⟩
      · rcases h' with ⟨_, rfl, rfl⟩ | ⟨_, y, hy, _⟩
        · exact ⟨rfl, rfl, rfl⟩
        · exact absurd hy.ok hno
      · rcases h' with ⟨hno, _⟩ | ⟨rfl, y, hy, rfl⟩
        · exact absurd hx.ok hno
        · rw [hx.uniq hy]; exact ⟨rfl, rfl, rfl⟩

def AnsPost (s st : ByteArray) (w : World) (e : Ending) (w' : World) : Prop :=
  (∃ (ao : Option Addr) (cap c : Nat) (p : Int) (L : List (List Nat)), NAns s st c p L ∧ e = .returned (.tuple #[.slice ao L.length cap, .int .i64 c, .int .i64 p]) ∧ w'.ownsRow w.heap.size 9 1 (.slice ao L.length cap) L.length (strs L)) ∧ Below w.heap.size w w'
theorem next14_ans (s st : ByteArray) (w : World) (hs : s.size ≤ maxLen) (hst : st.size ≤ maxLen) (h0w : 0 < w.heap.size) (hT : Tab w) : Calls Tryd.prog 16 #[.string s, .string st] w (AnsPost s st w) := by
  refine (next14_any s st w hs hst h0w hT).mono ?_
  rintro e w' ⟨h, hb⟩
  refine ⟨?_, hb⟩
  rcases h with ⟨h0, rfl⟩ | ⟨h0, va, ra, q, hq, _, (⟨hno, rfl⟩ | ⟨x, v, hx, rfl, hrow⟩)⟩
  · exact ⟨none, 0, _, _, [], .inl ⟨h0, rfl, rfl, rfl⟩, rfl, World.ownsRow_nil _ _ _ _⟩
  · exact ⟨none, 0, 8, 0, [], .inr ⟨h0, rfl, va, ra, q, hq, .inl ⟨hno, rfl, rfl⟩⟩, rfl, World.ownsRow_nil _ _ _ _⟩
  · obtain ⟨ao, cap, rfl⟩ := owned_slice' hrow
    exact ⟨ao, cap, 0, 0, nxL s va ra x, .inr ⟨h0, rfl, va, ra, q, hq, .inr ⟨rfl, x, hx, rfl⟩⟩, rfl, hrow⟩

theorem Gv_top {va : List VA} (k : Nat) (h : k < (va.map (fun v => v.1)).length) : GvA va k = (va.map (fun v => v.1))[k] := by
  have h' : k < va.length := by simpa using h
  unfold GvA Gv
  rw [getD_v2]
  simp [List.getD, h', v2]
theorem okS_okT {st : ByteArray} {va : List VA} : OkS st va.length (GvA va) ↔ okT st (va.map (fun v => v.1)) := by
  constructor
  · rintro ⟨h1, h2⟩
    exact ⟨by rw [List.length_map]; exact h1, fun k hk hk' => by rw [← Gv_top k hk']; exact h2 k hk⟩
  · rintro ⟨h1, h2⟩
    rw [List.length_map] at h1
    exact ⟨h1, fun k hk => by have hk' : k < (va.map (fun v => v.1)).length := by rw [List.length_map]; omega
                              rw [Gv_top k hk']; exact h2 k hk hk'⟩
theorem exists_state {d : List Nat} (hd : d.length ≤ 3) (h3 : ∀ x ∈ d, x ≤ 3) : ∃ x, x < 64 ∧ (∀ k (h : k < d.length), dig x k = d[k]) ∧ ∀ k, d.length ≤ k → k < 3 → dig x k = 0 := by
  have key : ∀ a b c : _root_.Fin 4, ∃ x : _root_.Fin 64, dig x 0 = a ∧ dig x 1 = b ∧ dig x 2 = c := by decide +kernel
  obtain ⟨x, h0, h1, h2⟩ := key ⟨d.getD 0 0, by
    cases d with
    | nil => show 0 < 4; omega
    | cons a l => have := h3 a (by simp); show a < 4; omega⟩ ⟨d.getD 1 0, by
    match d, h3 with
    | [], _ => show 0 < 4; omega
    | [_], _ => show 0 < 4; omega
    | _ :: b :: _, h3 => have := h3 b (by simp); show b < 4; omega⟩ ⟨d.getD 2 0, by
    match d, h3 with
    | [], _ => show 0 < 4; omega
    | [_], _ => show 0 < 4; omega
    | [_, _], _ => show 0 < 4; omega
    | _ :: _ :: c :: _, h3 => have := h3 c (by simp); show c < 4; omega⟩
  have all : ∀ k, k < 3 → dig x k = d.getD k 0 := by
    intro k hk
    have : k = 0 ∨ k = 1 ∨ k = 2 := by omega
    rcases this with rfl | rfl | rfl
    · exact h0
    · exact h1
    · exact h2
  refine ⟨x, x.2, fun k hk => ?_, fun k hk hk3 => ?_⟩
  · rw [all k (by omega)]; simp [List.getD, hk]
  · rw [all k hk3]; simp [List.getD, List.getElem?_eq_none hk]

end Go.Proofs.YtgoebckimmofoaaDoor
