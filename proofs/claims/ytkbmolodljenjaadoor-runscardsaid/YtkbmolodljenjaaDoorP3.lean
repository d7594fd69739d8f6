import Derived.Test.YtkbmolodljenjaaDoorP2
import Derived.RegionTactic
/- The document's reader: a condition. Our own text. -/
namespace Go.Proofs.YtkbmolodljenjaaDoor
open Go.RowKit
def qOp (s : ByteArray) (q : Q) : Bool := (qNum s q 61 0).isSome || (qNum s q 35 0).isSome || (qNum s q 60 0).isSome
abbrev Tm := Int × Int × Int
def qCond (s : ByteArray) (q : Q) : Option (Tm × Tm) × Q := match qTerm s q with
  | (none, q1) => (none, q1)
  | (some a, q1) => if qOp s q1 then (match qTerm s q1.adv with
      | (none, q2) => (none, q2)
      | (some b, q2) => (some (a, b), q2)) else (none, q1.fail)
/-- The byte at a place (0 behind the end). -/
def byteAt (s : ByteArray) (p : Nat) : Nat := if h : p < s.size then s[p].toNat else 0
theorem qTerm_at {s : ByteArray} {q : Q} {a : Tm} {i : Nat} (h : qTerm s q = (some a, .ok i)) : ∃ j : Nat, q = .ok j ∧ a.2.2 = (j : Int) ∧ i = j + 1 := by
  unfold qTerm at h
  cases q with
  | error p => simp [qNum, Q.fail] at h
  | ok j =>
    refine ⟨j, rfl, ?_⟩
    split at h
    · simp [Q.adv, Q.pos] at h; obtain ⟨rfl, rfl⟩ := h; exact ⟨rfl, rfl⟩
    · split at h
      · simp [Q.adv, Q.pos] at h; obtain ⟨rfl, rfl⟩ := h; exact ⟨rfl, rfl⟩
      · simp at h
theorem op_at {s : ByteArray} {a : Tm} {a0 a1 a2 : Int} {i c : Nat} (hat : ∃ j : Nat, a.2.2 = (j : Int) ∧ i = j + 1) (ha : a = (a0, a1, a2)) (hlt : i < s.size) (h : s[i].toNat = c) : (c : Int) = (byteAt s (a2.toNat + 1) : Int) := by
  subst ha
  obtain ⟨j, hj, rfl⟩ := hat
  have e : a2.toNat + 1 = j + 1 := by simp only at hj; omega
  rw [e]; unfold byteAt; rw [dif_pos hlt, h]
theorem blk7 {w : World} {b : Nat} {x0 x1 x2 x3 x4 x5 x6 : Value} {t : TypeId} (h : w.heap[b]? = some (.cells #[x0, x1, x2, x3, x4, x5, x6] t (0, 0))) :
    (w.cell? ⟨b, 0, none⟩ = some x0 ∧ w.cell? ⟨b, 1, none⟩ = some x1 ∧ w.cell? ⟨b, 2, none⟩ = some x2 ∧ w.cell? ⟨b, 3, none⟩ = some x3 ∧ w.cell? ⟨b, 4, none⟩ = some x4 ∧ w.cell? ⟨b, 5, none⟩ = some x5 ∧ w.cell? ⟨b, 6, none⟩ = some x6) ∧ ∀ i, w.frozen? ⟨b, i, none⟩ = false := by
  refine ⟨⟨?_, ?_, ?_, ?_, ?_, ?_, ?_⟩, fun i => ?_⟩ <;> simp [World.cell?, World.frozen?, h]
theorem blk7_a {w : World} {b : Nat} {x0 x1 x2 x3 x4 x5 x6 : Value} {t : TypeId} (h : w.heap[b]? = some (.cells #[x0, x1, x2, x3, x4, x5, x6] t (0, 0))) (y0 y1 y2 : Value) :
    (((w.setCell ⟨b, 0, none⟩ y0).setCell ⟨b, 1, none⟩ y1).setCell ⟨b, 2, none⟩ y2).heap[b]? = some (.cells #[y0, y1, y2, x3, x4, x5, x6] t (0, 0)) :=
  heap_setCell_same _ b 2 #[y0, y1, x2, x3, x4, x5, x6] t y2 (heap_setCell_same _ b 1 #[y0, x1, x2, x3, x4, x5, x6] t y1 (heap_setCell_same w b 0 _ t y0 h))
theorem blk7_b {w : World} {b : Nat} {x0 x1 x2 x3 x4 x5 x6 : Value} {t : TypeId} (h : w.heap[b]? = some (.cells #[x0, x1, x2, x3, x4, x5, x6] t (0, 0))) (y0 y1 y2 : Value) :
    (((w.setCell ⟨b, 3, none⟩ y0).setCell ⟨b, 4, none⟩ y1).setCell ⟨b, 5, none⟩ y2).heap[b]? = some (.cells #[x0, x1, x2, y0, y1, y2, x6] t (0, 0)) :=
  heap_setCell_same _ b 5 #[x0, x1, x2, y0, y1, x5, x6] t y2 (heap_setCell_same _ b 4 #[x0, x1, x2, y0, x4, x5, x6] t y1 (heap_setCell_same w b 3 _ t y0 h))
theorem blk7_c {w : World} {b : Nat} {x0 x1 x2 x3 x4 x5 x6 : Value} {t : TypeId} (h : w.heap[b]? = some (.cells #[x0, x1, x2, x3, x4, x5, x6] t (0, 0))) (y : Value) :
    (w.setCell ⟨b, 6, none⟩ y).heap[b]? = some (.cells #[x0, x1, x2, x3, x4, x5, y] t (0, 0)) := heap_setCell_same w b 6 _ t y h
theorem RS.set3 {B : Nat} {s : ByteArray} {q : Q} {w : World} (h : RS B s q w) {b i j k : Nat} (hp : b ≠ B) (x y z : Value) : RS B s q (((w.setCell ⟨b, i, none⟩ x).setCell ⟨b, j, none⟩ y).setCell ⟨b, k, none⟩ z) :=
  ((h.set_other (p := ⟨b, i, none⟩) hp x).set_other (p := ⟨b, j, none⟩) hp y).set_other (p := ⟨b, k, none⟩) hp z
theorem Ex.set3 {B : Nat} {a w : World} (h : Ex B a w) {b i j k : Nat} (hp : a.heap.size ≤ b) (x y z : Value) : Ex B a (((w.setCell ⟨b, i, none⟩ x).setCell ⟨b, j, none⟩ y).setCell ⟨b, k, none⟩ z) :=
  ((h.setCell (p := ⟨b, i, none⟩) (.inr hp) x).setCell (p := ⟨b, j, none⟩) (.inr hp) y).setCell (p := ⟨b, k, none⟩) (.inr hp) z
theorem Ex.via {B : Nat} {a b b' c : World} (h : Ex B a b) (hx : Ex B b' c) (e1 : b'.os = b.os) (e2 : b'.tape = b.tape) (e3 : b'.output = b.output) (e4 : b'.heap = b.heap) : Ex B a c :=
  h.trans ⟨hx.os.trans e1, hx.tape.trans e2, hx.output.trans e3, by rw [← e4]; exact hx.size, fun k hk hB => by rw [hx.block k (by rw [e4]; exact hk) hB, e4]⟩
theorem other3 {w : World} {b c i j k : Nat} (hp : c ≠ b) (x y z : Value) : (((w.setCell ⟨b, i, none⟩ x).setCell ⟨b, j, none⟩ y).setCell ⟨b, k, none⟩ z).heap[c]? = w.heap[c]? := by
  rw [heap_setCell_other _ _ _ _ hp, heap_setCell_other _ _ _ _ hp, heap_setCell_other _ _ _ _ hp]

theorem RS.set7 {B : Nat} {s : ByteArray} {q : Q} {w : World} (h : RS B s q w) {b : Nat} (hp : b ≠ B) (y0 y1 y2 y3 y4 y5 y6 : Value) : RS B s q (((((((w.setCell ⟨b, 0, none⟩ y0).setCell ⟨b, 1, none⟩ y1).setCell ⟨b, 2, none⟩ y2).setCell ⟨b, 3, none⟩ y3).setCell ⟨b, 4, none⟩ y4).setCell ⟨b, 5, none⟩ y5).setCell ⟨b, 6, none⟩ y6) :=
  (((((((h.set_other (p := ⟨b, 0, none⟩) hp y0).set_other (p := ⟨b, 1, none⟩) hp y1).set_other (p := ⟨b, 2, none⟩) hp y2).set_other (p := ⟨b, 3, none⟩) hp y3).set_other (p := ⟨b, 4, none⟩) hp y4).set_other (p := ⟨b, 5, none⟩) hp y5).set_other (p := ⟨b, 6, none⟩) hp y6)
theorem Ex.set7 {B : Nat} {a w : World} (h : Ex B a w) {b : Nat} (hp : a.heap.size ≤ b) (y0 y1 y2 y3 y4 y5 y6 : Value) : Ex B a (((((((w.setCell ⟨b, 0, none⟩ y0).setCell ⟨b, 1, none⟩ y1).setCell ⟨b, 2, none⟩ y2).setCell ⟨b, 3, none⟩ y3).setCell ⟨b, 4, none⟩ y4).setCell ⟨b, 5, none⟩ y5).setCell ⟨b, 6, none⟩ y6) :=
  (((((((h.setCell (p := ⟨b, 0, none⟩) (.inr hp) y0).setCell (p := ⟨b, 1, none⟩) (.inr hp) y1).setCell (p := ⟨b, 2, none⟩) (.inr hp) y2).setCell (p := ⟨b, 3, none⟩) (.inr hp) y3).setCell (p := ⟨b, 4, none⟩) (.inr hp) y4).setCell (p := ⟨b, 5, none⟩) (.inr hp) y5).setCell (p := ⟨b, 6, none⟩) (.inr hp) y6)
theorem qTerm_none {s : ByteArray} {q q1 : Q} (h : qTerm s q = (none, q1)) : ∃ p, q1 = .error p := by
  unfold qTerm at h; split at h
  · cases h
  · split at h
    · cases h
    · cases h; cases q <;> exact ⟨_, rfl⟩
theorem qTerm_some {s : ByteArray} {q q1 : Q} {a : Tm} (h : qTerm s q = (some a, q1)) : ∃ i, q1 = .ok i := by
  unfold qTerm at h; split at h
  · next e => cases h; cases q with
      | ok i => exact ⟨_, rfl⟩
      | error p => cases e
  · split at h
    · next e => cases h; cases q with
      | ok i => exact ⟨_, rfl⟩
      | error p => cases e
    · cases h

section
variable {B : Nat} {s : ByteArray} {q : Q} {w : World}
set_option maxRecDepth 100000 in
set_option maxHeartbeats 3200000 in
theorem rcond_any {r : Option (Tm × Tm)} {q' : Q} (hs : s.size ≤ 120) (hb : RS B s q w) (hp : qCond s q = (r, q')) :
    Calls Tryd.prog 65 #[.pointer (some ⟨B, 0, none⟩)] w fun e w' => (∃ (a0 a1 a2 b0 b1 b2 op : Int), e = .returned (.agg #[.int .i64 a0, .int .i64 a1, .int .i64 a2, .int .i64 b0, .int .i64 b1, .int .i64 b2, .int .u8 op]) ∧ ∀ y, r = some y → y = ((a0, a1, a2), (b0, b1, b2)) ∧ op = (byteAt s (a2.toNat + 1) : Int)) ∧ RS B s q' w' ∧ Ex B w w' := by
  have hBw := hb.lt
  have hv0 := heap_alloc_new w (.cells #[.int .i64 0, .int .i64 0, .int .i64 0, .int .i64 0, .int .i64 0, .int .i64 0, .int .u8 0] 110)
  have hv1 := heap_alloc_new (w.alloc (.cells #[.int .i64 0, .int .i64 0, .int .i64 0, .int .i64 0, .int .i64 0, .int .i64 0, .int .u8 0] 110)) (.cells #[.int .i64 0, .int .i64 0, .int .i64 0, .int .i64 0, .int .i64 0, .int .i64 0, .int .u8 0] 110)
  rw [World.size_alloc] at hv1
  have hM := (Below.heap_alloc _ (.cells #[.int .i64 0, .int .i64 0, .int .i64 0, .int .i64 0, .int .i64 0, .int .i64 0, .int .u8 0] 110) _ (lt_of_block hv0)).trans hv0
  have hb0 := (hb.alloc (.cells #[.int .i64 0, .int .i64 0, .int .i64 0, .int .i64 0, .int .i64 0, .int .i64 0, .int .u8 0] 110)).alloc (.cells #[.int .i64 0, .int .i64 0, .int .i64 0, .int .i64 0, .int .i64 0, .int .i64 0, .int .u8 0] 110)
  have hx0 := ((Ex.refl B w).alloc (.cells #[.int .i64 0, .int .i64 0, .int .i64 0, .int .i64 0, .int .i64 0, .int .i64 0, .int .u8 0] 110)).alloc (.cells #[.int .i64 0, .int .i64 0, .int .i64 0, .int .i64 0, .int .i64 0, .int .i64 0, .int .u8 0] 110)
  clear hv0 hb
  unfold qCond at hp
  cases ht : qTerm s q with
  | mk r1 q1 =>
  rw [ht] at hp
  go_enter Tryd.func65, Tryd.ntmps65
  go_wp2_with fail
  refine (rterm_any hs hb0).mono ?_; rintro e w1 ⟨⟨a0, a1, a2, rfl, hr1⟩, hb1, hx1⟩
  rw [ht] at hr1 hb1
  have hX1 := hx0.trans hx1
  have hC1 := (hx1.block _ (lt_of_block hv1) (by omega)).trans hv1
  have hM1 := (hx1.block _ (lt_of_block hM) (by omega)).trans hM
  clear hx1 hv1 hM hb0 hx0
  obtain ⟨⟨k0, k1, k2, k3, k4, k5, k6⟩, kf⟩ := blk7 hC1
  have hb2 := hb1.set3 (b := w.heap.size + 1) (i := 0) (j := 1) (k := 2) (by omega) (.int .i64 a0) (.int .i64 a1) (.int .i64 a2)
  have hX2 := hX1.set3 (b := w.heap.size + 1) (i := 0) (j := 1) (k := 2) (by omega) (.int .i64 a0) (.int .i64 a1) (.int .i64 a2)
  have hC2 := blk7_a hC1 (.int .i64 a0) (.int .i64 a1) (.int .i64 a2)
  have hM2 := (other3 (b := w.heap.size + 1) (c := w.heap.size) (i := 0) (j := 1) (k := 2) (by omega) (.int .i64 a0) (.int .i64 a1) (.int .i64 a2)).trans hM1
  have HH : Hid (RS B s q1 _ ∧ Ex B w _ ∧ _ ∧ _) := ⟨hb2, hX2, hC2, hM2⟩
  clear hb1 hX1 hC1 hM1 hb2 hX2 hC2 hM2
  have l1 : w.heap.size + 1 < w1.heap.size := by
    have := lt_of_block HH.out.2.2.1; simpa using this
  go_wp2_with fail
  obtain ⟨HR, HX, HC, HM⟩ := HH.out
  generalize ((w1.setCell ⟨w.heap.size + 1, 0, none⟩ (.int .i64 a0)).setCell ⟨w.heap.size + 1, 1, none⟩ (.int .i64 a1)).setCell ⟨w.heap.size + 1, 2, none⟩ (.int .i64 a2) = w2 at *
  clear HH k0 k1 k2 k3 k4 k5 k6 kf l1
  have HR1 : Hid (∀ r, r1 = some r → r = (a0, a1, a2)) := hr1
  clear hr1
  replace HR : Hid (RS B s q1 w2) := HR
  replace HX : Hid (Ex B w w2) := HX
  replace HC : Hid (w2.heap[w.heap.size + 1]? = _) := HC
  replace HM : Hid (w2.heap[w.heap.size]? = _) := HM
  cases r1 with
  | none =>
    obtain ⟨p, rfl⟩ := qTerm_none ht
    simp only [Prod.mk.injEq] at hp
    obtain ⟨rfl, rfl⟩ := hp
    obtain ⟨i, hile, hc⟩ := HR.out
    have c2 := hc.c2
    have h0 : (0 : Int) ≤ (p : Int) := by omega
    clear hc ht
    go_quiet (fail)
    go_wp2_with fail
    refine (fail_any hs (HR.out.drewN _)).mono ?_; rintro e w3 ⟨rfl, hb3, hx3⟩
    have hX3 := HX.out.trans (((Ex.refl B w2).drewN _).trans hx3)
    have hC3 := (hx3.block _ (lt_of_block HC.out) (by omega)).trans HC.out
    have hM3 := (hx3.block _ (lt_of_block HM.out) (by omega)).trans HM.out
    have lC := lt_of_block hC3
    obtain ⟨⟨k0, k1, k2, k3, k4, k5, k6⟩, kf⟩ := blk7 hC3
    obtain ⟨⟨m0, m1, m2, m3, m4, m5, m6⟩, mf⟩ := blk7 hM3
    have F1 : Hid (RS B s _ _) := hb3.set7 (b := w.heap.size) (by omega) (.int .i64 a0) (.int .i64 a1) (.int .i64 a2) (.int .i64 0) (.int .i64 0) (.int .i64 0) (.int .u8 0)
    have F2 : Hid (Ex B w _) := hX3.set7 (b := w.heap.size) (Nat.le_refl _) (.int .i64 a0) (.int .i64 a1) (.int .i64 a2) (.int .i64 0) (.int .i64 0) (.int .i64 0) (.int .u8 0)
    clear hb3 hx3 hX3 hC3 hM3
    go_wp2
    exact bodyPost_ret (v := .agg #[.int .i64 a0, .int .i64 a1, .int .i64 a2, .int .i64 0, .int .i64 0, .int .i64 0, .int .u8 0]) (by simp [results, Tryd.results65, go_sem, m0, m1, m2, m3, m4, m5, m6]) rfl ⟨⟨_, _, _, _, _, _, _, rfl, fun _ hr => (by cases hr)⟩, F1.out, F2.out⟩
  | some a =>
    obtain ⟨i, rfl⟩ := qTerm_some ht
    simp only at hp
    obtain ⟨hile, hc⟩ := HR.out
    have c0 := hc.c0
    have c1 := hc.c1
    have c2 := hc.c2
    have f1 := hc.free 1
    have nB1 : ¬ (w.heap.size + 1 = B) := by omega
    have nB2 : ¬ (B = w.heap.size + 1) := by omega
    have HAT : Hid (∃ j : Nat, a.2.2 = (j : Int) ∧ i = j + 1) := by obtain ⟨j, _, h2, h3⟩ := qTerm_at ht; exact ⟨j, h2, h3⟩
    clear hc ht
    by_cases hlt : i < s.size
    · have i0 : (0 : Int) ≤ (i : Int) := by omega
      have i1 : (i : Int) < (s.size : Int) := by omega
      have i2 : decide (s.size ≤ i) = false := by simp; omega
      have hnum : ∀ c : Nat, (num? s i c 0 0).isSome = decide (s[i].toNat = c) := by
        intro c; unfold num?; rw [dif_pos hlt]
        by_cases h : s[i].toNat = c
        · rw [if_pos (by omega)]; simp [h]
        · rw [if_neg (by omega)]; simp [h]
      have hopd : qOp s (.ok i) = (decide (s[i].toNat = 61) || decide (s[i].toNat = 35) || decide (s[i].toNat = 60)) := by
        unfold qOp qNum; simp only [hnum]
      by_cases h61 : s[i].toNat = 61
      · have hop : qOp s (.ok i) = true := by rw [hopd]; simp [h61]
        rw [if_pos hop] at hp
        clear hop hopd hnum
        obtain ⟨⟨k0, k1, k2, k3, k4, k5, k6⟩, kf⟩ := blk7 HC.out
        have lC := lt_of_block HC.out
        go_quiet (fail)
        go_wp2
        go_region
        all_goals
          have hb3 : RS B s (.ok i) (w2.setCell ⟨w.heap.size + 1, 6, none⟩ (.int .u8 61)) := HR.out.set_other (p := ⟨w.heap.size + 1, 6, none⟩) (by show w.heap.size + 1 ≠ B; omega) _
          have hX3 := HX.out.setCell (p := ⟨w.heap.size + 1, 6, none⟩) (.inr (by show w.heap.size ≤ w.heap.size + 1; omega)) (.int .u8 61)
          have hC3 := blk7_c HC.out (.int .u8 61)
          have hM3 := (heap_setCell_other w2 ⟨w.heap.size + 1, 6, none⟩ w.heap.size (.int .u8 61) (by show w.heap.size ≠ w.heap.size + 1; omega)).trans HM.out
          have hb4 : RS B s (.ok (i + 1)) ((w2.setCell ⟨w.heap.size + 1, 6, none⟩ (.int .u8 61)).setCell ⟨B, 1, none⟩ (.int .i64 ((i + 1 : Nat) : Int))) := ⟨hlt, hb3.2.set1 (i + 1)⟩
          have hX4 := hX3.setCell (p := ⟨B, 1, none⟩) (.inl rfl) (.int .i64 ((i + 1 : Nat) : Int))
          have hC4 := (heap_setCell_other (w2.setCell ⟨w.heap.size + 1, 6, none⟩ (.int .u8 61)) ⟨B, 1, none⟩ (w.heap.size + 1) (.int .i64 ((i + 1 : Nat) : Int)) (by show w.heap.size + 1 ≠ B; omega)).trans hC3
          have hM4 := (heap_setCell_other (w2.setCell ⟨w.heap.size + 1, 6, none⟩ (.int .u8 61)) ⟨B, 1, none⟩ w.heap.size (.int .i64 ((i + 1 : Nat) : Int)) (by show w.heap.size ≠ B; omega)).trans hM3
          have HB4 : Hid (RS B s (.ok (i + 1)) _ ∧ Ex B w _ ∧ _ ∧ _) := ⟨hb4, hX4, hC4, hM4⟩
          clear hb3 hX3 hC3 hM3 hb4 hX4 hC4 hM4 k0 k1 k2 k3 k4 k5 k6 kf
          go_wp2_with fail
          cases ht2 : qTerm s (.ok (i + 1)) with
          | mk r2 q2 =>
          replace hp : (match qTerm s (.ok (i + 1)) with | (none, q2) => (none, q2) | (some b, q2) => (some (a, b), q2)) = (r, q') := hp
          rw [ht2] at hp
          refine (rterm_any (q := .ok (i + 1)) hs (by exact HB4.out.1.block rfl)).mono ?_; rintro e w5 ⟨⟨b0, b1, b2, rfl, hr2⟩, hb5, hx5⟩
          rw [ht2] at hr2 hb5
          have hX5 := Ex.via HB4.out.2.1 hx5 rfl rfl rfl rfl
          have hC5 := (hx5.block (w.heap.size + 1) (lt_of_block HB4.out.2.2.1) (by omega)).trans HB4.out.2.2.1
          have hM5 := (hx5.block w.heap.size (lt_of_block HB4.out.2.2.2) (by omega)).trans HB4.out.2.2.2
          have lC5 := lt_of_block hC5
          clear HB4 HR HX HC HM hx5 f1 c0 c1 c2
          have F1 : Hid (RS B s _ _) := (hb5.set3 (b := w.heap.size + 1) (i := 3) (j := 4) (k := 5) (by omega) (.int .i64 b0) (.int .i64 b1) (.int .i64 b2)).set7 (b := w.heap.size) (by omega) (.int .i64 a0) (.int .i64 a1) (.int .i64 a2) (.int .i64 b0) (.int .i64 b1) (.int .i64 b2) (.int .u8 61)
          have F2 : Hid (Ex B w _) := (hX5.set3 (b := w.heap.size + 1) (i := 3) (j := 4) (k := 5) (by omega) (.int .i64 b0) (.int .i64 b1) (.int .i64 b2)).set7 (b := w.heap.size) (Nat.le_refl _) (.int .i64 a0) (.int .i64 a1) (.int .i64 a2) (.int .i64 b0) (.int .i64 b1) (.int .i64 b2) (.int .u8 61)
          obtain ⟨⟨k0, k1, k2, k3, k4, k5, k6⟩, kf⟩ := blk7 hC5
          obtain ⟨⟨m0, m1, m2, m3, m4, m5, m6⟩, mf⟩ := blk7 hM5
          clear hb5 hX5 hC5 hM5
          go_wp2
          refine bodyPost_ret (v := .agg #[.int .i64 a0, .int .i64 a1, .int .i64 a2, .int .i64 b0, .int .i64 b1, .int .i64 b2, .int .u8 61]) (by simp [results, Tryd.results65, go_sem, m0, m1, m2, m3, m4, m5, m6]) rfl ?_
          cases r2 with
          | none =>
            simp only [Prod.mk.injEq] at hp
            obtain ⟨rfl, rfl⟩ := hp
            exact ⟨⟨_, _, _, _, _, _, _, rfl, fun _ hr => (by cases hr)⟩, F1.out, F2.out⟩
          | some b =>
            simp only [Prod.mk.injEq] at hp
            obtain ⟨rfl, rfl⟩ := hp
            exact ⟨⟨_, _, _, _, _, _, _, rfl, by intro r hr; cases hr; exact ⟨by rw [hr2 b rfl, HR1.out a rfl], op_at (c := 61) HAT.out (HR1.out a rfl) hlt h61⟩⟩, F1.out, F2.out⟩
      · by_cases h35 : s[i].toNat = 35
        · have hop : qOp s (.ok i) = true := by rw [hopd]; simp [h35]
          rw [if_pos hop] at hp
          clear hop hopd hnum h61
          obtain ⟨⟨k0, k1, k2, k3, k4, k5, k6⟩, kf⟩ := blk7 HC.out
          have lC := lt_of_block HC.out
          go_quiet (fail)
          go_wp2
          go_region
          all_goals
            have hb3 : RS B s (.ok i) (w2.setCell ⟨w.heap.size + 1, 6, none⟩ (.int .u8 35)) := HR.out.set_other (p := ⟨w.heap.size + 1, 6, none⟩) (by show w.heap.size + 1 ≠ B; omega) _
            have hX3 := HX.out.setCell (p := ⟨w.heap.size + 1, 6, none⟩) (.inr (by show w.heap.size ≤ w.heap.size + 1; omega)) (.int .u8 35)
            have hC3 := blk7_c HC.out (.int .u8 35)
            have hM3 := (heap_setCell_other w2 ⟨w.heap.size + 1, 6, none⟩ w.heap.size (.int .u8 35) (by show w.heap.size ≠ w.heap.size + 1; omega)).trans HM.out
            have hb4 : RS B s (.ok (i + 1)) ((w2.setCell ⟨w.heap.size + 1, 6, none⟩ (.int .u8 35)).setCell ⟨B, 1, none⟩ (.int .i64 ((i + 1 : Nat) : Int))) := ⟨hlt, hb3.2.set1 (i + 1)⟩
            have hX4 := hX3.setCell (p := ⟨B, 1, none⟩) (.inl rfl) (.int .i64 ((i + 1 : Nat) : Int))
            have hC4 := (heap_setCell_other (w2.setCell ⟨w.heap.size + 1, 6, none⟩ (.int .u8 35)) ⟨B, 1, none⟩ (w.heap.size + 1) (.int .i64 ((i + 1 : Nat) : Int)) (by show w.heap.size + 1 ≠ B; omega)).trans hC3
            have hM4 := (heap_setCell_other (w2.setCell ⟨w.heap.size + 1, 6, none⟩ (.int .u8 35)) ⟨B, 1, none⟩ w.heap.size (.int .i64 ((i + 1 : Nat) : Int)) (by show w.heap.size ≠ B; omega)).trans hM3
            have HB4 : Hid (RS B s (.ok (i + 1)) _ ∧ Ex B w _ ∧ _ ∧ _) := ⟨hb4, hX4, hC4, hM4⟩
            clear hb3 hX3 hC3 hM3 hb4 hX4 hC4 hM4 k0 k1 k2 k3 k4 k5 k6 kf
            go_wp2_with fail
            cases ht2 : qTerm s (.ok (i + 1)) with
            | mk r2 q2 =>
            replace hp : (match qTerm s (.ok (i + 1)) with | (none, q2) => (none, q2) | (some b, q2) => (some (a, b), q2)) = (r, q') := hp
            rw [ht2] at hp
            refine (rterm_any (q := .ok (i + 1)) hs (by exact HB4.out.1.block rfl)).mono ?_; rintro e w5 ⟨⟨b0, b1, b2, rfl, hr2⟩, hb5, hx5⟩
            rw [ht2] at hr2 hb5
            have hX5 := Ex.via HB4.out.2.1 hx5 rfl rfl rfl rfl
            have hC5 := (hx5.block (w.heap.size + 1) (lt_of_block HB4.out.2.2.1) (by omega)).trans HB4.out.2.2.1
            have hM5 := (hx5.block w.heap.size (lt_of_block HB4.out.2.2.2) (by omega)).trans HB4.out.2.2.2
            have lC5 := lt_of_block hC5
            clear HB4 HR HX HC HM hx5 f1 c0 c1 c2
            have F1 : Hid (RS B s _ _) := (hb5.set3 (b := w.heap.size + 1) (i := 3) (j := 4) (k := 5) (by omega) (.int .i64 b0) (.int .i64 b1) (.int .i64 b2)).set7 (b := w.heap.size) (by omega) (.int .i64 a0) (.int .i64 a1) (.int .i64 a2) (.int .i64 b0) (.int .i64 b1) (.int .i64 b2) (.int .u8 35)
            have F2 : Hid (Ex B w _) := (hX5.set3 (b := w.heap.size + 1) (i := 3) (j := 4) (k := 5) (by omega) (.int .i64 b0) (.int .i64 b1) (.int .i64 b2)).set7 (b := w.heap.size) (Nat.le_refl _) (.int .i64 a0) (.int .i64 a1) (.int .i64 a2) (.int .i64 b0) (.int .i64 b1) (.int .i64 b2) (.int .u8 35)
            obtain ⟨⟨k0, k1, k2, k3, k4, k5, k6⟩, kf⟩ := blk7 hC5
            obtain ⟨⟨m0, m1, m2, m3, m4, m5, m6⟩, mf⟩ := blk7 hM5
            clear hb5 hX5 hC5 hM5
            go_wp2
            refine bodyPost_ret (v := .agg #[.int .i64 a0, .int .i64 a1, .int .i64 a2, .int .i64 b0, .int .i64 b1, .int .i64 b2, .int .u8 35]) (by simp [results, Tryd.results65, go_sem, m0, m1, m2, m3, m4, m5, m6]) rfl ?_
            cases r2 with
            | none =>
              simp only [Prod.mk.injEq] at hp
              obtain ⟨rfl, rfl⟩ := hp
              exact ⟨⟨_, _, _, _, _, _, _, rfl, fun _ hr => (by cases hr)⟩, F1.out, F2.out⟩
            | some b =>
              simp only [Prod.mk.injEq] at hp
              obtain ⟨rfl, rfl⟩ := hp
              exact ⟨⟨_, _, _, _, _, _, _, rfl, by intro r hr; cases hr; exact ⟨by rw [hr2 b rfl, HR1.out a rfl], op_at (c := 35) HAT.out (HR1.out a rfl) hlt h35⟩⟩, F1.out, F2.out⟩
        · by_cases h60 : s[i].toNat = 60
          · have hop : qOp s (.ok i) = true := by rw [hopd]; simp [h60]
            rw [if_pos hop] at hp
            clear hop hopd hnum h61 h35
            obtain ⟨⟨k0, k1, k2, k3, k4, k5, k6⟩, kf⟩ := blk7 HC.out
            have lC := lt_of_block HC.out
            go_quiet (fail)
            go_wp2
            go_region
            all_goals
              have hb3 : RS B s (.ok i) (w2.setCell ⟨w.heap.size + 1, 6, none⟩ (.int .u8 60)) := HR.out.set_other (p := ⟨w.heap.size + 1, 6, none⟩) (by show w.heap.size + 1 ≠ B; omega) _
              have hX3 := HX.out.setCell (p := ⟨w.heap.size + 1, 6, none⟩) (.inr (by show w.heap.size ≤ w.heap.size + 1; omega)) (.int .u8 60)
              have hC3 := blk7_c HC.out (.int .u8 60)
              have hM3 := (heap_setCell_other w2 ⟨w.heap.size + 1, 6, none⟩ w.heap.size (.int .u8 60) (by show w.heap.size ≠ w.heap.size + 1; omega)).trans HM.out
              have hb4 : RS B s (.ok (i + 1)) ((w2.setCell ⟨w.heap.size + 1, 6, none⟩ (.int .u8 60)).setCell ⟨B, 1, none⟩ (.int .i64 ((i + 1 : Nat) : Int))) := ⟨hlt, hb3.2.set1 (i + 1)⟩
              have hX4 := hX3.setCell (p := ⟨B, 1, none⟩) (.inl rfl) (.int .i64 ((i + 1 : Nat) : Int))
              have hC4 := (heap_setCell_other (w2.setCell ⟨w.heap.size + 1, 6, none⟩ (.int .u8 60)) ⟨B, 1, none⟩ (w.heap.size + 1) (.int .i64 ((i + 1 : Nat) : Int)) (by show w.heap.size + 1 ≠ B; omega)).trans hC3
              have hM4 := (heap_setCell_other (w2.setCell ⟨w.heap.size + 1, 6, none⟩ (.int .u8 60)) ⟨B, 1, none⟩ w.heap.size (.int .i64 ((i + 1 : Nat) : Int)) (by show w.heap.size ≠ B; omega)).trans hM3
              have HB4 : Hid (RS B s (.ok (i + 1)) _ ∧ Ex B w _ ∧ _ ∧ _) := ⟨hb4, hX4, hC4, hM4⟩
              clear hb3 hX3 hC3 hM3 hb4 hX4 hC4 hM4 k0 k1 k2 k3 k4 k5 k6 kf
              go_wp2_with fail
              cases ht2 : qTerm s (.ok (i + 1)) with
              | mk r2 q2 =>
              replace hp : (match qTerm s (.ok (i + 1)) with | (none, q2) => (none, q2) | (some b, q2) => (some (a, b), q2)) = (r, q') := hp
              rw [ht2] at hp
              refine (rterm_any (q := .ok (i + 1)) hs (by exact HB4.out.1.block rfl)).mono ?_; rintro e w5 ⟨⟨b0, b1, b2, rfl, hr2⟩, hb5, hx5⟩
              rw [ht2] at hr2 hb5
              have hX5 := Ex.via HB4.out.2.1 hx5 rfl rfl rfl rfl
              have hC5 := (hx5.block (w.heap.size + 1) (lt_of_block HB4.out.2.2.1) (by omega)).trans HB4.out.2.2.1
              have hM5 := (hx5.block w.heap.size (lt_of_block HB4.out.2.2.2) (by omega)).trans HB4.out.2.2.2
              have lC5 := lt_of_block hC5
              clear HB4 HR HX HC HM hx5 f1 c0 c1 c2
              have F1 : Hid (RS B s _ _) := (hb5.set3 (b := w.heap.size + 1) (i := 3) (j := 4) (k := 5) (by omega) (.int .i64 b0) (.int .i64 b1) (.int .i64 b2)).set7 (b := w.heap.size) (by omega) (.int .i64 a0) (.int .i64 a1) (.int .i64 a2) (.int .i64 b0) (.int .i64 b1) (.int .i64 b2) (.int .u8 60)
              have F2 : Hid (Ex B w _) := (hX5.set3 (b := w.heap.size + 1) (i := 3) (j := 4) (k := 5) (by omega) (.int .i64 b0) (.int .i64 b1) (.int .i64 b2)).set7 (b := w.heap.size) (Nat.le_refl _) (.int .i64 a0) (.int .i64 a1) (.int .i64 a2) (.int .i64 b0) (.int .i64 b1) (.int .i64 b2) (.int .u8 60)
              obtain ⟨⟨k0, k1, k2, k3, k4, k5, k6⟩, kf⟩ := blk7 hC5
              obtain ⟨⟨m0, m1, m2, m3, m4, m5, m6⟩, mf⟩ := blk7 hM5
              clear hb5 hX5 hC5 hM5
              go_wp2
              refine bodyPost_ret (v := .agg #[.int .i64 a0, .int .i64 a1, .int .i64 a2, .int .i64 b0, .int .i64 b1, .int .i64 b2, .int .u8 60]) (by simp [results, Tryd.results65, go_sem, m0, m1, m2, m3, m4, m5, m6]) rfl ?_
              cases r2 with
              | none =>
                simp only [Prod.mk.injEq] at hp
                obtain ⟨rfl, rfl⟩ := hp
                exact ⟨⟨_, _, _, _, _, _, _, rfl, fun _ hr => (by cases hr)⟩, F1.out, F2.out⟩
              | some b =>
                simp only [Prod.mk.injEq] at hp
                obtain ⟨rfl, rfl⟩ := hp
                exact ⟨⟨_, _, _, _, _, _, _, rfl, by intro r hr; cases hr; exact ⟨by rw [hr2 b rfl, HR1.out a rfl], op_at (c := 60) HAT.out (HR1.out a rfl) hlt h60⟩⟩, F1.out, F2.out⟩
          · have hop : qOp s (.ok i) = false := by rw [hopd]; simp [h61, h35, h60]
            rw [hop, if_neg (by simp), Prod.mk.injEq] at hp
            obtain ⟨rfl, rfl⟩ := hp
            clear hop hopd hnum
            have e61 : ((s[i].toNat : Int) != 61) = true := by simp; omega
            have e35 : ((s[i].toNat : Int) != 35) = true := by simp; omega
            have e60 : ((s[i].toNat : Int) != 60) = true := by simp; omega
            clear h61 h35 h60
            go_quiet (fail)
            go_wp2_with fail
            refine (fail_any hs (HR.out.drewN _)).mono ?_; rintro e w3 ⟨rfl, hb3, hx3⟩
            have hX3 := HX.out.trans (((Ex.refl B w2).drewN _).trans hx3)
            have hC3 := (hx3.block _ (lt_of_block HC.out) (by omega)).trans HC.out
            have hM3 := (hx3.block _ (lt_of_block HM.out) (by omega)).trans HM.out
            have lC := lt_of_block hC3
            obtain ⟨⟨k0, k1, k2, k3, k4, k5, k6⟩, kf⟩ := blk7 hC3
            obtain ⟨⟨m0, m1, m2, m3, m4, m5, m6⟩, mf⟩ := blk7 hM3
            have F1 : Hid (RS B s _ _) := hb3.set7 (b := w.heap.size) (by omega) (.int .i64 a0) (.int .i64 a1) (.int .i64 a2) (.int .i64 0) (.int .i64 0) (.int .i64 0) (.int .u8 0)
            have F2 : Hid (Ex B w _) := hX3.set7 (b := w.heap.size) (Nat.le_refl _) (.int .i64 a0) (.int .i64 a1) (.int .i64 a2) (.int .i64 0) (.int .i64 0) (.int .i64 0) (.int .u8 0)
            clear hb3 hx3 hX3 hC3 hM3
            go_wp2
            exact bodyPost_ret (v := .agg #[.int .i64 a0, .int .i64 a1, .int .i64 a2, .int .i64 0, .int .i64 0, .int .i64 0, .int .u8 0]) (by simp [results, Tryd.results65, go_sem, m0, m1, m2, m3, m4, m5, m6]) rfl ⟨⟨_, _, _, _, _, _, _, rfl, fun _ hr => (by cases hr)⟩, F1.out, F2.out⟩
    · have i2 : s.size ≤ i := by omega
      have hop : qOp s (.ok i) = false := by
        unfold qOp qNum num?; simp [hlt]
      rw [hop, if_neg (by simp), Prod.mk.injEq] at hp
      obtain ⟨rfl, rfl⟩ := hp
      clear hop
      go_quiet (fail)
      go_wp2_with fail
      refine (fail_any hs (HR.out.drewN _)).mono ?_; rintro e w3 ⟨rfl, hb3, hx3⟩
      have hX3 := HX.out.trans (((Ex.refl B w2).drewN _).trans hx3)
      have hC3 := (hx3.block _ (lt_of_block HC.out) (by omega)).trans HC.out
      have hM3 := (hx3.block _ (lt_of_block HM.out) (by omega)).trans HM.out
      have lC := lt_of_block hC3
      obtain ⟨⟨k0, k1, k2, k3, k4, k5, k6⟩, kf⟩ := blk7 hC3
      obtain ⟨⟨m0, m1, m2, m3, m4, m5, m6⟩, mf⟩ := blk7 hM3
      have F1 : Hid (RS B s _ _) := hb3.set7 (b := w.heap.size) (by omega) (.int .i64 a0) (.int .i64 a1) (.int .i64 a2) (.int .i64 0) (.int .i64 0) (.int .i64 0) (.int .u8 0)
      have F2 : Hid (Ex B w _) := hX3.set7 (b := w.heap.size) (Nat.le_refl _) (.int .i64 a0) (.int .i64 a1) (.int .i64 a2) (.int .i64 0) (.int .i64 0) (.int .i64 0) (.int .u8 0)
      clear hb3 hx3 hX3 hC3 hM3
      go_wp2
      exact bodyPost_ret (v := .agg #[.int .i64 a0, .int .i64 a1, .int .i64 a2, .int .i64 0, .int .i64 0, .int .i64 0, .int .u8 0]) (by simp [results, Tryd.results65, go_sem, m0, m1, m2, m3, m4, m5, m6]) rfl ⟨⟨_, _, _, _, _, _, _, rfl, fun _ hr => (by cases hr)⟩, F1.out, F2.out⟩
end
end Go.Proofs.YtkbmolodljenjaaDoor
