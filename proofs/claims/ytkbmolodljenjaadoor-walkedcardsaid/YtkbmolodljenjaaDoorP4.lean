import Derived.Test.YtkbmolodljenjaaDoorP3
/- The document's reader: a change. Our own text. -/
namespace Go.Proofs.YtkbmolodljenjaaDoor
open Go.RowKit
abbrev Chg := Int × Int × Bool × Tm
def qChange (s : ByteArray) (q : Q) : Option Chg × Q := match qNum s q 97 2 with
  | none => (none, q.fail)
  | some k => match qNum s q.adv 61 0 with
    | none => (none, q.adv.fail)
    | some _ => match qNum s q.adv.adv 63 0 with
      | some _ => (some ((k : Int), (q.pos : Int), true, (0, 0, 0)), q.adv.adv.adv)
      | none => match qTerm s q.adv.adv with
        | (none, q3) => (none, q3)
        | (some a, q3) => match qNum s q3 43 0 with
          | none => (some ((k : Int), (q.pos : Int), false, a), q3)
          | some _ => match qNum s q3.adv 48 3 with
            | none => (none, q3.adv.fail)
            | some _ => (some ((k : Int), (q.pos : Int), false, a), q3.adv.adv)

/-- How much more a change says behind the term at a place. -/
def moreAt (s : ByteArray) : Bool → Int → Int
  | true, _ => 0
  | false, t => if byteAt s (t.toNat + 1) = 43 then ((byteAt s (t.toNat + 2) - 48 : Nat) : Int) else 0
theorem byteAt_lt {s : ByteArray} {p : Nat} (h : p < s.size) : byteAt s p = s[p].toNat := by unfold byteAt; rw [dif_pos h]
theorem byteAt_ge {s : ByteArray} {p : Nat} (h : ¬ p < s.size) : byteAt s p = 0 := by unfold byteAt; rw [dif_neg h]
theorem num_byte {s : ByteArray} {p z d k : Nat} (h : num? s p z 0 d = some k) : byteAt s p = z + k := by
  unfold num? at h
  split at h
  · next hl =>
    rw [byteAt_lt hl]
    split at h
    · simp at h; omega
    · cases h
  · cases h
theorem num_no {s : ByteArray} {p c : Nat} (hc : c ≠ 0) (h : num? s p c 0 0 = none) : byteAt s p ≠ c := by
  unfold num? at h
  split at h
  · next hl =>
    rw [byteAt_lt hl]
    split at h
    · cases h
    · omega
  · next hl => rw [byteAt_ge hl]; omega
theorem moreAt_false (s : ByteArray) (t : Int) : moreAt s false t = if byteAt s (t.toNat + 1) = 43 then ((byteAt s (t.toNat + 2) - 48 : Nat) : Int) else 0 := rfl
theorem more_none {s : ByteArray} {q q4 : Q} {a : Tm} (h4 : qTerm s q = (some a, q4)) (h5 : qNum s q4 43 0 = none) : moreAt s false a.2.2 = 0 := by
  obtain ⟨i, rfl⟩ := qTerm_some h4
  obtain ⟨j, _, h2, rfl⟩ := qTerm_at h4
  have : byteAt s (j + 1) ≠ 43 := num_no (by decide) h5
  rw [h2, moreAt_false, if_neg (by simpa using this)]
theorem more_some {s : ByteArray} {q q4 : Q} {a : Tm} {k kd : Nat} (h4 : qTerm s q = (some a, q4)) (h5 : qNum s q4 43 0 = some k) (h6 : qNum s q4.adv 48 3 = some kd) : moreAt s false a.2.2 = (kd : Int) := by
  obtain ⟨i, rfl⟩ := qTerm_some h4
  obtain ⟨j, _, h2, rfl⟩ := qTerm_at h4
  have h7 : byteAt s (j + 1) = 43 + k := num_byte h5
  have h8 : byteAt s (j + 1 + 1) = 48 + kd := num_byte h6
  have hk : k = 0 := by have := (num_le h5).2; omega
  rw [h2, moreAt_false, if_pos (by simp; omega)]
  have e : ((j : Int)).toNat + 2 = j + 1 + 1 := by simp
  rw [e, h8]; omega

section
variable {B : Nat} {s : ByteArray} {q : Q} {w : World}
set_option maxRecDepth 100000 in
set_option maxHeartbeats 3200000 in
theorem rchange_any {r : Option Chg} {q' : Q} (hs : s.size ≤ 120) (hb : RS B s q w) (hp : qChange s q = (r, q')) :
    Calls Tryd.prog 66 #[.pointer (some ⟨B, 0, none⟩)] w fun e w' => (∃ (v at_ t0 t1 t2 more : Int) (any : Bool), e = .returned (.agg #[.int .i64 v, .int .i64 at_, .int .i64 t0, .int .i64 t1, .int .i64 t2, .int .i64 more, .bool any]) ∧ ∀ y, r = some y → y = (v, at_, any, (t0, t1, t2)) ∧ more = moreAt s any t2) ∧ RS B s q' w' ∧ Ex B w w' := by
  have hBw := hb.lt
  obtain ⟨i, c1⟩ : ∃ i : Nat, w.cell? ⟨B, 1, none⟩ = some (.int .i64 i) ∧ (∀ j, q = .ok j → i = j) := by
    cases q with
    | ok i => exact ⟨i, hb.2.c1, fun j h => by cases h; rfl⟩
    | error p => obtain ⟨i, _, h⟩ := hb; exact ⟨i, h.c1, fun j h => by cases h⟩
  obtain ⟨c1, hij⟩ := c1
  have hv0 := heap_alloc_new w (.cells #[.int .i64 0, .int .i64 0, .int .i64 0, .int .i64 0, .int .i64 0, .int .i64 0, .bool false] 128)
  have hC1 := heap_alloc_new (w.alloc (.cells #[.int .i64 0, .int .i64 0, .int .i64 0, .int .i64 0, .int .i64 0, .int .i64 0, .bool false] 128)) (.cells #[.int .i64 0, .int .i64 i, .int .i64 0, .int .i64 0, .int .i64 0, .int .i64 0, .bool false] 128)
  rw [World.size_alloc] at hC1
  have hM1 := (Below.heap_alloc _ (.cells #[.int .i64 0, .int .i64 i, .int .i64 0, .int .i64 0, .int .i64 0, .int .i64 0, .bool false] 128) _ (lt_of_block hv0)).trans hv0
  have hb1 := (hb.alloc (.cells #[.int .i64 0, .int .i64 0, .int .i64 0, .int .i64 0, .int .i64 0, .int .i64 0, .bool false] 128)).alloc (.cells #[.int .i64 0, .int .i64 i, .int .i64 0, .int .i64 0, .int .i64 0, .int .i64 0, .bool false] 128)
  have hX1 := ((Ex.refl B w).alloc (.cells #[.int .i64 0, .int .i64 0, .int .i64 0, .int .i64 0, .int .i64 0, .int .i64 0, .bool false] 128)).alloc (.cells #[.int .i64 0, .int .i64 i, .int .i64 0, .int .i64 0, .int .i64 0, .int .i64 0, .bool false] 128)
  clear hv0 hb
  unfold qChange at hp
  cases h1 : qNum s q 97 2 with
  | none =>
    obtain ⟨p, hqf⟩ : ∃ p, q.fail = .error p := by cases q <;> exact ⟨_, rfl⟩
    simp only [h1, Prod.mk.injEq] at hp
    obtain ⟨rfl, rfl⟩ := hp
    rw [hqf]
    have HQ : Hid (q.fail = .error p) := hqf
    clear hqf
    go_enter Tryd.func66, Tryd.ntmps66
    go_wp2_with fail
    refine (between_no 97 99 2 rfl hs (by omega) hb1 h1).mono ?_; rintro e w2 ⟨rfl, hb2, hx2⟩
    rw [HQ.out] at hb2
    have hX2 := hX1.trans hx2
    have hC2 := (hx2.block _ (lt_of_block hC1) (by omega)).trans hC1
    have hM2 := (hx2.block _ (lt_of_block hM1) (by omega)).trans hM1
    clear hb1 hX1 hC1 hM1 hx2
    obtain ⟨⟨k0, k1, k2, k3, k4, k5, k6⟩, kf⟩ := blk7 hC2
    have hb3 := (hb2.set_other (p := ⟨w.heap.size + 1, 0, none⟩) (by show w.heap.size + 1 ≠ B; omega) (.int .i64 0))
    have hX3 := (hX2.setCell (p := ⟨w.heap.size + 1, 0, none⟩) (.inr (by show w.heap.size ≤ w.heap.size + 1; omega)) (.int .i64 0))
    have hC3 : (w2.setCell ⟨w.heap.size + 1, 0, none⟩ (.int .i64 0)).heap[w.heap.size + 1]? = some (.cells #[.int .i64 0, .int .i64 i, .int .i64 0, .int .i64 0, .int .i64 0, .int .i64 0, .bool false] 128 (0, 0)) := (heap_setCell_same w2 (w.heap.size + 1) 0 #[.int .i64 0, .int .i64 i, .int .i64 0, .int .i64 0, .int .i64 0, .int .i64 0, .bool false] 128 (.int .i64 0) hC2)
    have hM3 := ((heap_setCell_other w2 ⟨w.heap.size + 1, 0, none⟩ w.heap.size (.int .i64 0) (by show w.heap.size ≠ w.heap.size + 1; omega)).trans hM2)
    have lC := lt_of_block hC2
    clear hb2 hX2 hC2 hM2
    go_wp2_with fail
    clear k0 k1 k2 k3 k4 k5 k6 kf lC
    generalize (w2.setCell ⟨w.heap.size + 1, 0, none⟩ (.int .i64 0)) = w3 at *
    refine (must_any 61 (by omega) hs (by omega) hb3).mono ?_; rintro e w4 ⟨rfl, hb4, hx4⟩
    have hX4 := hX3.trans hx4
    have hC4 := (hx4.block _ (lt_of_block hC3) (by omega)).trans hC3
    have hM4 := (hx4.block _ (lt_of_block hM3) (by omega)).trans hM3
    clear hb3 hX3 hC3 hM3 hx4
    replace hb4 : RS B s (.error p) w4 := hb4
    go_wp2_with fail
    refine (got_no 63 hs (by omega) hb4 rfl).mono ?_; rintro e w5 ⟨rfl, hb5, hx5⟩
    have hX5 := hX4.trans hx5
    have hC5 := (hx5.block _ (lt_of_block hC4) (by omega)).trans hC4
    have hM5 := (hx5.block _ (lt_of_block hM4) (by omega)).trans hM4
    clear hb4 hX4 hC4 hM4 hx5
    obtain ⟨⟨k0, k1, k2, k3, k4, k5, k6⟩, kf⟩ := blk7 hC5
    have hb6 := (hb5.set_other (p := ⟨w.heap.size + 1, 6, none⟩) (by show w.heap.size + 1 ≠ B; omega) (.bool false))
    have hX6 := (hX5.setCell (p := ⟨w.heap.size + 1, 6, none⟩) (.inr (by show w.heap.size ≤ w.heap.size + 1; omega)) (.bool false))
    have hC6 : (w5.setCell ⟨w.heap.size + 1, 6, none⟩ (.bool false)).heap[w.heap.size + 1]? = some (.cells #[.int .i64 0, .int .i64 i, .int .i64 0, .int .i64 0, .int .i64 0, .int .i64 0, .bool false] 128 (0, 0)) := (heap_setCell_same w5 (w.heap.size + 1) 6 #[.int .i64 0, .int .i64 i, .int .i64 0, .int .i64 0, .int .i64 0, .int .i64 0, .bool false] 128 (.bool false) hC5)
    have hM6 := ((heap_setCell_other w5 ⟨w.heap.size + 1, 6, none⟩ w.heap.size (.bool false) (by show w.heap.size ≠ w.heap.size + 1; omega)).trans hM5)
    have lC := lt_of_block hC5
    clear hb5 hX5 hC5 hM5
    go_wp2_with fail
    clear k0 k1 k2 k3 k4 k5 k6 kf lC
    generalize (w5.setCell ⟨w.heap.size + 1, 6, none⟩ (.bool false)) = w6 at *
    refine (rterm_any (q := .error p) hs hb6).mono ?_; rintro e w7 ⟨⟨t0, t1, t2, rfl, _⟩, hb7, hx7⟩
    have hX7 := hX6.trans hx7
    have hC7 := (hx7.block _ (lt_of_block hC6) (by omega)).trans hC6
    have hM7 := (hx7.block _ (lt_of_block hM6) (by omega)).trans hM6
    clear hb6 hX6 hC6 hM6 hx7
    replace hb7 : RS B s (.error p) w7 := hb7
    obtain ⟨⟨k0, k1, k2, k3, k4, k5, k6⟩, kf⟩ := blk7 hC7
    have hb8 := (((hb7.set_other (p := ⟨w.heap.size + 1, 2, none⟩) (by show w.heap.size + 1 ≠ B; omega) (.int .i64 t0)).set_other (p := ⟨w.heap.size + 1, 3, none⟩) (by show w.heap.size + 1 ≠ B; omega) (.int .i64 t1)).set_other (p := ⟨w.heap.size + 1, 4, none⟩) (by show w.heap.size + 1 ≠ B; omega) (.int .i64 t2))
    have hX8 := (((hX7.setCell (p := ⟨w.heap.size + 1, 2, none⟩) (.inr (by show w.heap.size ≤ w.heap.size + 1; omega)) (.int .i64 t0)).setCell (p := ⟨w.heap.size + 1, 3, none⟩) (.inr (by show w.heap.size ≤ w.heap.size + 1; omega)) (.int .i64 t1)).setCell (p := ⟨w.heap.size + 1, 4, none⟩) (.inr (by show w.heap.size ≤ w.heap.size + 1; omega)) (.int .i64 t2))
    have hC8 : (((w7.setCell ⟨w.heap.size + 1, 2, none⟩ (.int .i64 t0)).setCell ⟨w.heap.size + 1, 3, none⟩ (.int .i64 t1)).setCell ⟨w.heap.size + 1, 4, none⟩ (.int .i64 t2)).heap[w.heap.size + 1]? = some (.cells #[.int .i64 0, .int .i64 i, .int .i64 t0, .int .i64 t1, .int .i64 t2, .int .i64 0, .bool false] 128 (0, 0)) := (heap_setCell_same ((w7.setCell ⟨w.heap.size + 1, 2, none⟩ (.int .i64 t0)).setCell ⟨w.heap.size + 1, 3, none⟩ (.int .i64 t1)) (w.heap.size + 1) 4 #[.int .i64 0, .int .i64 i, .int .i64 t0, .int .i64 t1, .int .i64 0, .int .i64 0, .bool false] 128 (.int .i64 t2) (heap_setCell_same (w7.setCell ⟨w.heap.size + 1, 2, none⟩ (.int .i64 t0)) (w.heap.size + 1) 3 #[.int .i64 0, .int .i64 i, .int .i64 t0, .int .i64 0, .int .i64 0, .int .i64 0, .bool false] 128 (.int .i64 t1) (heap_setCell_same w7 (w.heap.size + 1) 2 #[.int .i64 0, .int .i64 i, .int .i64 0, .int .i64 0, .int .i64 0, .int .i64 0, .bool false] 128 (.int .i64 t0) hC7)))
    have hM8 := ((heap_setCell_other ((w7.setCell ⟨w.heap.size + 1, 2, none⟩ (.int .i64 t0)).setCell ⟨w.heap.size + 1, 3, none⟩ (.int .i64 t1)) ⟨w.heap.size + 1, 4, none⟩ w.heap.size (.int .i64 t2) (by show w.heap.size ≠ w.heap.size + 1; omega)).trans ((heap_setCell_other (w7.setCell ⟨w.heap.size + 1, 2, none⟩ (.int .i64 t0)) ⟨w.heap.size + 1, 3, none⟩ w.heap.size (.int .i64 t1) (by show w.heap.size ≠ w.heap.size + 1; omega)).trans ((heap_setCell_other w7 ⟨w.heap.size + 1, 2, none⟩ w.heap.size (.int .i64 t0) (by show w.heap.size ≠ w.heap.size + 1; omega)).trans hM7)))
    have lC := lt_of_block hC7
    clear hb7 hX7 hC7 hM7
    go_wp2_with fail
    clear k0 k1 k2 k3 k4 k5 k6 kf lC
    generalize (((w7.setCell ⟨w.heap.size + 1, 2, none⟩ (.int .i64 t0)).setCell ⟨w.heap.size + 1, 3, none⟩ (.int .i64 t1)).setCell ⟨w.heap.size + 1, 4, none⟩ (.int .i64 t2)) = w8 at *
    refine (got_no 43 hs (by omega) hb8 rfl).mono ?_; rintro e w9 ⟨rfl, hb9, hx9⟩
    have hX9 := hX8.trans hx9
    have hC9 := (hx9.block _ (lt_of_block hC8) (by omega)).trans hC8
    have hM9 := (hx9.block _ (lt_of_block hM8) (by omega)).trans hM8
    clear hb8 hX8 hC8 hM8 hx9
    obtain ⟨⟨k0, k1, k2, k3, k4, k5, k6⟩, kf⟩ := blk7 hC9
    obtain ⟨⟨m0, m1, m2, m3, m4, m5, m6⟩, mf⟩ := blk7 hM9
    have lC := lt_of_block hC9
    have F1 : Hid (RS B s _ _) := hb9.set7 (b := w.heap.size) (by omega) (.int .i64 0) (.int .i64 i) (.int .i64 t0) (.int .i64 t1) (.int .i64 t2) (.int .i64 0) (.bool false)
    have F2 : Hid (Ex B w _) := hX9.set7 (b := w.heap.size) (Nat.le_refl _) (.int .i64 0) (.int .i64 i) (.int .i64 t0) (.int .i64 t1) (.int .i64 t2) (.int .i64 0) (.bool false)
    clear hb9 hX9 hC9 hM9
    go_wp2
    exact bodyPost_ret (v := .agg #[.int .i64 0, .int .i64 i, .int .i64 t0, .int .i64 t1, .int .i64 t2, .int .i64 0, .bool false]) (by simp [results, Tryd.results66, go_sem, m0, m1, m2, m3, m4, m5, m6]) rfl ⟨⟨_, _, _, _, _, _, _, rfl, fun _ hr => (by cases hr)⟩, F1.out, F2.out⟩
  | some k =>
    cases q with
    | error p => cases h1
    | ok i' =>
      have hii : i = i' := hij i' rfl
      subst hii
      clear hij
      simp only [h1] at hp
      cases h2 : qNum s (Q.adv (.ok i)) 61 0 with
      | none =>
        simp only [h2, Prod.mk.injEq] at hp
        obtain ⟨rfl, rfl⟩ := hp
        obtain ⟨p, hpe⟩ : ∃ p, p = i + 1 := ⟨_, rfl⟩
        have hmu : qMust s (Q.adv (.ok i)) 61 = .error p := by unfold qMust; rw [h2]; simp [Q.adv, Q.fail, hpe]
        have hgo : (Q.adv (.ok i)).fail = .error p := by simp [Q.adv, Q.fail, hpe]
        rw [hgo]
        clear hpe hgo
        go_enter Tryd.func66, Tryd.ntmps66
        go_wp2_with fail
        refine (between_yes 97 99 2 k rfl hs (by omega) hb1 h1).mono ?_; rintro e w2 ⟨rfl, hb2, hx2⟩
        have hX2 := hX1.trans hx2
        have hC2 := (hx2.block _ (lt_of_block hC1) (by omega)).trans hC1
        have hM2 := (hx2.block _ (lt_of_block hM1) (by omega)).trans hM1
        clear hb1 hX1 hC1 hM1 hx2
        obtain ⟨⟨k0, k1, k2, k3, k4, k5, k6⟩, kf⟩ := blk7 hC2
        have hb3 := (hb2.set_other (p := ⟨w.heap.size + 1, 0, none⟩) (by show w.heap.size + 1 ≠ B; omega) (.int .i64 k))
        have hX3 := (hX2.setCell (p := ⟨w.heap.size + 1, 0, none⟩) (.inr (by show w.heap.size ≤ w.heap.size + 1; omega)) (.int .i64 k))
        have hC3 : (w2.setCell ⟨w.heap.size + 1, 0, none⟩ (.int .i64 k)).heap[w.heap.size + 1]? = some (.cells #[.int .i64 k, .int .i64 i, .int .i64 0, .int .i64 0, .int .i64 0, .int .i64 0, .bool false] 128 (0, 0)) := (heap_setCell_same w2 (w.heap.size + 1) 0 #[.int .i64 0, .int .i64 i, .int .i64 0, .int .i64 0, .int .i64 0, .int .i64 0, .bool false] 128 (.int .i64 k) hC2)
        have hM3 := ((heap_setCell_other w2 ⟨w.heap.size + 1, 0, none⟩ w.heap.size (.int .i64 k) (by show w.heap.size ≠ w.heap.size + 1; omega)).trans hM2)
        have lC := lt_of_block hC2
        clear hb2 hX2 hC2 hM2
        go_wp2_with fail
        clear k0 k1 k2 k3 k4 k5 k6 kf lC
        generalize (w2.setCell ⟨w.heap.size + 1, 0, none⟩ (.int .i64 k)) = w3 at *
        refine (must_any 61 (by omega) hs (by omega) hb3).mono ?_; rintro e w4 ⟨rfl, hb4, hx4⟩
        have hX4 := hX3.trans hx4
        have hC4 := (hx4.block _ (lt_of_block hC3) (by omega)).trans hC3
        have hM4 := (hx4.block _ (lt_of_block hM3) (by omega)).trans hM3
        clear hb3 hX3 hC3 hM3 hx4
        replace hb4 : RS B s (.error p) w4 := by rw [hmu] at hb4; exact hb4
        go_wp2_with fail
        refine (got_no 63 hs (by omega) hb4 rfl).mono ?_; rintro e w5 ⟨rfl, hb5, hx5⟩
        have hX5 := hX4.trans hx5
        have hC5 := (hx5.block _ (lt_of_block hC4) (by omega)).trans hC4
        have hM5 := (hx5.block _ (lt_of_block hM4) (by omega)).trans hM4
        clear hb4 hX4 hC4 hM4 hx5
        obtain ⟨⟨k0, k1, k2, k3, k4, k5, k6⟩, kf⟩ := blk7 hC5
        have hb6 := (hb5.set_other (p := ⟨w.heap.size + 1, 6, none⟩) (by show w.heap.size + 1 ≠ B; omega) (.bool false))
        have hX6 := (hX5.setCell (p := ⟨w.heap.size + 1, 6, none⟩) (.inr (by show w.heap.size ≤ w.heap.size + 1; omega)) (.bool false))
        have hC6 : (w5.setCell ⟨w.heap.size + 1, 6, none⟩ (.bool false)).heap[w.heap.size + 1]? = some (.cells #[.int .i64 k, .int .i64 i, .int .i64 0, .int .i64 0, .int .i64 0, .int .i64 0, .bool false] 128 (0, 0)) := (heap_setCell_same w5 (w.heap.size + 1) 6 #[.int .i64 k, .int .i64 i, .int .i64 0, .int .i64 0, .int .i64 0, .int .i64 0, .bool false] 128 (.bool false) hC5)
        have hM6 := ((heap_setCell_other w5 ⟨w.heap.size + 1, 6, none⟩ w.heap.size (.bool false) (by show w.heap.size ≠ w.heap.size + 1; omega)).trans hM5)
        have lC := lt_of_block hC5
        clear hb5 hX5 hC5 hM5
        go_wp2_with fail
        clear k0 k1 k2 k3 k4 k5 k6 kf lC
        generalize (w5.setCell ⟨w.heap.size + 1, 6, none⟩ (.bool false)) = w6 at *
        refine (rterm_any (q := .error p) hs hb6).mono ?_; rintro e w7 ⟨⟨t0, t1, t2, rfl, _⟩, hb7, hx7⟩
        have hX7 := hX6.trans hx7
        have hC7 := (hx7.block _ (lt_of_block hC6) (by omega)).trans hC6
        have hM7 := (hx7.block _ (lt_of_block hM6) (by omega)).trans hM6
        clear hb6 hX6 hC6 hM6 hx7
        replace hb7 : RS B s (.error p) w7 := hb7
        obtain ⟨⟨k0, k1, k2, k3, k4, k5, k6⟩, kf⟩ := blk7 hC7
        have hb8 := (((hb7.set_other (p := ⟨w.heap.size + 1, 2, none⟩) (by show w.heap.size + 1 ≠ B; omega) (.int .i64 t0)).set_other (p := ⟨w.heap.size + 1, 3, none⟩) (by show w.heap.size + 1 ≠ B; omega) (.int .i64 t1)).set_other (p := ⟨w.heap.size + 1, 4, none⟩) (by show w.heap.size + 1 ≠ B; omega) (.int .i64 t2))
        have hX8 := (((hX7.setCell (p := ⟨w.heap.size + 1, 2, none⟩) (.inr (by show w.heap.size ≤ w.heap.size + 1; omega)) (.int .i64 t0)).setCell (p := ⟨w.heap.size + 1, 3, none⟩) (.inr (by show w.heap.size ≤ w.heap.size + 1; omega)) (.int .i64 t1)).setCell (p := ⟨w.heap.size + 1, 4, none⟩) (.inr (by show w.heap.size ≤ w.heap.size + 1; omega)) (.int .i64 t2))
        have hC8 : (((w7.setCell ⟨w.heap.size + 1, 2, none⟩ (.int .i64 t0)).setCell ⟨w.heap.size + 1, 3, none⟩ (.int .i64 t1)).setCell ⟨w.heap.size + 1, 4, none⟩ (.int .i64 t2)).heap[w.heap.size + 1]? = some (.cells #[.int .i64 k, .int .i64 i, .int .i64 t0, .int .i64 t1, .int .i64 t2, .int .i64 0, .bool false] 128 (0, 0)) := (heap_setCell_same ((w7.setCell ⟨w.heap.size + 1, 2, none⟩ (.int .i64 t0)).setCell ⟨w.heap.size + 1, 3, none⟩ (.int .i64 t1)) (w.heap.size + 1) 4 #[.int .i64 k, .int .i64 i, .int .i64 t0, .int .i64 t1, .int .i64 0, .int .i64 0, .bool false] 128 (.int .i64 t2) (heap_setCell_same (w7.setCell ⟨w.heap.size + 1, 2, none⟩ (.int .i64 t0)) (w.heap.size + 1) 3 #[.int .i64 k, .int .i64 i, .int .i64 t0, .int .i64 0, .int .i64 0, .int .i64 0, .bool false] 128 (.int .i64 t1) (heap_setCell_same w7 (w.heap.size + 1) 2 #[.int .i64 k, .int .i64 i, .int .i64 0, .int .i64 0, .int .i64 0, .int .i64 0, .bool false] 128 (.int .i64 t0) hC7)))
        have hM8 := ((heap_setCell_other ((w7.setCell ⟨w.heap.size + 1, 2, none⟩ (.int .i64 t0)).setCell ⟨w.heap.size + 1, 3, none⟩ (.int .i64 t1)) ⟨w.heap.size + 1, 4, none⟩ w.heap.size (.int .i64 t2) (by show w.heap.size ≠ w.heap.size + 1; omega)).trans ((heap_setCell_other (w7.setCell ⟨w.heap.size + 1, 2, none⟩ (.int .i64 t0)) ⟨w.heap.size + 1, 3, none⟩ w.heap.size (.int .i64 t1) (by show w.heap.size ≠ w.heap.size + 1; omega)).trans ((heap_setCell_other w7 ⟨w.heap.size + 1, 2, none⟩ w.heap.size (.int .i64 t0) (by show w.heap.size ≠ w.heap.size + 1; omega)).trans hM7)))
        have lC := lt_of_block hC7
        clear hb7 hX7 hC7 hM7
        go_wp2_with fail
        clear k0 k1 k2 k3 k4 k5 k6 kf lC
        generalize (((w7.setCell ⟨w.heap.size + 1, 2, none⟩ (.int .i64 t0)).setCell ⟨w.heap.size + 1, 3, none⟩ (.int .i64 t1)).setCell ⟨w.heap.size + 1, 4, none⟩ (.int .i64 t2)) = w8 at *
        refine (got_no 43 hs (by omega) hb8 rfl).mono ?_; rintro e w9 ⟨rfl, hb9, hx9⟩
        have hX9 := hX8.trans hx9
        have hC9 := (hx9.block _ (lt_of_block hC8) (by omega)).trans hC8
        have hM9 := (hx9.block _ (lt_of_block hM8) (by omega)).trans hM8
        clear hb8 hX8 hC8 hM8 hx9
        obtain ⟨⟨k0, k1, k2, k3, k4, k5, k6⟩, kf⟩ := blk7 hC9
        obtain ⟨⟨m0, m1, m2, m3, m4, m5, m6⟩, mf⟩ := blk7 hM9
        have lC := lt_of_block hC9
        have F1 : Hid (RS B s _ _) := hb9.set7 (b := w.heap.size) (by omega) (.int .i64 k) (.int .i64 i) (.int .i64 t0) (.int .i64 t1) (.int .i64 t2) (.int .i64 0) (.bool false)
        have F2 : Hid (Ex B w _) := hX9.set7 (b := w.heap.size) (Nat.le_refl _) (.int .i64 k) (.int .i64 i) (.int .i64 t0) (.int .i64 t1) (.int .i64 t2) (.int .i64 0) (.bool false)
        clear hb9 hX9 hC9 hM9
        go_wp2
        exact bodyPost_ret (v := .agg #[.int .i64 k, .int .i64 i, .int .i64 t0, .int .i64 t1, .int .i64 t2, .int .i64 0, .bool false]) (by simp [results, Tryd.results66, go_sem, m0, m1, m2, m3, m4, m5, m6]) rfl ⟨⟨_, _, _, _, _, _, _, rfl, fun _ hr => (by cases hr)⟩, F1.out, F2.out⟩
      | some k2 =>
        simp only [h2] at hp
        obtain ⟨j, hj⟩ : ∃ j, j = i + 1 + 1 := ⟨_, rfl⟩
        have hmu : qMust s (Q.adv (.ok i)) 61 = .ok j := by unfold qMust; rw [h2]; simp [Q.adv, hj]
        have hadv : (Q.adv (.ok i)).adv = .ok j := by simp [Q.adv, hj]
        rw [hadv] at hp
        clear hj hadv
        cases h3 : qNum s (.ok j) 63 0 with
        | some k3 =>
          simp only [h3, Prod.mk.injEq] at hp
          obtain ⟨rfl, rfl⟩ := hp
          go_enter Tryd.func66, Tryd.ntmps66
          go_wp2_with fail
          refine (between_yes 97 99 2 k rfl hs (by omega) hb1 h1).mono ?_; rintro e w2 ⟨rfl, hb2, hx2⟩
          have hX2 := hX1.trans hx2
          have hC2 := (hx2.block _ (lt_of_block hC1) (by omega)).trans hC1
          have hM2 := (hx2.block _ (lt_of_block hM1) (by omega)).trans hM1
          clear hb1 hX1 hC1 hM1 hx2
          obtain ⟨⟨k0, k1, k2, k3, k4, k5, k6⟩, kf⟩ := blk7 hC2
          have hb3 := (hb2.set_other (p := ⟨w.heap.size + 1, 0, none⟩) (by show w.heap.size + 1 ≠ B; omega) (.int .i64 k))
          have hX3 := (hX2.setCell (p := ⟨w.heap.size + 1, 0, none⟩) (.inr (by show w.heap.size ≤ w.heap.size + 1; omega)) (.int .i64 k))
          have hC3 : (w2.setCell ⟨w.heap.size + 1, 0, none⟩ (.int .i64 k)).heap[w.heap.size + 1]? = some (.cells #[.int .i64 k, .int .i64 i, .int .i64 0, .int .i64 0, .int .i64 0, .int .i64 0, .bool false] 128 (0, 0)) := (heap_setCell_same w2 (w.heap.size + 1) 0 #[.int .i64 0, .int .i64 i, .int .i64 0, .int .i64 0, .int .i64 0, .int .i64 0, .bool false] 128 (.int .i64 k) hC2)
          have hM3 := ((heap_setCell_other w2 ⟨w.heap.size + 1, 0, none⟩ w.heap.size (.int .i64 k) (by show w.heap.size ≠ w.heap.size + 1; omega)).trans hM2)
          have lC := lt_of_block hC2
          clear hb2 hX2 hC2 hM2
          go_wp2_with fail
          clear k0 k1 k2 k3 k4 k5 k6 kf lC
          generalize (w2.setCell ⟨w.heap.size + 1, 0, none⟩ (.int .i64 k)) = w3 at *
          refine (must_any 61 (by omega) hs (by omega) hb3).mono ?_; rintro e w4 ⟨rfl, hb4, hx4⟩
          have hX4 := hX3.trans hx4
          have hC4 := (hx4.block _ (lt_of_block hC3) (by omega)).trans hC3
          have hM4 := (hx4.block _ (lt_of_block hM3) (by omega)).trans hM3
          clear hb3 hX3 hC3 hM3 hx4
          replace hb4 : RS B s (.ok j) w4 := by rw [hmu] at hb4; exact hb4
          go_wp2_with fail
          refine (got_yes 63 k3 hs (by omega) hb4 h3).mono ?_; rintro e w5 ⟨rfl, hb5, hx5⟩
          have hX5 := hX4.trans hx5
          have hC5 := (hx5.block _ (lt_of_block hC4) (by omega)).trans hC4
          have hM5 := (hx5.block _ (lt_of_block hM4) (by omega)).trans hM4
          clear hb4 hX4 hC4 hM4 hx5
          obtain ⟨⟨k0, k1, k2, k3, k4, k5, k6⟩, kf⟩ := blk7 hC5
          obtain ⟨⟨m0, m1, m2, m3, m4, m5, m6⟩, mf⟩ := blk7 hM5
          have lC := lt_of_block hC5
          have F1 : Hid (RS B s _ _) := (hb5.set_other (p := ⟨w.heap.size + 1, 6, none⟩) (by show w.heap.size + 1 ≠ B; omega) (.bool true)).set7 (b := w.heap.size) (by omega) (.int .i64 k) (.int .i64 i) (.int .i64 0) (.int .i64 0) (.int .i64 0) (.int .i64 0) (.bool true)
          have F2 : Hid (Ex B w _) := (hX5.setCell (p := ⟨w.heap.size + 1, 6, none⟩) (.inr (by show w.heap.size ≤ w.heap.size + 1; omega)) (.bool true)).set7 (b := w.heap.size) (Nat.le_refl _) (.int .i64 k) (.int .i64 i) (.int .i64 0) (.int .i64 0) (.int .i64 0) (.int .i64 0) (.bool true)
          clear hb5 hX5 hC5 hM5
          go_wp2
          exact bodyPost_ret (v := .agg #[.int .i64 k, .int .i64 i, .int .i64 0, .int .i64 0, .int .i64 0, .int .i64 0, .bool true]) (by simp [results, Tryd.results66, go_sem, m0, m1, m2, m3, m4, m5, m6]) rfl ⟨⟨_, _, _, _, _, _, _, rfl, by intro y hy; cases hy; exact ⟨rfl, rfl⟩⟩, F1.out, F2.out⟩
        | none =>
          simp only [h3] at hp
          cases h4 : qTerm s (.ok j) with
          | mk r4 q4 =>
          rw [h4] at hp
          cases r4 with
          | none =>
            obtain ⟨p, rfl⟩ := qTerm_none h4
            simp only [Prod.mk.injEq] at hp
            obtain ⟨rfl, rfl⟩ := hp
            go_enter Tryd.func66, Tryd.ntmps66
            go_wp2_with fail
            refine (between_yes 97 99 2 k rfl hs (by omega) hb1 h1).mono ?_; rintro e w2 ⟨rfl, hb2, hx2⟩
            have hX2 := hX1.trans hx2
            have hC2 := (hx2.block _ (lt_of_block hC1) (by omega)).trans hC1
            have hM2 := (hx2.block _ (lt_of_block hM1) (by omega)).trans hM1
            clear hb1 hX1 hC1 hM1 hx2
            obtain ⟨⟨k0, k1, k2, k3, k4, k5, k6⟩, kf⟩ := blk7 hC2
            have hb3 := (hb2.set_other (p := ⟨w.heap.size + 1, 0, none⟩) (by show w.heap.size + 1 ≠ B; omega) (.int .i64 k))
            have hX3 := (hX2.setCell (p := ⟨w.heap.size + 1, 0, none⟩) (.inr (by show w.heap.size ≤ w.heap.size + 1; omega)) (.int .i64 k))
            have hC3 : (w2.setCell ⟨w.heap.size + 1, 0, none⟩ (.int .i64 k)).heap[w.heap.size + 1]? = some (.cells #[.int .i64 k, .int .i64 i, .int .i64 0, .int .i64 0, .int .i64 0, .int .i64 0, .bool false] 128 (0, 0)) := (heap_setCell_same w2 (w.heap.size + 1) 0 #[.int .i64 0, .int .i64 i, .int .i64 0, .int .i64 0, .int .i64 0, .int .i64 0, .bool false] 128 (.int .i64 k) hC2)
            have hM3 := ((heap_setCell_other w2 ⟨w.heap.size + 1, 0, none⟩ w.heap.size (.int .i64 k) (by show w.heap.size ≠ w.heap.size + 1; omega)).trans hM2)
            have lC := lt_of_block hC2
            clear hb2 hX2 hC2 hM2
            go_wp2_with fail
            clear k0 k1 k2 k3 k4 k5 k6 kf lC
            generalize (w2.setCell ⟨w.heap.size + 1, 0, none⟩ (.int .i64 k)) = w3 at *
            refine (must_any 61 (by omega) hs (by omega) hb3).mono ?_; rintro e w4 ⟨rfl, hb4, hx4⟩
            have hX4 := hX3.trans hx4
            have hC4 := (hx4.block _ (lt_of_block hC3) (by omega)).trans hC3
            have hM4 := (hx4.block _ (lt_of_block hM3) (by omega)).trans hM3
            clear hb3 hX3 hC3 hM3 hx4
            replace hb4 : RS B s (.ok j) w4 := by rw [hmu] at hb4; exact hb4
            go_wp2_with fail
            refine (got_no 63 hs (by omega) hb4 h3).mono ?_; rintro e w5 ⟨rfl, hb5, hx5⟩
            have hX5 := hX4.trans hx5
            have hC5 := (hx5.block _ (lt_of_block hC4) (by omega)).trans hC4
            have hM5 := (hx5.block _ (lt_of_block hM4) (by omega)).trans hM4
            clear hb4 hX4 hC4 hM4 hx5
            obtain ⟨⟨k0, k1, k2, k3, k4, k5, k6⟩, kf⟩ := blk7 hC5
            have hb6 := (hb5.set_other (p := ⟨w.heap.size + 1, 6, none⟩) (by show w.heap.size + 1 ≠ B; omega) (.bool false))
            have hX6 := (hX5.setCell (p := ⟨w.heap.size + 1, 6, none⟩) (.inr (by show w.heap.size ≤ w.heap.size + 1; omega)) (.bool false))
            have hC6 : (w5.setCell ⟨w.heap.size + 1, 6, none⟩ (.bool false)).heap[w.heap.size + 1]? = some (.cells #[.int .i64 k, .int .i64 i, .int .i64 0, .int .i64 0, .int .i64 0, .int .i64 0, .bool false] 128 (0, 0)) := (heap_setCell_same w5 (w.heap.size + 1) 6 #[.int .i64 k, .int .i64 i, .int .i64 0, .int .i64 0, .int .i64 0, .int .i64 0, .bool false] 128 (.bool false) hC5)
            have hM6 := ((heap_setCell_other w5 ⟨w.heap.size + 1, 6, none⟩ w.heap.size (.bool false) (by show w.heap.size ≠ w.heap.size + 1; omega)).trans hM5)
            have lC := lt_of_block hC5
            clear hb5 hX5 hC5 hM5
            go_wp2_with fail
            clear k0 k1 k2 k3 k4 k5 k6 kf lC
            generalize (w5.setCell ⟨w.heap.size + 1, 6, none⟩ (.bool false)) = w6 at *
            refine (rterm_any (q := .ok j) hs hb6).mono ?_; rintro e w7 ⟨⟨t0, t1, t2, rfl, hrt⟩, hb7, hx7⟩
            have hX7 := hX6.trans hx7
            have hC7 := (hx7.block _ (lt_of_block hC6) (by omega)).trans hC6
            have hM7 := (hx7.block _ (lt_of_block hM6) (by omega)).trans hM6
            clear hb6 hX6 hC6 hM6 hx7
            rw [h4] at hrt hb7
            obtain ⟨⟨k0, k1, k2, k3, k4, k5, k6⟩, kf⟩ := blk7 hC7
            have hb8 := (((hb7.set_other (p := ⟨w.heap.size + 1, 2, none⟩) (by show w.heap.size + 1 ≠ B; omega) (.int .i64 t0)).set_other (p := ⟨w.heap.size + 1, 3, none⟩) (by show w.heap.size + 1 ≠ B; omega) (.int .i64 t1)).set_other (p := ⟨w.heap.size + 1, 4, none⟩) (by show w.heap.size + 1 ≠ B; omega) (.int .i64 t2))
            have hX8 := (((hX7.setCell (p := ⟨w.heap.size + 1, 2, none⟩) (.inr (by show w.heap.size ≤ w.heap.size + 1; omega)) (.int .i64 t0)).setCell (p := ⟨w.heap.size + 1, 3, none⟩) (.inr (by show w.heap.size ≤ w.heap.size + 1; omega)) (.int .i64 t1)).setCell (p := ⟨w.heap.size + 1, 4, none⟩) (.inr (by show w.heap.size ≤ w.heap.size + 1; omega)) (.int .i64 t2))
            have hC8 : (((w7.setCell ⟨w.heap.size + 1, 2, none⟩ (.int .i64 t0)).setCell ⟨w.heap.size + 1, 3, none⟩ (.int .i64 t1)).setCell ⟨w.heap.size + 1, 4, none⟩ (.int .i64 t2)).heap[w.heap.size + 1]? = some (.cells #[.int .i64 k, .int .i64 i, .int .i64 t0, .int .i64 t1, .int .i64 t2, .int .i64 0, .bool false] 128 (0, 0)) := (heap_setCell_same ((w7.setCell ⟨w.heap.size + 1, 2, none⟩ (.int .i64 t0)).setCell ⟨w.heap.size + 1, 3, none⟩ (.int .i64 t1)) (w.heap.size + 1) 4 #[.int .i64 k, .int .i64 i, .int .i64 t0, .int .i64 t1, .int .i64 0, .int .i64 0, .bool false] 128 (.int .i64 t2) (heap_setCell_same (w7.setCell ⟨w.heap.size + 1, 2, none⟩ (.int .i64 t0)) (w.heap.size + 1) 3 #[.int .i64 k, .int .i64 i, .int .i64 t0, .int .i64 0, .int .i64 0, .int .i64 0, .bool false] 128 (.int .i64 t1) (heap_setCell_same w7 (w.heap.size + 1) 2 #[.int .i64 k, .int .i64 i, .int .i64 0, .int .i64 0, .int .i64 0, .int .i64 0, .bool false] 128 (.int .i64 t0) hC7)))
            have hM8 := ((heap_setCell_other ((w7.setCell ⟨w.heap.size + 1, 2, none⟩ (.int .i64 t0)).setCell ⟨w.heap.size + 1, 3, none⟩ (.int .i64 t1)) ⟨w.heap.size + 1, 4, none⟩ w.heap.size (.int .i64 t2) (by show w.heap.size ≠ w.heap.size + 1; omega)).trans ((heap_setCell_other (w7.setCell ⟨w.heap.size + 1, 2, none⟩ (.int .i64 t0)) ⟨w.heap.size + 1, 3, none⟩ w.heap.size (.int .i64 t1) (by show w.heap.size ≠ w.heap.size + 1; omega)).trans ((heap_setCell_other w7 ⟨w.heap.size + 1, 2, none⟩ w.heap.size (.int .i64 t0) (by show w.heap.size ≠ w.heap.size + 1; omega)).trans hM7)))
            have lC := lt_of_block hC7
            clear hb7 hX7 hC7 hM7
            go_wp2_with fail
            clear k0 k1 k2 k3 k4 k5 k6 kf lC
            generalize (((w7.setCell ⟨w.heap.size + 1, 2, none⟩ (.int .i64 t0)).setCell ⟨w.heap.size + 1, 3, none⟩ (.int .i64 t1)).setCell ⟨w.heap.size + 1, 4, none⟩ (.int .i64 t2)) = w8 at *
            refine (got_no 43 hs (by omega) hb8 rfl).mono ?_; rintro e w9 ⟨rfl, hb9, hx9⟩
            have hX9 := hX8.trans hx9
            have hC9 := (hx9.block _ (lt_of_block hC8) (by omega)).trans hC8
            have hM9 := (hx9.block _ (lt_of_block hM8) (by omega)).trans hM8
            clear hb8 hX8 hC8 hM8 hx9
            obtain ⟨⟨k0, k1, k2, k3, k4, k5, k6⟩, kf⟩ := blk7 hC9
            obtain ⟨⟨m0, m1, m2, m3, m4, m5, m6⟩, mf⟩ := blk7 hM9
            have lC := lt_of_block hC9
            have F1 : Hid (RS B s _ _) := hb9.set7 (b := w.heap.size) (by omega) (.int .i64 k) (.int .i64 i) (.int .i64 t0) (.int .i64 t1) (.int .i64 t2) (.int .i64 0) (.bool false)
            have F2 : Hid (Ex B w _) := hX9.set7 (b := w.heap.size) (Nat.le_refl _) (.int .i64 k) (.int .i64 i) (.int .i64 t0) (.int .i64 t1) (.int .i64 t2) (.int .i64 0) (.bool false)
            clear hb9 hX9 hC9 hM9
            go_wp2
            exact bodyPost_ret (v := .agg #[.int .i64 k, .int .i64 i, .int .i64 t0, .int .i64 t1, .int .i64 t2, .int .i64 0, .bool false]) (by simp [results, Tryd.results66, go_sem, m0, m1, m2, m3, m4, m5, m6]) rfl ⟨⟨_, _, _, _, _, _, _, rfl, fun _ hr => (by cases hr)⟩, F1.out, F2.out⟩
          | some a =>
            simp only at hp
            cases h5 : qNum s q4 43 0 with
            | none =>
              have HMO : Hid (moreAt s false a.2.2 = 0) := more_none h4 h5
              simp only [h5, Prod.mk.injEq] at hp
              obtain ⟨rfl, rfl⟩ := hp
              go_enter Tryd.func66, Tryd.ntmps66
              go_wp2_with fail
              refine (between_yes 97 99 2 k rfl hs (by omega) hb1 h1).mono ?_; rintro e w2 ⟨rfl, hb2, hx2⟩
              have hX2 := hX1.trans hx2
              have hC2 := (hx2.block _ (lt_of_block hC1) (by omega)).trans hC1
              have hM2 := (hx2.block _ (lt_of_block hM1) (by omega)).trans hM1
              clear hb1 hX1 hC1 hM1 hx2
              obtain ⟨⟨k0, k1, k2, k3, k4, k5, k6⟩, kf⟩ := blk7 hC2
              have hb3 := (hb2.set_other (p := ⟨w.heap.size + 1, 0, none⟩) (by show w.heap.size + 1 ≠ B; omega) (.int .i64 k))
              have hX3 := (hX2.setCell (p := ⟨w.heap.size + 1, 0, none⟩) (.inr (by show w.heap.size ≤ w.heap.size + 1; omega)) (.int .i64 k))
              have hC3 : (w2.setCell ⟨w.heap.size + 1, 0, none⟩ (.int .i64 k)).heap[w.heap.size + 1]? = some (.cells #[.int .i64 k, .int .i64 i, .int .i64 0, .int .i64 0, .int .i64 0, .int .i64 0, .bool false] 128 (0, 0)) := (heap_setCell_same w2 (w.heap.size + 1) 0 #[.int .i64 0, .int .i64 i, .int .i64 0, .int .i64 0, .int .i64 0, .int .i64 0, .bool false] 128 (.int .i64 k) hC2)
              have hM3 := ((heap_setCell_other w2 ⟨w.heap.size + 1, 0, none⟩ w.heap.size (.int .i64 k) (by show w.heap.size ≠ w.heap.size + 1; omega)).trans hM2)
              have lC := lt_of_block hC2
              clear hb2 hX2 hC2 hM2
              go_wp2_with fail
              clear k0 k1 k2 k3 k4 k5 k6 kf lC
              generalize (w2.setCell ⟨w.heap.size + 1, 0, none⟩ (.int .i64 k)) = w3 at *
              refine (must_any 61 (by omega) hs (by omega) hb3).mono ?_; rintro e w4 ⟨rfl, hb4, hx4⟩
              have hX4 := hX3.trans hx4
              have hC4 := (hx4.block _ (lt_of_block hC3) (by omega)).trans hC3
              have hM4 := (hx4.block _ (lt_of_block hM3) (by omega)).trans hM3
              clear hb3 hX3 hC3 hM3 hx4
              replace hb4 : RS B s (.ok j) w4 := by rw [hmu] at hb4; exact hb4
              go_wp2_with fail
              refine (got_no 63 hs (by omega) hb4 h3).mono ?_; rintro e w5 ⟨rfl, hb5, hx5⟩
              have hX5 := hX4.trans hx5
              have hC5 := (hx5.block _ (lt_of_block hC4) (by omega)).trans hC4
              have hM5 := (hx5.block _ (lt_of_block hM4) (by omega)).trans hM4
              clear hb4 hX4 hC4 hM4 hx5
              obtain ⟨⟨k0, k1, k2, k3, k4, k5, k6⟩, kf⟩ := blk7 hC5
              have hb6 := (hb5.set_other (p := ⟨w.heap.size + 1, 6, none⟩) (by show w.heap.size + 1 ≠ B; omega) (.bool false))
              have hX6 := (hX5.setCell (p := ⟨w.heap.size + 1, 6, none⟩) (.inr (by show w.heap.size ≤ w.heap.size + 1; omega)) (.bool false))
              have hC6 : (w5.setCell ⟨w.heap.size + 1, 6, none⟩ (.bool false)).heap[w.heap.size + 1]? = some (.cells #[.int .i64 k, .int .i64 i, .int .i64 0, .int .i64 0, .int .i64 0, .int .i64 0, .bool false] 128 (0, 0)) := (heap_setCell_same w5 (w.heap.size + 1) 6 #[.int .i64 k, .int .i64 i, .int .i64 0, .int .i64 0, .int .i64 0, .int .i64 0, .bool false] 128 (.bool false) hC5)
              have hM6 := ((heap_setCell_other w5 ⟨w.heap.size + 1, 6, none⟩ w.heap.size (.bool false) (by show w.heap.size ≠ w.heap.size + 1; omega)).trans hM5)
              have lC := lt_of_block hC5
              clear hb5 hX5 hC5 hM5
              go_wp2_with fail
              clear k0 k1 k2 k3 k4 k5 k6 kf lC
              generalize (w5.setCell ⟨w.heap.size + 1, 6, none⟩ (.bool false)) = w6 at *
              refine (rterm_any (q := .ok j) hs hb6).mono ?_; rintro e w7 ⟨⟨t0, t1, t2, rfl, hrt⟩, hb7, hx7⟩
              have hX7 := hX6.trans hx7
              have hC7 := (hx7.block _ (lt_of_block hC6) (by omega)).trans hC6
              have hM7 := (hx7.block _ (lt_of_block hM6) (by omega)).trans hM6
              clear hb6 hX6 hC6 hM6 hx7
              rw [h4] at hrt hb7
              obtain ⟨⟨k0, k1, k2, k3, k4, k5, k6⟩, kf⟩ := blk7 hC7
              have hb8 := (((hb7.set_other (p := ⟨w.heap.size + 1, 2, none⟩) (by show w.heap.size + 1 ≠ B; omega) (.int .i64 t0)).set_other (p := ⟨w.heap.size + 1, 3, none⟩) (by show w.heap.size + 1 ≠ B; omega) (.int .i64 t1)).set_other (p := ⟨w.heap.size + 1, 4, none⟩) (by show w.heap.size + 1 ≠ B; omega) (.int .i64 t2))
              have hX8 := (((hX7.setCell (p := ⟨w.heap.size + 1, 2, none⟩) (.inr (by show w.heap.size ≤ w.heap.size + 1; omega)) (.int .i64 t0)).setCell (p := ⟨w.heap.size + 1, 3, none⟩) (.inr (by show w.heap.size ≤ w.heap.size + 1; omega)) (.int .i64 t1)).setCell (p := ⟨w.heap.size + 1, 4, none⟩) (.inr (by show w.heap.size ≤ w.heap.size + 1; omega)) (.int .i64 t2))
              have hC8 : (((w7.setCell ⟨w.heap.size + 1, 2, none⟩ (.int .i64 t0)).setCell ⟨w.heap.size + 1, 3, none⟩ (.int .i64 t1)).setCell ⟨w.heap.size + 1, 4, none⟩ (.int .i64 t2)).heap[w.heap.size + 1]? = some (.cells #[.int .i64 k, .int .i64 i, .int .i64 t0, .int .i64 t1, .int .i64 t2, .int .i64 0, .bool false] 128 (0, 0)) := (heap_setCell_same ((w7.setCell ⟨w.heap.size + 1, 2, none⟩ (.int .i64 t0)).setCell ⟨w.heap.size + 1, 3, none⟩ (.int .i64 t1)) (w.heap.size + 1) 4 #[.int .i64 k, .int .i64 i, .int .i64 t0, .int .i64 t1, .int .i64 0, .int .i64 0, .bool false] 128 (.int .i64 t2) (heap_setCell_same (w7.setCell ⟨w.heap.size + 1, 2, none⟩ (.int .i64 t0)) (w.heap.size + 1) 3 #[.int .i64 k, .int .i64 i, .int .i64 t0, .int .i64 0, .int .i64 0, .int .i64 0, .bool false] 128 (.int .i64 t1) (heap_setCell_same w7 (w.heap.size + 1) 2 #[.int .i64 k, .int .i64 i, .int .i64 0, .int .i64 0, .int .i64 0, .int .i64 0, .bool false] 128 (.int .i64 t0) hC7)))
              have hM8 := ((heap_setCell_other ((w7.setCell ⟨w.heap.size + 1, 2, none⟩ (.int .i64 t0)).setCell ⟨w.heap.size + 1, 3, none⟩ (.int .i64 t1)) ⟨w.heap.size + 1, 4, none⟩ w.heap.size (.int .i64 t2) (by show w.heap.size ≠ w.heap.size + 1; omega)).trans ((heap_setCell_other (w7.setCell ⟨w.heap.size + 1, 2, none⟩ (.int .i64 t0)) ⟨w.heap.size + 1, 3, none⟩ w.heap.size (.int .i64 t1) (by show w.heap.size ≠ w.heap.size + 1; omega)).trans ((heap_setCell_other w7 ⟨w.heap.size + 1, 2, none⟩ w.heap.size (.int .i64 t0) (by show w.heap.size ≠ w.heap.size + 1; omega)).trans hM7)))
              have lC := lt_of_block hC7
              clear hb7 hX7 hC7 hM7
              go_wp2_with fail
              clear k0 k1 k2 k3 k4 k5 k6 kf lC
              generalize (((w7.setCell ⟨w.heap.size + 1, 2, none⟩ (.int .i64 t0)).setCell ⟨w.heap.size + 1, 3, none⟩ (.int .i64 t1)).setCell ⟨w.heap.size + 1, 4, none⟩ (.int .i64 t2)) = w8 at *
              refine (got_no 43 hs (by omega) hb8 h5).mono ?_; rintro e w9 ⟨rfl, hb9, hx9⟩
              have hX9 := hX8.trans hx9
              have hC9 := (hx9.block _ (lt_of_block hC8) (by omega)).trans hC8
              have hM9 := (hx9.block _ (lt_of_block hM8) (by omega)).trans hM8
              clear hb8 hX8 hC8 hM8 hx9
              obtain ⟨⟨k0, k1, k2, k3, k4, k5, k6⟩, kf⟩ := blk7 hC9
              obtain ⟨⟨m0, m1, m2, m3, m4, m5, m6⟩, mf⟩ := blk7 hM9
              have lC := lt_of_block hC9
              have F1 : Hid (RS B s _ _) := hb9.set7 (b := w.heap.size) (by omega) (.int .i64 k) (.int .i64 i) (.int .i64 t0) (.int .i64 t1) (.int .i64 t2) (.int .i64 0) (.bool false)
              have F2 : Hid (Ex B w _) := hX9.set7 (b := w.heap.size) (Nat.le_refl _) (.int .i64 k) (.int .i64 i) (.int .i64 t0) (.int .i64 t1) (.int .i64 t2) (.int .i64 0) (.bool false)
              clear hb9 hX9 hC9 hM9
              go_wp2
              exact bodyPost_ret (v := .agg #[.int .i64 k, .int .i64 i, .int .i64 t0, .int .i64 t1, .int .i64 t2, .int .i64 0, .bool false]) (by simp [results, Tryd.results66, go_sem, m0, m1, m2, m3, m4, m5, m6]) rfl ⟨⟨_, _, _, _, _, _, _, rfl, by intro y hy; cases hy; exact ⟨by rw [hrt a rfl]; rfl, by have m := HMO.out; rw [hrt a rfl] at m; exact m.symm⟩⟩, F1.out, F2.out⟩
            | some k5 =>
              simp only [h5] at hp
              cases h6 : qNum s q4.adv 48 3 with
              | none =>
                simp only [h6, Prod.mk.injEq] at hp
                obtain ⟨rfl, rfl⟩ := hp
                go_enter Tryd.func66, Tryd.ntmps66
                go_wp2_with fail
                refine (between_yes 97 99 2 k rfl hs (by omega) hb1 h1).mono ?_; rintro e w2 ⟨rfl, hb2, hx2⟩
                have hX2 := hX1.trans hx2
                have hC2 := (hx2.block _ (lt_of_block hC1) (by omega)).trans hC1
                have hM2 := (hx2.block _ (lt_of_block hM1) (by omega)).trans hM1
                clear hb1 hX1 hC1 hM1 hx2
                obtain ⟨⟨k0, k1, k2, k3, k4, k5, k6⟩, kf⟩ := blk7 hC2
                have hb3 := (hb2.set_other (p := ⟨w.heap.size + 1, 0, none⟩) (by show w.heap.size + 1 ≠ B; omega) (.int .i64 k))
                have hX3 := (hX2.setCell (p := ⟨w.heap.size + 1, 0, none⟩) (.inr (by show w.heap.size ≤ w.heap.size + 1; omega)) (.int .i64 k))
                have hC3 : (w2.setCell ⟨w.heap.size + 1, 0, none⟩ (.int .i64 k)).heap[w.heap.size + 1]? = some (.cells #[.int .i64 k, .int .i64 i, .int .i64 0, .int .i64 0, .int .i64 0, .int .i64 0, .bool false] 128 (0, 0)) := (heap_setCell_same w2 (w.heap.size + 1) 0 #[.int .i64 0, .int .i64 i, .int .i64 0, .int .i64 0, .int .i64 0, .int .i64 0, .bool false] 128 (.int .i64 k) hC2)
                have hM3 := ((heap_setCell_other w2 ⟨w.heap.size + 1, 0, none⟩ w.heap.size (.int .i64 k) (by show w.heap.size ≠ w.heap.size + 1; omega)).trans hM2)
                have lC := lt_of_block hC2
                clear hb2 hX2 hC2 hM2
                go_wp2_with fail
                clear k0 k1 k2 k3 k4 k5 k6 kf lC
                generalize (w2.setCell ⟨w.heap.size + 1, 0, none⟩ (.int .i64 k)) = w3 at *
                refine (must_any 61 (by omega) hs (by omega) hb3).mono ?_; rintro e w4 ⟨rfl, hb4, hx4⟩
                have hX4 := hX3.trans hx4
                have hC4 := (hx4.block _ (lt_of_block hC3) (by omega)).trans hC3
                have hM4 := (hx4.block _ (lt_of_block hM3) (by omega)).trans hM3
                clear hb3 hX3 hC3 hM3 hx4
                replace hb4 : RS B s (.ok j) w4 := by rw [hmu] at hb4; exact hb4
                go_wp2_with fail
                refine (got_no 63 hs (by omega) hb4 h3).mono ?_; rintro e w5 ⟨rfl, hb5, hx5⟩
                have hX5 := hX4.trans hx5
                have hC5 := (hx5.block _ (lt_of_block hC4) (by omega)).trans hC4
                have hM5 := (hx5.block _ (lt_of_block hM4) (by omega)).trans hM4
                clear hb4 hX4 hC4 hM4 hx5
                obtain ⟨⟨k0, k1, k2, k3, k4, k5, k6⟩, kf⟩ := blk7 hC5
                have hb6 := (hb5.set_other (p := ⟨w.heap.size + 1, 6, none⟩) (by show w.heap.size + 1 ≠ B; omega) (.bool false))
                have hX6 := (hX5.setCell (p := ⟨w.heap.size + 1, 6, none⟩) (.inr (by show w.heap.size ≤ w.heap.size + 1; omega)) (.bool false))
                have hC6 : (w5.setCell ⟨w.heap.size + 1, 6, none⟩ (.bool false)).heap[w.heap.size + 1]? = some (.cells #[.int .i64 k, .int .i64 i, .int .i64 0, .int .i64 0, .int .i64 0, .int .i64 0, .bool false] 128 (0, 0)) := (heap_setCell_same w5 (w.heap.size + 1) 6 #[.int .i64 k, .int .i64 i, .int .i64 0, .int .i64 0, .int .i64 0, .int .i64 0, .bool false] 128 (.bool false) hC5)
                have hM6 := ((heap_setCell_other w5 ⟨w.heap.size + 1, 6, none⟩ w.heap.size (.bool false) (by show w.heap.size ≠ w.heap.size + 1; omega)).trans hM5)
                have lC := lt_of_block hC5
                clear hb5 hX5 hC5 hM5
                go_wp2_with fail
                clear k0 k1 k2 k3 k4 k5 k6 kf lC
                generalize (w5.setCell ⟨w.heap.size + 1, 6, none⟩ (.bool false)) = w6 at *
                refine (rterm_any (q := .ok j) hs hb6).mono ?_; rintro e w7 ⟨⟨t0, t1, t2, rfl, hrt⟩, hb7, hx7⟩
                have hX7 := hX6.trans hx7
                have hC7 := (hx7.block _ (lt_of_block hC6) (by omega)).trans hC6
                have hM7 := (hx7.block _ (lt_of_block hM6) (by omega)).trans hM6
                clear hb6 hX6 hC6 hM6 hx7
                rw [h4] at hrt hb7
                obtain ⟨⟨k0, k1, k2, k3, k4, k5, k6⟩, kf⟩ := blk7 hC7
                have hb8 := (((hb7.set_other (p := ⟨w.heap.size + 1, 2, none⟩) (by show w.heap.size + 1 ≠ B; omega) (.int .i64 t0)).set_other (p := ⟨w.heap.size + 1, 3, none⟩) (by show w.heap.size + 1 ≠ B; omega) (.int .i64 t1)).set_other (p := ⟨w.heap.size + 1, 4, none⟩) (by show w.heap.size + 1 ≠ B; omega) (.int .i64 t2))
                have hX8 := (((hX7.setCell (p := ⟨w.heap.size + 1, 2, none⟩) (.inr (by show w.heap.size ≤ w.heap.size + 1; omega)) (.int .i64 t0)).setCell (p := ⟨w.heap.size + 1, 3, none⟩) (.inr (by show w.heap.size ≤ w.heap.size + 1; omega)) (.int .i64 t1)).setCell (p := ⟨w.heap.size + 1, 4, none⟩) (.inr (by show w.heap.size ≤ w.heap.size + 1; omega)) (.int .i64 t2))
                have hC8 : (((w7.setCell ⟨w.heap.size + 1, 2, none⟩ (.int .i64 t0)).setCell ⟨w.heap.size + 1, 3, none⟩ (.int .i64 t1)).setCell ⟨w.heap.size + 1, 4, none⟩ (.int .i64 t2)).heap[w.heap.size + 1]? = some (.cells #[.int .i64 k, .int .i64 i, .int .i64 t0, .int .i64 t1, .int .i64 t2, .int .i64 0, .bool false] 128 (0, 0)) := (heap_setCell_same ((w7.setCell ⟨w.heap.size + 1, 2, none⟩ (.int .i64 t0)).setCell ⟨w.heap.size + 1, 3, none⟩ (.int .i64 t1)) (w.heap.size + 1) 4 #[.int .i64 k, .int .i64 i, .int .i64 t0, .int .i64 t1, .int .i64 0, .int .i64 0, .bool false] 128 (.int .i64 t2) (heap_setCell_same (w7.setCell ⟨w.heap.size + 1, 2, none⟩ (.int .i64 t0)) (w.heap.size + 1) 3 #[.int .i64 k, .int .i64 i, .int .i64 t0, .int .i64 0, .int .i64 0, .int .i64 0, .bool false] 128 (.int .i64 t1) (heap_setCell_same w7 (w.heap.size + 1) 2 #[.int .i64 k, .int .i64 i, .int .i64 0, .int .i64 0, .int .i64 0, .int .i64 0, .bool false] 128 (.int .i64 t0) hC7)))
                have hM8 := ((heap_setCell_other ((w7.setCell ⟨w.heap.size + 1, 2, none⟩ (.int .i64 t0)).setCell ⟨w.heap.size + 1, 3, none⟩ (.int .i64 t1)) ⟨w.heap.size + 1, 4, none⟩ w.heap.size (.int .i64 t2) (by show w.heap.size ≠ w.heap.size + 1; omega)).trans ((heap_setCell_other (w7.setCell ⟨w.heap.size + 1, 2, none⟩ (.int .i64 t0)) ⟨w.heap.size + 1, 3, none⟩ w.heap.size (.int .i64 t1) (by show w.heap.size ≠ w.heap.size + 1; omega)).trans ((heap_setCell_other w7 ⟨w.heap.size + 1, 2, none⟩ w.heap.size (.int .i64 t0) (by show w.heap.size ≠ w.heap.size + 1; omega)).trans hM7)))
                have lC := lt_of_block hC7
                clear hb7 hX7 hC7 hM7
                go_wp2_with fail
                clear k0 k1 k2 k3 k4 k5 k6 kf lC
                generalize (((w7.setCell ⟨w.heap.size + 1, 2, none⟩ (.int .i64 t0)).setCell ⟨w.heap.size + 1, 3, none⟩ (.int .i64 t1)).setCell ⟨w.heap.size + 1, 4, none⟩ (.int .i64 t2)) = w8 at *
                refine (got_yes 43 k5 hs (by omega) hb8 h5).mono ?_; rintro e w9 ⟨rfl, hb9, hx9⟩
                have hX9 := hX8.trans hx9
                have hC9 := (hx9.block _ (lt_of_block hC8) (by omega)).trans hC8
                have hM9 := (hx9.block _ (lt_of_block hM8) (by omega)).trans hM8
                clear hb8 hX8 hC8 hM8 hx9
                go_wp2_with fail
                refine (between_no 48 51 3 rfl hs (by omega) hb9 h6).mono ?_; rintro e w10 ⟨rfl, hb10, hx10⟩
                have hX10 := hX9.trans hx10
                have hC10 := (hx10.block _ (lt_of_block hC9) (by omega)).trans hC9
                have hM10 := (hx10.block _ (lt_of_block hM9) (by omega)).trans hM9
                clear hb9 hX9 hC9 hM9 hx10
                obtain ⟨⟨k0, k1, k2, k3, k4, k5, k6⟩, kf⟩ := blk7 hC10
                obtain ⟨⟨m0, m1, m2, m3, m4, m5, m6⟩, mf⟩ := blk7 hM10
                have lC := lt_of_block hC10
                have F1 : Hid (RS B s _ _) := (hb10.set_other (p := ⟨w.heap.size + 1, 5, none⟩) (by show w.heap.size + 1 ≠ B; omega) (.int .i64 0)).set7 (b := w.heap.size) (by omega) (.int .i64 k) (.int .i64 i) (.int .i64 t0) (.int .i64 t1) (.int .i64 t2) (.int .i64 0) (.bool false)
                have F2 : Hid (Ex B w _) := (hX10.setCell (p := ⟨w.heap.size + 1, 5, none⟩) (.inr (by show w.heap.size ≤ w.heap.size + 1; omega)) (.int .i64 0)).set7 (b := w.heap.size) (Nat.le_refl _) (.int .i64 k) (.int .i64 i) (.int .i64 t0) (.int .i64 t1) (.int .i64 t2) (.int .i64 0) (.bool false)
                clear hb10 hX10 hC10 hM10
                go_wp2
                exact bodyPost_ret (v := .agg #[.int .i64 k, .int .i64 i, .int .i64 t0, .int .i64 t1, .int .i64 t2, .int .i64 0, .bool false]) (by simp [results, Tryd.results66, go_sem, m0, m1, m2, m3, m4, m5, m6]) rfl ⟨⟨_, _, _, _, _, _, _, rfl, fun _ hr => (by cases hr)⟩, F1.out, F2.out⟩
              | some kd =>
                have HMO : Hid (moreAt s false a.2.2 = (kd : Int)) := more_some h4 h5 h6
                simp only [h6, Prod.mk.injEq] at hp
                obtain ⟨rfl, rfl⟩ := hp
                go_enter Tryd.func66, Tryd.ntmps66
                go_wp2_with fail
                refine (between_yes 97 99 2 k rfl hs (by omega) hb1 h1).mono ?_; rintro e w2 ⟨rfl, hb2, hx2⟩
                have hX2 := hX1.trans hx2
                have hC2 := (hx2.block _ (lt_of_block hC1) (by omega)).trans hC1
                have hM2 := (hx2.block _ (lt_of_block hM1) (by omega)).trans hM1
                clear hb1 hX1 hC1 hM1 hx2
                obtain ⟨⟨k0, k1, k2, k3, k4, k5, k6⟩, kf⟩ := blk7 hC2
                have hb3 := (hb2.set_other (p := ⟨w.heap.size + 1, 0, none⟩) (by show w.heap.size + 1 ≠ B; omega) (.int .i64 k))
                have hX3 := (hX2.setCell (p := ⟨w.heap.size + 1, 0, none⟩) (.inr (by show w.heap.size ≤ w.heap.size + 1; omega)) (.int .i64 k))
                have hC3 : (w2.setCell ⟨w.heap.size + 1, 0, none⟩ (.int .i64 k)).heap[w.heap.size + 1]? = some (.cells #[.int .i64 k, .int .i64 i, .int .i64 0, .int .i64 0, .int .i64 0, .int .i64 0, .bool false] 128 (0, 0)) := (heap_setCell_same w2 (w.heap.size + 1) 0 #[.int .i64 0, .int .i64 i, .int .i64 0, .int .i64 0, .int .i64 0, .int .i64 0, .bool false] 128 (.int .i64 k) hC2)
                have hM3 := ((heap_setCell_other w2 ⟨w.heap.size + 1, 0, none⟩ w.heap.size (.int .i64 k) (by show w.heap.size ≠ w.heap.size + 1; omega)).trans hM2)
                have lC := lt_of_block hC2
                clear hb2 hX2 hC2 hM2
                go_wp2_with fail
                clear k0 k1 k2 k3 k4 k5 k6 kf lC
                generalize (w2.setCell ⟨w.heap.size + 1, 0, none⟩ (.int .i64 k)) = w3 at *
                refine (must_any 61 (by omega) hs (by omega) hb3).mono ?_; rintro e w4 ⟨rfl, hb4, hx4⟩
                have hX4 := hX3.trans hx4
                have hC4 := (hx4.block _ (lt_of_block hC3) (by omega)).trans hC3
                have hM4 := (hx4.block _ (lt_of_block hM3) (by omega)).trans hM3
                clear hb3 hX3 hC3 hM3 hx4
                replace hb4 : RS B s (.ok j) w4 := by rw [hmu] at hb4; exact hb4
                go_wp2_with fail
                refine (got_no 63 hs (by omega) hb4 h3).mono ?_; rintro e w5 ⟨rfl, hb5, hx5⟩
                have hX5 := hX4.trans hx5
                have hC5 := (hx5.block _ (lt_of_block hC4) (by omega)).trans hC4
                have hM5 := (hx5.block _ (lt_of_block hM4) (by omega)).trans hM4
                clear hb4 hX4 hC4 hM4 hx5
                obtain ⟨⟨k0, k1, k2, k3, k4, k5, k6⟩, kf⟩ := blk7 hC5
                have hb6 := (hb5.set_other (p := ⟨w.heap.size + 1, 6, none⟩) (by show w.heap.size + 1 ≠ B; omega) (.bool false))
                have hX6 := (hX5.setCell (p := ⟨w.heap.size + 1, 6, none⟩) (.inr (by show w.heap.size ≤ w.heap.size + 1; omega)) (.bool false))
                have hC6 : (w5.setCell ⟨w.heap.size + 1, 6, none⟩ (.bool false)).heap[w.heap.size + 1]? = some (.cells #[.int .i64 k, .int .i64 i, .int .i64 0, .int .i64 0, .int .i64 0, .int .i64 0, .bool false] 128 (0, 0)) := (heap_setCell_same w5 (w.heap.size + 1) 6 #[.int .i64 k, .int .i64 i, .int .i64 0, .int .i64 0, .int .i64 0, .int .i64 0, .bool false] 128 (.bool false) hC5)
                have hM6 := ((heap_setCell_other w5 ⟨w.heap.size + 1, 6, none⟩ w.heap.size (.bool false) (by show w.heap.size ≠ w.heap.size + 1; omega)).trans hM5)
                have lC := lt_of_block hC5
                clear hb5 hX5 hC5 hM5
                go_wp2_with fail
                clear k0 k1 k2 k3 k4 k5 k6 kf lC
                generalize (w5.setCell ⟨w.heap.size + 1, 6, none⟩ (.bool false)) = w6 at *
                refine (rterm_any (q := .ok j) hs hb6).mono ?_; rintro e w7 ⟨⟨t0, t1, t2, rfl, hrt⟩, hb7, hx7⟩
                have hX7 := hX6.trans hx7
                have hC7 := (hx7.block _ (lt_of_block hC6) (by omega)).trans hC6
                have hM7 := (hx7.block _ (lt_of_block hM6) (by omega)).trans hM6
                clear hb6 hX6 hC6 hM6 hx7
                rw [h4] at hrt hb7
                obtain ⟨⟨k0, k1, k2, k3, k4, k5, k6⟩, kf⟩ := blk7 hC7
                have hb8 := (((hb7.set_other (p := ⟨w.heap.size + 1, 2, none⟩) (by show w.heap.size + 1 ≠ B; omega) (.int .i64 t0)).set_other (p := ⟨w.heap.size + 1, 3, none⟩) (by show w.heap.size + 1 ≠ B; omega) (.int .i64 t1)).set_other (p := ⟨w.heap.size + 1, 4, none⟩) (by show w.heap.size + 1 ≠ B; omega) (.int .i64 t2))
                have hX8 := (((hX7.setCell (p := ⟨w.heap.size + 1, 2, none⟩) (.inr (by show w.heap.size ≤ w.heap.size + 1; omega)) (.int .i64 t0)).setCell (p := ⟨w.heap.size + 1, 3, none⟩) (.inr (by show w.heap.size ≤ w.heap.size + 1; omega)) (.int .i64 t1)).setCell (p := ⟨w.heap.size + 1, 4, none⟩) (.inr (by show w.heap.size ≤ w.heap.size + 1; omega)) (.int .i64 t2))
                have hC8 : (((w7.setCell ⟨w.heap.size + 1, 2, none⟩ (.int .i64 t0)).setCell ⟨w.heap.size + 1, 3, none⟩ (.int .i64 t1)).setCell ⟨w.heap.size + 1, 4, none⟩ (.int .i64 t2)).heap[w.heap.size + 1]? = some (.cells #[.int .i64 k, .int .i64 i, .int .i64 t0, .int .i64 t1, .int .i64 t2, .int .i64 0, .bool false] 128 (0, 0)) := (heap_setCell_same ((w7.setCell ⟨w.heap.size + 1, 2, none⟩ (.int .i64 t0)).setCell ⟨w.heap.size + 1, 3, none⟩ (.int .i64 t1)) (w.heap.size + 1) 4 #[.int .i64 k, .int .i64 i, .int .i64 t0, .int .i64 t1, .int .i64 0, .int .i64 0, .bool false] 128 (.int .i64 t2) (heap_setCell_same (w7.setCell ⟨w.heap.size + 1, 2, none⟩ (.int .i64 t0)) (w.heap.size + 1) 3 #[.int .i64 k, .int .i64 i, .int .i64 t0, .int .i64 0, .int .i64 0, .int .i64 0, .bool false] 128 (.int .i64 t1) (heap_setCell_same w7 (w.heap.size + 1) 2 #[.int .i64 k, .int .i64 i, .int .i64 0, .int .i64 0, .int .i64 0, .int .i64 0, .bool false] 128 (.int .i64 t0) hC7)))
                have hM8 := ((heap_setCell_other ((w7.setCell ⟨w.heap.size + 1, 2, none⟩ (.int .i64 t0)).setCell ⟨w.heap.size + 1, 3, none⟩ (.int .i64 t1)) ⟨w.heap.size + 1, 4, none⟩ w.heap.size (.int .i64 t2) (by show w.heap.size ≠ w.heap.size + 1; omega)).trans ((heap_setCell_other (w7.setCell ⟨w.heap.size + 1, 2, none⟩ (.int .i64 t0)) ⟨w.heap.size + 1, 3, none⟩ w.heap.size (.int .i64 t1) (by show w.heap.size ≠ w.heap.size + 1; omega)).trans ((heap_setCell_other w7 ⟨w.heap.size + 1, 2, none⟩ w.heap.size (.int .i64 t0) (by show w.heap.size ≠ w.heap.size + 1; omega)).trans hM7)))
                have lC := lt_of_block hC7
                clear hb7 hX7 hC7 hM7
                go_wp2_with fail
                clear k0 k1 k2 k3 k4 k5 k6 kf lC
                generalize (((w7.setCell ⟨w.heap.size + 1, 2, none⟩ (.int .i64 t0)).setCell ⟨w.heap.size + 1, 3, none⟩ (.int .i64 t1)).setCell ⟨w.heap.size + 1, 4, none⟩ (.int .i64 t2)) = w8 at *
                refine (got_yes 43 k5 hs (by omega) hb8 h5).mono ?_; rintro e w9 ⟨rfl, hb9, hx9⟩
                have hX9 := hX8.trans hx9
                have hC9 := (hx9.block _ (lt_of_block hC8) (by omega)).trans hC8
                have hM9 := (hx9.block _ (lt_of_block hM8) (by omega)).trans hM8
                clear hb8 hX8 hC8 hM8 hx9
                go_wp2_with fail
                refine (between_yes 48 51 3 kd rfl hs (by omega) hb9 h6).mono ?_; rintro e w10 ⟨rfl, hb10, hx10⟩
                have hX10 := hX9.trans hx10
                have hC10 := (hx10.block _ (lt_of_block hC9) (by omega)).trans hC9
                have hM10 := (hx10.block _ (lt_of_block hM9) (by omega)).trans hM9
                clear hb9 hX9 hC9 hM9 hx10
                obtain ⟨⟨k0, k1, k2, k3, k4, k5, k6⟩, kf⟩ := blk7 hC10
                obtain ⟨⟨m0, m1, m2, m3, m4, m5, m6⟩, mf⟩ := blk7 hM10
                have lC := lt_of_block hC10
                have F1 : Hid (RS B s _ _) := (hb10.set_other (p := ⟨w.heap.size + 1, 5, none⟩) (by show w.heap.size + 1 ≠ B; omega) (.int .i64 kd)).set7 (b := w.heap.size) (by omega) (.int .i64 k) (.int .i64 i) (.int .i64 t0) (.int .i64 t1) (.int .i64 t2) (.int .i64 kd) (.bool false)
                have F2 : Hid (Ex B w _) := (hX10.setCell (p := ⟨w.heap.size + 1, 5, none⟩) (.inr (by show w.heap.size ≤ w.heap.size + 1; omega)) (.int .i64 kd)).set7 (b := w.heap.size) (Nat.le_refl _) (.int .i64 k) (.int .i64 i) (.int .i64 t0) (.int .i64 t1) (.int .i64 t2) (.int .i64 kd) (.bool false)
                clear hb10 hX10 hC10 hM10
                go_wp2
                exact bodyPost_ret (v := .agg #[.int .i64 k, .int .i64 i, .int .i64 t0, .int .i64 t1, .int .i64 t2, .int .i64 kd, .bool false]) (by simp [results, Tryd.results66, go_sem, m0, m1, m2, m3, m4, m5, m6]) rfl ⟨⟨_, _, _, _, _, _, _, rfl, by intro y hy; cases hy; exact ⟨by rw [hrt a rfl]; rfl, by have m := HMO.out; rw [hrt a rfl] at m; exact m.symm⟩⟩, F1.out, F2.out⟩
end
end Go.Proofs.YtkbmolodljenjaaDoor
