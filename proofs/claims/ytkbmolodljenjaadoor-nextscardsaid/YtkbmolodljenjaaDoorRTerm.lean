/- The document's reader: a byte between two, a term. Our own text. -/
import Derived.Test.YtkbmolodljenjaaDoorRBase
namespace Go.Proofs.YtkbmolodljenjaaDoor
open Go.RowKit
section
variable {B : Nat} {s : ByteArray} {q : Q} {w : World}

set_option maxHeartbeats 800000 in
theorem between_no (lo hi d : Nat) (hd : hi = lo + d) (hs : s.size ≤ 120) (_hc : hi ≤ 255) (hb : RS B s q w) (hn : qNum s q lo d = none) :
    Calls Tryd.prog 63 #[.pointer (some ⟨B, 0, none⟩), .int .u8 lo, .int .u8 hi] w fun e w' => e = .returned (.int .i64 0) ∧ RS B s q.fail w' ∧ Ex B w w' := by
  have HB : Hid (RS B s q w) := hb
  cases q with
  | error p =>
    obtain ⟨i, hile, h⟩ := hb
    have c2 := h.c2
    have h0 : (0 : Int) ≤ (p : Int) := by omega
    clear h hn
    go_enter Tryd.func63, Tryd.ntmps63
    go_wp2
    go_quiet (fail)
    go_wp2_with fail
    refine (fail_any hs (HB.out.drewN _)).mono ?_; rintro e w2 ⟨rfl, hb2, hx2⟩
    go_wp2
    go_ret
    exact ⟨rfl, hb2, ((Ex.refl _ _).drewN _).trans hx2⟩
  | ok i =>
    obtain ⟨hile, h⟩ := hb
    have c0 := h.c0
    have c1 := h.c1
    have c2 := h.c2
    clear h
    rcases num_ways hn hile with h | ⟨h, h'⟩
    · have h1 : s.size ≤ i := by omega
      clear hn hd h
      go_enter Tryd.func63, Tryd.ntmps63
      go_wp2
      go_quiet (fail)
      go_wp2_with fail
      refine (fail_any hs (HB.out.drewN _)).mono ?_; rintro e w2 ⟨rfl, hb2, hx2⟩
      go_wp2
      go_ret
      exact ⟨rfl, hb2, ((Ex.refl _ _).drewN _).trans hx2⟩
    · have i0 : (0 : Int) ≤ (i : Int) := by omega
      have i1 : (i : Int) < (s.size : Int) := by omega
      have i2 : decide (s.size ≤ i) = false := by simp; omega
      clear hn
      by_cases h1 : s[i].toNat < lo
      · clear hd h'
        go_enter Tryd.func63, Tryd.ntmps63
        go_wp2
        go_quiet (fail)
        go_wp2_with fail
        refine (fail_any hs (HB.out.drewN _)).mono ?_; rintro e w2 ⟨rfl, hb2, hx2⟩
        go_wp2
        go_ret
        exact ⟨rfl, hb2, ((Ex.refl _ _).drewN _).trans hx2⟩
      · have h2 : decide (s[i].toNat < lo) = false := by simp; omega
        have h3 : hi < s[i].toNat := by omega
        clear hd h1 h'
        go_enter Tryd.func63, Tryd.ntmps63
        go_wp2
        go_quiet (fail)
        go_wp2_with fail
        refine (fail_any hs (HB.out.drewN _)).mono ?_; rintro e w2 ⟨rfl, hb2, hx2⟩
        go_wp2
        go_ret
        exact ⟨rfl, hb2, ((Ex.refl _ _).drewN _).trans hx2⟩

set_option maxHeartbeats 800000 in
theorem between_yes (lo hi d k : Nat) (hd : hi = lo + d) (hs : s.size ≤ 120) (_hc : hi ≤ 255) (hb : RS B s q w) (hn : qNum s q lo d = some k) :
    Calls Tryd.prog 63 #[.pointer (some ⟨B, 0, none⟩), .int .u8 lo, .int .u8 hi] w fun e w' => e = .returned (.int .i64 k) ∧ RS B s q.adv w' ∧ Ex B w w' := by
  cases q with
  | error p => cases hn
  | ok i =>
    obtain ⟨hi', h⟩ := hb
    have c0 := h.c0
    have c1 := h.c1
    have c2 := h.c2
    have f1 := h.free 1
    obtain ⟨hlt, ha, hb', hk⟩ := num_some hn
    have HB : Hid (RS B s (Q.adv (.ok i)) (w.setCell ⟨B, 1, none⟩ (.int .i64 ((i + 1 : Nat) : Int)))) := ⟨hlt, h.set1 (i + 1)⟩
    have HK : Hid ((k : Int) = (s[i].toNat : Int) - (lo : Int)) := by show (k : Int) = _; omega
    have h256 : s[i].toNat < 256 := s[i].toNat_lt
    clear h hn hk
    have i0 : (0 : Int) ≤ (i : Int) := by omega
    have i1 : (i : Int) < (s.size : Int) := by omega
    have i2 : decide (s.size ≤ i) = false := by simp; omega
    have h2 : decide (s[i].toNat < lo) = false := by simp; omega
    have h3 : decide (hi < s[i].toNat) = false := by simp; omega
    have h4 : lo ≤ s[i].toNat := by omega
    clear hd ha hb'
    go_enter Tryd.func63, Tryd.ntmps63
    go_wp2
    go_quiet (fail)
    go_wp2
    go_quiet (fail)
    go_wp2
    go_ret
    rw [HK.out]
    refine ⟨rfl, HB.out.block rfl, ?_⟩
    first
      | exact ((Ex.refl B w).setCell (.inl rfl) _).drewN _
      | exact (((Ex.refl B w).drewN _).setCell (.inl rfl) _).drewN _
      | exact ((Ex.refl B w).drewN _).setCell (.inl rfl) _
end
end Go.Proofs.YtkbmolodljenjaaDoor

namespace Go.Proofs.YtkbmolodljenjaaDoor
open Go.RowKit
def Q.pos : Q → Nat
  | .ok i => i
  | .error p => p
def qTerm (s : ByteArray) (q : Q) : Option (Int × Int × Int) × Q := match qNum s q 97 2 with
  | some k => (some ((k : Int), 0, (q.pos : Int)), q.adv)
  | none => match qNum s q 48 3 with
    | some n => (some (-1, (n : Int), (q.pos : Int)), q.adv)
    | none => (none, q.fail)
theorem blk3 {w : World} {b : Nat} {x y z : Value} {t : TypeId} (h : w.heap[b]? = some (.cells #[x, y, z] t (0, 0))) :
    (w.cell? ⟨b, 0, none⟩ = some x ∧ w.cell? ⟨b, 1, none⟩ = some y ∧ w.cell? ⟨b, 2, none⟩ = some z) ∧ ∀ i, w.frozen? ⟨b, i, none⟩ = false := by
  refine ⟨⟨?_, ?_, ?_⟩, fun i => ?_⟩ <;> simp [World.cell?, World.frozen?, h]
section
variable {B : Nat} {s : ByteArray} {q : Q} {w : World}
set_option maxRecDepth 100000 in
set_option maxHeartbeats 1600000 in
theorem rterm_any (hs : s.size ≤ 120) (hb : RS B s q w) :
    Calls Tryd.prog 86 #[.pointer (some ⟨B, 0, none⟩)] w fun e w' => (∃ a b c : Int, e = .returned (.agg #[.int .i64 a, .int .i64 b, .int .i64 c]) ∧ ∀ r, (qTerm s q).1 = some r → r = (a, b, c)) ∧ RS B s (qTerm s q).2 w' ∧ Ex B w w' := by
  have HB : Hid (RS B s q w) := hb
  have hBw := hb.lt
  have hv0 := heap_alloc_new w (.cells #[.int .i64 0, .int .i64 0, .int .i64 0] 108)
  have HA : Hid (RS B s q (w.alloc (.cells #[.int .i64 0, .int .i64 0, .int .i64 0] 108))) := hb.alloc _
  cases q with
  | error p =>
    obtain ⟨i, hile, h⟩ := hb
    have c1 := h.c1
    have c2 := h.c2
    have hd : decide ((p : Int) < 0) = false := by simp
    clear h
    have hq : qTerm s (.error p) = (none, .error p) := rfl
    rw [hq]
    clear hq
    go_enter Tryd.func86, Tryd.ntmps86
    go_wp2
    go_quiet (fail)
    go_wp2_with fail
    refine (between_no 48 51 3 rfl hs (by omega) (HA.out.drewN _) rfl).mono ?_; rintro e w1 ⟨rfl, hb1, hx1⟩
    have hv1 := (hx1.block w.heap.size (lt_of_block hv0) (by omega)).trans hv0
    obtain ⟨⟨m0, m1, m2⟩, mf⟩ := blk3 hv1
    have HX : Hid (Ex B w w1) := ((Ex.refl B w).alloc _).drewN _ |>.trans hx1
    have HB1 : Hid (RS B s _ w1) := hb1
    clear hv1 hx1 hb1
    go_wp2
    refine bodyPost_ret (v := .agg #[.int .i64 (-1), .int .i64 0, .int .i64 i]) (by simp [results, Tryd.results86, go_sem, m0, m1, m2]) rfl ⟨⟨_, _, _, rfl, by intro r hr; simp at hr; try exact hr.symm⟩, ?_, ?_⟩
    · exact ((HB1.out.set_other (by show w.heap.size ≠ B; omega) _).set_other (by show w.heap.size ≠ B; omega) _).set_other (by show w.heap.size ≠ B; omega) _
    · exact ((HX.out.setCell (.inr (Nat.le_refl _)) _).setCell (.inr (Nat.le_refl _)) _).setCell (.inr (Nat.le_refl _)) _
  | ok i =>
    obtain ⟨hile, h⟩ := hb
    have c0 := h.c0
    have c1 := h.c1
    have c2 := h.c2
    clear h
    by_cases hlt : i < s.size
    · have i0 : (0 : Int) ≤ (i : Int) := by omega
      have i1 : (i : Int) < (s.size : Int) := by omega
      by_cases h97 : 97 ≤ s[i].toNat
      · cases hn : qNum s (.ok i) 97 2 with
        | some k =>
          have hq : qTerm s (.ok i) = (some ((k : Int), 0, (i : Int)), .ok (i + 1)) := by simp [qTerm, hn, Q.pos, Q.adv]
          rw [hq]
          clear hq
          go_enter Tryd.func86, Tryd.ntmps86
          go_wp2
          go_quiet (fail)
          go_wp2_with fail
          refine (between_yes 97 99 2 k rfl hs (by omega) (HA.out.drewN _) hn).mono ?_; rintro e w1 ⟨rfl, hb1, hx1⟩
          have hv1 := (hx1.block w.heap.size (lt_of_block hv0) (by omega)).trans hv0
          obtain ⟨⟨m0, m1, m2⟩, mf⟩ := blk3 hv1
          have HX : Hid (Ex B w w1) := ((Ex.refl B w).alloc _).drewN _ |>.trans hx1
          have HB1 : Hid (RS B s _ w1) := hb1
          clear hv1 hx1 hb1
          go_wp2
          refine bodyPost_ret (v := .agg #[.int .i64 k, .int .i64 0, .int .i64 i]) (by simp [results, Tryd.results86, go_sem, m0, m1, m2]) rfl ⟨⟨_, _, _, rfl, by intro r hr; simp at hr; try exact hr.symm⟩, ?_, ?_⟩
          · exact ((HB1.out.set_other (by show w.heap.size ≠ B; omega) _).set_other (by show w.heap.size ≠ B; omega) _).set_other (by show w.heap.size ≠ B; omega) _
          · exact ((HX.out.setCell (.inr (Nat.le_refl _)) _).setCell (.inr (Nat.le_refl _)) _).setCell (.inr (Nat.le_refl _)) _
        | none =>
          have hn2 : qNum s (.ok i) 48 3 = none := by
            show num? s i 48 0 3 = none
            unfold num?; rw [dif_pos hlt, if_neg (by omega)]
          have hq : qTerm s (.ok i) = (none, .error i) := by simp [qTerm, hn, hn2, Q.fail]
          rw [hq]
          clear hq hn2
          go_enter Tryd.func86, Tryd.ntmps86
          go_wp2
          go_quiet (fail)
          go_wp2_with fail
          refine (between_no 97 99 2 rfl hs (by omega) (HA.out.drewN _) hn).mono ?_; rintro e w1 ⟨rfl, hb1, hx1⟩
          have hv1 := (hx1.block w.heap.size (lt_of_block hv0) (by omega)).trans hv0
          obtain ⟨⟨m0, m1, m2⟩, mf⟩ := blk3 hv1
          have HX : Hid (Ex B w w1) := ((Ex.refl B w).alloc _).drewN _ |>.trans hx1
          have HB1 : Hid (RS B s _ w1) := hb1
          clear hv1 hx1 hb1
          go_wp2
          refine bodyPost_ret (v := .agg #[.int .i64 0, .int .i64 0, .int .i64 i]) (by simp [results, Tryd.results86, go_sem, m0, m1, m2]) rfl ⟨⟨_, _, _, rfl, by intro r hr; simp at hr; try exact hr.symm⟩, ?_, ?_⟩
          · exact ((HB1.out.set_other (by show w.heap.size ≠ B; omega) _).set_other (by show w.heap.size ≠ B; omega) _).set_other (by show w.heap.size ≠ B; omega) _
          · exact ((HX.out.setCell (.inr (Nat.le_refl _)) _).setCell (.inr (Nat.le_refl _)) _).setCell (.inr (Nat.le_refl _)) _
      · have h97' : decide (97 ≤ s[i].toNat) = false := by simp; omega
        have hn2 : qNum s (.ok i) 97 2 = none := by
          show num? s i 97 0 2 = none
          unfold num?; rw [dif_pos hlt, if_neg (by omega)]
        cases hn : qNum s (.ok i) 48 3 with
        | some k =>
          have hq : qTerm s (.ok i) = (some (-1, (k : Int), (i : Int)), .ok (i + 1)) := by simp [qTerm, hn, hn2, Q.pos, Q.adv]
          rw [hq]
          clear hq hn2
          go_enter Tryd.func86, Tryd.ntmps86
          go_wp2
          go_quiet (fail)
          go_wp2_with fail
          refine (between_yes 48 51 3 k rfl hs (by omega) (HA.out.drewN _) hn).mono ?_; rintro e w1 ⟨rfl, hb1, hx1⟩
          have hv1 := (hx1.block w.heap.size (lt_of_block hv0) (by omega)).trans hv0
          obtain ⟨⟨m0, m1, m2⟩, mf⟩ := blk3 hv1
          have HX : Hid (Ex B w w1) := ((Ex.refl B w).alloc _).drewN _ |>.trans hx1
          have HB1 : Hid (RS B s _ w1) := hb1
          clear hv1 hx1 hb1
          go_wp2
          refine bodyPost_ret (v := .agg #[.int .i64 (-1), .int .i64 k, .int .i64 i]) (by simp [results, Tryd.results86, go_sem, m0, m1, m2]) rfl ⟨⟨_, _, _, rfl, by intro r hr; simp at hr; try exact hr.symm⟩, ?_, ?_⟩
          · exact ((HB1.out.set_other (by show w.heap.size ≠ B; omega) _).set_other (by show w.heap.size ≠ B; omega) _).set_other (by show w.heap.size ≠ B; omega) _
          · exact ((HX.out.setCell (.inr (Nat.le_refl _)) _).setCell (.inr (Nat.le_refl _)) _).setCell (.inr (Nat.le_refl _)) _
        | none =>
          have hq : qTerm s (.ok i) = (none, .error i) := by simp [qTerm, hn, hn2, Q.fail]
          rw [hq]
          clear hq hn2
          go_enter Tryd.func86, Tryd.ntmps86
          go_wp2
          go_quiet (fail)
          go_wp2_with fail
          refine (between_no 48 51 3 rfl hs (by omega) (HA.out.drewN _) hn).mono ?_; rintro e w1 ⟨rfl, hb1, hx1⟩
          have hv1 := (hx1.block w.heap.size (lt_of_block hv0) (by omega)).trans hv0
          obtain ⟨⟨m0, m1, m2⟩, mf⟩ := blk3 hv1
          have HX : Hid (Ex B w w1) := ((Ex.refl B w).alloc _).drewN _ |>.trans hx1
          have HB1 : Hid (RS B s _ w1) := hb1
          clear hv1 hx1 hb1
          go_wp2
          refine bodyPost_ret (v := .agg #[.int .i64 (-1), .int .i64 0, .int .i64 i]) (by simp [results, Tryd.results86, go_sem, m0, m1, m2]) rfl ⟨⟨_, _, _, rfl, by intro r hr; simp at hr; try exact hr.symm⟩, ?_, ?_⟩
          · exact ((HB1.out.set_other (by show w.heap.size ≠ B; omega) _).set_other (by show w.heap.size ≠ B; omega) _).set_other (by show w.heap.size ≠ B; omega) _
          · exact ((HX.out.setCell (.inr (Nat.le_refl _)) _).setCell (.inr (Nat.le_refl _)) _).setCell (.inr (Nat.le_refl _)) _
    · have hd : decide (i < s.size) = false := by simp; omega
      have hn : ∀ z d, qNum s (.ok i) z d = none := by
        intro z d; show num? s i z 0 d = none
        unfold num?; rw [dif_neg hlt]
      have hq : qTerm s (.ok i) = (none, .error i) := by simp [qTerm, hn, Q.fail]
      rw [hq]
      clear hq
      have hn2 := hn 48 3
      clear hn
      go_enter Tryd.func86, Tryd.ntmps86
      go_wp2
      go_quiet (fail)
      go_wp2_with fail
      refine (between_no 48 51 3 rfl hs (by omega) (HA.out.drewN _) hn2).mono ?_; rintro e w1 ⟨rfl, hb1, hx1⟩
      have hv1 := (hx1.block w.heap.size (lt_of_block hv0) (by omega)).trans hv0
      obtain ⟨⟨m0, m1, m2⟩, mf⟩ := blk3 hv1
      have HX : Hid (Ex B w w1) := ((Ex.refl B w).alloc _).drewN _ |>.trans hx1
      have HB1 : Hid (RS B s _ w1) := hb1
      clear hv1 hx1 hb1
      go_wp2
      refine bodyPost_ret (v := .agg #[.int .i64 (-1), .int .i64 0, .int .i64 i]) (by simp [results, Tryd.results86, go_sem, m0, m1, m2]) rfl ⟨⟨_, _, _, rfl, by intro r hr; simp at hr; try exact hr.symm⟩, ?_, ?_⟩
      · exact ((HB1.out.set_other (by show w.heap.size ≠ B; omega) _).set_other (by show w.heap.size ≠ B; omega) _).set_other (by show w.heap.size ≠ B; omega) _
      · exact ((HX.out.setCell (.inr (Nat.le_refl _)) _).setCell (.inr (Nat.le_refl _)) _).setCell (.inr (Nat.le_refl _)) _
end
end Go.Proofs.YtkbmolodljenjaaDoor
