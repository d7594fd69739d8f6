/- The document's reader: its block, its small steps. Our own text. -/
import Derived.Test.YtkbmolodljenjaaDoorNum
namespace Go.Proofs.YtkbmolodljenjaaDoor
open Go.RowKit

/-- Where the document's reader is: at a place, or failed at one. -/
abbrev Q := Except Nat Nat
def Q.adv : Q → Q
  | .ok i => .ok (i + 1)
  | .error p => .error p
def Q.fail : Q → Q
  | .ok i => .error i
  | .error p => .error p
def qNum (s : ByteArray) (q : Q) (z d : Nat) : Option Nat := match q with
  | .ok i => num? s i z 0 d
  | .error _ => none

def RC (B : Nat) (s : ByteArray) (i : Nat) (b : Int) (w : World) : Prop := w.heap[B]? = some (.cells #[.string s, .int .i64 i, .int .i64 b] 95 (0, 0))
def RS (B : Nat) (s : ByteArray) (q : Q) (w : World) : Prop := match q with
  | .ok i => i ≤ s.size ∧ RC B s i (-1) w
  | .error p => ∃ i, i ≤ s.size ∧ RC B s i p w
section
variable {B : Nat} {s : ByteArray} {i : Nat} {b : Int} {q : Q} {w w' : World}
theorem RC.lt (h : RC B s i b w) : B < w.heap.size := lt_of_block h
theorem RC.c0 (h : RC B s i b w) : w.cell? ⟨B, 0, none⟩ = some (.string s) := by
  have h' : w.heap[B]? = some (.cells #[.string s, .int .i64 i, .int .i64 b] 95 (0, 0)) := h
  simp [World.cell?, h']
theorem RC.c1 (h : RC B s i b w) : w.cell? ⟨B, 1, none⟩ = some (.int .i64 i) := by
  have h' : w.heap[B]? = some (.cells #[.string s, .int .i64 i, .int .i64 b] 95 (0, 0)) := h
  simp [World.cell?, h']
theorem RC.c2 (h : RC B s i b w) : w.cell? ⟨B, 2, none⟩ = some (.int .i64 b) := by
  have h' : w.heap[B]? = some (.cells #[.string s, .int .i64 i, .int .i64 b] 95 (0, 0)) := h
  simp [World.cell?, h']
theorem RC.free (h : RC B s i b w) (j : Nat) : w.frozen? ⟨B, j, none⟩ = false := by
  have h' : w.heap[B]? = some (.cells #[.string s, .int .i64 i, .int .i64 b] 95 (0, 0)) := h
  simp [World.frozen?, h']
theorem RC.set1 (h : RC B s i b w) (k : Nat) : RC B s k b (w.setCell ⟨B, 1, none⟩ (.int .i64 k)) := heap_setCell_same w B 1 _ 95 _ h
theorem RC.set2 (h : RC B s i b w) (k : Int) : RC B s i k (w.setCell ⟨B, 2, none⟩ (.int .i64 k)) := heap_setCell_same w B 2 _ 95 _ h
theorem RS.block (h : RS B s q w) (e : w'.heap[B]? = w.heap[B]?) : RS B s q w' := by
  cases q with
  | ok i => exact ⟨h.1, e.trans h.2⟩
  | error p => obtain ⟨i, h1, h2⟩ := h; exact ⟨i, h1, e.trans h2⟩
theorem RS.lt (h : RS B s q w) : B < w.heap.size := by
  cases q with
  | ok i => exact h.2.lt
  | error p => obtain ⟨i, _, h2⟩ := h; exact h2.lt
theorem RS.drewN (h : RS B s q w) (n : Nat) : RS B s q (w.drewN n) := h.block rfl
theorem RS.drew (h : RS B s q w) : RS B s q w.drew := h.block rfl
theorem RS.alloc (h : RS B s q w) (o : Obj) : RS B s q (w.alloc o) := h.block (Below.heap_alloc _ _ _ h.lt)
theorem RS.set_other (h : RS B s q w) {p : Addr} (hp : p.block ≠ B) (v : Value) : RS B s q (w.setCell p v) := h.block (heap_setCell_other _ _ _ _ (fun e => hp e.symm))
theorem RS.grown {row : Option Nat} (h : RS B s q w) (g : w.grownBy w' row) (hr : row ≠ some B) : RS B s q w' := h.block (g.block B h.lt (fun e => hr e.symm))

set_option maxHeartbeats 400000 in
theorem here_no (c : Nat) (_hs : s.size ≤ 120) (_hc : c ≤ 255) (hb : RS B s q w) (hn : qNum s q c 0 = none) :
    Calls Tryd.prog 64 #[.pointer (some ⟨B, 0, none⟩), .int .u8 c] w fun e w' => e = .returned (.bool false) ∧ RS B s q w' ∧ Ex B w w' := by
  have HB : Hid (RS B s q w) := hb
  cases q with
  | error p =>
    obtain ⟨i, hi, h⟩ := hb
    have c2 := h.c2
    have hd : decide ((p : Int) < 0) = false := by simp
    clear h hn
    go_enter Tryd.func64, Tryd.ntmps64
    go_wp2
    go_quiet (fail)
    go_wp2
    go_ret
    exact ⟨rfl, HB.out.drewN _, (Ex.refl _ _).drewN _⟩
  | ok i =>
    obtain ⟨hi, h⟩ := hb
    have c0 := h.c0
    have c1 := h.c1
    have c2 := h.c2
    clear h
    rcases num_ways hn hi with h | ⟨h, h'⟩
    · have hd : decide ((i : Int) < (s.size : Int)) = false := by simp; omega
      clear hn
      go_enter Tryd.func64, Tryd.ntmps64
      go_wp2
      go_quiet (fail)
      go_wp2
      go_ret
      exact ⟨rfl, HB.out.drewN _, (Ex.refl _ _).drewN _⟩
    · have i0 : (0 : Int) ≤ (i : Int) := by omega
      have i1 : (i : Int) < (s.size : Int) := by omega
      have hne : ((s[i].toNat : Int) == (c : Int)) = false := by simp; omega
      clear hn
      go_enter Tryd.func64, Tryd.ntmps64
      go_wp2
      go_quiet (fail)
      go_wp2
      go_ret
      exact ⟨rfl, HB.out.drewN _, (Ex.refl _ _).drewN _⟩
set_option maxHeartbeats 400000 in
theorem here_yes (c k : Nat) (_hs : s.size ≤ 120) (_hc : c ≤ 255) (hb : RS B s q w) (hn : qNum s q c 0 = some k) :
    Calls Tryd.prog 64 #[.pointer (some ⟨B, 0, none⟩), .int .u8 c] w fun e w' => e = .returned (.bool true) ∧ RS B s q w' ∧ Ex B w w' := by
  have HB : Hid (RS B s q w) := hb
  cases q with
  | error p => cases hn
  | ok i =>
    obtain ⟨hi, h⟩ := hb
    have c0 := h.c0
    have c1 := h.c1
    have c2 := h.c2
    clear h
    obtain ⟨h, ha, hb', _⟩ := num_some hn
    have i0 : (0 : Int) ≤ (i : Int) := by omega
    have i1 : (i : Int) < (s.size : Int) := by omega
    have hne : ((s[i].toNat : Int) == (c : Int)) = true := by simp; omega
    clear hn ha hb'
    go_enter Tryd.func64, Tryd.ntmps64
    go_wp2
    go_quiet (fail)
    go_wp2
    go_ret
    exact ⟨rfl, HB.out.drewN _, (Ex.refl _ _).drewN _⟩

theorem got_no (c : Nat) (hs : s.size ≤ 120) (hc : c ≤ 255) (hb : RS B s q w) (hn : qNum s q c 0 = none) :
    Calls Tryd.prog 41 #[.pointer (some ⟨B, 0, none⟩), .int .u8 c] w fun e w' => e = .returned (.bool false) ∧ RS B s q w' ∧ Ex B w w' := by
  go_enter Tryd.func41, Tryd.ntmps41
  go_wp2_with fail
  refine (here_no c hs hc hb hn).mono ?_; rintro e w1 ⟨rfl, hb1, hx1⟩
  go_wp2
  go_ret
  exact ⟨rfl, hb1, hx1⟩
theorem got_yes (c k : Nat) (hs : s.size ≤ 120) (hc : c ≤ 255) (hb : RS B s q w) (hn : qNum s q c 0 = some k) :
    Calls Tryd.prog 41 #[.pointer (some ⟨B, 0, none⟩), .int .u8 c] w fun e w' => e = .returned (.bool true) ∧ RS B s q.adv w' ∧ Ex B w w' := by
  go_enter Tryd.func41, Tryd.ntmps41
  go_wp2_with fail
  refine (here_yes c k hs hc hb hn).mono ?_; rintro e w1 ⟨rfl, hb1, hx1⟩
  cases q with
  | error p => cases hn
  | ok i =>
    have hlt := num_lt hn
    have c1 := hb1.2.c1
    have f1 := hb1.2.free 1
    have HB : Hid (RS B s (Q.adv (.ok i)) (w1.setCell ⟨B, 1, none⟩ (.int .i64 ((i + 1 : Nat) : Int)))) := ⟨hlt, hb1.2.set1 (i + 1)⟩
    clear hb1 hb hn
    go_wp2
    go_ret
    exact ⟨rfl, HB.out, hx1.setCell (.inl rfl) _⟩
theorem fail_any (_hs : s.size ≤ 120) (hb : RS B s q w) :
    Calls Tryd.prog 42 #[.pointer (some ⟨B, 0, none⟩)] w fun e w' => e = .returned (.tuple #[]) ∧ RS B s q.fail w' ∧ Ex B w w' := by
  have HB : Hid (RS B s q w) := hb
  cases q with
  | error p =>
    obtain ⟨i, hi, h⟩ := hb
    have c2 := h.c2
    have hd : ¬ ((p : Int) < 0) := by omega
    clear h
    go_enter Tryd.func42, Tryd.ntmps42
    go_wp2
    go_end0
    exact ⟨rfl, HB.out, Ex.refl _ _⟩
  | ok i =>
    obtain ⟨hi, h⟩ := hb
    have c1 := h.c1
    have c2 := h.c2
    have f2 := h.free 2
    have HB2 : Hid (RS B s (Q.fail (.ok i)) (w.setCell ⟨B, 2, none⟩ (.int .i64 i))) := ⟨i, hi, h.set2 i⟩
    clear h
    go_enter Tryd.func42, Tryd.ntmps42
    go_wp2
    go_end0
    exact ⟨rfl, HB2.out, (Ex.refl B w).setCell (.inl rfl) _⟩
def qMust (s : ByteArray) (q : Q) (c : Nat) : Q := match qNum s q c 0 with
  | some _ => q.adv
  | none => q.fail
theorem must_any {ci : Int} (c : Nat) (e : ci = (c : Int)) (hs : s.size ≤ 120) (hc : c ≤ 255) (hb : RS B s q w) :
    Calls Tryd.prog 43 #[.pointer (some ⟨B, 0, none⟩), .int .u8 ci] w fun e w' => e = .returned (.tuple #[]) ∧ RS B s (qMust s q c) w' ∧ Ex B w w' := by
  subst e
  unfold qMust
  cases hn : qNum s q c 0 with
  | none =>
    go_enter Tryd.func43, Tryd.ntmps43
    go_wp2_with fail
    refine (got_no c hs hc hb hn).mono ?_; rintro e w1 ⟨rfl, hb1, hx1⟩
    go_wp2_with fail
    refine (fail_any hs hb1).mono ?_; rintro e w2 ⟨rfl, hb2, hx2⟩
    go_wp2
    go_end0
    exact ⟨rfl, hb2, hx1.trans hx2⟩
  | some k =>
    go_enter Tryd.func43, Tryd.ntmps43
    go_wp2_with fail
    refine (got_yes c k hs hc hb hn).mono ?_; rintro e w1 ⟨rfl, hb1, hx1⟩
    go_wp2
    go_end0
    exact ⟨rfl, hb1, hx1⟩
end
end Go.Proofs.YtkbmolodljenjaaDoor
