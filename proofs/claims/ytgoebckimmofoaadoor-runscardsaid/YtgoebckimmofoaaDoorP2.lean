import Derived.Test.YtgoebckimmofoaaDoorP1
/- The code's reader: its small steps. Our own text. -/
namespace Go.Proofs.YtgoebckimmofoaaDoor
open Go.RowKit

theorem num_ways {s : ByteArray} {p z lo hi : Nat} (h : num? s p z lo hi = none) (hp : p ≤ s.size) : p = s.size ∨ ∃ h : p < s.size, (s[p].toNat < z + lo ∨ z + hi < s[p].toNat) := by
  unfold num? at h; split at h
  · next h' => split at h
               · cases h
               · exact .inr ⟨h', by omega⟩
  · exact .inl (by omega)
theorem num_some {s : ByteArray} {p z lo hi k : Nat} (h : num? s p z lo hi = some k) : ∃ h : p < s.size, z + lo ≤ s[p].toNat ∧ s[p].toNat ≤ z + hi ∧ k = s[p].toNat - z := by
  unfold num? at h; split at h
  · next h' => split at h
               · simp at h; exact ⟨h', by omega, by omega, by omega⟩
               · cases h
  · cases h

section
variable {B M : Nat} {ty : TypeId} {rest : List Value} {s : ByteArray} {t : T} {w : World}

theorem atEnd_q (_hat : t.at_ ≤ s.size) (hb : RG B M ty rest s t w) :
    Calls Tryd.prog 51 #[.pointer (some ⟨B, 0, none⟩)] w fun e w' => e = .returned (.bool (decide (t.at_ = s.size))) ∧ ∃ n, w' = w.drewN n := by
  have c0 := hb.c0
  have c1 := hb.c1
  by_cases h : t.at_ = s.size
  · rw [decide_eq_true h]
    rw [h] at c1
    clear hb h
    go_enter Tryd.func51, Tryd.ntmps51
    go_wp2
    go_quiet (fail)
    go_wp2
    go_ret
    exact ⟨rfl, _, rfl⟩
  · rw [decide_eq_false h]
    have i2 : ((t.at_ : Int) == (s.size : Int)) = false := by simp; omega
    clear hb h
    go_enter Tryd.func51, Tryd.ntmps51
    go_wp2
    go_quiet (fail)
    go_wp2
    go_ret
    exact ⟨rfl, _, rfl⟩
theorem atEnd_any (hat : t.at_ ≤ s.size) (hb : RG B M ty rest s t w) :
    Calls Tryd.prog 51 #[.pointer (some ⟨B, 0, none⟩)] w fun e w' => e = .returned (.bool (decide (t.at_ = s.size))) ∧ RG B M ty rest s t w' ∧ Ex B w w' := by
  refine (atEnd_q hat hb).mono ?_
  rintro e w' ⟨he, n, rfl⟩
  exact ⟨he, hb.drewN _, (Ex.refl _ _).drewN _⟩

set_option maxHeartbeats 400000 in
theorem number_none (z lo hi : Nat) (_hs : s.size ≤ 120) (hat : t.at_ ≤ s.size) (hz : z ≤ 255) (hlo : lo ≤ 10) (hhi : hi ≤ 10) (hb : RG B M ty rest s t w) (hn : num? s t.at_ z lo hi = none) :
    Calls Tryd.prog 70 #[.pointer (some ⟨B, 0, none⟩), .int .u8 z, .int .i64 lo, .int .i64 hi] w fun e w' =>
      e = .returned (.tuple #[.int .i64 0, .bool false]) ∧ RG B M ty rest s t w' ∧ Ex B w w' := by
  have he := atEnd_any hat hb
  rcases num_ways hn hat with h | ⟨h, h'⟩
  · rw [decide_eq_true h] at he
    clear hb h hn hat
    go_enter Tryd.func70, Tryd.ntmps70
    go_wp2_with fail
    refine he.mono ?_; rintro e w1 ⟨rfl, hb1, hx1⟩
    go_wp2
    go_ret2
    exact ⟨rfl, hb1, hx1⟩
  · rw [decide_eq_false (by omega)] at he
    have hlt : s[t.at_].toNat < 256 := s[t.at_].toNat_lt
    have i1 : (t.at_ : Int) < (s.size : Int) := by omega
    have i0 : (0 : Int) ≤ (t.at_ : Int) := by omega
    clear hb hn
    rcases h' with h' | h'
    · have h1 : (s[t.at_].toNat : Int) - (z : Int) < (lo : Int) := by omega
      go_enter Tryd.func70, Tryd.ntmps70
      go_wp2_with fail
      refine he.mono ?_; rintro e w1 ⟨rfl, hb1, hx1⟩
      have d0 := hb1.c0
      have d1 := hb1.c1
      have HB : Hid (RG B M ty rest s t w1) := hb1
      clear he hb1
      generalize t.at_ = p at *
      go_wp2
      go_quiet (fail)
      go_wp2
      go_ret2
      exact ⟨rfl, HB.out.drewN _, hx1.drewN _⟩
    · have h1 : (hi : Int) < (s[t.at_].toNat : Int) - (z : Int) := by omega
      by_cases h2 : (s[t.at_].toNat : Int) - (z : Int) < (lo : Int)
      all_goals
        go_enter Tryd.func70, Tryd.ntmps70
        go_wp2_with fail
        refine he.mono ?_; rintro e w1 ⟨rfl, hb1, hx1⟩
        have d0 := hb1.c0
        have d1 := hb1.c1
        have HB : Hid (RG B M ty rest s t w1) := hb1
        clear he hb1
        generalize t.at_ = p at *
        go_wp2
        go_quiet (fail)
        go_wp2
        go_ret2
        exact ⟨rfl, HB.out.drewN _, hx1.drewN _⟩

set_option maxHeartbeats 400000 in
theorem number_some (z lo hi k : Nat) (hs : s.size ≤ 120) (hz : z ≤ 255) (hlo : lo ≤ 10) (hhi : hi ≤ 10) (hb : RG B M ty rest s t w) (hn : num? s t.at_ z lo hi = some k) :
    Calls Tryd.prog 70 #[.pointer (some ⟨B, 0, none⟩), .int .u8 z, .int .i64 lo, .int .i64 hi] w fun e w' =>
      e = .returned (.tuple #[.int .i64 k, .bool true]) ∧ RG B M ty rest s t.adv w' ∧ Ex B w w' := by
  obtain ⟨h, ha, hbb, hk⟩ := num_some hn
  have he := atEnd_any (by omega) hb
  rw [decide_eq_false (by omega)] at he
  have HK : Hid ((k : Int) = (s[t.at_].toNat : Int) - (z : Int)) := by show (k : Int) = _; omega
  have hlt : s[t.at_].toNat < 256 := s[t.at_].toNat_lt
  clear hb hn hk
  have i1 : (t.at_ : Int) < (s.size : Int) := by omega
  have i0 : (0 : Int) ≤ (t.at_ : Int) := by omega
  have h1 : ¬ (s[t.at_].toNat : Int) - (z : Int) < (lo : Int) := by omega
  have h2 : ¬ (hi : Int) < (s[t.at_].toNat : Int) - (z : Int) := by omega
  go_enter Tryd.func70, Tryd.ntmps70
  go_wp2_with fail
  refine he.mono ?_; rintro e w1 ⟨rfl, hb, hx1⟩
  have d0 := hb.c0
  have d1 := hb.c1
  have f1 := hb.free 1
  have HB : Hid (RG B M ty rest s t.adv (w1.setCell ⟨B, 1, none⟩ (.int .i64 ((t.at_ + 1 : Nat) : Int)))) := hb.set1 (t.at_ + 1)
  clear he hb
  generalize t.at_ = p at *
  go_wp2
  go_quiet (fail)
  go_wp2
  go_ret2
  rw [HK.out]
  refine ⟨rfl, ?_, ?_⟩
  · exact HB.out.move rfl rfl
  · exact (hx1.drewN _).setCell (.inl rfl) _

theorem take_no0 (c : Nat) (hs : s.size ≤ 120) (hat : t.at_ ≤ s.size) (hc : c ≤ 255) (hb : RG B M ty rest s t w) (hn : num? s t.at_ c 0 0 = none) :
    Calls Tryd.prog 50 #[.pointer (some ⟨B, 0, none⟩), .int .u8 c] w fun e w' => e = .returned (.bool false) ∧ RG B M ty rest s t w' ∧ Ex B w w' := by
  go_enter Tryd.func50, Tryd.ntmps50
  go_wp2_with fail
  refine (number_none c 0 0 hs hat hc (by omega) (by omega) hb hn).mono ?_; rintro e w1 ⟨rfl, hb1, hx1⟩
  go_wp2
  go_ret
  exact ⟨rfl, hb1, hx1⟩
theorem take_yes0 (c k : Nat) (hs : s.size ≤ 120) (hc : c ≤ 255) (hb : RG B M ty rest s t w) (hn : num? s t.at_ c 0 0 = some k) :
    Calls Tryd.prog 50 #[.pointer (some ⟨B, 0, none⟩), .int .u8 c] w fun e w' => e = .returned (.bool true) ∧ RG B M ty rest s t.adv w' ∧ Ex B w w' := by
  go_enter Tryd.func50, Tryd.ntmps50
  go_wp2_with fail
  refine (number_some c 0 0 k hs hc (by omega) (by omega) hb hn).mono ?_; rintro e w1 ⟨rfl, hb1, hx1⟩
  go_wp2
  go_ret
  exact ⟨rfl, hb1, hx1⟩
theorem digit_no0 (lo : Nat) (hs : s.size ≤ 120) (hat : t.at_ ≤ s.size) (hlo : lo ≤ 10) (hb : RG B M ty rest s t w) (hn : num? s t.at_ 48 lo 3 = none) :
    Calls Tryd.prog 67 #[.pointer (some ⟨B, 0, none⟩), .int .i64 lo] w fun e w' => e = .returned (.tuple #[.int .i64 0, .bool false]) ∧ RG B M ty rest s t w' ∧ Ex B w w' := by
  go_enter Tryd.func67, Tryd.ntmps67
  go_wp2_with fail
  refine (number_none 48 lo 3 hs hat (by omega) hlo (by omega) hb hn).mono ?_; rintro e w1 ⟨rfl, hb1, hx1⟩
  go_wp2
  go_ret2
  exact ⟨rfl, hb1, hx1⟩
theorem digit_yes0 (lo k : Nat) (hs : s.size ≤ 120) (hlo : lo ≤ 10) (hb : RG B M ty rest s t w) (hn : num? s t.at_ 48 lo 3 = some k) :
    Calls Tryd.prog 67 #[.pointer (some ⟨B, 0, none⟩), .int .i64 lo] w fun e w' => e = .returned (.tuple #[.int .i64 k, .bool true]) ∧ RG B M ty rest s t.adv w' ∧ Ex B w w' := by
  go_enter Tryd.func67, Tryd.ntmps67
  go_wp2_with fail
  refine (number_some 48 lo 3 k hs (by omega) hlo (by omega) hb hn).mono ?_; rintro e w1 ⟨rfl, hb1, hx1⟩
  go_wp2
  go_ret2
  exact ⟨rfl, hb1, hx1⟩
theorem blame_any0 (f : Nat) (hat : 1 ≤ t.at_) (hat2 : t.at_ ≤ 120) (hb : RG B M ty rest s t w) :
    Calls Tryd.prog 68 #[.pointer (some ⟨B, 0, none⟩), .int .i64 f] w fun e w' => e = .returned (.tuple #[]) ∧ RG B M ty rest s (t.blame f) w' ∧ Ex B w w' := by
  have c1 := hb.c1
  have c13 := hb.c3
  have c14 := hb.c4
  have f13 := hb.free 3
  have f14 := hb.free 4
  unfold T.blame
  by_cases h : t.flt = 0
  · rw [if_pos h]
    rw [h] at c13
    have HB : Hid (RG B M ty rest s { t with flt := f, plc := t.at_ - 1 } ((w.setCell ⟨B, 3, none⟩ (.int .i64 f)).setCell ⟨B, 4, none⟩ (.int .i64 ((t.at_ - 1 : Nat) : Int)))) := (hb.set3 f).set4 (t.at_ - 1)
    have e1 : ((t.at_ - 1 : Nat) : Int) = (t.at_ : Int) - 1 := by omega
    rw [e1] at HB
    clear hb h e1
    go_enter Tryd.func68, Tryd.ntmps68
    go_wp2
    go_end0
    exact ⟨rfl, HB.out, ((Ex.refl B w).setCell (.inl rfl) _).setCell (.inl rfl) _⟩
  · rw [if_neg h]
    have h' : ((t.flt : Int) == 0) = false := by simp; omega
    have HB : Hid (RG B M ty rest s t w) := hb
    clear hb h
    go_enter Tryd.func68, Tryd.ntmps68
    go_wp2
    go_end0
    exact ⟨rfl, HB.out, Ex.refl B w⟩

/-- name: none, or which one, and the reader behind it. -/
def T.named (t : T) (k : Nat) : T := if t.n ≤ k then t.adv.blame 3 else t.adv
theorem name_no0 (hs : s.size ≤ 120) (hat : t.at_ ≤ s.size) (hb : RG B M ty rest s t w) (hn : num? s t.at_ 97 0 2 = none) :
    Calls Tryd.prog 72 #[.pointer (some ⟨B, 0, none⟩)] w fun e w' => e = .returned (.tuple #[.int .i64 0, .bool false]) ∧ RG B M ty rest s t w' ∧ Ex B w w' := by
  go_enter Tryd.func72, Tryd.ntmps72
  go_wp2_with fail
  refine (number_none 97 0 2 hs hat (by omega) (by omega) (by omega) hb hn).mono ?_; rintro e w1 ⟨rfl, hb1, hx1⟩
  go_wp2
  go_ret2
  exact ⟨rfl, hb1, hx1⟩
theorem name_yes0 (k : Nat) (hs : s.size ≤ 120) (hb : RG B M ty rest s t w) (hn : num? s t.at_ 97 0 2 = some k) :
    Calls Tryd.prog 72 #[.pointer (some ⟨B, 0, none⟩)] w fun e w' => e = .returned (.tuple #[.int .i64 k, .bool true]) ∧ RG B M ty rest s (t.named k) w' ∧ Ex B w w' := by
  have hlt := num_lt hn
  by_cases hk : t.n ≤ k
  · have e1 : t.named k = t.adv.blame 3 := by simp [T.named, hk]
    rw [e1]
    have hk' : (t.n : Int) ≤ (k : Int) := by omega
    clear e1 hk
    go_enter Tryd.func72, Tryd.ntmps72
    go_wp2_with fail
    refine (number_some 97 0 2 k hs (by omega) (by omega) (by omega) hb hn).mono ?_; rintro e w1 ⟨rfl, hb1, hx1⟩
    have cM : w1.cell? ⟨M, 6, none⟩ = some (.int .i64 t.n) := hb1.cM
    have c2 := hb1.c2
    go_wp2_with fail
    refine (blame_any0 3 (by show 1 ≤ t.at_ + 1; omega) (by show t.at_ + 1 ≤ 120; omega) hb1).mono ?_; rintro e w2 ⟨rfl, hb2, hx2⟩
    go_wp2
    go_ret2
    exact ⟨rfl, hb2, hx1.trans hx2⟩
  · have e1 : t.named k = t.adv := by simp [T.named, hk]
    rw [e1]
    have hk' : ¬ (t.n : Int) ≤ (k : Int) := by omega
    clear e1 hk
    go_enter Tryd.func72, Tryd.ntmps72
    go_wp2_with fail
    refine (number_some 97 0 2 k hs (by omega) (by omega) (by omega) hb hn).mono ?_; rintro e w1 ⟨rfl, hb1, hx1⟩
    have cM : w1.cell? ⟨M, 6, none⟩ = some (.int .i64 t.n) := hb1.cM
    have c2 := hb1.c2
    go_wp2
    go_ret2
    exact ⟨rfl, hb1, hx1⟩
end
end Go.Proofs.YtgoebckimmofoaaDoor

/- The document's reader: its block, its small steps. Our own text. -/
namespace Go.Proofs.YtgoebckimmofoaaDoor
open Go.RowKit

/-- Where the document's reader is: at a place, or failed at one. -/
abbrev Q := Except Nat Nat
def Q.adv : Q → Q
  | .ok i => .ok (i + 1)
  | .error p => .error p
def Q.fail : Q → Q
  | .ok i => .error i
  | .error p => .error p
def qNum (s : ByteArray) (q : Q) (z d : Nat) : Option Nat := match q with
  | .ok i => num? s i z 0 d
  | .error _ => none

def RC (B : Nat) (s : ByteArray) (i : Nat) (b : Int) (w : World) : Prop := w.heap[B]? = some (.cells #[.string s, .int .i64 i, .int .i64 b] 85 (0, 0))
def RS (B : Nat) (s : ByteArray) (q : Q) (w : World) : Prop := match q with
  | .ok i => i ≤ s.size ∧ RC B s i (-1) w
  | .error p => ∃ i, i ≤ s.size ∧ RC B s i p w
section
variable {B : Nat} {s : ByteArray} {i : Nat} {b : Int} {q : Q} {w w' : World}
theorem RC.lt (h : RC B s i b w) : B < w.heap.size := lt_of_block h
theorem RC.c0 (h : RC B s i b w) : w.cell? ⟨B, 0, none⟩ = some (.string s) := by
  have h' : w.heap[B]? = some (.cells #[.string s, .int .i64 i, .int .i64 b] 85 (0, 0)) := h
  simp [World.cell?, h']
theorem RC.c1 (h : RC B s i b w) : w.cell? ⟨B, 1, none⟩ = some (.int .i64 i) := by
  have h' : w.heap[B]? = some (.cells #[.string s, .int .i64 i, .int .i64 b] 85 (0, 0)) := h
  simp [World.cell?, h']
theorem RC.c2 (h : RC B s i b w) : w.cell? ⟨B, 2, none⟩ = some (.int .i64 b) := by
  have h' : w.heap[B]? = some (.cells #[.string s, .int .i64 i, .int .i64 b] 85 (0, 0)) := h
  simp [World.cell?, h']
theorem RC.free (h : RC B s i b w) (j : Nat) : w.frozen? ⟨B, j, none⟩ = false := by
  have h' : w.heap[B]? = some (.cells #[.string s, .int .i64 i, .int .i64 b] 85 (0, 0)) := h
  simp [World.frozen?, h']
theorem RC.set1 (h : RC B s i b w) (k : Nat) : RC B s k b (w.setCell ⟨B, 1, none⟩ (.int .i64 k)) := heap_setCell_same w B 1 _ 85 _ h
theorem RC.set2 (h : RC B s i b w) (k : Int) : RC B s i k (w.setCell ⟨B, 2, none⟩ (.int .i64 k)) := heap_setCell_same w B 2 _ 85 _ h
theorem RS.block (h : RS B s q w) (e : w'.heap[B]? = w.heap[B]?) : RS B s q w' := by
  cases q with
  | ok i => exact ⟨h.1, e.trans h.2⟩
  | error p => obtain ⟨i, h1, h2⟩ := h; exact ⟨i, h1, e.trans h2⟩
theorem RS.lt (h : RS B s q w) : B < w.heap.size := by
  cases q with
  | ok i => exact h.2.lt
  | error p => obtain ⟨i, _, h2⟩ := h; exact h2.lt
theorem RS.drewN (h : RS B s q w) (n : Nat) : RS B s q (w.drewN n) := h.block rfl
theorem RS.drew (h : RS B s q w) : RS B s q w.drew := h.block rfl
theorem RS.alloc (h : RS B s q w) (o : Obj) : RS B s q (w.alloc o) := h.block (Below.heap_alloc _ _ _ h.lt)
theorem RS.set_other (h : RS B s q w) {p : Addr} (hp : p.block ≠ B) (v : Value) : RS B s q (w.setCell p v) := h.block (heap_setCell_other _ _ _ _ (fun e => hp e.symm))
theorem RS.grown {row : Option Nat} (h : RS B s q w) (g : w.grownBy w' row) (hr : row ≠ some B) : RS B s q w' := h.block (g.block B h.lt (fun e => hr e.symm))

set_option maxHeartbeats 400000 in
theorem here_no (c : Nat) (_hs : s.size ≤ 120) (_hc : c ≤ 255) (hb : RS B s q w) (hn : qNum s q c 0 = none) :
    Calls Tryd.prog 56 #[.pointer (some ⟨B, 0, none⟩), .int .u8 c] w fun e w' => e = .returned (.bool false) ∧ RS B s q w' ∧ Ex B w w' := by
  have HB : Hid (RS B s q w) := hb
  cases q with
  | error p =>
    obtain ⟨i, hi, h⟩ := hb
    have c2 := h.c2
    have hd : decide ((p : Int) < 0) = false := by simp
    clear h hn
    go_enter Tryd.func56, Tryd.ntmps56
    go_wp2
    go_quiet (fail)
    go_wp2
    go_ret
    exact ⟨rfl, HB.out.drewN _, (Ex.refl _ _).drewN _⟩
  | ok i =>
    obtain ⟨hi, h⟩ := hb
    have c0 := h.c0
    have c1 := h.c1
    have c2 := h.c2
    clear h
    rcases num_ways hn hi with h | ⟨h, h'⟩
    · have hd : decide ((i : Int) < (s.size : Int)) = false := by simp; omega
      clear hn
      go_enter Tryd.func56, Tryd.ntmps56
      go_wp2
      go_quiet (fail)
      go_wp2
      go_ret
      exact ⟨rfl, HB.out.drewN _, (Ex.refl _ _).drewN _⟩
    · have i0 : (0 : Int) ≤ (i : Int) := by omega
      have i1 : (i : Int) < (s.size : Int) := by omega
      have hne : ((s[i].toNat : Int) == (c : Int)) = false := by simp; omega
      clear hn
      go_enter Tryd.func56, Tryd.ntmps56
      go_wp2
      go_quiet (fail)
      go_wp2
      go_ret
      exact ⟨rfl, HB.out.drewN _, (Ex.refl _ _).drewN _⟩
set_option maxHeartbeats 400000 in
theorem here_yes (c k : Nat) (_hs : s.size ≤ 120) (_hc : c ≤ 255) (hb : RS B s q w) (hn : qNum s q c 0 = some k) :
    Calls Tryd.prog 56 #[.pointer (some ⟨B, 0, none⟩), .int .u8 c] w fun e w' => e = .returned (.bool true) ∧ RS B s q w' ∧ Ex B w w' := by
  have HB : Hid (RS B s q w) := hb
  cases q with
  | error p => cases hn
  | ok i =>
    obtain ⟨hi, h⟩ := hb
    have c0 := h.c0
    have c1 := h.c1
    have c2 := h.c2
    clear h
    obtain ⟨h, ha, hb', _⟩ := num_some hn
    have i0 : (0 : Int) ≤ (i : Int) := by omega
    have i1 : (i : Int) < (s.size : Int) := by omega
    have hne : ((s[i].toNat : Int) == (c : Int)) = true := by simp; omega
    clear hn ha hb'
    go_enter Tryd.func56, Tryd.ntmps56
    go_wp2
    go_quiet (fail)
    go_wp2
    go_ret
    exact ⟨rfl, HB.out.drewN _, (Ex.refl _ _).drewN _⟩

theorem got_no (c : Nat) (hs : s.size ≤ 120) (hc : c ≤ 255) (hb : RS B s q w) (hn : qNum s q c 0 = none) :
    Calls Tryd.prog 32 #[.pointer (some ⟨B, 0, none⟩), .int .u8 c] w fun e w' => e = .returned (.bool false) ∧ RS B s q w' ∧ Ex B w w' := by
  go_enter Tryd.func32, Tryd.ntmps32
  go_wp2_with fail
  refine (here_no c hs hc hb hn).mono ?_; rintro e w1 ⟨rfl, hb1, hx1⟩
  go_wp2
  go_ret
  exact ⟨rfl, hb1, hx1⟩
theorem got_yes (c k : Nat) (hs : s.size ≤ 120) (hc : c ≤ 255) (hb : RS B s q w) (hn : qNum s q c 0 = some k) :
    Calls Tryd.prog 32 #[.pointer (some ⟨B, 0, none⟩), .int .u8 c] w fun e w' => e = .returned (.bool true) ∧ RS B s q.adv w' ∧ Ex B w w' := by
  go_enter Tryd.func32, Tryd.ntmps32
  go_wp2_with fail
  refine (here_yes c k hs hc hb hn).mono ?_; rintro e w1 ⟨rfl, hb1, hx1⟩
  cases q with
  | error p => cases hn
  | ok i =>
    have hlt := num_lt hn
    have c1 := hb1.2.c1
    have f1 := hb1.2.free 1
    have HB : Hid (RS B s (Q.adv (.ok i)) (w1.setCell ⟨B, 1, none⟩ (.int .i64 ((i + 1 : Nat) : Int)))) := ⟨hlt, hb1.2.set1 (i + 1)⟩
    clear hb1 hb hn
    go_wp2
    go_ret
    exact ⟨rfl, HB.out, hx1.setCell (.inl rfl) _⟩
theorem fail_any (_hs : s.size ≤ 120) (hb : RS B s q w) :
    Calls Tryd.prog 33 #[.pointer (some ⟨B, 0, none⟩)] w fun e w' => e = .returned (.tuple #[]) ∧ RS B s q.fail w' ∧ Ex B w w' := by
  have HB : Hid (RS B s q w) := hb
  cases q with
  | error p =>
    obtain ⟨i, hi, h⟩ := hb
    have c2 := h.c2
    have hd : ¬ ((p : Int) < 0) := by omega
    clear h
    go_enter Tryd.func33, Tryd.ntmps33
    go_wp2
    go_end0
    exact ⟨rfl, HB.out, Ex.refl _ _⟩
  | ok i =>
    obtain ⟨hi, h⟩ := hb
    have c1 := h.c1
    have c2 := h.c2
    have f2 := h.free 2
    have HB2 : Hid (RS B s (Q.fail (.ok i)) (w.setCell ⟨B, 2, none⟩ (.int .i64 i))) := ⟨i, hi, h.set2 i⟩
    clear h
    go_enter Tryd.func33, Tryd.ntmps33
    go_wp2
    go_end0
    exact ⟨rfl, HB2.out, (Ex.refl B w).setCell (.inl rfl) _⟩
def qMust (s : ByteArray) (q : Q) (c : Nat) : Q := match qNum s q c 0 with
  | some _ => q.adv
  | none => q.fail
theorem must_any {ci : Int} (c : Nat) (e : ci = (c : Int)) (hs : s.size ≤ 120) (hc : c ≤ 255) (hb : RS B s q w) :
    Calls Tryd.prog 34 #[.pointer (some ⟨B, 0, none⟩), .int .u8 ci] w fun e w' => e = .returned (.tuple #[]) ∧ RS B s (qMust s q c) w' ∧ Ex B w w' := by
  subst e
  unfold qMust
  cases hn : qNum s q c 0 with
  | none =>
    go_enter Tryd.func34, Tryd.ntmps34
    go_wp2_with fail
    refine (got_no c hs hc hb hn).mono ?_; rintro e w1 ⟨rfl, hb1, hx1⟩
    go_wp2_with fail
    refine (fail_any hs hb1).mono ?_; rintro e w2 ⟨rfl, hb2, hx2⟩
    go_wp2
    go_end0
    exact ⟨rfl, hb2, hx1.trans hx2⟩
  | some k =>
    go_enter Tryd.func34, Tryd.ntmps34
    go_wp2_with fail
    refine (got_yes c k hs hc hb hn).mono ?_; rintro e w1 ⟨rfl, hb1, hx1⟩
    go_wp2
    go_end0
    exact ⟨rfl, hb1, hx1⟩
end
end Go.Proofs.YtgoebckimmofoaaDoor

/- The document's reader: a byte between two, a term. Our own text. -/
namespace Go.Proofs.YtgoebckimmofoaaDoor
open Go.RowKit
section
variable {B : Nat} {s : ByteArray} {q : Q} {w : World}

set_option maxHeartbeats 800000 in
theorem between_no (lo hi d : Nat) (hd : hi = lo + d) (hs : s.size ≤ 120) (_hc : hi ≤ 255) (hb : RS B s q w) (hn : qNum s q lo d = none) :
    Calls Tryd.prog 55 #[.pointer (some ⟨B, 0, none⟩), .int .u8 lo, .int .u8 hi] w fun e w' => e = .returned (.int .i64 0) ∧ RS B s q.fail w' ∧ Ex B w w' := by
  have HB : Hid (RS B s q w) := hb
  cases q with
  | error p =>
    obtain ⟨i, hile, h⟩ := hb
    have c2 := h.c2
    have h0 : (0 : Int) ≤ (p : Int) := by omega
    clear h hn
    go_enter Tryd.func55, Tryd.ntmps55
    go_wp2
    go_quiet (fail)
    go_wp2_with fail
    refine (fail_any hs (HB.out.drewN _)).mono ?_; rintro e w2 ⟨rfl, hb2, hx2⟩
    go_wp2
    go_ret
    exact ⟨rfl, hb2, ((Ex.refl _ _).drewN _).trans hx2⟩
  | ok i =>
    obtain ⟨hile, h⟩ := hb
    have c0 := h.c0
    have c1 := h.c1
    have c2 := h.c2
    clear h
    rcases num_ways hn hile with h | ⟨h, h'⟩
    · have h1 : s.size ≤ i := by omega
      clear hn hd h
      go_enter Tryd.func55, Tryd.ntmps55
      go_wp2
      go_quiet (fail)
      go_wp2_with fail
      refine (fail_any hs (HB.out.drewN _)).mono ?_; rintro e w2 ⟨rfl, hb2, hx2⟩
      go_wp2
      go_ret
      exact ⟨rfl, hb2, ((Ex.refl _ _).drewN _).trans hx2⟩
    · have i0 : (0 : Int) ≤ (i : Int) := by omega
      have i1 : (i : Int) < (s.size : Int) := by omega
      have i2 : decide (s.size ≤ i) = false := by simp; omega
      clear hn
      by_cases h1 : s[i].toNat < lo
      · clear hd h'
        go_enter Tryd.func55, Tryd.ntmps55
        go_wp2
        go_quiet (fail)
        go_wp2_with fail
        refine (fail_any hs (HB.out.drewN _)).mono ?_; rintro e w2 ⟨rfl, hb2, hx2⟩
        go_wp2
        go_ret
        exact ⟨rfl, hb2, ((Ex.refl _ _).drewN _).trans hx2⟩
      · have h2 : decide (s[i].toNat < lo) = false := by simp; omega
        have h3 : hi < s[i].toNat := by omega
        clear hd h1 h'
        go_enter Tryd.func55, Tryd.ntmps55
        go_wp2
        go_quiet (fail)
        go_wp2_with fail
        refine (fail_any hs (HB.out.drewN _)).mono ?_; rintro e w2 ⟨rfl, hb2, hx2⟩
        go_wp2
        go_ret
        exact ⟨rfl, hb2, ((Ex.refl _ _).drewN _).trans hx2⟩

set_option maxHeartbeats 800000 in
theorem between_yes (lo hi d k : Nat) (hd : hi = lo + d) (hs : s.size ≤ 120) (_hc : hi ≤ 255) (hb : RS B s q w) (hn : qNum s q lo d = some k) :
    Calls Tryd.prog 55 #[.pointer (some ⟨B, 0, none⟩), .int .u8 lo, .int .u8 hi] w fun e w' => e = .returned (.int .i64 k) ∧ RS B s q.adv w' ∧ Ex B w w' := by
  cases q with
  | error p => cases hn
  | ok i =>
    obtain ⟨hi', h⟩ := hb
    have c0 := h.c0
    have c1 := h.c1
    have c2 := h.c2
    have f1 := h.free 1
    obtain ⟨hlt, ha, hb', hk⟩ := num_some hn
    have HB : Hid (RS B s (Q.adv (.ok i)) (w.setCell ⟨B, 1, none⟩ (.int .i64 ((i + 1 : Nat) : Int)))) := ⟨hlt, h.set1 (i + 1)⟩
    have HK : Hid ((k : Int) = (s[i].toNat : Int) - (lo : Int)) := by show (k : Int) = _; omega
    have h256 : s[i].toNat < 256 := s[i].toNat_lt
    clear h hn hk
    have i0 : (0 : Int) ≤ (i : Int) := by omega
    have i1 : (i : Int) < (s.size : Int) := by omega
    have i2 : decide (s.size ≤ i) = false := by simp; omega
    have h2 : decide (s[i].toNat < lo) = false := by simp; omega
    have h3 : decide (hi < s[i].toNat) = false := by simp; omega
    have h4 : lo ≤ s[i].toNat := by omega
    clear hd ha hb'
    go_enter Tryd.func55, Tryd.ntmps55
    go_wp2
    go_quiet (fail)
    go_wp2
    go_quiet (fail)
    go_wp2
    go_ret
    rw [HK.out]
    refine ⟨rfl, HB.out.block rfl, ?_⟩
    first
      | exact ((Ex.refl B w).setCell (.inl rfl) _).drewN _
      | exact (((Ex.refl B w).drewN _).setCell (.inl rfl) _).drewN _
      | exact ((Ex.refl B w).drewN _).setCell (.inl rfl) _
end
end Go.Proofs.YtgoebckimmofoaaDoor

namespace Go.Proofs.YtgoebckimmofoaaDoor
open Go.RowKit
def Q.pos : Q → Nat
  | .ok i => i
  | .error p => p
def qTerm (s : ByteArray) (q : Q) : Option (Int × Int × Int) × Q := match qNum s q 97 2 with
  | some k => (some ((k : Int), 0, (q.pos : Int)), q.adv)
  | none => match qNum s q 48 3 with
    | some n => (some (-1, (n : Int), (q.pos : Int)), q.adv)
    | none => (none, q.fail)
theorem blk3 {w : World} {b : Nat} {x y z : Value} {t : TypeId} (h : w.heap[b]? = some (.cells #[x, y, z] t (0, 0))) :
    (w.cell? ⟨b, 0, none⟩ = some x ∧ w.cell? ⟨b, 1, none⟩ = some y ∧ w.cell? ⟨b, 2, none⟩ = some z) ∧ ∀ i, w.frozen? ⟨b, i, none⟩ = false := by
  refine ⟨⟨?_, ?_, ?_⟩, fun i => ?_⟩ <;> simp [World.cell?, World.frozen?, h]
section
variable {B : Nat} {s : ByteArray} {q : Q} {w : World}
set_option maxRecDepth 100000 in
set_option maxHeartbeats 1600000 in
theorem rterm_any (hs : s.size ≤ 120) (hb : RS B s q w) :
    Calls Tryd.prog 78 #[.pointer (some ⟨B, 0, none⟩)] w fun e w' => (∃ a b c : Int, e = .returned (.agg #[.int .i64 a, .int .i64 b, .int .i64 c]) ∧ ∀ r, (qTerm s q).1 = some r → r = (a, b, c)) ∧ RS B s (qTerm s q).2 w' ∧ Ex B w w' := by
  have HB : Hid (RS B s q w) := hb
  have hBw := hb.lt
  have hv0 := heap_alloc_new w (.cells #[.int .i64 0, .int .i64 0, .int .i64 0] 99)
  have HA : Hid (RS B s q (w.alloc (.cells #[.int .i64 0, .int .i64 0, .int .i64 0] 99))) := hb.alloc _
  cases q with
  | error p =>
    obtain ⟨i, hile, h⟩ := hb
    have c1 := h.c1
    have c2 := h.c2
    have hd : decide ((p : Int) < 0) = false := by simp
    clear h
    have hq : qTerm s (.error p) = (none, .error p) := rfl
    rw [hq]
    clear hq
    go_enter Tryd.func78, Tryd.ntmps78
    go_wp2
    go_quiet (fail)
    go_wp2_with fail
    refine (between_no 48 51 3 rfl hs (by omega) (HA.out.drewN _) rfl).mono ?_; rintro e w1 ⟨rfl, hb1, hx1⟩
    have hv1 := (hx1.block w.heap.size (lt_of_block hv0) (by omega)).trans hv0
    obtain ⟨⟨m0, m1, m2⟩, mf⟩ := blk3 hv1
    have HX : Hid (Ex B w w1) := ((Ex.refl B w).alloc _).drewN _ |>.trans hx1
    have HB1 : Hid (RS B s _ w1) := hb1
    clear hv1 hx1 hb1
    go_wp2
    refine bodyPost_ret (v := .agg #[.int .i64 (-1), .int .i64 0, .int .i64 i]) (by simp [results, Tryd.results78, go_sem, m0, m1, m2]) rfl ⟨⟨_, _, _, rfl, by intro r hr; simp at hr; try exact hr.symm⟩, ?_, ?_⟩
    · exact ((HB1.out.set_other (by show w.heap.size ≠ B; omega) _).set_other (by show w.heap.size ≠ B; omega) _).set_other (by show w.heap.size ≠ B; omega) _
    · exact ((HX.out.setCell (.inr (Nat.le_refl _)) _).setCell (.inr (Nat.le_refl _)) _).setCell (.inr (Nat.le_refl _)) _
  | ok i =>
    obtain ⟨hile, h⟩ := hb
    have c0 := h.c0
    have c1 := h.c1
    have c2 := h.c2
    clear h
    by_cases hlt : i < s.size
    · have i0 : (0 : Int) ≤ (i : Int) := by omega
      have i1 : (i : Int) < (s.size : Int) := by omega
      by_cases h97 : 97 ≤ s[i].toNat
      · cases hn : qNum s (.ok i) 97 2 with
        | some k =>
          have hq : qTerm s (.ok i) = (some ((k : Int), 0, (i : Int)), .ok (i + 1)) := by simp [qTerm, hn, Q.pos, Q.adv]
          rw [hq]
          clear hq
          go_enter Tryd.func78, Tryd.ntmps78
          go_wp2
          go_quiet (fail)
          go_wp2_with fail
          refine (between_yes 97 99 2 k rfl hs (by omega) (HA.out.drewN _) hn).mono ?_; rintro e w1 ⟨rfl, hb1, hx1⟩
          have hv1 := (hx1.block w.heap.size (lt_of_block hv0) (by omega)).trans hv0
          obtain ⟨⟨m0, m1, m2⟩, mf⟩ := blk3 hv1
          have HX : Hid (Ex B w w1) := ((Ex.refl B w).alloc _).drewN _ |>.trans hx1
          have HB1 : Hid (RS B s _ w1) := hb1
          clear hv1 hx1 hb1
          go_wp2
          refine bodyPost_ret (v := .agg #[.int .i64 k, .int .i64 0, .int .i64 i]) (by simp [results, Tryd.results78, go_sem, m0, m1, m2]) rfl ⟨⟨_, _, _, rfl, by intro r hr; simp at hr; try exact hr.symm⟩, ?_, ?_⟩
          · exact ((HB1.out.set_other (by show w.heap.size ≠ B; omega) _).set_other (by show w.heap.size ≠ B; omega) _).set_other (by show w.heap.size ≠ B; omega) _
          · exact ((HX.out.setCell (.inr (Nat.le_refl _)) _).setCell (.inr (Nat.le_refl _)) _).setCell (.inr (Nat.le_refl _)) _
        | none =>
          have hn2 : qNum s (.ok i) 48 3 = none := by
            show num? s i 48 0 3 = none
            unfold num?; rw [dif_pos hlt, if_neg (by omega)]
          have hq : qTerm s (.ok i) = (none, .error i) := by simp [qTerm, hn, hn2, Q.fail]
          rw [hq]
          clear hq hn2
          go_enter Tryd.func78, Tryd.ntmps78
          go_wp2
          go_quiet (fail)
          go_wp2_with fail
          refine (between_no 97 99 2 rfl hs (by omega) (HA.out.drewN _) hn).mono ?_; rintro e w1 ⟨rfl, hb1, hx1⟩
          have hv1 := (hx1.block w.heap.size (lt_of_block hv0) (by omega)).trans hv0
          obtain ⟨⟨m0, m1, m2⟩, mf⟩ := blk3 hv1
          have HX : Hid (Ex B w w1) := ((Ex.refl B w).alloc _).drewN _ |>.trans hx1
          have HB1 : Hid (RS B s _ w1) := hb1
          clear hv1 hx1 hb1
          go_wp2
          refine bodyPost_ret (v := .agg #[.int .i64 0, .int .i64 0, .int .i64 i]) (by simp [results, Tryd.results78, go_sem, m0, m1, m2]) rfl ⟨⟨_, _, _, rfl, by intro r hr; simp at hr; try exact hr.symm⟩, ?_, ?_⟩
          · exact ((HB1.out.set_other (by show w.heap.size ≠ B; omega) _).set_other (by show w.heap.size ≠ B; omega) _).set_other (by show w.heap.size ≠ B; omega) _
          · exact ((HX.out.setCell (.inr (Nat.le_refl _)) _).setCell (.inr (Nat.le_refl _)) _).setCell (.inr (Nat.le_refl _)) _
      · have h97' : decide (97 ≤ s[i].toNat) = false := by simp; omega
        have hn2 : qNum s (.ok i) 97 2 = none := by
          show num? s i 97 0 2 = none
          unfold num?; rw [dif_pos hlt, if_neg (by omega)]
        cases hn : qNum s (.ok i) 48 3 with
        | some k =>
          have hq : qTerm s (.ok i) = (some (-1, (k : Int), (i : Int)), .ok (i + 1)) := by simp [qTerm, hn, hn2, Q.pos, Q.adv]
          rw [hq]
          clear hq hn2
          go_enter Tryd.func78, Tryd.ntmps78
          go_wp2
          go_quiet (fail)
          go_wp2_with fail
          refine (between_yes 48 51 3 k rfl hs (by omega) (HA.out.drewN _) hn).mono ?_; rintro e w1 ⟨rfl, hb1, hx1⟩
          have hv1 := (hx1.block w.heap.size (lt_of_block hv0) (by omega)).trans hv0
          obtain ⟨⟨m0, m1, m2⟩, mf⟩ := blk3 hv1
          have HX : Hid (Ex B w w1) := ((Ex.refl B w).alloc _).drewN _ |>.trans hx1
          have HB1 : Hid (RS B s _ w1) := hb1
          clear hv1 hx1 hb1
          go_wp2
          refine bodyPost_ret (v := .agg #[.int .i64 (-1), .int .i64 k, .int .i64 i]) (by simp [results, Tryd.results78, go_sem, m0, m1, m2]) rfl ⟨⟨_, _, _, rfl, by intro r hr; simp at hr; try exact hr.symm⟩, ?_, ?_⟩
          · exact ((HB1.out.set_other (by show w.heap.size ≠ B; omega) _).set_other (by show w.heap.size ≠ B; omega) _).set_other (by show w.heap.size ≠ B; omega) _
          · exact ((HX.out.setCell (.inr (Nat.le_refl _)) _).setCell (.inr (Nat.le_refl _)) _).setCell (.inr (Nat.le_refl _)) _
        | none =>
          have hq : qTerm s (.ok i) = (none, .error i) := by simp [qTerm, hn, hn2, Q.fail]
          rw [hq]
          clear hq hn2
          go_enter Tryd.func78, Tryd.ntmps78
          go_wp2
          go_quiet (fail)
          go_wp2_with fail
          refine (between_no 48 51 3 rfl hs (by omega) (HA.out.drewN _) hn).mono ?_; rintro e w1 ⟨rfl, hb1, hx1⟩
          have hv1 := (hx1.block w.heap.size (lt_of_block hv0) (by omega)).trans hv0
          obtain ⟨⟨m0, m1, m2⟩, mf⟩ := blk3 hv1
          have HX : Hid (Ex B w w1) := ((Ex.refl B w).alloc _).drewN _ |>.trans hx1
          have HB1 : Hid (RS B s _ w1) := hb1
          clear hv1 hx1 hb1
          go_wp2
          refine bodyPost_ret (v := .agg #[.int .i64 (-1), .int .i64 0, .int .i64 i]) (by simp [results, Tryd.results78, go_sem, m0, m1, m2]) rfl ⟨⟨_, _, _, rfl, by intro r hr; simp at hr; try exact hr.symm⟩, ?_, ?_⟩
          · exact ((HB1.out.set_other (by show w.heap.size ≠ B; omega) _).set_other (by show w.heap.size ≠ B; omega) _).set_other (by show w.heap.size ≠ B; omega) _
          · exact ((HX.out.setCell (.inr (Nat.le_refl _)) _).setCell (.inr (Nat.le_refl _)) _).setCell (.inr (Nat.le_refl _)) _
    · have hd : decide (i < s.size) = false := by simp; omega
      have hn : ∀ z d, qNum s (.ok i) z d = none := by
        intro z d; show num? s i z 0 d = none
        unfold num?; rw [dif_neg hlt]
      have hq : qTerm s (.ok i) = (none, .error i) := by simp [qTerm, hn, Q.fail]
      rw [hq]
      clear hq
      have hn2 := hn 48 3
      clear hn
      go_enter Tryd.func78, Tryd.ntmps78
      go_wp2
      go_quiet (fail)
      go_wp2_with fail
      refine (between_no 48 51 3 rfl hs (by omega) (HA.out.drewN _) hn2).mono ?_; rintro e w1 ⟨rfl, hb1, hx1⟩
      have hv1 := (hx1.block w.heap.size (lt_of_block hv0) (by omega)).trans hv0
      obtain ⟨⟨m0, m1, m2⟩, mf⟩ := blk3 hv1
      have HX : Hid (Ex B w w1) := ((Ex.refl B w).alloc _).drewN _ |>.trans hx1
      have HB1 : Hid (RS B s _ w1) := hb1
      clear hv1 hx1 hb1
      go_wp2
      refine bodyPost_ret (v := .agg #[.int .i64 (-1), .int .i64 0, .int .i64 i]) (by simp [results, Tryd.results78, go_sem, m0, m1, m2]) rfl ⟨⟨_, _, _, rfl, by intro r hr; simp at hr; try exact hr.symm⟩, ?_, ?_⟩
      · exact ((HB1.out.set_other (by show w.heap.size ≠ B; omega) _).set_other (by show w.heap.size ≠ B; omega) _).set_other (by show w.heap.size ≠ B; omega) _
      · exact ((HX.out.setCell (.inr (Nat.le_refl _)) _).setCell (.inr (Nat.le_refl _)) _).setCell (.inr (Nat.le_refl _)) _
end
end Go.Proofs.YtgoebckimmofoaaDoor
