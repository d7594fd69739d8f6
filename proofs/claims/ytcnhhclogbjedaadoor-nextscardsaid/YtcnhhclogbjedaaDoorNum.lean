/- The code's reader: its small steps. Our own text. -/
import Derived.Test.YtcnhhclogbjedaaDoorBase
namespace Go.Proofs.YtcnhhclogbjedaaDoor
open Go.RowKit

theorem num_ways {s : ByteArray} {p z lo hi : Nat} (h : num? s p z lo hi = none) (hp : p ≤ s.size) : p = s.size ∨ ∃ h : p < s.size, (s[p].toNat < z + lo ∨ z + hi < s[p].toNat) := by
  unfold num? at h; split at h
  · next h' => split at h
               · cases h
               · exact .inr ⟨h', by omega⟩
  · exact .inl (by omega)
theorem num_some {s : ByteArray} {p z lo hi k : Nat} (h : num? s p z lo hi = some k) : ∃ h : p < s.size, z + lo ≤ s[p].toNat ∧ s[p].toNat ≤ z + hi ∧ k = s[p].toNat - z := by
  unfold num? at h; split at h
  · next h' => split at h
               · simp at h; exact ⟨h', by omega, by omega, by omega⟩
               · cases h
  · cases h

section
variable {B : Nat} {s : ByteArray} {t : T} {x : Junk} {w : World}

set_option maxHeartbeats 400000 in
theorem number_none (z lo hi : Nat) (_hs : s.size ≤ 120) (hat : t.at_ ≤ s.size) (hz : z ≤ 255) (hlo : lo ≤ 10) (hhi : hi ≤ 10) (hb : RB B s t x w) (hn : num? s t.at_ z lo hi = none) :
    Calls Tryd.prog 63 #[.pointer (some ⟨B, 0, none⟩), .int .u8 z, .int .i64 lo, .int .i64 hi] w fun e w' =>
      e = .returned (.tuple #[.int .i64 0, .bool false]) ∧ RB B s t x w' ∧ Ex B w w' := by
  have c0 := hb.c0
  have c1 := hb.c1
  rcases num_ways hn hat with h | ⟨h, h'⟩
  · have HB : Hid (RB B s t x w) := hb
    rw [h] at c1
    clear hb h hn hat
    go_enter Tryd.func63, Tryd.ntmps63
    go_wp2
    go_quiet (fail)
    go_wp2
    go_ret2
    exact ⟨rfl, HB.out.drewN _, (Ex.refl _ _).drewN _⟩
  · have HB : Hid (RB B s t x w) := hb
    have hlt : s[t.at_].toNat < 256 := s[t.at_].toNat_lt
    generalize t.at_ = p at *
    clear hb hn
    have i1 : (p : Int) < (s.size : Int) := by omega
    have i0 : (0 : Int) ≤ (p : Int) := by omega
    have i2 : ((p : Int) == (s.size : Int)) = false := by simp; omega
    rcases h' with h' | h'
    · have h1 : (s[p].toNat : Int) - (z : Int) < (lo : Int) := by omega
      go_enter Tryd.func63, Tryd.ntmps63
      go_wp2
      go_quiet (fail)
      go_wp2
      go_quiet (fail)
      go_wp2
      go_ret2
      exact ⟨rfl, HB.out.drewN _, (Ex.refl _ _).drewN _⟩
    · have h1 : (hi : Int) < (s[p].toNat : Int) - (z : Int) := by omega
      by_cases h2 : (s[p].toNat : Int) - (z : Int) < (lo : Int)
      all_goals
        go_enter Tryd.func63, Tryd.ntmps63
        go_wp2
        go_quiet (fail)
        go_wp2
        go_quiet (fail)
        go_wp2
        go_ret2
        exact ⟨rfl, HB.out.drewN _, (Ex.refl _ _).drewN _⟩

set_option maxHeartbeats 400000 in
theorem number_some (z lo hi k : Nat) (hs : s.size ≤ 120) (hz : z ≤ 255) (hlo : lo ≤ 10) (hhi : hi ≤ 10) (hb : RB B s t x w) (hn : num? s t.at_ z lo hi = some k) :
    Calls Tryd.prog 63 #[.pointer (some ⟨B, 0, none⟩), .int .u8 z, .int .i64 lo, .int .i64 hi] w fun e w' =>
      e = .returned (.tuple #[.int .i64 k, .bool true]) ∧ RB B s t.adv x w' ∧ Ex B w w' := by
  have c0 := hb.c0
  have c1 := hb.c1
  have f1 := hb.free 1
  obtain ⟨h, ha, hbb, hk⟩ := num_some hn
  have HB : Hid (RB B s t.adv x (w.setCell ⟨B, 1, none⟩ (.int .i64 ((t.at_ + 1 : Nat) : Int)))) := hb.set1 (t.at_ + 1)
  have HK : Hid ((k : Int) = (s[t.at_].toNat : Int) - (z : Int)) := by show (k : Int) = _; omega
  have hlt : s[t.at_].toNat < 256 := s[t.at_].toNat_lt
  generalize t.at_ = p at *
  clear hb hn hk
  have i1 : (p : Int) < (s.size : Int) := by omega
  have i0 : (0 : Int) ≤ (p : Int) := by omega
  have i2 : ((p : Int) == (s.size : Int)) = false := by simp; omega
  have h1 : ¬ (s[p].toNat : Int) - (z : Int) < (lo : Int) := by omega
  have h2 : ¬ (hi : Int) < (s[p].toNat : Int) - (z : Int) := by omega
  go_enter Tryd.func63, Tryd.ntmps63
  go_wp2
  go_quiet (fail)
  go_wp2
  go_quiet (fail)
  go_wp2
  go_ret2
  rw [HK.out]
  refine ⟨rfl, ?_, ?_⟩
  · exact HB.out.drewN _
  · exact ((Ex.refl B w).drewN _).setCell (.inl rfl) _
end
end Go.Proofs.YtcnhhclogbjedaaDoor

namespace Go.Proofs.YtcnhhclogbjedaaDoor
open Go.RowKit
section
variable {B : Nat} {s : ByteArray} {t : T} {x : Junk} {w : World}

theorem take_no (c : Nat) (hs : s.size ≤ 120) (hat : t.at_ ≤ s.size) (hc : c ≤ 255) (hb : RB B s t x w) (hn : num? s t.at_ c 0 0 = none) :
    Calls Tryd.prog 44 #[.pointer (some ⟨B, 0, none⟩), .int .u8 c] w fun e w' => e = .returned (.bool false) ∧ RB B s t x w' ∧ Ex B w w' := by
  go_enter Tryd.func44, Tryd.ntmps44
  go_wp2_with (go_at_call 63; refine (number_none c 0 0 hs hat hc (by omega) (by omega) hb hn).mono ?_; rintro e w1 ⟨rfl, hb1, hx1⟩)
  go_ret
  exact ⟨rfl, hb1, hx1⟩
theorem take_yes (c k : Nat) (hs : s.size ≤ 120) (hc : c ≤ 255) (hb : RB B s t x w) (hn : num? s t.at_ c 0 0 = some k) :
    Calls Tryd.prog 44 #[.pointer (some ⟨B, 0, none⟩), .int .u8 c] w fun e w' => e = .returned (.bool true) ∧ RB B s t.adv x w' ∧ Ex B w w' := by
  go_enter Tryd.func44, Tryd.ntmps44
  go_wp2_with (go_at_call 63; refine (number_some c 0 0 k hs hc (by omega) (by omega) hb hn).mono ?_; rintro e w1 ⟨rfl, hb1, hx1⟩)
  go_ret
  exact ⟨rfl, hb1, hx1⟩
theorem digit_no (lo : Nat) (hs : s.size ≤ 120) (hat : t.at_ ≤ s.size) (hlo : lo ≤ 10) (hb : RB B s t x w) (hn : num? s t.at_ 48 lo 3 = none) :
    Calls Tryd.prog 60 #[.pointer (some ⟨B, 0, none⟩), .int .i64 lo] w fun e w' => e = .returned (.tuple #[.int .i64 0, .bool false]) ∧ RB B s t x w' ∧ Ex B w w' := by
  go_enter Tryd.func60, Tryd.ntmps60
  go_wp2_with (go_at_call 63; refine (number_none 48 lo 3 hs hat (by omega) hlo (by omega) hb hn).mono ?_; rintro e w1 ⟨rfl, hb1, hx1⟩)
  go_ret2
  exact ⟨rfl, hb1, hx1⟩
theorem digit_yes (lo k : Nat) (hs : s.size ≤ 120) (hlo : lo ≤ 10) (hb : RB B s t x w) (hn : num? s t.at_ 48 lo 3 = some k) :
    Calls Tryd.prog 60 #[.pointer (some ⟨B, 0, none⟩), .int .i64 lo] w fun e w' => e = .returned (.tuple #[.int .i64 k, .bool true]) ∧ RB B s t.adv x w' ∧ Ex B w w' := by
  go_enter Tryd.func60, Tryd.ntmps60
  go_wp2_with (go_at_call 63; refine (number_some 48 lo 3 k hs (by omega) hlo (by omega) hb hn).mono ?_; rintro e w1 ⟨rfl, hb1, hx1⟩)
  go_ret2
  exact ⟨rfl, hb1, hx1⟩
theorem blame_any (f : Nat) (hat : 1 ≤ t.at_) (hat2 : t.at_ ≤ 120) (hb : RB B s t x w) :
    Calls Tryd.prog 61 #[.pointer (some ⟨B, 0, none⟩), .int .i64 f] w fun e w' => e = .returned (.tuple #[]) ∧ RB B s (t.blame f) x w' ∧ Ex B w w' := by
  have c1 := hb.c1
  have c13 := hb.c13
  have c14 := hb.c14
  have f13 := hb.free 13
  have f14 := hb.free 14
  unfold T.blame
  by_cases h : t.flt = 0
  · rw [if_pos h]
    rw [h] at c13
    have HB : Hid (RB B s { t with flt := f, plc := t.at_ - 1 } x ((w.setCell ⟨B, 13, none⟩ (.int .i64 f)).setCell ⟨B, 14, none⟩ (.int .i64 ((t.at_ - 1 : Nat) : Int)))) := (hb.set13 f).set14 (t.at_ - 1)
    have e1 : ((t.at_ - 1 : Nat) : Int) = (t.at_ : Int) - 1 := by omega
    rw [e1] at HB
    clear hb h e1
    go_enter Tryd.func61, Tryd.ntmps61
    go_wp2
    go_end0
    exact ⟨rfl, HB.out, ((Ex.refl B w).setCell (.inl rfl) _).setCell (.inl rfl) _⟩
  · rw [if_neg h]
    have h' : ((t.flt : Int) == 0) = false := by simp; omega
    have HB : Hid (RB B s t x w) := hb
    clear hb h
    go_enter Tryd.func61, Tryd.ntmps61
    go_wp2
    go_end0
    exact ⟨rfl, HB.out, Ex.refl B w⟩

/-- name: none, or which one, and the reader behind it. -/
def T.named (t : T) (k : Nat) : T := if t.n ≤ k then t.adv.blame 3 else t.adv
theorem name_no (hs : s.size ≤ 120) (hat : t.at_ ≤ s.size) (hb : RB B s t x w) (hn : num? s t.at_ 97 0 2 = none) :
    Calls Tryd.prog 67 #[.pointer (some ⟨B, 0, none⟩)] w fun e w' => e = .returned (.tuple #[.int .i64 0, .bool false]) ∧ RB B s t x w' ∧ Ex B w w' := by
  go_enter Tryd.func67, Tryd.ntmps67
  go_wp2_with (go_at_call 63; refine (number_none 97 0 2 hs hat (by omega) (by omega) (by omega) hb hn).mono ?_; rintro e w1 ⟨rfl, hb1, hx1⟩)
  go_ret2
  exact ⟨rfl, hb1, hx1⟩
theorem name_yes (k : Nat) (hs : s.size ≤ 120) (hb : RB B s t x w) (hn : num? s t.at_ 97 0 2 = some k) :
    Calls Tryd.prog 67 #[.pointer (some ⟨B, 0, none⟩)] w fun e w' => e = .returned (.tuple #[.int .i64 k, .bool true]) ∧ RB B s (t.named k) x w' ∧ Ex B w w' := by
  have hlt := num_lt hn
  by_cases hk : t.n ≤ k
  · have e1 : t.named k = t.adv.blame 3 := by simp [T.named, hk]
    rw [e1]
    have hk' : (t.n : Int) ≤ (k : Int) := by omega
    clear e1 hk
    go_enter Tryd.func67, Tryd.ntmps67
    go_wp2_with (first | (go_at_call 63; refine (number_some 97 0 2 k hs (by omega) (by omega) (by omega) hb hn).mono ?_; rintro e w1 ⟨rfl, hb1, hx1⟩; have c8 := hb1.c8; have e8 : t.adv.n = t.n := rfl; rw [e8] at c8; clear e8) | (go_at_call 61; refine (blame_any 3 (by show 1 ≤ t.at_ + 1; omega) (by show t.at_ + 1 ≤ 120; omega) hb1).mono ?_; rintro e w2 ⟨rfl, hb2, hx2⟩))
    go_ret2
    exact ⟨rfl, hb2, hx1.trans hx2⟩
  · have e1 : t.named k = t.adv := by simp [T.named, hk]
    rw [e1]
    have hk' : ¬ (t.n : Int) ≤ (k : Int) := by omega
    clear e1 hk
    go_enter Tryd.func67, Tryd.ntmps67
    go_wp2_with (first | (go_at_call 63; refine (number_some 97 0 2 k hs (by omega) (by omega) (by omega) hb hn).mono ?_; rintro e w1 ⟨rfl, hb1, hx1⟩; have c8 := hb1.c8; have e8 : t.adv.n = t.n := rfl; rw [e8] at c8; clear e8))
    go_ret2
    exact ⟨rfl, hb1, hx1⟩
end
end Go.Proofs.YtcnhhclogbjedaaDoor
