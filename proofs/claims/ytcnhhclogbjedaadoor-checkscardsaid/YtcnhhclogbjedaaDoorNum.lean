/- The code's reader: its small steps. Our own text. -/
import Derived.Test.YtcnhhclogbjedaaDoorBase
namespace Go.Proofs.YtcnhhclogbjedaaDoor
open Go.RowKit

theorem num_ways {s : ByteArray} {p z lo hi : Nat} (h : num? s p z lo hi = none) (hp : p ≤ s.size) : p = s.size ∨ ∃ h : p < s.size, (s[p].toNat < z + lo ∨ z + hi < s[p].toNat) := by
  unfold num? at h; split at h
  · next h' => split at h
               · cases h
               · exact .inr ⟨h', by omega⟩
  · exact .inl (by omega)
theorem num_some {s : ByteArray} {p z lo hi k : Nat} (h : num? s p z lo hi = some k) : ∃ h : p < s.size, z + lo ≤ s[p].toNat ∧ s[p].toNat ≤ z + hi ∧ k = s[p].toNat - z := by
  unfold num? at h; split at h
  · next h' => split at h
               · simp at h; exact ⟨h', by omega, by omega, by omega⟩
               · cases h
  · cases h

section
variable {B : Nat} {s : ByteArray} {t : T} {x : Junk} {w : World}

set_option maxHeartbeats 400000 in
theorem number_none (z lo hi : Nat) (_hs : s.size ≤ 120) (hat : t.at_ ≤ s.size) (hz : z ≤ 255) (hlo : lo ≤ 10) (hhi : hi ≤ 10) (hb : RB B s t x w) (hn : num? s t.at_ z lo hi = none) :
    Calls Tryd.prog 63 #[.pointer (some ⟨B, 0, none⟩), .int .u8 z, .int .i64 lo, .int .i64 hi] w fun e w' =>
      e = .returned (.tuple #[.int .i64 0, .bool false]) ∧ RB B s t x w' ∧ Ex B w w' := by
  have c0 := hb.c0
  have c1 := hb.c1
  rcases num_ways hn hat with h | ⟨h, h'⟩
  · have HB : Hid (RB B s t x w) := hb
    rw [h] at c1
    clear hb h hn hat
    go_enter Tryd.func63, Tryd.ntmps63
    go_wp2
    go_quiet (fail)
    go_wp2
    go_ret2
    exact ⟨rfl, HB.out.drewN _, (Ex.refl _ _).drewN _⟩
  · have HB : Hid (RB B s t x w) := hb
    have hlt : s[t.at_].toNat < 256 := s[t.at_].toNat_lt
    generalize t.at_ = p at *
    clear hb hn
    have i1 : (p : Int) < (s.size : Int) := by omega
    have i0 : (0 : Int) ≤ (p : Int) := by omega
    have i2 : ((p : Int) == (s.size : Int)) = false := by simp; omega
    rcases h' with h' | h'
    · have h1 : (s[p].toNat : Int) - (z : Int) < (lo : Int) := by omega
      go_enter Tryd.func63, Tryd.ntmps63
      go_wp2
      go_quiet (fail)
      go_wp2
      go_quiet (fail)
      go_wp2
      go_ret2
      exact ⟨rfl, HB.out.drewN _, (Ex.refl _ _).drewN _⟩
    · have h1 : (hi : Int) < (s[p].toNat : Int) - (z : Int) := by omega
      by_cases h2 : (s[p].toNat : Int) - (z : Int) < (lo : Int)
      all_goals
        go_enter Tryd.func63, Tryd.ntmps63
        go_wp2
        go_quiet (fail)
        go_wp2
        go_quiet (fail)
        go_wp2
        go_ret2
        exact ⟨rfl, HB.out.drewN _, (Ex.refl _ _).drewN _⟩

set_option maxHeartbeats 400000 in
theorem number_some (z lo hi k : Nat) (hs : s.size ≤ 120) (hz : z ≤ 255) (hlo : lo ≤ 10) (hhi : hi ≤ 10) (hb : RB B s t x w) (hn : num? s t.at_ z lo hi = some k) :
    Calls Tryd.prog 63 #[.pointer (some ⟨B, 0, none⟩), .int .u8 z, .int .i64 lo, .int .i64 hi] w fun e w' =>
      e = .returned (.tuple #[.int .i64 k, .bool true]) ∧ RB B s t.adv x w' ∧ Ex B w w' := by
  have c0 := hb.c0
  have c1 := hb.c1
  have f1 := hb.free 1
  obtain ⟨h, ha, hbb, hk⟩ := num_some hn
  have HB : Hid (RB B s t.adv x (w.setCell ⟨B, 1, none⟩ (.int .i64 ((t.at_ + 1 : Nat) : Int)))) := hb.set1 (t.at_ + 1)
  have HK : Hid ((k : Int) = (s[t.at_].toNat : Int) - (z : Int)) := by show (k : Int) = _; omega
  have hlt : s[t.at_].toNat < 256 := s[t.at_].toNat_lt
  generalize t.at_ = p at *
  clear hb hn hk
  have i1 : (p : Int) < (s.size : Int) := by omega
  have i0 : (0 : Int) ≤ (p : Int) := by omega
  have i2 : ((p : Int) == (s.size : Int)) = false := by simp; omega
  have h1 : ¬ (s[p].toNat : Int) - (z : Int) < (lo : Int) := by omega
  have h2 : ¬ (hi : Int) < (s[p].toNat : Int) - (z : Int) := by omega
  go_enter Tryd.func63, Tryd.ntmps63
  go_wp2
  go_quiet (fail)
  go_wp2
  go_quiet (fail)
  go_wp2
  go_ret2
  rw [HK.out]
  refine ⟨rfl, ?_, ?_⟩
  · exact HB.out.drewN _
  · exact ((Ex.refl B w).drewN _).setCell (.inl rfl) _
end
end Go.Proofs.YtcnhhclogbjedaaDoor
