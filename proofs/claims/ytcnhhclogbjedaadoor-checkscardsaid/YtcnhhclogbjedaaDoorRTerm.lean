/- The document's reader: a byte between two, a term. Our own text. -/
import Derived.Test.YtcnhhclogbjedaaDoorRBase
namespace Go.Proofs.YtcnhhclogbjedaaDoor
open Go.RowKit
section
variable {B : Nat} {s : ByteArray} {q : Q} {w : World}

set_option maxHeartbeats 800000 in
theorem between_no (lo hi d : Nat) (hd : hi = lo + d) (hs : s.size ≤ 120) (_hc : hi ≤ 255) (hb : RS B s q w) (hn : qNum s q lo d = none) :
    Calls Tryd.prog 48 #[.pointer (some ⟨B, 0, none⟩), .int .u8 lo, .int .u8 hi] w fun e w' => e = .returned (.int .i64 0) ∧ RS B s q.fail w' ∧ Ex B w w' := by
  have HB : Hid (RS B s q w) := hb
  cases q with
  | bad p =>
    obtain ⟨i, hile, h⟩ := hb
    have c2 := h.c2
    have h0 : (0 : Int) ≤ (p : Int) := by omega
    clear h hn
    go_enter Tryd.func48, Tryd.ntmps48
    go_wp2
    go_quiet (fail)
    go_wp2_with fail
    refine (fail_any hs (HB.out.drewN _)).mono ?_; rintro e w2 ⟨rfl, hb2, hx2⟩
    go_wp2
    go_ret
    exact ⟨rfl, hb2, ((Ex.refl _ _).drewN _).trans hx2⟩
  | ok i =>
    obtain ⟨hile, h⟩ := hb
    have c0 := h.c0
    have c1 := h.c1
    have c2 := h.c2
    clear h
    rcases num_ways hn hile with h | ⟨h, h'⟩
    · have h1 : s.size ≤ i := by omega
      clear hn hd h
      go_enter Tryd.func48, Tryd.ntmps48
      go_wp2
      go_quiet (fail)
      go_wp2_with fail
      refine (fail_any hs (HB.out.drewN _)).mono ?_; rintro e w2 ⟨rfl, hb2, hx2⟩
      go_wp2
      go_ret
      exact ⟨rfl, hb2, ((Ex.refl _ _).drewN _).trans hx2⟩
    · have i0 : (0 : Int) ≤ (i : Int) := by omega
      have i1 : (i : Int) < (s.size : Int) := by omega
      have i2 : decide (s.size ≤ i) = false := by simp; omega
      clear hn
      by_cases h1 : s[i].toNat < lo
      · clear hd h'
        go_enter Tryd.func48, Tryd.ntmps48
        go_wp2
        go_quiet (fail)
        go_wp2_with fail
        refine (fail_any hs (HB.out.drewN _)).mono ?_; rintro e w2 ⟨rfl, hb2, hx2⟩
        go_wp2
        go_ret
        exact ⟨rfl, hb2, ((Ex.refl _ _).drewN _).trans hx2⟩
      · have h2 : decide (s[i].toNat < lo) = false := by simp; omega
        have h3 : hi < s[i].toNat := by omega
        clear hd h1 h'
        go_enter Tryd.func48, Tryd.ntmps48
        go_wp2
        go_quiet (fail)
        go_wp2_with fail
        refine (fail_any hs (HB.out.drewN _)).mono ?_; rintro e w2 ⟨rfl, hb2, hx2⟩
        go_wp2
        go_ret
        exact ⟨rfl, hb2, ((Ex.refl _ _).drewN _).trans hx2⟩

set_option maxHeartbeats 800000 in
theorem between_yes (lo hi d k : Nat) (hd : hi = lo + d) (hs : s.size ≤ 120) (_hc : hi ≤ 255) (hb : RS B s q w) (hn : qNum s q lo d = some k) :
    Calls Tryd.prog 48 #[.pointer (some ⟨B, 0, none⟩), .int .u8 lo, .int .u8 hi] w fun e w' => e = .returned (.int .i64 k) ∧ RS B s q.adv w' ∧ Ex B w w' := by
  cases q with
  | bad p => cases hn
  | ok i =>
    obtain ⟨hi', h⟩ := hb
    have c0 := h.c0
    have c1 := h.c1
    have c2 := h.c2
    have f1 := h.free 1
    obtain ⟨hlt, ha, hb', hk⟩ := num_some hn
    have HB : Hid (RS B s (Q.ok i).adv (w.setCell ⟨B, 1, none⟩ (.int .i64 ((i + 1 : Nat) : Int)))) := ⟨hlt, h.set1 (i + 1)⟩
    have HK : Hid ((k : Int) = (s[i].toNat : Int) - (lo : Int)) := by show (k : Int) = _; omega
    have h256 : s[i].toNat < 256 := s[i].toNat_lt
    clear h hn hk
    have i0 : (0 : Int) ≤ (i : Int) := by omega
    have i1 : (i : Int) < (s.size : Int) := by omega
    have i2 : decide (s.size ≤ i) = false := by simp; omega
    have h2 : decide (s[i].toNat < lo) = false := by simp; omega
    have h3 : decide (hi < s[i].toNat) = false := by simp; omega
    have h4 : lo ≤ s[i].toNat := by omega
    clear hd ha hb'
    go_enter Tryd.func48, Tryd.ntmps48
    go_wp2
    go_quiet (fail)
    go_wp2
    go_quiet (fail)
    go_wp2
    go_ret
    rw [HK.out]
    refine ⟨rfl, HB.out.block rfl, ?_⟩
    first
      | exact ((Ex.refl B w).setCell (.inl rfl) _).drewN _
      | exact (((Ex.refl B w).drewN _).setCell (.inl rfl) _).drewN _
      | exact ((Ex.refl B w).drewN _).setCell (.inl rfl) _
end
end Go.Proofs.YtcnhhclogbjedaaDoor
