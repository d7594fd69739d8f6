/- The sets as bits: the program's functions on them. Our own text. -/
import Derived.Test.YtkbmolodljenjaaDoorBase
import Derived.Test.YtkbmolodljenjaaDoorMPure
import Derived.Laws.Bits64b
namespace Go.Proofs.YtkbmolodljenjaaDoor
open Go.RowKit Go.Lib

/-- Put aside, out of the walker's sight. -/
structure Put (p : Prop) : Prop where
  out : p

/-- The table behind math/bits. -/
def Tab (w : World) : Prop := ∀ k, k < 64 → w.cell? ⟨0, k, none⟩ = some (.int .u8 ((deBruijn64tab.getD k 0 : Nat) : Int))
theorem Tab.below {n : Nat} {w w' : World} (h : Tab w) (hb : Below n w w') (hn : 0 < n) : Tab w' := fun k hk => (hb.cell (p := ⟨0, k, none⟩) hn).trans (h k hk)
theorem Tab.drewN {w : World} (h : Tab w) (n : Nat) : Tab (w.drewN n) := h

theorem wrap_u64 (z : Int) : IntKind.u64.wrap z = z % 18446744073709551616 := by
  simp [IntKind.wrap, IntKind.signed, IntKind.bits]
theorem p64 : (2 : Nat) ^ 64 = 18446744073709551616 := by decide
theorem tz_neg (x : Nat) (h0 : x ≠ 0) (hx : x < 18446744073709551616) : IntKind.u64.wrap (-(x : Int)) = ((18446744073709551616 - x : Nat) : Int) := by
  rw [wrap_u64]; omega
theorem tz_and (x : Nat) (h0 : x ≠ 0) (hx : x < 18446744073709551616) : bits .and .u64 (x : Int) (IntKind.u64.wrap (-(x : Int))) = ((2 ^ ctz 64 x : Nat) : Int) := by
  have h1 := (lowest_bit 64 x h0 (by rw [p64]; exact hx)).1
  rw [p64] at h1
  rw [tz_neg x h0 hx, bits_and_u64_nat _ _ hx (by omega), h1]
theorem tz_idx (x : Nat) (h0 : x ≠ 0) (hx : x < 18446744073709551616) : ∃ k : Nat, k < 64 ∧ deBruijn64tab.getD k 0 = ctz 64 x ∧ IntKind.u64.wrap (bits .and .u64 (x : Int) (IntKind.u64.wrap (-(x : Int))) * 285870213051353865) / 288230376151711744 = (k : Int) := by
  have h2 := (lowest_bit 64 x h0 (by rw [p64]; exact hx)).2
  obtain ⟨h3, h4⟩ := deBruijn64_at (ctz 64 x) h2
  refine ⟨_, h3, h4, ?_⟩
  rw [tz_and x h0 hx, wrap_u64]
  generalize 2 ^ ctz 64 x = y
  omega

theorem tz_any (x : Nat) (h0 : x ≠ 0) (hx : x < 18446744073709551616) (w : World) (hT : Tab w) :
    Calls Tryd.prog 68 #[.int .u64 x] w fun e w' => e = .returned (.int .i64 (ctz 64 x : Nat)) ∧ w' = w := by
  obtain ⟨k, h3, h4, hidx⟩ := tz_idx x h0 hx
  have hc := hT _ h3
  rw [h4] at hc
  have hk1 : (0 : Int) ≤ (k : Int) := by omega
  have hk2 : (k : Int) < 64 := by omega
  have hx0 : ((x : Int) == 0) = false := by simp; omega
  have hy := (lowest_bit 64 x h0 (by rw [p64]; exact hx)).2
  generalize ctz 64 x = y at *
  have hyw : wrap64 (y : Int) = (y : Int) := by unfold wrap64; omega
  clear h4 hT
  go_enter Tryd.func68, Tryd.ntmps68
  go_wp2
  go_ret
  exact ⟨rfl, rfl⟩

theorem pow_lt64 {n : Nat} (hn : n < 64) : 2 ^ n < 18446744073709551616 := by rw [← p64]; exact Nat.pow_lt_pow_right (by decide) hn
theorem wrap_pow {n : Nat} (hn : n < 64) : IntKind.u64.wrap (2 ^ n) = ((2 ^ n : Nat) : Int) := by
  have h := pow_lt64 hn
  rw [wrap_u64]
  have e : ((2 : Int) ^ n) = ((2 ^ n : Nat) : Int) := by simp
  rw [e]
  generalize 2 ^ n = y at h
  omega
theorem one64_any (n : Nat) (hn : n < 64) (w : World) :
    Calls Tryd.prog 70 #[.int .i64 n] w fun e w' => e = .returned (.int .u64 (2 ^ n : Nat)) ∧ w' = w := by
  have h0 : decide ((n : Int) < 0) = false := by simp
  go_enter Tryd.func70, Tryd.ntmps70
  go_wp2
  go_ret
  refine ⟨?_, rfl⟩
  show Ending.returned (Value.int .u64 (IntKind.u64.wrap (2 ^ n))) = _
  rw [wrap_pow hn]
theorem with64_any (m n : Nat) (hm : m < 18446744073709551616) (hn : n < 64) (w : World) :
    Calls Tryd.prog 49 #[.int .u64 m, .int .i64 n] w fun e w' => e = .returned (.int .u64 (m ||| 2 ^ n : Nat)) ∧ w' = w := by
  have hb := bits_or_u64_nat m (2 ^ n) hm (pow_lt64 hn)
  go_enter Tryd.func49, Tryd.ntmps49
  go_wp2_with fail
  refine (one64_any n hn w).mono ?_
  rintro e w' ⟨rfl, rfl⟩
  go_wp2
  go_ret
  refine ⟨?_, rfl⟩
  show Ending.returned (Value.int .u64 (bits .or .u64 (m : Int) ((2 ^ n : Nat) : Int))) = _
  rw [hb]
theorem shift_any (k : Nat) (hk : k < 3) (w : World) : Calls Tryd.prog 72 #[.int .i64 k] w fun e w' => e = .returned (.int .i64 (2 * (2 - k) : Nat)) ∧ w' = w := by
  go_enter Tryd.func72, Tryd.ntmps72
  go_wp2
  go_ret
  refine ⟨?_, rfl⟩
  obtain rfl | rfl | rfl : k = 0 ∨ k = 1 ∨ k = 2 := by omega
  all_goals rfl
theorem value_fin : ∀ (x : Fin 64) (k : Fin 3), bits .and .i64 (wrap64 ((x.val : Int) / 2 ^ (2 * (2 - k.val)))) 3 = (dig x.val k.val : Int) := by decide +kernel
theorem value_any (x k : Nat) (hx : x < 64) (hk : k < 3) (w : World) : Calls Tryd.prog 69 #[.int .u8 x, .int .i64 k] w fun e w' => e = .returned (.int .i64 (dig x k : Nat)) ∧ w' = w := by
  have hs : decide (((2 * (2 - k) : Nat) : Int) < 0) = false := by simp; omega
  have hv := value_fin ⟨x, hx⟩ ⟨k, hk⟩
  simp only at hv
  have HV : Put (_ = _) := ⟨hv⟩
  clear hv
  go_enter Tryd.func69, Tryd.ntmps69
  go_wp2_with fail
  refine (shift_any k hk w).mono ?_
  rintro e w' ⟨rfl, rfl⟩
  go_wp2
  go_ret
  refine ⟨?_, rfl⟩
  show Ending.returned (Value.int .i64 (bits .and .i64 (wrap64 ((x : Int) / 2 ^ (2 * (2 - k)))) 3)) = _
  rw [HV.out]
theorem with_fin : ∀ (x : Fin 64) (k : Fin 3) (v : Fin 4), bits .or .u8 (bits .andNot .u8 (x.val : Int) (3 * 2 ^ (2 * (2 - k.val)) % 256)) ((v.val : Int) * 2 ^ (2 * (2 - k.val)) % 256) = (stW x.val k.val v.val : Int) := by decide +kernel
theorem with_any (x k v : Nat) (hx : x < 64) (hk : k < 3) (hv : v < 4) (w : World) : Calls Tryd.prog 53 #[.int .u8 x, .int .i64 k, .int .i64 v] w fun e w' => e = .returned (.int .u8 (stW x k v : Nat)) ∧ ∃ m, w' = w.drewN m := by
  have hs : decide (((2 * (2 - k) : Nat) : Int) < 0) = false := by simp; omega
  have HV : Put (_ = _) := ⟨with_fin ⟨x, hx⟩ ⟨k, hk⟩ ⟨v, hv⟩⟩
  go_enter Tryd.func53, Tryd.ntmps53
  go_wp2_with fail
  go_quiet ((go_at_call 72; exact Calls.quiet_of_same (shift_any k hk _)))
  go_wp2
  go_ret
  refine ⟨?_, _, rfl⟩
  exact congrArg (fun z => Ending.returned (Value.int .u8 z)) HV.out
/-! Values: small sets. -/
theorem one8_any (n : Nat) (hn : n < 8) (w : World) :
    Calls Tryd.prog 88 #[.int .i64 n] w fun e w' => e = .returned (.int .u8 (2 ^ n : Nat)) ∧ w' = w := by
  have h0 : decide ((n : Int) < 0) = false := by simp
  go_enter Tryd.func88, Tryd.ntmps88
  go_wp2
  go_ret
  refine ⟨?_, rfl⟩
  obtain rfl | rfl | rfl | rfl | rfl | rfl | rfl | rfl : n = 0 ∨ n = 1 ∨ n = 2 ∨ n = 3 ∨ n = 4 ∨ n = 5 ∨ n = 6 ∨ n = 7 := by omega
  all_goals rfl
theorem or8_fin : ∀ (m : Fin 256) (n : Fin 8), bits .or .u8 (m.val : Int) ((2 ^ n.val : Nat) : Int) = ((m.val ||| 2 ^ n.val : Nat) : Int) := by decide +kernel
theorem with8_any (m n : Nat) (hm : m < 256) (hn : n < 8) (w : World) :
    Calls Tryd.prog 77 #[.int .u8 m, .int .i64 n] w fun e w' => e = .returned (.int .u8 (m ||| 2 ^ n : Nat)) ∧ w' = w := by
  have HV : Put (_ = _) := ⟨or8_fin ⟨m, hm⟩ ⟨n, hn⟩⟩
  go_enter Tryd.func77, Tryd.ntmps77
  go_wp2_with fail
  refine (one8_any n hn w).mono ?_
  rintro e w' ⟨rfl, rfl⟩
  go_wp2
  go_ret
  refine ⟨?_, rfl⟩
  exact congrArg (fun z => Ending.returned (Value.int .u8 z)) HV.out
theorem below8_any (n : Nat) (h1 : 1 ≤ n) (hn : n ≤ 4) (w : World) :
    Calls Tryd.prog 94 #[.int .i64 n] w fun e w' => e = .returned (.int .u8 (2 ^ n - 1 : Nat)) ∧ w' = w := by
  have h0 : decide ((n : Int) ≤ 0) = false := by simp; omega
  go_enter Tryd.func94, Tryd.ntmps94
  go_wp2_with fail
  refine (one8_any n (by omega) w).mono ?_
  rintro e w' ⟨rfl, rfl⟩
  go_wp2
  go_ret
  refine ⟨?_, rfl⟩
  obtain rfl | rfl | rfl | rfl : n = 1 ∨ n = 2 ∨ n = 3 ∨ n = 4 := by omega
  all_goals rfl
end Go.Proofs.YtkbmolodljenjaaDoor
