/- The iterators over sets. Our own text. -/
import Derived.Test.YtkbmolodljenjaaDoorMSet
import Derived.RangeFuncNested
import Derived.RangeFuncBound
import Derived.RangeFuncCalls
import Derived.RangeFuncLeaves
import Derived.Shelf.Abstract
import Derived.Shelf.RegionOpen
import Derived.OwnWalkIn
import Derived.TacticsInMore
import Derived.LoopNIn
import Derived.LoopIn
namespace Go.Proofs.YtkbmolodljenjaaDoor
open Go.RowKit Go.Shelf Go.Lib
attribute [local go_sem] Oper.semAt_some

theorem and_pred_lt {m : Nat} (h : m < 18446744073709551616) : m &&& (m - 1) < 18446744073709551616 := Nat.lt_of_le_of_lt Nat.and_le_left h
theorem and_u64 {m : Nat} (h0 : m ≠ 0) (h : m < 18446744073709551616) : bits .and .u64 (m : Int) ((m : Int) - 1) = ((m &&& (m - 1) : Nat) : Int) := by
  have e : (m : Int) - 1 = ((m - 1 : Nat) : Int) := by omega
  rw [e, bits_and_u64_nat _ _ h (by omega)]
/-- What a set's number lists. -/
def memOf (v : Value) : List (Fin 64) := match v with
  | .int _ z => mem z.toNat
  | _ => []

theorem members35 (m : Nat) (w : World) : Calls Tryd.prog 47 #[.int .u64 m] w fun e w' => e = .returned (.func (.func 67) #[] #[.pointer (some ⟨w.heap.size, 0, none⟩)]) ∧ w' = w.alloc (.cells #[.int .u64 m] 59) := by
  go_enter Tryd.func47, Tryd.ntmps47
  go_wp2
  go_ret
  exact ⟨rfl, rfl⟩
theorem members56 (m : Nat) (w : World) : Calls Tryd.prog 71 #[.int .u8 m] w fun e w' => e = .returned (.func (.func 87) #[] #[.pointer (some ⟨w.heap.size, 0, none⟩)]) ∧ w' = w.alloc (.cells #[.int .u8 m] 78) := by
  go_enter Tryd.func71, Tryd.ntmps71
  go_wp2
  go_ret
  exact ⟨rfl, rfl⟩

set_option maxRecDepth 100000 in
set_option maxHeartbeats 1000000 in
theorem mem52_in (n : Nat) (hn : 1 ≤ n) (l B n₀ m : Nat) (hm : m < 18446744073709551616) (h0n : 0 < n₀) (J Jx : List (Fin 64) → World → Prop)
    (hY : ∀ pre (x : Fin 64) W, J pre W → pre.length < 64 → YieldAt Fence.wide (n - 1) Tryd.prog l #[.int .i64 (x.val : Nat)] W fun e W' =>
      (e = .returned (.bool true) ∧ J (pre ++ [x]) W' ∧ Below n₀ W W') ∨ (e = .returned (.bool false) ∧ Jx (pre ++ [x]) W'))
    (W : World) (hB : W.cell? ⟨B, 0, none⟩ = some (.int .u64 m)) (hT : Tab W) (hJ0 : J [] W) :
    CallsIn Fence.wide n Tryd.prog 67 #[.func (.yield l) #[] #[], .pointer (some ⟨B, 0, none⟩)] W fun e W' => (∃ v, e = .returned v) ∧
      ((∃ ys, ys = mem m ∧ J ys W') ∨ (∃ pre, pre <+: mem m ∧ Jx pre W')) := by
  refine callsIn_of_wp Tryd.func67 rfl trivial ?_ rfl
  simp only [Tryd.ntmps67, List.size_toArray, List.length_cons, List.length_nil, Nat.reduceAdd, Nat.reduceSub, Array.replicate_succ, Array.replicate_zero, List.push_toArray, List.append_toArray, List.nil_append, List.cons_append]
  gi_wp2
  gi_loopw [3] (fun p wr => ∃ (pre : List (Fin 64)) (r : Nat), p = .int .u64 r ∧ r < 18446744073709551616 ∧ mem m = pre ++ mem r ∧ Tab wr ∧ J pre wr)
    (fun p _ => (memOf p).length)
  case atStart =>
    exact ⟨[], m, rfl, hm, rfl, hT, hJ0⟩
  case round =>
    obtain ⟨pre, r, rfl, hr, hx, hTr, hJr⟩ := hrel
    by_cases hr0 : r = 0
    · subst hr0
      gi_wp2
      go_end0
      exact ⟨⟨_, rfl⟩, .inl ⟨pre, by rw [hx, mem_zero]; simp, hJr⟩⟩
    · have hst := mem_step r hr0 (by rw [p64]; exact hr)
      have hlow := (low_spec r hr0 (by rw [p64]; exact hr)).1
      generalize hxe : (⟨ctz 64 r, hlow⟩ : Fin 64) = x at hst
      have hxv : ctz 64 r = x.val := by rw [← hxe]
      have hlen : pre.length < 64 := by
        have := mem_len m
        rw [hx, hst] at this
        simp at this; omega
      obtain ⟨fn, tmps, assign, body, hy, hR⟩ := hY pre x wr hJr hlen
      have hne : ((r : Int) == 0) = false := by simp; omega
      have HY : Put (_ = _) := ⟨hxv⟩
      have HS : Put (_ = _) := ⟨hst⟩
      have HA : Put (_ = _) := ⟨and_u64 hr0 hr⟩
      have HX : Put (_ = _) := ⟨hx⟩
      clear hxv hst hx hxe
      have htz := tz_any r hr0 hr wr hTr
      rw [HY.out] at htz
      gi_wp2
      refine ⟨trivial, ?_⟩
      refine (callsIn_wide.2 htz).mono ?_
      rintro e w' ⟨rfl, rfl⟩
      gi_wp2
      refine hR.mono ?_
      rintro e W3 (⟨rfl, hJ3, hk3⟩ | ⟨rfl, hJx3⟩)
      · gi_wp2
        go_roundw
        case rel => exact ⟨pre ++ [x], r &&& (r - 1), by rw [HA.out], and_pred_lt hr, by rw [HX.out, HS.out]; simp, hTr.below hk3 h0n, hJ3⟩
        case measure =>
          show (memOf (.int .u64 (bits BinOp.and IntKind.u64 (r : Int) ((r : Int) - 1)))).length < (memOf (.int .u64 (r : Int))).length
          rw [HA.out]
          show (mem (r &&& (r - 1))).length < (mem r).length
          rw [HS.out]; simp
      · gi_wp2
        refine bodyPost_ret (results_none rfl _ _ _) rfl ?_
        exact ⟨⟨_, rfl⟩, .inr ⟨pre ++ [x], ⟨mem (r &&& (r - 1)), by rw [HX.out, HS.out]; simp⟩, hJx3⟩⟩

theorem and_pred16 : ∀ m : Fin 16, m.val ≠ 0 → m.val &&& (m.val - 1) < 16 ∧ bits .and .u8 (m.val : Int) ((m.val : Int) - 1) = ((m.val &&& (m.val - 1) : Nat) : Int) := by decide +kernel
/-- What a small set's number lists. -/
def mem4Of (v : Value) : List (Fin 4) := match v with
  | .int _ z => mem4 z.toNat
  | _ => []

set_option maxRecDepth 100000 in
set_option maxHeartbeats 1000000 in
theorem mem74_in (n : Nat) (hn : 1 ≤ n) (l B n₀ m : Nat) (hm : m < 16) (h0n : 0 < n₀) (J Jx : List (Fin 4) → World → Prop)
    (hY : ∀ pre (x : Fin 4) W, J pre W → pre.length < 4 → YieldAt Fence.wide (n - 1) Tryd.prog l #[.int .i64 (x.val : Nat)] W fun e W' =>
      (e = .returned (.bool true) ∧ J (pre ++ [x]) W' ∧ Below n₀ W W') ∨ (e = .returned (.bool false) ∧ Jx (pre ++ [x]) W'))
    (W : World) (hB : W.cell? ⟨B, 0, none⟩ = some (.int .u8 m)) (hT : Tab W) (hJ0 : J [] W) :
    CallsIn Fence.wide n Tryd.prog 87 #[.func (.yield l) #[] #[], .pointer (some ⟨B, 0, none⟩)] W fun e W' => (∃ v, e = .returned v) ∧
      ((∃ ys, ys = mem4 m ∧ J ys W') ∨ (∃ pre, pre <+: mem4 m ∧ Jx pre W')) := by
  refine callsIn_of_wp Tryd.func87 rfl trivial ?_ rfl
  simp only [Tryd.ntmps87, List.size_toArray, List.length_cons, List.length_nil, Nat.reduceAdd, Nat.reduceSub, Array.replicate_succ, Array.replicate_zero, List.push_toArray, List.append_toArray, List.nil_append, List.cons_append]
  gi_wp2
  gi_loopw [3] (fun p wr => ∃ (pre : List (Fin 4)) (r : Nat), p = .int .u8 r ∧ r < 16 ∧ mem4 m = pre ++ mem4 r ∧ Tab wr ∧ J pre wr)
    (fun p _ => (mem4Of p).length)
  case atStart =>
    exact ⟨[], m, rfl, hm, rfl, hT, hJ0⟩
  case round =>
    obtain ⟨pre, r, rfl, hr, hx, hTr, hJr⟩ := hrel
    by_cases hr0 : r = 0
    · subst hr0
      gi_wp2
      go_end0
      exact ⟨⟨_, rfl⟩, .inl ⟨pre, by rw [hx, mem4_zero]; simp, hJr⟩⟩
    · obtain ⟨hlow, hst⟩ := mem4_step r hr0 hr
      obtain ⟨hal, haa⟩ := and_pred16 ⟨r, hr⟩ hr0
      simp only at hal haa
      generalize hxe : (⟨ctz 64 r, hlow⟩ : Fin 4) = x at hst
      have hxv : ctz 64 r = x.val := by rw [← hxe]
      have hlen : pre.length < 4 := by
        have := mem4_len m
        rw [hx, hst] at this
        simp at this; omega
      obtain ⟨fn, tmps, assign, body, hy, hR⟩ := hY pre x wr hJr hlen
      have hne : ((r : Int) == 0) = false := by simp; omega
      have hwr : IntKind.u64.wrap (r : Int) = (r : Int) := by rw [wrap_u64]; omega
      have HY : Put (_ = _) := ⟨hxv⟩
      have HS : Put (_ = _) := ⟨hst⟩
      have HA : Put (_ = _) := ⟨haa⟩
      have HX : Put (_ = _) := ⟨hx⟩
      clear hxv hst hx hxe haa
      have htz := tz_any r hr0 (by omega) wr hTr
      rw [HY.out] at htz
      gi_wp2
      refine ⟨trivial, ?_⟩
      refine (callsIn_wide.2 htz).mono ?_
      rintro e w' ⟨rfl, rfl⟩
      gi_wp2
      refine hR.mono ?_
      rintro e W3 (⟨rfl, hJ3, hk3⟩ | ⟨rfl, hJx3⟩)
      · gi_wp2
        go_roundw
        case rel => exact ⟨pre ++ [x], r &&& (r - 1), by rw [HA.out], hal, by rw [HX.out, HS.out]; simp, hTr.below hk3 h0n, hJ3⟩
        case measure =>
          show (mem4Of (.int .u8 (bits BinOp.and IntKind.u8 (r : Int) ((r : Int) - 1)))).length < (mem4Of (.int .u8 (r : Int))).length
          rw [HA.out]
          show (mem4 (r &&& (r - 1))).length < (mem4 r).length
          rw [HS.out]; simp
      · gi_wp2
        refine bodyPost_ret (results_none rfl _ _ _) rfl ?_
        exact ⟨⟨_, rfl⟩, .inr ⟨pre ++ [x], ⟨mem4 (r &&& (r - 1)), by rw [HX.out, HS.out]; simp⟩, hJx3⟩⟩

theorem stops52 (n : Nat) (hn : 1 ≤ n) (B n₀ m : Nat) (hm : m < 18446744073709551616) (h0n : 0 < n₀) (w : World) (hBw : B < w.heap.size) (_hn₀ : n₀ ≤ w.heap.size) (hc : w.cell? ⟨B, 0, none⟩ = some (.int .u64 m)) (hT : Tab w) :
    SeqStopsK Fence.wide n Tryd.prog 67 #[.pointer (some ⟨B, 0, none⟩)] (fun x : Fin 64 => #[Value.int .i64 (x.val : Nat)]) (Below n₀) (fun ys => ys = mem m) (fun pre => pre <+: mem m) 64 w := fun l J Jx W hW _ _ hY h0 =>
  mem52_in n hn l B n₀ m hm h0n J Jx hY W ((hW.cell (p := ⟨B, 0, none⟩) hBw).trans hc) (hT.below hW (by omega)) h0
theorem stops74 (n : Nat) (hn : 1 ≤ n) (B n₀ m : Nat) (hm : m < 16) (h0n : 0 < n₀) (w : World) (hBw : B < w.heap.size) (_hn₀ : n₀ ≤ w.heap.size) (hc : w.cell? ⟨B, 0, none⟩ = some (.int .u8 m)) (hT : Tab w) :
    SeqStopsK Fence.wide n Tryd.prog 87 #[.pointer (some ⟨B, 0, none⟩)] (fun x : Fin 4 => #[Value.int .i64 (x.val : Nat)]) (Below n₀) (fun ys => ys = mem4 m) (fun pre => pre <+: mem4 m) 4 w := fun l J Jx W hW _ _ hY h0 =>
  mem74_in n hn l B n₀ m hm h0n J Jx hY W ((hW.cell (p := ⟨B, 0, none⟩) hBw).trans hc) (hT.below hW (by omega)) h0
end Go.Proofs.YtkbmolodljenjaaDoor
