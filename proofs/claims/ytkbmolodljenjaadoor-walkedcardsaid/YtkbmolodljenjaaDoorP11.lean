import Derived.Test.YtkbmolodljenjaaDoorP1
import Derived.RangeFuncNested
import Derived.RangeFuncBound
import Derived.RangeFuncCalls
import Derived.RangeFuncLeaves
import Derived.Shelf.Abstract
import Derived.Shelf.RegionOpen
import Derived.OwnWalkIn
import Derived.TacticsInMore
import Derived.LoopNIn
import Derived.LoopIn
import Derived.Stop.RegionWithIn
import Derived.Test.YtkbmolodljenjaaDoorP8
/- The iterators over sets. Our own text. -/
namespace Go.Proofs.YtkbmolodljenjaaDoor
open Go.RowKit Go.Shelf Go.Lib
attribute [local go_sem] Oper.semAt_some

theorem and_pred_lt {m : Nat} (h : m < 18446744073709551616) : m &&& (m - 1) < 18446744073709551616 := Nat.lt_of_le_of_lt Nat.and_le_left h
theorem and_u64 {m : Nat} (h0 : m ≠ 0) (h : m < 18446744073709551616) : bits .and .u64 (m : Int) ((m : Int) - 1) = ((m &&& (m - 1) : Nat) : Int) := by
  have e : (m : Int) - 1 = ((m - 1 : Nat) : Int) := by omega
  rw [e, bits_and_u64_nat _ _ h (by omega)]
/-- What a set's number lists. -/
def memOf (v : Value) : List (Fin 64) := match v with
  | .int _ z => mem z.toNat
  | _ => []

theorem members35 (m : Nat) (w : World) : Calls Tryd.prog 47 #[.int .u64 m] w fun e w' => e = .returned (.func (.func 67) #[] #[.pointer (some ⟨w.heap.size, 0, none⟩)]) ∧ w' = w.alloc (.cells #[.int .u64 m] 59) := by
  go_enter Tryd.func47, Tryd.ntmps47
  go_wp2
  go_ret
  exact ⟨rfl, rfl⟩
theorem members56 (m : Nat) (w : World) : Calls Tryd.prog 71 #[.int .u8 m] w fun e w' => e = .returned (.func (.func 87) #[] #[.pointer (some ⟨w.heap.size, 0, none⟩)]) ∧ w' = w.alloc (.cells #[.int .u8 m] 78) := by
  go_enter Tryd.func71, Tryd.ntmps71
  go_wp2
  go_ret
  exact ⟨rfl, rfl⟩

set_option maxRecDepth 100000 in
set_option maxHeartbeats 1000000 in
theorem mem52_in (n : Nat) (hn : 1 ≤ n) (l B n₀ m : Nat) (hm : m < 18446744073709551616) (h0n : 0 < n₀) (J Jx : List (Fin 64) → World → Prop)
    (hY : ∀ pre (x : Fin 64) W, J pre W → pre.length < 64 → YieldAt Fence.wide (n - 1) Tryd.prog l #[.int .i64 (x.val : Nat)] W fun e W' =>
      (e = .returned (.bool true) ∧ J (pre ++ [x]) W' ∧ Below n₀ W W') ∨ (e = .returned (.bool false) ∧ Jx (pre ++ [x]) W'))
    (W : World) (hB : W.cell? ⟨B, 0, none⟩ = some (.int .u64 m)) (hT : Tab W) (hJ0 : J [] W) :
    CallsIn Fence.wide n Tryd.prog 67 #[.func (.yield l) #[] #[], .pointer (some ⟨B, 0, none⟩)] W fun e W' => (∃ v, e = .returned v) ∧
      ((∃ ys, ys = mem m ∧ J ys W') ∨ (∃ pre, pre <+: mem m ∧ Jx pre W')) := by
  refine callsIn_of_wp Tryd.func67 rfl trivial ?_ rfl
  simp only [Tryd.ntmps67, List.size_toArray, List.length_cons, List.length_nil, Nat.reduceAdd, Nat.reduceSub, Array.replicate_succ, Array.replicate_zero, List.push_toArray, List.append_toArray, List.nil_append, List.cons_append]
  gi_wp2
  gi_loopw [3] (fun p wr => ∃ (pre : List (Fin 64)) (r : Nat), p = .int .u64 r ∧ r < 18446744073709551616 ∧ mem m = pre ++ mem r ∧ Tab wr ∧ J pre wr)
    (fun p _ => (memOf p).length)
  case atStart =>
    exact ⟨[], m, rfl, hm, rfl, hT, hJ0⟩
  case round =>
    obtain ⟨pre, r, rfl, hr, hx, hTr, hJr⟩ := hrel
    by_cases hr0 : r = 0
    · subst hr0
      gi_wp2
      go_end0
      exact ⟨⟨_, rfl⟩, .inl ⟨pre, by rw [hx, mem_zero]; simp, hJr⟩⟩
    · have hst := mem_step r hr0 (by rw [p64]; exact hr)
      have hlow := (low_spec r hr0 (by rw [p64]; exact hr)).1
      generalize hxe : (⟨ctz 64 r, hlow⟩ : Fin 64) = x at hst
      have hxv : ctz 64 r = x.val := by rw [← hxe]
      have hlen : pre.length < 64 := by
        have := mem_len m
        rw [hx, hst] at this
        simp at this; omega
      obtain ⟨fn, tmps, assign, body, hy, hR⟩ := hY pre x wr hJr hlen
      have hne : ((r : Int) == 0) = false := by simp; omega
      have HY : Put (_ = _) := ⟨hxv⟩
      have HS : Put (_ = _) := ⟨hst⟩
      have HA : Put (_ = _) := ⟨and_u64 hr0 hr⟩
      have HX : Put (_ = _) := ⟨hx⟩
      clear hxv hst hx hxe
      have htz := tz_any r hr0 hr wr hTr
      rw [HY.out] at htz
      gi_wp2
      refine ⟨trivial, ?_⟩
      refine (callsIn_wide.2 htz).mono ?_
      rintro e w' ⟨rfl, rfl⟩
      gi_wp2
      refine hR.mono ?_
      rintro e W3 (⟨rfl, hJ3, hk3⟩ | ⟨rfl, hJx3⟩)
      · gi_wp2
        go_roundw
        case rel => exact ⟨pre ++ [x], r &&& (r - 1), by rw [HA.out], and_pred_lt hr, by rw [HX.out, HS.out]; simp, hTr.below hk3 h0n, hJ3⟩
        case measure =>
          show (memOf (.int .u64 (bits BinOp.and IntKind.u64 (r : Int) ((r : Int) - 1)))).length < (memOf (.int .u64 (r : Int))).length
          rw [HA.out]
          show (mem (r &&& (r - 1))).length < (mem r).length
          rw [HS.out]; simp
      · gi_wp2
        refine bodyPost_ret (results_none rfl _ _ _) rfl ?_
        exact ⟨⟨_, rfl⟩, .inr ⟨pre ++ [x], ⟨mem (r &&& (r - 1)), by rw [HX.out, HS.out]; simp⟩, hJx3⟩⟩

theorem and_pred16 : ∀ m : Fin 16, m.val ≠ 0 → m.val &&& (m.val - 1) < 16 ∧ bits .and .u8 (m.val : Int) ((m.val : Int) - 1) = ((m.val &&& (m.val - 1) : Nat) : Int) := by decide +kernel
/-- What a small set's number lists. -/
def mem4Of (v : Value) : List (Fin 4) := match v with
  | .int _ z => mem4 z.toNat
  | _ => []

set_option maxRecDepth 100000 in
set_option maxHeartbeats 1000000 in
theorem mem74_in (n : Nat) (hn : 1 ≤ n) (l B n₀ m : Nat) (hm : m < 16) (h0n : 0 < n₀) (J Jx : List (Fin 4) → World → Prop)
    (hY : ∀ pre (x : Fin 4) W, J pre W → pre.length < 4 → YieldAt Fence.wide (n - 1) Tryd.prog l #[.int .i64 (x.val : Nat)] W fun e W' =>
      (e = .returned (.bool true) ∧ J (pre ++ [x]) W' ∧ Below n₀ W W') ∨ (e = .returned (.bool false) ∧ Jx (pre ++ [x]) W'))
    (W : World) (hB : W.cell? ⟨B, 0, none⟩ = some (.int .u8 m)) (hT : Tab W) (hJ0 : J [] W) :
    CallsIn Fence.wide n Tryd.prog 87 #[.func (.yield l) #[] #[], .pointer (some ⟨B, 0, none⟩)] W fun e W' => (∃ v, e = .returned v) ∧
      ((∃ ys, ys = mem4 m ∧ J ys W') ∨ (∃ pre, pre <+: mem4 m ∧ Jx pre W')) := by
  refine callsIn_of_wp Tryd.func87 rfl trivial ?_ rfl
  simp only [Tryd.ntmps87, List.size_toArray, List.length_cons, List.length_nil, Nat.reduceAdd, Nat.reduceSub, Array.replicate_succ, Array.replicate_zero, List.push_toArray, List.append_toArray, List.nil_append, List.cons_append]
  gi_wp2
  gi_loopw [3] (fun p wr => ∃ (pre : List (Fin 4)) (r : Nat), p = .int .u8 r ∧ r < 16 ∧ mem4 m = pre ++ mem4 r ∧ Tab wr ∧ J pre wr)
    (fun p _ => (mem4Of p).length)
  case atStart =>
    exact ⟨[], m, rfl, hm, rfl, hT, hJ0⟩
  case round =>
    obtain ⟨pre, r, rfl, hr, hx, hTr, hJr⟩ := hrel
    by_cases hr0 : r = 0
    · subst hr0
      gi_wp2
      go_end0
      exact ⟨⟨_, rfl⟩, .inl ⟨pre, by rw [hx, mem4_zero]; simp, hJr⟩⟩
    · obtain ⟨hlow, hst⟩ := mem4_step r hr0 hr
      obtain ⟨hal, haa⟩ := and_pred16 ⟨r, hr⟩ hr0
      simp only at hal haa
      generalize hxe : (⟨ctz 64 r, hlow⟩ : Fin 4) = x at hst
      have hxv : ctz 64 r = x.val := by rw [← hxe]
      have hlen : pre.length < 4 := by
        have := mem4_len m
        rw [hx, hst] at this
        simp at this; omega
      obtain ⟨fn, tmps, assign, body, hy, hR⟩ := hY pre x wr hJr hlen
      have hne : ((r : Int) == 0) = false := by simp; omega
      have hwr : IntKind.u64.wrap (r : Int) = (r : Int) := by rw [wrap_u64]; omega
      have HY : Put (_ = _) := ⟨hxv⟩
      have HS : Put (_ = _) := ⟨hst⟩
      have HA : Put (_ = _) := ⟨haa⟩
      have HX : Put (_ = _) := ⟨hx⟩
      clear hxv hst hx hxe haa
      have htz := tz_any r hr0 (by omega) wr hTr
      rw [HY.out] at htz
      gi_wp2
      refine ⟨trivial, ?_⟩
      refine (callsIn_wide.2 htz).mono ?_
      rintro e w' ⟨rfl, rfl⟩
      gi_wp2
      refine hR.mono ?_
      rintro e W3 (⟨rfl, hJ3, hk3⟩ | ⟨rfl, hJx3⟩)
      · gi_wp2
        go_roundw
        case rel => exact ⟨pre ++ [x], r &&& (r - 1), by rw [HA.out], hal, by rw [HX.out, HS.out]; simp, hTr.below hk3 h0n, hJ3⟩
        case measure =>
          show (mem4Of (.int .u8 (bits BinOp.and IntKind.u8 (r : Int) ((r : Int) - 1)))).length < (mem4Of (.int .u8 (r : Int))).length
          rw [HA.out]
          show (mem4 (r &&& (r - 1))).length < (mem4 r).length
          rw [HS.out]; simp
      · gi_wp2
        refine bodyPost_ret (results_none rfl _ _ _) rfl ?_
        exact ⟨⟨_, rfl⟩, .inr ⟨pre ++ [x], ⟨mem4 (r &&& (r - 1)), by rw [HX.out, HS.out]; simp⟩, hJx3⟩⟩

theorem stops52 (n : Nat) (hn : 1 ≤ n) (B n₀ m : Nat) (hm : m < 18446744073709551616) (h0n : 0 < n₀) (w : World) (hBw : B < w.heap.size) (_hn₀ : n₀ ≤ w.heap.size) (hc : w.cell? ⟨B, 0, none⟩ = some (.int .u64 m)) (hT : Tab w) :
    SeqStopsK Fence.wide n Tryd.prog 67 #[.pointer (some ⟨B, 0, none⟩)] (fun x : Fin 64 => #[Value.int .i64 (x.val : Nat)]) (Below n₀) (fun ys => ys = mem m) (fun pre => pre <+: mem m) 64 w := fun l J Jx W hW _ _ hY h0 =>
  mem52_in n hn l B n₀ m hm h0n J Jx hY W ((hW.cell (p := ⟨B, 0, none⟩) hBw).trans hc) (hT.below hW (by omega)) h0
theorem stops74 (n : Nat) (hn : 1 ≤ n) (B n₀ m : Nat) (hm : m < 16) (h0n : 0 < n₀) (w : World) (hBw : B < w.heap.size) (_hn₀ : n₀ ≤ w.heap.size) (hc : w.cell? ⟨B, 0, none⟩ = some (.int .u8 m)) (hT : Tab w) :
    SeqStopsK Fence.wide n Tryd.prog 87 #[.pointer (some ⟨B, 0, none⟩)] (fun x : Fin 4 => #[Value.int .i64 (x.val : Nat)]) (Below n₀) (fun ys => ys = mem4 m) (fun pre => pre <+: mem4 m) 4 w := fun l J Jx W hW _ _ hY h0 =>
  mem74_in n hn l B n₀ m hm h0n J Jx hY W ((hW.cell (p := ⟨B, 0, none⟩) hBw).trans hc) (hT.below hW (by omega)) h0
end Go.Proofs.YtkbmolodljenjaaDoor

/- Spreading a set of states over values of a variable. Our own text. -/
namespace Go.Proofs.YtkbmolodljenjaaDoor
open Go.RowKit Go.Shelf Go.Lib
attribute [local go_sem] Oper.semAt_some

set_option maxRecDepth 100000 in
set_option maxHeartbeats 4000000 in
theorem spread_any (m k f : Nat) (hm : m < 18446744073709551616) (hk : k < 3) (hf : f < 16) (w : World) (hT : Tab w) (h0w : 0 < w.heap.size) :
    Calls Tryd.prog 50 #[.int .u64 m, .int .i64 k, .int .u8 f] w fun e w' => e = .returned (.int .u64 (spr m k f : Nat)) ∧ Below w.heap.size w w' := by
  refine (callsIn_wide (n := 6)).1 ?_
  refine callsIn_of_wp_marks Tryd.func50 rfl trivial ?_ rfl
  simp only [Tryd.ntmps50, List.size_toArray, List.length_cons, List.length_nil, Nat.reduceAdd, Nat.reduceSub, Array.replicate_succ, Array.replicate_zero, List.push_toArray, List.append_toArray, List.nil_append, List.cons_append]
  gi_wp2
  refine ⟨trivial, ?_⟩
  refine (callsIn_wide.2 (members35 m _)).mono ?_
  rintro e w' ⟨rfl, rfl⟩
  gi_wp2
  have bN := (((Boxed.new w 3 (.int .i64 k)).alloc (.cells #[.int .u8 f] 78)).alloc (.cells #[.int .u64 0] 59)).alloc (.cells #[.int .u64 m] 59)
  have bF := ((Boxed.new (w.alloc (.cells #[.int .i64 k] 3)) 78 (.int .u8 f)).alloc (.cells #[.int .u64 0] 59)).alloc (.cells #[.int .u64 m] 59)
  have bO := (Boxed.new ((w.alloc (.cells #[.int .i64 k] 3)).alloc (.cells #[.int .u8 f] 78)) 59 (.int .u64 0)).alloc (.cells #[.int .u64 m] 59)
  have bM := Boxed.new (((w.alloc (.cells #[.int .i64 k] 3)).alloc (.cells #[.int .u8 f] 78)).alloc (.cells #[.int .u64 0] 59)) 59 (.int .u64 m)
  simp only [World.size_alloc] at bN bF bO bM
  have hB0 : Below w.heap.size w ((((w.alloc (.cells #[.int .i64 k] 3)).alloc (.cells #[.int .u8 f] 78)).alloc (.cells #[.int .u64 0] 59)).alloc (.cells #[.int .u64 m] 59)) := ((((Below.refl _ w).alloc (Nat.le_refl _) _).alloc (by simp) _).alloc (by simp; omega) _).alloc (by simp; omega) _
  have hsz : ((((w.alloc (.cells #[.int .i64 k] 3)).alloc (.cells #[.int .u8 f] 78)).alloc (.cells #[.int .u64 0] 59)).alloc (.cells #[.int .u64 m] 59)).heap.size = w.heap.size + 4 := by simp
  generalize (((w.alloc (.cells #[.int .i64 k] 3)).alloc (.cells #[.int .u8 f] 78)).alloc (.cells #[.int .u64 0] 59)).alloc (.cells #[.int .u64 m] 59) = W0 at *
  refine wpIn_rangeFunc_ownH (α := Fin 64) rfl (by decide) (gf := 67) (lb := #[.pointer (some ⟨w.heap.size + 1 + 1 + 1, 0, none⟩)]) rfl trivial (enters_of Tryd.func67 (by kernel_rfl) rfl)
    (stops52 5 (by decide) (w.heap.size + 1 + 1 + 1) w.heap.size m hm h0w W0 (by omega) (by omega) bM.cell (hT.below hB0 h0w)) belowK_t (belowK_b (by omega)) (Below.refl _ _) (fun _ => rfl)
    (fun pre W => ((Boxed W (w.heap.size + 1 + 1) 59 (.int .u64 (sprP pre k (mem4 f) : Nat)) ∧ Boxed W w.heap.size 3 (.int .i64 k)) ∧ Boxed W (w.heap.size + 1) 78 (.int .u8 f)) ∧ Below w.heap.size w W)
    (fun _ _ _ => False)
    (OwnFrom.and (OwnFrom.and (OwnFrom.and (Own.from (boxed_own _ _ _) _) (Own.from (boxed_own _ _ _) _)) (Own.from (boxed_own _ _ _) _)) (ownFrom_below (Nat.le_refl _) (by omega)))
    (fun _ _ _ _ _ hs _ _ => hs)
    ⟨⟨⟨bO, bN⟩, bF⟩, hB0⟩
    (fun x a' W => ∃ Bx, w.heap.size + 1 + 1 < Bx ∧ Boxed W Bx 3 (.int .i64 (x.val : Nat)) ∧ a' = { tmps := #[.int .u64 m, .int .i64 k, .int .u8 f, undef, .pointer (some ⟨w.heap.size, 0, none⟩), .pointer (some ⟨w.heap.size + 1, 0, none⟩), .int .u64 0, .pointer (some ⟨w.heap.size + 1 + 1, 0, none⟩), .pointer (some ⟨Bx, 0, none⟩), undef, .int .u64 m, .func (.func 67) #[] #[.pointer (some ⟨w.heap.size + 1 + 1 + 1, 0, none⟩)], .int .i64 (x.val : Nat), undef, undef, undef, undef, undef, undef, undef, undef, undef, undef, undef, undef], defers := [] })
    (fun x a' _ X Y row hs hg hr => by obtain ⟨Bx, h1, h2, h3⟩ := hs; exact ⟨Bx, h1, boxed_own Bx 3 (fun (_ : Unit) => Value.int .i64 (x.val : Nat)) () X Y row h2 hg (fun r e => (hr r e).2), h3⟩)
    ?assign ?body ?done ?stop
  case assign =>
    rintro l pre x W K ⟨⟨⟨bO1, bN1⟩, bF1⟩, hB1⟩ hK
    gi_wp2
    exact hK _ _ ((KeepsOthers.alloc _ _).from _) ((Below.refl _ W).alloc hB1.size _) ⟨⟨⟨bO1.alloc _, bN1.alloc _⟩, bF1.alloc _⟩, hB1.alloc hB1.size _⟩ ⟨W.heap.size, bO1.lt, Boxed.new W 3 _, rfl⟩
  case body =>
    rintro l pre x a' W hl ⟨r, hr⟩ ⟨⟨⟨bO1, bN1⟩, bF1⟩, hB1⟩ ⟨Bx, hBx, bX, rfl⟩ hlt
    have cF := bF1.cell
    gi_wp2
    refine ⟨trivial, ?_⟩
    refine (CallsIn.inRound l (callsIn_wide.2 (members56 f _))).mono ?_
    rintro e w' ⟨rfl, rfl⟩
    gi_wp2
    have hsW := hB1.size
    have bV := Boxed.new W 78 (.int .u8 f)
    have hr' : (W.alloc (.cells #[.int .u8 f] 78)).heap[l]? = some (.loop r) := (Below.heap_alloc W _ l (Array.getElem?_eq_some_iff.1 hr).1).trans hr
    refine wpIn_rangeFunc_ownN (α := Fin 4) (l₀ := l) (r₀ := r) rfl hr' (by decide) (gf := 87) (lb := #[.pointer (some ⟨W.heap.size, 0, none⟩)]) rfl trivial (enters_of Tryd.func87 (by kernel_rfl) rfl)
      ((stops74 3 (by decide) W.heap.size w.heap.size f hf h0w _ (by simp) (by simp; omega) bV.cell ((hT.below hB1 h0w).below ((Below.refl _ W).alloc hsW _) h0w)).inRound l) belowK_t (belowK_b (by simp; omega)) (Below.refl _ _) (fun _ => rfl)
      (fun pre' W' => (((Boxed W' (w.heap.size + 1 + 1) 59 (.int .u64 (spr1 (sprP pre k (mem4 f)) x.val k pre' : Nat)) ∧ Boxed W' Bx 3 (.int .i64 (x.val : Nat))) ∧ Boxed W' w.heap.size 3 (.int .i64 k)) ∧ Boxed W' (w.heap.size + 1) 78 (.int .u8 f)) ∧ (Below w.heap.size W W' ∧ KeepsFrom W0.heap.size W W'))
      (fun _ _ _ => False)
      (OwnFrom.and (OwnFrom.and (OwnFrom.and (OwnFrom.and (Own.from (boxed_own _ _ _) _) (Own.from (boxed_own _ _ _) _)) (Own.from (boxed_own _ _ _) _)) (Own.from (boxed_own _ _ _) _)) (OwnFrom.and (ownFrom_below hsW (by first | (simp; done) | (simp; omega))) (ownFrom_keepsFrom (by first | (simp; done) | (simp; omega)))))
      (fun _ _ _ _ _ hs _ _ => hs)
      ⟨⟨⟨⟨bO1.alloc _, bX.alloc _⟩, bN1.alloc _⟩, bF1.alloc _⟩, (Below.refl _ W).alloc hsW _, (KeepsOthers.alloc _ _).from _⟩
      (fun y a'' _ => a'' = { tmps := #[.int .u64 m, .int .i64 k, .int .u8 f, undef, .pointer (some ⟨w.heap.size, 0, none⟩), .pointer (some ⟨w.heap.size + 1, 0, none⟩), .int .u64 0, .pointer (some ⟨w.heap.size + 1 + 1, 0, none⟩), .pointer (some ⟨Bx, 0, none⟩), .int .i64 (y.val : Nat), .int .u64 m, .func (.func 67) #[] #[.pointer (some ⟨w.heap.size + 1 + 1 + 1, 0, none⟩)], .int .i64 (x.val : Nat), .int .u8 f, .func (.func 87) #[] #[.pointer (some ⟨W.heap.size, 0, none⟩)], .int .i64 (y.val : Nat), undef, undef, undef, undef, undef, undef, undef, undef, undef], defers := [] })
      (fun _ _ _ _ _ _ hs _ _ => hs)
      ?assign2 ?body2 ?done2 ?stop2
    case assign2 =>
      rintro l2 pre' y W' K hi hK
      gi_wp2
      exact hK _ _ (KeepsFrom.refl _ _) (Below.refl _ _) hi rfl
    case body2 =>
      rintro l2 pre' y a'' W' _ _ ⟨⟨⟨⟨bO2, bX2⟩, bN2⟩, bF2⟩, hBW, hKF⟩ rfl _
      have cO := bO2.cell
      have fO := bO2.frozen
      have cX := bX2.cell
      have cN := bN2.cell
      have hlt := spr1_lt x.2 hk pre' (sprP pre k (mem4 f)) (sprP_lt hk _ _)
      have hsn := spr1_snoc (sprP pre k (mem4 f)) x.val k pre' y
      have hz := stW_lt x.2 hk y.2
      rw [p64] at hlt
      have HP : Put (_ ∧ _ ∧ _ ∧ _ ∧ _ ∧ _ ∧ _ ∧ _ ∧ _) := ⟨hsn, bO2, bX2, bN2, bF2, hBW, hKF, hBx, hsz⟩
      have hx := x.2
      have hy := y.2
      have hmix : Tryd.prog.follows .mixedOrders = true := by kernel_rfl
      clear hsn bO2 bX2 bN2 bF2 hBW hKF bN bF bO bM hB0 bO1 bN1 bF1 hB1 bX cF bV hr' hr hT
      have HQ : Put (∀ (a1 : Act) (mq : Nat), ownPostG (W.alloc (Obj.cells #[Value.int IntKind.u8 ↑f] 78)).heap.size (Below w.heap.size)
          (fun pre' W' => (((Boxed W' (w.heap.size + 1 + 1) 59 (.int .u64 (spr1 (sprP pre k (mem4 f)) x.val k pre' : Nat)) ∧ Boxed W' Bx 3 (.int .i64 (x.val : Nat))) ∧ Boxed W' w.heap.size 3 (.int .i64 k)) ∧ Boxed W' (w.heap.size + 1) 78 (.int .u8 f)) ∧ (Below w.heap.size W W' ∧ KeepsFrom W0.heap.size W W'))
          (fun _ _ _ => False) (pre' ++ [y]) W' .normal a1 ((W'.drewN mq).setCell ⟨w.heap.size + 1 + 1, 0, none⟩ (.int .u64 ((spr1 (sprP pre k (mem4 f)) x.val k pre' ||| 2 ^ stW x.val k y.val : Nat) : Int)))) := by
        refine ⟨fun a1 mq => ?_⟩
        obtain ⟨hsn, bO2, bX2, bN2, bF2, hBW, hKF, hBx, hsz⟩ := HP.out
        have hd : Below w.heap.size W' (W'.drewN mq) := ⟨rfl, rfl, rfl, Nat.le_refl _, fun _ _ => rfl⟩
        have kd : KeepsOthers W' (W'.drewN mq) := ⟨Nat.le_refl _, fun _ _ h _ => h⟩
        have bO3 : Boxed (W'.drewN mq) _ _ _ := bO2
        have bX3 : Boxed (W'.drewN mq) _ _ _ := bX2
        have bN3 : Boxed (W'.drewN mq) _ _ _ := bN2
        have bF3 : Boxed (W'.drewN mq) _ _ _ := bF2
        exact ⟨(kd.trans (KeepsOthers.setCell _ _ _)).from _, hd.setCell (p := ⟨w.heap.size + 1 + 1, 0, none⟩) (by show w.heap.size ≤ w.heap.size + 1 + 1; omega) _,
          ⟨⟨⟨⟨by rw [hsn]; exact bO3.set _, bX3.other (by omega) _⟩, bN3.other (by omega) _⟩, bF3.other (by omega) _⟩, hBW.trans (hd.setCell (p := ⟨w.heap.size + 1 + 1, 0, none⟩) (by show w.heap.size ≤ w.heap.size + 1 + 1; omega) _), hKF.trans ((kd.trans (KeepsOthers.setCell _ _ _)).from _)⟩⟩
      have h41 : ∀ w1, CallsIn ((Fence.wide.inRound l).inRound l2) 1 Tryd.prog 53 #[.int .u8 (x.val : Nat), .int .i64 k, .int .i64 (y.val : Nat)] w1 fun e w' => e = .returned (.int .u8 (stW x.val k y.val : Nat)) ∧ ∃ m, w' = w1.drewN m := fun w1 => CallsIn.inRound l2 (CallsIn.inRound l (callsIn_wide.2 (with_any x.val k y.val hx hk hy w1)))
      generalize spr1 (sprP pre k (mem4 f)) x.val k pre' = E at cO hlt HQ
      generalize stW x.val k y.val = z at hz HQ h41
      have h37 : ∀ w1, CallsIn ((Fence.wide.inRound l).inRound l2) 1 Tryd.prog 49 #[.int .u64 (E : Nat), .int .i64 (z : Nat)] w1 fun e w' => e = .returned (.int .u64 (E ||| 2 ^ z : Nat)) ∧ w' = w1 := fun w1 => CallsIn.inRound l2 (CallsIn.inRound l (callsIn_wide.2 (with64_any E z hlt hz w1)))
      generalize ownPostG (W.alloc (Obj.cells #[Value.int IntKind.u8 ↑f] 78)).heap.size (Below w.heap.size)
          (fun pre' W' => (((Boxed W' (w.heap.size + 1 + 1) 59 (.int .u64 (spr1 (sprP pre k (mem4 f)) x.val k pre' : Nat)) ∧ Boxed W' Bx 3 (.int .i64 (x.val : Nat))) ∧ Boxed W' w.heap.size 3 (.int .i64 k)) ∧ Boxed W' (w.heap.size + 1) 78 (.int .u8 f)) ∧ (Below w.heap.size W W' ∧ KeepsFrom W0.heap.size W W'))
          (fun _ _ _ => False) (pre' ++ [y]) W' = QQ at HQ ⊢
      clear HP hl hlt hsW hm hf h0w hsz
      generalize x.val = xv at *
      generalize y.val = yv at *
      generalize W.heap.size = c1 at *
      generalize w.heap.size + 1 + 1 = bo at *
      generalize w.heap.size + 1 = bf at *
      generalize w.heap.size = bn at *
      generalize E ||| 2 ^ z = E2 at *
      have hxw : IntKind.u8.wrap (xv : Int) = (xv : Int) := by simp [IntKind.wrap, IntKind.signed, IntKind.bits]; omega
      have hzw : IntKind.i64.wrap (z : Int) = (z : Int) := by simp [IntKind.wrap, IntKind.signed, IntKind.bits]; omega
      gi_wp2
      gi_region_with (first
        | (refine ⟨trivial, ?_⟩; with_reducible refine (h41 _).mono ?_; rintro e w' ⟨rfl, mq, rfl⟩)
        | (refine ⟨trivial, ?_⟩; with_reducible refine (h37 _).mono ?_; rintro e w' ⟨rfl, rfl⟩))
      all_goals exact HQ.out _ _
    case done2 =>
      rintro ys' W' rfl ⟨⟨⟨⟨bO2, bX2⟩, bN2⟩, bF2⟩, hBW, hKF⟩
      gi_wp2
      exact ⟨hKF, hBW, ⟨⟨by rw [sprP_snoc]; exact bO2, bN2⟩, bF2⟩, hB1.trans hBW⟩
    case stop2 =>
      rintro c pre' W' _ h
      exact h.elim
  case done =>
    rintro D zs W hD rfl ⟨⟨⟨bO1, bN1⟩, bF1⟩, hB1⟩ hK
    have cO := bO1.cell
    gi_wp2
    refine ⟨by simp, .inl ⟨_, _, rfl, run_takeDeferred hK, ?_⟩⟩
    exact ⟨_, results_tmp rfl _ _ _, rfl, hB1.trans (belowK_b (w := w) (Nat.le_refl _) W D _ _ (by omega) hK rfl rfl)⟩
  case stop =>
    rintro D c pre W _ _ h _
    exact h.elim
end Go.Proofs.YtkbmolodljenjaaDoor

/- A machine's first states. Our own text. -/
namespace Go.Proofs.YtkbmolodljenjaaDoor
open Go.RowKit Go.Lib

/-- What a machine's block holds of its variables. -/
def MC (B : Nat) (g f : Nat → Nat) (n : Nat) (w : World) : Prop :=
  (∀ k, k < 3 → w.cell? ⟨B, k * 2, none⟩ = some (.int .i64 (g k)) ∧ w.cell? ⟨B, k * 2 + 1, none⟩ = some (.int .u8 (f k))) ∧ w.cell? ⟨B, 6, none⟩ = some (.int .i64 n)
theorem MC.below {B n N : Nat} {g f : Nat → Nat} {w w' : World} (h : MC B g f n w) (hb : Below N w w') (hB : B < N) : MC B g f n w' :=
  ⟨fun k hk => ⟨(hb.cell (p := ⟨B, k * 2, none⟩) hB).trans (h.1 k hk).1, (hb.cell (p := ⟨B, k * 2 + 1, none⟩) hB).trans (h.1 k hk).2⟩, (hb.cell (p := ⟨B, 6, none⟩) hB).trans h.2⟩

set_option maxRecDepth 100000 in
set_option maxHeartbeats 1000000 in
theorem first_any (B n : Nat) (g f : Nat → Nat) (h1 : 1 ≤ n) (hn : n ≤ 3) (hf : ∀ k, f k < 16) (w : World) (hm : MC B g f n w) (hB : B < w.heap.size) (hT : Tab w) :
    Calls Tryd.prog 27 #[.pointer (some ⟨B, 0, none⟩)] w fun e w' => e = .returned (.int .u64 (frs f n : Nat)) ∧ Below w.heap.size w w' := by
  have h0w : 0 < w.heap.size := by omega
  have hc := hm.2
  go_enter Tryd.func27, Tryd.ntmps27
  go_wp2_with fail
  refine (with64_any 0 0 (by decide) (by decide) w).mono ?_
  rintro e w' ⟨rfl, rfl⟩
  have n0 : (0 : Int) ≤ (n : Int) := by omega
  have n3 : (n : Int) ≤ 3 := by omega
  go_wp2_with fail
  go_quiet (fail)
  go_wp2_with fail
  go_loopg [3, 16] n (fun gk av iv wr => ∃ i : Nat, iv = .int .i64 i ∧ i + gk = n ∧ av = .int .u64 (frs f i : Nat) ∧ Below w'.heap.size w' wr)
  case atStart => exact ⟨0, rfl, by omega, rfl, below_drewN (Below.refl _ _) _⟩
  case round =>
    obtain ⟨i, rfl, hik, rfl, hBr⟩ := hrel
    by_cases hlt : i < n
    · have hlt' : (i : Int) < (n : Int) := by omega
      have i0 : (0 : Int) ≤ (i : Int) := by omega
      obtain ⟨g', rfl⟩ : ∃ g', gk = g' + 1 := ⟨gk - 1, by omega⟩
      obtain ⟨c1, c2⟩ := (hm.below hBr hB).1 i (by omega)
      have hfi := hf i
      have hfl := frs_lt f i (by omega)
      have hsz := hBr.size
      go_wp2_with fail
      have hBa := hBr.alloc hsz (.cells #[.int .i64 (g i), .int .u8 (f i)] 80)
      rw [p64] at hfl
      refine (spread_any (frs f i) i (f i) hfl (by omega) hfi _ (hT.below hBa h0w) (by simp)).mono ?_
      rintro e w2 ⟨rfl, hb2⟩
      have hB2 : Below w'.heap.size w' w2 := hBa.trans (hb2.mono (by simp; omega))
      have hs : spr (frs f i) i (f i) = frs f (i + 1) := rfl
      rw [hs]
      clear hs
      go_wp2
      go_roundg g'
      case measure => exact Nat.lt_succ_self _
      case rel => exact ⟨i + 1, by go_num, by omega, rfl, hB2⟩
    · obtain rfl : i = n := by omega
      have hlt' : ¬ (i : Int) < (i : Int) := by omega
      go_wp2
      go_ret
      exact ⟨rfl, hBr⟩
end Go.Proofs.YtkbmolodljenjaaDoor

/- The texts of a set of states. Our own text. -/
namespace Go.Proofs.YtkbmolodljenjaaDoor
open Go.RowKit Go.Shelf Go.Lib
attribute [local go_sem] Oper.semAt_some

/-- An append in a region that draws its order, inside a fence. -/
theorem step_append_in {F : Fence} {n : Nat} {P : Program} {ops : Array Oper} {o : Oper} {a : Act} {w : World} {K : Act → World → Prop} {Q : Exit → Act → World → Prop} {E : Prop}
    (hg : o.guard = none) (s x : Operand) (t : TypeId) (hop : o.op = Op.call { callee := Callee.builtin Builtin.append, args := #[s, x], argTypes := #[t, t] })
    (base : Nat) (e : TypeId) (i : TypeInfo) (z : Value) (size bytes : Nat) (h1 : P.underlying t = some (.slice e)) (h2 : P.info? e = some i) (h3 : i.zero = some z) (h4 : i.size = size) (h5 : i.bytes = bytes) (h6 : z.cells.size = size) (h7 : 0 < size)
    (v : Value) (k : Nat) (xs : List Value) (hs : a.eval s = v) (hown : w.ownsRow base e size v k xs) (ad : Addr) (m c : Nat) (news : List Value) (hx : a.eval x = .slice (some ad) m c) (hn : news.length = m * size)
    (hc : ∀ j u, news[j]? = some u → w.cell? (ad.add j) = some u) (h1c : ∀ u ∈ news, u.oneCell' = true) (b1 : k + m ≤ maxLen) (b2 : (k + m) * bytes ≤ 140737488355328) (b3 : base ≤ w.heap.size)
    (hK : ∀ v' w', w'.ownsRow base e size v' (k + m) (xs ++ news) → w.grownBy w' v.ownBlock → K (a.put o.dst v') w') :
    if Region.wanted o (yielded ops a.tmps) = true then Oper.wpIn F n P o a w K Q else E := by
  have hw : Region.wanted o (yielded ops a.tmps) = true := by simp [Region.wanted, hg]
  rw [if_pos hw]
  obtain ⟨v', w', hrun, r1, r2, r3⟩ := run_append_own (P := P) w base t o.type e i z size bytes h1 h2 h3 h4 h5 h6 h7 v k xs hown ad m c news hn hc h1c b1 b2 b3
  unfold Oper.wpIn
  refine ⟨?_, ?_⟩
  · simp [Oper.about, hop, resolve, Target.leads, Sem.run_pure]
  · rw [Oper.semAt_plain F _ _ (by rw [hop]; intro c hc'; cases hc')]
    simp [execOp, hop, resolve, invoke, builtin, hs, hx, hrun, Result.andThen]
    exact hK v' w' r1 r2

theorem keeps_of_below {W W' : World} (h : Below W.heap.size W W') : KeepsOthers W W' :=
  ⟨h.size, fun k _ hk _ => (h.block k (Array.getElem?_eq_some_iff.1 hk).1).trans hk⟩

end Go.Proofs.YtkbmolodljenjaaDoor
namespace Go.RowKit
open Go.Proofs.YtkbmolodljenjaaDoor
theorem Below.keepsRow {w w' : World} (h : Below w.heap.size w w') {base e z n : Nat} {v : Value} {xs : List Value} (ho : w.ownsRow base e z v n xs) : w'.ownsRow base e z v n xs := by
  refine ⟨ho.1, ?_⟩
  rcases ho.2 with hn | ⟨g, cap, cur, rfl, hb, hg, r⟩
  · exact .inl hn
  · exact .inr ⟨g, cap, cur, rfl, hb, by rw [h.block g (lt_of_block hg)]; exact hg, r⟩
end Go.RowKit
namespace Go.Proofs.YtkbmolodljenjaaDoor
open Go.RowKit Go.Shelf Go.Lib
attribute [local go_sem] Oper.semAt_some

set_option maxRecDepth 100000 in
set_option maxHeartbeats 4000000 in
theorem texts_any (B m n : Nat) (g f : Nat → Nat) (hm : m < 18446744073709551616) (h1 : 1 ≤ n) (hn : n ≤ 3) (w : World) (hM : MC B g f n w) (hB : B < w.heap.size) (hT : Tab w) :
    Calls Tryd.prog 26 #[.pointer (some ⟨B, 0, none⟩), .int .u64 m] w fun e w' => (∃ v, e = .returned v ∧ w'.ownsRow w.heap.size 9 1 v (mem m).length (strs ((mem m).map (fun i => digs n i.val)))) ∧ Below w.heap.size w w' := by
  have h0w : 0 < w.heap.size := by omega
  obtain ⟨i0, hi, hz0, hz1, hz2⟩ := info_parts info9
  refine (callsIn_wide (n := 6)).1 ?_
  refine callsIn_of_wp_marks Tryd.func26 rfl trivial ?_ rfl
  simp only [Tryd.ntmps26, List.size_toArray, List.length_cons, List.length_nil, Nat.reduceAdd, Nat.reduceSub, Array.replicate_succ, Array.replicate_zero, List.push_toArray, List.append_toArray, List.nil_append, List.cons_append]
  gi_wp2
  refine ⟨trivial, ?_⟩
  refine (callsIn_wide.2 (members35 m _)).mono ?_
  rintro e w' ⟨rfl, rfl⟩
  gi_wp2
  have bP := ((Boxed.new w 47 (.pointer (some ⟨B, 0, none⟩))).alloc (.cells #[.slice none 0 0] 29)).alloc (.cells #[.int .u64 m] 59)
  have bO := (Boxed.new (w.alloc (.cells #[.pointer (some ⟨B, 0, none⟩)] 47)) 29 (.slice none 0 0)).alloc (.cells #[.int .u64 m] 59)
  have bM := Boxed.new ((w.alloc (.cells #[.pointer (some ⟨B, 0, none⟩)] 47)).alloc (.cells #[.slice none 0 0] 29)) 59 (.int .u64 m)
  simp only [World.size_alloc] at bP bO bM
  have hB0 : Below w.heap.size w (((w.alloc (.cells #[.pointer (some ⟨B, 0, none⟩)] 47)).alloc (.cells #[.slice none 0 0] 29)).alloc (.cells #[.int .u64 m] 59)) := (((Below.refl _ w).alloc (Nat.le_refl _) _).alloc (by simp) _).alloc (by simp; omega) _
  have hsz : (((w.alloc (.cells #[.pointer (some ⟨B, 0, none⟩)] 47)).alloc (.cells #[.slice none 0 0] 29)).alloc (.cells #[.int .u64 m] 59)).heap.size = w.heap.size + 3 := by simp
  generalize ((w.alloc (.cells #[.pointer (some ⟨B, 0, none⟩)] 47)).alloc (.cells #[.slice none 0 0] 29)).alloc (.cells #[.int .u64 m] 59) = W0 at *
  refine wpIn_rangeFunc_ownH (α := Fin 64) rfl (by decide) (gf := 67) (lb := #[.pointer (some ⟨w.heap.size + 1 + 1, 0, none⟩)]) rfl trivial (enters_of Tryd.func67 (by kernel_rfl) rfl)
    (stops52 5 (by decide) (w.heap.size + 1 + 1) w.heap.size m hm h0w W0 (by omega) (by omega) bM.cell (hT.below hB0 h0w)) belowK_t (belowK_b (by omega)) (Below.refl _ _) (fun _ => rfl)
    (fun pre W => ((∃ v, Boxed W (w.heap.size + 1) 29 v ∧ W.ownsRow w.heap.size 9 1 v pre.length (strs (pre.map (fun i => digs n i.val))) ∧ True) ∧ Boxed W w.heap.size 47 (.pointer (some ⟨B, 0, none⟩))) ∧ Below w.heap.size w W)
    (fun _ _ _ => False)
    (OwnFrom.and (OwnFrom.and (Own.from (holdsRow_own w.heap.size (w.heap.size + 1) 29 9 1 (fun pre : List (Fin 64) => pre.length) (fun pre => strs (pre.map (fun i => digs n i.val))) (fun _ _ => True)) _) (Own.from (boxed_own _ _ _) _)) (ownFrom_below (Nat.le_refl _) (by omega)))
    (fun _ _ _ _ _ hs _ _ => hs)
    ⟨⟨⟨_, bO, World.ownsRow_nil _ _ _ _, trivial⟩, bP⟩, hB0⟩
    (fun x a' _ => a' = { tmps := #[.pointer (some ⟨B, 0, none⟩), .int .u64 m, .pointer (some ⟨w.heap.size, 0, none⟩), undef, .slice none 0 0, .pointer (some ⟨w.heap.size + 1, 0, none⟩), .int .i64 (x.val : Nat), .int .u64 m, .func (.func 67) #[] #[.pointer (some ⟨w.heap.size + 1 + 1, 0, none⟩)], .int .i64 (x.val : Nat), undef, undef, undef, undef, undef, undef, undef, undef], defers := [] })
    (fun _ _ _ _ _ _ hs _ _ => hs)
    ?assign ?body ?done ?stop
  case assign =>
    rintro l pre x W K hi hK
    gi_wp2
    exact hK _ _ (KeepsFrom.refl _ _) (Below.refl _ _) hi rfl
  case body =>
    rintro l pre x a' W hl ⟨r, hr⟩ ⟨⟨⟨v, bO1, hrow, -⟩, bP1⟩, hB1⟩ rfl hlt
    obtain ⟨ao, cap, rfl⟩ : ∃ ao cap, v = .slice ao pre.length cap := by
      rcases hrow.2 with ⟨rfl, h0⟩ | ⟨g, cap, cur, rfl, _⟩
      · exact ⟨none, 0, by rw [h0]⟩
      · exact ⟨_, cap, rfl⟩
    have cO := bO1.cell
    have cP := bP1.cell
    have hx := x.2
    have cN := (hM.below hB1 hB).2
    have hsW := hB1.size
    have hlO := bO1.lt
    have hxw : IntKind.u8.wrap (x.val : Int) = (x.val : Int) := by simp [IntKind.wrap, IntKind.signed, IntKind.bits]; omega
    have h36 : CallsIn (Fence.wide.inRound l) 3 Tryd.prog 48 #[.pointer (some ⟨B, 0, none⟩), .int .u8 (x.val : Nat)] W.drew fun e w' => e = .returned (.string (txtL (digs n x.val))) ∧ Below W.drew.heap.size W.drew w' := CallsIn.inRound l (callsIn_wide.2 (text_any B x.val n hx h1 hn W.drew cN))
    have HR : Put (strs ((pre ++ [x]).map (fun i => digs n i.val)) = strs (pre.map (fun i => digs n i.val)) ++ [.string (txtL (digs n x.val))]) := ⟨by simp [strs]⟩
    gi_wp2
    have HQ : Put (∀ (a1 : Act) (w2 w5 : World) (g5 cap5 : Nat), Below W.heap.size W w2 → Boxed (w5.setCell ⟨w.heap.size + 1, 0, none⟩ (.slice (some ⟨g5, 0, none⟩) (pre.length + 1) cap5)) (w.heap.size + 1) 29 (.slice (some ⟨g5, 0, none⟩) (pre.length + 1) cap5) →
        (w5.setCell ⟨w.heap.size + 1, 0, none⟩ (.slice (some ⟨g5, 0, none⟩) (pre.length + 1) cap5)).ownsRow w.heap.size 9 1 (.slice (some ⟨g5, 0, none⟩) (pre.length + 1) cap5) (pre.length + 1) (strs (pre.map (fun i => digs n i.val)) ++ [.string (txtL (digs n x.val))]) →
        Boxed (w5.setCell ⟨w.heap.size + 1, 0, none⟩ (.slice (some ⟨g5, 0, none⟩) (pre.length + 1) cap5)) w.heap.size 47 (.pointer (some ⟨B, 0, none⟩)) →
        KeepsOthers w2 (w5.setCell ⟨w.heap.size + 1, 0, none⟩ (.slice (some ⟨g5, 0, none⟩) (pre.length + 1) cap5)) → Below w.heap.size w2 (w5.setCell ⟨w.heap.size + 1, 0, none⟩ (.slice (some ⟨g5, 0, none⟩) (pre.length + 1) cap5)) →
        ownPostG W0.heap.size (Below w.heap.size) (fun pre W => ((∃ v, Boxed W (w.heap.size + 1) 29 v ∧ W.ownsRow w.heap.size 9 1 v pre.length (strs (pre.map (fun i => digs n i.val))) ∧ True) ∧ Boxed W w.heap.size 47 (.pointer (some ⟨B, 0, none⟩))) ∧ Below w.heap.size w W) (fun _ _ _ => False) (pre ++ [x]) W .normal a1 (w5.setCell ⟨w.heap.size + 1, 0, none⟩ (.slice (some ⟨g5, 0, none⟩) (pre.length + 1) cap5))) := by
      refine ⟨fun a1 w2 w5 g5 cap5 q1 q2 q3 q4 q5 q6 => ?_⟩
      have q7 : Below w.heap.size W (w5.setCell ⟨w.heap.size + 1, 0, none⟩ (.slice (some ⟨g5, 0, none⟩) (pre.length + 1) cap5)) := (q1.mono hsW).trans q6
      exact ⟨((keeps_of_below q1).trans q5).from _, q7, ⟨⟨_, q2, by rw [HR.out, List.length_append]; exact q3, trivial⟩, q4⟩, hB1.trans q7⟩
    have HB : Put (_ ∧ _ ∧ _) := ⟨bO1, bP1, hrow⟩
    clear bO1 bP1 hrow hB0 bP bO bM hr hl HR hM hT
    refine wpIn_region_any (by kernel_rfl) ?_
    change wpAnyIn _ _ _ _ _ _ _ _ _ (World.drew _)
    repeat' first
      | with_reducible exact AllReadyIn.nil
      | with_reducible refine AllReadyIn.cons rfl (fun K hK => ?_) ?_
      | refine wpAnyIn_ready (rs := [0, 1, 2]) (by decide +kernel) (by simp) ?_
      | refine wpAnyIn_ready (rs := [0, 2]) (by decide +kernel) (by simp) ?_
      | refine wpAnyIn_ready (rs := [0, 1, 3]) (by decide +kernel) (by simp) ?_
      | refine wpAnyIn_ready (rs := [0, 3]) (by decide +kernel) (by simp) ?_
      | refine wpAnyIn_ready (rs := [0, 1]) (by decide +kernel) (by simp) ?_
      | refine wpAnyIn_ready (rs := [0, 4]) (by decide +kernel) (by simp) ?_
      | refine wpAnyIn_ready (rs := [0, 5]) (by decide +kernel) (by simp) ?_
      | refine wpAnyIn_ready (rs := [0]) (by decide +kernel) (by simp) ?_
      | refine wpAnyIn_ready (rs := [1, 2]) (by decide +kernel) (by simp) ?_
      | refine wpAnyIn_ready (rs := [2]) (by decide +kernel) (by simp) ?_
      | refine wpAnyIn_ready (rs := [1, 3]) (by decide +kernel) (by simp) ?_
      | refine wpAnyIn_ready (rs := [3]) (by decide +kernel) (by simp) ?_
      | refine wpAnyIn_ready (rs := [1]) (by decide +kernel) (by simp) ?_
      | refine wpAnyIn_ready (rs := [4]) (by decide +kernel) (by simp) ?_
      | refine wpAnyIn_ready (rs := [5]) (by decide +kernel) (by simp) ?_
      | refine wpAnyIn_ready (rs := [6]) (by decide +kernel) (by simp) ?_
      | refine wpAnyIn_ready (rs := [7]) (by decide +kernel) (by simp) ?_
      | (go_simp
         refine hK _ _ ?_
         clear hK K)
      | (go_simp
         refine ⟨trivial, ?_⟩
         refine h36.mono ?_
         rintro e w2 ⟨rfl, hb2⟩
         have hb2' : Below W.heap.size W w2 := ⟨hb2.os, hb2.tape, hb2.output, hb2.size, hb2.block⟩
         obtain ⟨bO1, bP1, hrow⟩ := HB.out
         have bO2 : Boxed w2 (w.heap.size + 1) 29 (.slice ao pre.length cap) := (hb2'.block _ bO1.lt).trans bO1
         have bP2 : Boxed w2 w.heap.size 47 (.pointer (some ⟨B, 0, none⟩)) := (hb2'.block _ bP1.lt).trans bP1
         have hrow2 : w2.ownsRow w.heap.size 9 1 (.slice ao pre.length cap) pre.length (strs (pre.map (fun i => digs n i.val))) := hb2'.keepsRow hrow
         have hsz2 : w.heap.size ≤ w2.heap.size := Nat.le_trans hsW hb2'.size
         have cO2 := bO2.cell
         have cO3 := (bO2.alloc (.cells #[.string (txtL (digs n x.val))] 9)).cell
         have cP2 := bP2.cell
         clear bO1 bP1 hrow hb2
         refine hK _ _ ?_
         clear hK K)
      | (refine step_append_in (w := w2.alloc (.cells #[.string (txtL (digs n x.val))] 9)) rfl _ _ 29 rfl w.heap.size 9 i0 _ 1 16 Tryd.underlying29 hi hz0 hz1 hz2 rfl Nat.one_pos (.slice ao pre.length cap) pre.length (strs (pre.map (fun i => digs n i.val))) rfl (hrow2.alloc _) ⟨w2.heap.size, 0, none⟩ 1 1 [.string (txtL (digs n x.val))] rfl rfl (cell_one_new _ _ _) (by simp [Value.oneCell']) (by unfold maxLen; omega) (by omega) (by have := hsz2; simp; omega) ?_
         intro v' w5 hown' hgrow
         obtain ⟨g5, cap5, rfl⟩ := ownsRow_succ hown'
         obtain ⟨hv1, hv2, hr2, hk2, hb5⟩ := bO2.appended (by decide) hrow2 hsz2 (by omega) hown' hgrow
         have hv3 : Boxed (w5.setCell ⟨w.heap.size + 1, 0, none⟩ (.slice (some ⟨g5, 0, none⟩) (pre.length + 1) cap5)) w.heap.size 47 (.pointer (some ⟨B, 0, none⟩)) := ((bP2.alloc _).kept hgrow (bP2.not_row (by decide) hrow2)).other (by omega) _
         have hc1 := hv1.cell
         have hf1 := hv1.frozen
         have HF : Put (_ ∧ _ ∧ _ ∧ _ ∧ _) := ⟨hv2, hr2, hv3, hk2, hb5⟩
         clear hv1 hv2 hr2 hv3 hk2 hb5 hown' hgrow
         refine hK _ _ ?_
         clear hK K)
    all_goals
      refine wpAnyIn_done (by kernel_rfl) ?_ _
      obtain ⟨q2, q3, q4, q5, q6⟩ := HF.out
      exact HQ.out { tmps := #[], defers := [] } w2 w5 g5 cap5 hb2' q2 q3 q4 q5 q6
  case done =>
    rintro D zs W hD rfl ⟨⟨⟨v, bO1, hrow, -⟩, bP1⟩, hB1⟩ hK
    have cO := bO1.cell
    obtain ⟨ao, cap, rfl⟩ : ∃ ao cap, v = .slice ao (mem m).length cap := by
      rcases hrow.2 with ⟨rfl, h0⟩ | ⟨g, cap, cur, rfl, _⟩
      · exact ⟨none, 0, by rw [h0]⟩
      · exact ⟨_, cap, rfl⟩
    gi_wp2
    refine ⟨by simp, .inl ⟨_, _, rfl, run_takeDeferred hK, ?_⟩⟩
    exact ⟨_, results_tmp rfl _ _ _, ⟨_, rfl, ownsRow_putObj hrow _ hK rfl⟩, hB1.trans (belowK_b (w := w) (Nat.le_refl _) W D _ _ (by omega) hK rfl rfl)⟩
  case stop =>
    rintro D c pre W _ _ h _
    exact h.elim
end Go.Proofs.YtkbmolodljenjaaDoor

/- A machine's next states, whatever its rules mean. Our own text. -/
namespace Go.Proofs.YtkbmolodljenjaaDoor
open Go.RowKit Go.Lib

/-- A function value that maps a state to a value, in every world from w0 on. -/
def Fn1 (w0 : World) (v : Value) (R : Nat → Value) : Prop :=
  ∃ (fn : Nat) (caps : Array Value), v = .func (.func fn) #[] caps ∧ (∀ args w, (callFunc fn args).run Tryd.prog w = .ok (.enter fn args) w) ∧
    ∀ W, Below w0.heap.size w0 W → ∀ x, x < 64 → Calls Tryd.prog fn (#[.int .u8 (x : Nat)] ++ caps) W fun e W' => e = .returned (R x) ∧ Below W.heap.size W W'
theorem Fn1.below {w0 w1 : World} {v : Value} {R : Nat → Value} (h : Fn1 w0 v R) (hb : Below w0.heap.size w0 w1) : Fn1 w1 v R := by
  obtain ⟨fn, caps, h1, h2, h3⟩ := h
  exact ⟨fn, caps, h1, h2, fun W hW => h3 W (hb.trans (hW.mono hb.size))⟩
/-- Two lists, one by one. -/
def All2 {α β : Type} (R : α → β → Prop) : List α → List β → Prop
  | [], [] => True
  | a :: l, b :: m => R a b ∧ All2 R l m
  | _, _ => False
theorem All2.nil {α β : Type} {R : α → β → Prop} : All2 R [] [] := trivial
theorem All2.cons {α β : Type} {R : α → β → Prop} {a : α} {b : β} {l : List α} {m : List β} (h : R a b) (t : All2 R l m) : All2 R (a :: l) (b :: m) := ⟨h, t⟩
theorem All2.length {α β : Type} {R : α → β → Prop} : ∀ {l : List α} {m : List β}, All2 R l m → l.length = m.length
  | [], [], _ => rfl
  | _ :: _, _ :: _, h => by simp [All2.length (R := R) h.2]
  | [], _ :: _, h => h.elim
  | _ :: _, [], h => h.elim
theorem All2.get {α β : Type} {R : α → β → Prop} : ∀ {l : List α} {m : List β}, All2 R l m → ∀ i (h1 : i < l.length) (h2 : i < m.length), R l[i] m[i]
  | [], [], _, i, h1, _ => absurd h1 (Nat.not_lt_zero i)
  | _ :: _, _ :: _, h, 0, _, _ => h.1
  | _ :: _, _ :: _, h, i + 1, h1, h2 => All2.get (R := R) h.2 i (by simpa using h1) (by simpa using h2)
  | [], _ :: _, h, _, _, _ => h.elim
  | _ :: _, [], h, _, _, _ => h.elim
theorem All2.mono {α β : Type} {R S : α → β → Prop} (hs : ∀ a b, R a b → S a b) : ∀ {l : List α} {m : List β}, All2 R l m → All2 S l m
  | [], [], _ => All2.nil
  | _ :: _, _ :: _, h => All2.cons (hs _ _ h.1) (All2.mono (R := R) hs h.2)
  | [], _ :: _, h => h.elim
  | _ :: _, [], h => h.elim
theorem All2.snoc {α β : Type} {R : α → β → Prop} {a : α} {b : β} (hr : R a b) : ∀ {l : List α} {m : List β}, All2 R l m → All2 R (l ++ [a]) (m ++ [b])
  | [], [], _ => All2.cons hr All2.nil
  | _ :: _, _ :: _, h => All2.cons h.1 (All2.snoc (R := R) hr h.2)
  | [], _ :: _, h => h.elim
  | _ :: _, [], h => h.elim

/-- What the rules make of a state together. -/
def nxU (ρs : List (Nat → Nat)) (x : Nat) : Nat := ρs.foldl (fun a ρ => a ||| ρ x) 0
def nxS (ρs : List (Nat → Nat)) (x : Nat) : Nat := if nxU ρs x = 0 then 2 ^ x else nxU ρs x
theorem nxU_snoc (ρs : List (Nat → Nat)) (k : Nat) (h : k < ρs.length) (x : Nat) : nxU (ρs.take (k + 1)) x = nxU (ρs.take k) x ||| ρs[k] x := by
  have e : ρs.take (k + 1) = ρs.take k ++ [ρs[k]] := by rw [List.take_add_one, List.getElem?_eq_getElem h]; rfl
  rw [e]; unfold nxU; rw [List.foldl_append]; rfl
theorem nxU_lt {x : Nat} : ∀ (ρs : List (Nat → Nat)), (∀ ρ ∈ ρs, ρ x < 18446744073709551616) → ∀ a, a < 18446744073709551616 → ρs.foldl (fun a ρ => a ||| ρ x) a < 18446744073709551616
  | [], _, _, ha => ha
  | ρ :: ρs, h, a, ha => nxU_lt ρs (fun r hr => h r (by simp [hr])) _ (by rw [← p64] at *; exact Nat.or_lt_two_pow ha (h ρ (by simp)))

set_option maxRecDepth 100000 in
set_option maxHeartbeats 1000000 in
theorem next_any (B x : Nat) (hx : x < 64) (w : World) (ao : Option Addr) (cap base : Nat) (vals : List Value) (ρs : List (Nat → Nat)) (_hB : B < w.heap.size) (h8 : vals.length ≤ 200)
    (hc : w.cell? ⟨B, 7, none⟩ = some (.slice ao vals.length cap)) (hrow : w.ownsRow base 120 1 (.slice ao vals.length cap) vals.length vals)
    (hm : All2 (fun v ρ => Fn1 w v (fun x => .int .u64 (ρ x : Nat))) vals ρs) (hlt : ∀ ρ ∈ ρs, ρ x < 18446744073709551616) :
    Calls Tryd.prog 31 #[.pointer (some ⟨B, 0, none⟩), .int .u8 x] w fun e w' => e = .returned (.int .u64 (nxS ρs x : Nat)) ∧ Below w.heap.size w w' := by
  have HROW : Put (_) := ⟨hrow⟩
  have hlen := hm.length
  clear hrow
  go_enter Tryd.func31, Tryd.ntmps31
  go_wp2
  go_loopg [5, 13] vals.length (fun gk av iv wr => ∃ i : Nat, iv = .int .i64 i ∧ i + gk = vals.length ∧ av = .int .u64 (nxU (ρs.take i) x : Nat) ∧ Below w.heap.size w wr)
  case atStart => exact ⟨0, rfl, by omega, rfl, Below.refl _ _⟩
  case round =>
    obtain ⟨i, rfl, hik, rfl, hBr⟩ := hrel
    have hl1 : nxU (ρs.take i) x < 18446744073709551616 := nxU_lt _ (fun ρ h => hlt ρ (List.mem_of_mem_take h)) 0 (by decide)
    by_cases hi : i < vals.length
    · have hi' : (i : Int) < (vals.length : Int) := by omega
      have i0 : (0 : Int) ≤ (i : Int) := by omega
      obtain ⟨g', rfl⟩ : ∃ g', gk = g' + 1 := ⟨gk - 1, by omega⟩
      have hir : i < ρs.length := by omega
      obtain ⟨fn, caps, hvi, hent, hcall⟩ := hm.get i hi hir
      have e1 : vals = vals.flatMap (fun v => [v]) := by simp
      have hr1 := HROW.out
      rw [e1] at hr1
      have hr2 : w.ownsRow base 120 1 (.slice ao vals.length cap) vals.length (vals.flatMap (fun v => [v])) := by rw [← e1]; exact HROW.out
      obtain ⟨g, rfl, hg1, hg2, hg3, hcell⟩ := row_at (z := 1) (fun _ => rfl) hr2 (by omega)
      have c0 := (hBr.cell (p := ⟨g, i * 1 + 0, none⟩) hg2).trans (hcell i hi 0 (by omega))
      simp only [List.getElem?_cons_zero, Nat.mul_one, Nat.add_zero] at c0
      rw [hvi] at c0
      have hcl : Calls Tryd.prog fn (#[.int .u8 (x : Nat)] ++ caps) wr fun e W' => e = .returned (.int .u64 ((ρs[i] x : Nat) : Int)) ∧ Below wr.heap.size wr W' := hcall wr hBr x hx
      have hl2 := hlt _ (List.getElem_mem hir)
      have hsn := nxU_snoc ρs i hir x
      have hor := bits_or_u64_nat (nxU (ρs.take i) x) (ρs[i] x) hl1 hl2
      generalize ρs[i] x = m at hcl hl2 hsn hor
      generalize nxU (ρs.take i) x = a at *
      have HSN : Put (_ = _) := ⟨hsn⟩
      have HOR : Put (_ = _) := ⟨hor⟩
      clear hcell hr1 hr2 e1 hvi hcall hsn hor
      go_wp2_with fail
      refine hcl.mono ?_
      rintro e w3 ⟨rfl, hb3⟩
      have hB3 : Below w.heap.size w w3 := hBr.trans (hb3.mono hBr.size)
      clear hcl hb3 hBr
      go_wp2
      go_roundg g'
      case measure => exact Nat.lt_succ_self _
      case rel => exact ⟨i + 1, by go_num, by omega, by rw [HSN.out, HOR.out], hB3⟩
    · obtain rfl : i = vals.length := by omega
      have hi' : ¬ ((vals.length : Int) < (vals.length : Int)) := by omega
      rw [hlen, List.take_length] at hl1 ⊢
      have hS : nxS ρs x = if nxU ρs x = 0 then 2 ^ x else nxU ρs x := rfl
      generalize nxU ρs x = U at hl1 hS
      have HS : Put (_ = _) := ⟨hS⟩
      clear hS
      by_cases hU : U = 0
      · subst hU
        go_wp2_with fail
        refine (with64_any 0 x (by decide) hx wr).mono ?_
        rintro e w3 ⟨rfl, rfl⟩
        go_wp2
        go_ret
        exact ⟨by have h2 : nxS ρs x = 2 ^ x := (by have := HS.out; simpa using this); rw [h2]; simp, hBr⟩
      · have hne : ((U : Int) == 0) = false := by simp; omega
        go_wp2
        go_ret
        exact ⟨by rw [HS.out, if_neg hU]; rfl, hBr⟩
end Go.Proofs.YtkbmolodljenjaaDoor
