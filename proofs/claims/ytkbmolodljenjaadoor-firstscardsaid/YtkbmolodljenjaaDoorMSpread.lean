/- Spreading a set of states over values of a variable. Our own text. -/
import Derived.Test.YtkbmolodljenjaaDoorMIter
import Derived.Stop.RegionWithIn
namespace Go.Proofs.YtkbmolodljenjaaDoor
open Go.RowKit Go.Shelf Go.Lib
attribute [local go_sem] Oper.semAt_some

set_option maxRecDepth 100000 in
set_option maxHeartbeats 4000000 in
theorem spread_any (m k f : Nat) (hm : m < 18446744073709551616) (hk : k < 3) (hf : f < 16) (w : World) (hT : Tab w) (h0w : 0 < w.heap.size) :
    Calls Tryd.prog 50 #[.int .u64 m, .int .i64 k, .int .u8 f] w fun e w' => e = .returned (.int .u64 (spr m k f : Nat)) ∧ Below w.heap.size w w' := by
  refine (callsIn_wide (n := 6)).1 ?_
  refine callsIn_of_wp_marks Tryd.func50 rfl trivial ?_ rfl
  simp only [Tryd.ntmps50, List.size_toArray, List.length_cons, List.length_nil, Nat.reduceAdd, Nat.reduceSub, Array.replicate_succ, Array.replicate_zero, List.push_toArray, List.append_toArray, List.nil_append, List.cons_append]
  gi_wp2
  refine ⟨trivial, ?_⟩
  refine (callsIn_wide.2 (members35 m _)).mono ?_
  rintro e w' ⟨rfl, rfl⟩
  gi_wp2
  have bN := (((Boxed.new w 3 (.int .i64 k)).alloc (.cells #[.int .u8 f] 78)).alloc (.cells #[.int .u64 0] 59)).alloc (.cells #[.int .u64 m] 59)
  have bF := ((Boxed.new (w.alloc (.cells #[.int .i64 k] 3)) 78 (.int .u8 f)).alloc (.cells #[.int .u64 0] 59)).alloc (.cells #[.int .u64 m] 59)
  have bO := (Boxed.new ((w.alloc (.cells #[.int .i64 k] 3)).alloc (.cells #[.int .u8 f] 78)) 59 (.int .u64 0)).alloc (.cells #[.int .u64 m] 59)
  have bM := Boxed.new (((w.alloc (.cells #[.int .i64 k] 3)).alloc (.cells #[.int .u8 f] 78)).alloc (.cells #[.int .u64 0] 59)) 59 (.int .u64 m)
  simp only [World.size_alloc] at bN bF bO bM
  have hB0 : Below w.heap.size w ((((w.alloc (.cells #[.int .i64 k] 3)).alloc (.cells #[.int .u8 f] 78)).alloc (.cells #[.int .u64 0] 59)).alloc (.cells #[.int .u64 m] 59)) := ((((Below.refl _ w).alloc (Nat.le_refl _) _).alloc (by simp) _).alloc (by simp; omega) _).alloc (by simp; omega) _
  have hsz : ((((w.alloc (.cells #[.int .i64 k] 3)).alloc (.cells #[.int .u8 f] 78)).alloc (.cells #[.int .u64 0] 59)).alloc (.cells #[.int .u64 m] 59)).heap.size = w.heap.size + 4 := by simp
  generalize (((w.alloc (.cells #[.int .i64 k] 3)).alloc (.cells #[.int .u8 f] 78)).alloc (.cells #[.int .u64 0] 59)).alloc (.cells #[.int .u64 m] 59) = W0 at *
  refine wpIn_rangeFunc_ownH (α := Fin 64) rfl (by decide) (gf := 67) (lb := #[.pointer (some ⟨w.heap.size + 1 + 1 + 1, 0, none⟩)]) rfl trivial (enters_of Tryd.func67 (by kernel_rfl) rfl)
    (stops52 5 (by decide) (w.heap.size + 1 + 1 + 1) w.heap.size m hm h0w W0 (by omega) (by omega) bM.cell (hT.below hB0 h0w)) belowK_t (belowK_b (by omega)) (Below.refl _ _) (fun _ => rfl)
    (fun pre W => ((Boxed W (w.heap.size + 1 + 1) 59 (.int .u64 (sprP pre k (mem4 f) : Nat)) ∧ Boxed W w.heap.size 3 (.int .i64 k)) ∧ Boxed W (w.heap.size + 1) 78 (.int .u8 f)) ∧ Below w.heap.size w W)
    (fun _ _ _ => False)
    (OwnFrom.and (OwnFrom.and (OwnFrom.and (Own.from (boxed_own _ _ _) _) (Own.from (boxed_own _ _ _) _)) (Own.from (boxed_own _ _ _) _)) (ownFrom_below (Nat.le_refl _) (by omega)))
    (fun _ _ _ _ _ hs _ _ => hs)
    ⟨⟨⟨bO, bN⟩, bF⟩, hB0⟩
    (fun x a' W => ∃ Bx, w.heap.size + 1 + 1 < Bx ∧ Boxed W Bx 3 (.int .i64 (x.val : Nat)) ∧ a' = { tmps := #[.int .u64 m, .int .i64 k, .int .u8 f, undef, .pointer (some ⟨w.heap.size, 0, none⟩), .pointer (some ⟨w.heap.size + 1, 0, none⟩), .int .u64 0, .pointer (some ⟨w.heap.size + 1 + 1, 0, none⟩), .pointer (some ⟨Bx, 0, none⟩), undef, .int .u64 m, .func (.func 67) #[] #[.pointer (some ⟨w.heap.size + 1 + 1 + 1, 0, none⟩)], .int .i64 (x.val : Nat), undef, undef, undef, undef, undef, undef, undef, undef, undef, undef, undef, undef], defers := [] })
    (fun x a' _ X Y row hs hg hr => by obtain ⟨Bx, h1, h2, h3⟩ := hs; exact ⟨Bx, h1, boxed_own Bx 3 (fun (_ : Unit) => Value.int .i64 (x.val : Nat)) () X Y row h2 hg (fun r e => (hr r e).2), h3⟩)
    ?assign ?body ?done ?stop
  case assign =>
    rintro l pre x W K ⟨⟨⟨bO1, bN1⟩, bF1⟩, hB1⟩ hK
    gi_wp2
    exact hK _ _ ((KeepsOthers.alloc _ _).from _) ((Below.refl _ W).alloc hB1.size _) ⟨⟨⟨bO1.alloc _, bN1.alloc _⟩, bF1.alloc _⟩, hB1.alloc hB1.size _⟩ ⟨W.heap.size, bO1.lt, Boxed.new W 3 _, rfl⟩
  case body =>
    rintro l pre x a' W hl ⟨r, hr⟩ ⟨⟨⟨bO1, bN1⟩, bF1⟩, hB1⟩ ⟨Bx, hBx, bX, rfl⟩ hlt
    have cF := bF1.cell
    gi_wp2
    refine ⟨trivial, ?_⟩
    refine (CallsIn.inRound l (callsIn_wide.2 (members56 f _))).mono ?_
    rintro e w' ⟨rfl, rfl⟩
    gi_wp2
    have hsW := hB1.size
    have bV := Boxed.new W 78 (.int .u8 f)
    have hr' : (W.alloc (.cells #[.int .u8 f] 78)).heap[l]? = some (.loop r) := (Below.heap_alloc W _ l (Array.getElem?_eq_some_iff.1 hr).1).trans hr
    refine wpIn_rangeFunc_ownN (α := Fin 4) (l₀ := l) (r₀ := r) rfl hr' (by decide) (gf := 87) (lb := #[.pointer (some ⟨W.heap.size, 0, none⟩)]) rfl trivial (enters_of Tryd.func87 (by kernel_rfl) rfl)
      ((stops74 3 (by decide) W.heap.size w.heap.size f hf h0w _ (by simp) (by simp; omega) bV.cell ((hT.below hB1 h0w).below ((Below.refl _ W).alloc hsW _) h0w)).inRound l) belowK_t (belowK_b (by simp; omega)) (Below.refl _ _) (fun _ => rfl)
      (fun pre' W' => (((Boxed W' (w.heap.size + 1 + 1) 59 (.int .u64 (spr1 (sprP pre k (mem4 f)) x.val k pre' : Nat)) ∧ Boxed W' Bx 3 (.int .i64 (x.val : Nat))) ∧ Boxed W' w.heap.size 3 (.int .i64 k)) ∧ Boxed W' (w.heap.size + 1) 78 (.int .u8 f)) ∧ (Below w.heap.size W W' ∧ KeepsFrom W0.heap.size W W'))
      (fun _ _ _ => False)
      (OwnFrom.and (OwnFrom.and (OwnFrom.and (OwnFrom.and (Own.from (boxed_own _ _ _) _) (Own.from (boxed_own _ _ _) _)) (Own.from (boxed_own _ _ _) _)) (Own.from (boxed_own _ _ _) _)) (OwnFrom.and (ownFrom_below hsW (by first | (simp; done) | (simp; omega))) (ownFrom_keepsFrom (by first | (simp; done) | (simp; omega)))))
      (fun _ _ _ _ _ hs _ _ => hs)
      ⟨⟨⟨⟨bO1.alloc _, bX.alloc _⟩, bN1.alloc _⟩, bF1.alloc _⟩, (Below.refl _ W).alloc hsW _, (KeepsOthers.alloc _ _).from _⟩
      (fun y a'' _ => a'' = { tmps := #[.int .u64 m, .int .i64 k, .int .u8 f, undef, .pointer (some ⟨w.heap.size, 0, none⟩), .pointer (some ⟨w.heap.size + 1, 0, none⟩), .int .u64 0, .pointer (some ⟨w.heap.size + 1 + 1, 0, none⟩), .pointer (some ⟨Bx, 0, none⟩), .int .i64 (y.val : Nat), .int .u64 m, .func (.func 67) #[] #[.pointer (some ⟨w.heap.size + 1 + 1 + 1, 0, none⟩)], .int .i64 (x.val : Nat), .int .u8 f, .func (.func 87) #[] #[.pointer (some ⟨W.heap.size, 0, none⟩)], .int .i64 (y.val : Nat), undef, undef, undef, undef, undef, undef, undef, undef, undef], defers := [] })
      (fun _ _ _ _ _ _ hs _ _ => hs)
      ?assign2 ?body2 ?done2 ?stop2
    case assign2 =>
      rintro l2 pre' y W' K hi hK
      gi_wp2
      exact hK _ _ (KeepsFrom.refl _ _) (Below.refl _ _) hi rfl
    case body2 =>
      rintro l2 pre' y a'' W' _ _ ⟨⟨⟨⟨bO2, bX2⟩, bN2⟩, bF2⟩, hBW, hKF⟩ rfl _
      have cO := bO2.cell
      have fO := bO2.frozen
      have cX := bX2.cell
      have cN := bN2.cell
      have hlt := spr1_lt x.2 hk pre' (sprP pre k (mem4 f)) (sprP_lt hk _ _)
      have hsn := spr1_snoc (sprP pre k (mem4 f)) x.val k pre' y
      have hz := stW_lt x.2 hk y.2
      rw [p64] at hlt
      have HP : Put (_ ∧ _ ∧ _ ∧ _ ∧ _ ∧ _ ∧ _ ∧ _ ∧ _) := ⟨hsn, bO2, bX2, bN2, bF2, hBW, hKF, hBx, hsz⟩
      have hx := x.2
      have hy := y.2
      have hmix : Tryd.prog.follows .mixedOrders = true := by kernel_rfl
      clear hsn bO2 bX2 bN2 bF2 hBW hKF bN bF bO bM hB0 bO1 bN1 bF1 hB1 bX cF bV hr' hr hT
      have HQ : Put (∀ (a1 : Act) (mq : Nat), ownPostG (W.alloc (Obj.cells #[Value.int IntKind.u8 ↑f] 78)).heap.size (Below w.heap.size)
          (fun pre' W' => (((Boxed W' (w.heap.size + 1 + 1) 59 (.int .u64 (spr1 (sprP pre k (mem4 f)) x.val k pre' : Nat)) ∧ Boxed W' Bx 3 (.int .i64 (x.val : Nat))) ∧ Boxed W' w.heap.size 3 (.int .i64 k)) ∧ Boxed W' (w.heap.size + 1) 78 (.int .u8 f)) ∧ (Below w.heap.size W W' ∧ KeepsFrom W0.heap.size W W'))
          (fun _ _ _ => False) (pre' ++ [y]) W' .normal a1 ((W'.drewN mq).setCell ⟨w.heap.size + 1 + 1, 0, none⟩ (.int .u64 ((spr1 (sprP pre k (mem4 f)) x.val k pre' ||| 2 ^ stW x.val k y.val : Nat) : Int)))) := by
        refine ⟨fun a1 mq => ?_⟩
        obtain ⟨hsn, bO2, bX2, bN2, bF2, hBW, hKF, hBx, hsz⟩ := HP.out
        have hd : Below w.heap.size W' (W'.drewN mq) := ⟨rfl, rfl, rfl, Nat.le_refl _, fun _ _ => rfl⟩
        have kd : KeepsOthers W' (W'.drewN mq) := ⟨Nat.le_refl _, fun _ _ h _ => h⟩
        have bO3 : Boxed (W'.drewN mq) _ _ _ := bO2
        have bX3 : Boxed (W'.drewN mq) _ _ _ := bX2
        have bN3 : Boxed (W'.drewN mq) _ _ _ := bN2
        have bF3 : Boxed (W'.drewN mq) _ _ _ := bF2
        exact ⟨(kd.trans (KeepsOthers.setCell _ _ _)).from _, hd.setCell (p := ⟨w.heap.size + 1 + 1, 0, none⟩) (by show w.heap.size ≤ w.heap.size + 1 + 1; omega) _,
          ⟨⟨⟨⟨by rw [hsn]; exact bO3.set _, bX3.other (by omega) _⟩, bN3.other (by omega) _⟩, bF3.other (by omega) _⟩, hBW.trans (hd.setCell (p := ⟨w.heap.size + 1 + 1, 0, none⟩) (by show w.heap.size ≤ w.heap.size + 1 + 1; omega) _), hKF.trans ((kd.trans (KeepsOthers.setCell _ _ _)).from _)⟩⟩
      have h41 : ∀ w1, CallsIn ((Fence.wide.inRound l).inRound l2) 1 Tryd.prog 53 #[.int .u8 (x.val : Nat), .int .i64 k, .int .i64 (y.val : Nat)] w1 fun e w' => e = .returned (.int .u8 (stW x.val k y.val : Nat)) ∧ ∃ m, w' = w1.drewN m := fun w1 => CallsIn.inRound l2 (CallsIn.inRound l (callsIn_wide.2 (with_any x.val k y.val hx hk hy w1)))
      generalize spr1 (sprP pre k (mem4 f)) x.val k pre' = E at cO hlt HQ
      generalize stW x.val k y.val = z at hz HQ h41
      have h37 : ∀ w1, CallsIn ((Fence.wide.inRound l).inRound l2) 1 Tryd.prog 49 #[.int .u64 (E : Nat), .int .i64 (z : Nat)] w1 fun e w' => e = .returned (.int .u64 (E ||| 2 ^ z : Nat)) ∧ w' = w1 := fun w1 => CallsIn.inRound l2 (CallsIn.inRound l (callsIn_wide.2 (with64_any E z hlt hz w1)))
      generalize ownPostG (W.alloc (Obj.cells #[Value.int IntKind.u8 ↑f] 78)).heap.size (Below w.heap.size)
          (fun pre' W' => (((Boxed W' (w.heap.size + 1 + 1) 59 (.int .u64 (spr1 (sprP pre k (mem4 f)) x.val k pre' : Nat)) ∧ Boxed W' Bx 3 (.int .i64 (x.val : Nat))) ∧ Boxed W' w.heap.size 3 (.int .i64 k)) ∧ Boxed W' (w.heap.size + 1) 78 (.int .u8 f)) ∧ (Below w.heap.size W W' ∧ KeepsFrom W0.heap.size W W'))
          (fun _ _ _ => False) (pre' ++ [y]) W' = QQ at HQ ⊢
      clear HP hl hlt hsW hm hf h0w hsz
      generalize x.val = xv at *
      generalize y.val = yv at *
      generalize W.heap.size = c1 at *
      generalize w.heap.size + 1 + 1 = bo at *
      generalize w.heap.size + 1 = bf at *
      generalize w.heap.size = bn at *
      generalize E ||| 2 ^ z = E2 at *
      have hxw : IntKind.u8.wrap (xv : Int) = (xv : Int) := by simp [IntKind.wrap, IntKind.signed, IntKind.bits]; omega
      have hzw : IntKind.i64.wrap (z : Int) = (z : Int) := by simp [IntKind.wrap, IntKind.signed, IntKind.bits]; omega
      gi_wp2
      gi_region_with (first
        | (refine ⟨trivial, ?_⟩; with_reducible refine (h41 _).mono ?_; rintro e w' ⟨rfl, mq, rfl⟩)
        | (refine ⟨trivial, ?_⟩; with_reducible refine (h37 _).mono ?_; rintro e w' ⟨rfl, rfl⟩))
      all_goals exact HQ.out _ _
    case done2 =>
      rintro ys' W' rfl ⟨⟨⟨⟨bO2, bX2⟩, bN2⟩, bF2⟩, hBW, hKF⟩
      gi_wp2
      exact ⟨hKF, hBW, ⟨⟨by rw [sprP_snoc]; exact bO2, bN2⟩, bF2⟩, hB1.trans hBW⟩
    case stop2 =>
      rintro c pre' W' _ h
      exact h.elim
  case done =>
    rintro D zs W hD rfl ⟨⟨⟨bO1, bN1⟩, bF1⟩, hB1⟩ hK
    have cO := bO1.cell
    gi_wp2
    refine ⟨by simp, .inl ⟨_, _, rfl, run_takeDeferred hK, ?_⟩⟩
    exact ⟨_, results_tmp rfl _ _ _, rfl, hB1.trans (belowK_b (w := w) (Nat.le_refl _) W D _ _ (by omega) hK rfl rfl)⟩
  case stop =>
    rintro D c pre W _ _ h _
    exact h.elim
end Go.Proofs.YtkbmolodljenjaaDoor
