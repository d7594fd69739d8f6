import Derived.Test.YtgoebckimmofoaaGreatDoorRows
import Derived.WalkKit
import Derived.WalkSpells
import Derived.WalkLawsBesides
import Derived.Deep.QuietTactic
import Derived.BigQuiet
import Derived.Lib.TrailingZeros
import Derived.Laws.Bits64b
import Derived.RangeFuncNested
import Derived.RangeFuncBound
import Derived.RangeFuncCalls
import Derived.RangeFuncLeaves
import Derived.Shelf.Abstract
import Derived.Shelf.RegionOpen
import Derived.OwnWalkIn
import Derived.TacticsInMore
import Derived.LoopNIn
import Derived.LoopIn
import Derived.RegionTactic
import Derived.Scope
import Derived.WalkMore
import Derived.Deep.LoopGhost
import Derived.Deep.AppendLies
import Derived.Deep.RegionHeld3
import Derived.Laws.IdiomStrings
import Derived.Maps.AppendAt
import Derived.RangeFuncBox
import Derived.Deep.RegionLaw
import Derived.Deep.RegionHeld
import Derived.Stop.RegionWithIn
import Derived.MapKept
import Derived.Lib.Bytealg
import Derived.Lib.IndexLaws
import Derived.OrdersIn
import Derived.OrdersHeld
import Derived.Test.YtgoebckimmofoaaGreatDoorM1
import Derived.Test.YtgoebckimmofoaaGreatDoorM4
import Derived.Test.YtgoebckimmofoaaGreatDoorM5
import Derived.Test.YtgoebckimmofoaaGreatDoorM6
import Derived.Test.YtgoebckimmofoaaGreatDoorM7
import Derived.Test.YtgoebckimmofoaaGreatDoorM8
import Derived.Test.YtgoebckimmofoaaGreatDoorM9
import Derived.Test.YtgoebckimmofoaaGreatDoorM10
import Derived.Test.YtgoebckimmofoaaGreatDoorM2
import Derived.Test.YtgoebckimmofoaaGreatDoorM3
/- A part's marks on a row of places: the walk. Our own text. -/
namespace Go.Proofs.YtgoebckimmofoaaGreatDoor
open Go.RowKit Go.Shelf Go.Lib
attribute [local go_sem] Oper.semAt_some
set_option maxRecDepth 100000 in
set_option maxHeartbeats 4000000 in
theorem mark_any {w : World} {fh fz : Nat} {ch cz : Array Value} {h : Nat → Nat → Nat → Nat → Bool} {z : G} (ee : Bool) (n g loop : Nat) (P : List Pl) (W : World) (hn : n < 8) (hP : OkP P) (hP7 : P.length ≤ 7000) (hlo : loop < P.length)
    (hd : ∀ x b b2 x' b', (∀ j, j ≠ n → b.testBit j = b2.testBit j) → h x b x' b' = h x b2 x' b')
    (hh : FnP2 w (.func (.func fh) #[] ch) h) (hW : KP w W) (h0 : 0 < g) (hT : Tab W) (hrow : RowP g P W) :
    Calls Tryz.prog 67 #[.agg #[.func (.func fh) #[] ch, .bool ee, .func (.func fz) #[] cz], .int .i64 (n : Nat), .slice (some ⟨g, 0, none⟩) P.length P.length, .int .i64 (loop : Nat)] W fun e W' => e = .returned (.tuple #[]) ∧ RowP g (markP ⟨h, ee, z⟩ n P loop) W' ∧ Ex g W W' := by
  refine (callsIn_wide (n := 6)).1 ?_
  refine callsIn_of_wp_marks Tryz.func67 rfl trivial ?_ rfl
  simp only [Tryz.ntmps67, List.size_toArray, List.length_cons, List.length_nil, Nat.reduceAdd, Nat.reduceSub, Array.replicate_succ, Array.replicate_zero, List.push_toArray, List.append_toArray, List.nil_append, List.cons_append]
  have hgl := hrow.lt
  -- the three boxes
  have x1 := heap_alloc_new W (.cells #[.func (.func fh) #[] ch, .bool ee, .func (.func fz) #[] cz] 160)
  have x2 := heap_alloc_new (W.alloc (.cells #[.func (.func fh) #[] ch, .bool ee, .func (.func fz) #[] cz] 160)) (.cells #[.int .i64 (n : Nat)] 3)
  have x3 := heap_alloc_new ((W.alloc (.cells #[.func (.func fh) #[] ch, .bool ee, .func (.func fz) #[] cz] 160)).alloc (.cells #[.int .i64 (n : Nat)] 3)) (.cells #[.slice (some ⟨g, 0, none⟩) P.length P.length] 129)
  simp only [World.size_alloc] at x2 x3
  have x1' := (Below.heap_alloc ((W.alloc (.cells #[.func (.func fh) #[] ch, .bool ee, .func (.func fz) #[] cz] 160)).alloc (.cells #[.int .i64 (n : Nat)] 3)) (.cells #[.slice (some ⟨g, 0, none⟩) P.length P.length] 129) W.heap.size (by simp; omega)).trans ((Below.heap_alloc (W.alloc (.cells #[.func (.func fh) #[] ch, .bool ee, .func (.func fz) #[] cz] 160)) (.cells #[.int .i64 (n : Nat)] 3) W.heap.size (by simp)).trans x1)
  have x2' := (Below.heap_alloc ((W.alloc (.cells #[.func (.func fh) #[] ch, .bool ee, .func (.func fz) #[] cz] 160)).alloc (.cells #[.int .i64 (n : Nat)] 3)) (.cells #[.slice (some ⟨g, 0, none⟩) P.length P.length] 129) (W.heap.size + 1) (by simp)).trans x2
  have hb3 : Below W.heap.size W (((W.alloc (.cells #[.func (.func fh) #[] ch, .bool ee, .func (.func fz) #[] cz] 160)).alloc (.cells #[.int .i64 (n : Nat)] 3)).alloc (.cells #[.slice (some ⟨g, 0, none⟩) P.length P.length] 129)) := (((Below.refl _ W).alloc (Nat.le_refl _) _).alloc (by simp) _).alloc (by simp; omega) _
  have z3 : (((W.alloc (.cells #[.func (.func fh) #[] ch, .bool ee, .func (.func fz) #[] cz] 160)).alloc (.cells #[.int .i64 (n : Nat)] 3)).alloc (.cells #[.slice (some ⟨g, 0, none⟩) P.length P.length] 129)).heap.size = W.heap.size + 3 := by simp
  gi_wp2
  generalize ((W.alloc (.cells #[.func (.func fh) #[] ch, .bool ee, .func (.func fz) #[] cz] 160)).alloc (.cells #[.int .i64 (n : Nat)] 3)).alloc (.cells #[.slice (some ⟨g, 0, none⟩) P.length P.length] 129) = W3 at *
  have hrow3 : RowP g P W3 := hrow.move (hb3.block g hgl)
  have HX : Put (W3.heap[W.heap.size]? = some (.cells #[.func (.func fh) #[] ch, .bool ee, .func (.func fz) #[] cz] 160 (0, 0)) ∧ W3.heap[W.heap.size + 1]? = some (.cells #[.int .i64 (n : Nat)] 3 (0, 0)) ∧ W3.heap[W.heap.size + 1 + 1]? = some (.cells #[.slice (some ⟨g, 0, none⟩) P.length P.length] 129 (0, 0))) := ⟨x1', x2', x3⟩
  have HW3 : Put (KP w W3 ∧ Tab W3 ∧ Below W.heap.size W W3 ∧ RowP g P W3) := ⟨hW.trans (KP.of_below hb3), hT.below hb3 (by omega), hb3, hrow3⟩
  have HFN : Put (FnP2 w (.func (.func fh) #[] ch) h) := ⟨hh⟩
  have HD : Put (∀ x b b2 x' b', (∀ j, j ≠ n → b.testBit j = b2.testBit j) → h x b x' b' = h x b2 x' b') := ⟨hd⟩
  have HP : Put (OkP P) := ⟨hP⟩
  have i0 : (0 : Int) ≤ (loop : Int) := by omega
  have i1 : (loop : Int) < (P.length : Int) := by omega
  -- the first mark
  have PM : Put (_) := ⟨pmark_any g (loop * 2) (pl P loop).2 n ee (hP loop hlo).2 hn { W3 with drawn := W3.drawn + 1 } (hrow3.cell1 hlo) (hrow3.free _)⟩
  have sS : ∀ w' : World, w'.heap[W.heap.size]? = W3.heap[W.heap.size]? → w'.heap[W.heap.size + 1]? = W3.heap[W.heap.size + 1]? → w'.heap[W.heap.size + 1 + 1]? = W3.heap[W.heap.size + 1 + 1]? →
      w'.cell? ⟨W.heap.size, 1, none⟩ = some (.bool ee) ∧ w'.cell? ⟨W.heap.size + 1, 0, none⟩ = some (.int .i64 (n : Nat)) ∧ w'.cell? ⟨W.heap.size + 1 + 1, 0, none⟩ = some (.slice (some ⟨g, 0, none⟩) P.length P.length) := fun w' e1 e2 e3 => by
    rw [HX.out.1] at e1; rw [HX.out.2.1] at e2; rw [HX.out.2.2] at e3
    simp [World.cell?, e1, e2, e3]
  have HS : Put (_) := ⟨sS⟩
  have hS0 : (fun w' : World => w'.cell? ⟨W.heap.size, 1, none⟩ = some (.bool ee) ∧ w'.cell? ⟨W.heap.size + 1, 0, none⟩ = some (.int .i64 (n : Nat)) ∧ w'.cell? ⟨W.heap.size + 1 + 1, 0, none⟩ = some (.slice (some ⟨g, 0, none⟩) P.length P.length)) { W3 with drawn := W3.drawn + 1 } := sS _ rfl rfl rfl
  clear hh hd hP hW hT hrow hrow3 x1 x1' x2 x2' x3 hb3 sS
  refine wpIn_calm ?_
  refine wpIn_wide.2 ?_
  refine wp_region_held (S := fun w' => w'.cell? ⟨W.heap.size, 1, none⟩ = some (.bool ee) ∧ w'.cell? ⟨W.heap.size + 1, 0, none⟩ = some (.int .i64 (n : Nat)) ∧ w'.cell? ⟨W.heap.size + 1 + 1, 0, none⟩ = some (.slice (some ⟨g, 0, none⟩) P.length P.length)) (by kernel_rfl) ?_
  refine wpAnyH_take (i := 0) (v := ?_) rfl (by kernel_rfl) (by kernel_rfl) (by kernel_rfl) (fun _ _ _ h => h) (Or.inl ⟨by rfl, ?_⟩) hS0 ?_
  rotate_left
  · intro w hSw; (try dsimp only at hSw); go_simp; try (with_reducible rfl)
  rotate_left
  (try simp only [Act.put, List.setIfInBounds_toArray])
  refine wpAnyH_take (i := 1) (v := ?_) rfl (by kernel_rfl) (by kernel_rfl) (by kernel_rfl) (fun _ _ _ h => h) (Or.inl ⟨by rfl, ?_⟩) hS0 ?_
  rotate_left
  · intro w hSw; (try dsimp only at hSw); go_simp; try (with_reducible rfl)
  rotate_left
  (try simp only [Act.put])
  refine wpAnyH_take (i := 2) (v := ?_) rfl (by kernel_rfl) (by kernel_rfl) (by kernel_rfl) (fun _ _ _ h => h) (Or.inl ⟨by rfl, ?_⟩) hS0 ?_
  rotate_left
  · intro w hSw; (try dsimp only at hSw); go_simp; try (with_reducible rfl)
  rotate_left
  (try simp only [Act.put])
  refine wpAnyH_take (i := 3) (v := ?_) rfl (by kernel_rfl) (by kernel_rfl) (by kernel_rfl) (fun _ _ _ h => h) (Or.inl ⟨by rfl, ?_⟩) hS0 ?_
  rotate_left
  · intro w hSw; (try dsimp only at hSw); go_simp; try (with_reducible rfl)
  rotate_left
  (try simp only [Act.put])
  refine wpAnyH_take (i := 4) (v := ?_) rfl (by kernel_rfl) (by kernel_rfl) (by kernel_rfl) (fun _ _ _ h => h) (Or.inl ⟨by rfl, ?_⟩) hS0 ?_
  rotate_left
  · intro w hSw; (try dsimp only at hSw); go_simp; try (with_reducible rfl)
  rotate_left
  (try simp only [Act.put])
  refine wpAnyH_take (i := 5) (v := ?_) rfl (by kernel_rfl) (by kernel_rfl) (by kernel_rfl) (fun _ _ _ h => h) (Or.inl ⟨by rfl, ?_⟩) hS0 ?_
  rotate_left
  · intro w hSw; (try dsimp only at hSw); go_simp; try (with_reducible rfl)
  rotate_left
  (try simp only [Act.put])
  refine wpAnyH_ready (rs := [6]) (by kernel_rfl) (by simp) ?_
  refine AllReadyH.cons rfl (fun K hK => ?_) ?_
  ·
    go_simp
    refine PM.out.mono ?_
    rintro e w1 ⟨rfl, rfl⟩
    refine hK.out _ _ ?_ (fun _ => ?_)
    · exact HS.out _ (heap_setCell_other _ _ _ _ (by show W.heap.size ≠ g; omega)) (heap_setCell_other _ _ _ _ (by show W.heap.size + 1 ≠ g; omega)) (heap_setCell_other _ _ _ _ (by show W.heap.size + 1 + 1 ≠ g; omega))
    clear hK K
    (try simp only [Act.put, List.setIfInBounds_toArray, List.set_cons_zero, List.set_cons_succ])
    refine wpAnyH_done (by kernel_rfl) ?_ _
    have hj0 : MJ W3 g (itP h n loop 0 (mark1 n P loop ee)) [] (({ W3 with drawn := W3.drawn + 1 } : World).setCell ⟨g, loop * 2 + 1, none⟩ (.int .u8 (setB (pl P loop).2 n ee : Nat))) :=
      ⟨(show Ex g W3 ({ W3 with drawn := W3.drawn + 1 } : World) from ⟨rfl, rfl, rfl, Nat.le_refl _, fun _ _ _ => rfl⟩).setCell (p := ⟨g, loop * 2 + 1, none⟩) (.inl rfl) _, (show RowP g P ({ W3 with drawn := W3.drawn + 1 } : World) from HW3.out.2.2.2).set hlo _, fun D hD => (by cases hD), List.nodup_nil⟩
    generalize ({ W3 with drawn := W3.drawn + 1 } : World).setCell ⟨g, loop * 2 + 1, none⟩ (.int .u8 (setB (pl P loop).2 n ee : Nat)) = W4 at *
    have HJ0 : Put (_) := ⟨hj0⟩
    clear hj0 hS0 PM
    gi_wp2
    refine loop_inv (fun k a wr => ∃ (Ds : List Nat) (u8 u11 u12 u13 u14 u15 u16 u17 u19 u20 u21 u22 u23 u24 u25 u42 : Value), a = { tmps := #[.agg #[.func (.func fh) #[] ch, .bool ee, .func (.func fz) #[] cz], .int .i64 (n : Nat), .slice (some ⟨g, 0, none⟩) P.length P.length, .int .i64 (loop : Nat), .pointer (some ⟨W.heap.size, 0, none⟩), .pointer (some ⟨W.heap.size + 1, 0, none⟩), .pointer (some ⟨W.heap.size + 1 + 1, 0, none⟩), undef, u8, undef, undef, u11, u12, u13, u14, u15, u16, u17, .int .i64 (Ds.length : Nat), u19, u20, u21, u22, u23, u24, u25, undef, undef, undef, undef, undef, undef, undef, undef, undef, undef, undef, undef, undef, undef, undef, undef, u42], defers := Ds.map coll } ∧ k + Ds.length = 2 ∧ Put (MJ W3 g (itP h n loop Ds.length (mark1 n P loop ee)) Ds wr)) ?h0 ?hs 2 ?hstart
    case hstart => exact ⟨[], _, _, _, _, _, _, _, _, _, _, _, _, _, _, _, _, rfl, rfl, HJ0⟩
    case h0 =>
      rintro a wr ⟨Ds, u8, u11, u12, u13, u14, u15, u16, u17, u19, u20, u21, u22, u23, u24, u25, u42, rfl, hk, HJ⟩
      obtain ⟨D2, D1, rfl⟩ : ∃ D2 D1, Ds = [D2, D1] := by
        match Ds, hk with
        | [a, b], _ => exact ⟨a, b, rfl⟩
      have hD2 := HJ.out.ds D2 (by simp)
      have hD1 := HJ.out.ds D1 (by simp)
      have hne : D1 ≠ D2 := by have := HJ.out.nd; simp at this; exact fun e => this e.symm
      have gr2 := grownBy_putObj' wr D2 (.deferred none)
      have hD1' := (gr2.block D1 (lt_of_block hD1.2) (fun e => hne (by cases e; rfl))).trans hD1.2
      have HF : Put (RowP g (markP ⟨h, ee, z⟩ n P loop) ((wr.putObj D2 (.deferred none)).putObj D1 (.deferred none)) ∧ Ex g W ((wr.putObj D2 (.deferred none)).putObj D1 (.deferred none))) := by
        refine ⟨?_, ?_⟩
        · have hg2 : g ≠ D2 := fun e => by subst e; have := HJ.out.row; unfold RowP at this; rw [hD2.2] at this; cases this
          have hg1 : g ≠ D1 := fun e => by subst e; have := HJ.out.row; unfold RowP at this; rw [hD1.2] at this; cases this
          have r2 := HJ.out.row.move (gr2.block g HJ.out.row.lt (fun e => hg2 (by cases e; rfl)))
          exact r2.move ((grownBy_putObj' _ D1 (.deferred none)).block g r2.lt (fun e => hg1 (by cases e; rfl)))
        · have e3 : Ex g W W3 := ⟨HW3.out.2.2.1.os, HW3.out.2.2.1.tape, HW3.out.2.2.1.output, HW3.out.2.2.1.size, fun k hk _ => HW3.out.2.2.1.block k hk⟩
          exact e3.trans ((HJ.out.ex.put hD2.1 _).put hD1.1 _)
      have t2 := run_takeDeferred (P := Tryz.prog) hD2.2
      have t1 := run_takeDeferred (P := Tryz.prog) hD1'
      clear hD2 hD1 hD1' gr2 HX HW3 HFN HD HP HS HJ0 HJ
      dsimp only [List.map, List.length, coll]
      gi_wp2
      exact ⟨by simp, .inl ⟨_, _, rfl, t2, by simp, .inl ⟨_, _, rfl, t1, _, results_none rfl _ _ _, rfl, HF.out⟩⟩⟩
    case hs =>
      rintro k a wr ⟨Ds, u8, u11, u12, u13, u14, u15, u16, u17, u19, u20, u21, u22, u23, u24, u25, u42, rfl, hk, HJ⟩
      have hD1 : Ds.length ≤ 1 := by omega
      have j2 : ((Ds.length : Nat) : Int) < 2 := by omega
      have ho := mark1_ok hn HP.out hlo ee
      have hq := itP_ok (h := h) (loop := loop) hn ho.1 Ds.length
      have HK : Put (itP h n loop (Ds.length + 1) (mark1 n P loop ee) = rndP h n (itP h n loop Ds.length (mark1 n P loop ee)) loop) := ⟨rfl⟩
      generalize hqe : itP h n loop (Ds.length + 1) (mark1 n P loop ee) = Q' at *
      have HQE : Put (itP h n loop (Ds.length + 1) (mark1 n P loop ee) = Q') := ⟨hqe⟩
      clear hqe
      generalize itP h n loop Ds.length (mark1 n P loop ee) = Q at *
      have hQl : Q.length = P.length := hq.2.trans ho.2
      have hQ := hq.1
      have HQ : Put (OkP Q) := ⟨hQ⟩
      have hlQ : loop < Q.length := by omega
      have hnx := hQ loop hlQ
      have hJ := HJ.out
      have c0 := hJ.row.cell0 hlQ
      have c1 := hJ.row.cell1 hlQ
      have hszr := hJ.ex.size
      have hb2 := (hJ.ex.block (W.heap.size + 1 + 1) (by omega) (by omega)).trans HX.out.2.2
      have cS := box_cellP hb2
      have cS2 := (World.cell?_of_block (a := ⟨W.heap.size + 1 + 1, 0, none⟩) (Below.heap_alloc wr (.cells #[.int .u8 ((pl Q loop).1 : Nat), .int .u8 ((pl Q loop).2 : Nat)] 157) (W.heap.size + 1 + 1) (by omega))).trans cS
      clear hb2 hq ho hQ hJ
      dsimp only
      gi_wp2
      refine ⟨trivial, ?_⟩
      refine (callsIn_wide.2 (backward_any _ rfl _)).mono ?_
      rintro e w' ⟨rfl, rfl⟩
      gi_wp2
      have hW0 : Below wr.heap.size wr ((wr.alloc (.cells #[.int .u8 ((pl Q loop).1 : Nat), .int .u8 ((pl Q loop).2 : Nat)] 157)).alloc (.cells #[.slice (some ⟨g, 0, none⟩) P.length P.length] 129)) := ((Below.refl _ wr).alloc (Nat.le_refl _) _).alloc (by simp) _
      have y1 := (Below.heap_alloc (wr.alloc (.cells #[.int .u8 ((pl Q loop).1 : Nat), .int .u8 ((pl Q loop).2 : Nat)] 157)) (.cells #[.slice (some ⟨g, 0, none⟩) P.length P.length] 129) wr.heap.size (by simp)).trans (heap_alloc_new wr (.cells #[.int .u8 ((pl Q loop).1 : Nat), .int .u8 ((pl Q loop).2 : Nat)] 157))
      have y2 := heap_alloc_new (wr.alloc (.cells #[.int .u8 ((pl Q loop).1 : Nat), .int .u8 ((pl Q loop).2 : Nat)] 157)) (.cells #[.slice (some ⟨g, 0, none⟩) P.length P.length] 129)
      rw [World.size_alloc] at y2
      have zW0 : ((wr.alloc (.cells #[.int .u8 ((pl Q loop).1 : Nat), .int .u8 ((pl Q loop).2 : Nat)] 157)).alloc (.cells #[.slice (some ⟨g, 0, none⟩) P.length P.length] 129)).heap.size = wr.heap.size + 2 := by simp
      generalize (wr.alloc (.cells #[.int .u8 ((pl Q loop).1 : Nat), .int .u8 ((pl Q loop).2 : Nat)] 157)).alloc (.cells #[.slice (some ⟨g, 0, none⟩) P.length P.length] 129) = W0 at *
      have hr0 : RowP g Q W0 := HJ.out.row.move (hW0.block g HJ.out.row.lt)
      have HSh : Put (Sh (wr.heap.size + 1) g n Q W0) := ⟨⟨Q, Off.refl HQ.out, hr0⟩, by rw [hQl]; exact y2⟩
      have gwr := HJ.out.row.lt
      have hgb : g < W0.heap.size := hr0.lt
      have hnb : wr.heap.size < W0.heap.size := by omega
      have HM0 : Put (MI W0.heap.size g wr.heap.size W0 (foldE h (pl Q loop) ([] : List (El n Q))) W0) := ⟨⟨⟨rfl, rfl, rfl, Nat.le_refl _, fun _ _ _ _ => rfl⟩, hr0, y1⟩⟩
      have HKP : Put (KP w W0) := ⟨(HW3.out.1.trans (KP.of_ex HJ.out.ex HW3.out.2.2.2 (by decide +kernel))).trans (KP.of_below hW0)⟩
      have HT0 : Put (Tab W0) := ⟨fun k hk => by
        have e : W0.heap[0]? = W3.heap[0]? := (hW0.block 0 (by omega)).trans (HJ.out.ex.block 0 (by omega) (by omega))
        exact (World.cell?_of_block (a := ⟨0, k, none⟩) e).trans (HW3.out.2.1 k hk)⟩
      have HBX : Put (W0.heap[W.heap.size]? = W3.heap[W.heap.size]? ∧ W0.heap[W.heap.size + 1]? = W3.heap[W.heap.size + 1]? ∧ W0.heap[W.heap.size + 1 + 1]? = W3.heap[W.heap.size + 1 + 1]?) :=
        ⟨(hW0.block _ (by omega)).trans (HJ.out.ex.block _ (by omega) (by omega)), (hW0.block _ (by omega)).trans (HJ.out.ex.block _ (by omega) (by omega)), (hW0.block _ (by omega)).trans (HJ.out.ex.block _ (by omega) (by omega))⟩
      have HY1 : Put (_) := ⟨y1⟩
      have HR0 : Put (_) := ⟨hr0⟩
      have HB0 : Put (_) := ⟨hW0⟩
      clear y1 y2 hr0 hW0 c0 c1 cS cS2
      refine wpIn_rangeFunc_ownH (α := El n Q) rfl (by decide) (gf := 147) (lb := #[.pointer (some ⟨wr.heap.size + 1, 0, none⟩)]) rfl trivial (enters_of Tryz.func147 (by kernel_rfl) rfl)
        (encs := El.args) (Kp := KpB 0 (wr.heap.size + 1) g n Q) (S := fun ys => ys.map (fun e => e.val.1) = (List.range Q.length).reverse) (Sp := fun _ => True) (N := Q.length) (w0 := W0)
        (fun l J Jx Wi hb _ _ hY hJ => back_in 5 (by decide) l _ g n 0 Q (by omega) J Jx hY Wi (HSh.out.of (hb.block _ hgb) (hb.block _ (by omega))) hJ)
        KpB.trans (fun _ _ _ o' _ h1 h2 _ => KpB.put o' h1 h2) (Below.refl _ _) (fun _ => rfl)
        (fun pre Wi => MI W0.heap.size g wr.heap.size W0 (foldE h (pl Q loop) pre) Wi)
        (fun _ _ _ => False)
        (MI.own hgb hnb _) (fun _ _ _ _ _ hs _ _ => hs) HM0.out
        (fun x a' Wi => ∃ hb, a' = { tmps := #[.agg #[.func (.func fh) #[] ch, .bool ee, .func (.func fz) #[] cz], .int .i64 (n : Nat), .slice (some ⟨g, 0, none⟩) P.length P.length, .int .i64 (loop : Nat), .pointer (some ⟨W.heap.size, 0, none⟩), .pointer (some ⟨W.heap.size + 1, 0, none⟩), .pointer (some ⟨W.heap.size + 1 + 1, 0, none⟩), undef, .pointer (some ⟨wr.heap.size, 0, none⟩), .int .i64 (x.val.1 : Nat), .pointer (some ⟨hb, 0, none⟩), u11, u12, u13, u14, u15, u16, u17, .int .i64 (Ds.length : Nat), .bool true, .slice (some ⟨g, 0, none⟩) P.length P.length, .int .i64 (loop : Nat), .pointer (some ⟨g, loop * 2, none⟩), .agg #[.int .u8 ((pl Q loop).1 : Nat), .int .u8 ((pl Q loop).2 : Nat)], .slice (some ⟨g, 0, none⟩) P.length P.length, .func (.func 147) #[] #[.pointer (some ⟨wr.heap.size + 1, 0, none⟩)], .int .i64 (x.val.1 : Nat), .agg #[.int .u8 ((pl Q x.val.1).1 : Nat), .int .u8 (x.val.2 : Nat)], undef, undef, undef, undef, undef, undef, undef, undef, undef, undef, undef, undef, undef, undef, u42], defers := [] } ∧ W0.heap.size ≤ hb ∧ Wi.heap[hb]? = some (.cells #[.int .u8 ((pl Q x.val.1).1 : Nat), .int .u8 (x.val.2 : Nat)] 157 (0, 0)))
        ?hAx ?assign ?body ?done ?stop
      case hAx =>
        rintro x a' _ Wi Wj row ⟨hb, h1, h2, h3⟩ hg hr
        refine ⟨hb, h1, h2, (hg.block hb (lt_of_block h3) (fun e => ?_)).trans h3⟩
        obtain ⟨_, o, ho, hc⟩ := hr hb e.symm
        rw [h3] at ho; cases ho; cases hc
      case assign =>
        rintro l pre x Wi K hi hK
        unfold El.args
        gi_wp2
        refine hK _ _ ?_ ?_ ?_ ⟨Wi.heap.size, rfl, hi.t.size, heap_alloc_new _ _⟩
        · exact ⟨by simp, fun k o _ hk _ => (Below.heap_alloc Wi _ k (lt_of_block hk)).trans hk⟩
        · exact ⟨Below.zero rfl rfl rfl (by simp), fun s => s.of (Below.heap_alloc Wi _ _ hi.r.lt) (Below.heap_alloc Wi _ _ (lt_of_block s.2))⟩
        · exact hi.below hgb hnb ((Below.refl _ _).alloc (Nat.le_refl _) _)
      case body =>
        rintro l pre x a' Wi hl ⟨r, hr⟩ hi ⟨hb, rfl, hbl, hbx⟩ hlt
        clear hr hlt hl
        have hso : Off n Q (foldE h (pl Q loop) pre).1 ∧ (foldE h (pl Q loop) pre).2.1 < 64 ∧ (foldE h (pl Q loop) pre).2.2 < 256 := foldE_ok hn HQ.out h hnx pre (Q, pl Q loop) (Off.refl HQ.out) hnx
        have HSN : Put (foldE h (pl Q loop) (pre ++ [x]) = stepE h (foldE h (pl Q loop) pre) x) := ⟨foldE_snoc _ _ _ _⟩
        generalize foldE h (pl Q loop) pre = s at *
        obtain ⟨hoff, hs1, hs2⟩ := hso
        have hxi := x.property.1
        have hxb := x.property.2.1
        have hxs := (HQ.out x.val.1 hxi).1
        have hgn : g ≠ wr.heap.size := by omega
        have hwi := hi.t.size
        have HSTEP : Put (_) := ⟨fun (w2 : World) (vv : Nat) (hb2 : Below Wi.heap.size Wi w2) (hv : vv = setB (pl s.1 x.val.1).2 n (h (pl Q x.val.1).1 x.val.2 s.2.1 s.2.2)) => MI.step (bs := wr.heap.size + 1) x hi hb2 hoff hn HQ.out hgb hnb hgn (by omega) (by omega) (by omega) hv⟩
        obtain ⟨fn, caps, hfe, he, hcall⟩ := HFN.out
        simp only [Value.func.injEq, Fn.func.injEq, true_and] at hfe
        obtain ⟨rfl, rfl⟩ := hfe
        have hkp : KP w Wi := HKP.out.trans (KP.of_bt hi.t rfl HR0.out (by decide +kernel) HY1.out (by decide +kernel))
        have htb : Tab Wi := fun k hk => (World.cell?_of_block (a := ⟨0, k, none⟩) (hi.t.block 0 (by omega) (by omega) (by omega))).trans (HT0.out k hk)
        have HC : Put (_) := ⟨hcall { Wi with drawn := Wi.drawn + 1 } (fun N => ⟨(hkp N).size, (hkp N).keep⟩) (by show 0 < Wi.heap.size; omega) (fun k hk => htb k hk) (pl Q x.val.1).1 x.val.2 s.2.1 s.2.2 hxs hxb hs1 hs2⟩
        have b0 : Wi.heap[W.heap.size]? = _ := ((hi.t.block _ (by omega) (by omega) (by omega)).trans HBX.out.1).trans HX.out.1
        have b1 : Wi.heap[W.heap.size + 1]? = _ := ((hi.t.block _ (by omega) (by omega) (by omega)).trans HBX.out.2.1).trans HX.out.2.1
        have b2 : Wi.heap[W.heap.size + 1 + 1]? = _ := ((hi.t.block _ (by omega) (by omega) (by omega)).trans HBX.out.2.2).trans HX.out.2.2
        have hbW := lt_of_block hbx
        have hnW := lt_of_block hi.x
        have HS2 : Put (∀ w' : World, w'.heap[W.heap.size]? = Wi.heap[W.heap.size]? → w'.heap[W.heap.size + 1]? = Wi.heap[W.heap.size + 1]? → w'.heap[W.heap.size + 1 + 1]? = Wi.heap[W.heap.size + 1 + 1]? → w'.heap[hb]? = Wi.heap[hb]? → w'.heap[wr.heap.size]? = Wi.heap[wr.heap.size]? → w'.cell? ⟨W.heap.size + 1 + 1, 0, none⟩ = some (.slice (some ⟨g, 0, none⟩) P.length P.length) ∧ w'.cell? ⟨W.heap.size + 1, 0, none⟩ = some (.int .i64 (n : Nat)) ∧ w'.cell? ⟨W.heap.size, 0, none⟩ = some (.func (.func fh) #[] ch) ∧ w'.cell? ⟨hb, 0, none⟩ = some (.int .u8 ((pl Q x.val.1).1 : Nat)) ∧ w'.cell? ⟨hb, 1, none⟩ = some (.int .u8 (x.val.2 : Nat)) ∧ w'.cell? ⟨wr.heap.size, 0, none⟩ = some (.int .u8 (s.2.1 : Nat)) ∧ w'.cell? ⟨wr.heap.size, 1, none⟩ = some (.int .u8 (s.2.2 : Nat))) := ⟨fun w' e0 e1 e2 e3 e4 => by
          rw [b0] at e0; rw [b1] at e1; rw [b2] at e2; rw [hbx] at e3; rw [hi.x] at e4
          simp [World.cell?, e0, e1, e2, e3, e4]⟩
        have HR : Put (RowP g s.1 Wi) := ⟨hi.r⟩
        have HOF : Put (Off n Q s.1) := ⟨hoff⟩
        have HNB : Put (Wi.heap[wr.heap.size]? = some (.cells #[.int .u8 (s.2.1 : Nat), .int .u8 (s.2.2 : Nat)] 157 (0, 0))) := ⟨hi.x⟩
        have hxl : x.val.1 < s.1.length := by rw [hoff.len]; exact hxi
        have hgW := hi.r.lt
        have j0 : (0 : Int) ≤ (x.val.1 : Int) := by omega
        have j1 : (x.val.1 : Int) < (P.length : Int) := by omega
        have hS0 : (fun w' : World => w'.cell? ⟨W.heap.size + 1 + 1, 0, none⟩ = some (.slice (some ⟨g, 0, none⟩) P.length P.length) ∧ w'.cell? ⟨W.heap.size + 1, 0, none⟩ = some (.int .i64 (n : Nat)) ∧ w'.cell? ⟨W.heap.size, 0, none⟩ = some (.func (.func fh) #[] ch) ∧ w'.cell? ⟨hb, 0, none⟩ = some (.int .u8 ((pl Q x.val.1).1 : Nat)) ∧ w'.cell? ⟨hb, 1, none⟩ = some (.int .u8 (x.val.2 : Nat)) ∧ w'.cell? ⟨wr.heap.size, 0, none⟩ = some (.int .u8 (s.2.1 : Nat)) ∧ w'.cell? ⟨wr.heap.size, 1, none⟩ = some (.int .u8 (s.2.2 : Nat))) { Wi with drawn := Wi.drawn + 1 } := HS2.out _ rfl rfl rfl rfl rfl
        clear b0 b1 b2 hkp htb hcall hi hoff hbx HFN HM0 HSh HJ0 HD HS HX HW3 HBX HKP HT0 HY1 HR0 HB0
        dsimp only
        gi_wp2
        refine wpIn_calm ?_
        refine wpIn_region_held (S := fun w' => w'.cell? ⟨W.heap.size + 1 + 1, 0, none⟩ = some (.slice (some ⟨g, 0, none⟩) P.length P.length) ∧ w'.cell? ⟨W.heap.size + 1, 0, none⟩ = some (.int .i64 (n : Nat)) ∧ w'.cell? ⟨W.heap.size, 0, none⟩ = some (.func (.func fh) #[] ch) ∧ w'.cell? ⟨hb, 0, none⟩ = some (.int .u8 ((pl Q x.val.1).1 : Nat)) ∧ w'.cell? ⟨hb, 1, none⟩ = some (.int .u8 (x.val.2 : Nat)) ∧ w'.cell? ⟨wr.heap.size, 0, none⟩ = some (.int .u8 (s.2.1 : Nat)) ∧ w'.cell? ⟨wr.heap.size, 1, none⟩ = some (.int .u8 (s.2.2 : Nat))) (by kernel_rfl) ?hd (fun ⟨_, _, hx⟩ => hx) ?_
        case hd =>
          intro i o ho c hc
          have hm := Array.mem_of_getElem? ho
          simp only [List.mem_toArray, List.mem_cons, List.not_mem_nil, or_false] at hm
          rcases hm with rfl | rfl | rfl | rfl | rfl | rfl | rfl | rfl | rfl | rfl <;> cases hc
        refine wpAnyH_take (i := 0) (v := ?_) rfl (by kernel_rfl) (by kernel_rfl) (by kernel_rfl) (fun _ _ _ h => h) (Or.inl ⟨by rfl, ?_⟩) hS0 ?_
        rotate_left
        · intro w hSw; (try dsimp only at hSw); go_simp; try (with_reducible rfl)
        rotate_left
        (try simp only [Act.put, List.setIfInBounds_toArray])
        refine wpAnyH_take (i := 1) (v := ?_) rfl (by kernel_rfl) (by kernel_rfl) (by kernel_rfl) (fun _ _ _ h => h) (Or.inl ⟨by rfl, ?_⟩) hS0 ?_
        rotate_left
        · intro w hSw; (try dsimp only at hSw); go_simp; try (with_reducible rfl)
        rotate_left
        (try simp only [Act.put])
        refine wpAnyH_take (i := 2) (v := ?_) rfl (by kernel_rfl) (by kernel_rfl) (by kernel_rfl) (fun _ _ _ h => h) (Or.inl ⟨by rfl, ?_⟩) hS0 ?_
        rotate_left
        · intro w hSw; (try dsimp only at hSw); go_simp; try (with_reducible rfl)
        rotate_left
        (try simp only [Act.put])
        refine wpAnyH_take (i := 3) (v := ?_) rfl (by kernel_rfl) (by kernel_rfl) (by kernel_rfl) (fun _ _ _ h => h) (Or.inl ⟨by rfl, ?_⟩) hS0 ?_
        rotate_left
        · intro w hSw; (try dsimp only at hSw); go_simp; try (with_reducible rfl)
        rotate_left
        (try simp only [Act.put])
        refine wpAnyH_take (i := 4) (v := ?_) rfl (by kernel_rfl) (by kernel_rfl) (by kernel_rfl) (fun _ _ _ h => h) (Or.inl ⟨by rfl, ?_⟩) hS0 ?_
        rotate_left
        · intro w hSw; (try dsimp only at hSw); go_simp; try (with_reducible rfl)
        rotate_left
        (try simp only [Act.put])
        refine wpAnyH_take (i := 5) (v := ?_) rfl (by kernel_rfl) (by kernel_rfl) (by kernel_rfl) (fun _ _ _ h => h) (Or.inl ⟨by rfl, ?_⟩) hS0 ?_
        rotate_left
        · intro w hSw; (try dsimp only at hSw); go_simp; try (with_reducible rfl)
        rotate_left
        (try simp only [Act.put])
        refine wpAnyH_take (i := 6) (v := ?_) rfl (by kernel_rfl) (by kernel_rfl) (by kernel_rfl) (fun _ _ _ h => h) (Or.inl ⟨by rfl, ?_⟩) hS0 ?_
        rotate_left
        · intro w hSw; (try dsimp only at hSw); go_simp; try (with_reducible rfl)
        rotate_left
        (try simp only [Act.put])
        refine wpAnyH_take (i := 7) (v := ?_) rfl (by kernel_rfl) (by kernel_rfl) (by kernel_rfl) (fun _ _ _ h => h) (Or.inl ⟨by rfl, ?_⟩) hS0 ?_
        rotate_left
        · intro w hSw; (try dsimp only at hSw); go_simp; try (with_reducible rfl)
        rotate_left
        (try simp only [Act.put])
        refine wpAnyH_ready (rs := [8]) (by kernel_rfl) (by simp) ?_
        refine AllReadyH.cons rfl (fun K hK => ?_) ?_
        ·
          go_simp
          refine HC.out.mono ?_
          rintro e w2 ⟨rfl, hb2⟩
          have B2 : Put (Below Wi.heap.size Wi w2) := ⟨⟨hb2.os, hb2.tape, hb2.output, hb2.size, hb2.block⟩⟩
          have R2 : Put (RowP g s.1 w2) := ⟨HR.out.move (B2.out.block g hgW)⟩
          have PM : Put (_) := ⟨pmark_any g (x.val.1 * 2) (pl s.1 x.val.1).2 n (h (pl Q x.val.1).1 x.val.2 s.2.1 s.2.2) (HOF.out.lt _ hxi) hn w2 (R2.out.cell1 hxl) (R2.out.free _)⟩
          clear hb2 HC
          refine hK.out _ _ ?_ (fun _ => ?_)
          · first | exact HS2.out _ (B2.out.block _ (by omega)) (B2.out.block _ (by omega)) (B2.out.block _ (by omega)) (B2.out.block _ hbW) (B2.out.block _ hnW) | exact HS2.out _ ((heap_setCell_other _ _ _ _ (by show W.heap.size ≠ g; omega)).trans (B2.out.block _ (by omega))) ((heap_setCell_other _ _ _ _ (by show W.heap.size + 1 ≠ g; omega)).trans (B2.out.block _ (by omega))) ((heap_setCell_other _ _ _ _ (by show W.heap.size + 1 + 1 ≠ g; omega)).trans (B2.out.block _ (by omega))) ((heap_setCell_other _ _ _ _ (by show hb ≠ g; omega)).trans (B2.out.block _ hbW)) ((heap_setCell_other _ _ _ _ (by show wr.heap.size ≠ g; omega)).trans (B2.out.block _ hnW))
          clear hK K
          (try simp only [Act.put, List.setIfInBounds_toArray, List.set_cons_zero, List.set_cons_succ])
          refine wpAnyH_ready (rs := [9]) (by kernel_rfl) (by simp) ?_
          refine AllReadyH.cons rfl (fun K hK => ?_) ?_
          ·
            go_simp
            refine PM.out.mono ?_
            rintro e w3 ⟨rfl, rfl⟩
            refine hK.out _ _ ?_ (fun _ => ?_)
            · first | exact HS2.out _ (B2.out.block _ (by omega)) (B2.out.block _ (by omega)) (B2.out.block _ (by omega)) (B2.out.block _ hbW) (B2.out.block _ hnW) | exact HS2.out _ ((heap_setCell_other _ _ _ _ (by show W.heap.size ≠ g; omega)).trans (B2.out.block _ (by omega))) ((heap_setCell_other _ _ _ _ (by show W.heap.size + 1 ≠ g; omega)).trans (B2.out.block _ (by omega))) ((heap_setCell_other _ _ _ _ (by show W.heap.size + 1 + 1 ≠ g; omega)).trans (B2.out.block _ (by omega))) ((heap_setCell_other _ _ _ _ (by show hb ≠ g; omega)).trans (B2.out.block _ hbW)) ((heap_setCell_other _ _ _ _ (by show wr.heap.size ≠ g; omega)).trans (B2.out.block _ hnW))
            clear hK K
            (try simp only [Act.put, List.setIfInBounds_toArray, List.set_cons_zero, List.set_cons_succ])
            refine wpAnyH_done (by kernel_rfl) ?_ _
            have hvv : setB (pl s.1 x.val.1).2 n (h (pl Q x.val.1).1 x.val.2 s.2.1 s.2.2) = setB (pl s.1 x.val.1).2 n (h (pl Q x.val.1).1 x.val.2 s.2.1 s.2.2) := rfl
            have HFIN : Put (_) := ⟨HSTEP.out w2 _ B2.out hvv⟩
            have r3 := R2.out.set hxl (setB (pl s.1 x.val.1).2 n (h (pl Q x.val.1).1 x.val.2 s.2.1 s.2.2))
            have hl3 : x.val.1 < (s.1.set x.val.1 ((pl s.1 x.val.1).1, setB (pl s.1 x.val.1).2 n (h (pl Q x.val.1).1 x.val.2 s.2.1 s.2.2))).length := by rw [List.length_set]; exact hxl
            have cA := r3.cell0 hl3
            have cB := r3.cell1 hl3
            rw [pl_set _ _ _ _ hxl, if_pos rfl] at cA cB
            dsimp only at cA cB
            have cS := HS2.out _ ((heap_setCell_other w2 ⟨g, x.val.1 * 2 + 1, none⟩ _ (.int .u8 (setB (pl s.1 x.val.1).2 n (h (pl Q x.val.1).1 x.val.2 s.2.1 s.2.2) : Nat)) (by show W.heap.size ≠ g; omega)).trans (B2.out.block _ (by omega))) ((heap_setCell_other _ _ _ _ (by show W.heap.size + 1 ≠ g; omega)).trans (B2.out.block _ (by omega))) ((heap_setCell_other _ _ _ _ (by show W.heap.size + 1 + 1 ≠ g; omega)).trans (B2.out.block _ (by omega))) ((heap_setCell_other _ _ _ _ (by show hb ≠ g; omega)).trans (B2.out.block _ hbW)) ((heap_setCell_other _ _ _ _ (by show wr.heap.size ≠ g; omega)).trans (B2.out.block _ hnW))
            have cS1 := cS.1
            have nb3 := (heap_setCell_other w2 ⟨g, x.val.1 * 2 + 1, none⟩ wr.heap.size (.int .u8 (setB (pl s.1 x.val.1).2 n (h (pl Q x.val.1).1 x.val.2 s.2.1 s.2.2) : Nat)) (by show wr.heap.size ≠ g; omega)).trans ((B2.out.block _ hnW).trans HNB.out)
            have q0 := two_cell0 nb3
            have q1 := two_cell1 nb3
            have qf := two_free nb3
            have qf0 := qf 0
            have qf1 := qf 1
            have lb := lt_of_block nb3
            clear qf nb3 r3 hl3 cS hvv PM HSTEP hS0
            generalize setB (pl s.1 x.val.1).2 n (h (pl Q x.val.1).1 x.val.2 s.2.1 s.2.2) = vv at *
            generalize hw3 : w2.setCell ⟨g, x.val.1 * 2 + 1, none⟩ (.int .u8 (vv : Nat)) = w3 at *
            clear hw3
            gi_wp2
            refine ⟨HFIN.out.1, HFIN.out.2.1, ?_⟩
            show MI _ _ _ _ (foldE h (pl Q loop) (pre ++ [x])) _
            rw [HSN.out]
            exact HFIN.out.2.2
          exact AllReadyH.nil
        exact AllReadyH.nil
      case done =>
        rintro D ys Wi hD hS hi hK
        have hfin : (foldE h (pl Q loop) ys).1 = Q' := by
          rw [HK.out]
          exact foldE_back h HD.out (pl Q loop) Q.length ys _ (Nat.le_refl _) hS (by simp [backP])
        have hmj := MI.done HJ.out hi rfl rfl HB0.out hD hK
        rw [hfin] at hmj
        have HMJ : Put (_) := ⟨hmj⟩
        clear hmj hi hS hK
        have hwr : wrap64 ((Ds.length : Int) + 1) = ((Ds.length + 1 : Nat) : Int) := by unfold wrap64; omega
        gi_wp2
        rw [hwr]
        exact ⟨D :: Ds, _, _, _, _, _, _, _, _, _, _, _, _, _, _, _, _, rfl, by simp; omega, ⟨by rw [List.length_cons, HQE.out]; exact HMJ.out⟩⟩
      case stop =>
        rintro D c pre Wi _ _ hx _
        exact hx.elim
  exact AllReadyH.nil
end Go.Proofs.YtgoebckimmofoaaGreatDoor

/- All blocks but two. Our own text. -/
namespace Go.Proofs.YtgoebckimmofoaaGreatDoor
open Go.RowKit Go.Lib

/-- All blocks but B and M are as they were; new ones may have come. -/
structure Ex2 (B M : Nat) (w w' : World) : Prop where
  os : w'.os = w.os
  tape : w'.tape = w.tape
  output : w'.output = w.output
  size : w.heap.size ≤ w'.heap.size
  block : ∀ k, k < w.heap.size → k ≠ B → k ≠ M → w'.heap[k]? = w.heap[k]?
theorem Ex.two {B M : Nat} {w w' : World} (h : Ex B w w') : Ex2 B M w w' := ⟨h.os, h.tape, h.output, h.size, fun k hk h1 _ => h.block k hk h1⟩
theorem Ex2.trans {B M : Nat} {a b c : World} (h : Ex2 B M a b) (k : Ex2 B M b c) : Ex2 B M a c :=
  ⟨k.os.trans h.os, k.tape.trans h.tape, k.output.trans h.output, Nat.le_trans h.size k.size, fun i hi hB hM => (k.block i (Nat.lt_of_lt_of_le hi h.size) hB hM).trans (h.block i hi hB hM)⟩
theorem Ex2.drew {B M : Nat} {a b : World} (h : Ex2 B M a b) : Ex2 B M a b.drew := ⟨h.os, h.tape, h.output, h.size, h.block⟩
theorem Ex2.setCell {B M : Nat} {a b : World} (h : Ex2 B M a b) {p : Addr} (hp : p.block = B ∨ p.block = M ∨ a.heap.size ≤ p.block) (v : Value) : Ex2 B M a (b.setCell p v) :=
  ⟨h.os, h.tape, h.output, by simpa using h.size, fun k hk hB hM => by rw [heap_setCell_other _ _ _ _ (by omega)]; exact h.block k hk hB hM⟩
theorem Ex2.below {B M : Nat} {w w' : World} (h : Ex2 B M w w') (hM : M < B) (hs : M ≤ w.heap.size) : Below M w w' :=
  ⟨h.os, h.tape, h.output, h.size, fun k hk => h.block k (by omega) (by omega) (by omega)⟩
theorem Ex2.ownsRow {B M base e size n : Nat} {v : Value} {xs : List Value} {w w' : World} (h : Ex2 B M w w') (hB : B < base) (hM : M < base) (ho : w.ownsRow base e size v n xs) : w'.ownsRow base e size v n xs := by
  refine ⟨ho.1, ?_⟩
  rcases ho.2 with hn | ⟨g, cap, cur, rfl, hb, hg, r⟩
  · exact .inl hn
  · exact .inr ⟨g, cap, cur, rfl, hb, by rw [h.block g (lt_of_block hg) (by omega) (by omega)]; exact hg, r⟩
end Go.Proofs.YtgoebckimmofoaaGreatDoor

/- The reader of models while it reads: what stands in its blocks and rows. Our own text. -/
namespace Go.Proofs.YtgoebckimmofoaaGreatDoor
open Go.RowKit Go.Lib

theorem Kp.of_ex2 {N B M : Nat} {w w' : World} {cs ds : Array Value} {ty tz : TypeId} {fz gz : Nat × Nat} (h : Ex2 B M w w') (hB : w.heap[B]? = some (.cells cs ty fz)) (hs : soft ty = true) (hM : w.heap[M]? = some (.cells ds tz gz)) (hz : soft tz = true) : Kp N w w' :=
  ⟨h.size, fun k cs' t fz' hc _ h1 _ => h.block k (lt_of_block hc)
    (fun e => by subst e; rw [hB] at hc; simp at hc; obtain ⟨_, rfl, _⟩ := hc; rw [hs] at h1; cases h1)
    (fun e => by subst e; rw [hM] at hc; simp at hc; obtain ⟨_, rfl, _⟩ := hc; rw [hz] at h1; cases h1)⟩

def mblk (t : T) (x : Junk) : Array Value :=
  #[.int .i64 x.g0, .int .u8 x.f0, .int .i64 x.g1, .int .u8 x.f1, .int .i64 x.g2, .int .u8 x.f2, .int .i64 t.n, x.vr]
/-- The reader of models in block B, its machine in block M. -/
structure RB (B M : Nat) (s : ByteArray) (t : T) (x : Junk) (w : World) : Prop where
  g : RG B M 120 [x.vc, x.vh, .int .u8 t.chd] s t w
  m : w.heap[M]? = some (.cells (mblk t x) 113 (0, 0))
section
variable {B M : Nat} {s : ByteArray} {t t' : T} {x : Junk} {w w' : World}
theorem RB.lt (h : RB B M s t x w) : B < w.heap.size := h.g.lt
theorem RB.lo (h : RB B M s t x w) : M < B := h.g.lo
theorem RB.ltM (h : RB B M s t x w) : M < w.heap.size := Nat.lt_trans h.g.lo h.g.lt
theorem RB.free (h : RB B M s t x w) (i : Nat) : w.frozen? ⟨B, i, none⟩ = false := h.g.free i
theorem RB.freeM (h : RB B M s t x w) (i : Nat) : w.frozen? ⟨M, i, none⟩ = false := by simp [World.frozen?, h.m]
theorem RB.c1 (h : RB B M s t x w) : w.cell? ⟨B, 1, none⟩ = some (.int .i64 t.at_) := h.g.c1
theorem RB.c2 (h : RB B M s t x w) : w.cell? ⟨B, 2, none⟩ = some (.pointer (some ⟨M, 0, none⟩)) := h.g.c2
theorem RB.c3 (h : RB B M s t x w) : w.cell? ⟨B, 3, none⟩ = some (.int .i64 t.flt) := h.g.c3
theorem RB.c4 (h : RB B M s t x w) : w.cell? ⟨B, 4, none⟩ = some (.int .i64 t.plc) := h.g.c4
theorem RB.c5 (h : RB B M s t x w) : w.cell? ⟨B, 5, none⟩ = some x.vc := by simp [World.cell?, h.g.blk, rblk]
theorem RB.c6 (h : RB B M s t x w) : w.cell? ⟨B, 6, none⟩ = some x.vh := by simp [World.cell?, h.g.blk, rblk]
theorem RB.c7 (h : RB B M s t x w) : w.cell? ⟨B, 7, none⟩ = some (.int .u8 t.chd) := by simp [World.cell?, h.g.blk, rblk]
theorem RB.m0 (h : RB B M s t x w) : w.cell? ⟨M, 0, none⟩ = some (.int .i64 x.g0) := by simp [World.cell?, h.m, mblk]
theorem RB.m1 (h : RB B M s t x w) : w.cell? ⟨M, 1, none⟩ = some (.int .u8 x.f0) := by simp [World.cell?, h.m, mblk]
theorem RB.m2 (h : RB B M s t x w) : w.cell? ⟨M, 2, none⟩ = some (.int .i64 x.g1) := by simp [World.cell?, h.m, mblk]
theorem RB.m3 (h : RB B M s t x w) : w.cell? ⟨M, 3, none⟩ = some (.int .u8 x.f1) := by simp [World.cell?, h.m, mblk]
theorem RB.m4 (h : RB B M s t x w) : w.cell? ⟨M, 4, none⟩ = some (.int .i64 x.g2) := by simp [World.cell?, h.m, mblk]
theorem RB.m5 (h : RB B M s t x w) : w.cell? ⟨M, 5, none⟩ = some (.int .u8 x.f2) := by simp [World.cell?, h.m, mblk]
theorem RB.m6 (h : RB B M s t x w) : w.cell? ⟨M, 6, none⟩ = some (.int .i64 t.n) := by simp [World.cell?, h.m, mblk]
theorem RB.m7 (h : RB B M s t x w) : w.cell? ⟨M, 7, none⟩ = some x.vr := by simp [World.cell?, h.m, mblk]
theorem RB.move (h : RB B M s t x w) (e1 : w'.heap[B]? = w.heap[B]?) (e2 : w'.heap[M]? = w.heap[M]?) : RB B M s t x w' := ⟨h.g.move e1 e2, e2.trans h.m⟩
theorem RB.drewN (h : RB B M s t x w) (n : Nat) : RB B M s t x (w.drewN n) := h.move rfl rfl
theorem RB.drew (h : RB B M s t x w) : RB B M s t x w.drew := h.move rfl rfl
theorem RB.alloc (h : RB B M s t x w) (o : Obj) : RB B M s t x (w.alloc o) := h.move (Below.heap_alloc _ _ _ h.lt) (Below.heap_alloc _ _ _ h.ltM)
theorem RB.set_other (h : RB B M s t x w) {p : Addr} (hp : p.block ≠ B) (hq : p.block ≠ M) (v : Value) : RB B M s t x (w.setCell p v) :=
  h.move (heap_setCell_other _ _ _ _ (fun e => hp e.symm)) (heap_setCell_other _ _ _ _ (fun e => hq e.symm))
theorem RB.grown {row : Option Nat} (h : RB B M s t x w) (g : w.grownBy w' row) (hr : row ≠ some B) (hq : row ≠ some M) : RB B M s t x w' :=
  h.move (g.block B h.lt (fun e => hr e.symm)) (g.block M h.ltM (fun e => hq e.symm))
/-- What a step of the reader alone leaves. -/
theorem RB.up (h : RB B M s t x w) (g : RG B M 120 [x.vc, x.vh, .int .u8 t.chd] s t' w') (e : Ex B w w') (hn : t'.n = t.n) (hc : t'.chd = t.chd) : RB B M s t' x w' :=
  ⟨by rw [hc]; exact g, by have := (e.block M h.ltM (Nat.ne_of_lt h.lo)).trans h.m; unfold mblk at *; rw [hn]; exact this⟩
theorem RB.set5 (h : RB B M s t x w) (v : Value) : RB B M s t { x with vc := v } (w.setCell ⟨B, 5, none⟩ v) :=
  ⟨h.g.set 5 v (by simp [rblk]) rfl, (heap_setCell_other _ _ _ _ (show M ≠ B from Nat.ne_of_lt h.lo)).trans h.m⟩
theorem RB.set6 (h : RB B M s t x w) (v : Value) : RB B M s t { x with vh := v } (w.setCell ⟨B, 6, none⟩ v) :=
  ⟨h.g.set 6 v (by simp [rblk]) rfl, (heap_setCell_other _ _ _ _ (show M ≠ B from Nat.ne_of_lt h.lo)).trans h.m⟩
theorem RB.set7 (h : RB B M s t x w) (k : Nat) : RB B M s { t with chd := k } x (w.setCell ⟨B, 7, none⟩ (.int .u8 k)) :=
  ⟨h.g.set 7 _ (by simp [rblk]) rfl, (heap_setCell_other _ _ _ _ (show M ≠ B from Nat.ne_of_lt h.lo)).trans h.m⟩
theorem RB.setM (h : RB B M s t x w) (i : Nat) (v : Value) {x' : Junk} {n : Nat} (e : (mblk t x).setIfInBounds i v = mblk { t with n := n } x') (hc : x'.vc = x.vc) (hh : x'.vh = x.vh) : RB B M s { t with n := n } x' (w.setCell ⟨M, i, none⟩ v) := by
  have hm := heap_setCell_same w M i (mblk t x) 113 v h.m
  rw [e] at hm
  refine ⟨⟨?_, ⟨_, _, hm, by simp [mblk]⟩, h.lo⟩, hm⟩
  rw [hc, hh]
  exact (heap_setCell_other _ _ _ _ (show B ≠ M from fun e => Nat.ne_of_lt h.lo e.symm)).trans h.g.blk
theorem RB.setn (h : RB B M s t x w) (k : Nat) : RB B M s { t with n := k } x (w.setCell ⟨M, 6, none⟩ (.int .i64 k)) := h.setM 6 _ rfl rfl rfl
theorem RB.setr (h : RB B M s t x w) (v : Value) : RB B M s t { x with vr := v } (w.setCell ⟨M, 7, none⟩ v) := h.setM (n := t.n) 7 v rfl rfl rfl
theorem RB.setnr (h : RB B M s t x w) (k : Nat) : RB B M s { t with nr := k } x w := ⟨⟨h.g.blk, h.g.cnt, h.g.lo⟩, h.m⟩
def Junk.setv (x : Junk) (k : Nat) (g f : Int) : Junk := match k with
  | 0 => { x with g0 := g, f0 := f }
  | 1 => { x with g1 := g, f1 := f }
  | _ => { x with g2 := g, f2 := f }
theorem RB.setv0 (h : RB B M s t x w) (g c : Int) : RB B M s t (x.setv 0 g c) ((w.setCell ⟨M, 0, none⟩ (.int .i64 g)).setCell ⟨M, 1, none⟩ (.int .u8 c)) :=
  (h.setM (n := t.n) (x' := { x with g0 := g }) 0 (.int .i64 g) rfl rfl rfl).setM (n := t.n) 1 _ rfl rfl rfl
theorem RB.setv1 (h : RB B M s t x w) (g c : Int) : RB B M s t (x.setv 1 g c) ((w.setCell ⟨M, 2, none⟩ (.int .i64 g)).setCell ⟨M, 3, none⟩ (.int .u8 c)) :=
  (h.setM (n := t.n) (x' := { x with g1 := g }) 2 (.int .i64 g) rfl rfl rfl).setM (n := t.n) 3 _ rfl rfl rfl
theorem RB.setv2 (h : RB B M s t x w) (g c : Int) : RB B M s t (x.setv 2 g c) ((w.setCell ⟨M, 4, none⟩ (.int .i64 g)).setCell ⟨M, 5, none⟩ (.int .u8 c)) :=
  (h.setM (n := t.n) (x' := { x with g2 := g }) 4 (.int .i64 g) rfl rfl rfl).setM (n := t.n) 5 _ rfl rfl rfl

/-! The reader's small steps, of this reader. -/
theorem take_no (c : Nat) (hs : s.size ≤ 120) (hat : t.at_ ≤ s.size) (hc : c ≤ 255) (hb : RB B M s t x w) (hn : num? s t.at_ c 0 0 = none) :
    Calls Tryz.prog 74 #[.pointer (some ⟨B, 0, none⟩), .int .u8 c] w fun e w' => e = .returned (.bool false) ∧ RB B M s t x w' ∧ Ex B w w' :=
  (take_no0 c hs hat hc hb.g hn).mono fun _ _ ⟨h1, h2, h3⟩ => ⟨h1, hb.up h2 h3 rfl rfl, h3⟩
theorem take_yes (c k : Nat) (hs : s.size ≤ 120) (hc : c ≤ 255) (hb : RB B M s t x w) (hn : num? s t.at_ c 0 0 = some k) :
    Calls Tryz.prog 74 #[.pointer (some ⟨B, 0, none⟩), .int .u8 c] w fun e w' => e = .returned (.bool true) ∧ RB B M s t.adv x w' ∧ Ex B w w' :=
  (take_yes0 c k hs hc hb.g hn).mono fun _ _ ⟨h1, h2, h3⟩ => ⟨h1, hb.up h2 h3 rfl rfl, h3⟩
theorem take_no' {c : Int} (k : Nat) (e : c = (k : Int)) (hs : s.size ≤ 120) (hat : t.at_ ≤ s.size) (hc : k ≤ 255) (hb : RB B M s t x w) (hn : num? s t.at_ k 0 0 = none) :
    Calls Tryz.prog 74 #[.pointer (some ⟨B, 0, none⟩), .int .u8 c] w fun e w' => e = .returned (.bool false) ∧ RB B M s t x w' ∧ Ex B w w' := by
  subst e; exact take_no k hs hat hc hb hn
theorem take_yes' {c : Int} (k j : Nat) (e : c = (k : Int)) (hs : s.size ≤ 120) (hc : k ≤ 255) (hb : RB B M s t x w) (hn : num? s t.at_ k 0 0 = some j) :
    Calls Tryz.prog 74 #[.pointer (some ⟨B, 0, none⟩), .int .u8 c] w fun e w' => e = .returned (.bool true) ∧ RB B M s t.adv x w' ∧ Ex B w w' := by
  subst e; exact take_yes k j hs hc hb hn
theorem digit_no (lo : Nat) (hs : s.size ≤ 120) (hat : t.at_ ≤ s.size) (hlo : lo ≤ 10) (hb : RB B M s t x w) (hn : num? s t.at_ 48 lo 3 = none) :
    Calls Tryz.prog 106 #[.pointer (some ⟨B, 0, none⟩), .int .i64 lo] w fun e w' => e = .returned (.tuple #[.int .i64 0, .bool false]) ∧ RB B M s t x w' ∧ Ex B w w' :=
  (digit_no0 lo hs hat hlo hb.g hn).mono fun _ _ ⟨h1, h2, h3⟩ => ⟨h1, hb.up h2 h3 rfl rfl, h3⟩
theorem digit_yes (lo k : Nat) (hs : s.size ≤ 120) (hlo : lo ≤ 10) (hb : RB B M s t x w) (hn : num? s t.at_ 48 lo 3 = some k) :
    Calls Tryz.prog 106 #[.pointer (some ⟨B, 0, none⟩), .int .i64 lo] w fun e w' => e = .returned (.tuple #[.int .i64 k, .bool true]) ∧ RB B M s t.adv x w' ∧ Ex B w w' :=
  (digit_yes0 lo k hs hlo hb.g hn).mono fun _ _ ⟨h1, h2, h3⟩ => ⟨h1, hb.up h2 h3 rfl rfl, h3⟩
theorem digit_no' {c : Int} (lo : Nat) (e : c = (lo : Int)) (hs : s.size ≤ 120) (hat : t.at_ ≤ s.size) (hlo : lo ≤ 10) (hb : RB B M s t x w) (hn : num? s t.at_ 48 lo 3 = none) :
    Calls Tryz.prog 106 #[.pointer (some ⟨B, 0, none⟩), .int .i64 c] w fun e w' => e = .returned (.tuple #[.int .i64 0, .bool false]) ∧ RB B M s t x w' ∧ Ex B w w' := by
  subst e; exact digit_no lo hs hat hlo hb hn
theorem digit_yes' {c : Int} (lo k : Nat) (e : c = (lo : Int)) (hs : s.size ≤ 120) (hlo : lo ≤ 10) (hb : RB B M s t x w) (hn : num? s t.at_ 48 lo 3 = some k) :
    Calls Tryz.prog 106 #[.pointer (some ⟨B, 0, none⟩), .int .i64 c] w fun e w' => e = .returned (.tuple #[.int .i64 k, .bool true]) ∧ RB B M s t.adv x w' ∧ Ex B w w' := by
  subst e; exact digit_yes lo k hs hlo hb hn
theorem blame_any (f : Nat) (hat : 1 ≤ t.at_) (hat2 : t.at_ ≤ 120) (hb : RB B M s t x w) :
    Calls Tryz.prog 107 #[.pointer (some ⟨B, 0, none⟩), .int .i64 f] w fun e w' => e = .returned (.tuple #[]) ∧ RB B M s (t.blame f) x w' ∧ Ex B w w' :=
  (blame_any0 f hat hat2 hb.g).mono fun _ _ ⟨h1, h2, h3⟩ => ⟨h1, hb.up h2 h3 (blame_same t f).2.1 (blame_same t f).2.2.2, h3⟩
theorem name_no (hs : s.size ≤ 120) (hat : t.at_ ≤ s.size) (hb : RB B M s t x w) (hn : num? s t.at_ 97 0 2 = none) :
    Calls Tryz.prog 111 #[.pointer (some ⟨B, 0, none⟩)] w fun e w' => e = .returned (.tuple #[.int .i64 0, .bool false]) ∧ RB B M s t x w' ∧ Ex B w w' :=
  (name_no0 hs hat hb.g hn).mono fun _ _ ⟨h1, h2, h3⟩ => ⟨h1, hb.up h2 h3 rfl rfl, h3⟩
theorem name_yes (k : Nat) (hs : s.size ≤ 120) (hb : RB B M s t x w) (hn : num? s t.at_ 97 0 2 = some k) :
    Calls Tryz.prog 111 #[.pointer (some ⟨B, 0, none⟩)] w fun e w' => e = .returned (.tuple #[.int .i64 k, .bool true]) ∧ RB B M s (t.named k) x w' ∧ Ex B w w' :=
  (name_yes0 k hs hb.g hn).mono fun _ _ ⟨h1, h2, h3⟩ => ⟨h1, hb.up h2 h3 (named_same t k).2.1 (named_same t k).2.2.2, h3⟩
theorem rterm_no (hs : s.size ≤ 120) (hat : t.at_ ≤ s.size) (hb : RB B M s t x w) (hn : pTerm s t = none) :
    Calls Tryz.prog 149 #[.pointer (some ⟨B, 0, none⟩)] w fun e w' => e = .returned (.tuple #[.nilFunc, .bool false]) ∧ RB B M s t x w' ∧ Ex B w w' :=
  (term_no hs hat hb.g hn).mono fun _ _ ⟨h1, h2, h3⟩ => ⟨h1, hb.up h2 h3 rfl rfl, h3⟩
theorem rterm_yes (hs : s.size ≤ 120) (hat : t.at_ ≤ s.size) (hb : RB B M s t x w) (hn : pTerm s t = some t') :
    Calls Tryz.prog 149 #[.pointer (some ⟨B, 0, none⟩)] w fun e w' => (∃ f a, e = .returned (.tuple #[.func f #[] a, .bool true]) ∧ FnK 0 w' (.func f #[] a) (fun x => .int .i64 (tmV (tmOf s t.at_) x : Nat))) ∧ RB B M s t' x w' ∧ Ex B w w' :=
  (term_yes hs hat hb.g hn).mono fun _ _ ⟨h1, h2, h3⟩ => ⟨h1, hb.up h2 h3 (pTerm_same hn).2.1 (pTerm_same hn).2.2.2, h3⟩
theorem ratEnd (hat : t.at_ ≤ s.size) (hb : RB B M s t x w) :
    Calls Tryz.prog 75 #[.pointer (some ⟨B, 0, none⟩)] w fun e w' => e = .returned (.bool (decide (t.at_ = s.size))) ∧ RB B M s t x w' ∧ Ex B w w' :=
  (atEnd_any hat hb.g).mono fun _ _ ⟨h1, h2, h3⟩ => ⟨h1, hb.up h2 h3 rfl rfl, h3⟩
end

/-- What the three rows of a reader mean. -/
structure RW (B N : Nat) (s : ByteArray) (G : Nat → Nat) (x : Junk) (cl : List (Tm × Tm)) (dl : List Chg) (rl : List RA) (w : World) : Prop where
  r : ∃ xs, w.ownsRow (B + 1) 149 1 x.vr rl.length xs ∧ All2 (fun v r => FnK N w v (fun y => .int .u64 (ruP s G r y : Nat))) xs rl
  c : ∃ xs, w.ownsRow N 217 1 x.vc cl.length xs ∧ All2 (fun v c => FnK 0 w v (fun y => .bool (cdP s c y))) xs cl
  h : ∃ xs, w.ownsRow N 270 1 x.vh dl.length xs ∧ All2 (fun v d => FnK2 w v (fun y m => .int .u64 (spr m d.1.toNat (toP s d (G d.1.toNat + 1) y) : Nat))) xs dl
section
variable {B M N : Nat} {s : ByteArray} {G : Nat → Nat} {t : T} {x : Junk} {w : World} {cl : List (Tm × Tm)} {dl : List Chg} {rl : List RA}
theorem ne_own {w : World} {B N e z n : Nat} {v : Value} {xs : List Value} (hN : B < N) (h : w.ownsRow N e z v n xs) : v.ownBlock ≠ some B := by
  intro e'; have := (h.lt B e').1; omega
theorem ge_own {w : World} {B N e z n : Nat} {v : Value} {xs : List Value} (hN : B ≤ N) (h : w.ownsRow N e z v n xs) : ∀ k, v.ownBlock = some k → B ≤ k := by
  intro k hk; have := (h.lt k hk).1; omega
theorem soft_R : soft 120 = true := by decide
theorem soft_M : soft 113 = true := by decide
theorem RB.kp {w' : World} (h : RB B M s t x w) (e : Ex2 B M w w') (Z : Nat) : Kp Z w w' := Kp.of_ex2 e h.g.blk soft_R h.m soft_M
theorem RW.ex {w' : World} (h : RW B N s G x cl dl rl w) (e : Ex2 B M w w') (hN : B < N) (hb : RB B M s t x w) : RW B N s G x cl dl rl w' := by
  obtain ⟨⟨xs, r1, r2⟩, ⟨ys, c1, c2⟩, ⟨zs, d1, d2⟩⟩ := h
  have hM := hb.lo
  have k : ∀ Z, Kp Z w w' := hb.kp e
  exact ⟨⟨xs, e.ownsRow (by omega) (by omega) r1, r2.mono (fun _ _ h => h.kp (k _))⟩, ⟨ys, e.ownsRow hN (by omega) c1, c2.mono (fun _ _ h => h.kp (k _))⟩, ⟨zs, e.ownsRow hN (by omega) d1, d2.mono (fun _ _ h => h.kp (k _))⟩⟩
theorem RW.same {x' : Junk} (h : RW B N s G x cl dl rl w) (e1 : x'.vr = x.vr) (e2 : x'.vc = x.vc) (e3 : x'.vh = x.vh) : RW B N s G x' cl dl rl w :=
  ⟨by rw [e1]; exact h.r, by rw [e2]; exact h.c, by rw [e3]; exact h.h⟩
end

def BitsL (f : Nat) (l : List Nat) : Prop := f < 16 ∧ ∀ v, v < 4 → f.testBit v = decide (v ∈ l)
theorem bits4_or : ∀ c : Nat, c < 16 → ∀ k : Nat, k < 4 → c ||| 2 ^ k < 16 ∧ ∀ j : Nat, j < 4 → (c ||| 2 ^ k).testBit j = (c.testBit j || decide (j = k)) := by decide
theorem BitsL.nil : BitsL 0 [] := ⟨by omega, fun v _ => by simp⟩
theorem BitsL.snoc {f : Nat} {l : List Nat} (h : BitsL f l) (v : Nat) (hv : v ≤ 3) : BitsL (f ||| 2 ^ v) (l ++ [v]) := by
  have := bits4_or f h.1 v (by omega)
  refine ⟨this.1, fun j hj => ?_⟩
  rw [this.2 j hj, h.2 j hj]
  simp
def Junk.g (x : Junk) : Nat → Int
  | 0 => x.g0
  | 1 => x.g1
  | _ => x.g2
def Junk.f (x : Junk) : Nat → Int
  | 0 => x.f0
  | 1 => x.f1
  | _ => x.f2
/-- A variable: its greatest value, its first ones. -/
abbrev V2 := Nat × List Nat
def Gv (vs : List V2) (k : Nat) : Nat := (vs.getD k (0, [])).1
/-- The first n variables stand in the machine's block. -/
structure GF (vs : List V2) (x : Junk) : Prop where
  v : ∀ k, k < vs.length → x.g k = (Gv vs k : Int) ∧ ∃ f : Nat, x.f k = (f : Int) ∧ BitsL f (vs.getD k (0, [])).2
  z : ∀ k, vs.length ≤ k → k < 3 → x.g k = 0 ∧ x.f k = 0
  t : ∀ e ∈ vs, e.1 ≤ 3
theorem Gv_out {vs : List V2} {k : Nat} (h : vs.length ≤ k) : vs.getD k (0, []) = (0, []) := by simp [List.getD, List.getElem?_eq_none h]
theorem GF.g {vs : List V2} {x : Junk} (h : GF vs x) {k : Nat} (hk : k < 3) : x.g k = (Gv vs k : Int) := by
  by_cases hl : k < vs.length
  · exact (h.v k hl).1
  · rw [(h.z k (by omega) hk).1]; unfold Gv; rw [Gv_out (by omega)]; rfl
theorem GF.le {vs : List V2} {x : Junk} (h : GF vs x) (k : Nat) : Gv vs k ≤ 3 := by
  unfold Gv
  by_cases hl : k < vs.length
  · have e' : vs.getD k (0, []) = vs[k] := by simp [List.getD, hl]
    rw [e']; exact h.t _ (List.getElem_mem hl)
  · rw [Gv_out (by omega)]; exact Nat.zero_le _
theorem GF.same {vs : List V2} {x x' : Junk} (h : GF vs x) (h0 : x'.g0 = x.g0 ∧ x'.f0 = x.f0 ∧ x'.g1 = x.g1 ∧ x'.f1 = x.f1 ∧ x'.g2 = x.g2 ∧ x'.f2 = x.f2) : GF vs x' := by
  obtain ⟨e0, e1, e2, e3, e4, e5⟩ := h0
  have eg : ∀ k, x'.g k = x.g k := fun k => by unfold Junk.g; split <;> assumption
  have ef : ∀ k, x'.f k = x.f k := fun k => by unfold Junk.f; split <;> assumption
  refine ⟨fun k hk => ?_, fun k h1 h2 => ?_, h.t⟩
  · rw [eg, ef]; exact h.v k hk
  · rw [eg, ef]; exact h.z k h1 h2
theorem GF.setv {vs : List V2} {x : Junk} {g f : Nat} {l : List Nat} (h : GF vs x) (hn : vs.length < 3) (hg : g ≤ 3) (hf : BitsL f l) : GF (vs ++ [(g, l)]) (x.setv vs.length g f) := by
  have old : ∀ k, k < vs.length → (vs ++ [(g, l)]).getD k (0, []) = vs.getD k (0, []) := fun k hk => by simp [List.getD, List.getElem?_append_left hk]
  have new : (vs ++ [(g, l)]).getD vs.length (0, []) = (g, l) := by simp [List.getD]
  refine ⟨fun k hk => ?_, fun k h1 h2 => ?_, fun e he => ?_⟩
  · by_cases hkn : k = vs.length
    · unfold Gv
      rw [hkn, new]
      have : vs.length = 0 ∨ vs.length = 1 ∨ vs.length = 2 := by omega
      rcases this with e | e | e <;> rw [e] <;> exact ⟨rfl, f, rfl, hf⟩
    · have hk' : k < vs.length := by simp at hk; omega
      unfold Gv
      rw [old k hk']
      have := h.v k hk'
      have hc : (k = 0 ∧ vs.length = 1) ∨ (k = 0 ∧ vs.length = 2) ∨ (k = 1 ∧ vs.length = 2) := by omega
      rcases hc with ⟨rfl, e⟩ | ⟨rfl, e⟩ | ⟨rfl, e⟩ <;> rw [e] <;> exact this
  · simp at h1
    have := h.z k (by omega) h2
    have hc : (k = 1 ∧ vs.length = 0) ∨ (k = 2 ∧ vs.length = 0) ∨ (k = 2 ∧ vs.length = 1) := by omega
    rcases hc with ⟨rfl, e⟩ | ⟨rfl, e⟩ | ⟨rfl, e⟩ <;> rw [e] <;> exact this
  · rcases List.mem_append.1 he with he | he
    · exact h.t e he
    · simp at he; subst he; exact hg
theorem setv_rows (x : Junk) (n : Nat) (g f : Int) : (x.setv n g f).vr = x.vr ∧ (x.setv n g f).vc = x.vc ∧ (x.setv n g f).vh = x.vh := by
  unfold Junk.setv; split <;> exact ⟨rfl, rfl, rfl⟩

/-- The reader while it reads: variables vs, of the rule that is read now the conditions cl and the changes dl, the rules rl. -/
structure St (B M N : Nat) (s : ByteArray) (vs : List V2) (t : T) (x : Junk) (cl : List (Tm × Tm)) (dl : List Chg) (rl : List RA) (w0 w : World) : Prop where
  nr : t.nr = rl.length
  l8 : rl.length ≤ 8
  hN : B < N
  hNw : N ≤ w.heap.size
  lc : cl.length ≤ t.at_
  ld : dl.length ≤ t.at_
  d3 : ∀ d ∈ dl, d.1.toNat < 3
  rb : RB B M s t x w
  rw : RW B N s (Gv vs) x cl dl rl w
  lo : Below M w0 w
  gf : GF vs x
  vl : vs.length = t.n
/-- One or the other, by how it ended. -/
def Done (b : Bool) (F S : Prop) : Prop := match b with
  | false => F
  | true => S
/-- It has failed: only where it stands matters. -/
def Fail (B M : Nat) (s : ByteArray) (t : T) (w0 w : World) : Prop := ∃ x, RB B M s t x w ∧ Below M w0 w
section
variable {B M N : Nat} {s : ByteArray} {vs : List V2} {t t' : T} {x : Junk} {w0 w w' : World} {cl : List (Tm × Tm)} {dl : List Chg} {rl : List RA}
/-- A step that touches the reader alone. -/
theorem St.ex (h : St B M N s vs t x cl dl rl w0 w) (hb : RB B M s t' x w') (hx : Ex B w w') (ha : t.at_ ≤ t'.at_) (hr : t'.nr = t.nr) (hn : t'.n = t.n) : St B M N s vs t' x cl dl rl w0 w' where
  nr := hr.trans h.nr
  l8 := h.l8
  hN := h.hN
  hNw := Nat.le_trans h.hNw hx.size
  lc := Nat.le_trans h.lc ha
  ld := Nat.le_trans h.ld ha
  d3 := h.d3
  rb := hb
  rw := h.rw.ex (M := M) hx.two h.hN h.rb
  lo := h.lo.trans ((hx.two (M := M)).below h.rb.lo (by have := h.rb.ltM; omega))
  gf := h.gf
  vl := h.vl.trans hn.symm
theorem St.fail (h : St B M N s vs t x cl dl rl w0 w) (hb : RB B M s t' x w') (hx : Ex B w w') : Fail B M s t' w0 w' :=
  ⟨x, hb, h.lo.trans ((hx.two (M := M)).below h.rb.lo (by have := h.rb.ltM; omega))⟩
theorem St.drewN (h : St B M N s vs t x cl dl rl w0 w) (n : Nat) : St B M N s vs t x cl dl rl w0 (w.drewN n) := h.ex (h.rb.drewN n) ((Ex.refl B w).drewN n) (Nat.le_refl _) rfl rfl
theorem St.drew (h : St B M N s vs t x cl dl rl w0 w) : St B M N s vs t x cl dl rl w0 w.drew := h.ex h.rb.drew (Ex.refl B w).drew (Nat.le_refl _) rfl rfl
end
end Go.Proofs.YtgoebckimmofoaaGreatDoor
