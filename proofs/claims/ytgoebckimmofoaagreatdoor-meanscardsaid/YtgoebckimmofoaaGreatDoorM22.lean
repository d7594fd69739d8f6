import Derived.Test.YtgoebckimmofoaaGreatDoorRows
import Derived.WalkKit
import Derived.WalkSpells
import Derived.WalkLawsBesides
import Derived.Deep.QuietTactic
import Derived.BigQuiet
import Derived.RegionTactic
import Derived.Lib.TrailingZeros
import Derived.Laws.Bits64b
import Derived.Deep.LoopGhost
import Derived.Deep.RegionLaw
import Derived.Deep.RegionHeld3
import Derived.Stop.RegionWithIn
import Derived.Shelf.RegionOpen
import Derived.Scope
import Derived.WalkMore
import Derived.Deep.AppendLies
import Derived.Laws.IdiomStrings
import Derived.Maps.AppendAt
import Derived.RangeFuncBox
import Derived.Deep.RegionHeld
import Derived.RangeFuncNested
import Derived.RangeFuncBound
import Derived.RangeFuncCalls
import Derived.RangeFuncLeaves
import Derived.Shelf.Abstract
import Derived.OwnWalkIn
import Derived.TacticsInMore
import Derived.LoopNIn
import Derived.LoopIn
import Derived.Deep.OwnRows
import Derived.Test.YtgoebckimmofoaaGreatDoorM1
import Derived.Test.YtgoebckimmofoaaGreatDoorM4
import Derived.Test.YtgoebckimmofoaaGreatDoorM5
import Derived.Test.YtgoebckimmofoaaGreatDoorM6
import Derived.Test.YtgoebckimmofoaaGreatDoorM7
import Derived.Test.YtgoebckimmofoaaGreatDoorM8
import Derived.Test.YtgoebckimmofoaaGreatDoorM11
import Derived.Test.YtgoebckimmofoaaGreatDoorM17
import Derived.Test.YtgoebckimmofoaaGreatDoorM18
import Derived.Test.YtgoebckimmofoaaGreatDoorM20
import Derived.Test.YtgoebckimmofoaaGreatDoorM21
/- The document's Places, walked: signs between. Our own text. -/
namespace Go.Proofs.YtgoebckimmofoaaGreatDoor
open Go.RowKit Go.Lib
section
variable {w : World} {L : List ByteArray} {loop : Nat} {ao : Option Addr} {cap : Nat}
theorem meet_N (N : Nat) (A B : List Bool) (hA : A.length = N) (hB : B.length = N) (va vb : Value) (h0 : 0 < N) (hn : N ≤ 7000) (ha : RdB w va A) (hb : RdB w vb B) :
    Calls Tryz.prog 71 #[va, vb] w fun e w' => ∃ g c, e = .returned (.slice (some ⟨g, 0, none⟩) N c) ∧ RdB w' (.slice (some ⟨g, 0, none⟩) N c) (meetL A B) ∧ Below w.heap.size w w' := by
  subst hA
  refine (meet_any A B va vb h0 hn hB ha hb).mono ?_
  rintro e w' ⟨⟨v, rfl, hro⟩, hb'⟩
  have hl := meetL_len hB
  have h := RdB.of hro (by omega)
  obtain ⟨g, c, rfl, _⟩ := h.len hl
  exact ⟨g, c, rfl, h, hb'⟩
set_option maxRecDepth 100000 in
set_option maxHeartbeats 3200000 in
theorem places_85 (b cp : Nat) (y0 y1 y2 y3 y4 y5 y6 y7 y8 t0 t1 t2 t3 t4 t5 t6 t7 t8 : Value) (A B : List Bool) (h0 : 0 < L.length) (hn : L.length ≤ 7000) (hl : loop < L.length) (hA : A.length = L.length) (hB : B.length = L.length) (hblk : w.heap[b]? = some (.cells #[y0, y1, y2, y3, y4, y5, y6, y7, y8, t0, t1, t2, t3, t4, t5, t6, t7, t8] 90 (0, 0)))
    (HP : ∀ w', Below w.heap.size w w' → Calls Tryz.prog 45 #[.agg #[y0, y1, y2, y3, y4, y5, y6, y7, y8], .agg #[.slice ao L.length cap, .int .i64 loop]] w' (PlPost w' A))
    (HP1 : ∀ w', Below w.heap.size w w' → Calls Tryz.prog 45 #[.agg #[t0, t1, t2, t3, t4, t5, t6, t7, t8], .agg #[.slice ao L.length cap, .int .i64 loop]] w' (PlPost w' B)) :
    Calls Tryz.prog 45 #[.agg #[.int .u8 85, .int .i64 0, .int .i64 0, .int .i64 0, .int .i64 0, .int .i64 0, .int .i64 0, .int .u8 0, .slice (some ⟨b, 0, none⟩) 2 cp], .agg #[.slice ao L.length cap, .int .i64 loop]] w (PlPost w (untL A B loop false)) := by
  have hbl := lt_of_block hblk
  have HBlk : Put (_) := ⟨hblk⟩
  have HPl : Put (_) := ⟨HP⟩
  have HPl1 : Put (_) := ⟨HP1⟩
  clear hblk HP HP1
  obtain ⟨j0, hi, hz0, hz1, hz2⟩ := info_parts infoB
  have HBX : Put (_ ∧ _ ∧ _) := ⟨heap_alloc_new (w.alloc (.cells #[.int .u8 85, .int .i64 0, .int .i64 0, .int .i64 0, .int .i64 0, .int .i64 0, .int .i64 0, .int .u8 0, .slice (some ⟨b, 0, none⟩) 2 cp] 90)) (.cells #[.slice ao L.length cap, .int .i64 loop] 46), (Below.heap_alloc _ (.cells #[.slice ao L.length cap, .int .i64 loop] 46) _ (by simp)).trans (heap_alloc_new w (.cells #[.int .u8 85, .int .i64 0, .int .i64 0, .int .i64 0, .int .i64 0, .int .i64 0, .int .i64 0, .int .u8 0, .slice (some ⟨b, 0, none⟩) 2 cp] 90)), ((Below.refl w.heap.size w).alloc (Nat.le_refl _) (.cells #[.int .u8 85, .int .i64 0, .int .i64 0, .int .i64 0, .int .i64 0, .int .i64 0, .int .i64 0, .int .u8 0, .slice (some ⟨b, 0, none⟩) 2 cp] 90)).alloc (by simp) (.cells #[.slice ao L.length cap, .int .i64 loop] 46)⟩
  rw [World.size_alloc] at HBX
  go_enter Tryz.func45, Tryz.ntmps45
  go_wp2_with (at_make; refine wpList_make_full _ rfl _ _ 105 rfl w.heap.size 4 j0 _ 1 Tryz.underlying105 hi hz0 hz1 .i64 .i64 _ _ L.length rfl rfl rfl rfl (by rw [hz2]; omega) (by unfold maxLen; omega) (by simp; omega) ?_)
  intro w2 hown hgr
  rw [made_bls] at hown
  have hB2 : Below w.heap.size w w2 := HBX.out.2.2.grown hgr (by simp; omega) (fun k h => by cases h)
  have hx2 := (hgr.block (w.heap.size + 1) (by simp) (by simp)).trans HBX.out.1
  have hy2 := (hgr.block w.heap.size (by simp; omega) (by simp)).trans HBX.out.2.1
  have HO : Put (_) := ⟨hown⟩
  have HB2 : Put (_) := ⟨hB2⟩
  have HX2 : Put (_) := ⟨hx2⟩
  have HY2 : Put (_) := ⟨hy2⟩
  have o2 := (blk9 hy2).1.1
  have o8 := (blk9 hy2).1.2.2.2.2.2.2.2.2
  have x0 := two_cell0 hx2
  have x1 := two_cell1 hx2
  clear hown hgr hB2 hx2 hy2 HBX
  have hbk2 := (HB2.out.block b hbl).trans HBlk.out
  have n0 : w2.cell? ⟨b, 0, none⟩ = some y0 := by simp [World.cell?, hbk2]
  have n1 : w2.cell? ⟨b, 1, none⟩ = some y1 := by simp [World.cell?, hbk2]
  have n2 : w2.cell? ⟨b, 2, none⟩ = some y2 := by simp [World.cell?, hbk2]
  have n3 : w2.cell? ⟨b, 3, none⟩ = some y3 := by simp [World.cell?, hbk2]
  have n4 : w2.cell? ⟨b, 4, none⟩ = some y4 := by simp [World.cell?, hbk2]
  have n5 : w2.cell? ⟨b, 5, none⟩ = some y5 := by simp [World.cell?, hbk2]
  have n6 : w2.cell? ⟨b, 6, none⟩ = some y6 := by simp [World.cell?, hbk2]
  have n7 : w2.cell? ⟨b, 7, none⟩ = some y7 := by simp [World.cell?, hbk2]
  have n8 : w2.cell? ⟨b, 8, none⟩ = some y8 := by simp [World.cell?, hbk2]
  clear hbk2
  have HCr : Put (_) := ⟨HPl.out w2.drew HB2.out.drew⟩
  unfold PlPost at HCr
  have lx := lt_of_block HX2.out
  have ly := lt_of_block HY2.out
  have lo : w.heap.size + 1 + 1 < w2.heap.size := by
    have h := HO.out
    have e : (List.replicate L.length false).length = L.length := by simp
    obtain ⟨g, c, e', _, h2, _⟩ := bls_at (l := List.replicate L.length false) (by rw [e]; exact h) (by simp; omega)
    obtain ⟨rfl, _⟩ : w.heap.size + 1 + 1 = g ∧ _ := by simpa using e'
    exact h2
  go_wp2_with fail
  go_region_law ((go_simp; go_at_call 45; refine HCr.out.mono ?_; rintro e w3 ⟨⟨v, rfl, hro⟩, hb3⟩; obtain ⟨ga, ca, rfl, hgl, hga, hca, hcA⟩ := bls_at hro (by omega); have HB3 : Put (_) := ⟨hb3⟩; have HCA : Put (_) := ⟨hcA⟩; clear hro hb3 hcA; rw [hA]; rw [hA] at hca))
  all_goals
    have HRA : Put (RdB w3 (.slice (some ⟨ga, 0, none⟩) L.length ca) A) := ⟨ga, ca, by rw [hA], hga, by omega, HCA.out⟩
    have HBw : Put (Below w.heap.size w w3) := ⟨HB2.out.drew.trans (HB3.out.mono HB2.out.size)⟩
    have HX3 : Put (_) := ⟨(HB3.out.block _ lx).trans HX2.out⟩
    have HY3 : Put (_) := ⟨(HB3.out.block _ ly).trans HY2.out⟩
    have HO3 : Put (_) := ⟨HB3.out.ownsRow' (show w2.drew.ownsRow _ _ _ _ _ _ from HO.out)⟩
    have p2 := (blk9 HY3.out).1.1
    have p8 := (blk9 HY3.out).1.2.2.2.2.2.2.2.2
    have z0 := two_cell0 HX3.out
    have z1 := two_cell1 HX3.out
    have lz := lt_of_block HX3.out
    have HRAd : Put (RdB w3.drew (.slice (some ⟨ga, 0, none⟩) L.length ca) A) := ⟨HRA.out⟩
    have HZ : Put (∀ w4, Below w3.drew.heap.size w3.drew w4 → w4.cell? ⟨w.heap.size + 1, 0, none⟩ = some (.slice ao L.length cap) ∧ w4.cell? ⟨w.heap.size + 1, 1, none⟩ = some (.int .i64 loop) ∧ RdB w4 (.slice (some ⟨ga, 0, none⟩) L.length ca) A) := ⟨fun w4 hb4 => ⟨(hb4.cell (p := ⟨w.heap.size + 1, 0, none⟩) lz).trans z0, (hb4.cell (p := ⟨w.heap.size + 1, 1, none⟩) lz).trans z1, HRAd.out.below hb4⟩⟩
    have ly3 := lt_of_block HY3.out
    clear HO HB2 HX2 HY2 o2 o8 x0 x1 n0 n1 n2 n3 n4 n5 n6 n7 n8 HB3 HCr
    have hbk3 := (HBw.out.block b hbl).trans HBlk.out
    have n0 : w3.cell? ⟨b, 9, none⟩ = some t0 := by simp [World.cell?, hbk3]
    have n1 : w3.cell? ⟨b, 10, none⟩ = some t1 := by simp [World.cell?, hbk3]
    have n2 : w3.cell? ⟨b, 11, none⟩ = some t2 := by simp [World.cell?, hbk3]
    have n3 : w3.cell? ⟨b, 12, none⟩ = some t3 := by simp [World.cell?, hbk3]
    have n4 : w3.cell? ⟨b, 13, none⟩ = some t4 := by simp [World.cell?, hbk3]
    have n5 : w3.cell? ⟨b, 14, none⟩ = some t5 := by simp [World.cell?, hbk3]
    have n6 : w3.cell? ⟨b, 15, none⟩ = some t6 := by simp [World.cell?, hbk3]
    have n7 : w3.cell? ⟨b, 16, none⟩ = some t7 := by simp [World.cell?, hbk3]
    have n8 : w3.cell? ⟨b, 17, none⟩ = some t8 := by simp [World.cell?, hbk3]
    have HCr : Put (_) := ⟨HPl1.out w3.drew HBw.out.drew⟩
    unfold PlPost at HCr
    clear hbk3
    go_wp2_with fail
    go_region_law ((go_simp; go_at_call 45; refine HCr.out.mono ?_; rintro e w4 ⟨⟨v, rfl, hro⟩, hb4⟩; obtain ⟨gb, cb, rfl, hgl', hgb, hcb, hcB⟩ := bls_at hro (by omega); have HB4 : Put (_) := ⟨hb4⟩; have HCB : Put (_) := ⟨hcB⟩; clear hro hb4 hcB; rw [hB]; rw [hB] at hcb))
    all_goals
      have HRB : Put (RdB w4 (.slice (some ⟨gb, 0, none⟩) L.length cb) B) := ⟨gb, cb, by rw [hB], hgb, by omega, HCB.out⟩
      have HRA4 : Put (RdB w4 (.slice (some ⟨ga, 0, none⟩) L.length ca) A) := ⟨HRAd.out.below HB4.out⟩
      have HBw4 : Put (Below w.heap.size w w4) := ⟨HBw.out.drew.trans (HB4.out.mono HBw.out.size)⟩
      have HX4 : Put (_) := ⟨(HB4.out.block _ lz).trans HX3.out⟩
      have HY4 : Put (_) := ⟨(HB4.out.block _ ly3).trans HY3.out⟩
      have HO4 : Put (_) := ⟨HB4.out.ownsRow' (show w3.drew.ownsRow _ _ _ _ _ _ from HO3.out)⟩
      clear p2 p8 z0 z1 HZ
      have p2 := (blk9 HY4.out).1.1
      have z0 := two_cell0 HX4.out
      have z1 := two_cell1 HX4.out
      have lz4 := lt_of_block HX4.out
      have ly4 := lt_of_block HY4.out
      clear n0 n1 n2 n3 n4 n5 n6 n7 n8 HCr HB4
      go_wp2_with fail
      refine (until_N L.length A B hA hB _ _ false h0 hn hl HRA4.out HRB.out).mono ?_
      rintro e w5 ⟨⟨v5, rfl, hro5⟩, hb5⟩
      have HFin : Put (PlPost w (untL A B loop false) (.returned v5) w5) := ⟨⟨v5, rfl, own_base hro5 HBw4.out.size⟩, HBw4.out.trans (hb5.mono HBw4.out.size)⟩
      clear hro5 hb5
      go_wp2
      go_ret
      exact HFin.out
set_option maxRecDepth 100000 in
set_option maxHeartbeats 3200000 in
theorem places_87 (b cp : Nat) (y0 y1 y2 y3 y4 y5 y6 y7 y8 t0 t1 t2 t3 t4 t5 t6 t7 t8 : Value) (A B : List Bool) (h0 : 0 < L.length) (hn : L.length ≤ 7000) (hl : loop < L.length) (hA : A.length = L.length) (hB : B.length = L.length) (hblk : w.heap[b]? = some (.cells #[y0, y1, y2, y3, y4, y5, y6, y7, y8, t0, t1, t2, t3, t4, t5, t6, t7, t8] 90 (0, 0)))
    (HP : ∀ w', Below w.heap.size w w' → Calls Tryz.prog 45 #[.agg #[y0, y1, y2, y3, y4, y5, y6, y7, y8], .agg #[.slice ao L.length cap, .int .i64 loop]] w' (PlPost w' A))
    (HP1 : ∀ w', Below w.heap.size w w' → Calls Tryz.prog 45 #[.agg #[t0, t1, t2, t3, t4, t5, t6, t7, t8], .agg #[.slice ao L.length cap, .int .i64 loop]] w' (PlPost w' B)) :
    Calls Tryz.prog 45 #[.agg #[.int .u8 87, .int .i64 0, .int .i64 0, .int .i64 0, .int .i64 0, .int .i64 0, .int .i64 0, .int .u8 0, .slice (some ⟨b, 0, none⟩) 2 cp], .agg #[.slice ao L.length cap, .int .i64 loop]] w (PlPost w (untL A B loop true)) := by
  have hbl := lt_of_block hblk
  have HBlk : Put (_) := ⟨hblk⟩
  have HPl : Put (_) := ⟨HP⟩
  have HPl1 : Put (_) := ⟨HP1⟩
  clear hblk HP HP1
  obtain ⟨j0, hi, hz0, hz1, hz2⟩ := info_parts infoB
  have HBX : Put (_ ∧ _ ∧ _) := ⟨heap_alloc_new (w.alloc (.cells #[.int .u8 87, .int .i64 0, .int .i64 0, .int .i64 0, .int .i64 0, .int .i64 0, .int .i64 0, .int .u8 0, .slice (some ⟨b, 0, none⟩) 2 cp] 90)) (.cells #[.slice ao L.length cap, .int .i64 loop] 46), (Below.heap_alloc _ (.cells #[.slice ao L.length cap, .int .i64 loop] 46) _ (by simp)).trans (heap_alloc_new w (.cells #[.int .u8 87, .int .i64 0, .int .i64 0, .int .i64 0, .int .i64 0, .int .i64 0, .int .i64 0, .int .u8 0, .slice (some ⟨b, 0, none⟩) 2 cp] 90)), ((Below.refl w.heap.size w).alloc (Nat.le_refl _) (.cells #[.int .u8 87, .int .i64 0, .int .i64 0, .int .i64 0, .int .i64 0, .int .i64 0, .int .i64 0, .int .u8 0, .slice (some ⟨b, 0, none⟩) 2 cp] 90)).alloc (by simp) (.cells #[.slice ao L.length cap, .int .i64 loop] 46)⟩
  rw [World.size_alloc] at HBX
  go_enter Tryz.func45, Tryz.ntmps45
  go_wp2_with (at_make; refine wpList_make_full _ rfl _ _ 105 rfl w.heap.size 4 j0 _ 1 Tryz.underlying105 hi hz0 hz1 .i64 .i64 _ _ L.length rfl rfl rfl rfl (by rw [hz2]; omega) (by unfold maxLen; omega) (by simp; omega) ?_)
  intro w2 hown hgr
  rw [made_bls] at hown
  have hB2 : Below w.heap.size w w2 := HBX.out.2.2.grown hgr (by simp; omega) (fun k h => by cases h)
  have hx2 := (hgr.block (w.heap.size + 1) (by simp) (by simp)).trans HBX.out.1
  have hy2 := (hgr.block w.heap.size (by simp; omega) (by simp)).trans HBX.out.2.1
  have HO : Put (_) := ⟨hown⟩
  have HB2 : Put (_) := ⟨hB2⟩
  have HX2 : Put (_) := ⟨hx2⟩
  have HY2 : Put (_) := ⟨hy2⟩
  have o2 := (blk9 hy2).1.1
  have o8 := (blk9 hy2).1.2.2.2.2.2.2.2.2
  have x0 := two_cell0 hx2
  have x1 := two_cell1 hx2
  clear hown hgr hB2 hx2 hy2 HBX
  have hbk2 := (HB2.out.block b hbl).trans HBlk.out
  have n0 : w2.cell? ⟨b, 0, none⟩ = some y0 := by simp [World.cell?, hbk2]
  have n1 : w2.cell? ⟨b, 1, none⟩ = some y1 := by simp [World.cell?, hbk2]
  have n2 : w2.cell? ⟨b, 2, none⟩ = some y2 := by simp [World.cell?, hbk2]
  have n3 : w2.cell? ⟨b, 3, none⟩ = some y3 := by simp [World.cell?, hbk2]
  have n4 : w2.cell? ⟨b, 4, none⟩ = some y4 := by simp [World.cell?, hbk2]
  have n5 : w2.cell? ⟨b, 5, none⟩ = some y5 := by simp [World.cell?, hbk2]
  have n6 : w2.cell? ⟨b, 6, none⟩ = some y6 := by simp [World.cell?, hbk2]
  have n7 : w2.cell? ⟨b, 7, none⟩ = some y7 := by simp [World.cell?, hbk2]
  have n8 : w2.cell? ⟨b, 8, none⟩ = some y8 := by simp [World.cell?, hbk2]
  clear hbk2
  have HCr : Put (_) := ⟨HPl.out w2.drew HB2.out.drew⟩
  unfold PlPost at HCr
  have lx := lt_of_block HX2.out
  have ly := lt_of_block HY2.out
  have lo : w.heap.size + 1 + 1 < w2.heap.size := by
    have h := HO.out
    have e : (List.replicate L.length false).length = L.length := by simp
    obtain ⟨g, c, e', _, h2, _⟩ := bls_at (l := List.replicate L.length false) (by rw [e]; exact h) (by simp; omega)
    obtain ⟨rfl, _⟩ : w.heap.size + 1 + 1 = g ∧ _ := by simpa using e'
    exact h2
  go_wp2_with fail
  go_region_law ((go_simp; go_at_call 45; refine HCr.out.mono ?_; rintro e w3 ⟨⟨v, rfl, hro⟩, hb3⟩; obtain ⟨ga, ca, rfl, hgl, hga, hca, hcA⟩ := bls_at hro (by omega); have HB3 : Put (_) := ⟨hb3⟩; have HCA : Put (_) := ⟨hcA⟩; clear hro hb3 hcA; rw [hA]; rw [hA] at hca))
  all_goals
    have HRA : Put (RdB w3 (.slice (some ⟨ga, 0, none⟩) L.length ca) A) := ⟨ga, ca, by rw [hA], hga, by omega, HCA.out⟩
    have HBw : Put (Below w.heap.size w w3) := ⟨HB2.out.drew.trans (HB3.out.mono HB2.out.size)⟩
    have HX3 : Put (_) := ⟨(HB3.out.block _ lx).trans HX2.out⟩
    have HY3 : Put (_) := ⟨(HB3.out.block _ ly).trans HY2.out⟩
    have HO3 : Put (_) := ⟨HB3.out.ownsRow' (show w2.drew.ownsRow _ _ _ _ _ _ from HO.out)⟩
    have p2 := (blk9 HY3.out).1.1
    have p8 := (blk9 HY3.out).1.2.2.2.2.2.2.2.2
    have z0 := two_cell0 HX3.out
    have z1 := two_cell1 HX3.out
    have lz := lt_of_block HX3.out
    have HRAd : Put (RdB w3.drew (.slice (some ⟨ga, 0, none⟩) L.length ca) A) := ⟨HRA.out⟩
    have HZ : Put (∀ w4, Below w3.drew.heap.size w3.drew w4 → w4.cell? ⟨w.heap.size + 1, 0, none⟩ = some (.slice ao L.length cap) ∧ w4.cell? ⟨w.heap.size + 1, 1, none⟩ = some (.int .i64 loop) ∧ RdB w4 (.slice (some ⟨ga, 0, none⟩) L.length ca) A) := ⟨fun w4 hb4 => ⟨(hb4.cell (p := ⟨w.heap.size + 1, 0, none⟩) lz).trans z0, (hb4.cell (p := ⟨w.heap.size + 1, 1, none⟩) lz).trans z1, HRAd.out.below hb4⟩⟩
    have ly3 := lt_of_block HY3.out
    clear HO HB2 HX2 HY2 o2 o8 x0 x1 n0 n1 n2 n3 n4 n5 n6 n7 n8 HB3 HCr
    have hbk3 := (HBw.out.block b hbl).trans HBlk.out
    have n0 : w3.cell? ⟨b, 9, none⟩ = some t0 := by simp [World.cell?, hbk3]
    have n1 : w3.cell? ⟨b, 10, none⟩ = some t1 := by simp [World.cell?, hbk3]
    have n2 : w3.cell? ⟨b, 11, none⟩ = some t2 := by simp [World.cell?, hbk3]
    have n3 : w3.cell? ⟨b, 12, none⟩ = some t3 := by simp [World.cell?, hbk3]
    have n4 : w3.cell? ⟨b, 13, none⟩ = some t4 := by simp [World.cell?, hbk3]
    have n5 : w3.cell? ⟨b, 14, none⟩ = some t5 := by simp [World.cell?, hbk3]
    have n6 : w3.cell? ⟨b, 15, none⟩ = some t6 := by simp [World.cell?, hbk3]
    have n7 : w3.cell? ⟨b, 16, none⟩ = some t7 := by simp [World.cell?, hbk3]
    have n8 : w3.cell? ⟨b, 17, none⟩ = some t8 := by simp [World.cell?, hbk3]
    have HCr : Put (_) := ⟨HPl1.out w3.drew HBw.out.drew⟩
    unfold PlPost at HCr
    clear hbk3
    go_wp2_with fail
    go_region_law ((go_simp; go_at_call 45; refine HCr.out.mono ?_; rintro e w4 ⟨⟨v, rfl, hro⟩, hb4⟩; obtain ⟨gb, cb, rfl, hgl', hgb, hcb, hcB⟩ := bls_at hro (by omega); have HB4 : Put (_) := ⟨hb4⟩; have HCB : Put (_) := ⟨hcB⟩; clear hro hb4 hcB; rw [hB]; rw [hB] at hcb))
    all_goals
      have HRB : Put (RdB w4 (.slice (some ⟨gb, 0, none⟩) L.length cb) B) := ⟨gb, cb, by rw [hB], hgb, by omega, HCB.out⟩
      have HRA4 : Put (RdB w4 (.slice (some ⟨ga, 0, none⟩) L.length ca) A) := ⟨HRAd.out.below HB4.out⟩
      have HBw4 : Put (Below w.heap.size w w4) := ⟨HBw.out.drew.trans (HB4.out.mono HBw.out.size)⟩
      have HX4 : Put (_) := ⟨(HB4.out.block _ lz).trans HX3.out⟩
      have HY4 : Put (_) := ⟨(HB4.out.block _ ly3).trans HY3.out⟩
      have HO4 : Put (_) := ⟨HB4.out.ownsRow' (show w3.drew.ownsRow _ _ _ _ _ _ from HO3.out)⟩
      clear p2 p8 z0 z1 HZ
      have p2 := (blk9 HY4.out).1.1
      have z0 := two_cell0 HX4.out
      have z1 := two_cell1 HX4.out
      have lz4 := lt_of_block HX4.out
      have ly4 := lt_of_block HY4.out
      clear n0 n1 n2 n3 n4 n5 n6 n7 n8 HCr HB4
      go_wp2_with fail
      refine (until_N L.length A B hA hB _ _ true h0 hn hl HRA4.out HRB.out).mono ?_
      rintro e w5 ⟨⟨v5, rfl, hro5⟩, hb5⟩
      have HFin : Put (PlPost w (untL A B loop true) (.returned v5) w5) := ⟨⟨v5, rfl, own_base hro5 HBw4.out.size⟩, HBw4.out.trans (hb5.mono HBw4.out.size)⟩
      clear hro5 hb5
      go_wp2
      go_ret
      exact HFin.out
set_option maxRecDepth 100000 in
set_option maxHeartbeats 3200000 in
theorem places_82 (b cp : Nat) (y0 y1 y2 y3 y4 y5 y6 y7 y8 t0 t1 t2 t3 t4 t5 t6 t7 t8 : Value) (A B : List Bool) (h0 : 0 < L.length) (hn : L.length ≤ 7000) (hl : loop < L.length) (hA : A.length = L.length) (hB : B.length = L.length) (hblk : w.heap[b]? = some (.cells #[y0, y1, y2, y3, y4, y5, y6, y7, y8, t0, t1, t2, t3, t4, t5, t6, t7, t8] 90 (0, 0)))
    (HP : ∀ w', Below w.heap.size w w' → Calls Tryz.prog 45 #[.agg #[y0, y1, y2, y3, y4, y5, y6, y7, y8], .agg #[.slice ao L.length cap, .int .i64 loop]] w' (PlPost w' A))
    (HP1 : ∀ w', Below w.heap.size w w' → Calls Tryz.prog 45 #[.agg #[t0, t1, t2, t3, t4, t5, t6, t7, t8], .agg #[.slice ao L.length cap, .int .i64 loop]] w' (PlPost w' B)) :
    Calls Tryz.prog 45 #[.agg #[.int .u8 82, .int .i64 0, .int .i64 0, .int .i64 0, .int .i64 0, .int .i64 0, .int .i64 0, .int .u8 0, .slice (some ⟨b, 0, none⟩) 2 cp], .agg #[.slice ao L.length cap, .int .i64 loop]] w (PlPost w (untL B (meetL A B) loop true)) := by
  have hbl := lt_of_block hblk
  have HBlk : Put (_) := ⟨hblk⟩
  have HPl : Put (_) := ⟨HP⟩
  have HPl1 : Put (_) := ⟨HP1⟩
  clear hblk HP HP1
  obtain ⟨j0, hi, hz0, hz1, hz2⟩ := info_parts infoB
  have HBX : Put (_ ∧ _ ∧ _) := ⟨heap_alloc_new (w.alloc (.cells #[.int .u8 82, .int .i64 0, .int .i64 0, .int .i64 0, .int .i64 0, .int .i64 0, .int .i64 0, .int .u8 0, .slice (some ⟨b, 0, none⟩) 2 cp] 90)) (.cells #[.slice ao L.length cap, .int .i64 loop] 46), (Below.heap_alloc _ (.cells #[.slice ao L.length cap, .int .i64 loop] 46) _ (by simp)).trans (heap_alloc_new w (.cells #[.int .u8 82, .int .i64 0, .int .i64 0, .int .i64 0, .int .i64 0, .int .i64 0, .int .i64 0, .int .u8 0, .slice (some ⟨b, 0, none⟩) 2 cp] 90)), ((Below.refl w.heap.size w).alloc (Nat.le_refl _) (.cells #[.int .u8 82, .int .i64 0, .int .i64 0, .int .i64 0, .int .i64 0, .int .i64 0, .int .i64 0, .int .u8 0, .slice (some ⟨b, 0, none⟩) 2 cp] 90)).alloc (by simp) (.cells #[.slice ao L.length cap, .int .i64 loop] 46)⟩
  rw [World.size_alloc] at HBX
  go_enter Tryz.func45, Tryz.ntmps45
  go_wp2_with (at_make; refine wpList_make_full _ rfl _ _ 105 rfl w.heap.size 4 j0 _ 1 Tryz.underlying105 hi hz0 hz1 .i64 .i64 _ _ L.length rfl rfl rfl rfl (by rw [hz2]; omega) (by unfold maxLen; omega) (by simp; omega) ?_)
  intro w2 hown hgr
  rw [made_bls] at hown
  have hB2 : Below w.heap.size w w2 := HBX.out.2.2.grown hgr (by simp; omega) (fun k h => by cases h)
  have hx2 := (hgr.block (w.heap.size + 1) (by simp) (by simp)).trans HBX.out.1
  have hy2 := (hgr.block w.heap.size (by simp; omega) (by simp)).trans HBX.out.2.1
  have HO : Put (_) := ⟨hown⟩
  have HB2 : Put (_) := ⟨hB2⟩
  have HX2 : Put (_) := ⟨hx2⟩
  have HY2 : Put (_) := ⟨hy2⟩
  have o2 := (blk9 hy2).1.1
  have o8 := (blk9 hy2).1.2.2.2.2.2.2.2.2
  have x0 := two_cell0 hx2
  have x1 := two_cell1 hx2
  clear hown hgr hB2 hx2 hy2 HBX
  have hbk2 := (HB2.out.block b hbl).trans HBlk.out
  have n0 : w2.cell? ⟨b, 0, none⟩ = some y0 := by simp [World.cell?, hbk2]
  have n1 : w2.cell? ⟨b, 1, none⟩ = some y1 := by simp [World.cell?, hbk2]
  have n2 : w2.cell? ⟨b, 2, none⟩ = some y2 := by simp [World.cell?, hbk2]
  have n3 : w2.cell? ⟨b, 3, none⟩ = some y3 := by simp [World.cell?, hbk2]
  have n4 : w2.cell? ⟨b, 4, none⟩ = some y4 := by simp [World.cell?, hbk2]
  have n5 : w2.cell? ⟨b, 5, none⟩ = some y5 := by simp [World.cell?, hbk2]
  have n6 : w2.cell? ⟨b, 6, none⟩ = some y6 := by simp [World.cell?, hbk2]
  have n7 : w2.cell? ⟨b, 7, none⟩ = some y7 := by simp [World.cell?, hbk2]
  have n8 : w2.cell? ⟨b, 8, none⟩ = some y8 := by simp [World.cell?, hbk2]
  clear hbk2
  have HCr : Put (_) := ⟨HPl.out w2.drew HB2.out.drew⟩
  unfold PlPost at HCr
  have lx := lt_of_block HX2.out
  have ly := lt_of_block HY2.out
  have lo : w.heap.size + 1 + 1 < w2.heap.size := by
    have h := HO.out
    have e : (List.replicate L.length false).length = L.length := by simp
    obtain ⟨g, c, e', _, h2, _⟩ := bls_at (l := List.replicate L.length false) (by rw [e]; exact h) (by simp; omega)
    obtain ⟨rfl, _⟩ : w.heap.size + 1 + 1 = g ∧ _ := by simpa using e'
    exact h2
  go_wp2_with fail
  go_region_law ((go_simp; go_at_call 45; refine HCr.out.mono ?_; rintro e w3 ⟨⟨v, rfl, hro⟩, hb3⟩; obtain ⟨ga, ca, rfl, hgl, hga, hca, hcA⟩ := bls_at hro (by omega); have HB3 : Put (_) := ⟨hb3⟩; have HCA : Put (_) := ⟨hcA⟩; clear hro hb3 hcA; rw [hA]; rw [hA] at hca))
  all_goals
    have HRA : Put (RdB w3 (.slice (some ⟨ga, 0, none⟩) L.length ca) A) := ⟨ga, ca, by rw [hA], hga, by omega, HCA.out⟩
    have HBw : Put (Below w.heap.size w w3) := ⟨HB2.out.drew.trans (HB3.out.mono HB2.out.size)⟩
    have HX3 : Put (_) := ⟨(HB3.out.block _ lx).trans HX2.out⟩
    have HY3 : Put (_) := ⟨(HB3.out.block _ ly).trans HY2.out⟩
    have HO3 : Put (_) := ⟨HB3.out.ownsRow' (show w2.drew.ownsRow _ _ _ _ _ _ from HO.out)⟩
    have p2 := (blk9 HY3.out).1.1
    have p8 := (blk9 HY3.out).1.2.2.2.2.2.2.2.2
    have z0 := two_cell0 HX3.out
    have z1 := two_cell1 HX3.out
    have lz := lt_of_block HX3.out
    have HRAd : Put (RdB w3.drew (.slice (some ⟨ga, 0, none⟩) L.length ca) A) := ⟨HRA.out⟩
    have HZ : Put (∀ w4, Below w3.drew.heap.size w3.drew w4 → w4.cell? ⟨w.heap.size + 1, 0, none⟩ = some (.slice ao L.length cap) ∧ w4.cell? ⟨w.heap.size + 1, 1, none⟩ = some (.int .i64 loop) ∧ RdB w4 (.slice (some ⟨ga, 0, none⟩) L.length ca) A) := ⟨fun w4 hb4 => ⟨(hb4.cell (p := ⟨w.heap.size + 1, 0, none⟩) lz).trans z0, (hb4.cell (p := ⟨w.heap.size + 1, 1, none⟩) lz).trans z1, HRAd.out.below hb4⟩⟩
    have ly3 := lt_of_block HY3.out
    clear HO HB2 HX2 HY2 o2 o8 x0 x1 n0 n1 n2 n3 n4 n5 n6 n7 n8 HB3 HCr
    have hbk3 := (HBw.out.block b hbl).trans HBlk.out
    have n0 : w3.cell? ⟨b, 9, none⟩ = some t0 := by simp [World.cell?, hbk3]
    have n1 : w3.cell? ⟨b, 10, none⟩ = some t1 := by simp [World.cell?, hbk3]
    have n2 : w3.cell? ⟨b, 11, none⟩ = some t2 := by simp [World.cell?, hbk3]
    have n3 : w3.cell? ⟨b, 12, none⟩ = some t3 := by simp [World.cell?, hbk3]
    have n4 : w3.cell? ⟨b, 13, none⟩ = some t4 := by simp [World.cell?, hbk3]
    have n5 : w3.cell? ⟨b, 14, none⟩ = some t5 := by simp [World.cell?, hbk3]
    have n6 : w3.cell? ⟨b, 15, none⟩ = some t6 := by simp [World.cell?, hbk3]
    have n7 : w3.cell? ⟨b, 16, none⟩ = some t7 := by simp [World.cell?, hbk3]
    have n8 : w3.cell? ⟨b, 17, none⟩ = some t8 := by simp [World.cell?, hbk3]
    have HCr : Put (_) := ⟨HPl1.out w3.drew HBw.out.drew⟩
    unfold PlPost at HCr
    clear hbk3
    go_wp2_with fail
    go_region_law ((go_simp; go_at_call 45; refine HCr.out.mono ?_; rintro e w4 ⟨⟨v, rfl, hro⟩, hb4⟩; obtain ⟨gb, cb, rfl, hgl', hgb, hcb, hcB⟩ := bls_at hro (by omega); have HB4 : Put (_) := ⟨hb4⟩; have HCB : Put (_) := ⟨hcB⟩; clear hro hb4 hcB; rw [hB]; rw [hB] at hcb))
    all_goals
      have HRB : Put (RdB w4 (.slice (some ⟨gb, 0, none⟩) L.length cb) B) := ⟨gb, cb, by rw [hB], hgb, by omega, HCB.out⟩
      have HRA4 : Put (RdB w4 (.slice (some ⟨ga, 0, none⟩) L.length ca) A) := ⟨HRAd.out.below HB4.out⟩
      have HBw4 : Put (Below w.heap.size w w4) := ⟨HBw.out.drew.trans (HB4.out.mono HBw.out.size)⟩
      have HX4 : Put (_) := ⟨(HB4.out.block _ lz).trans HX3.out⟩
      have HY4 : Put (_) := ⟨(HB4.out.block _ ly3).trans HY3.out⟩
      have HO4 : Put (_) := ⟨HB4.out.ownsRow' (show w3.drew.ownsRow _ _ _ _ _ _ from HO3.out)⟩
      clear p2 p8 z0 z1 HZ
      have p2 := (blk9 HY4.out).1.1
      have z0 := two_cell0 HX4.out
      have z1 := two_cell1 HX4.out
      have lz4 := lt_of_block HX4.out
      have ly4 := lt_of_block HY4.out
      clear n0 n1 n2 n3 n4 n5 n6 n7 n8 HCr HB4
      have HMl : Put ((meetL A B).length = L.length) := ⟨by rw [meetL_len (by omega)]; exact hA⟩
      have HZ4 : Put (∀ w5, Below w4.drew.heap.size w4.drew w5 → w5.cell? ⟨w.heap.size + 1, 0, none⟩ = some (.slice ao L.length cap) ∧ w5.cell? ⟨w.heap.size + 1, 1, none⟩ = some (.int .i64 loop) ∧ RdB w5 (.slice (some ⟨gb, 0, none⟩) L.length cb) B) := ⟨fun w5 hb5 => ⟨(hb5.cell (p := ⟨w.heap.size + 1, 0, none⟩) lz4).trans z0, (hb5.cell (p := ⟨w.heap.size + 1, 1, none⟩) lz4).trans z1, RdB.below (w := w4.drew) HRB.out hb5⟩⟩
      have HMc : Put (_) := ⟨meet_N (w := w4.drew) L.length A B hA hB _ _ h0 hn HRA4.out HRB.out⟩
      go_wp2_with fail
      go_region_law (first
        | (go_simp; go_at_call 69; refine (until_N L.length B (meetL A B) hB HMl.out _ _ true h0 hn hl HRB5.out HRM.out).mono ?_; rintro e w6 ⟨⟨v5, rfl, hro5⟩, hb6⟩; have HRO : Put (_) := ⟨hro5⟩; have HB6 : Put (_) := ⟨hb6⟩; clear hro5 hb6)
        | (go_simp; go_at_call 71; refine HMc.out.mono ?_; rintro e w5 ⟨gm, cm, rfl, hrm, hb5⟩; have HRM : Put (_) := ⟨hrm⟩; obtain ⟨q0, q1, hrb5⟩ := HZ4.out w5 hb5; have HRB5 : Put (_) := ⟨hrb5⟩; have HB5 : Put (_) := ⟨hb5⟩; clear hrm hb5 hrb5))
      all_goals
        have hb45 : Below w.heap.size w w5 := HBw4.out.drew.trans (HB5.out.mono HBw4.out.size)
        have HFin : Put (PlPost w (untL B (meetL A B) loop true) (.returned v5) w6) := ⟨⟨v5, rfl, own_base HRO.out hb45.size⟩, hb45.trans (HB6.out.mono hb45.size)⟩
        clear HRO HB5 HB6 hb45
        go_wp2
        go_ret
        exact HFin.out
set_option maxRecDepth 100000 in
set_option maxHeartbeats 3200000 in
theorem places_38 (b cp : Nat) (y0 y1 y2 y3 y4 y5 y6 y7 y8 t0 t1 t2 t3 t4 t5 t6 t7 t8 : Value) (A B : List Bool) (h0 : 0 < L.length) (hn : L.length ≤ 7000) (_hl : loop < L.length) (hA : A.length = L.length) (hB : B.length = L.length) (hblk : w.heap[b]? = some (.cells #[y0, y1, y2, y3, y4, y5, y6, y7, y8, t0, t1, t2, t3, t4, t5, t6, t7, t8] 90 (0, 0)))
    (HP : ∀ w', Below w.heap.size w w' → Calls Tryz.prog 45 #[.agg #[y0, y1, y2, y3, y4, y5, y6, y7, y8], .agg #[.slice ao L.length cap, .int .i64 loop]] w' (PlPost w' A))
    (HP1 : ∀ w', Below w.heap.size w w' → Calls Tryz.prog 45 #[.agg #[t0, t1, t2, t3, t4, t5, t6, t7, t8], .agg #[.slice ao L.length cap, .int .i64 loop]] w' (PlPost w' B)) :
    Calls Tryz.prog 45 #[.agg #[.int .u8 38, .int .i64 0, .int .i64 0, .int .i64 0, .int .i64 0, .int .i64 0, .int .i64 0, .int .u8 0, .slice (some ⟨b, 0, none⟩) 2 cp], .agg #[.slice ao L.length cap, .int .i64 loop]] w (PlPost w (meetL A B)) := by
  have hbl := lt_of_block hblk
  have HBlk : Put (_) := ⟨hblk⟩
  have HPl : Put (_) := ⟨HP⟩
  have HPl1 : Put (_) := ⟨HP1⟩
  clear hblk HP HP1
  obtain ⟨j0, hi, hz0, hz1, hz2⟩ := info_parts infoB
  have HBX : Put (_ ∧ _ ∧ _) := ⟨heap_alloc_new (w.alloc (.cells #[.int .u8 38, .int .i64 0, .int .i64 0, .int .i64 0, .int .i64 0, .int .i64 0, .int .i64 0, .int .u8 0, .slice (some ⟨b, 0, none⟩) 2 cp] 90)) (.cells #[.slice ao L.length cap, .int .i64 loop] 46), (Below.heap_alloc _ (.cells #[.slice ao L.length cap, .int .i64 loop] 46) _ (by simp)).trans (heap_alloc_new w (.cells #[.int .u8 38, .int .i64 0, .int .i64 0, .int .i64 0, .int .i64 0, .int .i64 0, .int .i64 0, .int .u8 0, .slice (some ⟨b, 0, none⟩) 2 cp] 90)), ((Below.refl w.heap.size w).alloc (Nat.le_refl _) (.cells #[.int .u8 38, .int .i64 0, .int .i64 0, .int .i64 0, .int .i64 0, .int .i64 0, .int .i64 0, .int .u8 0, .slice (some ⟨b, 0, none⟩) 2 cp] 90)).alloc (by simp) (.cells #[.slice ao L.length cap, .int .i64 loop] 46)⟩
  rw [World.size_alloc] at HBX
  go_enter Tryz.func45, Tryz.ntmps45
  go_wp2_with (at_make; refine wpList_make_full _ rfl _ _ 105 rfl w.heap.size 4 j0 _ 1 Tryz.underlying105 hi hz0 hz1 .i64 .i64 _ _ L.length rfl rfl rfl rfl (by rw [hz2]; omega) (by unfold maxLen; omega) (by simp; omega) ?_)
  intro w2 hown hgr
  rw [made_bls] at hown
  have hB2 : Below w.heap.size w w2 := HBX.out.2.2.grown hgr (by simp; omega) (fun k h => by cases h)
  have hx2 := (hgr.block (w.heap.size + 1) (by simp) (by simp)).trans HBX.out.1
  have hy2 := (hgr.block w.heap.size (by simp; omega) (by simp)).trans HBX.out.2.1
  have HO : Put (_) := ⟨hown⟩
  have HB2 : Put (_) := ⟨hB2⟩
  have HX2 : Put (_) := ⟨hx2⟩
  have HY2 : Put (_) := ⟨hy2⟩
  have o2 := (blk9 hy2).1.1
  have o8 := (blk9 hy2).1.2.2.2.2.2.2.2.2
  have x0 := two_cell0 hx2
  have x1 := two_cell1 hx2
  clear hown hgr hB2 hx2 hy2 HBX
  have hbk2 := (HB2.out.block b hbl).trans HBlk.out
  have n0 : w2.cell? ⟨b, 0, none⟩ = some y0 := by simp [World.cell?, hbk2]
  have n1 : w2.cell? ⟨b, 1, none⟩ = some y1 := by simp [World.cell?, hbk2]
  have n2 : w2.cell? ⟨b, 2, none⟩ = some y2 := by simp [World.cell?, hbk2]
  have n3 : w2.cell? ⟨b, 3, none⟩ = some y3 := by simp [World.cell?, hbk2]
  have n4 : w2.cell? ⟨b, 4, none⟩ = some y4 := by simp [World.cell?, hbk2]
  have n5 : w2.cell? ⟨b, 5, none⟩ = some y5 := by simp [World.cell?, hbk2]
  have n6 : w2.cell? ⟨b, 6, none⟩ = some y6 := by simp [World.cell?, hbk2]
  have n7 : w2.cell? ⟨b, 7, none⟩ = some y7 := by simp [World.cell?, hbk2]
  have n8 : w2.cell? ⟨b, 8, none⟩ = some y8 := by simp [World.cell?, hbk2]
  clear hbk2
  have HCr : Put (_) := ⟨HPl.out w2.drew HB2.out.drew⟩
  unfold PlPost at HCr
  have lx := lt_of_block HX2.out
  have ly := lt_of_block HY2.out
  have lo : w.heap.size + 1 + 1 < w2.heap.size := by
    have h := HO.out
    have e : (List.replicate L.length false).length = L.length := by simp
    obtain ⟨g, c, e', _, h2, _⟩ := bls_at (l := List.replicate L.length false) (by rw [e]; exact h) (by simp; omega)
    obtain ⟨rfl, _⟩ : w.heap.size + 1 + 1 = g ∧ _ := by simpa using e'
    exact h2
  go_wp2_with fail
  go_region_law ((go_simp; go_at_call 45; refine HCr.out.mono ?_; rintro e w3 ⟨⟨v, rfl, hro⟩, hb3⟩; obtain ⟨ga, ca, rfl, hgl, hga, hca, hcA⟩ := bls_at hro (by omega); have HB3 : Put (_) := ⟨hb3⟩; have HCA : Put (_) := ⟨hcA⟩; clear hro hb3 hcA; rw [hA]; rw [hA] at hca))
  all_goals
    have HRA : Put (RdB w3 (.slice (some ⟨ga, 0, none⟩) L.length ca) A) := ⟨ga, ca, by rw [hA], hga, by omega, HCA.out⟩
    have HBw : Put (Below w.heap.size w w3) := ⟨HB2.out.drew.trans (HB3.out.mono HB2.out.size)⟩
    have HX3 : Put (_) := ⟨(HB3.out.block _ lx).trans HX2.out⟩
    have HY3 : Put (_) := ⟨(HB3.out.block _ ly).trans HY2.out⟩
    have HO3 : Put (_) := ⟨HB3.out.ownsRow' (show w2.drew.ownsRow _ _ _ _ _ _ from HO.out)⟩
    have p2 := (blk9 HY3.out).1.1
    have p8 := (blk9 HY3.out).1.2.2.2.2.2.2.2.2
    have z0 := two_cell0 HX3.out
    have z1 := two_cell1 HX3.out
    have lz := lt_of_block HX3.out
    have HRAd : Put (RdB w3.drew (.slice (some ⟨ga, 0, none⟩) L.length ca) A) := ⟨HRA.out⟩
    have HZ : Put (∀ w4, Below w3.drew.heap.size w3.drew w4 → w4.cell? ⟨w.heap.size + 1, 0, none⟩ = some (.slice ao L.length cap) ∧ w4.cell? ⟨w.heap.size + 1, 1, none⟩ = some (.int .i64 loop) ∧ RdB w4 (.slice (some ⟨ga, 0, none⟩) L.length ca) A) := ⟨fun w4 hb4 => ⟨(hb4.cell (p := ⟨w.heap.size + 1, 0, none⟩) lz).trans z0, (hb4.cell (p := ⟨w.heap.size + 1, 1, none⟩) lz).trans z1, HRAd.out.below hb4⟩⟩
    have ly3 := lt_of_block HY3.out
    clear HO HB2 HX2 HY2 o2 o8 x0 x1 n0 n1 n2 n3 n4 n5 n6 n7 n8 HB3 HCr
    have hbk3 := (HBw.out.block b hbl).trans HBlk.out
    have n0 : w3.cell? ⟨b, 9, none⟩ = some t0 := by simp [World.cell?, hbk3]
    have n1 : w3.cell? ⟨b, 10, none⟩ = some t1 := by simp [World.cell?, hbk3]
    have n2 : w3.cell? ⟨b, 11, none⟩ = some t2 := by simp [World.cell?, hbk3]
    have n3 : w3.cell? ⟨b, 12, none⟩ = some t3 := by simp [World.cell?, hbk3]
    have n4 : w3.cell? ⟨b, 13, none⟩ = some t4 := by simp [World.cell?, hbk3]
    have n5 : w3.cell? ⟨b, 14, none⟩ = some t5 := by simp [World.cell?, hbk3]
    have n6 : w3.cell? ⟨b, 15, none⟩ = some t6 := by simp [World.cell?, hbk3]
    have n7 : w3.cell? ⟨b, 16, none⟩ = some t7 := by simp [World.cell?, hbk3]
    have n8 : w3.cell? ⟨b, 17, none⟩ = some t8 := by simp [World.cell?, hbk3]
    have HCr : Put (_) := ⟨HPl1.out w3.drew HBw.out.drew⟩
    unfold PlPost at HCr
    clear hbk3
    go_wp2_with fail
    go_region_law ((go_simp; go_at_call 45; refine HCr.out.mono ?_; rintro e w4 ⟨⟨v, rfl, hro⟩, hb4⟩; obtain ⟨gb, cb, rfl, hgl', hgb, hcb, hcB⟩ := bls_at hro (by omega); have HB4 : Put (_) := ⟨hb4⟩; have HCB : Put (_) := ⟨hcB⟩; clear hro hb4 hcB; rw [hB]; rw [hB] at hcb))
    all_goals
      have HRB : Put (RdB w4 (.slice (some ⟨gb, 0, none⟩) L.length cb) B) := ⟨gb, cb, by rw [hB], hgb, by omega, HCB.out⟩
      have HRA4 : Put (RdB w4 (.slice (some ⟨ga, 0, none⟩) L.length ca) A) := ⟨HRAd.out.below HB4.out⟩
      have HBw4 : Put (Below w.heap.size w w4) := ⟨HBw.out.drew.trans (HB4.out.mono HBw.out.size)⟩
      have HX4 : Put (_) := ⟨(HB4.out.block _ lz).trans HX3.out⟩
      have HY4 : Put (_) := ⟨(HB4.out.block _ ly3).trans HY3.out⟩
      have HO4 : Put (_) := ⟨HB4.out.ownsRow' (show w3.drew.ownsRow _ _ _ _ _ _ from HO3.out)⟩
      clear p2 p8 z0 z1 HZ
      have p2 := (blk9 HY4.out).1.1
      have z0 := two_cell0 HX4.out
      have z1 := two_cell1 HX4.out
      have lz4 := lt_of_block HX4.out
      have ly4 := lt_of_block HY4.out
      clear n0 n1 n2 n3 n4 n5 n6 n7 n8 HCr HB4
      have HCk : Put (∀ k, k < L.length → w4.cell? ⟨ga, k, none⟩ = some (.bool (at_ A k))) := ⟨fun k hk => by
        obtain ⟨g, c, e, _, _, h⟩ := HRA4.out
        obtain ⟨rfl, _⟩ : ga = g ∧ _ := by simpa using e
        rw [h k (by omega), at_get (by omega)]⟩
      have HCkB : Put (∀ k, k < L.length → w4.cell? ⟨gb, k, none⟩ = some (.bool (at_ B k))) := ⟨fun k hk => by rw [HCB.out k (by omega), at_get (by omega)]⟩
      have ngo : ¬ (ga = w.heap.size + 1 + 1) := by have : w2.heap.size ≤ ga := hgl; omega
      have ngo' : ¬ (gb = w.heap.size + 1 + 1) := by have : w3.heap.size ≤ gb := hgl'; have := HBw.out.size; have : ga < w3.heap.size := hga; have : w2.heap.size ≤ ga := hgl; omega
      obtain ⟨RL, hRL⟩ : ∃ RL, RL = meetL A B := ⟨_, rfl⟩
      have HRl : Put (RL.length = L.length) := ⟨by rw [hRL]; simp [meetL, hA, hB]⟩
      have HRg : Put (∀ i, i < L.length → RL.take (i + 1) = RL.take i ++ [at_ A i && at_ B i]) := ⟨fun i hi => by
        rw [List.take_succ_eq_append_getElem (by rw [HRl.out]; exact hi)]
        simp [hRL, meetL, at_get (l := A) (k := i) (by omega), at_get (l := B) (k := i) (by omega)]⟩
      have HRL : Put (_ = _) := ⟨hRL⟩
      have hga4 : ga < w4.heap.size := by
        obtain ⟨g, c, e, h, _⟩ := HRA4.out
        obtain ⟨rfl, _⟩ : ga = g ∧ _ := by simpa using e
        exact h
      clear hRL HCA HCB hgl hgl' hga
      go_wp2_with fail
      go_loopg [9] L.length (fun gk iv wr => ∃ i : Nat, iv = .int .i64 i ∧ i + gk = L.length ∧ Put (Below w.heap.size w wr) ∧ Put (wr.heap[w.heap.size]? = some (.cells #[.int .u8 38, .int .i64 0, .int .i64 0, .int .i64 0, .int .i64 0, .int .i64 0, .int .i64 0, .int .u8 0, .slice (some ⟨b, 0, none⟩) 2 cp] 90 (0, 0))) ∧ Put (∀ k, k < L.length → wr.cell? ⟨ga, k, none⟩ = some (.bool (at_ A k))) ∧ Put (∀ k, k < L.length → wr.cell? ⟨gb, k, none⟩ = some (.bool (at_ B k))) ∧ Put (wr.ownsRow w.heap.size 4 1 (.slice (some ⟨w.heap.size + 1 + 1, 0, none⟩) L.length L.length) L.length (bls (RL.take i ++ List.replicate gk false))) ∧ ga < wr.heap.size ∧ gb < wr.heap.size)
      case atStart => exact ⟨0, rfl, by omega, HBw4, HY4, HCk, HCkB, HO4, hga4, hgb⟩
      case round =>
        clear HBw HBw4 HY3 HX3 HX4 HY4 HCk HCkB HO3 HO4 p2 z0 z1 lz ly3 lz4 ly4 HRA HRAd HRA4 HRB hga4 hgb
        obtain ⟨i, rfl, hik, HBr, HYr, HCr, HCrB, HO, hga, hgb⟩ := hrel
        obtain ⟨⟨n0, _⟩, _⟩ := blk9 HYr.out
        by_cases hlt : i < L.length
        · have hlt' : (i : Int) < (L.length : Int) := by omega
          have k0 : (0 : Int) ≤ (i : Int) := by omega
          obtain ⟨g', rfl⟩ : ∃ g', gk = g' + 1 := ⟨gk - 1, by omega⟩
          have qa := HCr.out i hlt
          have qb := HCrB.out i hlt
          have HT : Put (_ = _) := ⟨HRg.out i hlt⟩
          obtain ⟨V, hV⟩ : ∃ V, V = (at_ A i && at_ B i) := ⟨_, rfl⟩
          rw [← hV] at HT
          obtain ⟨h1, h2, c1, f1, hnew⟩ := fill_at HO.out (by rw [List.length_take, HRl.out]; omega) hik V
          rw [← HT.out] at hnew
          have HN : Put (_) := ⟨hnew⟩
          have HBn : Put (_) := ⟨HBr.out.setCell (p := ⟨w.heap.size + 1 + 1, i, none⟩) (by show w.heap.size ≤ w.heap.size + 1 + 1; omega) (.bool V)⟩
          have HYn : Put (_) := ⟨(heap_setCell_other wr ⟨w.heap.size + 1 + 1, i, none⟩ w.heap.size (.bool V) (by show w.heap.size ≠ w.heap.size + 1 + 1; omega)).trans HYr.out⟩
          have HCn : Put (∀ k, k < L.length → (wr.setCell ⟨w.heap.size + 1 + 1, i, none⟩ (.bool V)).cell? ⟨ga, k, none⟩ = some (.bool (at_ A k))) := ⟨fun k hk => by
            rw [← HCr.out k hk]; unfold World.cell?; rw [heap_setCell_other _ _ _ _ (by show ga ≠ w.heap.size + 1 + 1; omega)]⟩
          have HCnB : Put (∀ k, k < L.length → (wr.setCell ⟨w.heap.size + 1 + 1, i, none⟩ (.bool V)).cell? ⟨gb, k, none⟩ = some (.bool (at_ B k))) := ⟨fun k hk => by
            rw [← HCrB.out k hk]; unfold World.cell?; rw [heap_setCell_other _ _ _ _ (by show gb ≠ w.heap.size + 1 + 1; omega)]⟩
          clear hnew HO HBr HYr HCr HCrB HT
          generalize at_ A i = x at *
          generalize at_ B i = y at *
          cases x
          · rw [Bool.false_and] at hV
            subst hV
            go_wp2
            go_roundg g'
            case measure => exact Nat.lt_succ_self _
            case rel => exact ⟨i + 1, by go_num, by omega, HBn, HYn, HCn, HCnB, HN, by simpa using hga, by simpa using hgb⟩
          · rw [Bool.true_and] at hV
            subst hV
            go_wp2
            go_roundg g'
            case measure => exact Nat.lt_succ_self _
            case rel => exact ⟨i + 1, by go_num, by omega, HBn, HYn, HCn, HCnB, HN, by simpa using hga, by simpa using hgb⟩
        · obtain rfl : i = L.length := by omega
          have hlt' : ¬ ((L.length : Int) < (L.length : Int)) := by omega
          obtain rfl : gk = 0 := by omega
          have HE : Put (RL.take L.length = RL) := ⟨List.take_of_length_le (by rw [HRl.out]; exact Nat.le_refl _)⟩
          have HFin : Put (PlPost w (meetL A B) (.returned (.slice (some ⟨w.heap.size + 1 + 1, 0, none⟩) L.length L.length)) wr) := ⟨by rw [← HRL.out]; exact ⟨⟨_, rfl, by have := HO.out; rw [HE.out] at this; rw [HRl.out]; simpa using this⟩, HBr.out⟩⟩
          clear HE HO HBr HYr HCr HCrB
          go_wp2
          go_ret
          exact HFin.out
set_option maxRecDepth 100000 in
set_option maxHeartbeats 3200000 in
theorem places_124 (b cp : Nat) (y0 y1 y2 y3 y4 y5 y6 y7 y8 t0 t1 t2 t3 t4 t5 t6 t7 t8 : Value) (A B : List Bool) (h0 : 0 < L.length) (hn : L.length ≤ 7000) (_hl : loop < L.length) (hA : A.length = L.length) (hB : B.length = L.length) (hblk : w.heap[b]? = some (.cells #[y0, y1, y2, y3, y4, y5, y6, y7, y8, t0, t1, t2, t3, t4, t5, t6, t7, t8] 90 (0, 0)))
    (HP : ∀ w', Below w.heap.size w w' → Calls Tryz.prog 45 #[.agg #[y0, y1, y2, y3, y4, y5, y6, y7, y8], .agg #[.slice ao L.length cap, .int .i64 loop]] w' (PlPost w' A))
    (HP1 : ∀ w', Below w.heap.size w w' → Calls Tryz.prog 45 #[.agg #[t0, t1, t2, t3, t4, t5, t6, t7, t8], .agg #[.slice ao L.length cap, .int .i64 loop]] w' (PlPost w' B)) :
    Calls Tryz.prog 45 #[.agg #[.int .u8 124, .int .i64 0, .int .i64 0, .int .i64 0, .int .i64 0, .int .i64 0, .int .i64 0, .int .u8 0, .slice (some ⟨b, 0, none⟩) 2 cp], .agg #[.slice ao L.length cap, .int .i64 loop]] w (PlPost w (List.zipWith (fun a b => a || b) A B)) := by
  have hbl := lt_of_block hblk
  have HBlk : Put (_) := ⟨hblk⟩
  have HPl : Put (_) := ⟨HP⟩
  have HPl1 : Put (_) := ⟨HP1⟩
  clear hblk HP HP1
  obtain ⟨j0, hi, hz0, hz1, hz2⟩ := info_parts infoB
  have HBX : Put (_ ∧ _ ∧ _) := ⟨heap_alloc_new (w.alloc (.cells #[.int .u8 124, .int .i64 0, .int .i64 0, .int .i64 0, .int .i64 0, .int .i64 0, .int .i64 0, .int .u8 0, .slice (some ⟨b, 0, none⟩) 2 cp] 90)) (.cells #[.slice ao L.length cap, .int .i64 loop] 46), (Below.heap_alloc _ (.cells #[.slice ao L.length cap, .int .i64 loop] 46) _ (by simp)).trans (heap_alloc_new w (.cells #[.int .u8 124, .int .i64 0, .int .i64 0, .int .i64 0, .int .i64 0, .int .i64 0, .int .i64 0, .int .u8 0, .slice (some ⟨b, 0, none⟩) 2 cp] 90)), ((Below.refl w.heap.size w).alloc (Nat.le_refl _) (.cells #[.int .u8 124, .int .i64 0, .int .i64 0, .int .i64 0, .int .i64 0, .int .i64 0, .int .i64 0, .int .u8 0, .slice (some ⟨b, 0, none⟩) 2 cp] 90)).alloc (by simp) (.cells #[.slice ao L.length cap, .int .i64 loop] 46)⟩
  rw [World.size_alloc] at HBX
  go_enter Tryz.func45, Tryz.ntmps45
  go_wp2_with (at_make; refine wpList_make_full _ rfl _ _ 105 rfl w.heap.size 4 j0 _ 1 Tryz.underlying105 hi hz0 hz1 .i64 .i64 _ _ L.length rfl rfl rfl rfl (by rw [hz2]; omega) (by unfold maxLen; omega) (by simp; omega) ?_)
  intro w2 hown hgr
  rw [made_bls] at hown
  have hB2 : Below w.heap.size w w2 := HBX.out.2.2.grown hgr (by simp; omega) (fun k h => by cases h)
  have hx2 := (hgr.block (w.heap.size + 1) (by simp) (by simp)).trans HBX.out.1
  have hy2 := (hgr.block w.heap.size (by simp; omega) (by simp)).trans HBX.out.2.1
  have HO : Put (_) := ⟨hown⟩
  have HB2 : Put (_) := ⟨hB2⟩
  have HX2 : Put (_) := ⟨hx2⟩
  have HY2 : Put (_) := ⟨hy2⟩
  have o2 := (blk9 hy2).1.1
  have o8 := (blk9 hy2).1.2.2.2.2.2.2.2.2
  have x0 := two_cell0 hx2
  have x1 := two_cell1 hx2
  clear hown hgr hB2 hx2 hy2 HBX
  have hbk2 := (HB2.out.block b hbl).trans HBlk.out
  have n0 : w2.cell? ⟨b, 0, none⟩ = some y0 := by simp [World.cell?, hbk2]
  have n1 : w2.cell? ⟨b, 1, none⟩ = some y1 := by simp [World.cell?, hbk2]
  have n2 : w2.cell? ⟨b, 2, none⟩ = some y2 := by simp [World.cell?, hbk2]
  have n3 : w2.cell? ⟨b, 3, none⟩ = some y3 := by simp [World.cell?, hbk2]
  have n4 : w2.cell? ⟨b, 4, none⟩ = some y4 := by simp [World.cell?, hbk2]
  have n5 : w2.cell? ⟨b, 5, none⟩ = some y5 := by simp [World.cell?, hbk2]
  have n6 : w2.cell? ⟨b, 6, none⟩ = some y6 := by simp [World.cell?, hbk2]
  have n7 : w2.cell? ⟨b, 7, none⟩ = some y7 := by simp [World.cell?, hbk2]
  have n8 : w2.cell? ⟨b, 8, none⟩ = some y8 := by simp [World.cell?, hbk2]
  clear hbk2
  have HCr : Put (_) := ⟨HPl.out w2.drew HB2.out.drew⟩
  unfold PlPost at HCr
  have lx := lt_of_block HX2.out
  have ly := lt_of_block HY2.out
  have lo : w.heap.size + 1 + 1 < w2.heap.size := by
    have h := HO.out
    have e : (List.replicate L.length false).length = L.length := by simp
    obtain ⟨g, c, e', _, h2, _⟩ := bls_at (l := List.replicate L.length false) (by rw [e]; exact h) (by simp; omega)
    obtain ⟨rfl, _⟩ : w.heap.size + 1 + 1 = g ∧ _ := by simpa using e'
    exact h2
  go_wp2_with fail
  go_region_law ((go_simp; go_at_call 45; refine HCr.out.mono ?_; rintro e w3 ⟨⟨v, rfl, hro⟩, hb3⟩; obtain ⟨ga, ca, rfl, hgl, hga, hca, hcA⟩ := bls_at hro (by omega); have HB3 : Put (_) := ⟨hb3⟩; have HCA : Put (_) := ⟨hcA⟩; clear hro hb3 hcA; rw [hA]; rw [hA] at hca))
  all_goals
    have HRA : Put (RdB w3 (.slice (some ⟨ga, 0, none⟩) L.length ca) A) := ⟨ga, ca, by rw [hA], hga, by omega, HCA.out⟩
    have HBw : Put (Below w.heap.size w w3) := ⟨HB2.out.drew.trans (HB3.out.mono HB2.out.size)⟩
    have HX3 : Put (_) := ⟨(HB3.out.block _ lx).trans HX2.out⟩
    have HY3 : Put (_) := ⟨(HB3.out.block _ ly).trans HY2.out⟩
    have HO3 : Put (_) := ⟨HB3.out.ownsRow' (show w2.drew.ownsRow _ _ _ _ _ _ from HO.out)⟩
    have p2 := (blk9 HY3.out).1.1
    have p8 := (blk9 HY3.out).1.2.2.2.2.2.2.2.2
    have z0 := two_cell0 HX3.out
    have z1 := two_cell1 HX3.out
    have lz := lt_of_block HX3.out
    have HRAd : Put (RdB w3.drew (.slice (some ⟨ga, 0, none⟩) L.length ca) A) := ⟨HRA.out⟩
    have HZ : Put (∀ w4, Below w3.drew.heap.size w3.drew w4 → w4.cell? ⟨w.heap.size + 1, 0, none⟩ = some (.slice ao L.length cap) ∧ w4.cell? ⟨w.heap.size + 1, 1, none⟩ = some (.int .i64 loop) ∧ RdB w4 (.slice (some ⟨ga, 0, none⟩) L.length ca) A) := ⟨fun w4 hb4 => ⟨(hb4.cell (p := ⟨w.heap.size + 1, 0, none⟩) lz).trans z0, (hb4.cell (p := ⟨w.heap.size + 1, 1, none⟩) lz).trans z1, HRAd.out.below hb4⟩⟩
    have ly3 := lt_of_block HY3.out
    clear HO HB2 HX2 HY2 o2 o8 x0 x1 n0 n1 n2 n3 n4 n5 n6 n7 n8 HB3 HCr
    have hbk3 := (HBw.out.block b hbl).trans HBlk.out
    have n0 : w3.cell? ⟨b, 9, none⟩ = some t0 := by simp [World.cell?, hbk3]
    have n1 : w3.cell? ⟨b, 10, none⟩ = some t1 := by simp [World.cell?, hbk3]
    have n2 : w3.cell? ⟨b, 11, none⟩ = some t2 := by simp [World.cell?, hbk3]
    have n3 : w3.cell? ⟨b, 12, none⟩ = some t3 := by simp [World.cell?, hbk3]
    have n4 : w3.cell? ⟨b, 13, none⟩ = some t4 := by simp [World.cell?, hbk3]
    have n5 : w3.cell? ⟨b, 14, none⟩ = some t5 := by simp [World.cell?, hbk3]
    have n6 : w3.cell? ⟨b, 15, none⟩ = some t6 := by simp [World.cell?, hbk3]
    have n7 : w3.cell? ⟨b, 16, none⟩ = some t7 := by simp [World.cell?, hbk3]
    have n8 : w3.cell? ⟨b, 17, none⟩ = some t8 := by simp [World.cell?, hbk3]
    have HCr : Put (_) := ⟨HPl1.out w3.drew HBw.out.drew⟩
    unfold PlPost at HCr
    clear hbk3
    go_wp2_with fail
    go_region_law ((go_simp; go_at_call 45; refine HCr.out.mono ?_; rintro e w4 ⟨⟨v, rfl, hro⟩, hb4⟩; obtain ⟨gb, cb, rfl, hgl', hgb, hcb, hcB⟩ := bls_at hro (by omega); have HB4 : Put (_) := ⟨hb4⟩; have HCB : Put (_) := ⟨hcB⟩; clear hro hb4 hcB; rw [hB]; rw [hB] at hcb))
    all_goals
      have HRB : Put (RdB w4 (.slice (some ⟨gb, 0, none⟩) L.length cb) B) := ⟨gb, cb, by rw [hB], hgb, by omega, HCB.out⟩
      have HRA4 : Put (RdB w4 (.slice (some ⟨ga, 0, none⟩) L.length ca) A) := ⟨HRAd.out.below HB4.out⟩
      have HBw4 : Put (Below w.heap.size w w4) := ⟨HBw.out.drew.trans (HB4.out.mono HBw.out.size)⟩
      have HX4 : Put (_) := ⟨(HB4.out.block _ lz).trans HX3.out⟩
      have HY4 : Put (_) := ⟨(HB4.out.block _ ly3).trans HY3.out⟩
      have HO4 : Put (_) := ⟨HB4.out.ownsRow' (show w3.drew.ownsRow _ _ _ _ _ _ from HO3.out)⟩
      clear p2 p8 z0 z1 HZ
      have p2 := (blk9 HY4.out).1.1
      have z0 := two_cell0 HX4.out
      have z1 := two_cell1 HX4.out
      have lz4 := lt_of_block HX4.out
      have ly4 := lt_of_block HY4.out
      clear n0 n1 n2 n3 n4 n5 n6 n7 n8 HCr HB4
      have HCk : Put (∀ k, k < L.length → w4.cell? ⟨ga, k, none⟩ = some (.bool (at_ A k))) := ⟨fun k hk => by
        obtain ⟨g, c, e, _, _, h⟩ := HRA4.out
        obtain ⟨rfl, _⟩ : ga = g ∧ _ := by simpa using e
        rw [h k (by omega), at_get (by omega)]⟩
      have HCkB : Put (∀ k, k < L.length → w4.cell? ⟨gb, k, none⟩ = some (.bool (at_ B k))) := ⟨fun k hk => by rw [HCB.out k (by omega), at_get (by omega)]⟩
      have ngo : ¬ (ga = w.heap.size + 1 + 1) := by have : w2.heap.size ≤ ga := hgl; omega
      have ngo' : ¬ (gb = w.heap.size + 1 + 1) := by have : w3.heap.size ≤ gb := hgl'; have := HBw.out.size; have : ga < w3.heap.size := hga; have : w2.heap.size ≤ ga := hgl; omega
      obtain ⟨RL, hRL⟩ : ∃ RL, RL = List.zipWith (fun a b => a || b) A B := ⟨_, rfl⟩
      have HRl : Put (RL.length = L.length) := ⟨by rw [hRL]; simp [hA, hB]⟩
      have HRg : Put (∀ i, i < L.length → RL.take (i + 1) = RL.take i ++ [at_ A i || at_ B i]) := ⟨fun i hi => by
        rw [List.take_succ_eq_append_getElem (by rw [HRl.out]; exact hi)]
        simp [hRL, at_get (l := A) (k := i) (by omega), at_get (l := B) (k := i) (by omega)]⟩
      have HRL : Put (_ = _) := ⟨hRL⟩
      have hga4 : ga < w4.heap.size := by
        obtain ⟨g, c, e, h, _⟩ := HRA4.out
        obtain ⟨rfl, _⟩ : ga = g ∧ _ := by simpa using e
        exact h
      clear hRL HCA HCB hgl hgl' hga
      go_wp2_with fail
      go_loopg [9] L.length (fun gk iv wr => ∃ i : Nat, iv = .int .i64 i ∧ i + gk = L.length ∧ Put (Below w.heap.size w wr) ∧ Put (wr.heap[w.heap.size]? = some (.cells #[.int .u8 124, .int .i64 0, .int .i64 0, .int .i64 0, .int .i64 0, .int .i64 0, .int .i64 0, .int .u8 0, .slice (some ⟨b, 0, none⟩) 2 cp] 90 (0, 0))) ∧ Put (∀ k, k < L.length → wr.cell? ⟨ga, k, none⟩ = some (.bool (at_ A k))) ∧ Put (∀ k, k < L.length → wr.cell? ⟨gb, k, none⟩ = some (.bool (at_ B k))) ∧ Put (wr.ownsRow w.heap.size 4 1 (.slice (some ⟨w.heap.size + 1 + 1, 0, none⟩) L.length L.length) L.length (bls (RL.take i ++ List.replicate gk false))) ∧ ga < wr.heap.size ∧ gb < wr.heap.size)
      case atStart => exact ⟨0, rfl, by omega, HBw4, HY4, HCk, HCkB, HO4, hga4, hgb⟩
      case round =>
        clear HBw HBw4 HY3 HX3 HX4 HY4 HCk HCkB HO3 HO4 p2 z0 z1 lz ly3 lz4 ly4 HRA HRAd HRA4 HRB hga4 hgb
        obtain ⟨i, rfl, hik, HBr, HYr, HCr, HCrB, HO, hga, hgb⟩ := hrel
        obtain ⟨⟨n0, _⟩, _⟩ := blk9 HYr.out
        by_cases hlt : i < L.length
        · have hlt' : (i : Int) < (L.length : Int) := by omega
          have k0 : (0 : Int) ≤ (i : Int) := by omega
          obtain ⟨g', rfl⟩ : ∃ g', gk = g' + 1 := ⟨gk - 1, by omega⟩
          have qa := HCr.out i hlt
          have qb := HCrB.out i hlt
          have HT : Put (_ = _) := ⟨HRg.out i hlt⟩
          obtain ⟨V, hV⟩ : ∃ V, V = (at_ A i || at_ B i) := ⟨_, rfl⟩
          rw [← hV] at HT
          obtain ⟨h1, h2, c1, f1, hnew⟩ := fill_at HO.out (by rw [List.length_take, HRl.out]; omega) hik V
          rw [← HT.out] at hnew
          have HN : Put (_) := ⟨hnew⟩
          have HBn : Put (_) := ⟨HBr.out.setCell (p := ⟨w.heap.size + 1 + 1, i, none⟩) (by show w.heap.size ≤ w.heap.size + 1 + 1; omega) (.bool V)⟩
          have HYn : Put (_) := ⟨(heap_setCell_other wr ⟨w.heap.size + 1 + 1, i, none⟩ w.heap.size (.bool V) (by show w.heap.size ≠ w.heap.size + 1 + 1; omega)).trans HYr.out⟩
          have HCn : Put (∀ k, k < L.length → (wr.setCell ⟨w.heap.size + 1 + 1, i, none⟩ (.bool V)).cell? ⟨ga, k, none⟩ = some (.bool (at_ A k))) := ⟨fun k hk => by
            rw [← HCr.out k hk]; unfold World.cell?; rw [heap_setCell_other _ _ _ _ (by show ga ≠ w.heap.size + 1 + 1; omega)]⟩
          have HCnB : Put (∀ k, k < L.length → (wr.setCell ⟨w.heap.size + 1 + 1, i, none⟩ (.bool V)).cell? ⟨gb, k, none⟩ = some (.bool (at_ B k))) := ⟨fun k hk => by
            rw [← HCrB.out k hk]; unfold World.cell?; rw [heap_setCell_other _ _ _ _ (by show gb ≠ w.heap.size + 1 + 1; omega)]⟩
          clear hnew HO HBr HYr HCr HCrB HT
          generalize at_ A i = x at *
          generalize at_ B i = y at *
          cases x
          · rw [Bool.false_or] at hV
            subst hV
            go_wp2
            go_roundg g'
            case measure => exact Nat.lt_succ_self _
            case rel => exact ⟨i + 1, by go_num, by omega, HBn, HYn, HCn, HCnB, HN, by simpa using hga, by simpa using hgb⟩
          · rw [Bool.true_or] at hV
            subst hV
            go_wp2
            go_roundg g'
            case measure => exact Nat.lt_succ_self _
            case rel => exact ⟨i + 1, by go_num, by omega, HBn, HYn, HCn, HCnB, HN, by simpa using hga, by simpa using hgb⟩
        · obtain rfl : i = L.length := by omega
          have hlt' : ¬ ((L.length : Int) < (L.length : Int)) := by omega
          obtain rfl : gk = 0 := by omega
          have HE : Put (RL.take L.length = RL) := ⟨List.take_of_length_le (by rw [HRl.out]; exact Nat.le_refl _)⟩
          have HFin : Put (PlPost w (List.zipWith (fun a b => a || b) A B) (.returned (.slice (some ⟨w.heap.size + 1 + 1, 0, none⟩) L.length L.length)) wr) := ⟨by rw [← HRL.out]; exact ⟨⟨_, rfl, by have := HO.out; rw [HE.out] at this; rw [HRl.out]; simpa using this⟩, HBr.out⟩⟩
          clear HE HO HBr HYr HCr HCrB
          go_wp2
          go_ret
          exact HFin.out
end
end Go.Proofs.YtgoebckimmofoaaGreatDoor
