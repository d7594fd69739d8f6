import Derived.Test.YtgoebckimmofoaaGreatDoorRows
import Derived.WalkKit
import Derived.WalkSpells
import Derived.WalkLawsBesides
import Derived.Deep.QuietTactic
import Derived.BigQuiet
import Derived.RegionTactic
import Derived.Lib.TrailingZeros
import Derived.Laws.Bits64b
import Derived.Deep.LoopGhost
import Derived.Deep.RegionLaw
import Derived.Deep.RegionHeld3
import Derived.Stop.RegionWithIn
import Derived.Shelf.RegionOpen
import Derived.Scope
import Derived.WalkMore
import Derived.Deep.AppendLies
import Derived.Laws.IdiomStrings
import Derived.Maps.AppendAt
import Derived.RangeFuncBox
import Derived.Deep.RegionHeld
import Derived.RangeFuncNested
import Derived.RangeFuncBound
import Derived.RangeFuncCalls
import Derived.RangeFuncLeaves
import Derived.Shelf.Abstract
import Derived.OwnWalkIn
import Derived.TacticsInMore
import Derived.LoopNIn
import Derived.LoopIn
import Derived.Deep.OwnRows
import Derived.Test.YtgoebckimmofoaaGreatDoorB1
import Derived.Test.YtgoebckimmofoaaGreatDoorB4
import Derived.Test.YtgoebckimmofoaaGreatDoorB5
import Derived.Test.YtgoebckimmofoaaGreatDoorB6
import Derived.Test.YtgoebckimmofoaaGreatDoorB7
import Derived.Test.YtgoebckimmofoaaGreatDoorB8
import Derived.Test.YtgoebckimmofoaaGreatDoorB11
import Derived.Test.YtgoebckimmofoaaGreatDoorB17
import Derived.Test.YtgoebckimmofoaaGreatDoorB18
import Derived.Test.YtgoebckimmofoaaGreatDoorB20
import Derived.Test.YtgoebckimmofoaaGreatDoorB26
import Derived.Test.YtgoebckimmofoaaGreatDoorB27
import Derived.Test.YtgoebckimmofoaaGreatDoorB29
import Derived.Test.YtgoebckimmofoaaGreatDoorB28
/- The law Dual, if Holds answers right. Our own text. -/
namespace Go.Proofs.YtgoebckimmofoaaGreatDoor
open Go.RowKit Go.Lib
set_option maxRecDepth 100000 in
set_option maxHeartbeats 1600000 in
theorem dual_any {w : World} (hc : HoldsC w) (m f g : ByteArray) (L : List ByteArray) (hL : ∀ s ∈ L, s.size ≤ maxLen) (hlen : L.length ≤ 9223372036854775807) (loop : Int) (v : Value) (hm : m.size ≤ maxLen) (hf : f.size ≤ 1152921504606846976) (hg : g.size ≤ 1152921504606846976) (hr : Reads w v L) :
    Calls Tryz.prog 11 #[.string m, .string f, .string g, v, .int .i64 loop] w fun e w' => e = .returned (.bool true) ∧ Below w.heap.size w w' := by
  have HRD : Put (Reads w v L) := ⟨hr⟩
  obtain ⟨ao, cap, rfl, _⟩ := hr
  have HL : Put (_) := ⟨hL⟩
  have HC : Put (_) := ⟨hc⟩
  clear hL hc
  go_enter Tryz.func11, Tryz.ntmps11
  go_wp2_with fail
  generalize el0 : ({ data := #[71, 40] } : ByteArray) ++ f ++ { data := #[41] } = l0 at *
  have nl0 : nums l0 = 71 :: 40 :: (nums f ++ [41]) := by rw [← el0]; simp only [nums_append]; simp [nums]
  clear el0
  generalize el1 : ({ data := #[40] } : ByteArray) ++ f ++ { data := #[41, 82, 40] } ++ g ++ { data := #[41] } = l1 at *
  have nl1 : nums l1 = 40 :: (nums f ++ 41 :: 82 :: 40 :: (nums g ++ [41])) := by rw [← el1]; simp only [nums_append]; simp [nums]
  clear el1
  generalize el2 : ({ data := #[70, 40] } : ByteArray) ++ f ++ { data := #[41] } = l2 at *
  have nl2 : nums l2 = 70 :: 40 :: (nums f ++ [41]) := by rw [← el2]; simp only [nums_append]; simp [nums]
  clear el2
  generalize el3 : ({ data := #[40] } : ByteArray) ++ f ++ { data := #[41, 87, 40] } ++ g ++ { data := #[41] } = l3 at *
  have nl3 : nums l3 = 40 :: (nums f ++ 41 :: 87 :: 40 :: (nums g ++ [41])) := by rw [← el3]; simp only [nums_append]; simp [nums]
  clear el3
  generalize er0 : ({ data := #[33, 70, 33, 40] } : ByteArray) ++ f ++ { data := #[41] } = r0 at *
  have nr0 : nums r0 = 33 :: 70 :: 33 :: 40 :: (nums f ++ [41]) := by rw [← er0]; simp only [nums_append]; simp [nums]
  clear er0
  generalize er1 : ({ data := #[33, 40, 33, 40] } : ByteArray) ++ f ++ { data := #[41, 85, 33, 40] } ++ g ++ { data := #[41, 41] } = r1 at *
  have nr1 : nums r1 = 33 :: 40 :: 33 :: 40 :: (nums f ++ 41 :: 85 :: 33 :: 40 :: (nums g ++ [41, 41])) := by rw [← er1]; simp only [nums_append]; simp [nums]
  clear er1
  generalize er2 : ({ data := #[84, 85, 40] } : ByteArray) ++ f ++ { data := #[41] } = r2 at *
  have nr2 : nums r2 = 84 :: 85 :: 40 :: (nums f ++ [41]) := by rw [← er2]; simp only [nums_append]; simp [nums]
  clear er2
  generalize er3 : ({ data := #[40] } : ByteArray) ++ f ++ { data := #[41, 85, 40] } ++ g ++ { data := #[41, 124, 71, 40] } ++ f ++ { data := #[41] } = r3 at *
  have nr3 : nums r3 = 40 :: (nums f ++ 41 :: 85 :: 40 :: (nums g ++ 41 :: 124 :: 71 :: 40 :: (nums f ++ [41]))) := by rw [← er3]; simp only [nums_append]; simp [nums]
  clear er3
  have HNN : Put (_ ∧ _ ∧ _ ∧ _ ∧ _ ∧ _ ∧ _ ∧ _) := ⟨nl0, nl1, nl2, nl3, nr0, nr1, nr2, nr3⟩
  clear nl0 nl1 nl2 nl3 nr0 nr1 nr2 nr3
  have HBl : Put (_) := ⟨(Below.heap_alloc _ (.cells #[.string r0, .string r1, .string r2, .string r3] 9) _ (by simp)).trans (heap_alloc_new w (.cells #[.string l0, .string l1, .string l2, .string l3] 9))⟩
  have HBr : Put (_) := ⟨heap_alloc_new (w.alloc (.cells #[.string l0, .string l1, .string l2, .string l3] 9)) (.cells #[.string r0, .string r1, .string r2, .string r3] 9)⟩
  rw [World.size_alloc] at HBr
  have HB0 : Put (Below w.heap.size w _) := ⟨((Below.refl w.heap.size w).alloc (Nat.le_refl _) (.cells #[.string l0, .string l1, .string l2, .string l3] 9)).alloc (by simp) (.cells #[.string r0, .string r1, .string r2, .string r3] 9)⟩
  generalize hW : (w.alloc (.cells #[.string l0, .string l1, .string l2, .string l3] 9)).alloc (.cells #[.string r0, .string r1, .string r2, .string r3] 9) = W at *
  clear hW
  refine (lgood2 m f hm).mono ?_
  rintro e w1 ⟨⟨A, rfl, hA⟩, hb1⟩
  have HA : Put (_) := ⟨hA⟩
  have HB1 : Put (_) := ⟨hb1⟩
  clear hb1 hA
  go_wp2_with fail
  refine (lgood2 m g hm).mono ?_
  rintro e w2 ⟨⟨B, rfl, hB⟩, hb2⟩
  have HBg : Put (_) := ⟨hB⟩
  have HB2 : Put (_) := ⟨HB1.out.trans (hb2.mono HB1.out.size)⟩
  clear hb2 hB HB1
  have HBd : Put (_) := ⟨hbound_any m L HL.out hlen loop _ w2 hm (HRD.out.below (HB0.out.trans (HB2.out.mono HB0.out.size)))⟩
  go_wp2_with fail
  refine HBd.out.mono ?_
  rintro e w3 ⟨⟨D, rfl, hD⟩, hb3⟩
  have HDb : Put (_) := ⟨hD⟩
  have HB3 : Put (Below W.heap.size W w3) := ⟨HB2.out.trans (hb3.mono HB2.out.size)⟩
  clear hb3 hD HB2 HBd
  cases A
  · go_wp2
    go_ret
    exact ⟨rfl, HB0.out.trans (HB3.out.mono HB0.out.size)⟩
  cases B
  · go_wp2
    go_ret
    exact ⟨rfl, HB0.out.trans (HB3.out.mono HB0.out.size)⟩
  cases D
  · go_wp2
    go_ret
    exact ⟨rfl, HB0.out.trans (HB3.out.mono HB0.out.size)⟩
  obtain ⟨h7, hok, k, hk, rfl⟩ := HDb.out rfl
  obtain ⟨hck, hfz, wf, df, rf, hdf, hnf, hwf⟩ := (good_iff m f).1 (HA.out.1 rfl)
  obtain ⟨_, hgz, wg, dg, rg, hdg, hng, hwg⟩ := (good_iff m g).1 (HBg.out.1 rfl)
  obtain ⟨nl0, nl1, nl2, nl3, nr0, nr1, nr2, nr3⟩ := HNN.out
  have HH : Put (∀ (t : ByteArray) (w' : World), (rForm m t).1 = 0 → Below w.heap.size w w' → Calls Tryz.prog 27 #[.string m, .string t, .slice ao L.length cap, .int .i64 k] w' fun e w'' => (∃ h : Bool, e = .returned (.tuple #[.bool h, .bool true]) ∧ (h = true ↔ sOf t (stL L k) 0)) ∧ Below w'.heap.size w' w'') := ⟨fun t w' hg hb => hh_any HC.out hb m t L k _ HL.out hm h7 hok hk hg (HRD.out.below hb)⟩
  have M0 : sOf l0 (stL L k) 0 ↔ sOf r0 (stL L k) 0 := ((txt_all nl0 rf).whole.2.2.2.2.2 _ _).trans (sG_dual.trans ((txt_nsn nr0 rf).whole.2.2.2.2.2 _ _).symm)
  have M1 : sOf l1 (stL L k) 0 ↔ sOf r1 (stL L k) 0 := ((txt_release nl1 rf rg).whole.2.2.2.2.2 _ _).trans (sR_dual.trans ((txt_nun nr1 rf rg).whole.2.2.2.2.2 _ _).symm)
  have M2 : sOf l2 (stL L k) 0 ↔ sOf r2 (stL L k) 0 := ((txt_some nl2 rf).whole.2.2.2.2.2 _ _).trans (sF_dual.trans ((txt_tu nr2 rf).whole.2.2.2.2.2 _ _).symm)
  have M3 : sOf l3 (stL L k) 0 ↔ sOf r3 (stL L k) 0 := ((txt_weak nl3 rf rg).whole.2.2.2.2.2 _ _).trans (sW_iff.trans ((txt_ug nr3 rf rg).whole.2.2.2.2.2 _ _).symm)
  have HCell : Put (∀ i, i < 4 → ∃ tl tr : ByteArray, (∀ w', Below W.heap.size W w' → w'.cell? ⟨w.heap.size, i, none⟩ = some (.string tl) ∧ w'.cell? ⟨w.heap.size + 1, i, none⟩ = some (.string tr)) ∧ (sOf tl (stL L k) 0 ↔ sOf tr (stL L k) 0)) := ⟨fun i hi => by
    have hl := lt_of_block HBl.out
    have hr := lt_of_block HBr.out
    have key : ∀ (tl tr : ByteArray), W.cell? ⟨w.heap.size, i, none⟩ = some (.string tl) → W.cell? ⟨w.heap.size + 1, i, none⟩ = some (.string tr) → ∀ w', Below W.heap.size W w' → w'.cell? ⟨w.heap.size, i, none⟩ = some (.string tl) ∧ w'.cell? ⟨w.heap.size + 1, i, none⟩ = some (.string tr) := fun tl tr h1 h2 w' hb => ⟨(hb.cell (p := ⟨w.heap.size, i, none⟩) hl).trans h1, (hb.cell (p := ⟨w.heap.size + 1, i, none⟩) hr).trans h2⟩
    have c1 : W.cell? ⟨w.heap.size, i, none⟩ = (#[Value.string l0, .string l1, .string l2, .string l3] : Array Value)[i]? := by unfold World.cell?; rw [HBl.out]; rfl
    have c2 : W.cell? ⟨w.heap.size + 1, i, none⟩ = (#[Value.string r0, .string r1, .string r2, .string r3] : Array Value)[i]? := by unfold World.cell?; rw [HBr.out]; rfl
    obtain rfl | rfl | rfl | rfl : i = 0 ∨ i = 1 ∨ i = 2 ∨ i = 3 := by omega
    · exact ⟨l0, r0, key l0 r0 c1 c2, M0⟩
    · exact ⟨l1, r1, key l1 r1 c1 c2, M1⟩
    · exact ⟨l2, r2, key l2 r2 c1 c2, M2⟩
    · exact ⟨l3, r3, key l3 r3 c1 c2, M3⟩⟩
  clear M0 M1 M2 M3 nl0 nl1 nl2 nl3 nr0 nr1 nr2 nr3 HNN HA HBg HDb rf rg hnf hng hck hok HC HL HRD HBl HBr
  go_wp2_with fail
  go_loopg [16] 4 (fun gk iv wr => ∃ i : Nat, iv = .int .i64 i ∧ i + gk = 4 ∧ Put (Below W.heap.size W wr))
  case atStart => exact ⟨0, rfl, rfl, HB3⟩
  case round =>
    clear HB3
    obtain ⟨i, rfl, hik, HBr⟩ := hrel
    by_cases hlt : i < 4
    · have hlt' : (i : Int) < 4 := by omega
      have k0 : (0 : Int) ≤ (i : Int) := by omega
      obtain ⟨g', rfl⟩ : ∃ g', gk = g' + 1 := ⟨gk - 1, by omega⟩
      obtain ⟨tl, tr, hcc, hM⟩ := HCell.out i hlt
      have HCC : Put (_) := ⟨hcc⟩
      have HM : Put (_) := ⟨hM⟩
      obtain ⟨q1, _⟩ := hcc wr HBr.out
      clear hcc hM
      go_wp2_with fail
      refine (lgood2 m tl hm).mono ?_
      rintro e w4 ⟨⟨X, rfl, hX⟩, hb4⟩
      have HX : Put (_) := ⟨hX⟩
      have HB4 : Put (_) := ⟨HBr.out.trans (hb4.mono HBr.out.size)⟩
      obtain ⟨_, q2⟩ := HCC.out w4 HB4.out
      clear hb4 hX HBr q1
      go_wp2_with fail
      refine (lgood2 m tr hm).mono ?_
      rintro e w5 ⟨⟨Y, rfl, hY⟩, hb5⟩
      have HY : Put (_) := ⟨hY⟩
      have HB5 : Put (_) := ⟨HB4.out.trans (hb5.mono HB4.out.size)⟩
      obtain ⟨q3, _⟩ := HCC.out w5 HB5.out
      clear hb5 hY HB4 q2
      cases X
      · go_wp2
        go_roundg g'
        case measure => exact Nat.lt_succ_self _
        case rel => exact ⟨i + 1, by go_num, by omega, HB5⟩
      cases Y
      · go_wp2
        go_roundg g'
        case measure => exact Nat.lt_succ_self _
        case rel => exact ⟨i + 1, by go_num, by omega, HB5⟩
      have HHl : Put (_) := ⟨HH.out tl w5 (HX.out.1 rfl) (HB0.out.trans (HB5.out.mono HB0.out.size))⟩
      go_wp2_with fail
      refine HHl.out.mono ?_
      rintro e w6 ⟨⟨h, rfl, th⟩, hb6⟩
      have TH : Put (_) := ⟨th⟩
      have HB6 : Put (_) := ⟨HB5.out.trans (hb6.mono HB5.out.size)⟩
      obtain ⟨_, q4⟩ := HCC.out w6 HB6.out
      have HHr : Put (_) := ⟨HH.out tr w6 (HY.out.1 (by simp)) (HB0.out.trans (HB6.out.mono HB0.out.size))⟩
      clear hb6 th HHl HB5 q3
      go_wp2_with fail
      refine HHr.out.mono ?_
      rintro e w7 ⟨⟨h', rfl, th'⟩, hb7⟩
      have HB7 : Put (_) := ⟨HB6.out.trans (hb7.mono HB6.out.size)⟩
      obtain rfl : h = h' := bool_iff TH.out th' HM.out
      clear hb7 th' TH HHr HB6 q4
      cases h
      · go_wp2
        go_roundg g'
        case measure => exact Nat.lt_succ_self _
        case rel => exact ⟨i + 1, by go_num, by omega, HB7⟩
      · go_wp2
        go_roundg g'
        case measure => exact Nat.lt_succ_self _
        case rel => exact ⟨i + 1, by go_num, by omega, HB7⟩
    · obtain rfl : i = 4 := by omega
      go_wp2
      go_ret
      exact ⟨rfl, HB0.out.trans (HBr.out.mono HB0.out.size)⟩
end Go.Proofs.YtgoebckimmofoaaGreatDoor
