import Derived.Test.YtgoebckimmofoaaGreatDoorRows
import Derived.WalkKit
import Derived.WalkSpells
import Derived.WalkLawsBesides
import Derived.Deep.QuietTactic
import Derived.BigQuiet
import Derived.RegionTactic
import Derived.Lib.TrailingZeros
import Derived.Laws.Bits64b
import Derived.Deep.LoopGhost
import Derived.Deep.RegionLaw
import Derived.Deep.RegionHeld3
import Derived.Stop.RegionWithIn
import Derived.Shelf.RegionOpen
import Derived.Scope
import Derived.WalkMore
import Derived.Deep.AppendLies
import Derived.Laws.IdiomStrings
import Derived.Maps.AppendAt
import Derived.RangeFuncBox
import Derived.Deep.RegionHeld
import Derived.RangeFuncNested
import Derived.RangeFuncBound
import Derived.RangeFuncCalls
import Derived.RangeFuncLeaves
import Derived.Shelf.Abstract
import Derived.OwnWalkIn
import Derived.TacticsInMore
import Derived.LoopNIn
import Derived.LoopIn
import Derived.Deep.OwnRows
import Derived.Test.YtgoebckimmofoaaGreatDoorB1
import Derived.Test.YtgoebckimmofoaaGreatDoorB4
import Derived.Test.YtgoebckimmofoaaGreatDoorB5
import Derived.Test.YtgoebckimmofoaaGreatDoorB6
import Derived.Test.YtgoebckimmofoaaGreatDoorB7
import Derived.Test.YtgoebckimmofoaaGreatDoorB8
import Derived.Test.YtgoebckimmofoaaGreatDoorB11
import Derived.Test.YtgoebckimmofoaaGreatDoorB17
import Derived.Test.YtgoebckimmofoaaGreatDoorB18
import Derived.Test.YtgoebckimmofoaaGreatDoorB20
import Derived.Test.YtgoebckimmofoaaGreatDoorB26
import Derived.Test.YtgoebckimmofoaaGreatDoorB29
import Derived.Test.YtgoebckimmofoaaGreatDoorB27
import Derived.Test.YtgoebckimmofoaaGreatDoorB28
/- The law Unfolded, if Holds answers right. Our own text. -/
namespace Go.Proofs.YtgoebckimmofoaaGreatDoor
open Go.RowKit Go.Lib
set_option maxRecDepth 100000 in
set_option maxHeartbeats 3200000 in
theorem unfolded_any {w : World} (hc : HoldsC w) (m f g : ByteArray) (L : List ByteArray) (hL : ∀ s ∈ L, s.size ≤ maxLen) (hlen : L.length ≤ 9223372036854775807) (loop : Int) (v : Value) (hm : m.size ≤ maxLen) (hf : f.size ≤ 1152921504606846976) (hg : g.size ≤ 1152921504606846976) (hr : Reads w v L) :
    Calls Tryz.prog 10 #[.string m, .string f, .string g, v, .int .i64 loop] w fun e w' => e = .returned (.bool true) ∧ Below w.heap.size w w' := by
  have HRD : Put (Reads w v L) := ⟨hr⟩
  obtain ⟨ao, cap, rfl, _⟩ := hr
  have HL : Put (_) := ⟨hL⟩
  have HC : Put (_) := ⟨hc⟩
  clear hL hc
  have HBl : Put (_) := ⟨heap_alloc_new w (.cells #[.string ⟨#[85]⟩, .string ⟨#[87]⟩, .string ⟨#[82]⟩] 9)⟩
  have HB0 : Put (Below w.heap.size w _) := ⟨(Below.refl w.heap.size w).alloc (Nat.le_refl _) (.cells #[.string ⟨#[85]⟩, .string ⟨#[87]⟩, .string ⟨#[82]⟩] 9)⟩
  go_enter Tryz.func10, Tryz.ntmps10
  go_wp2_with fail
  generalize hW : w.alloc (.cells #[.string ⟨#[85]⟩, .string ⟨#[87]⟩, .string ⟨#[82]⟩] 9) = W at *
  clear hW
  have hl0 := lt_of_block HBl.out
  go_loopg [11, 13] 3 (fun gk ov iv wr => ∃ i : Nat, iv = .int .i64 i ∧ ov = .bool true ∧ i + gk = 3 ∧ Put (Below W.heap.size W wr))
  case atStart => exact ⟨0, rfl, rfl, rfl, ⟨Below.refl _ _⟩⟩
  case round =>
    obtain ⟨i, rfl, rfl, hik, HBr⟩ := hrel
    obtain rfl | rfl | rfl | rfl : i = 0 ∨ i = 1 ∨ i = 2 ∨ i = 3 := by omega
    · have q : wr.cell? ⟨w.heap.size, 0, none⟩ = some (.string ⟨#[85]⟩) := (HBr.out.cell (p := ⟨w.heap.size, 0, none⟩) hl0).trans (by unfold World.cell?; rw [HBl.out]; rfl)
      go_wp2_with fail
      generalize eu : ({ data := #[40] } : ByteArray) ++ f ++ { data := #[41] } ++ { data := #[85] } ++ { data := #[40] } ++ g ++ { data := #[41] } = tu at *
      generalize ew : ({ data := #[40] } : ByteArray) ++ g ++ { data := #[41, 124, 40] } ++ f ++ { data := #[41, 38, 88, 40] } ++ tu ++ { data := #[41] } = tw at *
      have nu : nums tu = 40 :: (nums f ++ 41 :: 85 :: 40 :: (nums g ++ [41])) := by rw [← eu]; simp only [nums_append]; simp [nums]
      have nw : nums tw = 40 :: (nums g ++ 41 :: 124 :: 40 :: (nums f ++ 41 :: 38 :: 88 :: 40 :: 40 :: (nums f ++ 41 :: 85 :: 40 :: (nums g ++ [41, 41])))) := by rw [← ew]; simp only [nums_append, nu]; simp [nums]
      have HNU : Put (_ ∧ _) := ⟨nu, nw⟩
      clear nu nw eu ew
      refine (lgood2 m f hm).mono ?_
      rintro e w1 ⟨⟨A, rfl, hA⟩, hb1⟩
      have HA : Put (_) := ⟨hA⟩
      have HB1 : Put (_) := ⟨HBr.out.trans (hb1.mono HBr.out.size)⟩
      clear hb1 hA HBr
      go_wp2_with fail
      refine (lgood2 m g hm).mono ?_
      rintro e w2 ⟨⟨B, rfl, hB⟩, hb2⟩
      have HBg : Put (_) := ⟨hB⟩
      have HB2 : Put (_) := ⟨HB1.out.trans (hb2.mono HB1.out.size)⟩
      clear hb2 hB HB1
      go_wp2_with fail
      refine (lgood2 m tw hm).mono ?_
      rintro e w3 ⟨⟨C, rfl, hC⟩, hb3⟩
      have HCw : Put (_) := ⟨hC⟩
      have HB3 : Put (_) := ⟨HB2.out.trans (hb3.mono HB2.out.size)⟩
      clear hb3 hC HB2
      have HBd : Put (_) := ⟨hbound_any m L HL.out hlen loop _ w3 hm (HRD.out.below (HB0.out.trans (HB3.out.mono HB0.out.size)))⟩
      go_wp2_with fail
      refine HBd.out.mono ?_
      rintro e w4 ⟨⟨D, rfl, hD⟩, hb4⟩
      have HDb : Put (_) := ⟨hD⟩
      have HB4 : Put (_) := ⟨HB3.out.trans (hb4.mono HB3.out.size)⟩
      clear hb4 hD HB3 HBd
      cases A
      · go_wp2
        go_roundg (gk - 1)
        case measure => omega
        case rel => exact ⟨1, by go_num, rfl, by omega, HB4⟩
      cases B
      · go_wp2
        go_roundg (gk - 1)
        case measure => omega
        case rel => exact ⟨1, by go_num, rfl, by omega, HB4⟩
      cases C
      · go_wp2
        go_roundg (gk - 1)
        case measure => omega
        case rel => exact ⟨1, by go_num, rfl, by omega, HB4⟩
      cases D
      · go_wp2
        go_roundg (gk - 1)
        case measure => omega
        case rel => exact ⟨1, by go_num, rfl, by omega, HB4⟩
      obtain ⟨h7, hok, k, hk, rfl⟩ := HDb.out rfl
      obtain ⟨hck, hfz, wf, df, rf, hdf, hnf, hwf⟩ := (good_iff m f).1 (HA.out.1 rfl)
      obtain ⟨_, hgz, wg, dg, rg, hdg, hng, hwg⟩ := (good_iff m g).1 (HBg.out.1 rfl)
      obtain ⟨nu, nw⟩ := HNU.out
      have gw := HCw.out.1 rfl
      have su := txt_until nu rf rg
      have sw := txt_unfU nw rf rg
      obtain ⟨_, q1, q2, q3, q4⟩ := (good_says sw).1 gw
      have zu := size_of nu
      have zw := size_of nw
      simp [nums_len] at zu zw
      have gu : (rForm m tu).1 = 0 := (good_says su).2 ⟨hck, by omega, by omega, ⟨hnf, hng⟩, by omega⟩
      have MM : Put (sOf tu (stL L k) 0 ↔ sOf tw (stL L k) 0) := ⟨(su.whole.2.2.2.2.2 _ _).trans (sU_unf.trans (sw.whole.2.2.2.2.2 _ _).symm)⟩
      have HH : Put (∀ (t : ByteArray) (w' : World), (rForm m t).1 = 0 → Below w.heap.size w w' → Calls Tryz.prog 27 #[.string m, .string t, .slice ao L.length cap, .int .i64 k] w' fun e w'' => (∃ h : Bool, e = .returned (.tuple #[.bool h, .bool true]) ∧ (h = true ↔ sOf t (stL L k) 0)) ∧ Below w'.heap.size w' w'') := ⟨fun t w' hg hb => hh_any HC.out hb m t L k _ HL.out hm h7 hok hk hg (HRD.out.below hb)⟩
      have HHu : Put (_) := ⟨HH.out tu w4 gu (HB0.out.trans (HB4.out.mono HB0.out.size))⟩
      have GW : Put (_) := ⟨gw⟩
      clear su sw nu nw rf rg gu gw HNU HA HBg HCw HDb hok hnf hng hck q1 q2 q3 q4 zu zw
      go_wp2_with fail
      refine HHu.out.mono ?_
      rintro e w5 ⟨⟨h, rfl, th⟩, hb5⟩
      have TH : Put (_) := ⟨th⟩
      have HB5 : Put (_) := ⟨HB4.out.trans (hb5.mono HB4.out.size)⟩
      have HHw : Put (_) := ⟨HH.out tw w5 GW.out (HB0.out.trans (HB5.out.mono HB0.out.size))⟩
      clear hb5 th HHu HB4 HH GW
      go_wp2_with fail
      refine HHw.out.mono ?_
      rintro e w6 ⟨⟨h', rfl, th'⟩, hb6⟩
      have HB6 : Put (_) := ⟨HB5.out.trans (hb6.mono HB5.out.size)⟩
      obtain rfl : h = h' := bool_iff TH.out th' MM.out
      clear hb6 th' TH HHw HB5 MM
      cases h
      · go_wp2
        go_roundg (gk - 1)
        case measure => omega
        case rel => exact ⟨1, by go_num, rfl, by omega, HB6⟩
      · go_wp2
        go_roundg (gk - 1)
        case measure => omega
        case rel => exact ⟨1, by go_num, rfl, by omega, HB6⟩
    · have q : wr.cell? ⟨w.heap.size, 1, none⟩ = some (.string ⟨#[87]⟩) := (HBr.out.cell (p := ⟨w.heap.size, 1, none⟩) hl0).trans (by unfold World.cell?; rw [HBl.out]; rfl)
      go_wp2_with fail
      generalize eu : ({ data := #[40] } : ByteArray) ++ f ++ { data := #[41] } ++ { data := #[87] } ++ { data := #[40] } ++ g ++ { data := #[41] } = tu at *
      generalize ew : ({ data := #[40] } : ByteArray) ++ g ++ { data := #[41, 124, 40] } ++ f ++ { data := #[41, 38, 88, 40] } ++ tu ++ { data := #[41] } = tw at *
      have nu : nums tu = 40 :: (nums f ++ 41 :: 87 :: 40 :: (nums g ++ [41])) := by rw [← eu]; simp only [nums_append]; simp [nums]
      have nw : nums tw = 40 :: (nums g ++ 41 :: 124 :: 40 :: (nums f ++ 41 :: 38 :: 88 :: 40 :: 40 :: (nums f ++ 41 :: 87 :: 40 :: (nums g ++ [41, 41])))) := by rw [← ew]; simp only [nums_append, nu]; simp [nums]
      have HNU : Put (_ ∧ _) := ⟨nu, nw⟩
      clear nu nw eu ew
      refine (lgood2 m f hm).mono ?_
      rintro e w1 ⟨⟨A, rfl, hA⟩, hb1⟩
      have HA : Put (_) := ⟨hA⟩
      have HB1 : Put (_) := ⟨HBr.out.trans (hb1.mono HBr.out.size)⟩
      clear hb1 hA HBr
      go_wp2_with fail
      refine (lgood2 m g hm).mono ?_
      rintro e w2 ⟨⟨B, rfl, hB⟩, hb2⟩
      have HBg : Put (_) := ⟨hB⟩
      have HB2 : Put (_) := ⟨HB1.out.trans (hb2.mono HB1.out.size)⟩
      clear hb2 hB HB1
      go_wp2_with fail
      refine (lgood2 m tw hm).mono ?_
      rintro e w3 ⟨⟨C, rfl, hC⟩, hb3⟩
      have HCw : Put (_) := ⟨hC⟩
      have HB3 : Put (_) := ⟨HB2.out.trans (hb3.mono HB2.out.size)⟩
      clear hb3 hC HB2
      have HBd : Put (_) := ⟨hbound_any m L HL.out hlen loop _ w3 hm (HRD.out.below (HB0.out.trans (HB3.out.mono HB0.out.size)))⟩
      go_wp2_with fail
      refine HBd.out.mono ?_
      rintro e w4 ⟨⟨D, rfl, hD⟩, hb4⟩
      have HDb : Put (_) := ⟨hD⟩
      have HB4 : Put (_) := ⟨HB3.out.trans (hb4.mono HB3.out.size)⟩
      clear hb4 hD HB3 HBd
      cases A
      · go_wp2
        go_roundg (gk - 1)
        case measure => omega
        case rel => exact ⟨2, by go_num, rfl, by omega, HB4⟩
      cases B
      · go_wp2
        go_roundg (gk - 1)
        case measure => omega
        case rel => exact ⟨2, by go_num, rfl, by omega, HB4⟩
      cases C
      · go_wp2
        go_roundg (gk - 1)
        case measure => omega
        case rel => exact ⟨2, by go_num, rfl, by omega, HB4⟩
      cases D
      · go_wp2
        go_roundg (gk - 1)
        case measure => omega
        case rel => exact ⟨2, by go_num, rfl, by omega, HB4⟩
      obtain ⟨h7, hok, k, hk, rfl⟩ := HDb.out rfl
      obtain ⟨hck, hfz, wf, df, rf, hdf, hnf, hwf⟩ := (good_iff m f).1 (HA.out.1 rfl)
      obtain ⟨_, hgz, wg, dg, rg, hdg, hng, hwg⟩ := (good_iff m g).1 (HBg.out.1 rfl)
      obtain ⟨nu, nw⟩ := HNU.out
      have gw := HCw.out.1 rfl
      have su := txt_weak nu rf rg
      have sw := txt_unfW nw rf rg
      obtain ⟨_, q1, q2, q3, q4⟩ := (good_says sw).1 gw
      have zu := size_of nu
      have zw := size_of nw
      simp [nums_len] at zu zw
      have gu : (rForm m tu).1 = 0 := (good_says su).2 ⟨hck, by omega, by omega, ⟨hnf, hng⟩, by omega⟩
      have MM : Put (sOf tu (stL L k) 0 ↔ sOf tw (stL L k) 0) := ⟨(su.whole.2.2.2.2.2 _ _).trans (sW_unf.trans (sw.whole.2.2.2.2.2 _ _).symm)⟩
      have HH : Put (∀ (t : ByteArray) (w' : World), (rForm m t).1 = 0 → Below w.heap.size w w' → Calls Tryz.prog 27 #[.string m, .string t, .slice ao L.length cap, .int .i64 k] w' fun e w'' => (∃ h : Bool, e = .returned (.tuple #[.bool h, .bool true]) ∧ (h = true ↔ sOf t (stL L k) 0)) ∧ Below w'.heap.size w' w'') := ⟨fun t w' hg hb => hh_any HC.out hb m t L k _ HL.out hm h7 hok hk hg (HRD.out.below hb)⟩
      have HHu : Put (_) := ⟨HH.out tu w4 gu (HB0.out.trans (HB4.out.mono HB0.out.size))⟩
      have GW : Put (_) := ⟨gw⟩
      clear su sw nu nw rf rg gu gw HNU HA HBg HCw HDb hok hnf hng hck q1 q2 q3 q4 zu zw
      go_wp2_with fail
      refine HHu.out.mono ?_
      rintro e w5 ⟨⟨h, rfl, th⟩, hb5⟩
      have TH : Put (_) := ⟨th⟩
      have HB5 : Put (_) := ⟨HB4.out.trans (hb5.mono HB4.out.size)⟩
      have HHw : Put (_) := ⟨HH.out tw w5 GW.out (HB0.out.trans (HB5.out.mono HB0.out.size))⟩
      clear hb5 th HHu HB4 HH GW
      go_wp2_with fail
      refine HHw.out.mono ?_
      rintro e w6 ⟨⟨h', rfl, th'⟩, hb6⟩
      have HB6 : Put (_) := ⟨HB5.out.trans (hb6.mono HB5.out.size)⟩
      obtain rfl : h = h' := bool_iff TH.out th' MM.out
      clear hb6 th' TH HHw HB5 MM
      cases h
      · go_wp2
        go_roundg (gk - 1)
        case measure => omega
        case rel => exact ⟨2, by go_num, rfl, by omega, HB6⟩
      · go_wp2
        go_roundg (gk - 1)
        case measure => omega
        case rel => exact ⟨2, by go_num, rfl, by omega, HB6⟩
    · have q : wr.cell? ⟨w.heap.size, 2, none⟩ = some (.string ⟨#[82]⟩) := (HBr.out.cell (p := ⟨w.heap.size, 2, none⟩) hl0).trans (by unfold World.cell?; rw [HBl.out]; rfl)
      go_wp2_with fail
      generalize eu : ({ data := #[40] } : ByteArray) ++ f ++ { data := #[41] } ++ { data := #[82] } ++ { data := #[40] } ++ g ++ { data := #[41] } = tu at *
      generalize ew : ({ data := #[40] } : ByteArray) ++ g ++ { data := #[41, 38, 40, 40] } ++ f ++ { data := #[41, 124, 88, 40] } ++ tu ++ { data := #[41, 41] } = tw at *
      have nu : nums tu = 40 :: (nums f ++ 41 :: 82 :: 40 :: (nums g ++ [41])) := by rw [← eu]; simp only [nums_append]; simp [nums]
      have nw : nums tw = 40 :: (nums g ++ 41 :: 38 :: 40 :: 40 :: (nums f ++ 41 :: 124 :: 88 :: 40 :: 40 :: (nums f ++ 41 :: 82 :: 40 :: (nums g ++ [41, 41, 41])))) := by rw [← ew]; simp only [nums_append, nu]; simp [nums]
      have HNU : Put (_ ∧ _) := ⟨nu, nw⟩
      clear nu nw eu ew
      refine (lgood2 m f hm).mono ?_
      rintro e w1 ⟨⟨A, rfl, hA⟩, hb1⟩
      have HA : Put (_) := ⟨hA⟩
      have HB1 : Put (_) := ⟨HBr.out.trans (hb1.mono HBr.out.size)⟩
      clear hb1 hA HBr
      go_wp2_with fail
      refine (lgood2 m g hm).mono ?_
      rintro e w2 ⟨⟨B, rfl, hB⟩, hb2⟩
      have HBg : Put (_) := ⟨hB⟩
      have HB2 : Put (_) := ⟨HB1.out.trans (hb2.mono HB1.out.size)⟩
      clear hb2 hB HB1
      go_wp2_with fail
      refine (lgood2 m tw hm).mono ?_
      rintro e w3 ⟨⟨C, rfl, hC⟩, hb3⟩
      have HCw : Put (_) := ⟨hC⟩
      have HB3 : Put (_) := ⟨HB2.out.trans (hb3.mono HB2.out.size)⟩
      clear hb3 hC HB2
      have HBd : Put (_) := ⟨hbound_any m L HL.out hlen loop _ w3 hm (HRD.out.below (HB0.out.trans (HB3.out.mono HB0.out.size)))⟩
      go_wp2_with fail
      refine HBd.out.mono ?_
      rintro e w4 ⟨⟨D, rfl, hD⟩, hb4⟩
      have HDb : Put (_) := ⟨hD⟩
      have HB4 : Put (_) := ⟨HB3.out.trans (hb4.mono HB3.out.size)⟩
      clear hb4 hD HB3 HBd
      cases A
      · go_wp2
        go_roundg (gk - 1)
        case measure => omega
        case rel => exact ⟨3, by go_num, rfl, by omega, HB4⟩
      cases B
      · go_wp2
        go_roundg (gk - 1)
        case measure => omega
        case rel => exact ⟨3, by go_num, rfl, by omega, HB4⟩
      cases C
      · go_wp2
        go_roundg (gk - 1)
        case measure => omega
        case rel => exact ⟨3, by go_num, rfl, by omega, HB4⟩
      cases D
      · go_wp2
        go_roundg (gk - 1)
        case measure => omega
        case rel => exact ⟨3, by go_num, rfl, by omega, HB4⟩
      obtain ⟨h7, hok, k, hk, rfl⟩ := HDb.out rfl
      obtain ⟨hck, hfz, wf, df, rf, hdf, hnf, hwf⟩ := (good_iff m f).1 (HA.out.1 rfl)
      obtain ⟨_, hgz, wg, dg, rg, hdg, hng, hwg⟩ := (good_iff m g).1 (HBg.out.1 rfl)
      obtain ⟨nu, nw⟩ := HNU.out
      have gw := HCw.out.1 rfl
      have su := txt_release nu rf rg
      have sw := txt_unfR nw rf rg
      obtain ⟨_, q1, q2, q3, q4⟩ := (good_says sw).1 gw
      have zu := size_of nu
      have zw := size_of nw
      simp [nums_len] at zu zw
      have gu : (rForm m tu).1 = 0 := (good_says su).2 ⟨hck, by omega, by omega, ⟨hnf, hng⟩, by omega⟩
      have MM : Put (sOf tu (stL L k) 0 ↔ sOf tw (stL L k) 0) := ⟨(su.whole.2.2.2.2.2 _ _).trans (sR_unf.trans (sw.whole.2.2.2.2.2 _ _).symm)⟩
      have HH : Put (∀ (t : ByteArray) (w' : World), (rForm m t).1 = 0 → Below w.heap.size w w' → Calls Tryz.prog 27 #[.string m, .string t, .slice ao L.length cap, .int .i64 k] w' fun e w'' => (∃ h : Bool, e = .returned (.tuple #[.bool h, .bool true]) ∧ (h = true ↔ sOf t (stL L k) 0)) ∧ Below w'.heap.size w' w'') := ⟨fun t w' hg hb => hh_any HC.out hb m t L k _ HL.out hm h7 hok hk hg (HRD.out.below hb)⟩
      have HHu : Put (_) := ⟨HH.out tu w4 gu (HB0.out.trans (HB4.out.mono HB0.out.size))⟩
      have GW : Put (_) := ⟨gw⟩
      clear su sw nu nw rf rg gu gw HNU HA HBg HCw HDb hok hnf hng hck q1 q2 q3 q4 zu zw
      go_wp2_with fail
      refine HHu.out.mono ?_
      rintro e w5 ⟨⟨h, rfl, th⟩, hb5⟩
      have TH : Put (_) := ⟨th⟩
      have HB5 : Put (_) := ⟨HB4.out.trans (hb5.mono HB4.out.size)⟩
      have HHw : Put (_) := ⟨HH.out tw w5 GW.out (HB0.out.trans (HB5.out.mono HB0.out.size))⟩
      clear hb5 th HHu HB4 HH GW
      go_wp2_with fail
      refine HHw.out.mono ?_
      rintro e w6 ⟨⟨h', rfl, th'⟩, hb6⟩
      have HB6 : Put (_) := ⟨HB5.out.trans (hb6.mono HB5.out.size)⟩
      obtain rfl : h = h' := bool_iff TH.out th' MM.out
      clear hb6 th' TH HHw HB5 MM
      cases h
      · go_wp2
        go_roundg (gk - 1)
        case measure => omega
        case rel => exact ⟨3, by go_num, rfl, by omega, HB6⟩
      · go_wp2
        go_roundg (gk - 1)
        case measure => omega
        case rel => exact ⟨3, by go_num, rfl, by omega, HB6⟩
    · go_wp2
      go_ret
      exact ⟨rfl, HB0.out.trans (HBr.out.mono HB0.out.size)⟩
end Go.Proofs.YtgoebckimmofoaaGreatDoor
