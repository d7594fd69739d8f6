import Derived.Test.YtgoebckimmofoaaGreatDoorRows
import Derived.WalkKit
import Derived.WalkSpells
import Derived.WalkLawsBesides
import Derived.Deep.QuietTactic
import Derived.BigQuiet
import Derived.RegionTactic
import Derived.Lib.TrailingZeros
import Derived.Laws.Bits64b
import Derived.Deep.LoopGhost
import Derived.Deep.RegionLaw
import Derived.Deep.RegionHeld3
import Derived.Stop.RegionWithIn
import Derived.Shelf.RegionOpen
import Derived.Scope
import Derived.WalkMore
import Derived.Deep.AppendLies
import Derived.Laws.IdiomStrings
import Derived.Maps.AppendAt
import Derived.RangeFuncBox
import Derived.Deep.RegionHeld
import Derived.RangeFuncNested
import Derived.RangeFuncBound
import Derived.RangeFuncCalls
import Derived.RangeFuncLeaves
import Derived.Shelf.Abstract
import Derived.OwnWalkIn
import Derived.TacticsInMore
import Derived.LoopNIn
import Derived.LoopIn
import Derived.Deep.OwnRows
import Derived.Test.YtgoebckimmofoaaGreatDoorB1
import Derived.Test.YtgoebckimmofoaaGreatDoorB6
import Derived.Test.YtgoebckimmofoaaGreatDoorB7
import Derived.Test.YtgoebckimmofoaaGreatDoorB8
import Derived.Test.YtgoebckimmofoaaGreatDoorB11
import Derived.Test.YtgoebckimmofoaaGreatDoorB17
import Derived.Test.YtgoebckimmofoaaGreatDoorB18
import Derived.Test.YtgoebckimmofoaaGreatDoorB20
import Derived.Test.YtgoebckimmofoaaGreatDoorB26
import Derived.Test.YtgoebckimmofoaaGreatDoorB27
import Derived.Test.YtgoebckimmofoaaGreatDoorB28
import Derived.Test.YtgoebckimmofoaaGreatDoorB29
/- The law Rolled, if Holds answers right. Our own text. -/
namespace Go.Proofs.YtgoebckimmofoaaGreatDoor
open Go.RowKit Go.Lib
set_option maxRecDepth 100000 in
set_option maxHeartbeats 1600000 in
theorem rolled_any {w : World} (hc : HoldsC w) (m f : ByteArray) (L : List ByteArray) (hL : ∀ s ∈ L, s.size ≤ maxLen) (hlen : L.length ≤ 4611686018427387903) (loop : Int) (v : Value) (hm : m.size ≤ maxLen) (hr : Reads w v L) :
    Calls Tryz.prog 7 #[.string m, .string f, v, .int .i64 loop] w fun e w' => e = .returned (.bool true) ∧ Below w.heap.size w w' := by
  have HRD : Put (Reads w v L) := ⟨hr⟩
  obtain ⟨ao, cap, rfl, hcl⟩ := hr
  have HCL : Put (_) := ⟨hcl⟩
  have HL : Put (_) := ⟨hL⟩
  have HC : Put (_) := ⟨hc⟩
  clear hL hc hcl
  go_enter Tryz.func7, Tryz.ntmps7
  go_wp2_with fail
  refine (lgood2 m f hm).mono ?_
  rintro e w1 ⟨⟨A, rfl, hA⟩, hb1⟩
  have HA : Put (_) := ⟨hA⟩
  have HB1 : Put (_) := ⟨hb1⟩
  clear hb1 hA
  have HBd : Put (_) := ⟨hbound_any m L HL.out (by omega) loop _ w1 hm (HRD.out.below HB1.out)⟩
  go_wp2_with fail
  refine HBd.out.mono ?_
  rintro e w2 ⟨⟨D, rfl, hD⟩, hb2⟩
  have HDb : Put (_) := ⟨hD⟩
  have HB2 : Put (_) := ⟨HB1.out.trans (hb2.mono HB1.out.size)⟩
  clear hb2 hD HB1 HBd
  cases A
  · go_wp2
    go_ret
    exact ⟨rfl, HB2.out⟩
  cases D
  · go_wp2
    go_ret
    exact ⟨rfl, HB2.out⟩
  by_cases hbig : 7000 < 2 * L.length
  · have hbig' : (7000 : Int) < 2 * (L.length : Int) := by omega
    go_wp2
    go_ret
    exact ⟨rfl, HB2.out⟩
  have hbig' : ¬ ((7000 : Int) < 2 * (L.length : Int)) := by omega
  have gf := HA.out.1 rfl
  obtain ⟨h7, hok, k, hk, rfl⟩ := HDb.out rfl
  have HH : Put (_) := ⟨hh_any HC.out HB2.out m f L k _ HL.out hm h7 hok hk gf (HRD.out.below HB2.out)⟩
  have GF : Put (_) := ⟨gf⟩
  have HOK : Put (_) := ⟨hok⟩
  clear HA HDb gf hok
  go_wp2_with fail
  refine HH.out.mono ?_
  rintro e w3 ⟨⟨h, rfl, th⟩, hb3⟩
  have HB3 : Put (_) := ⟨HB2.out.trans (hb3.mono HB2.out.size)⟩
  have TH : Put (_) := ⟨th⟩
  clear hb3 HB2 th HH
  go_wp2_with fail
  refine (copied_any _ L (by omega) (HRD.out.below HB3.out)).mono ?_
  rintro e w4 ⟨⟨vc, rfl, hrow⟩, hb4⟩
  have HB4 : Put (Below w.heap.size w w4) := ⟨HB3.out.trans (hb4.mono HB3.out.size)⟩
  have HROW : Put (_) := ⟨hrow⟩
  have HS34 : Put (w3.heap.size ≤ w4.heap.size) := ⟨hb4.size⟩
  obtain ⟨bL, oL, rfl, hbL, hcL⟩ := HCL.out (by omega)
  have HCc : Put (_) := ⟨hcL⟩
  obtain ⟨i0, hi, hz0, hz1, hz2⟩ := info_parts info9
  clear hrow hb4 hcL HCL
  go_wp2_with fail
  go_loopg [13, 14] (L.length - k) (fun gk lv iv wr => ∃ j : Nat, iv = .int .i64 ((k + j : Nat) : Int) ∧ j + gk = L.length - k ∧ wr.ownsRow w3.heap.size 9 1 lv (L.length + j) (bys (L ++ (L.drop k).take j)) ∧ Put (Below w.heap.size w wr) ∧ Put (w3.heap.size ≤ wr.heap.size))
  case atStart => exact ⟨0, rfl, by omega, by simpa using HROW.out, HB4, HS34⟩
  case round =>
    clear HROW HB4 HS34
    obtain ⟨j, rfl, hjk, hrow, HBr, HSr⟩ := hrel
    by_cases hlt : k + j < L.length
    · have hlt' : ((k + j : Nat) : Int) < (L.length : Int) := by omega
      have k0 : (0 : Int) ≤ ((k + j : Nat) : Int) := by omega
      obtain ⟨g', rfl⟩ : ∃ g', gk = g' + 1 := ⟨gk - 1, by omega⟩
      have ci := (HBr.out.cell (p := ⟨bL, oL + (k + j), none⟩) hbL).trans (HCc.out (k + j) hlt)
      have HS : Put (bys (L ++ (L.drop k).take (j + 1)) = bys (L ++ (L.drop k).take j) ++ [.string L[k + j]]) := ⟨by
        rw [List.take_add_one, List.getElem?_drop, List.getElem?_eq_getElem hlt]
        simp [bys]⟩
      generalize bys (L ++ (L.drop k).take j) = M at *
      generalize L[k + j] = t at *
      go_wp2_with (at_builtin; refine wpList_append_own _ rfl _ _ 22 rfl w3.heap.size 9 i0 _ 1 16 Tryz.underlying22 hi hz0 hz1 hz2 rfl Nat.one_pos u13 (L.length + j) M rfl (hrow.alloc _) ⟨wr.heap.size, 0, none⟩ 1 1 [.string t] rfl rfl (cell_one_new _ _ _) (by simp [Value.oneCell']) (by unfold maxLen; omega) (by omega) (by have := HSr.out; simp; omega) ?_)
      intro v' w5 hown' hgrow _
      obtain ⟨g5, cap5, rfl⟩ := ownsRow_succ hown'
      have HB5 : Put (Below w.heap.size w w5) := ⟨(HBr.out.alloc HBr.out.size _).grown hgrow (by have := HBr.out.size; simp; omega) (fun k e => Nat.le_trans HB3.out.size (hrow.lt k e).1)⟩
      have HS5 : Put (w3.heap.size ≤ w5.heap.size) := ⟨by have := hgrow.size; have := HSr.out; simp at *; omega⟩
      have hrn : w5.ownsRow w3.heap.size 9 1 (.slice (some ⟨g5, 0, none⟩) (L.length + (j + 1)) cap5) (L.length + (j + 1)) (bys (L ++ (L.drop k).take (j + 1))) := by rw [HS.out]; exact hown'
      clear hown' hgrow hrow HBr HSr ci HS
      go_wp2
      go_roundg g'
      case measure => exact Nat.lt_succ_self _
      case rel => exact ⟨j + 1, by go_num, by omega, hrn, HB5, HS5⟩
    · obtain rfl : j = L.length - k := by omega
      have hlt' : ¬ (((k + (L.length - k) : Nat) : Int) < (L.length : Int)) := by omega
      have hll : (L ++ L.drop k).length = L.length + (L.length - k) := roll_len hk
      rw [List.take_of_length_le (by simp), ← hll] at hrow
      have HRr : Put (Reads wr u13 (L ++ L.drop k)) := ⟨Reads.of_owns hrow⟩
      obtain ⟨gr, cr, rfl, _⟩ := bys_at hrow (by rw [hll]; omega)
      have hd : ∀ s, s ∈ L ++ L.drop k → s ∈ L := fun s hs => by
        rcases List.mem_append.1 hs with h | h
        · exact h
        · exact List.mem_of_mem_drop h
      have HH : Put (∀ (κ : Nat) (w' : World), κ < L.length + (L.length - k) → Below w.heap.size w w' → Below wr.heap.size wr w' → Calls Tryz.prog 27 #[.string m, .string f, .slice (some ⟨gr, 0, none⟩) (L.length + (L.length - k)) cr, .int .i64 κ] w' fun e w'' => (∃ h : Bool, e = .returned (.tuple #[.bool h, .bool true]) ∧ (h = true ↔ sOf f (stL (L ++ L.drop k) κ) 0)) ∧ Below w'.heap.size w' w'') := ⟨fun κ w' hκ hb hb' => by
        have := hh_any HC.out hb m f (L ++ L.drop k) κ _ (fun s hs => HL.out s (hd s hs)) hm (by rw [hll]; omega) (fun s hs => HOK.out s (hd s hs)) (by rw [hll]; omega) GF.out (HRr.out.below hb')
        rw [hll] at this
        exact this⟩
      rw [hll]
      have HH1 : Put (_) := ⟨HH.out k wr (by omega) HBr.out (Below.refl _ _)⟩
      have hkk : k < L.length + (L.length - k) := by omega
      have hnk : L.length < L.length + (L.length - k) := by omega
      clear hll
      have E1 : Put (stL (L ++ L.drop k) k = stL L k) := ⟨funext fun t => roll_same hk k (.inl rfl) t⟩
      have E2 : Put (stL (L ++ L.drop k) L.length = stL L k) := ⟨funext fun t => roll_same hk L.length (.inr rfl) t⟩
      clear hrow hd HRr HOK GF HC HL HRD
      go_wp2_with fail
      refine HH1.out.mono ?_
      rintro e w5 ⟨⟨g, rfl, tg⟩, hb5⟩
      have HB5 : Put (Below w.heap.size w w5) := ⟨HBr.out.trans (hb5.mono HBr.out.size)⟩
      have HB5' : Put (_) := ⟨hb5⟩
      rw [E1.out] at tg
      obtain rfl : h = g := bool_iff TH.out tg Iff.rfl
      clear hb5 tg HH1 E1
      go_wp2_with fail
      refine (HH.out L.length w5 hnk HB5.out HB5'.out).mono ?_
      rintro e w6 ⟨⟨g, rfl, tg⟩, hb6⟩
      have HB6 : Put (Below w.heap.size w w6) := ⟨HB5.out.trans (hb6.mono HB5.out.size)⟩
      rw [E2.out] at tg
      obtain rfl : h = g := bool_iff TH.out tg Iff.rfl
      clear hb6 tg HH E2 HB5 HB5' TH
      go_wp2
      go_ret
      exact ⟨by simp, HB6.out⟩
end Go.Proofs.YtgoebckimmofoaaGreatDoor
