import Derived.Test.YtgoebckimmofoaaGreatDoorRows
import Derived.WalkKit
import Derived.WalkSpells
import Derived.WalkLawsBesides
import Derived.Deep.QuietTactic
import Derived.BigQuiet
import Derived.RegionTactic
import Derived.Lib.TrailingZeros
import Derived.Laws.Bits64b
import Derived.Deep.LoopGhost
import Derived.Deep.RegionLaw
import Derived.Deep.RegionHeld3
import Derived.Stop.RegionWithIn
import Derived.Shelf.RegionOpen
import Derived.Scope
import Derived.WalkMore
import Derived.Deep.AppendLies
import Derived.Laws.IdiomStrings
import Derived.Maps.AppendAt
import Derived.RangeFuncBox
import Derived.Deep.RegionHeld
import Derived.RangeFuncNested
import Derived.RangeFuncBound
import Derived.RangeFuncCalls
import Derived.RangeFuncLeaves
import Derived.Shelf.Abstract
import Derived.OwnWalkIn
import Derived.TacticsInMore
import Derived.LoopNIn
import Derived.LoopIn
import Derived.Deep.OwnRows
import Derived.Test.YtgoebckimmofoaaGreatDoorB1
import Derived.Test.YtgoebckimmofoaaGreatDoorB7
import Derived.Test.YtgoebckimmofoaaGreatDoorB8
import Derived.Test.YtgoebckimmofoaaGreatDoorB11
import Derived.Test.YtgoebckimmofoaaGreatDoorB18
import Derived.Test.YtgoebckimmofoaaGreatDoorB20
import Derived.Test.YtgoebckimmofoaaGreatDoorB26
import Derived.Test.YtgoebckimmofoaaGreatDoorB27
import Derived.Test.YtgoebckimmofoaaGreatDoorB28
/- The law Denied, if Holds answers right. Our own text. -/
namespace Go.Proofs.YtgoebckimmofoaaGreatDoor
open Go.RowKit Go.Lib
set_option maxRecDepth 100000 in
set_option maxHeartbeats 1600000 in
theorem denied_any {w : World} (hc : HoldsC w) (m f g : ByteArray) (L : List ByteArray) (hL : ∀ s ∈ L, s.size ≤ maxLen) (hlen : L.length * 16 ≤ 140737488355328) (loop : Int) (v : Value) (hm : m.size ≤ maxLen) (hf : f.size ≤ 1152921504606846976) (hg : g.size ≤ 1152921504606846976) (hr : Reads w v L) :
    Calls Tryz.prog 9 #[.string m, .string f, .string g, v, .int .i64 loop] w fun e w' => e = .returned (.bool true) ∧ Below w.heap.size w w' := by
  have HRD : Put (Reads w v L) := ⟨hr⟩
  obtain ⟨ao, cap, rfl, _⟩ := hr
  have HL : Put (_) := ⟨hL⟩
  have HC : Put (_) := ⟨hc⟩
  clear hL hc
  have hlen' : L.length ≤ 9223372036854775807 := by omega
  go_enter Tryz.func9, Tryz.ntmps9
  go_wp2_with fail
  generalize en : ({ data := #[33, 40] } : ByteArray) ++ f ++ { data := #[41] } = tn at *
  generalize ep : ({ data := #[40] } : ByteArray) ++ f ++ { data := #[41, 38, 40] } ++ g ++ { data := #[41] } = tp at *
  generalize eq : ({ data := #[33, 40, 33, 40] } : ByteArray) ++ f ++ { data := #[41, 124, 33, 40] } ++ g ++ { data := #[41, 41] } = tq at *
  have hnn : nums tn = 33 :: 40 :: (nums f ++ [41]) := by rw [← en, nums_append, nums_append]; rfl
  have hnp : nums tp = 40 :: (nums f ++ 41 :: 38 :: 40 :: (nums g ++ [41])) := by rw [← ep, nums_append, nums_append, nums_append, nums_append]; simp [nums]
  have hnq : nums tq = 33 :: 40 :: 33 :: 40 :: (nums f ++ 41 :: 124 :: 33 :: 40 :: (nums g ++ [41, 41])) := by rw [← eq, nums_append, nums_append, nums_append, nums_append]; simp [nums]
  have zn : tn.size = f.size + 3 := by rw [size_of hnn]; simp [nums_len]
  have zp : tp.size = f.size + g.size + 5 := by rw [size_of hnp]; simp [nums_len]; omega
  have zq : tq.size = f.size + g.size + 10 := by rw [size_of hnq]; simp [nums_len]; omega
  have HNn : Put (_ = _) := ⟨hnn⟩
  have HNp : Put (_ = _) := ⟨hnp⟩
  have HNq : Put (_ = _) := ⟨hnq⟩
  clear hnn hnp hnq en ep eq
  refine (lgood2 m f hm).mono ?_
  rintro e w1 ⟨⟨A, rfl, hA⟩, hb1⟩
  have HA : Put (_) := ⟨hA⟩
  have HB1 : Put (_) := ⟨hb1⟩
  clear hb1 hA
  go_wp2_with fail
  refine (lgood2 m g hm).mono ?_
  rintro e w2 ⟨⟨B, rfl, hB⟩, hb2⟩
  have HBg : Put (_) := ⟨hB⟩
  have HB2 : Put (_) := ⟨HB1.out.trans (hb2.mono HB1.out.size)⟩
  clear hb2 hB HB1
  go_wp2_with fail
  refine (lgood2 m tq hm).mono ?_
  rintro e w3 ⟨⟨C, rfl, hC⟩, hb3⟩
  have HCq : Put (_) := ⟨hC⟩
  have HB3 : Put (_) := ⟨HB2.out.trans (hb3.mono HB2.out.size)⟩
  clear hb3 hC HB2
  have HBd : Put (_) := ⟨hbound_any m L HL.out hlen' loop _ w3 hm (HRD.out.below HB3.out)⟩
  go_wp2_with fail
  refine HBd.out.mono ?_
  rintro e w4 ⟨⟨D, rfl, hD⟩, hb4⟩
  have HDb : Put (_) := ⟨hD⟩
  have HB4 : Put (_) := ⟨HB3.out.trans (hb4.mono HB3.out.size)⟩
  clear hb4 hD HB3 HBd
  cases A
  · go_wp2
    go_ret
    exact ⟨rfl, HB4.out⟩
  cases B
  · go_wp2
    go_ret
    exact ⟨rfl, HB4.out⟩
  cases C
  · go_wp2
    go_ret
    exact ⟨rfl, HB4.out⟩
  cases D
  · go_wp2
    go_ret
    exact ⟨rfl, HB4.out⟩
  have gf := HA.out.1 rfl
  have gg := HBg.out.1 rfl
  have gq := HCq.out.1 rfl
  obtain ⟨h7, hok, k, hk, rfl⟩ := HDb.out rfl
  obtain ⟨hck, hfz, wf, df, rf, hdf, hnf, hwf⟩ := (good_iff m f).1 gf
  obtain ⟨_, hgz, wg, dg, rg, hdg, hng, hwg⟩ := (good_iff m g).1 gg
  have sn := txt_not HNn.out rf
  have sp := txt_and HNp.out rf rg
  have sq := txt_nor HNq.out rf rg
  obtain ⟨_, q1, q2, q3, q4⟩ := (good_says sq).1 gq
  have gn : (rForm m tn).1 = 0 := (good_says sn).2 ⟨hck, by omega, by omega, hnf, hwf⟩
  have gp : (rForm m tp).1 = 0 := (good_says sp).2 ⟨hck, by omega, by omega, ⟨hnf, hng⟩, q4⟩
  obtain ⟨_, _, _, _, _, mn⟩ := sn.whole
  obtain ⟨_, _, _, _, _, mp⟩ := sp.whole
  obtain ⟨_, _, _, _, _, mq⟩ := sq.whole
  have HH : Put (∀ (t : ByteArray) (w' : World), t.size ≤ 60 → (rForm m t).1 = 0 → Below w.heap.size w w' → Calls Tryz.prog 27 #[.string m, .string t, .slice ao L.length cap, .int .i64 k] w' fun e w'' => (∃ h : Bool, e = .returned (.tuple #[.bool h, .bool true]) ∧ (h = true ↔ sOf t (stL L k) 0)) ∧ Below w'.heap.size w' w'') := ⟨fun t w' ht hg hb =>
    (lholds_any w HC.out hb m t L HL.out hlen k _ hm (by unfold maxLen; omega) (HRD.out.below hb)).mono fun e w'' ⟨⟨h, x, h1, h2⟩, h3⟩ => by
      obtain ⟨rfl, h4⟩ := h2 hg h7 hok k hk rfl
      exact ⟨⟨h, h1, h4⟩, h3⟩⟩
  have GF : Put (_ ∧ _ ∧ _ ∧ _) := ⟨gf, gn, gp, gq⟩
  have MM : Put ((sOf tn (stL L k) 0 ↔ ¬ sOf f (stL L k) 0) ∧ (sOf tp (stL L k) 0 ↔ sOf f (stL L k) 0 ∧ sOf g (stL L k) 0) ∧ (sOf tq (stL L k) 0 ↔ ¬ (¬ sOf f (stL L k) 0 ∨ ¬ sOf g (stL L k) 0))) := ⟨mn _ _, mp _ _, mq _ _⟩
  clear HA HBg HCq HDb sn sp sq mn mp mq rf rg gf gg gn gp gq hok q2 q3 hnf hng hck HNn HNp HNq HC HRD HL
  go_wp2_with fail
  refine (HH.out f w4 hfz GF.out.1 HB4.out).mono ?_
  rintro e w5 ⟨⟨h, rfl, th⟩, hb5⟩
  have HB5 : Put (_) := ⟨HB4.out.trans (hb5.mono HB4.out.size)⟩
  have TH : Put (_) := ⟨th⟩
  clear hb5 HB4 th
  go_wp2_with fail
  refine (HH.out tn w5 (by omega) GF.out.2.1 HB5.out).mono ?_
  rintro e w6 ⟨⟨kn, rfl, tk⟩, hb6⟩
  have HB6 : Put (_) := ⟨HB5.out.trans (hb6.mono HB5.out.size)⟩
  have TK : Put (_) := ⟨tk⟩
  clear hb6 HB5 tk
  go_wp2_with fail
  refine (HH.out tp w6 (by omega) GF.out.2.2.1 HB6.out).mono ?_
  rintro e w7 ⟨⟨ip, rfl, ti⟩, hb7⟩
  have HB7 : Put (_) := ⟨HB6.out.trans (hb7.mono HB6.out.size)⟩
  have TI : Put (_) := ⟨ti⟩
  clear hb7 HB6 ti
  go_wp2_with fail
  refine (HH.out tq w7 (by omega) GF.out.2.2.2 HB7.out).mono ?_
  rintro e w8 ⟨⟨jq, rfl, tj⟩, hb8⟩
  have HB8 : Put (_) := ⟨HB7.out.trans (hb8.mono HB7.out.size)⟩
  have e1 : kn = !h := bool_not TH.out TK.out MM.out.1
  have e2 : ip = jq := bool_iff TI.out tj (MM.out.2.1.trans (by
    rw [MM.out.2.2]
    constructor
    · rintro ⟨a, b⟩ (c | c)
      · exact c a
      · exact c b
    · intro hn
      exact ⟨Classical.byContradiction fun hx => hn (.inl hx), Classical.byContradiction fun hx => hn (.inr hx)⟩))
  have e3 : ip = true → h = true := fun hi => TH.out.2 ((MM.out.2.1.1 (TI.out.1 hi)).1)
  subst e1 e2
  clear hb8 HB7 tj TH TK TI MM GF HH
  cases ip
  · cases h
    · go_wp2
      go_ret
      exact ⟨rfl, HB8.out⟩
    · go_wp2
      go_ret
      exact ⟨rfl, HB8.out⟩
  · obtain rfl := e3 rfl
    go_wp2
    go_ret
    exact ⟨rfl, HB8.out⟩
end Go.Proofs.YtgoebckimmofoaaGreatDoor
