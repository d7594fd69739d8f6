import Derived.Test.YtgoebckimmofoaaGreatDoorRows
import Derived.WalkKit
import Derived.WalkSpells
import Derived.WalkLawsBesides
import Derived.Deep.QuietTactic
import Derived.BigQuiet
import Derived.RegionTactic
import Derived.Lib.TrailingZeros
import Derived.Laws.Bits64b
import Derived.Deep.LoopGhost
import Derived.Deep.RegionLaw
import Derived.Deep.RegionHeld3
import Derived.Stop.RegionWithIn
import Derived.Shelf.RegionOpen
import Derived.Scope
import Derived.WalkMore
import Derived.Deep.AppendLies
import Derived.Laws.IdiomStrings
import Derived.Maps.AppendAt
import Derived.RangeFuncBox
import Derived.Deep.RegionHeld
import Derived.RangeFuncNested
import Derived.RangeFuncBound
import Derived.RangeFuncCalls
import Derived.RangeFuncLeaves
import Derived.Shelf.Abstract
import Derived.OwnWalkIn
import Derived.TacticsInMore
import Derived.LoopNIn
import Derived.LoopIn
import Derived.Deep.OwnRows
import Derived.Test.YtgoebckimmofoaaGreatDoorB1
import Derived.Test.YtgoebckimmofoaaGreatDoorB4
import Derived.Test.YtgoebckimmofoaaGreatDoorB5
import Derived.Test.YtgoebckimmofoaaGreatDoorB7
import Derived.Test.YtgoebckimmofoaaGreatDoorB8
import Derived.Test.YtgoebckimmofoaaGreatDoorB11
import Derived.Test.YtgoebckimmofoaaGreatDoorB17
import Derived.Test.YtgoebckimmofoaaGreatDoorB18
import Derived.Test.YtgoebckimmofoaaGreatDoorB19
import Derived.Test.YtgoebckimmofoaaGreatDoorB20
import Derived.Test.YtgoebckimmofoaaGreatDoorB26
import Derived.Test.YtgoebckimmofoaaGreatDoorB27
import Derived.Test.YtgoebckimmofoaaGreatDoorB6
/- The law's own holds and good. Our own text. -/
namespace Go.Proofs.YtgoebckimmofoaaGreatDoor
open Go.RowKit Go.Lib
/-- The text T. -/
def txtT : ByteArray := ⟨#[84]⟩
theorem nums_T : nums txtT = [84] := rfl
theorem says_T : Says txtT 3 0 txtT.size 0 0 (fun _ => True) (fun _ _ => True) :=
  (Says.top (s := txtT) (k := 0) (byte_of (A := []) nums_T rfl)).up3 (.inr (byte_end rfl))
theorem good_T {m : ByteArray} (h : (rCheck m).1 = 0) : (rForm m txtT).1 = 0 := by
  obtain ⟨h1, _, _, _, h5, _⟩ := says_T.whole
  exact (good_iff m txtT).2 ⟨h, by decide, 0, 0, h1, by omega, (h5 _).2 trivial, by omega⟩
theorem holds_T {L : List ByteArray} {k : Nat} (hk : k < L.length) : at_ (plF txtT L k (qForm txtT).1) 0 = true := by
  obtain ⟨_, _, _, _, _, h6⟩ := says_T.whole
  exact (hold_sem hk).2 ((h6 _ _).2 trivial)
theorem hold_ok {m f : ByteArray} {L : List ByteArray} {k : Nat} {b : Bool} {c : Nat} {p : Int} (h : HoldD m f L (k : Int) b c p) (h0 : (rForm m f).1 = 0) (h7 : L.length ≤ 7000) (hok : ∀ s ∈ L, okT s (topsM m)) (hk : k < L.length) : c = 0 ∧ (b = true ↔ sOf f (stL L k) 0) := by
  have h' : HoldD m f L (k : Int) (at_ (plF f L k (qForm f).1) 0) 0 0 := .inr ⟨h0, .inr ⟨h7, hok, k, hk, rfl, rfl, rfl, rfl⟩⟩
  obtain ⟨rfl, rfl, rfl⟩ := h.uniq h'
  exact ⟨rfl, hold_sem hk⟩
section
variable {w : World}
set_option maxRecDepth 100000 in
set_option maxHeartbeats 800000 in
theorem lgood_any (m f : ByteArray) (hm : m.size ≤ maxLen) :
    Calls Tryz.prog 25 #[.string m, .string f] w fun e w' => e = .returned (.bool (decide ((rForm m f).1 = 0))) ∧ Below w.heap.size w w' := by
  have HD : Put (_) := ⟨rform_any m f w hm⟩
  generalize (rForm m f).1 = a at *
  generalize (rForm m f).2 = b at *
  by_cases h : a = 0
  · subst h
    go_enter Tryz.func25, Tryz.ntmps25
    go_wp2_with fail
    refine HD.out.mono ?_
    rintro e w1 ⟨rfl, hb1⟩
    have HB1 : Put (_) := ⟨hb1⟩
    clear hb1 HD
    go_wp2
    go_ret
    exact ⟨rfl, HB1.out⟩
  · have hne : ((a : Int) == 0) = false := by simp; exact h
    have HE : Put (decide (a = 0) = false) := ⟨by simp [h]⟩
    clear h
    go_enter Tryz.func25, Tryz.ntmps25
    go_wp2_with fail
    refine HD.out.mono ?_
    rintro e w1 ⟨rfl, hb1⟩
    have HB1 : Put (_) := ⟨hb1⟩
    clear hb1 HD
    go_wp2
    go_ret
    exact ⟨by rw [HE.out]; simp, HB1.out⟩
set_option maxRecDepth 100000 in
set_option maxHeartbeats 1600000 in
theorem lholds_any (W : World) (hc : HoldsC W) (hW : Below W.heap.size W w) (m f : ByteArray) (L : List ByteArray) (hL : ∀ s ∈ L, s.size ≤ maxLen) (hlen : L.length * 16 ≤ 140737488355328) (loop : Int) (v : Value) (hm : m.size ≤ maxLen) (hf : f.size ≤ maxLen) (hr : Reads w v L) :
    Calls Tryz.prog 27 #[.string m, .string f, v, .int .i64 loop] w fun e w' => (∃ h x : Bool, e = .returned (.tuple #[.bool h, .bool x]) ∧
      ((rForm m f).1 = 0 → L.length ≤ 7000 → (∀ s ∈ L, okT s (topsM m)) → ∀ k : Nat, k < L.length → loop = (k : Int) → x = true ∧ (h = true ↔ sOf f (stL L k) 0))) ∧ Below w.heap.size w w' := by
  have HRD : Put (Reads w v L) := ⟨hr⟩
  obtain ⟨ao, cap, rfl, _⟩ := hr
  have HL : Put (_) := ⟨hL⟩
  have HC : Put (_) := ⟨hc⟩
  have HW : Put (_) := ⟨hW⟩
  clear hL hc hW
  have hlen' : L.length ≤ 9223372036854775807 := by omega
  go_enter Tryz.func27, Tryz.ntmps27
  go_wp2_with fail
  refine (copied_any _ L hlen HRD.out).mono ?_
  rintro e w1 ⟨⟨vc, rfl, hrow⟩, hb1⟩
  have HROW : Put (_) := ⟨hrow⟩
  obtain ⟨aoc, capc, rfl⟩ := owned_slice' hrow
  have HB1 : Put (_) := ⟨hb1⟩
  clear hrow hb1
  have HBX : Put (_) := ⟨heap_alloc_new w1 (.cells #[.slice aoc L.length capc, .int .i64 loop] 43)⟩
  have hla : Below w1.heap.size w1 (w1.alloc (.cells #[.slice aoc L.length capc, .int .i64 loop] 43)) := (Below.refl _ _).alloc (Nat.le_refl _) _
  have HB1a : Put (Below w.heap.size w _) := ⟨HB1.out.trans (hla.mono HB1.out.size)⟩
  have HWa : Put (Below W.heap.size W _) := ⟨HW.out.trans (HB1a.out.mono HW.out.size)⟩
  have HRDa : Put (_) := ⟨Reads.of_owns (hla.ownsRow' HROW.out)⟩
  have HH : Put (_) := ⟨HC.out m f L loop _ _ hm hf HL.out hlen' HWa.out HRDa.out⟩
  clear hla HROW
  go_wp2_with fail
  refine HH.out.mono ?_
  rintro e w2 ⟨⟨h, c, p, rfl, hD⟩, hb2⟩
  have HD : Put (_) := ⟨hD⟩
  have HB2 : Put (Below w.heap.size w w2) := ⟨HB1a.out.trans (hb2.mono HB1a.out.size)⟩
  have bx := (hb2.block _ (lt_of_block HBX.out)).trans HBX.out
  have x0 := two_cell0 bx
  have x1 := two_cell1 bx
  have HH2 : Put (_) := ⟨HC.out m txtT L loop _ w2 hm (by decide) HL.out hlen' (HW.out.trans (HB2.out.mono HW.out.size)) (HRDa.out.below hb2)⟩
  unfold txtT at HH2
  clear hD hb2 bx HH HRDa HB1a HWa HBX HB1
  go_wp2_with fail
  refine HH2.out.mono ?_
  rintro e w3 ⟨⟨t, c2, p2, rfl, hD2⟩, hb3⟩
  have HD2 : Put (HoldD m txtT L loop t c2 p2) := ⟨hD2⟩
  have HB3 : Put (Below w.heap.size w w3) := ⟨HB2.out.trans (hb3.mono HB2.out.size)⟩
  clear hD2 hb3 HH2 HB2 x0 x1
  have HF : Put (∀ x : Bool, (c = 0 → c2 = 0 → x = t) → (rForm m f).1 = 0 → L.length ≤ 7000 → (∀ s ∈ L, okT s (topsM m)) → ∀ k : Nat, k < L.length → loop = (k : Int) → x = true ∧ (h = true ↔ sOf f (stL L k) 0)) := ⟨fun x hx h0 h7 hok k hk e => by
    subst e
    obtain ⟨e1, e2⟩ := hold_ok HD.out h0 h7 hok hk
    obtain ⟨e3, e4⟩ := hold_ok HD2.out (good_T (rForm_ok h0).1) h7 hok hk
    refine ⟨?_, e2⟩
    rw [hx e1 e3]
    exact e4.2 ((hold_sem hk).1 (holds_T hk))⟩
  clear HD HD2
  go_wp2_with fail
  refine (hnum_any c w3).mono ?_
  rintro e w4 ⟨rfl, hb4⟩
  have HB4 : Put (_) := ⟨HB3.out.trans (hb4.mono HB3.out.size)⟩
  clear hb4 HB3
  by_cases hc0 : c = 0
  · subst hc0
    go_wp2_with fail
    refine (hnum_any c2 w4).mono ?_
    rintro e w5 ⟨rfl, hb5⟩
    have HB5 : Put (_) := ⟨HB4.out.trans (hb5.mono HB4.out.size)⟩
    clear hb5 HB4
    by_cases hc2 : c2 = 0
    · subst hc2
      have FIN : Put (_) := ⟨HF.out t (fun _ _ => rfl)⟩
      clear HF
      go_wp2
      refine bodyPost_ret (v := .tuple #[.bool h, .bool t]) (by simp [results, Tryz.results27, go_sem]) rfl ?_
      exact ⟨⟨h, t, rfl, FIN.out⟩, HB5.out⟩
    · have hne : ((c2 : Int) == 0) = false := by simp; exact hc2
      have FIN : Put (_) := ⟨HF.out false (fun _ h => absurd h hc2)⟩
      clear HF
      go_wp2
      refine bodyPost_ret (v := .tuple #[.bool h, .bool false]) (by simp [results, Tryz.results27, go_sem]) rfl ?_
      exact ⟨⟨h, false, rfl, FIN.out⟩, HB5.out⟩
  · have hne : ((c : Int) == 0) = false := by simp; exact hc0
    have FIN : Put (_) := ⟨HF.out false (fun h => absurd h hc0)⟩
    clear HF
    go_wp2
    refine bodyPost_ret (v := .tuple #[.bool h, .bool false]) (by simp [results, Tryz.results27, go_sem]) rfl ?_
    exact ⟨⟨h, false, rfl, FIN.out⟩, HB4.out⟩
end
end Go.Proofs.YtgoebckimmofoaaGreatDoor

/- The law's bound, as far as the laws about formulas need it. Our own text. -/
namespace Go.Proofs.YtgoebckimmofoaaGreatDoor
open Go.RowKit Go.Lib
/-- A lasso of the model's states. -/
def LsOk (m : ByteArray) (L : List ByteArray) (loop : Int) : Prop := L.length ≤ 7000 ∧ (∀ s ∈ L, okT s (topsM m)) ∧ ∃ k : Nat, k < L.length ∧ loop = (k : Int)
set_option maxRecDepth 100000 in
set_option maxHeartbeats 1600000 in
theorem hbound_any (s : ByteArray) (L : List ByteArray) (hL : ∀ s ∈ L, s.size ≤ maxLen) (hlen : L.length ≤ 9223372036854775807) (loop : Int) (v : Value) (w : World) (hs : s.size ≤ maxLen) (hr : Reads w v L) :
    Calls Tryz.prog 26 #[.string s, v, .int .i64 loop] w fun e w' => (∃ b : Bool, e = .returned (.bool b) ∧ (b = true → LsOk s L loop)) ∧ Below w.heap.size w w' := by
  have HRD : Put (Reads w v L) := ⟨hr⟩
  obtain ⟨aoL, capL, rfl, _⟩ := hr
  have HL : Put (_) := ⟨hL⟩
  have hck := rcheck_any s w hs
  clear hL
  by_cases h0 : (rCheck s).1 = 0
  · obtain ⟨hle, va, ra, q', hq, hw⟩ := rCheck_ok h0
    have hp0 : (rCheck s).2 = 0 := by
      unfold rCheck
      rw [if_neg (by omega), hq]
      obtain ⟨e1, e2⟩ := wrong_none hw
      show (wrongP va ra).2 = 0
      unfold wrongP
      rw [e1, e2]; rfl
    rw [h0, hp0] at hck
    have HQ : Put (qRead s = (some (va, ra), q')) := ⟨hq⟩
    have HT : Put (topsM s = topsA va) := ⟨by unfold topsM; rw [hq]⟩
    clear hq hw h0 hp0
    go_enter Tryz.func26, Tryz.ntmps26
    go_wp2_with fail
    refine hck.mono ?_
    rintro e w1 ⟨rfl, hb1⟩
    clear hck
    go_wp2_with fail
    refine (rread_any hle HQ.out).mono ?_
    rintro e w2 ⟨⟨ao, aor, cap, capr, vs, rs, bad, rfl, hv, hrr, hOv, hOr, h3, h8, hfin⟩, hb2⟩
    rcases hfin with ⟨p, h1, h2, rfl⟩ | ⟨h1, rfl, htied⟩
    · cases h1
    obtain ⟨rfl, rfl⟩ : va = vs.map V3.ast ∧ ra = rs.map R2.ast := by simpa using h1
    have e1 : topsA (vs.map V3.ast) = vs.map V3.top := by simp [topsA, V3.ast]
    rw [e1] at HT
    clear h1 htied hOv hOr hrr e1 HQ
    obtain ⟨w3, hw3⟩ : ∃ w3, w3 = w2.alloc (.cells #[.slice ao vs.length cap, .slice aor rs.length capr] 65) := ⟨_, rfl⟩
    have hw3' := hw3.symm
    have hb01 : Below w.heap.size w w2 := hb1.trans (hb2.mono hb1.size)
    have hb23 : Below w2.heap.size w2 w3 := by rw [hw3]; exact (Below.refl _ _).alloc (Nat.le_refl _) _
    have HB3 : Put (Below w.heap.size w w3) := ⟨hb01.trans (hb23.mono hb01.size)⟩
    have bxm : w3.heap[w2.heap.size]? = some (.cells #[.slice ao vs.length cap, .slice aor rs.length capr] 65 (0, 0)) := by rw [hw3]; exact heap_alloc_new w2 _
    have p0 := two_cell0 bxm
    have p1 := two_cell1 bxm
    have HBD : Put (_) := ⟨bound_any (w := w3) ao aor cap rs.length capr w1.heap.size vs h3 L HL.out hlen loop _ (HRD.out.below HB3.out) (hb23.ownsRow' hv)⟩
    clear hv bxm hb23 hb01 hw3 hb1 hb2
    go_wp2_with fail
    refine HBD.out.mono ?_
    rintro e w4 ⟨⟨c, p, rfl, hbd⟩, hb4⟩
    have HBR : Put (_) := ⟨hbd⟩
    have HB4 : Put (Below w.heap.size w w4) := ⟨HB3.out.trans (hb4.mono HB3.out.size)⟩
    clear hbd HBD hb4 p0 p1 hw3'
    by_cases hc0 : c = 0
    · subst hc0
      have FIN : Put (LsOk s L loop) := ⟨by
        rcases HBR.out with ⟨_, h, _⟩ | ⟨_, _, _, _, _, h, _⟩ | ⟨_, _, _, h, _⟩ | ⟨a, b, c, d, _, _⟩
        · cases h
        · cases h
        · cases h
        · exact ⟨a, by rw [HT.out]; exact b, loop.toNat, by omega, by omega⟩⟩
      clear HBR
      go_wp2
      go_ret
      exact ⟨⟨true, rfl, fun _ => FIN.out⟩, HB4.out⟩
    · have hne : ((c : Int) == 0) = false := by simp; exact hc0
      clear HBR
      go_wp2
      go_ret
      exact ⟨⟨false, rfl, fun h => by cases h⟩, HB4.out⟩
  · have hne : (((rCheck s).1 : Int) == 0) = false := by simp; exact h0
    clear h0
    generalize (rCheck s).1 = a at *
    generalize (rCheck s).2 = b at *
    go_enter Tryz.func26, Tryz.ntmps26
    go_wp2_with fail
    refine hck.mono ?_
    rintro e w1 ⟨rfl, hb1⟩
    clear hck
    go_wp2
    go_ret
    exact ⟨⟨false, rfl, fun h => by cases h⟩, hb1⟩
theorem lgood2 {w : World} (m f : ByteArray) (hm : m.size ≤ maxLen) : Calls Tryz.prog 25 #[.string m, .string f] w fun e w' => (∃ b : Bool, e = .returned (.bool b) ∧ (b = true ↔ (rForm m f).1 = 0)) ∧ Below w.heap.size w w' :=
  (lgood_any m f hm).mono fun _ _ ⟨h1, h2⟩ => ⟨⟨_, h1, by simp⟩, h2⟩
/-- When a text that says something is good. -/
theorem good_says {m s : ByteArray} {w d : Nat} {N : Nat → Prop} {P : Sy} (h : Says s 3 0 s.size w d N P) : (rForm m s).1 = 0 ↔ (rCheck m).1 = 0 ∧ s.size ≤ 60 ∧ d ≤ 10 ∧ N (nvM m) ∧ w ≤ 4 := by
  obtain ⟨h1, h2, h3, h4, h5, _⟩ := h.whole
  constructor
  · intro hg
    obtain ⟨g1, g2, _, g4, g5, g6, _⟩ := rForm_ok hg
    exact ⟨g1, g2, h4.1 (by omega), (h5 _).1 (nm_of _ _ (qForm_ok s) g4), by omega⟩
  · rintro ⟨g1, g2, g3, g4, g5⟩
    exact (good_iff m s).2 ⟨g1, g2, w, d, h1, g3, (h5 _).2 g4, g5⟩
theorem bool_iff {a b : Bool} {p q : Prop} (ha : a = true ↔ p) (hb : b = true ↔ q) (h : p ↔ q) : a = b := by
  cases a <;> cases b <;> simp_all
theorem bool_not {a b : Bool} {p q : Prop} (ha : a = true ↔ p) (hb : b = true ↔ q) (h : q ↔ ¬ p) : b = !a := by
  cases a <;> cases b <;> simp_all
end Go.Proofs.YtgoebckimmofoaaGreatDoor
