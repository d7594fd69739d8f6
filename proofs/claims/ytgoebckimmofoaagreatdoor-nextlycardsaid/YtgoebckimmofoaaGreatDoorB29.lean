import Derived.Test.YtgoebckimmofoaaGreatDoorRows
import Derived.WalkKit
import Derived.WalkSpells
import Derived.WalkLawsBesides
import Derived.Deep.QuietTactic
import Derived.BigQuiet
import Derived.RegionTactic
import Derived.Lib.TrailingZeros
import Derived.Laws.Bits64b
import Derived.Deep.LoopGhost
import Derived.Deep.RegionLaw
import Derived.Deep.RegionHeld3
import Derived.Stop.RegionWithIn
import Derived.Shelf.RegionOpen
import Derived.Scope
import Derived.WalkMore
import Derived.Deep.AppendLies
import Derived.Laws.IdiomStrings
import Derived.Maps.AppendAt
import Derived.RangeFuncBox
import Derived.Deep.RegionHeld
import Derived.RangeFuncNested
import Derived.RangeFuncBound
import Derived.RangeFuncCalls
import Derived.RangeFuncLeaves
import Derived.Shelf.Abstract
import Derived.OwnWalkIn
import Derived.TacticsInMore
import Derived.LoopNIn
import Derived.LoopIn
import Derived.Deep.OwnRows
import Derived.Test.YtgoebckimmofoaaGreatDoorB2
import Derived.Test.YtgoebckimmofoaaGreatDoorB4
import Derived.Test.YtgoebckimmofoaaGreatDoorB5
import Derived.Test.YtgoebckimmofoaaGreatDoorB7
import Derived.Test.YtgoebckimmofoaaGreatDoorB17
import Derived.Test.YtgoebckimmofoaaGreatDoorB19
import Derived.Test.YtgoebckimmofoaaGreatDoorB20
import Derived.Test.YtgoebckimmofoaaGreatDoorB26
import Derived.Test.YtgoebckimmofoaaGreatDoorB27
import Derived.Test.YtgoebckimmofoaaGreatDoorB1
import Derived.Test.YtgoebckimmofoaaGreatDoorB8
import Derived.Test.YtgoebckimmofoaaGreatDoorB11
import Derived.Test.YtgoebckimmofoaaGreatDoorB18
import Derived.Test.YtgoebckimmofoaaGreatDoorB28
/- What the laws about formulas come to. Our own text. -/
namespace Go.Proofs.YtgoebckimmofoaaGreatDoor
open Go.RowKit Go.Lib
section
variable {f g s : ByteArray} {w v d e : Nat}
theorem txt_unfU (h : nums s = 40 :: (nums g ++ 41 :: 124 :: 40 :: (nums f ++ 41 :: 38 :: 88 :: 40 :: 40 :: (nums f ++ 41 :: 85 :: 40 :: (nums g ++ [41, 41])))))
    (hf : Rd f 3 0 (qForm f).1 f.size w d) (hg : Rd g 3 0 (qForm g).1 g.size v e) :
    Says s 3 0 s.size (v + (w + (w + v + 1 + 1))) (max (e + 1) (max (d + 1) (max (d + 1) (e + 1) + 1))) (fun nv => nmOf g nv ∧ (nmOf f nv ∧ (nmOf f nv ∧ nmOf g nv))) (fun st t => sOf g st t ∨ (sOf f st t ∧ sU (sOf f) (sOf g) st (t + 1))) :=
  unf_in h hf hg _ _ (fun hb a b => a.until hb b (by omega))
theorem txt_unfW (h : nums s = 40 :: (nums g ++ 41 :: 124 :: 40 :: (nums f ++ 41 :: 38 :: 88 :: 40 :: 40 :: (nums f ++ 41 :: 87 :: 40 :: (nums g ++ [41, 41])))))
    (hf : Rd f 3 0 (qForm f).1 f.size w d) (hg : Rd g 3 0 (qForm g).1 g.size v e) :
    Says s 3 0 s.size (v + (w + (w + v + 1 + 1))) (max (e + 1) (max (d + 1) (max (d + 1) (e + 1) + 1))) (fun nv => nmOf g nv ∧ (nmOf f nv ∧ (nmOf f nv ∧ nmOf g nv))) (fun st t => sOf g st t ∨ (sOf f st t ∧ sW (sOf f) (sOf g) st (t + 1))) :=
  unf_in h hf hg _ _ (fun hb a b => a.weak hb b (by omega))
theorem txt_unfR (h : nums s = 40 :: (nums g ++ 41 :: 38 :: 40 :: 40 :: (nums f ++ 41 :: 124 :: 88 :: 40 :: 40 :: (nums f ++ 41 :: 82 :: 40 :: (nums g ++ [41, 41, 41])))))
    (hf : Rd f 3 0 (qForm f).1 f.size w d) (hg : Rd g 3 0 (qForm g).1 g.size v e) :
    Says s 3 0 s.size (v + (w + (w + v + 1 + 1))) (max (e + 1) (max (d + 1) (max (d + 1) (e + 1) + 1) + 1)) (fun nv => nmOf g nv ∧ (nmOf f nv ∧ (nmOf f nv ∧ nmOf g nv))) (fun st t => sOf g st t ∧ (sOf f st t ∨ sR (sOf f) (sOf g) st (t + 1))) := by
  have hz := size_of h
  simp [nums_len] at hz
  have a := says_in (s := s) (A := []) (C := 38 :: 40 :: 40 :: (nums f ++ 41 :: 124 :: 88 :: 40 :: 40 :: (nums f ++ 41 :: 82 :: 40 :: (nums g ++ [41, 41, 41])))) h hg
  have hb : byteAt s (g.size + 2) = 38 := byte_of (A := 40 :: (nums g ++ [41])) (C := 40 :: 40 :: (nums f ++ 41 :: 124 :: 88 :: 40 :: 40 :: (nums f ++ 41 :: 82 :: 40 :: (nums g ++ [41, 41, 41])))) (by rw [h]; simp) (by simp [nums_len])
  have hb1 : byteAt s (g.size + 2 + 1) = 40 := byte_of (A := 40 :: (nums g ++ [41, 38])) (C := 40 :: (nums f ++ 41 :: 124 :: 88 :: 40 :: 40 :: (nums f ++ 41 :: 82 :: 40 :: (nums g ++ [41, 41, 41])))) (by rw [h]; simp) (by simp [nums_len])
  have b := says_in (s := s) (A := 40 :: (nums g ++ [41, 38, 40])) (C := 124 :: 88 :: 40 :: 40 :: (nums f ++ 41 :: 82 :: 40 :: (nums g ++ [41, 41, 41]))) (by rw [h]; simp) hf
  have e1 : (40 :: (nums g ++ [41, 38, 40])).length = g.size + 2 + 1 + 1 := by simp [nums_len]
  rw [e1] at b
  have hb2 : byteAt s (g.size + 2 + 1 + 1 + f.size + 2) = 124 := byte_of (A := 40 :: (nums g ++ 41 :: 38 :: 40 :: 40 :: (nums f ++ [41]))) (C := 88 :: 40 :: 40 :: (nums f ++ 41 :: 82 :: 40 :: (nums g ++ [41, 41, 41]))) (by rw [h]; simp) (by simp [nums_len]; omega)
  have hb3 : byteAt s (g.size + 2 + 1 + 1 + f.size + 2 + 1) = 88 := byte_of (A := 40 :: (nums g ++ 41 :: 38 :: 40 :: 40 :: (nums f ++ [41, 124]))) (C := 40 :: 40 :: (nums f ++ 41 :: 82 :: 40 :: (nums g ++ [41, 41, 41]))) (by rw [h]; simp) (by simp [nums_len]; omega)
  have hb4 : byteAt s (g.size + 2 + 1 + 1 + f.size + 2 + 1 + 1) = 40 := byte_of (A := 40 :: (nums g ++ 41 :: 38 :: 40 :: 40 :: (nums f ++ [41, 124, 88]))) (C := 40 :: (nums f ++ 41 :: 82 :: 40 :: (nums g ++ [41, 41, 41]))) (by rw [h]; simp) (by simp [nums_len]; omega)
  obtain ⟨t1, t2, t3⟩ := two_in (s := s) (c := 82) (A := 40 :: (nums g ++ 41 :: 38 :: 40 :: 40 :: (nums f ++ [41, 124, 88, 40]))) (C := [41, 41]) (by rw [h]; simp) hf hg
  have e2 : (40 :: (nums g ++ 41 :: 38 :: 40 :: 40 :: (nums f ++ [41, 124, 88, 40]))).length = g.size + 2 + 1 + 1 + f.size + 2 + 1 + 1 + 1 := by simp [nums_len]; omega
  rw [e2] at t1 t2 t3
  have hb5 : byteAt s (g.size + 2 + 1 + 1 + f.size + 2 + 1 + 1 + 1 + f.size + g.size + 5) = 41 := byte_of (A := 40 :: (nums g ++ 41 :: 38 :: 40 :: 40 :: (nums f ++ 41 :: 124 :: 88 :: 40 :: 40 :: (nums f ++ 41 :: 82 :: 40 :: (nums g ++ [41]))))) (C := [41]) (by rw [h]; simp) (by simp [nums_len]; omega)
  have hb6 : byteAt s (g.size + 2 + 1 + 1 + f.size + 2 + 1 + 1 + 1 + f.size + g.size + 5 + 1) = 41 := byte_of (A := 40 :: (nums g ++ 41 :: 38 :: 40 :: 40 :: (nums f ++ 41 :: 124 :: 88 :: 40 :: 40 :: (nums f ++ 41 :: 82 :: 40 :: (nums g ++ [41, 41]))))) (C := []) (by rw [h]; simp) (by simp [nums_len]; omega)
  have x := (((t1.release t2 t3 (by omega)).up3' (.inl hb5)).brk hb4 hb5).next hb3
  have y := (b.up2 (by omega) (by omega) (by omega) (by omega)).form hb2 (x.up3 (.inl hb6)) (by omega)
  have z := y.brk hb1 hb6
  rw [show g.size + 2 + 1 + 1 + f.size + 2 + 1 + 1 + 1 + f.size + g.size + 5 + 1 + 1 = s.size by omega] at z
  have z2 := z.up2 (by rw [byte_end rfl]; omega) (by rw [byte_end rfl]; omega) (by rw [byte_end rfl]; omega) (by rw [byte_end rfl]; omega)
  rw [show ([] : List Nat).length + g.size + 2 = g.size + 2 by simp] at a
  exact ((a.one (by omega) (by omega) (by omega)).both hb z2 (by simp)).up3'' (.inr (byte_end rfl))
end
section
variable {P R : Sy} {st : Nat → ByteArray} {t : Nat}
theorem sU_unf : sU P R st t ↔ R st t ∨ (P st t ∧ sU P R st (t + 1)) := by
  unfold sU
  constructor
  · rintro ⟨j, h1, h2, h3⟩
    by_cases hj : j = t
    · subst hj; exact .inl h2
    · exact .inr ⟨h3 t (Nat.le_refl _) (by omega), j, by omega, h2, fun i h4 h5 => h3 i (by omega) h5⟩
  · rintro (h | ⟨h1, j, h2, h3, h4⟩)
    · exact ⟨t, Nat.le_refl _, h, fun i _ _ => by omega⟩
    · refine ⟨j, by omega, h3, fun i h5 h6 => ?_⟩
      by_cases hi : i = t
      · subst hi; exact h1
      · exact h4 i (by omega) h6
theorem all_unf : (∀ j, t ≤ j → P st j) ↔ P st t ∧ ∀ j, t + 1 ≤ j → P st j := by
  constructor
  · exact fun h => ⟨h t (Nat.le_refl _), fun j hj => h j (by omega)⟩
  · rintro ⟨h1, h2⟩ j hj
    by_cases e : j = t
    · subst e; exact h1
    · exact h2 j (by omega)
theorem sW_iff : sW P R st t ↔ sU P R st t ∨ ∀ j, t ≤ j → P st j := Iff.rfl
theorem sW_unf : sW P R st t ↔ R st t ∨ (P st t ∧ sW P R st (t + 1)) := by
  rw [sW_iff, sW_iff, sU_unf, all_unf]
  constructor
  · rintro ((h | ⟨h1, h2⟩) | ⟨h1, h2⟩)
    · exact .inl h
    · exact .inr ⟨h1, .inl h2⟩
    · exact .inr ⟨h1, .inr h2⟩
  · rintro (h | ⟨h1, h2 | h2⟩)
    · exact .inl (.inl h)
    · exact .inl (.inr ⟨h1, h2⟩)
    · exact .inr ⟨h1, h2⟩
theorem sR_eq : sR P R st t ↔ sW R (fun st t => P st t ∧ R st t) st t := Iff.rfl
theorem sR_unf : sR P R st t ↔ R st t ∧ (P st t ∨ sR P R st (t + 1)) := by
  rw [sR_eq, sR_eq, sW_unf]
  constructor
  · rintro (⟨h1, h2⟩ | ⟨h1, h2⟩)
    · exact ⟨h2, .inl h1⟩
    · exact ⟨h1, .inr h2⟩
  · rintro ⟨h1, h2 | h2⟩
    · exact .inl ⟨h2, h1⟩
    · exact .inr ⟨h1, h2⟩
theorem sG_dual : (∀ j, t ≤ j → P st j) ↔ ¬ ∃ j, t ≤ j ∧ ¬ P st j := by
  constructor
  · rintro h ⟨j, h1, h2⟩; exact h2 (h j h1)
  · intro h j hj
    exact Classical.byContradiction (fun hn => h ⟨j, hj, hn⟩)
theorem sF_dual : (∃ j, t ≤ j ∧ P st j) ↔ sU (fun _ _ => True) P st t := by
  unfold sU
  constructor
  · rintro ⟨j, h1, h2⟩; exact ⟨j, h1, h2, fun _ _ _ => trivial⟩
  · rintro ⟨j, h1, h2, _⟩; exact ⟨j, h1, h2⟩
theorem sR_dual : sR P R st t ↔ ¬ sU (fun st t => ¬ P st t) (fun st t => ¬ R st t) st t := by
  unfold sR sU
  constructor
  · rintro (⟨j, h1, ⟨h2, h3⟩, h4⟩ | h) ⟨k, g1, g2, g3⟩
    · by_cases hk : k < j
      · exact g2 (h4 k g1 hk)
      · by_cases e : k = j
        · subst e; exact g2 h3
        · exact g3 j h1 (by omega) h2
    · exact g2 (h k g1)
  · intro h
    by_cases ha : ∀ j, t ≤ j → R st j
    · exact .inr ha
    · have hx : ∃ m, t ≤ m ∧ ¬ R st m := Classical.byContradiction (fun hn => ha (fun j hj => Classical.byContradiction (fun hr => hn ⟨j, hj, hr⟩)))
      obtain ⟨m, h1, h2⟩ := hx
      -- some place ahead of m has P; the first one has R, too
      have key : ∀ n, t + n ≤ m → (∃ j, t ≤ j ∧ j < t + n ∧ P st j ∧ R st j ∧ ∀ i, t ≤ i → i < j → R st i) ∨ (∀ i, t ≤ i → i < t + n → ¬ P st i ∧ R st i) ∨ ∃ k, t ≤ k ∧ k < t + n ∧ ¬ R st k ∧ ∀ i, t ≤ i → i < k → ¬ P st i := by
        intro n
        induction n with
        | zero => intro _; exact .inr (.inl (fun i h3 h4 => by omega))
        | succ n ih =>
          intro hn
          rcases ih (by omega) with ⟨j, a1, a2, a3, a4, a5⟩ | a | ⟨k, a1, a2, a3, a4⟩
          · exact .inl ⟨j, a1, by omega, a3, a4, a5⟩
          · by_cases hr : R st (t + n)
            · by_cases hp : P st (t + n)
              · exact .inl ⟨t + n, by omega, by omega, hp, hr, fun i h3 h4 => (a i h3 h4).2⟩
              · refine .inr (.inl (fun i h3 h4 => ?_))
                by_cases e : i = t + n
                · subst e; exact ⟨hp, hr⟩
                · exact a i h3 (by omega)
            · exact .inr (.inr ⟨t + n, by omega, by omega, hr, fun i h3 h4 => (a i h3 h4).1⟩)
          · exact .inr (.inr ⟨k, a1, by omega, a3, a4⟩)
      rcases key (m - t) (by omega) with ⟨j, a1, a2, a3, a4, a5⟩ | a | ⟨k, a1, a2, a3, a4⟩
      · exact .inl ⟨j, a1, ⟨a3, a4⟩, a5⟩
      · exact absurd ⟨m, h1, h2, fun i h3 h4 => (a i h3 (by omega)).1⟩ h
      · exact absurd ⟨k, a1, a3, a4⟩ h
/-- Another beginning: what is left behind the first state. -/
theorem sm_shift (S : Nat → (Tm × Tm) → Bool) : ∀ (φ : Fm) (t : Nat), sm S φ (t + 1) ↔ sm (fun t => S (t + 1)) φ t
  | ⟨_, _, 0, _⟩, _ => Iff.rfl
  | ⟨o, c, 1, k⟩, t => by
    have ih := sm_shift S (k 0)
    unfold sm
    split
    · constructor
      · rintro ⟨j, h1, h2⟩
        exact ⟨j - 1, by omega, (ih (j - 1)).1 (by rw [show j - 1 + 1 = j by omega]; exact h2)⟩
      · rintro ⟨j, h1, h2⟩; exact ⟨j + 1, by omega, (ih j).2 h2⟩
    · split
      · constructor
        · intro h j hj; exact (ih j).1 (h (j + 1) (by omega))
        · intro h j hj
          have := (ih (j - 1)).2 (h (j - 1) (by omega))
          rwa [show j - 1 + 1 = j by omega] at this
      · split
        · rw [ih]
        · exact ih (t + 1)
  | ⟨o, c, 2, k⟩, t => by
    have ih := sm_shift S (k 0)
    have ih1 := sm_shift S (k 1)
    have un : ∀ (A A' B B' : Nat → Prop), (∀ t, A (t + 1) ↔ A' t) → (∀ t, B (t + 1) ↔ B' t) → ((∃ j, t + 1 ≤ j ∧ B j ∧ ∀ i, t + 1 ≤ i → i < j → A i) ↔ ∃ j, t ≤ j ∧ B' j ∧ ∀ i, t ≤ i → i < j → A' i) := fun A A' B B' hA hB => by
      constructor
      · rintro ⟨j, h1, h2, h3⟩
        exact ⟨j - 1, by omega, (hB (j - 1)).1 (by rw [show j - 1 + 1 = j by omega]; exact h2), fun i h4 h5 => (hA i).1 (h3 (i + 1) (by omega) (by omega))⟩
      · rintro ⟨j, h1, h2, h3⟩
        refine ⟨j + 1, by omega, (hB j).2 h2, fun i h4 h5 => ?_⟩
        have := (hA (i - 1)).2 (h3 (i - 1) (by omega) (by omega))
        rwa [show i - 1 + 1 = i by omega] at this
    have al : ∀ (A A' : Nat → Prop), (∀ t, A (t + 1) ↔ A' t) → ((∀ j, t + 1 ≤ j → A j) ↔ ∀ j, t ≤ j → A' j) := fun A A' hA => by
      constructor
      · intro h j hj; exact (hA j).1 (h (j + 1) (by omega))
      · intro h j hj
        have := (hA (j - 1)).2 (h (j - 1) (by omega))
        rwa [show j - 1 + 1 = j by omega] at this
    unfold sm
    split
    · exact un _ _ _ _ ih ih1
    · split
      · exact or_congr (un _ _ _ _ ih ih1) (al _ _ ih)
      · split
        · exact or_congr (un _ _ _ _ ih1 (fun t => and_congr (ih t) (ih1 t))) (al _ _ ih1)
        · split
          · rw [ih, ih1]
          · rw [ih, ih1]
  | ⟨_, _, _ + 3, _⟩, _ => Iff.rfl
theorem sOf_shift (f : ByteArray) (st : Nat → ByteArray) (t : Nat) : sOf f st (t + 1) ↔ sOf f (fun t => st (t + 1)) t := sm_shift _ _ _
end
end Go.Proofs.YtgoebckimmofoaaGreatDoor

/- The law Nextly, if Holds answers right. Our own text. -/
namespace Go.Proofs.YtgoebckimmofoaaGreatDoor
open Go.RowKit Go.Lib
/-- The law's holds, where all is good. -/
theorem hh_any {W w : World} (hc : HoldsC W) (hW : Below W.heap.size W w) (m t : ByteArray) (L : List ByteArray) (k : Nat) (v : Value) (hL : ∀ s ∈ L, s.size ≤ maxLen) (hm : m.size ≤ maxLen) (h7 : L.length ≤ 7000) (hok : ∀ s ∈ L, okT s (topsM m)) (hk : k < L.length) (hg : (rForm m t).1 = 0) (hr : Reads w v L) :
    Calls Tryz.prog 27 #[.string m, .string t, v, .int .i64 k] w fun e w' => (∃ h : Bool, e = .returned (.tuple #[.bool h, .bool true]) ∧ (h = true ↔ sOf t (stL L k) 0)) ∧ Below w.heap.size w w' :=
  (lholds_any W hc hW m t L hL (by omega) k v hm (by have := (rForm_ok hg).2.1; unfold maxLen; omega) hr).mono fun e w' ⟨⟨h, x, h1, h2⟩, h3⟩ => by
    obtain ⟨rfl, h4⟩ := h2 hg h7 hok k hk rfl
    exact ⟨⟨h, h1, h4⟩, h3⟩
/-- A list without its first. -/
theorem Reads.tail {w : World} {g n cap : Nat} {L : List ByteArray} (h : Reads w (.slice (some ⟨g, 0, none⟩) n cap) L) : Reads w (.slice (some ⟨g, 1, none⟩) (n - 1) (cap - 1)) (L.drop 1) := by
  obtain ⟨rfl, hc⟩ := h.cell
  refine ⟨some ⟨g, 1, none⟩, cap - 1, by simp, fun hl => ?_⟩
  have hl2 : 0 < L.length - 1 := by simpa using hl
  have hl' : 1 < L.length := by omega
  obtain ⟨b, o, e, hb, hcell⟩ := hc (by omega)
  obtain ⟨rfl, rfl⟩ : g = b ∧ 0 = o := by simpa using e
  refine ⟨g, 1, rfl, hb, fun i hi => ?_⟩
  have hi' : i < L.length - 1 := by simpa using hi
  have := hcell (i + 1) (by omega)
  rw [show 1 + i = 0 + (i + 1) by omega, this]
  simp
set_option maxRecDepth 100000 in
set_option maxHeartbeats 1600000 in
theorem nextly_any {w : World} (hc : HoldsC w) (m f : ByteArray) (L : List ByteArray) (hL : ∀ s ∈ L, s.size ≤ maxLen) (hlen : L.length ≤ 9223372036854775807) (loop : Int) (v : Value) (hm : m.size ≤ maxLen) (hf : f.size ≤ 1152921504606846976) (hr : Reads w v L) :
    Calls Tryz.prog 8 #[.string m, .string f, v, .int .i64 loop] w fun e w' => e = .returned (.bool true) ∧ Below w.heap.size w w' := by
  have HRD : Put (Reads w v L) := ⟨hr⟩
  obtain ⟨ao, cap, rfl, hcl⟩ := hr
  have HCL : Put (_) := ⟨hcl⟩
  have HL : Put (_) := ⟨hL⟩
  have HC : Put (_) := ⟨hc⟩
  clear hL hc hcl
  go_enter Tryz.func8, Tryz.ntmps8
  go_wp2_with fail
  generalize ex : ({ data := #[88, 40] } : ByteArray) ++ f ++ { data := #[41] } = tx at *
  have hnx : nums tx = 88 :: 40 :: (nums f ++ [41]) := by rw [← ex, nums_append, nums_append]; rfl
  have HNx : Put (_ = _) := ⟨hnx⟩
  clear hnx ex
  refine (lgood2 m f hm).mono ?_
  rintro e w1 ⟨⟨A, rfl, hA⟩, hb1⟩
  have HA : Put (_) := ⟨hA⟩
  have HB1 : Put (_) := ⟨hb1⟩
  clear hb1 hA
  have HBd : Put (_) := ⟨hbound_any m L HL.out hlen loop _ w1 hm (HRD.out.below HB1.out)⟩
  go_wp2_with fail
  refine HBd.out.mono ?_
  rintro e w2 ⟨⟨D, rfl, hD⟩, hb2⟩
  have HDb : Put (_) := ⟨hD⟩
  have HB2 : Put (_) := ⟨HB1.out.trans (hb2.mono HB1.out.size)⟩
  clear hb2 hD HB1 HBd
  go_wp2_with fail
  refine (lgood2 m tx hm).mono ?_
  rintro e w3 ⟨⟨C, rfl, hC⟩, hb3⟩
  have HCx : Put (_) := ⟨hC⟩
  have HB3 : Put (_) := ⟨HB2.out.trans (hb3.mono HB2.out.size)⟩
  clear hb3 hC HB2
  cases A
  · go_wp2
    go_ret
    exact ⟨rfl, HB3.out⟩
  cases D
  · go_wp2
    go_ret
    exact ⟨rfl, HB3.out⟩
  cases C
  · go_wp2
    go_ret
    exact ⟨rfl, HB3.out⟩
  have gf := HA.out.1 rfl
  have gx := HCx.out.1 rfl
  obtain ⟨h7, hok, k, hk, rfl⟩ := HDb.out rfl
  obtain ⟨hck, hfz, wf, df, rf, hdf, hnf, hwf⟩ := (good_iff m f).1 gf
  obtain ⟨_, _, _, _, _, mx⟩ := (txt_next HNx.out rf).whole
  have HH : Put (_) := ⟨hh_any HC.out HB3.out m tx L k _ HL.out hm h7 hok hk gx (HRD.out.below HB3.out)⟩
  have MX : Put (sOf tx (stL L k) 0 ↔ sOf f (fun t => stL L k (t + 1)) 0) := ⟨(mx _ _).trans (sOf_shift f _ 0)⟩
  have GF : Put (_) := ⟨gf⟩
  have HOK : Put (_) := ⟨hok⟩
  clear HA HCx HDb gf gx rf hnf hck HNx hok mx
  go_wp2_with fail
  refine HH.out.mono ?_
  rintro e w4 ⟨⟨h, rfl, th⟩, hb4⟩
  have HB4 : Put (_) := ⟨HB3.out.trans (hb4.mono HB3.out.size)⟩
  have TH : Put (_) := ⟨th.trans MX.out⟩
  clear hb4 HB3 th MX HH
  go_wp2_with fail
  refine (copied_any _ L (by omega) (HRD.out.below HB4.out)).mono ?_
  rintro e w5 ⟨⟨vc, rfl, hrow⟩, hb5⟩
  have HB5 : Put (_) := ⟨HB4.out.trans (hb5.mono HB4.out.size)⟩
  have HROW : Put (_) := ⟨hrow⟩
  obtain ⟨gc, cc, rfl, hgc1, hgc2, hgc3, _⟩ := bys_at hrow (by omega)
  have hle4 := hb5.size
  clear hrow hb5
  by_cases h0 : k = 0
  · subst h0
    obtain ⟨bL, oL, rfl, hbL, hcL⟩ := HCL.out (by omega)
    have q0 : w5.cell? ⟨bL, oL, none⟩ = some (.string L[0]) := by
      have := (HB5.out.cell (p := ⟨bL, oL + 0, none⟩) hbL).trans (hcL 0 (by omega)); simpa using this
    obtain ⟨x, hx⟩ : ∃ x, x = L[0] := ⟨_, rfl⟩
    rw [← hx] at q0
    have HX : Put (L[0]? = some x) := ⟨by rw [hx, List.getElem?_eq_getElem (by omega)]⟩
    have HXm : Put (x ∈ L) := ⟨by rw [hx]; exact List.getElem_mem _⟩
    obtain ⟨i0, hi, hz0, hz1, hz2⟩ := info_parts info9
    have g0 : (0 : Int) < (L.length : Int) := by omega
    clear hcL hx
    go_wp2_with (at_builtin; refine wpList_append_own _ rfl _ _ 22 rfl w4.heap.size 9 i0 _ 1 16 Tryz.underlying22 hi hz0 hz1 hz2 rfl Nat.one_pos (.slice (some ⟨gc, 0, none⟩) L.length cc) L.length (bys L) rfl (HROW.out.alloc _) ⟨w5.heap.size, 0, none⟩ 1 1 [.string x] rfl rfl (cell_one_new _ _ _) (by simp [Value.oneCell']) (by unfold maxLen; omega) (by omega) (by simp; omega) ?_)
    intro v' w6 hown' hgrow _
    have hB6 : Below w.heap.size w w6 := (HB5.out.alloc HB5.out.size _).grown hgrow (by have := HB5.out.size; simp; omega) (fun k e => Nat.le_trans HB4.out.size (HROW.out.lt k e).1)
    have hbe : bys L ++ [.string x] = bys (L ++ [x]) := by simp [bys]
    rw [hbe] at hown'
    have hll : (L ++ [x]).length = L.length + 1 := by simp
    rw [← hll] at hown'
    obtain ⟨g6, c6, rfl, _, hg6, hc6, _⟩ := bys_at hown' (by omega)
    have HR6 : Put (Reads w6 (.slice (some ⟨g6, 1, none⟩) L.length (c6 - 1)) ((L ++ [x]).drop 1)) := ⟨by
      have := (Reads.of_owns hown').tail
      rw [hll] at this
      simpa using this⟩
    have HB6 : Put (_) := ⟨hB6⟩
    rw [hll] at hc6 ⊢
    have hd : ∀ s, s ∈ (L ++ [x]).drop 1 → s ∈ L := fun s hs => by
      have := List.mem_of_mem_drop hs
      rcases List.mem_append.1 this with h | h
      · exact h
      · rw [List.mem_singleton.1 h]; exact HXm.out
    have HH : Put (_) := ⟨hh_any HC.out hB6 m f ((L ++ [x]).drop 1) 0 _ (fun s hs => HL.out s (hd s hs)) hm (by simp; omega) (fun s hs => HOK.out s (hd s hs)) (by simp; omega) GF.out HR6.out⟩
    have ES : Put (stL ((L ++ [x]).drop 1) 0 = fun t => stL L 0 (t + 1)) := ⟨funext fun t => turn_same x HX.out t⟩
    have g1 : (1 : Int) ≤ (L.length : Int) + 1 := by omega
    have g2 : (L.length : Int) + 1 ≤ (c6 : Int) := by omega
    have g3 : (1 : Int) ≤ (c6 : Int) := by omega
    clear hown' hgrow hB6 hbe hll hd HROW HB5 q0
    go_wp2_with fail
    refine HH.out.mono ?_
    rintro e w7 ⟨⟨g, rfl, tg⟩, hb7⟩
    have HB7 : Put (_) := ⟨HB6.out.trans (hb7.mono HB6.out.size)⟩
    rw [ES.out] at tg
    obtain rfl : h = g := bool_iff TH.out tg Iff.rfl
    clear hb7 HH ES HB6 tg TH
    go_wp2
    go_ret
    exact ⟨by simp, HB7.out⟩
  · have h0' : ((k : Int) == 0) = false := by simp; exact h0
    obtain ⟨j, rfl⟩ : ∃ j, k = j + 1 := ⟨k - 1, by omega⟩
    have g1 : (1 : Int) ≤ (L.length : Int) := by omega
    have g2 : (L.length : Int) ≤ (cc : Int) := by omega
    have g3 : (1 : Int) ≤ (cc : Int) := by omega
    have HH : Put (_) := ⟨hh_any HC.out HB5.out m f (L.drop 1) j _ (fun s hs => HL.out s (List.mem_of_mem_drop hs)) hm (by simp; omega) (fun s hs => HOK.out s (List.mem_of_mem_drop hs)) (by simp; omega) GF.out (Reads.of_owns HROW.out).tail⟩
    have ES : Put (stL (L.drop 1) j = fun t => stL L (j + 1) (t + 1)) := ⟨funext fun t => rest_same hk t⟩
    go_wp2_with fail
    refine HH.out.mono ?_
    rintro e w6 ⟨⟨g, rfl, tg⟩, hb6⟩
    have HB6 : Put (_) := ⟨HB5.out.trans (hb6.mono HB5.out.size)⟩
    rw [ES.out] at tg
    obtain rfl : h = g := bool_iff TH.out tg Iff.rfl
    clear hb6 HH ES HB5 tg TH
    go_wp2
    go_ret
    exact ⟨by simp, HB6.out⟩
end Go.Proofs.YtgoebckimmofoaaGreatDoor
