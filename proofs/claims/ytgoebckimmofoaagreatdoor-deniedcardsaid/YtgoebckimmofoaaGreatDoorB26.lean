import Derived.Test.YtgoebckimmofoaaGreatDoorRows
import Derived.WalkKit
import Derived.WalkSpells
import Derived.WalkLawsBesides
import Derived.Deep.QuietTactic
import Derived.BigQuiet
import Derived.RegionTactic
import Derived.Lib.TrailingZeros
import Derived.Laws.Bits64b
import Derived.Deep.LoopGhost
import Derived.Deep.RegionLaw
import Derived.Deep.RegionHeld3
import Derived.Stop.RegionWithIn
import Derived.Shelf.RegionOpen
import Derived.Scope
import Derived.WalkMore
import Derived.Deep.AppendLies
import Derived.Laws.IdiomStrings
import Derived.Maps.AppendAt
import Derived.RangeFuncBox
import Derived.Deep.RegionHeld
import Derived.RangeFuncNested
import Derived.RangeFuncBound
import Derived.RangeFuncCalls
import Derived.RangeFuncLeaves
import Derived.Shelf.Abstract
import Derived.OwnWalkIn
import Derived.TacticsInMore
import Derived.LoopNIn
import Derived.LoopIn
import Derived.Test.YtgoebckimmofoaaGreatDoorB1
import Derived.Test.YtgoebckimmofoaaGreatDoorB2
import Derived.Test.YtgoebckimmofoaaGreatDoorB11
import Derived.Test.YtgoebckimmofoaaGreatDoorB17
import Derived.Test.YtgoebckimmofoaaGreatDoorB18
import Derived.Test.YtgoebckimmofoaaGreatDoorB25
import Derived.Test.YtgoebckimmofoaaGreatDoorB4
import Derived.Test.YtgoebckimmofoaaGreatDoorB5
import Derived.Test.YtgoebckimmofoaaGreatDoorB20
import Derived.Deep.OwnRows
import Derived.Test.YtgoebckimmofoaaGreatDoorB7
import Derived.Test.YtgoebckimmofoaaGreatDoorB19
import Derived.Test.YtgoebckimmofoaaGreatDoorB6
import Derived.Test.YtgoebckimmofoaaGreatDoorB8
/- How a formula is read, piece by piece. Our own text. -/
namespace Go.Proofs.YtgoebckimmofoaaGreatDoor
open Go.RowKit Go.Lib
section
variable {s : ByteArray}
theorem pF3' (s : ByteArray) (n : Nat) (x : FSt) : pF s (n + 1) 3 x =
    (let r := pF s n 2 x
      if isC s r.2.q 124 then (.bin 124 r.1 (pF s n 3 r.2.adv).1, (pF s n 3 r.2.adv).2) else r) := pF3 s n 0 x
theorem need_up {n m' : Nat} {x y : FSt} {m i j : Nat} (h : need s m x ≤ n + 1) (hx : x.q = .ok i) (hy : y.q = .ok (j + 1)) (hij : i ≤ j) (hj : j < s.size) (hm : m' ≤ 3) : need s m' y ≤ n := by
  unfold need Q.top at *
  rw [hx] at h; rw [hy]; simp only at *; omega
theorem pF_fuel : ∀ (n m : Nat) (x : FSt), m ≤ 3 → need s m x ≤ n → pF s (n + 1) m x = pF s n m x := by
  intro n
  induction n with
  | zero => intro m x _ h; unfold need at h; omega
  | succ n ih =>
    intro m x hm h
    have up : ∀ (m' : Nat) (y : FSt) (c : Nat), isC s x.q c = true → (∀ i, x.q = .ok i → y.q = .ok (i + 1)) → m' ≤ 3 → pF s (n + 1) m' y = pF s n m' y := fun m' y c hc hy hm' => by
      obtain ⟨i, h1, h2⟩ := isC_ok hc
      exact ih m' y hm' (need_up h h1 (hy i h1) (Nat.le_refl _) h2 hm')
    have av : ∀ i, x.q = .ok i → x.adv.q = .ok (i + 1) := fun i hi => adv_ok hi
    match m, hm, h with
    | 0, _, h =>
      rw [pF0 s (n + 1) x, pF0 s n x]
      by_cases c0 : isC s x.q 33 = true
      · rw [if_pos c0, if_pos c0, up 0 x.adv _ c0 av (by omega)]
      rw [if_neg c0, if_neg c0]
      by_cases c1 : isC s x.q 88 = true
      · rw [if_pos c1, if_pos c1, up 0 x.adv.hvy _ c1 av (by omega)]
      rw [if_neg c1, if_neg c1]
      by_cases c2 : isC s x.q 70 = true
      · rw [if_pos c2, if_pos c2, up 0 x.adv.hvy _ c2 av (by omega)]
      rw [if_neg c2, if_neg c2]
      by_cases c3 : isC s x.q 71 = true
      · rw [if_pos c3, if_pos c3, up 0 x.adv.hvy _ c3 av (by omega)]
      rw [if_neg c3, if_neg c3]
      by_cases c4 : isC s x.q 84 = true
      · rw [if_pos c4, if_pos c4]
      rw [if_neg c4, if_neg c4]
      by_cases c5 : isC s x.q 40 = true
      · rw [if_pos c5, if_pos c5, up 3 x.adv.in _ c5 av (by omega)]
      rw [if_neg c5, if_neg c5]
    | 1, _, h =>
      rw [pF1 s (n + 1) x, pF1 s n x]
      dsimp only
      rw [ih 0 x (by omega) (need_le h (by omega) (fun j h => ⟨j, h, Nat.le_refl _⟩))]
      have up2 : ∀ (y : FSt) (c : Nat), isC s (pF s n 0 x).2.q c = true → (∀ i, (pF s n 0 x).2.q = .ok i → y.q = .ok (i + 1)) → pF s (n + 1) 0 y = pF s n 0 y := fun y c hc hy => by
        obtain ⟨j, h1, h2⟩ := isC_ok hc
        obtain ⟨i, h3, h4⟩ := pF_pos s n 0 x j h1
        exact ih 0 y (by omega) (need_up h h3 (hy j h1) h4 h2 (by omega))
      have av2 : ∀ i, (pF s n 0 x).2.q = .ok i → (pF s n 0 x).2.adv.q = .ok (i + 1) := fun i hi => adv_ok hi
      by_cases d0 : isC s (pF s n 0 x).2.q 85 = true
      · rw [if_pos d0, if_pos d0, up2 (pF s n 0 x).2.adv.hvy _ d0 av2]
      rw [if_neg d0, if_neg d0]
      by_cases d1 : isC s (pF s n 0 x).2.q 82 = true
      · rw [if_pos d1, if_pos d1, up2 (pF s n 0 x).2.adv.hvy _ d1 av2]
      rw [if_neg d1, if_neg d1]
      by_cases d2 : isC s (pF s n 0 x).2.q 87 = true
      · rw [if_pos d2, if_pos d2, up2 (pF s n 0 x).2.adv.hvy _ d2 av2]
      rw [if_neg d2, if_neg d2]
    | 2, _, h =>
      rw [pF2 s (n + 1) x, pF2 s n x]
      dsimp only
      rw [ih 1 x (by omega) (need_le h (by omega) (fun j h => ⟨j, h, Nat.le_refl _⟩))]
      have up2 : ∀ (y : FSt) (c : Nat), isC s (pF s n 1 x).2.q c = true → (∀ i, (pF s n 1 x).2.q = .ok i → y.q = .ok (i + 1)) → pF s (n + 1) 2 y = pF s n 2 y := fun y c hc hy => by
        obtain ⟨j, h1, h2⟩ := isC_ok hc
        obtain ⟨i, h3, h4⟩ := pF_pos s n 1 x j h1
        exact ih 2 y (by omega) (need_up h h3 (hy j h1) h4 h2 (by omega))
      have av2 : ∀ i, (pF s n 1 x).2.q = .ok i → (pF s n 1 x).2.adv.q = .ok (i + 1) := fun i hi => adv_ok hi
      by_cases d0 : isC s (pF s n 1 x).2.q 38 = true
      · rw [if_pos d0, if_pos d0, up2 (pF s n 1 x).2.adv _ d0 av2]
      rw [if_neg d0, if_neg d0]
    | 3, _, h =>
      rw [pF3' s (n + 1) x, pF3' s n x]
      dsimp only
      rw [ih 2 x (by omega) (need_le h (by omega) (fun j h => ⟨j, h, Nat.le_refl _⟩))]
      have up2 : ∀ (y : FSt) (c : Nat), isC s (pF s n 2 x).2.q c = true → (∀ i, (pF s n 2 x).2.q = .ok i → y.q = .ok (i + 1)) → pF s (n + 1) 3 y = pF s n 3 y := fun y c hc hy => by
        obtain ⟨j, h1, h2⟩ := isC_ok hc
        obtain ⟨i, h3, h4⟩ := pF_pos s n 2 x j h1
        exact ih 3 y (by omega) (need_up h h3 (hy j h1) h4 h2 (by omega))
      have av2 : ∀ i, (pF s n 2 x).2.q = .ok i → (pF s n 2 x).2.adv.q = .ok (i + 1) := fun i hi => adv_ok hi
      by_cases d0 : isC s (pF s n 2 x).2.q 124 = true
      · rw [if_pos d0, if_pos d0, up2 (pF s n 2 x).2.adv _ d0 av2]
      rw [if_neg d0, if_neg d0]
theorem pF_more {m : Nat} {x : FSt} (hm : m ≤ 3) : ∀ (d n : Nat), need s m x ≤ n → pF s (n + d) m x = pF s n m x
  | 0, _, _ => rfl
  | d + 1, n, h => by rw [show n + (d + 1) = (n + d) + 1 by omega, pF_fuel (n + d) m x hm (by omega)]; exact pF_more hm d n h
/-- A piece is read: from place to place, of a weight, of a depth. -/
def Uni (s : ByteArray) (n m : Nat) (q : Q) (φ : Fm) (q' : Q) (w d : Nat) : Prop := ∀ x : FSt, x.q = q → (pF s n m x).1 = φ ∧ (pF s n m x).2.q = q' ∧ (pF s n m x).2.wgt = x.wgt + w ∧ ((pF s n m x).2.deep < 0 ↔ x.deep < 0 ∧ (d = 0 ∨ x.opn + d ≤ 10))
theorem two_deep {p : Prop} {k d e : Nat} : ((p ∧ (d = 0 ∨ k + d ≤ 10)) ∧ (e = 0 ∨ k + e ≤ 10)) ↔ p ∧ (max d e = 0 ∨ k + max d e ≤ 10) := by
  constructor
  · rintro ⟨⟨h1, h2⟩, h3⟩; exact ⟨h1, by omega⟩
  · rintro ⟨h1, h2⟩; exact ⟨⟨h1, by omega⟩, by omega⟩
theorem in_neg {x : FSt} {i : Nat} (hx : x.q = .ok (i + 1)) : x.in.deep < 0 ↔ x.deep < 0 ∧ x.opn + 1 ≤ 10 := by
  unfold FSt.in
  simp only [hx, Q.pos]
  by_cases h : 10 < x.opn + 1
  · by_cases h2 : x.deep < 0
    · simp only [h, h2, and_self, if_true]; omega
    · simp only [h, h2, and_false, if_false, false_and]
  · simp only [h, false_and, if_false]; omega
theorem pF_uni : ∀ (n m : Nat) (q : Q), m ≤ 3 → ∃ φ q' w d, Uni s n m q φ q' w d := by
  intro n
  induction n with
  | zero => intro m q _; exact ⟨.tt, q, 0, 0, fun x hx => ⟨rfl, hx, rfl, by simp [pF]⟩⟩
  | succ n ih =>
    intro m q hm
    match m, hm with
    | 0, _ =>
      by_cases c0 : isC s q 33 = true
      · obtain ⟨φ, q', w, d, hu⟩ := ih 0 q.adv (by omega)
        refine ⟨.un 33 φ, q', w, d, fun x hx => ?_⟩
        obtain ⟨h1, h2, h3, h4⟩ := hu x.adv (by rw [← hx]; rfl)
        have e : pF s (n + 1) 0 x = (.un 33 (pF s n 0 x.adv).1, (pF s n 0 x.adv).2) := by
          rw [pF0, hx, if_pos c0]
        rw [e]
        exact ⟨congrArg (Fm.un 33) h1, h2, h3, h4⟩
      by_cases c1 : isC s q 88 = true
      · obtain ⟨φ, q', w, d, hu⟩ := ih 0 q.adv (by omega)
        refine ⟨.un 88 φ, q', w + 1, d, fun x hx => ?_⟩
        obtain ⟨h1, h2, h3, h4⟩ := hu x.adv.hvy (by rw [← hx]; rfl)
        have e : pF s (n + 1) 0 x = (.un 88 (pF s n 0 x.adv.hvy).1, (pF s n 0 x.adv.hvy).2) := by
          rw [pF0, hx, if_neg c0, if_pos c1]
        rw [e]
        exact ⟨congrArg (Fm.un 88) h1, h2, by rw [h3]; show x.wgt + 1 + w = x.wgt + (w + 1); omega, h4⟩
      by_cases c2 : isC s q 70 = true
      · obtain ⟨φ, q', w, d, hu⟩ := ih 0 q.adv (by omega)
        refine ⟨.un 70 φ, q', w + 1, d, fun x hx => ?_⟩
        obtain ⟨h1, h2, h3, h4⟩ := hu x.adv.hvy (by rw [← hx]; rfl)
        have e : pF s (n + 1) 0 x = (.un 70 (pF s n 0 x.adv.hvy).1, (pF s n 0 x.adv.hvy).2) := by
          rw [pF0, hx, if_neg c0, if_neg c1, if_pos c2]
        rw [e]
        exact ⟨congrArg (Fm.un 70) h1, h2, by rw [h3]; show x.wgt + 1 + w = x.wgt + (w + 1); omega, h4⟩
      by_cases c3 : isC s q 71 = true
      · obtain ⟨φ, q', w, d, hu⟩ := ih 0 q.adv (by omega)
        refine ⟨.un 71 φ, q', w + 1, d, fun x hx => ?_⟩
        obtain ⟨h1, h2, h3, h4⟩ := hu x.adv.hvy (by rw [← hx]; rfl)
        have e : pF s (n + 1) 0 x = (.un 71 (pF s n 0 x.adv.hvy).1, (pF s n 0 x.adv.hvy).2) := by
          rw [pF0, hx, if_neg c0, if_neg c1, if_neg c2, if_pos c3]
        rw [e]
        exact ⟨congrArg (Fm.un 71) h1, h2, by rw [h3]; show x.wgt + 1 + w = x.wgt + (w + 1); omega, h4⟩
      by_cases c4 : isC s q 84 = true
      · refine ⟨.tt, q.adv, 0, 0, fun x hx => ?_⟩
        have e : pF s (n + 1) 0 x = (.tt, x.adv) := by
          rw [pF0, hx, if_neg c0, if_neg c1, if_neg c2, if_neg c3, if_pos c4]
        rw [e]
        exact ⟨rfl, by rw [← hx]; rfl, rfl, by show x.deep < 0 ↔ _; simp⟩
      by_cases c5 : isC s q 40 = true
      · obtain ⟨φ, q', w, d, hu⟩ := ih 3 q.adv (by omega)
        refine ⟨φ, qMust s q' 41, w, d + 1, fun x hx => ?_⟩
        obtain ⟨h1, h2, h3, h4⟩ := hu x.adv.in (by rw [← hx]; rfl)
        obtain ⟨i, hi, _⟩ := isC_ok c5
        have e : pF s (n + 1) 0 x = ((pF s n 3 x.adv.in).1, { (pF s n 3 x.adv.in).2 with q := qMust s (pF s n 3 x.adv.in).2.q 41, opn := x.opn }) := by
          rw [pF0, hx, if_neg c0, if_neg c1, if_neg c2, if_neg c3, if_neg c4, if_pos c5]
        rw [e]
        have h5 := in_neg (x := x.adv) (adv_ok (hx.trans hi))
        refine ⟨h1, by show qMust s _ 41 = _; rw [h2], h3, ?_⟩
        show (pF s n 3 x.adv.in).2.deep < 0 ↔ _
        rw [h4, h5]
        show (x.deep < 0 ∧ x.opn + 1 ≤ 10) ∧ (d = 0 ∨ x.opn + 1 + d ≤ 10) ↔ _
        constructor
        · rintro ⟨⟨h1, h2⟩, h3⟩; exact ⟨h1, by omega⟩
        · rintro ⟨h1, h2⟩; exact ⟨⟨h1, by omega⟩, by omega⟩
      cases hc : qCond s q with
      | mk r q' =>
        refine ⟨(match r with | some c => .cond c | none => .tt), q', 0, 0, fun x hx => ?_⟩
        have e : pF s (n + 1) 0 x = ((match r with | some c => .cond c | none => .tt), { x with q := q' }) := by
          rw [pF0, hx, if_neg c0, if_neg c1, if_neg c2, if_neg c3, if_neg c4, if_neg c5]
          cases r <;> simp [hc]
        rw [e]
        exact ⟨rfl, rfl, rfl, by show x.deep < 0 ↔ _; simp⟩
    | 1, _ =>
      obtain ⟨φ, q1, w, d, hu⟩ := ih 0 q (by omega)
      by_cases d0 : isC s q1 85 = true
      · obtain ⟨ψ, q2, v, e, hv⟩ := ih 0 q1.adv (by omega)
        refine ⟨.bin 85 φ ψ, q2, w + v + 1, max d e, fun x hx => ?_⟩
        obtain ⟨h1, h2, h3, h4⟩ := hu x hx
        obtain ⟨g1, g2, g3, g4⟩ := hv (pF s n 0 x).2.adv.hvy (by rw [← h2]; rfl)
        have e1 : pF s (n + 1) 1 x = (.bin 85 (pF s n 0 x).1 (pF s n 0 (pF s n 0 x).2.adv.hvy).1, (pF s n 0 (pF s n 0 x).2.adv.hvy).2) := by
          rw [pF1 s n x]
          dsimp only
          rw [h2, if_pos d0]
        rw [e1]
        refine ⟨by show Fm.bin 85 _ _ = _; rw [h1, g1], g2, by show _ = x.wgt + (w + v + 1); rw [g3]; show (pF s n 0 x).2.wgt + 1 + v = _; omega, ?_⟩
        show (pF s n 0 (pF s n 0 x).2.adv.hvy).2.deep < 0 ↔ _
        rw [g4]
        show (pF s n 0 x).2.deep < 0 ∧ (e = 0 ∨ (pF s n 0 x).2.opn + e ≤ 10) ↔ _
        rw [h4, pF_opn]
        exact two_deep
      by_cases d1 : isC s q1 82 = true
      · obtain ⟨ψ, q2, v, e, hv⟩ := ih 0 q1.adv (by omega)
        refine ⟨.bin 82 φ ψ, q2, w + v + 1, max d e, fun x hx => ?_⟩
        obtain ⟨h1, h2, h3, h4⟩ := hu x hx
        obtain ⟨g1, g2, g3, g4⟩ := hv (pF s n 0 x).2.adv.hvy (by rw [← h2]; rfl)
        have e1 : pF s (n + 1) 1 x = (.bin 82 (pF s n 0 x).1 (pF s n 0 (pF s n 0 x).2.adv.hvy).1, (pF s n 0 (pF s n 0 x).2.adv.hvy).2) := by
          rw [pF1 s n x]
          dsimp only
          rw [h2, if_neg d0, if_pos d1]
        rw [e1]
        refine ⟨by show Fm.bin 82 _ _ = _; rw [h1, g1], g2, by show _ = x.wgt + (w + v + 1); rw [g3]; show (pF s n 0 x).2.wgt + 1 + v = _; omega, ?_⟩
        show (pF s n 0 (pF s n 0 x).2.adv.hvy).2.deep < 0 ↔ _
        rw [g4]
        show (pF s n 0 x).2.deep < 0 ∧ (e = 0 ∨ (pF s n 0 x).2.opn + e ≤ 10) ↔ _
        rw [h4, pF_opn]
        exact two_deep
      by_cases d2 : isC s q1 87 = true
      · obtain ⟨ψ, q2, v, e, hv⟩ := ih 0 q1.adv (by omega)
        refine ⟨.bin 87 φ ψ, q2, w + v + 1, max d e, fun x hx => ?_⟩
        obtain ⟨h1, h2, h3, h4⟩ := hu x hx
        obtain ⟨g1, g2, g3, g4⟩ := hv (pF s n 0 x).2.adv.hvy (by rw [← h2]; rfl)
        have e1 : pF s (n + 1) 1 x = (.bin 87 (pF s n 0 x).1 (pF s n 0 (pF s n 0 x).2.adv.hvy).1, (pF s n 0 (pF s n 0 x).2.adv.hvy).2) := by
          rw [pF1 s n x]
          dsimp only
          rw [h2, if_neg d0, if_neg d1, if_pos d2]
        rw [e1]
        refine ⟨by show Fm.bin 87 _ _ = _; rw [h1, g1], g2, by show _ = x.wgt + (w + v + 1); rw [g3]; show (pF s n 0 x).2.wgt + 1 + v = _; omega, ?_⟩
        show (pF s n 0 (pF s n 0 x).2.adv.hvy).2.deep < 0 ↔ _
        rw [g4]
        show (pF s n 0 x).2.deep < 0 ∧ (e = 0 ∨ (pF s n 0 x).2.opn + e ≤ 10) ↔ _
        rw [h4, pF_opn]
        exact two_deep
      refine ⟨φ, q1, w, d, fun x hx => ?_⟩
      obtain ⟨h1, h2, h3, h4⟩ := hu x hx
      have e1 : pF s (n + 1) 1 x = pF s n 0 x := by
        rw [pF1 s n x]
        dsimp only
        rw [h2, if_neg d0, if_neg d1, if_neg d2]
      rw [e1]
      exact ⟨h1, h2, h3, h4⟩
    | 2, _ =>
      obtain ⟨φ, q1, w, d, hu⟩ := ih 1 q (by omega)
      by_cases d0 : isC s q1 38 = true
      · obtain ⟨ψ, q2, v, e, hv⟩ := ih 2 q1.adv (by omega)
        refine ⟨.bin 38 φ ψ, q2, w + v, max d e, fun x hx => ?_⟩
        obtain ⟨h1, h2, h3, h4⟩ := hu x hx
        obtain ⟨g1, g2, g3, g4⟩ := hv (pF s n 1 x).2.adv (by rw [← h2]; rfl)
        have e1 : pF s (n + 1) 2 x = (.bin 38 (pF s n 1 x).1 (pF s n 2 (pF s n 1 x).2.adv).1, (pF s n 2 (pF s n 1 x).2.adv).2) := by
          rw [pF2 s n x]
          dsimp only
          rw [h2, if_pos d0]
        rw [e1]
        refine ⟨by show Fm.bin 38 _ _ = _; rw [h1, g1], g2, by show _ = x.wgt + (w + v); rw [g3]; show (pF s n 1 x).2.wgt + v = _; omega, ?_⟩
        show (pF s n 2 (pF s n 1 x).2.adv).2.deep < 0 ↔ _
        rw [g4]
        show (pF s n 1 x).2.deep < 0 ∧ (e = 0 ∨ (pF s n 1 x).2.opn + e ≤ 10) ↔ _
        rw [h4, pF_opn]
        exact two_deep
      refine ⟨φ, q1, w, d, fun x hx => ?_⟩
      obtain ⟨h1, h2, h3, h4⟩ := hu x hx
      have e1 : pF s (n + 1) 2 x = pF s n 1 x := by
        rw [pF2 s n x]
        dsimp only
        rw [h2, if_neg d0]
      rw [e1]
      exact ⟨h1, h2, h3, h4⟩
    | 3, _ =>
      obtain ⟨φ, q1, w, d, hu⟩ := ih 2 q (by omega)
      by_cases d0 : isC s q1 124 = true
      · obtain ⟨ψ, q2, v, e, hv⟩ := ih 3 q1.adv (by omega)
        refine ⟨.bin 124 φ ψ, q2, w + v, max d e, fun x hx => ?_⟩
        obtain ⟨h1, h2, h3, h4⟩ := hu x hx
        obtain ⟨g1, g2, g3, g4⟩ := hv (pF s n 2 x).2.adv (by rw [← h2]; rfl)
        have e1 : pF s (n + 1) 3 x = (.bin 124 (pF s n 2 x).1 (pF s n 3 (pF s n 2 x).2.adv).1, (pF s n 3 (pF s n 2 x).2.adv).2) := by
          rw [pF3' s n x]
          dsimp only
          rw [h2, if_pos d0]
        rw [e1]
        refine ⟨by show Fm.bin 124 _ _ = _; rw [h1, g1], g2, by show _ = x.wgt + (w + v); rw [g3]; show (pF s n 2 x).2.wgt + v = _; omega, ?_⟩
        show (pF s n 3 (pF s n 2 x).2.adv).2.deep < 0 ↔ _
        rw [g4]
        show (pF s n 2 x).2.deep < 0 ∧ (e = 0 ∨ (pF s n 2 x).2.opn + e ≤ 10) ↔ _
        rw [h4, pF_opn]
        exact two_deep
      refine ⟨φ, q1, w, d, fun x hx => ?_⟩
      obtain ⟨h1, h2, h3, h4⟩ := hu x hx
      have e1 : pF s (n + 1) 3 x = pF s n 2 x := by
        rw [pF3' s n x]
        dsimp only
        rw [h2, if_neg d0]
      rw [e1]
      exact ⟨h1, h2, h3, h4⟩
end
end Go.Proofs.YtgoebckimmofoaaGreatDoor

/- How pasted formulas are read. Our own text. -/
namespace Go.Proofs.YtgoebckimmofoaaGreatDoor
open Go.RowKit Go.Lib
section
variable {s : ByteArray}
theorem isC_byte (k c : Nat) (hc : 0 < c) : isC s (.ok k) c = decide (byteAt s k = c) := by
  unfold isC
  rw [qNum_byte _ _ _ _ hc]
  by_cases h : byteAt s k = c
  · rw [if_pos (by omega)]; simp [h]
  · rw [if_neg (by omega)]; simp [h]
theorem lt_byte {k : Nat} (h : 0 < byteAt s k) : k < s.size := by
  unfold byteAt at h
  split at h
  · assumption
  · omega
/-- From place k to place k' stands a formula of that kind. -/
def Rd (s : ByteArray) (m k : Nat) (φ : Fm) (k' w d : Nat) : Prop := k' ≤ s.size ∧ ∀ n, 4 * (s.size - k) + m + 1 ≤ n → Uni s n m (.ok k) φ (.ok k') w d
theorem Rd.of {m k k' n w d : Nat} {φ : Fm} (hm : m ≤ 3) (hn : 4 * (s.size - k) + m + 1 ≤ n) (hk : k' ≤ s.size) (h : Uni s n m (.ok k) φ (.ok k') w d) : Rd s m k φ k' w d := by
  refine ⟨hk, fun n' hn' x hx => ?_⟩
  have e : ∀ n, 4 * (s.size - k) + m + 1 ≤ n → pF s n m x = pF s (4 * (s.size - k) + m + 1) m x := fun n hn => by
    have hnd : need s m x ≤ 4 * (s.size - k) + m + 1 := by unfold need; rw [hx]; simp [Q.top]
    have := pF_more (s := s) (m := m) (x := x) hm (n - (4 * (s.size - k) + m + 1)) (4 * (s.size - k) + m + 1) hnd
    rw [show 4 * (s.size - k) + m + 1 + (n - (4 * (s.size - k) + m + 1)) = n by omega] at this
    exact this
  have := h x hx
  rw [e n hn] at this
  rw [e n' hn']
  exact this
theorem Rd.brk {k k' w d : Nat} {φ : Fm} (hb : byteAt s k = 40) (h : Rd s 3 (k + 1) φ k' w d) (he : byteAt s k' = 41) : Rd s 0 k φ (k' + 1) w (d + 1) := by
  have hk := lt_byte (s := s) (k := k) (by omega)
  have hk' := lt_byte (s := s) (k := k') (by omega)
  refine ⟨hk', fun n hn x hx => ?_⟩
  obtain ⟨n, rfl⟩ : ∃ n', n = n' + 1 := ⟨n - 1, by omega⟩
  have ax := adv_ok hx
  obtain ⟨h1, h2, h3, h4⟩ := h.2 n (by omega) x.adv.in ax
  have e : pF s (n + 1) 0 x = ((pF s n 3 x.adv.in).1, { (pF s n 3 x.adv.in).2 with q := qMust s (pF s n 3 x.adv.in).2.q 41, opn := x.opn }) := by
    rw [pF0, hx]
    simp [isC_byte, hb]
  rw [e]
  refine ⟨h1, ?_, h3, ?_⟩
  · show qMust s _ 41 = _
    rw [h2]
    unfold qMust
    rw [qNum_byte _ _ _ _ (by omega), if_pos (by omega)]
    rfl
  · show (pF s n 3 x.adv.in).2.deep < 0 ↔ _
    rw [h4, in_neg ax]
    show (x.deep < 0 ∧ x.opn + 1 ≤ 10) ∧ (d = 0 ∨ x.opn + 1 + d ≤ 10) ↔ _
    constructor
    · rintro ⟨⟨h1, h2⟩, h3⟩; exact ⟨h1, by omega⟩
    · rintro ⟨h1, h2⟩; exact ⟨⟨h1, by omega⟩, by omega⟩
theorem Rd.not {k k' w d : Nat} {φ : Fm} (hb : byteAt s k = 33) (h : Rd s 0 (k + 1) φ k' w d) : Rd s 0 k (.un 33 φ) k' w d := by
  have hk := lt_byte (s := s) (k := k) (by omega)
  refine ⟨h.1, fun n hn x hx => ?_⟩
  obtain ⟨n, rfl⟩ : ∃ n', n = n' + 1 := ⟨n - 1, by omega⟩
  obtain ⟨h1, h2, h3, h4⟩ := h.2 n (by omega) x.adv (adv_ok hx)
  have e : pF s (n + 1) 0 x = (.un 33 (pF s n 0 x.adv).1, (pF s n 0 x.adv).2) := by
    rw [pF0, hx]
    simp [isC_byte, hb]
  rw [e]
  exact ⟨congrArg (Fm.un 33) h1, h2, h3, h4⟩
theorem Rd.sign {k k' w d c : Nat} {φ : Fm} (hc : c = 88 ∨ c = 70 ∨ c = 71) (hb : byteAt s k = c) (h : Rd s 0 (k + 1) φ k' w d) : Rd s 0 k (.un c φ) k' (w + 1) d := by
  have hk := lt_byte (s := s) (k := k) (by omega)
  refine ⟨h.1, fun n hn x hx => ?_⟩
  obtain ⟨n, rfl⟩ : ∃ n', n = n' + 1 := ⟨n - 1, by omega⟩
  obtain ⟨h1, h2, h3, h4⟩ := h.2 n (by omega) x.adv.hvy (adv_ok hx)
  have e : pF s (n + 1) 0 x = (.un c (pF s n 0 x.adv.hvy).1, (pF s n 0 x.adv.hvy).2) := by
    rw [pF0, hx]
    rcases hc with rfl | rfl | rfl <;> simp [isC_byte, hb]
  rw [e]
  exact ⟨congrArg (Fm.un c) h1, h2, by rw [h3]; show x.wgt + 1 + w = x.wgt + (w + 1); omega, h4⟩
theorem Rd.top {k : Nat} (hb : byteAt s k = 84) : Rd s 0 k .tt (k + 1) 0 0 := by
  have hk := lt_byte (s := s) (k := k) (by omega)
  refine ⟨hk, fun n hn x hx => ?_⟩
  obtain ⟨n, rfl⟩ : ∃ n', n = n' + 1 := ⟨n - 1, by omega⟩
  have e : pF s (n + 1) 0 x = (.tt, x.adv) := by
    rw [pF0, hx]
    simp [isC_byte, hb]
  rw [e]
  exact ⟨rfl, adv_ok hx, rfl, by show x.deep < 0 ↔ _; simp⟩
theorem Rd.one {k k' w d : Nat} {φ : Fm} (h : Rd s 0 k φ k' w d) (h1 : byteAt s k' ≠ 85) (h2 : byteAt s k' ≠ 82) (h3 : byteAt s k' ≠ 87) : Rd s 1 k φ k' w d := by
  refine ⟨h.1, fun n hn x hx => ?_⟩
  obtain ⟨n, rfl⟩ : ∃ n', n = n' + 1 := ⟨n - 1, by omega⟩
  have g := h.2 n (by omega) x hx
  have e : pF s (n + 1) 1 x = pF s n 0 x := by
    rw [pF1]; dsimp only; rw [g.2.1]; simp [isC_byte, h1, h2, h3]
  rw [e]; exact g
theorem Rd.pair {k k' k2 w d v e c : Nat} {φ ψ : Fm} (hc : c = 85 ∨ c = 82 ∨ c = 87) (h : Rd s 0 k φ k' w d) (hb : byteAt s k' = c) (h2 : Rd s 0 (k' + 1) ψ k2 v e) (hkk : k ≤ k') : Rd s 1 k (.bin c φ ψ) k2 (w + v + 1) (max d e) := by
  have hk := lt_byte (s := s) (k := k') (by omega)
  refine ⟨h2.1, fun n hn x hx => ?_⟩
  obtain ⟨n, rfl⟩ : ∃ n', n = n' + 1 := ⟨n - 1, by omega⟩
  obtain ⟨a1, a2, a3, a4⟩ := h.2 n (by omega) x hx
  obtain ⟨b1, b2, b3, b4⟩ := h2.2 n (by omega) (pF s n 0 x).2.adv.hvy (adv_ok a2)
  have e1 : pF s (n + 1) 1 x = (.bin c (pF s n 0 x).1 (pF s n 0 (pF s n 0 x).2.adv.hvy).1, (pF s n 0 (pF s n 0 x).2.adv.hvy).2) := by
    rw [pF1]; dsimp only
    rw [a2]
    rcases hc with rfl | rfl | rfl <;> simp [isC_byte, hb]
  rw [e1]
  refine ⟨by show Fm.bin c _ _ = _; rw [a1, b1], b2, by show _ = x.wgt + (w + v + 1); rw [b3]; show (pF s n 0 x).2.wgt + 1 + v = _; omega, ?_⟩
  show (pF s n 0 (pF s n 0 x).2.adv.hvy).2.deep < 0 ↔ _
  rw [b4]
  show (pF s n 0 x).2.deep < 0 ∧ (e = 0 ∨ (pF s n 0 x).2.opn + e ≤ 10) ↔ _
  rw [a4, pF_opn]
  exact two_deep
theorem Rd.both1 {k k' w d : Nat} {φ : Fm} (h : Rd s 1 k φ k' w d) (h1 : byteAt s k' ≠ 38) : Rd s 2 k φ k' w d := by
  refine ⟨h.1, fun n hn x hx => ?_⟩
  obtain ⟨n, rfl⟩ : ∃ n', n = n' + 1 := ⟨n - 1, by omega⟩
  have g := h.2 n (by omega) x hx
  have e : pF s (n + 1) 2 x = pF s n 1 x := by
    rw [pF2]; dsimp only; rw [g.2.1]; simp [isC_byte, h1]
  rw [e]; exact g
theorem Rd.both {k k' k2 w d v e : Nat} {φ ψ : Fm} (h : Rd s 1 k φ k' w d) (hb : byteAt s k' = 38) (h2 : Rd s 2 (k' + 1) ψ k2 v e) (hkk : k ≤ k') : Rd s 2 k (.bin 38 φ ψ) k2 (w + v) (max d e) := by
  have hk := lt_byte (s := s) (k := k') (by omega)
  refine ⟨h2.1, fun n hn x hx => ?_⟩
  obtain ⟨n, rfl⟩ : ∃ n', n = n' + 1 := ⟨n - 1, by omega⟩
  obtain ⟨a1, a2, a3, a4⟩ := h.2 n (by omega) x hx
  obtain ⟨b1, b2, b3, b4⟩ := h2.2 n (by omega) (pF s n 1 x).2.adv (adv_ok a2)
  have e1 : pF s (n + 1) 2 x = (.bin 38 (pF s n 1 x).1 (pF s n 2 (pF s n 1 x).2.adv).1, (pF s n 2 (pF s n 1 x).2.adv).2) := by
    rw [pF2]; dsimp only
    rw [a2]
    simp [isC_byte, hb]
  rw [e1]
  refine ⟨by show Fm.bin 38 _ _ = _; rw [a1, b1], b2, by show _ = x.wgt + (w + v); rw [b3]; show (pF s n 1 x).2.wgt + v = _; omega, ?_⟩
  show (pF s n 2 (pF s n 1 x).2.adv).2.deep < 0 ↔ _
  rw [b4]
  show (pF s n 1 x).2.deep < 0 ∧ (e = 0 ∨ (pF s n 1 x).2.opn + e ≤ 10) ↔ _
  rw [a4, pF_opn]
  exact two_deep
theorem Rd.form1 {k k' w d : Nat} {φ : Fm} (h : Rd s 2 k φ k' w d) (h1 : byteAt s k' ≠ 124) : Rd s 3 k φ k' w d := by
  refine ⟨h.1, fun n hn x hx => ?_⟩
  obtain ⟨n, rfl⟩ : ∃ n', n = n' + 1 := ⟨n - 1, by omega⟩
  have g := h.2 n (by omega) x hx
  have e : pF s (n + 1) 3 x = pF s n 2 x := by
    rw [pF3']; dsimp only; rw [g.2.1]; simp [isC_byte, h1]
  rw [e]; exact g
theorem Rd.form {k k' k2 w d v e : Nat} {φ ψ : Fm} (h : Rd s 2 k φ k' w d) (hb : byteAt s k' = 124) (h2 : Rd s 3 (k' + 1) ψ k2 v e) (hkk : k ≤ k') : Rd s 3 k (.bin 124 φ ψ) k2 (w + v) (max d e) := by
  have hk := lt_byte (s := s) (k := k') (by omega)
  refine ⟨h2.1, fun n hn x hx => ?_⟩
  obtain ⟨n, rfl⟩ : ∃ n', n = n' + 1 := ⟨n - 1, by omega⟩
  obtain ⟨a1, a2, a3, a4⟩ := h.2 n (by omega) x hx
  obtain ⟨b1, b2, b3, b4⟩ := h2.2 n (by omega) (pF s n 2 x).2.adv (adv_ok a2)
  have e1 : pF s (n + 1) 3 x = (.bin 124 (pF s n 2 x).1 (pF s n 3 (pF s n 2 x).2.adv).1, (pF s n 3 (pF s n 2 x).2.adv).2) := by
    rw [pF3']; dsimp only
    rw [a2]
    simp [isC_byte, hb]
  rw [e1]
  refine ⟨by show Fm.bin 124 _ _ = _; rw [a1, b1], b2, by show _ = x.wgt + (w + v); rw [b3]; show (pF s n 2 x).2.wgt + v = _; omega, ?_⟩
  show (pF s n 3 (pF s n 2 x).2.adv).2.deep < 0 ↔ _
  rw [b4]
  show (pF s n 2 x).2.deep < 0 ∧ (e = 0 ∨ (pF s n 2 x).2.opn + e ≤ 10) ↔ _
  rw [a4, pF_opn]
  exact two_deep
/-- Where a formula stands in another text, within brackets, it reads there, too. -/
theorem Rd.paste {s' : ByteArray} {p m k' w d : Nat} {φ : Fm} (e : Emb s s' p) (hm : m ≤ 3) (hs : p + s.size ≤ s'.size) (h : Rd s m 0 φ k' w d) : Rd s' m p (shF p φ) (p + k') w d := by
  refine Rd.of (n := 4 * (s'.size - p) + m + 1) hm (Nat.le_refl _) (by have := h.1; omega) (fun y hy => ?_)
  obtain ⟨h1, h2, h3, h4⟩ := h.2 (4 * (s'.size - p) + m + 1) (by omega) ⟨.ok 0, y.deep, y.opn, 0⟩ rfl
  obtain ⟨_, g1, g2, g3, g4⟩ := pF_paste e (4 * (s'.size - p) + m + 1) m ⟨.ok 0, y.deep, y.opn, 0⟩ y 0 rfl hy (Nat.zero_le _) k' h2
  refine ⟨by rw [g1, h1], g2, ?_, ?_⟩
  · rw [h3] at g3
    simp only at g3
    omega
  · rw [← g4 rfl Iff.rfl, h4]
end
end Go.Proofs.YtgoebckimmofoaaGreatDoor

/- Good formulas, by how they are read; what pasting does to their meaning. Our own text. -/
namespace Go.Proofs.YtgoebckimmofoaaGreatDoor
open Go.RowKit Go.Lib
/-- A text's bytes, as numbers. -/
def nums (s : ByteArray) : List Nat := s.data.toList.map (fun b => b.toNat)
theorem nums_len (s : ByteArray) : (nums s).length = s.size := by unfold nums; rw [List.length_map, Array.length_toList]; rfl
theorem byteAt_nums (s : ByteArray) (i : Nat) : byteAt s i = (nums s).getD i 0 := by
  unfold byteAt nums
  by_cases h : i < s.size
  · rw [dif_pos h]
    have h' : i < s.data.toList.length := by rw [Array.length_toList]; exact h
    rw [List.getD_eq_getElem?_getD, List.getElem?_map, List.getElem?_eq_getElem h']
    rfl
  · rw [dif_neg h]
    have h' : s.data.toList.length ≤ i := by rw [Array.length_toList]; exact Nat.le_of_not_lt h
    rw [List.getD_eq_getElem?_getD, List.getElem?_map, List.getElem?_eq_none h']
    rfl
theorem nums_append (a b : ByteArray) : nums (a ++ b) = nums a ++ nums b := by simp [nums, ByteArray.data_append]
/-- A text stands in another. -/
theorem emb_mid {f s : ByteArray} {A C : List Nat} (h : nums s = A ++ (nums f ++ 41 :: C)) : Emb f s A.length := by
  refine ⟨fun i hi => ?_, ?_⟩
  · have hi' : i < (nums f).length := by rw [nums_len]; exact hi
    rw [byteAt_nums, byteAt_nums, h, List.getD_eq_getElem?_getD, List.getElem?_append_right (by omega), List.getD_eq_getElem?_getD]
    rw [show A.length + i - A.length = i by omega, List.getElem?_append_left hi']
  · rw [byteAt_nums, h, List.getD_eq_getElem?_getD, List.getElem?_append_right (by omega), ← nums_len f]
    rw [show A.length + (nums f).length - A.length = (nums f).length by omega, List.getElem?_append_right (by omega)]
    simp
theorem emb_self (f : ByteArray) : Emb f (f.push 41) 0 := by
  have : nums (f.push 41) = [] ++ (nums f ++ 41 :: []) := by simp [nums]
  exact emb_mid this
theorem pF_le {s : ByteArray} {n m i j : Nat} {x : FSt} (hx : x.q = .ok i) (hi : i ≤ s.size) (h : (pF s n m x).2.q = .ok j) : j ≤ s.size :=
  (pF_paste (emb_self s) n m x ⟨.ok (0 + i), 0, 0, 0⟩ i hx rfl hi j h).1
/-- A good formula is read from end to end. -/
theorem good_rd {f : ByteArray} {i : Nat} (h : (qForm f).2.q = .ok i) : ∃ d, Rd f 3 0 (qForm f).1 f.size (qForm f).2.wgt d ∧ ((qForm f).2.deep < 0 ↔ d ≤ 10) := by
  obtain ⟨φ, q', w, d, hu⟩ := pF_uni (s := f) (4 * f.size + 4) 3 (.ok 0) (Nat.le_refl _)
  obtain ⟨h1, h2, h3, h4⟩ := hu ⟨.ok 0, -1, 0, 0⟩ rfl
  have hq : (pF f (4 * f.size + 4) 3 ⟨.ok 0, -1, 0, 0⟩).2.q = .ok f.size := by
    unfold qForm at h
    simp only at h
    cases hq : (pF f (4 * f.size + 4) 3 ⟨.ok 0, -1, 0, 0⟩).2.q with
    | error k => rw [hq] at h; cases h
    | ok j =>
      have := pF_le (i := 0) rfl (Nat.zero_le _) hq
      rw [hq] at h
      simp only at h
      by_cases hj : j < f.size
      · rw [if_pos hj] at h; cases h
      · rw [show j = f.size by omega]
  rw [hq] at h2
  subst h2
  refine ⟨d, ?_, ?_⟩
  · have e1 : (qForm f).1 = φ := h1
    have e2 : (qForm f).2.wgt = w := by
      have : (qForm f).2.wgt = (pF f (4 * f.size + 4) 3 ⟨.ok 0, -1, 0, 0⟩).2.wgt := rfl
      rw [this, h3]; simp
    rw [e1, e2]
    exact Rd.of (n := 4 * f.size + 4) (Nat.le_refl _) (by omega) (Nat.le_refl _) hu
  · have : (qForm f).2.deep = (pF f (4 * f.size + 4) 3 ⟨.ok 0, -1, 0, 0⟩).2.deep := rfl
    rw [this, h4]
    simp only
    omega
theorem rd_good {f : ByteArray} {φ : Fm} {w d : Nat} (h : Rd f 3 0 φ f.size w d) : (qForm f).1 = φ ∧ (qForm f).2.q = .ok f.size ∧ (qForm f).2.wgt = w ∧ ((qForm f).2.deep < 0 ↔ d ≤ 10) := by
  obtain ⟨h1, h2, h3, h4⟩ := h.2 (4 * f.size + 4) (by omega) ⟨.ok 0, -1, 0, 0⟩ rfl
  refine ⟨h1, ?_, ?_, ?_⟩
  · unfold qForm
    simp only
    rw [h2]
    simp
  · have : (qForm f).2.wgt = (pF f (4 * f.size + 4) 3 ⟨.ok 0, -1, 0, 0⟩).2.wgt := rfl
    rw [this, h3]; simp
  · have : (qForm f).2.deep = (pF f (4 * f.size + 4) 3 ⟨.ok 0, -1, 0, 0⟩).2.deep := rfl
    rw [this, h4]
    simp only
    omega
/-- The conditions of a formula lie in its text. -/
def Fm.In (s : ByteArray) : Fm → Prop
  | ⟨o, c, 0, _⟩ => o = 99 → 0 ≤ c.1.2.2 ∧ c.1.2.2.toNat + 1 < s.size
  | ⟨_, _, 1, k⟩ => (k 0).In s
  | ⟨_, _, 2, k⟩ => (k 0).In s ∧ (k 1).In s
  | ⟨_, _, _ + 3, _⟩ => True
theorem in_tt (s : ByteArray) : Fm.tt.In s := fun h => by cases h
theorem pF_in (s : ByteArray) : ∀ (n m : Nat) (x : FSt), (pF s n m x).1.In s := by
  intro n
  induction n with
  | zero => intro m x; exact in_tt s
  | succ n ih =>
    intro m x
    match m with
    | 0 =>
      rw [pF0]
      split
      · exact ih 0 _
      · split
        · exact ih 0 _
        · split
          · exact ih 0 _
          · split
            · exact ih 0 _
            · split
              · exact in_tt s
              · split
                · exact ih _ _
                · split
                  · next c q' e =>
                    intro _
                    cases hq : x.q with
                    | error k => rw [hq] at e; simp [qCond, qTerm, qNum] at e
                    | ok i =>
                      rw [hq] at e
                      cases q' with
                      | error k =>
                        unfold qCond at e
                        cases h1 : qTerm s (.ok i) with
                        | mk r q1 =>
                          rw [h1] at e
                          cases r with
                          | none => cases e
                          | some a =>
                            simp only at e
                            split at e
                            · split at e
                              · cases e
                              · next h2 =>
                                obtain ⟨_, h3⟩ := qTerm_some h2
                                rw [h3] at h2
                                cases e
                                cases h3
                            · cases e
                      | ok j =>
                        obtain ⟨h1, h2⟩ := qCond_ok e
                        have h3 : c.1.2.2 = (i : Int) := by
                          unfold qCond at e
                          cases h1 : qTerm s (.ok i) with
                          | mk r q1 =>
                            rw [h1] at e
                            cases r with
                            | none => cases e
                            | some a =>
                              obtain ⟨j, hj⟩ := qTerm_some h1
                              subst hj
                              obtain ⟨k, hk, hk2, _⟩ := qTerm_at h1
                              cases hk
                              simp only at e
                              split at e
                              · split at e
                                · cases e
                                · cases e; exact hk2
                              · cases e
                        show 0 ≤ c.1.2.2 ∧ c.1.2.2.toNat + 1 < s.size
                        rw [h3]
                        omega
                  · exact in_tt s
    | 1 =>
      rw [pF1]
      dsimp only
      split
      · exact ⟨ih _ _, ih _ _⟩
      · split
        · exact ⟨ih _ _, ih _ _⟩
        · split
          · exact ⟨ih _ _, ih _ _⟩
          · exact ih _ _
    | 2 =>
      rw [pF2]
      dsimp only
      split
      · exact ⟨ih _ _, ih _ _⟩
      · exact ih _ _
    | m + 3 =>
      rw [pF3]
      dsimp only
      split
      · exact ⟨ih _ _, ih _ _⟩
      · exact ih _ _
theorem qForm_in (s : ByteArray) : (qForm s).1.In s := pF_in s _ _ _
theorem soS_paste {f s : ByteArray} {p : Nat} (e : Emb f s p) {c : Tm × Tm} (h : 0 ≤ c.1.2.2 ∧ c.1.2.2.toNat + 1 < f.size) (st : ByteArray) : soS s (shC p c) st = soS f c st := by
  have h1 : byteAt s ((shC p c).1.2.2.toNat + 1) = byteAt f (c.1.2.2.toNat + 1) := by
    have : (shC p c).1.2.2.toNat + 1 = p + (c.1.2.2.toNat + 1) := by show (c.1.2.2 + (p : Int)).toNat + 1 = _; omega
    rw [this, e.byte _ h.2]
  unfold soS cC
  rw [h1]
  rfl
/-- A pasted formula says the same. -/
theorem sm_paste {f s : ByteArray} {p : Nat} (e : Emb f s p) (st : Nat → ByteArray) : ∀ (φ : Fm) (_ : φ.Ok) (_ : φ.In f) (t : Nat), sm (fun t c => soS s c (st t)) (shF p φ) t ↔ sm (fun t c => soS f c (st t)) φ t
  | ⟨o, c, 0, _⟩, ho, hi, t => by
    unfold shF
    rcases ho with rfl | ⟨rfl, _⟩
    · rw [if_neg (by omega)]
      exact ⟨fun _ => .inl rfl, fun _ => .inl rfl⟩
    · rw [if_pos rfl]
      show 99 = 84 ∨ soS s (shC p c) (st t) = true ↔ 99 = 84 ∨ soS f c (st t) = true
      rw [soS_paste e (hi rfl)]
  | ⟨o, c, 1, k⟩, ho, hi, t => by
    have ih := sm_paste e st (k 0) ho.2 hi
    have e1 : shF p ⟨o, c, 1, k⟩ = .un o (shF p (k 0)) := rfl
    rw [e1]
    unfold Fm.un sm
    simp only [ih]
  | ⟨o, c, 2, k⟩, ho, hi, t => by
    have ih := sm_paste e st (k 0) ho.2.1 hi.1
    have ih1 := sm_paste e st (k 1) ho.2.2 hi.2
    have e1 : shF p ⟨o, c, 2, k⟩ = .bin o (shF p (k 0)) (shF p (k 1)) := rfl
    rw [e1]
    have g : ∀ t, sm (fun t c => soS s c (st t)) ((fun i : Fin 2 => if i.val = 0 then shF p (k 0) else shF p (k 1)) 0) t ↔ sm (fun t c => soS f c (st t)) (k 0) t := ih
    have g1 : ∀ t, sm (fun t c => soS s c (st t)) ((fun i : Fin 2 => if i.val = 0 then shF p (k 0) else shF p (k 1)) 1) t ↔ sm (fun t c => soS f c (st t)) (k 1) t := ih1
    unfold Fm.bin sm
    simp only [g, g1]
  | ⟨_, _, _ + 3, _⟩, ho, _, _ => False.elim ho
end Go.Proofs.YtgoebckimmofoaaGreatDoor

/- What a piece of a text says. Our own text. -/
namespace Go.Proofs.YtgoebckimmofoaaGreatDoor
open Go.RowKit Go.Lib
theorem ok_shF (p : Nat) : ∀ φ : Fm, φ.Ok → (shF p φ).Ok
  | ⟨o, c, 0, _⟩, h => by
    unfold shF
    rcases h with rfl | ⟨rfl, hc⟩
    · rw [if_neg (by omega)]; exact ok_tt
    · rw [if_pos rfl]
      refine .inr ⟨rfl, ?_⟩
      obtain ⟨⟨h1, h2, h3⟩, h4, h5, h6⟩ := hc
      exact ⟨⟨h1, h2, by show 0 ≤ c.1.2.2 + (p : Int); omega⟩, h4, h5, by show 0 ≤ c.2.2.2 + (p : Int); omega⟩
  | ⟨_, _, 1, k⟩, h => ok_un h.1 (ok_shF p (k 0) h.2)
  | ⟨_, _, 2, k⟩, h => ok_bin h.1 (ok_shF p (k 0) h.2.1) (ok_shF p (k 1) h.2.2)
  | ⟨_, _, _ + 3, _⟩, h => False.elim h
theorem nm_shF (p nv : Nat) : ∀ φ : Fm, φ.Ok → ((shF p φ).Nm nv ↔ φ.Nm nv)
  | ⟨o, c, 0, _⟩, h => by
    unfold shF
    rcases h with rfl | ⟨rfl, hc⟩
    · rw [if_neg (by omega)]
      exact ⟨fun _ h => (by cases h), fun _ h => (by cases h)⟩
    · rw [if_pos rfl]
      exact Iff.rfl
  | ⟨_, _, 1, k⟩, h => nm_shF p nv (k 0) h.2
  | ⟨_, _, 2, k⟩, h => by
    have h0 := nm_shF p nv (k 0) h.2.1
    have h1 := nm_shF p nv (k 1) h.2.2
    exact ⟨fun ⟨a, b⟩ => ⟨h0.1 a, h1.1 b⟩, fun ⟨a, b⟩ => ⟨h0.2 a, h1.2 b⟩⟩
  | ⟨_, _, _ + 3, _⟩, h => False.elim h
theorem nmF_of (nv : Nat) : ∀ φ : Fm, φ.Ok → φ.Nm nv → ¬ (0 ≤ nmF nv φ)
  | ⟨o, c, 0, _⟩, ho, h => by
    unfold nmF
    rcases ho with rfl | ⟨rfl, _⟩
    · rw [if_neg (by omega)]; omega
    · rw [if_pos rfl]
      obtain ⟨h1, h2⟩ := h rfl
      unfold unnamed
      rw [if_neg (by omega), if_neg (by omega)]; omega
  | ⟨_, _, 1, k⟩, ho, h => nmF_of nv (k 0) ho.2 h
  | ⟨_, _, 2, k⟩, ho, h => by
    unfold nmF
    rw [if_neg (nmF_of nv (k 0) ho.2.1 h.1)]
    exact nmF_of nv (k 1) ho.2.2 h.2
  | ⟨_, _, _ + 3, _⟩, ho, _ => False.elim ho
/-- What is said of states without an end, at a time. -/
abbrev Sy := (Nat → ByteArray) → Nat → Prop
/-- From k to k' stands a piece of weight w and depth d, whose names are right where N says so, and which says P. -/
def Says (s : ByteArray) (m k k' w d : Nat) (N : Nat → Prop) (P : Sy) : Prop := ∃ φ, Rd s m k φ k' w d ∧ φ.Ok ∧ (∀ nv, φ.Nm nv ↔ N nv) ∧ ∀ st t, sm (fun t c => soS s c (st t)) φ t ↔ P st t
section
variable {s : ByteArray} {k k' k2 w v d e : Nat} {N M : Nat → Prop} {P R : Sy}
theorem Says.brk (hb : byteAt s k = 40) (h : Says s 3 (k + 1) k' w d N P) (he : byteAt s k' = 41) : Says s 0 k (k' + 1) w (d + 1) N P := by
  obtain ⟨φ, h1, h2⟩ := h
  exact ⟨φ, h1.brk hb he, h2⟩
theorem Says.not (hb : byteAt s k = 33) (h : Says s 0 (k + 1) k' w d N P) : Says s 0 k k' w d N (fun st t => ¬ P st t) := by
  obtain ⟨φ, h1, h2, h3, h4⟩ := h
  refine ⟨.un 33 φ, h1.not hb, ok_un (by omega) h2, h3, fun st t => ?_⟩
  unfold Fm.un sm
  simp [h4]
theorem Says.next (hb : byteAt s k = 88) (h : Says s 0 (k + 1) k' w d N P) : Says s 0 k k' (w + 1) d N (fun st t => P st (t + 1)) := by
  obtain ⟨φ, h1, h2, h3, h4⟩ := h
  refine ⟨.un 88 φ, h1.sign (by omega) hb, ok_un (by omega) h2, h3, fun st t => ?_⟩
  unfold Fm.un sm
  simp [h4]
theorem Says.some (hb : byteAt s k = 70) (h : Says s 0 (k + 1) k' w d N P) : Says s 0 k k' (w + 1) d N (fun st t => ∃ j, t ≤ j ∧ P st j) := by
  obtain ⟨φ, h1, h2, h3, h4⟩ := h
  refine ⟨.un 70 φ, h1.sign (by omega) hb, ok_un (by omega) h2, h3, fun st t => ?_⟩
  unfold Fm.un sm
  simp [h4]
theorem Says.all (hb : byteAt s k = 71) (h : Says s 0 (k + 1) k' w d N P) : Says s 0 k k' (w + 1) d N (fun st t => ∀ j, t ≤ j → P st j) := by
  obtain ⟨φ, h1, h2, h3, h4⟩ := h
  refine ⟨.un 71 φ, h1.sign (by omega) hb, ok_un (by omega) h2, h3, fun st t => ?_⟩
  unfold Fm.un sm
  simp [h4]
theorem Says.top (hb : byteAt s k = 84) : Says s 0 k (k + 1) 0 0 (fun _ => True) (fun _ _ => True) :=
  ⟨.tt, Rd.top hb, ok_tt, fun _ => ⟨fun _ => trivial, fun _ h => (by cases h)⟩, fun _ _ => ⟨fun _ => trivial, fun _ => .inl rfl⟩⟩
theorem Says.one (h : Says s 0 k k' w d N P) (h1 : byteAt s k' ≠ 85) (h2 : byteAt s k' ≠ 82) (h3 : byteAt s k' ≠ 87) : Says s 1 k k' w d N P := by
  obtain ⟨φ, g, r⟩ := h
  exact ⟨φ, g.one h1 h2 h3, r⟩
def sU (P R : Sy) : Sy := fun st t => ∃ j, t ≤ j ∧ R st j ∧ ∀ i, t ≤ i → i < j → P st i
def sW (P R : Sy) : Sy := fun st t => (∃ j, t ≤ j ∧ R st j ∧ ∀ i, t ≤ i → i < j → P st i) ∨ ∀ j, t ≤ j → P st j
def sR (P R : Sy) : Sy := fun st t => (∃ j, t ≤ j ∧ (P st j ∧ R st j) ∧ ∀ i, t ≤ i → i < j → R st i) ∨ ∀ j, t ≤ j → R st j
theorem Says.until (h : Says s 0 k k' w d N P) (hb : byteAt s k' = 85) (h2 : Says s 0 (k' + 1) k2 v e M R) (hkk : k ≤ k') : Says s 1 k k2 (w + v + 1) (max d e) (fun nv => N nv ∧ M nv) (sU P R) := by
  obtain ⟨φ, a1, a2, a3, a4⟩ := h
  obtain ⟨ψ, b1, b2, b3, b4⟩ := h2
  refine ⟨.bin 85 φ ψ, Rd.pair (by omega) a1 hb b1 hkk, ok_bin (by omega) a2 b2, fun nv => ⟨fun ⟨x, y⟩ => ⟨(a3 nv).1 x, (b3 nv).1 y⟩, fun ⟨x, y⟩ => ⟨(a3 nv).2 x, (b3 nv).2 y⟩⟩, fun st t => ?_⟩
  unfold Fm.bin sm sU
  simp [a4, b4]
theorem Says.weak (h : Says s 0 k k' w d N P) (hb : byteAt s k' = 87) (h2 : Says s 0 (k' + 1) k2 v e M R) (hkk : k ≤ k') : Says s 1 k k2 (w + v + 1) (max d e) (fun nv => N nv ∧ M nv) (sW P R) := by
  obtain ⟨φ, a1, a2, a3, a4⟩ := h
  obtain ⟨ψ, b1, b2, b3, b4⟩ := h2
  refine ⟨.bin 87 φ ψ, Rd.pair (by omega) a1 hb b1 hkk, ok_bin (by omega) a2 b2, fun nv => ⟨fun ⟨x, y⟩ => ⟨(a3 nv).1 x, (b3 nv).1 y⟩, fun ⟨x, y⟩ => ⟨(a3 nv).2 x, (b3 nv).2 y⟩⟩, fun st t => ?_⟩
  unfold Fm.bin sm sW
  simp [a4, b4]
theorem Says.release (h : Says s 0 k k' w d N P) (hb : byteAt s k' = 82) (h2 : Says s 0 (k' + 1) k2 v e M R) (hkk : k ≤ k') : Says s 1 k k2 (w + v + 1) (max d e) (fun nv => N nv ∧ M nv) (sR P R) := by
  obtain ⟨φ, a1, a2, a3, a4⟩ := h
  obtain ⟨ψ, b1, b2, b3, b4⟩ := h2
  refine ⟨.bin 82 φ ψ, Rd.pair (by omega) a1 hb b1 hkk, ok_bin (by omega) a2 b2, fun nv => ⟨fun ⟨x, y⟩ => ⟨(a3 nv).1 x, (b3 nv).1 y⟩, fun ⟨x, y⟩ => ⟨(a3 nv).2 x, (b3 nv).2 y⟩⟩, fun st t => ?_⟩
  unfold Fm.bin sm sR
  simp [a4, b4]
theorem Says.both1 (h : Says s 1 k k' w d N P) (h1 : byteAt s k' ≠ 38) : Says s 2 k k' w d N P := by
  obtain ⟨φ, g, r⟩ := h
  exact ⟨φ, g.both1 h1, r⟩
theorem Says.both (h : Says s 1 k k' w d N P) (hb : byteAt s k' = 38) (h2 : Says s 2 (k' + 1) k2 v e M R) (hkk : k ≤ k') : Says s 2 k k2 (w + v) (max d e) (fun nv => N nv ∧ M nv) (fun st t => P st t ∧ R st t) := by
  obtain ⟨φ, a1, a2, a3, a4⟩ := h
  obtain ⟨ψ, b1, b2, b3, b4⟩ := h2
  refine ⟨.bin 38 φ ψ, a1.both hb b1 hkk, ok_bin (by omega) a2 b2, fun nv => ⟨fun ⟨x, y⟩ => ⟨(a3 nv).1 x, (b3 nv).1 y⟩, fun ⟨x, y⟩ => ⟨(a3 nv).2 x, (b3 nv).2 y⟩⟩, fun st t => ?_⟩
  unfold Fm.bin sm
  simp [a4, b4]
theorem Says.form1 (h : Says s 2 k k' w d N P) (h1 : byteAt s k' ≠ 124) : Says s 3 k k' w d N P := by
  obtain ⟨φ, g, r⟩ := h
  exact ⟨φ, g.form1 h1, r⟩
theorem Says.form (h : Says s 2 k k' w d N P) (hb : byteAt s k' = 124) (h2 : Says s 3 (k' + 1) k2 v e M R) (hkk : k ≤ k') : Says s 3 k k2 (w + v) (max d e) (fun nv => N nv ∧ M nv) (fun st t => P st t ∨ R st t) := by
  obtain ⟨φ, a1, a2, a3, a4⟩ := h
  obtain ⟨ψ, b1, b2, b3, b4⟩ := h2
  refine ⟨.bin 124 φ ψ, a1.form hb b1 hkk, ok_bin (by omega) a2 b2, fun nv => ⟨fun ⟨x, y⟩ => ⟨(a3 nv).1 x, (b3 nv).1 y⟩, fun ⟨x, y⟩ => ⟨(a3 nv).2 x, (b3 nv).2 y⟩⟩, fun st t => ?_⟩
  unfold Fm.bin sm
  simp [a4, b4]
/-- One is a both, if nothing that binds it stands behind it. -/
theorem Says.up2 (h : Says s 0 k k' w d N P) (h1 : byteAt s k' ≠ 85) (h2 : byteAt s k' ≠ 82) (h3 : byteAt s k' ≠ 87) (h4 : byteAt s k' ≠ 38) : Says s 2 k k' w d N P := (h.one h1 h2 h3).both1 h4
theorem Says.up3 (h : Says s 0 k k' w d N P) (hb : byteAt s k' = 41 ∨ byteAt s k' = 0) : Says s 3 k k' w d N P := ((h.one (by omega) (by omega) (by omega)).both1 (by omega)).form1 (by omega)
theorem Says.up3' (h : Says s 1 k k' w d N P) (hb : byteAt s k' = 41 ∨ byteAt s k' = 0) : Says s 3 k k' w d N P := (h.both1 (by omega)).form1 (by omega)
theorem Says.up3'' (h : Says s 2 k k' w d N P) (hb : byteAt s k' = 41 ∨ byteAt s k' = 0) : Says s 3 k k' w d N P := h.form1 (by omega)
/-- What the good formula f says of states without an end. -/
def sOf (f : ByteArray) : Sy := fun st t => sm (fun t c => soS f c (st t)) (qForm f).1 t
/-- A good formula, pasted within brackets. -/
theorem says_in {f : ByteArray} {A C : List Nat} (h : nums s = A ++ 40 :: (nums f ++ 41 :: C)) (hr : Rd f 3 0 (qForm f).1 f.size w d) : Says s 0 A.length (A.length + f.size + 2) w (d + 1) (fun nv => (qForm f).1.Nm nv) (sOf f) := by
  have h' : nums s = (A ++ [40]) ++ (nums f ++ 41 :: C) := by rw [h]; simp
  have e := emb_mid h'
  have hl : (A ++ [40]).length = A.length + 1 := by simp
  rw [hl] at e
  have hsz : s.size = A.length + 1 + f.size + 1 + C.length := by
    rw [← nums_len s, h, ← nums_len f]; simp; omega
  have hp := hr.paste e (Nat.le_refl 3) (by omega)
  have h40 : byteAt s A.length = 40 := by
    rw [byteAt_nums, h, List.getD_eq_getElem?_getD, List.getElem?_append_right (Nat.le_refl _)]; simp
  have h41 := e.fin
  refine ⟨shF (A.length + 1) (qForm f).1, ?_, ok_shF _ _ (qForm_ok f), fun nv => nm_shF _ nv _ (qForm_ok f), fun st t => sm_paste e st _ (qForm_ok f) (qForm_in f) t⟩
  have := hp.brk h40 h41
  rw [show A.length + f.size + 2 = A.length + 1 + f.size + 1 by omega]
  exact this
/-- What stands from end to end of a text. -/
theorem Says.whole {f : ByteArray} (h : Says f 3 0 f.size w d N P) : Rd f 3 0 (qForm f).1 f.size w d ∧ (qForm f).2.q = .ok f.size ∧ (qForm f).2.wgt = w ∧ ((qForm f).2.deep < 0 ↔ d ≤ 10) ∧ (∀ nv, (qForm f).1.Nm nv ↔ N nv) ∧ ∀ st t, sOf f st t ↔ P st t := by
  obtain ⟨φ, h1, h2, h3, h4⟩ := h
  obtain ⟨g1, g2, g3, g4⟩ := rd_good h1
  unfold sOf
  rw [g1]
  exact ⟨h1, g2, g3, g4, h3, h4⟩
end
/-- When the document calls a formula good. -/
theorem good_iff (m f : ByteArray) : (rForm m f).1 = 0 ↔ (rCheck m).1 = 0 ∧ f.size ≤ 60 ∧ ∃ w d, Rd f 3 0 (qForm f).1 f.size w d ∧ d ≤ 10 ∧ (qForm f).1.Nm (nvM m) ∧ w ≤ 4 := by
  constructor
  · intro h
    obtain ⟨h1, h2, ⟨i, h3⟩, h4, h5, h6, _⟩ := rForm_ok h
    obtain ⟨d, g1, g2⟩ := good_rd h3
    exact ⟨h1, h2, (qForm f).2.wgt, d, g1, g2.1 (by omega), nm_of _ _ (qForm_ok f) h4, h6⟩
  · rintro ⟨h1, h2, w, d, h3, h4, h5, h6⟩
    obtain ⟨_, g2, g3, g4⟩ := rd_good h3
    unfold rForm fErr
    rw [if_neg (by omega), if_neg (by omega), g2]
    simp only
    rw [if_neg (by have := g4.2 h4; omega), if_neg (nmF_of _ _ (qForm_ok f) h5), if_neg (by omega)]
end Go.Proofs.YtgoebckimmofoaaGreatDoor

/- The texts that the laws paste together. Our own text. -/
namespace Go.Proofs.YtgoebckimmofoaaGreatDoor
open Go.RowKit Go.Lib
theorem byte_of {s : ByteArray} {A C : List Nat} {c k : Nat} (h : nums s = A ++ c :: C) (hk : k = A.length) : byteAt s k = c := by
  subst hk
  rw [byteAt_nums, h, List.getD_eq_getElem?_getD, List.getElem?_append_right (Nat.le_refl _)]; simp
theorem byte_end {s : ByteArray} {k : Nat} (hk : k = s.size) : byteAt s k = 0 := by
  subst hk
  unfold byteAt
  rw [dif_neg (by omega)]
theorem size_of {s : ByteArray} {l : List Nat} (h : nums s = l) : s.size = l.length := by rw [← nums_len s, h]
section
variable {f g s : ByteArray} {w v d e : Nat}
/-- A good formula's names. -/
def nmOf (f : ByteArray) (nv : Nat) : Prop := (qForm f).1.Nm nv
theorem txt_not (h : nums s = 33 :: 40 :: (nums f ++ [41])) (hf : Rd f 3 0 (qForm f).1 f.size w d) : Says s 3 0 s.size w (d + 1) (nmOf f) (fun st t => ¬ sOf f st t) := by
  have hz := size_of h
  simp [nums_len] at hz
  have a := says_in (s := s) (A := [33]) (C := []) h hf
  have b := a.not (k := 0) (byte_of (A := []) h rfl)
  rw [show [33].length + f.size + 2 = s.size by simp; omega] at b
  exact b.up3 (.inr (byte_end rfl))
theorem txt_next (h : nums s = 88 :: 40 :: (nums f ++ [41])) (hf : Rd f 3 0 (qForm f).1 f.size w d) : Says s 3 0 s.size (w + 1) (d + 1) (nmOf f) (fun st t => sOf f st (t + 1)) := by
  have hz := size_of h
  simp [nums_len] at hz
  have a := says_in (s := s) (A := [88]) (C := []) h hf
  have b := a.next (k := 0) (byte_of (A := []) h rfl)
  rw [show [88].length + f.size + 2 = s.size by simp; omega] at b
  exact b.up3 (.inr (byte_end rfl))
theorem txt_some (h : nums s = 70 :: 40 :: (nums f ++ [41])) (hf : Rd f 3 0 (qForm f).1 f.size w d) : Says s 3 0 s.size (w + 1) (d + 1) (nmOf f) (fun st t => ∃ j, t ≤ j ∧ sOf f st j) := by
  have hz := size_of h
  simp [nums_len] at hz
  have a := says_in (s := s) (A := [70]) (C := []) h hf
  have b := a.some (k := 0) (byte_of (A := []) h rfl)
  rw [show [70].length + f.size + 2 = s.size by simp; omega] at b
  exact b.up3 (.inr (byte_end rfl))
theorem txt_all (h : nums s = 71 :: 40 :: (nums f ++ [41])) (hf : Rd f 3 0 (qForm f).1 f.size w d) : Says s 3 0 s.size (w + 1) (d + 1) (nmOf f) (fun st t => ∀ j, t ≤ j → sOf f st j) := by
  have hz := size_of h
  simp [nums_len] at hz
  have a := says_in (s := s) (A := [71]) (C := []) h hf
  have b := a.all (k := 0) (byte_of (A := []) h rfl)
  rw [show [71].length + f.size + 2 = s.size by simp; omega] at b
  exact b.up3 (.inr (byte_end rfl))
theorem txt_nsn (h : nums s = 33 :: 70 :: 33 :: 40 :: (nums f ++ [41])) (hf : Rd f 3 0 (qForm f).1 f.size w d) : Says s 3 0 s.size (w + 1) (d + 1) (nmOf f) (fun st t => ¬ ∃ j, t ≤ j ∧ ¬ sOf f st j) := by
  have hz := size_of h
  simp [nums_len] at hz
  have a := says_in (s := s) (A := [33, 70, 33]) (C := []) h hf
  have b := a.not (k := 2) (byte_of (A := [33, 70]) h rfl)
  have c := b.some (k := 1) (byte_of (A := [33]) h rfl)
  have c2 := c.not (k := 0) (byte_of (A := []) h rfl)
  rw [show [33, 70, 33].length + f.size + 2 = s.size by simp; omega] at c2
  exact c2.up3 (.inr (byte_end rfl))
theorem txt_tu (h : nums s = 84 :: 85 :: 40 :: (nums f ++ [41])) (hf : Rd f 3 0 (qForm f).1 f.size w d) : Says s 3 0 s.size (0 + w + 1) (max 0 (d + 1)) (fun nv => True ∧ nmOf f nv) (sU (fun _ _ => True) (sOf f)) := by
  have hz := size_of h
  simp [nums_len] at hz
  have a := says_in (s := s) (A := [84, 85]) (C := []) h hf
  have t := Says.top (s := s) (k := 0) (byte_of (A := []) h rfl)
  have b := t.until (byte_of (A := [84]) h rfl) a (by omega)
  rw [show [84, 85].length + f.size + 2 = s.size by simp; omega] at b
  exact b.up3' (.inr (byte_end rfl))
/-- Two in brackets, a sign between them, more behind. -/
theorem two_in {c : Nat} {A C : List Nat} (h : nums s = A ++ 40 :: (nums f ++ 41 :: c :: 40 :: (nums g ++ 41 :: C))) (hf : Rd f 3 0 (qForm f).1 f.size w d) (hg : Rd g 3 0 (qForm g).1 g.size v e) :
    Says s 0 A.length (A.length + f.size + 2) w (d + 1) (nmOf f) (sOf f) ∧ byteAt s (A.length + f.size + 2) = c ∧ Says s 0 (A.length + f.size + 2 + 1) (A.length + f.size + g.size + 5) v (e + 1) (nmOf g) (sOf g) := by
  refine ⟨says_in (C := c :: 40 :: (nums g ++ 41 :: C)) h hf, byte_of (A := A ++ 40 :: (nums f ++ [41])) (C := 40 :: (nums g ++ 41 :: C)) (by rw [h]; simp) (by simp [nums_len]; omega), ?_⟩
  have := says_in (s := s) (A := A ++ 40 :: (nums f ++ [41, c])) (C := C) (by rw [h]; simp) hg
  have e1 : (A ++ 40 :: (nums f ++ [41, c])).length = A.length + f.size + 2 + 1 := by simp [nums_len]; omega
  rw [e1] at this
  rw [show A.length + f.size + g.size + 5 = A.length + f.size + 2 + 1 + g.size + 2 by omega]
  exact this
theorem txt_and (h : nums s = 40 :: (nums f ++ 41 :: 38 :: 40 :: (nums g ++ [41]))) (hf : Rd f 3 0 (qForm f).1 f.size w d) (hg : Rd g 3 0 (qForm g).1 g.size v e) : Says s 3 0 s.size (w + v) (max (d + 1) (e + 1)) (fun nv => nmOf f nv ∧ nmOf g nv) (fun st t => sOf f st t ∧ sOf g st t) := by
  have hz := size_of h
  simp [nums_len] at hz
  obtain ⟨a, b, c⟩ := two_in (A := []) (C := []) h hf hg
  rw [show ([] : List Nat).length + f.size + g.size + 5 = s.size by simp; omega] at c
  have c2 := c.up2 (by rw [byte_end rfl]; omega) (by rw [byte_end rfl]; omega) (by rw [byte_end rfl]; omega) (by rw [byte_end rfl]; omega)
  exact ((a.one (by omega) (by omega) (by omega)).both b c2 (by omega)).up3'' (.inr (byte_end rfl))
theorem txt_until (h : nums s = 40 :: (nums f ++ 41 :: 85 :: 40 :: (nums g ++ [41]))) (hf : Rd f 3 0 (qForm f).1 f.size w d) (hg : Rd g 3 0 (qForm g).1 g.size v e) : Says s 3 0 s.size (w + v + 1) (max (d + 1) (e + 1)) (fun nv => nmOf f nv ∧ nmOf g nv) (sU (sOf f) (sOf g)) := by
  have hz := size_of h
  simp [nums_len] at hz
  obtain ⟨a, b, c⟩ := two_in (A := []) (C := []) h hf hg
  rw [show ([] : List Nat).length + f.size + g.size + 5 = s.size by simp; omega] at c
  exact (a.until b c (by omega)).up3' (.inr (byte_end rfl))
theorem txt_weak (h : nums s = 40 :: (nums f ++ 41 :: 87 :: 40 :: (nums g ++ [41]))) (hf : Rd f 3 0 (qForm f).1 f.size w d) (hg : Rd g 3 0 (qForm g).1 g.size v e) : Says s 3 0 s.size (w + v + 1) (max (d + 1) (e + 1)) (fun nv => nmOf f nv ∧ nmOf g nv) (sW (sOf f) (sOf g)) := by
  have hz := size_of h
  simp [nums_len] at hz
  obtain ⟨a, b, c⟩ := two_in (A := []) (C := []) h hf hg
  rw [show ([] : List Nat).length + f.size + g.size + 5 = s.size by simp; omega] at c
  exact (a.weak b c (by omega)).up3' (.inr (byte_end rfl))
theorem txt_release (h : nums s = 40 :: (nums f ++ 41 :: 82 :: 40 :: (nums g ++ [41]))) (hf : Rd f 3 0 (qForm f).1 f.size w d) (hg : Rd g 3 0 (qForm g).1 g.size v e) : Says s 3 0 s.size (w + v + 1) (max (d + 1) (e + 1)) (fun nv => nmOf f nv ∧ nmOf g nv) (sR (sOf f) (sOf g)) := by
  have hz := size_of h
  simp [nums_len] at hz
  obtain ⟨a, b, c⟩ := two_in (A := []) (C := []) h hf hg
  rw [show ([] : List Nat).length + f.size + g.size + 5 = s.size by simp; omega] at c
  exact (a.release b c (by omega)).up3' (.inr (byte_end rfl))
end
end Go.Proofs.YtgoebckimmofoaaGreatDoor
