import Derived.Lib.TrailingZeros
import Derived.Test.YtgoebckimmofoaaGreatDoorRows
import Derived.WalkKit
import Derived.WalkSpells
import Derived.WalkLawsBesides
import Derived.Deep.QuietTactic
import Derived.BigQuiet
import Derived.RegionTactic
import Derived.Scope
import Derived.WalkMore
import Derived.Deep.LoopGhost
import Derived.Deep.AppendLies
import Derived.Deep.RegionHeld3
import Derived.Laws.Bits64b
import Derived.Laws.IdiomStrings
import Derived.Maps.AppendAt
import Derived.RangeFuncBox
import Derived.Deep.RegionLaw
import Derived.Deep.RegionHeld
import Derived.RangeFuncNested
import Derived.RangeFuncBound
import Derived.RangeFuncCalls
import Derived.RangeFuncLeaves
import Derived.Shelf.Abstract
import Derived.Shelf.RegionOpen
import Derived.OwnWalkIn
import Derived.TacticsInMore
import Derived.LoopNIn
import Derived.LoopIn
import Derived.Stop.RegionWithIn
import Derived.MapKept
import Derived.Lib.Bytealg
import Derived.Lib.IndexLaws
import Derived.Laws.EntriesVeiled
import Derived.Deep.DrawnRows
import Derived.Test.YtgoebckimmofoaaGreatDoorM1
import Derived.Test.YtgoebckimmofoaaGreatDoorM2
import Derived.Test.YtgoebckimmofoaaGreatDoorM3
import Derived.Test.YtgoebckimmofoaaGreatDoorM4
import Derived.Test.YtgoebckimmofoaaGreatDoorM5
import Derived.Test.YtgoebckimmofoaaGreatDoorM6
import Derived.Test.YtgoebckimmofoaaGreatDoorM7
import Derived.Test.YtgoebckimmofoaaGreatDoorM8
import Derived.Test.YtgoebckimmofoaaGreatDoorM9
import Derived.Test.YtgoebckimmofoaaGreatDoorM11
import Derived.Test.YtgoebckimmofoaaGreatDoorM12
import Derived.Test.YtgoebckimmofoaaGreatDoorM13
import Derived.Test.YtgoebckimmofoaaGreatDoorM15
import Derived.Test.YtgoebckimmofoaaGreatDoorM16
/- What the code's reader has read of a good model is what the document reads. Our own text: no walk in it. -/
namespace Go.Proofs.YtgoebckimmofoaaGreatDoor
open Go.RowKit

theorem qVar_parts {s : ByteArray} {k i j top a0 : Nat} {l : List Nat} (h : qVar s k (.ok i) = (some (top, l, a0), .ok j)) :
    ∃ k1 k3 v, num? s i (97 + k) 0 0 = some k1 ∧ num? s (i + 1) 48 1 3 = some top ∧ num? s (i + 2) 61 0 0 = some k3 ∧ num? s (i + 3) 48 0 3 = some v ∧ qFirst s 4 v (i + 4) [v] = (l, .ok j) := by
  unfold qVar at h
  cases h1 : num? s i (97 + k) 0 0 with
  | none => simp [qMust, qBet, qNum, Q.fail, h1] at h
  | some k1 =>
  cases h2 : num? s (i + 1) 49 0 2 with
  | none => simp [qMust, qBet, qNum, Q.fail, Q.adv, h1, h2] at h
  | some g =>
  cases h3 : num? s (i + 1 + 1) 61 0 0 with
  | none => simp [qMust, qBet, qNum, Q.fail, Q.adv, h1, h2, h3] at h
  | some k3 =>
  cases h4 : num? s (i + 1 + 1 + 1) 48 0 3 with
  | none => simp [qMust, qBet, qNum, Q.fail, Q.adv, h1, h2, h3, h4] at h
  | some v =>
    simp [qMust, qBet, qNum, Q.adv, h1, h2, h3, h4] at h
    obtain ⟨⟨rfl, hl, _⟩, hj⟩ := h
    refine ⟨k1, k3, v, rfl, ?_, rfl, rfl, ?_⟩
    · rw [num_top, h2]; rfl
    · exact Prod.ext hl hj

section
variable {s : ByteArray}
theorem qLoop1_pre : ∀ (f : Nat) (b : Bool) (q : Q) (acc l : List (Tm × Tm)) (q' : Q), qLoop1 s f b q acc = (some l, q') → ∃ r, l = acc ++ r
  | 0, false, _, _, _, _, h => by unfold qLoop1 at h; cases h; exact ⟨[], by simp⟩
  | _ + 1, false, _, _, _, _, h => by unfold qLoop1 at h; cases h; exact ⟨[], by simp⟩
  | 0, true, _, _, _, _, h => by unfold qLoop1 at h; cases h
  | f + 1, true, q, acc, l, q', h => by
    unfold qLoop1 at h
    split at h
    · cases h
    · next c q1 _ =>
      split at h
      · obtain ⟨r, e⟩ := qLoop1_pre f _ _ _ _ _ h; exact ⟨c :: r, by simp [e]⟩
      · obtain ⟨r, e⟩ := qLoop1_pre f _ _ _ _ _ h; exact ⟨c :: r, by simp [e]⟩
theorem qLoop2_pre : ∀ (f : Nat) (b : Bool) (q : Q) (acc l : List Chg) (q' : Q), qLoop2 s f b q acc = (some l, q') → ∃ r, l = acc ++ r
  | 0, false, _, _, _, _, h => by unfold qLoop2 at h; cases h; exact ⟨[], by simp⟩
  | _ + 1, false, _, _, _, _, h => by unfold qLoop2 at h; cases h; exact ⟨[], by simp⟩
  | 0, true, _, _, _, _, h => by unfold qLoop2 at h; cases h
  | f + 1, true, q, acc, l, q', h => by
    unfold qLoop2 at h
    split at h
    · cases h
    · next c q1 _ =>
      split at h
      · obtain ⟨r, e⟩ := qLoop2_pre f _ _ _ _ _ h; exact ⟨c :: r, by simp [e]⟩
      · obtain ⟨r, e⟩ := qLoop2_pre f _ _ _ _ _ h; exact ⟨c :: r, by simp [e]⟩
theorem qRules_pre : ∀ (f i : Nat) (acc l : List RA) (q' : Q), qRules s f i acc = (some l, q') → ∃ r, l = acc ++ r
  | 0, _, _, _, _, h => by unfold qRules at h; cases h
  | f + 1, i, acc, l, q', h => by
    unfold qRules at h
    split at h
    · split at h
      · cases h
      · split at h
        · cases h
        · split at h
          · cases h
          · next r _ _ => obtain ⟨r', e⟩ := qRules_pre f _ _ _ _ h; exact ⟨r :: r', by simp [e]⟩
    · cases h; exact ⟨[], by simp⟩
theorem qVars_pre : ∀ (f : Nat) (q : Q) (acc l : List VA) (q' : Q), qVars s f q acc = (some l, q') → ∃ r, l = acc ++ r
  | 0, _, _, _, _, h => by unfold qVars at h; cases h; exact ⟨[], by simp⟩
  | f + 1, q, acc, l, q', h => by
    unfold qVars at h
    split at h
    · cases h
    · next v _ _ =>
      split at h
      · split at h
        · obtain ⟨r, e⟩ := qVars_pre f _ _ _ _ h; exact ⟨v :: r, by simp [e]⟩
        · cases h; exact ⟨[v], rfl⟩
      · cases h; exact ⟨[v], rfl⟩

/-- What is left of the variables. -/
def LeftV (s : ByteArray) (va : List VA) (ra : List RA) (acc : List VA) (i : Nat) : Prop := ∃ f i0 q', f + acc.length = 3 ∧ qVars s f (.ok i) acc = (some va, .ok i0) ∧ qRules s 121 i0 [] = (some ra, q')
def LeftR (s : ByteArray) (ra acc : List RA) (i : Nat) : Prop := ∃ f q', qRules s f i acc = (some ra, q')
def LeftD (s : ByteArray) (ra acc : List RA) (cl : List (Tm × Tm)) (dl : List Chg) (i : Nat) : Prop := ∃ f ds j, qLoop2 s f true (.ok i) dl = (some ds, .ok j) ∧ LeftR s ra (acc ++ [(cl, ds)]) j
def LeftC (s : ByteArray) (ra acc : List RA) (cl : List (Tm × Tm)) (i : Nat) : Prop := ∃ f cs j k, qLoop1 s f true (.ok i) cl = (some cs, .ok j) ∧ num? s j 58 0 0 = some k ∧ LeftD s ra acc cs [] (j + 1)

theorem leftV {va : List VA} {ra : List RA} {acc : List VA} {i : Nat} (h : LeftV s va ra acc i) (hl : acc.length < 3) :
    ∃ (g a0 j : Nat) (l : List Nat), qVar s acc.length (.ok i) = (some (g, l, a0), .ok j) ∧ (g, l, a0) ∈ va ∧ va.getD acc.length (0, [], 0) = (g, l, a0) ∧ i < j ∧ j ≤ s.size ∧
      (acc.length + 1 < 3 → (∀ k, num? s j 44 0 0 = some k → LeftV s va ra (acc ++ [(g, l, a0)]) (j + 1)) ∧ (num? s j 44 0 0 = none → va.length = acc.length + 1 ∧ LeftR s ra [] j)) ∧
      (¬ acc.length + 1 < 3 → va.length = acc.length + 1 ∧ LeftR s ra [] j) := by
  obtain ⟨f, i0, q', hf, h, hr⟩ := h
  obtain ⟨f', rfl⟩ : ∃ f', f = f' + 1 := ⟨f - 1, by omega⟩
  have hpre := h
  unfold qVars at h
  split at h
  · cases h
  · next v q1 hv =>
    obtain ⟨g, l, a0⟩ := v
    obtain ⟨j, rfl, hj⟩ := qVar_some hv
    have hin : ∃ r, va = (acc ++ [(g, l, a0)]) ++ r := by
      split at h
      · split at h
        · exact qVars_pre _ _ _ _ _ h
        · cases h; exact ⟨[], by simp⟩
      · cases h; exact ⟨[], by simp⟩
    obtain ⟨r, hin⟩ := hin
    have hij : i < j := by
      obtain ⟨_, _, v, _, _, _, h4, hq⟩ := qVar_parts hv
      obtain ⟨j', e, hle, _⟩ := qFirst_ok s 4 v (i + 4) [v]
      rw [hq] at e
      cases e; omega
    refine ⟨g, a0, j, l, hv, by rw [hin]; simp, ?_, hij, hj, ?_, ?_⟩
    · rw [hin]; simp [List.getD]
    · intro h3
      rw [if_pos h3] at h
      refine ⟨fun k hk => ?_, fun hk => ?_⟩
      · have e : qNum s (.ok j) 44 0 = some k := hk
        rw [e] at h
        exact ⟨f', i0, q', by simp; omega, h, hr⟩
      · have e : qNum s (.ok j) 44 0 = none := hk
        rw [e] at h
        simp only [Prod.mk.injEq, Option.some.injEq, Except.ok.injEq] at h
        obtain ⟨rfl, rfl⟩ := h
        exact ⟨by simp, 121, q', hr⟩
    · intro h3
      rw [if_neg h3] at h
      simp only [Prod.mk.injEq, Option.some.injEq, Except.ok.injEq] at h
      obtain ⟨rfl, rfl⟩ := h
      exact ⟨by simp, 121, q', hr⟩

theorem leftR {ra acc : List RA} {i : Nat} (hs : s.size ≤ 120) (hi : i ≤ s.size) (h : LeftR s ra acc i) :
    (i = s.size ∧ ra = acc) ∨ (i < s.size ∧ acc.length ≠ 8 ∧ ∃ k, num? s i 59 0 0 = some k ∧ ((∃ k2, num? s (i + 1) 58 0 0 = some k2 ∧ LeftD s ra acc [] [] (i + 2)) ∨ (num? s (i + 1) 58 0 0 = none ∧ LeftC s ra acc [] (i + 1)))) := by
  obtain ⟨f, q', h⟩ := h
  cases f with
  | zero => unfold qRules at h; cases h
  | succ f =>
  unfold qRules at h
  by_cases hlt : i < s.size
  · rw [if_pos hlt] at h
    right
    refine ⟨hlt, ?_⟩
    by_cases h8 : acc.length = 8
    · rw [if_pos h8] at h; cases h
    rw [if_neg h8] at h
    refine ⟨h8, ?_⟩
    cases hk : num? s i 59 0 0 with
    | none => rw [hk] at h; cases h
    | some k =>
    rw [hk] at h
    simp only at h
    refine ⟨k, rfl, ?_⟩
    cases hr : qRule s (.ok (i + 1)) with
    | mk r q1 =>
    rw [hr] at h
    cases r with
    | none => cases h
    | some r =>
    simp only at h
    have hle : i + 1 ≤ s.size := hlt
    unfold qRule at hr
    cases h58 : num? s (i + 1) 58 0 0 with
    | some k2 =>
      left
      refine ⟨k2, rfl, ?_⟩
      have e : qNum s (.ok (i + 1)) 58 0 = some k2 := h58
      rw [e] at hr
      simp only [Option.isNone_some] at hr
      rw [show qLoop1 s 121 false (.ok (i + 1)) [] = (some [], .ok (i + 1)) from rfl] at hr
      simp only [e] at hr
      cases h2 : qLoop2 s 121 true (Q.adv (.ok (i + 1))) [] with
      | mk r2 q2 =>
      rw [h2] at hr
      cases r2 with
      | none => cases hr
      | some ds =>
      simp only [Prod.mk.injEq, Option.some.injEq] at hr
      obtain ⟨rfl, rfl⟩ := hr
      rcases qLoop2_ok 121 true (i + 1 + 1) [] (num_lt h58) (by omega) h2 with ⟨h', _⟩ | ⟨l, j, h', rfl, _, _⟩
      · cases h'
      · cases h'
        exact ⟨121, _, j, h2, f, q', h⟩
    | none =>
      right
      refine ⟨rfl, ?_⟩
      have e : qNum s (.ok (i + 1)) 58 0 = none := h58
      rw [e] at hr
      simp only [Option.isNone_none] at hr
      cases h1 : qLoop1 s 121 true (.ok (i + 1)) [] with
      | mk r1 q2 =>
      rw [h1] at hr
      cases r1 with
      | none => cases hr
      | some cs =>
      rcases qLoop1_ok 121 true (i + 1) [] hle (by omega) h1 with ⟨h', _⟩ | ⟨l, j, h', rfl, _, hj⟩
      · cases h'
      cases h'
      simp only at hr
      cases hk2 : qNum s (.ok j) 58 0 with
      | none => rw [hk2] at hr; cases hr
      | some k2 =>
      rw [hk2] at hr
      simp only at hr
      have hk2' : num? s j 58 0 0 = some k2 := hk2
      cases h2 : qLoop2 s 121 true (Q.adv (.ok j)) [] with
      | mk r2 q2 =>
      rw [h2] at hr
      cases r2 with
      | none => cases hr
      | some ds =>
      simp only [Prod.mk.injEq, Option.some.injEq] at hr
      obtain ⟨rfl, rfl⟩ := hr
      have hlj := num_lt hk2'
      rcases qLoop2_ok 121 true (j + 1) [] hlj (by omega) h2 with ⟨h', _⟩ | ⟨l2, j2, h', rfl, _, _⟩
      · cases h'
      · cases h'
        exact ⟨121, _, j, k2, h1, hk2', 121, _, j2, h2, f, q', h⟩
  · rw [if_neg hlt] at h
    cases h
    exact .inl ⟨by omega, rfl⟩

theorem leftC {ra acc : List RA} {cl : List (Tm × Tm)} {i : Nat} (h : LeftC s ra acc cl i) :
    ∃ c, qCond s (.ok i) = (some c, .ok (i + 3)) ∧ i + 3 ≤ s.size ∧ (∃ r ∈ ra, c ∈ r.1) ∧ (∀ k, num? s (i + 3) 38 0 0 = some k → LeftC s ra acc (cl ++ [c]) (i + 4)) ∧
      (num? s (i + 3) 38 0 0 = none → ∃ k, num? s (i + 3) 58 0 0 = some k ∧ LeftD s ra acc (cl ++ [c]) [] (i + 4)) := by
  obtain ⟨f, cs, j, k, h, hk, hD⟩ := h
  cases f with
  | zero => unfold qLoop1 at h; cases h
  | succ f =>
  have hin : ∃ r ∈ ra, r.1 = cs := by
    obtain ⟨f', ds, j', _, f'', q'', hr⟩ := hD
    obtain ⟨r, e⟩ := qRules_pre _ _ _ _ _ hr
    exact ⟨(cs, ds), by rw [e]; simp, rfl⟩
  unfold qLoop1 at h
  cases hc : qCond s (.ok i) with
  | mk r q1 =>
  rw [hc] at h
  cases r with
  | none => cases h
  | some c =>
  obtain ⟨rfl, hle⟩ := qCond_ok hc
  simp only at h
  have hcin : c ∈ cs := by
    split at h
    · obtain ⟨r, e⟩ := qLoop1_pre _ _ _ _ _ _ h; rw [e]; simp
    · obtain ⟨r, e⟩ := qLoop1_pre _ _ _ _ _ _ h; rw [e]; simp
  obtain ⟨r, hr1, hr2⟩ := hin
  refine ⟨c, rfl, hle, ⟨r, hr1, by rw [hr2]; exact hcin⟩, fun k' hk' => ?_, fun hk' => ?_⟩
  · have e : qNum s (.ok (i + 3)) 38 0 = some k' := hk'
    rw [e] at h
    exact ⟨f, cs, j, k, h, hk, hD⟩
  · have e : qNum s (.ok (i + 3)) 38 0 = none := hk'
    rw [e] at h
    have e2 : qLoop1 s f false (.ok (i + 3)) (cl ++ [c]) = (some (cl ++ [c]), .ok (i + 3)) := by cases f <;> rfl
    simp only [e2, Prod.mk.injEq, Option.some.injEq, Except.ok.injEq] at h
    obtain ⟨rfl, rfl⟩ := h
    exact ⟨k, hk, hD⟩

theorem leftD {ra acc : List RA} {cl : List (Tm × Tm)} {dl : List Chg} {i : Nat} (h : LeftD s ra acc cl dl i) :
    ∃ (d : Chg) (j : Nat), qChange s (.ok i) = (some d, .ok j) ∧ i < j ∧ j ≤ s.size ∧ (∃ r ∈ ra, ∃ e, r.2 = dl ++ d :: e) ∧ (∀ k, num? s j 44 0 0 = some k → LeftD s ra acc cl (dl ++ [d]) (j + 1)) ∧
      (num? s j 44 0 0 = none → LeftR s ra (acc ++ [(cl, dl ++ [d])]) j) := by
  obtain ⟨f, ds, j0, h, hR⟩ := h
  cases f with
  | zero => unfold qLoop2 at h; cases h
  | succ f =>
  have hin : ∃ r ∈ ra, r.2 = ds := by
    obtain ⟨f'', q'', hr⟩ := hR
    obtain ⟨r, e⟩ := qRules_pre _ _ _ _ _ hr
    exact ⟨(cl, ds), by rw [e]; simp, rfl⟩
  unfold qLoop2 at h
  cases hc : qChange s (.ok i) with
  | mk r q1 =>
  rw [hc] at h
  cases r with
  | none => cases h
  | some c =>
  obtain ⟨j, rfl, hij, hle⟩ := qChange_ok hc
  simp only at h
  have hcin : ∃ e, ds = dl ++ c :: e := by
    split at h
    · obtain ⟨r, e⟩ := qLoop2_pre _ _ _ _ _ _ h; exact ⟨r, by rw [e]; simp⟩
    · obtain ⟨r, e⟩ := qLoop2_pre _ _ _ _ _ _ h; exact ⟨r, by rw [e]; simp⟩
  obtain ⟨r, hr1, hr2⟩ := hin
  refine ⟨c, j, rfl, hij, hle, ⟨r, hr1, by rw [hr2]; exact hcin⟩, fun k' hk' => ?_, fun hk' => ?_⟩
  · have e : qNum s (.ok j) 44 0 = some k' := hk'
    rw [e] at h
    exact ⟨f, ds, j0, h, hR⟩
  · have e : qNum s (.ok j) 44 0 = none := hk'
    rw [e] at h
    have e2 : qLoop2 s f false (.ok j) (dl ++ [c]) = (some (dl ++ [c]), .ok j) := by cases f <;> rfl
    simp only [e2, Prod.mk.injEq, Option.some.injEq, Except.ok.injEq] at h
    obtain ⟨rfl, rfl⟩ := h
    exact hR

/-- A good model of these variables and rules. -/
structure GoodA (va : List VA) (ra : List RA) : Prop where
  v : ∀ v ∈ va, (1 ≤ v.1 ∧ v.1 ≤ 3) ∧ ∀ y ∈ v.2.1, y ≤ v.1
  l1 : 1 ≤ va.length
  l3 : va.length ≤ 3
  c : ∀ r ∈ ra, ∀ c ∈ r.1, c.1.1 < (va.length : Int) ∧ c.2.1 < (va.length : Int)
  d : ∀ r ∈ ra, ∀ c ∈ r.2, 0 ≤ c.1 ∧ c.1 < (va.length : Int) ∧ c.2.2.2.1 < (va.length : Int)
  n : ∀ r ∈ ra, (r.2.map Prod.fst).Nodup
theorem goodA {va : List VA} {ra : List RA} {q' : Q} (h : qRead s = (some (va, ra), q')) (hw : (wrongP va ra).1 = 0) : GoodA va ra := by
  obtain ⟨hv, h1, h3, hr⟩ := qRead_all h
  obtain ⟨w1, w2⟩ := wrong_none hw
  have a := wv_none w1
  have b := wr_none w2
  refine ⟨fun v hv' => ⟨⟨(hv v hv').1, (hv v hv').2.1⟩, a v hv'⟩, h1, h3, fun r hr' => wc_none (hr r hr').1 (b r hr').1, fun r hr' c hc => ?_, fun r hr' => (wd_none (b r hr').2).2⟩
  have p := (hr r hr').2 c hc
  have q := (wd_none (b r hr').2).1 c hc
  refine ⟨p.1, q.1, ?_⟩
  cases hb : c.2.2.1 with
  | true => rw [p.2.2.2.2.2.2 hb]; omega
  | false => exact q.2.1 hb
theorem qVars_notbad : ∀ (f i : Nat) (acc l : List VA) (p : Nat), qVars s f (.ok i) acc ≠ (some l, .error p)
  | 0, _, _, _, _, h => by unfold qVars at h; cases h
  | f + 1, i, acc, l, p, h => by
    unfold qVars at h
    split at h
    · cases h
    · next v q1 hv =>
      obtain ⟨j, rfl, _⟩ := qVar_some hv
      split at h
      · split at h
        · exact qVars_notbad f _ _ _ _ h
        · cases h
      · cases h
theorem leftV0 {va : List VA} {ra : List RA} {q' : Q} (h : qRead s = (some (va, ra), q')) : LeftV s va ra [] 0 := by
  unfold qRead at h
  cases hv : qVars s 3 (.ok 0) [] with
  | mk r q =>
  rw [hv] at h
  cases r with
  | none => cases h
  | some vs =>
  simp only at h
  cases hr : qRules s 121 q.pos [] with
  | mk r2 q2 =>
  rw [hr] at h
  cases r2 with
  | none => cases h
  | some rs =>
  simp only [Prod.mk.injEq, Option.some.injEq] at h
  obtain ⟨⟨rfl, rfl⟩, rfl⟩ := h
  cases q with
  | ok i => exact ⟨3, i, q2, rfl, hv, hr⟩
  | error p =>
    exfalso
    exact qVars_notbad 3 0 [] _ _ hv
end

theorem qFirst_fOf (s : ByteArray) (g : Nat) : ∀ (m v : Nat) (t : T) (acc : List Nat), 4 ≤ v + m → v ≤ 3 → qFirst s m v t.at_ (acc ++ [v]) = (acc ++ fOf s m v t.at_, .ok (pFirst s g m v t).at_)
  | 0, v, t, acc, h, h3 => by omega
  | m + 1, v, t, acc, h, h3 => by
    have hbl : ∀ t : T, (if g < v then t.blame 4 else t).at_ = t.at_ := fun t => by
      split
      · exact (blame_same t 4).1
      · rfl
    unfold qFirst fOf pFirst
    cases hd : num? s t.at_ 48 (v + 1) 3 with
    | none => simp only; rw [hbl]
    | some v' =>
      have hv := num_le hd
      simp only
      have e : (if g < v then t.blame 4 else t).adv.at_ = t.at_ + 1 := by show _ + 1 = _; rw [hbl]
      have := qFirst_fOf s g m v' (if g < v then t.blame 4 else t).adv (acc ++ [v]) (by omega) hv.2
      rw [e] at this
      rw [this]; simp
theorem tmOf_q {s : ByteArray} {i : Nat} {a : Tm} {q : Q} (h : qTerm s (.ok i) = (some a, q)) : a = tmOf s i := by
  unfold qTerm at h
  unfold tmOf
  cases h1 : num? s i 97 0 2 with
  | some k =>
    have e : qNum s (.ok i) 97 2 = some k := h1
    rw [e] at h
    simp only [Prod.mk.injEq, Option.some.injEq, Q.pos] at h
    exact h.1.symm
  | none =>
    have e : qNum s (.ok i) 97 2 = none := h1
    rw [e] at h
    simp only at h
    cases h2 : num? s i 48 0 3 with
    | none =>
      have e : qNum s (.ok i) 48 3 = none := h2
      rw [e] at h; simp at h
    | some k =>
      have e : qNum s (.ok i) 48 3 = some k := h2
      rw [e] at h
      simp only [Prod.mk.injEq, Option.some.injEq, Q.pos] at h
      exact h.1.symm
theorem cdOf_q {s : ByteArray} {i : Nat} {c : Tm × Tm} {q : Q} (h : qCond s (.ok i) = (some c, q)) : c = cdOf s i := by
  unfold qCond at h
  cases h1 : qTerm s (.ok i) with
  | mk r q1 =>
  rw [h1] at h
  cases r with
  | none => simp at h
  | some a =>
  obtain ⟨i1, rfl⟩ := qTerm_some h1
  obtain ⟨j1, e1, _, rfl⟩ := qTerm_at h1
  cases e1
  simp only at h
  cases hop : qOp s (.ok (i + 1)) with
  | false => rw [hop] at h; simp at h
  | true =>
  rw [hop] at h
  simp only [if_true, Q.adv] at h
  cases h2 : qTerm s (.ok (i + 1 + 1)) with
  | mk r2 q2 =>
  rw [h2] at h
  cases r2 with
  | none => simp at h
  | some b =>
  simp only [Prod.mk.injEq, Option.some.injEq] at h
  rw [← h.1, tmOf_q h1, tmOf_q h2]; rfl
theorem pCond_at {s : ByteArray} {t t' : T} (h : pCond s t = (true, t')) : t'.at_ = t.at_ + 3 := by
  unfold pCond at h
  split at h
  · cases h
  · next t1 e1 =>
    have s1 := (pTerm_same e1).1
    split at h
    · cases h
    · next t2 e2 =>
      obtain ⟨rfl, _⟩ := pCmp_same e2
      have n2 : t1.adv.at_ = t1.at_ + 1 := rfl
      split at h
      · cases h
      · next t3 e3 =>
        have s3 := (pTerm_same e3).1
        cases h; omega
theorem chOf_q {s : ByteArray} {t t' : T} {d : Chg} {j : Nat} (hq : qChange s (.ok t.at_) = (some d, .ok j)) (h : pChange s t = (true, t')) : d = chOf s t.at_ ∧ j = t'.at_ := by
  unfold qChange at hq
  unfold pChange at h
  cases h1 : num? s t.at_ 97 0 2 with
  | none => rw [h1] at h; simp at h
  | some k =>
  have e1 : qNum s (.ok t.at_) 97 2 = some k := h1
  rw [e1] at hq
  rw [h1] at h
  simp only [Q.adv, Q.pos] at hq h
  have a1 : ((t.named k).marked k).at_ = t.at_ + 1 := by rw [(marked_same _ _).1, (named_same t k).1]
  generalize (t.named k).marked k = t2 at h a1
  cases h2 : num? s (t.at_ + 1) 61 0 0 with
  | none =>
    have e2 : qNum s (.ok (t.at_ + 1)) 61 0 = none := h2
    rw [e2] at hq; simp at hq
  | some k2 =>
  have e2 : qNum s (.ok (t.at_ + 1)) 61 0 = some k2 := h2
  rw [e2] at hq
  rw [a1, h2] at h
  simp only at hq h
  have a2 : t2.adv.at_ = t.at_ + 2 := by show t2.at_ + 1 = _; omega
  have hby := num_byte h1
  have hbk : byteAt s t.at_ - 97 = k := by omega
  unfold pTo at h
  rw [a2] at h
  cases h3 : num? s (t.at_ + 2) 63 0 0 with
  | some k3 =>
    have e3 : qNum s (.ok (t.at_ + 1 + 1)) 63 0 = some k3 := h3
    rw [e3] at hq
    rw [h3] at h
    simp only [Prod.mk.injEq, Option.some.injEq, Except.ok.injEq] at hq h
    refine ⟨?_, ?_⟩
    · unfold chOf; rw [h3, ← hq.1]; simp only; rw [hbk]
    · rw [← hq.2, ← h.2]; show t.at_ + 1 + 1 + 1 = t2.at_ + 1 + 1; omega
  | none =>
    have e3 : qNum s (.ok (t.at_ + 1 + 1)) 63 0 = none := h3
    rw [e3] at hq
    rw [h3] at h
    simp only at hq h
    cases h4 : qTerm s (.ok (t.at_ + 1 + 1)) with
    | mk r q4 =>
    rw [h4] at hq
    cases r with
    | none => simp at hq
    | some a =>
    obtain ⟨i4, rfl⟩ := qTerm_some h4
    obtain ⟨j4, e4, _, rfl⟩ := qTerm_at h4
    cases e4
    simp only at hq
    have hch : chOf s t.at_ = ((k : Int), (t.at_ : Int), false, a) := by
      unfold chOf; rw [h3]; simp only; rw [hbk, tmOf_q h4]
    cases h5 : pTerm s t2.adv with
    | none => rw [h5] at h; simp at h
    | some t3 =>
    have s5 := (pTerm_same h5).1
    rw [h5] at h
    simp only at h
    have a5 : t3.at_ = t.at_ + 1 + 1 + 1 := by omega
    rw [a5] at h
    cases h6 : num? s (t.at_ + 1 + 1 + 1) 43 0 0 with
    | none =>
      have e6 : qNum s (.ok (t.at_ + 1 + 1 + 1)) 43 0 = none := h6
      rw [e6] at hq
      rw [h6] at h
      simp only [Prod.mk.injEq, Option.some.injEq, Except.ok.injEq] at hq h
      exact ⟨by rw [hch, ← hq.1], by rw [← hq.2, ← h.2, a5]⟩
    | some k6 =>
      have e6 : qNum s (.ok (t.at_ + 1 + 1 + 1)) 43 0 = some k6 := h6
      rw [e6] at hq
      rw [h6] at h
      simp only at hq h
      have a6 : t3.adv.at_ = t.at_ + 1 + 1 + 1 + 1 := by show t3.at_ + 1 = _; omega
      rw [a6] at h
      cases h7 : num? s (t.at_ + 1 + 1 + 1 + 1) 48 0 3 with
      | none => rw [h7] at h; simp at h
      | some k7 =>
        have e7 : qNum s (.ok (t.at_ + 1 + 1 + 1 + 1)) 48 3 = some k7 := h7
        rw [e7] at hq
        rw [h7] at h
        simp only [Prod.mk.injEq, Option.some.injEq, Except.ok.injEq] at hq h
        exact ⟨by rw [hch, ← hq.1], by rw [← hq.2, ← h.2]; show t.at_ + 1 + 1 + 1 + 1 + 1 = t3.at_ + 1 + 1; omega⟩

def v2 (v : VA) : V2 := (v.1, v.2.1)
/-- A good model: what is left at each label. -/
def GP (s : ByteArray) (va : List VA) (ra : List RA) (l : Nat) (t : T) (vs : List V2) (cl : List (Tm × Tm)) (dl : List Chg) (rl : List RA) : Prop :=
  (l = 1 ∧ ∃ acc : List VA, acc.length = t.n ∧ acc.length < 3 ∧ vs = acc.map v2 ∧ LeftV s va ra acc t.at_) ∨
  (l = 2 ∧ vs = va.map v2 ∧ LeftR s ra rl t.at_) ∨ (l = 3 ∧ vs = va.map v2 ∧ LeftD s ra rl cl dl t.at_) ∨ (l = 4 ∧ vs = va.map v2 ∧ LeftC s ra rl cl t.at_)
theorem GP.one {s : ByteArray} {va : List VA} {ra rl : List RA} {t t' : T} {vs : List V2} {cl : List (Tm × Tm)} {dl : List Chg} (h : GP s va ra 1 t vs cl dl rl) (hp : pVar s t = (true, t')) :
    ∃ (acc : List VA) (v : VA), acc.length = t.n ∧ acc.length < 3 ∧ vs = acc.map v2 ∧ vOf s t.at_ = v2 v ∧ t'.n = t.n + 1 ∧
      (acc.length + 1 < 3 → (∀ k, num? s t'.at_ 44 0 0 = some k → LeftV s va ra (acc ++ [v]) (t'.at_ + 1)) ∧ (num? s t'.at_ 44 0 0 = none → va = acc ++ [v] ∧ LeftR s ra [] t'.at_)) ∧
      (¬ acc.length + 1 < 3 → va = acc ++ [v] ∧ LeftR s ra [] t'.at_) := by
  rcases h with ⟨_, acc, h1, h3, hvs, hL⟩ | ⟨h, _⟩ | ⟨h, _⟩ | ⟨h, _⟩
  · obtain ⟨g, a0, j, l, hq, hin, hget, hij, hjs, hA, hZ⟩ := leftV hL h3
    obtain ⟨k1, k3, v0, g1, g2, g3, g4, hF⟩ := qVar_parts hq
    have hva : va.length = acc.length + 1 → va = acc ++ [(g, l, a0)] := fun hl => by
      obtain ⟨f, i0, q', _, hqv, _⟩ := hL
      obtain ⟨r, e⟩ := qVars_pre _ _ _ _ _ hqv
      have hr : r.length = 1 := by rw [e] at hl; simp at hl; omega
      obtain ⟨y, rfl⟩ : ∃ y, r = [y] := by
        cases r with
        | nil => simp at hr
        | cons y r => cases r with
          | nil => exact ⟨y, rfl⟩
          | cons _ _ => simp at hr
      rw [e] at hget
      simp [List.getD] at hget
      rw [e, hget]
    rw [h1] at g1
    have e0 := num_le g4
    have hp' := hp
    unfold pVar at hp'
    have n1 : t.adv.at_ = t.at_ + 1 := rfl
    have n2 : t.adv.adv.at_ = t.at_ + 2 := rfl
    have n3 : t.adv.adv.adv.at_ = t.at_ + 3 := rfl
    have n4 : t.adv.adv.adv.adv.at_ = t.at_ + 4 := rfl
    rw [g1] at hp'
    simp only [n1, n2, n3, g2, g3, g4, Prod.mk.injEq, true_and] at hp'
    have hFF := qFirst_fOf s g 4 v0 t.adv.adv.adv.adv [] (by omega) e0.2
    rw [n4] at hFF
    simp only [List.nil_append] at hFF
    rw [hF] at hFF
    simp only [Prod.mk.injEq, Except.ok.injEq] at hFF
    have hat : t'.at_ = j := by rw [← hp', hFF.2]
    have hn : t'.n = t.n + 1 := by rw [← hp']
    refine ⟨acc, (g, l, a0), h1, h3, hvs, ?_, hn, fun h => ?_, fun h => ?_⟩
    · rw [vOf_eq g2 g4 rfl]; simp [v2, hFF.1]
    · rw [hat]
      exact ⟨(hA h).1, fun hk => ⟨hva ((hA h).2 hk).1, ((hA h).2 hk).2⟩⟩
    · rw [hat]; exact ⟨hva (hZ h).1, (hZ h).2⟩
  · cases h
  · cases h
  · cases h
theorem GP.ghost {s : ByteArray} (va : List VA) (ra : List RA) (hs : s.size ≤ 120) : Ghost s (GP s va ra) where
  v1 := fun {t t' vs k} h hp hn hk => by
    obtain ⟨acc, v, h1, h3, hvs, hv, hn', hA, _⟩ := h.one hp
    exact .inl ⟨rfl, acc ++ [v], by simp [h1]; show _ = t'.n; omega, by simp; omega, by rw [hvs, hv]; simp, (hA (by omega)).1 k hk⟩
  v2 := fun {t t' vs} h hp hk => by
    obtain ⟨acc, v, h1, h3, hvs, hv, hn', hA, hZ⟩ := h.one hp
    by_cases h4 : acc.length + 1 < 3
    · obtain ⟨e1, e2⟩ := (hA h4).2 (hk (by omega))
      exact .inr (.inl ⟨rfl, by rw [hvs, hv, e1]; simp, e2⟩)
    · obtain ⟨e1, e2⟩ := hZ h4
      exact .inr (.inl ⟨rfl, by rw [hvs, hv, e1]; simp, e2⟩)
  r3 := fun {t vs rl k k2} h h1 h2 => by
    rcases h with ⟨h, _⟩ | ⟨_, hvs, hL⟩ | ⟨h, _⟩ | ⟨h, _⟩
    · cases h
    · rcases leftR hs (Nat.le_of_lt (num_lt h1)) hL with ⟨e, _⟩ | ⟨_, _, k', _, (⟨k2', _, hD⟩ | ⟨e, _⟩)⟩
      · have := num_lt h1; omega
      · exact .inr (.inr (.inl ⟨rfl, hvs, hD⟩))
      · have e' : num? s t.adv.at_ 58 0 0 = none := e
        rw [e'] at h2; cases h2
    · cases h
    · cases h
  r4 := fun {t vs rl k} h h1 h2 => by
    rcases h with ⟨h, _⟩ | ⟨_, hvs, hL⟩ | ⟨h, _⟩ | ⟨h, _⟩
    · cases h
    · rcases leftR hs (Nat.le_of_lt (num_lt h1)) hL with ⟨e, _⟩ | ⟨_, _, k', _, (⟨k2', e, _⟩ | ⟨_, hC⟩)⟩
      · have := num_lt h1; omega
      · have e' : num? s t.adv.at_ 58 0 0 = some k2' := e
        rw [e'] at h2; cases h2
      · exact .inr (.inr (.inr ⟨rfl, hvs, hC⟩))
    · cases h
    · cases h
  c4 := fun {t t' vs cl rl k} h hp hk => by
    rcases h with ⟨h, _⟩ | ⟨h, _⟩ | ⟨h, _⟩ | ⟨_, hvs, hL⟩
    · cases h
    · cases h
    · cases h
    · obtain ⟨c, hc, _, _, hA, _⟩ := leftC hL
      have ha := pCond_at hp
      rw [ha] at hk
      have := hA k hk
      rw [cdOf_q hc] at this
      exact .inr (.inr (.inr ⟨rfl, hvs, by show LeftC s ra rl _ (t'.at_ + 1); rw [ha]; exact this⟩))
  c3 := fun {t t' vs cl rl k} h hp hk h2 => by
    rcases h with ⟨h, _⟩ | ⟨h, _⟩ | ⟨h, _⟩ | ⟨_, hvs, hL⟩
    · cases h
    · cases h
    · cases h
    · obtain ⟨c, hc, _, _, _, hB⟩ := leftC hL
      have ha := pCond_at hp
      rw [ha] at hk
      obtain ⟨_, _, hD⟩ := hB hk
      rw [cdOf_q hc] at hD
      exact .inr (.inr (.inl ⟨rfl, hvs, by show LeftD s ra rl _ [] (t'.at_ + 1); rw [ha]; exact hD⟩))
  d3 := fun {t t' vs cl dl rl k} h hp hk => by
    rcases h with ⟨h, _⟩ | ⟨h, _⟩ | ⟨_, hvs, hL⟩ | ⟨h, _⟩
    · cases h
    · cases h
    · obtain ⟨d, j, hd, _, _, _, hA, _⟩ := leftD hL
      obtain ⟨rfl, rfl⟩ := chOf_q hd hp
      exact .inr (.inr (.inl ⟨rfl, hvs, hA k hk⟩))
    · cases h
  d2 := fun {t t' vs cl dl rl} h hp hk => by
    rcases h with ⟨h, _⟩ | ⟨h, _⟩ | ⟨_, hvs, hL⟩ | ⟨h, _⟩
    · cases h
    · cases h
    · obtain ⟨d, j, hd, _, _, _, _, hB⟩ := leftD hL
      obtain ⟨rfl, rfl⟩ := chOf_q hd hp
      exact .inr (.inl ⟨rfl, hvs, hB hk⟩)
    · cases h
/-- At the end all has been read. -/
theorem GP.all {s : ByteArray} {va : List VA} {ra rl : List RA} {t : T} {vs : List V2} (hs : s.size ≤ 120) (h : GP s va ra 2 t vs [] [] rl) (he : t.at_ = s.size) : vs = va.map v2 ∧ rl = ra := by
  rcases h with ⟨h, _⟩ | ⟨_, hvs, hL⟩ | ⟨h, _⟩ | ⟨h, _⟩
  · cases h
  · rcases leftR hs (by omega) hL with ⟨_, e⟩ | ⟨e, _⟩
    · exact ⟨hvs, e.symm⟩
    · omega
  · cases h
  · cases h
end Go.Proofs.YtgoebckimmofoaaGreatDoor

/- The code's First and Next. Our own text. -/
namespace Go.Proofs.YtgoebckimmofoaaGreatDoor
open Go.RowKit Go.Lib

def GvA (va : List VA) (k : Nat) : Nat := Gv (va.map v2) k
theorem getD_v2 (va : List VA) (k : Nat) : (va.map v2).getD k (0, []) = v2 (va.getD k (0, [], 0)) := by
  by_cases h : k < va.length
  · simp [List.getD, h]
  · simp [List.getD, List.getElem?_eq_none (Nat.le_of_not_lt h), v2]
def fN (x : Junk) (k : Nat) : Nat := (x.f k).toNat
theorem GF.three {va : List VA} {x : Junk} (h : GF (va.map v2) x) : ∀ k, k < 3 → x.g k = (GvA va k : Int) ∧ x.f k = (fN x k : Int) ∧ BitsL (fN x k) (va.getD k (0, [], 0)).2.1 := by
  intro k hk
  refine ⟨h.g hk, ?_⟩
  by_cases hl : k < va.length
  · obtain ⟨_, f, h2, h4⟩ := h.v k (by simpa using hl)
    rw [getD_v2] at h4
    have e : fN x k = f := by unfold fN; rw [h2]; exact Int.toNat_natCast f
    exact ⟨by rw [e]; exact h2, by rw [e]; exact h4⟩
  · obtain ⟨_, h2⟩ := h.z k (by simpa using hl) hk
    have e : fN x k = 0 := by unfold fN; rw [h2]; rfl
    have e2 : va.getD k (0, [], 0) = (0, [], 0) := by simp [List.getD, List.getElem?_eq_none (Nat.le_of_not_lt hl)]
    exact ⟨by rw [e, h2]; rfl, by rw [e, e2]; exact BitsL.nil⟩
theorem fN_lt {va : List VA} {x : Junk} (h : GF (va.map v2) x) (k : Nat) : fN x k < 16 := by
  by_cases hk : k < 3
  · exact (h.three k hk).2.2.1
  · have : fN x k = fN x 2 := by
      unfold fN Junk.f
      split <;> first | omega | rfl
    rw [this]; exact (h.three 2 (by omega)).2.2.1
theorem Gv_le {va : List VA} {ra : List RA} (h : GoodA va ra) (k : Nat) : GvA va k ≤ 3 := by
  unfold GvA Gv
  rw [getD_v2]
  by_cases hl : k < va.length
  · have e' : va.getD k (0, [], 0) = va[k] := by simp [List.getD, hl]
    rw [e']; exact (h.v _ (List.getElem_mem hl)).1.2
  · have e2 : va.getD k (0, [], 0) = (0, [], 0) := by simp [List.getD, List.getElem?_eq_none (Nat.le_of_not_lt hl)]
    rw [e2]; exact Nat.zero_le _
theorem mc_of {va : List VA} {t : T} {x : Junk} {M : Nat} {W : World} (h : GF (va.map v2) x) (hn : t.n = va.length) (hb : W.heap[M]? = some (.cells (mblk t x) 113 (0, 0))) : MC M (GvA va) (fN x) va.length W := by
  have h3 := h.three
  refine ⟨fun k hk => ?_, by simp [World.cell?, hb, mblk, hn]⟩
  obtain ⟨a, b, _⟩ := h3 k hk
  have hc : k = 0 ∨ k = 1 ∨ k = 2 := by omega
  rw [← a, ← b]
  rcases hc with rfl | rfl | rfl <;> simp [World.cell?, hb, mblk, Junk.g, Junk.f]
theorem rcheck_good {s : ByteArray} (h0 : (rCheck s).1 = 0) : s.size ≤ 120 ∧ (rCheck s).2 = 0 ∧ ∃ va ra q, qRead s = (some (va, ra), q) ∧ (wrongP va ra).1 = 0 := by
  obtain ⟨hle, va, ra, q', hq, hw⟩ := rCheck_ok h0
  refine ⟨hle, ?_, va, ra, q', hq, hw⟩
  unfold rCheck
  rw [if_neg (by omega), hq]
  obtain ⟨e1, e2⟩ := wrong_none hw
  show (wrongP va ra).2 = 0
  unfold wrongP
  rw [e1, e2]; rfl

/-- How readModel ends of a good model: the machine lies in block M, and its rules mean what the document's do. -/
structure GR (s : ByteArray) (va : List VA) (ra : List RA) (w w' : World) (M : Nat) (f : Nat → Nat) (ao : Option Addr) (cap N : Nat) (vals : List Value) : Prop where
  lo : w.heap.size ≤ M
  hi : M < w'.heap.size
  mc : MC M (GvA va) f va.length w'
  f16 : ∀ k, f k < 16
  fb : ∀ k, k < 3 → BitsL (f k) (va.getD k (0, [], 0)).2.1
  c7 : w'.cell? ⟨M, 7, none⟩ = some (.slice ao ra.length cap)
  row : w'.ownsRow w.heap.size 149 1 (.slice ao ra.length cap) ra.length vals
  mean : All2 (fun v r => FnK N w' v (fun y => .int .u64 (ruP s (GvA va) r y : Nat))) vals ra
  l8 : ra.length ≤ 8
  below : Below w.heap.size w w'
/-- readModel of a bad model. -/
theorem bread (s : ByteArray) (w : World) (hsz : s.size ≤ maxLen) : Calls Tryz.prog 28 #[.string s] w fun e w' => (∃ ao, e = .returned (.tuple #[.pointer ao, .int .i64 ((rCheck s).1 : Nat), .int .i64 (rCheck s).2])) ∧ Below w.heap.size w w' := by
  rw [← check_same s]
  refine (readModel_bad s w hsz).mono ?_
  rintro e w1 ⟨hb, (⟨_, ao, rfl⟩ | ⟨h0, _, M, _, _, _, _, _, rfl, _⟩)⟩
  · exact ⟨⟨ao, rfl⟩, hb⟩
  · exact ⟨⟨_, by show _ = Ending.returned (.tuple #[_, .int .i64 ((pCheck s).1 : Nat), .int .i64 ((pCheck s).2 : Int)]); rw [h0]; rfl⟩, hb⟩

end Go.Proofs.YtgoebckimmofoaaGreatDoor

/- The code: which state of a lasso may not stand where it does. Our own text. -/
namespace Go.Proofs.YtgoebckimmofoaaGreatDoor
open Go.RowKit Go.Lib

theorem GR.up {s : ByteArray} {va : List VA} {ra : List RA} {w w1 W : World} {M : Nat} {f : Nat → Nat} {ao : Option Addr} {cap N : Nat} {vals : List Value} (h : GR s va ra w w1 M f ao cap N vals) (hb : Below w1.heap.size w1 W) : GR s va ra w W M f ao cap N vals :=
  ⟨h.lo, Nat.lt_of_lt_of_le h.hi hb.size, h.mc.below hb h.hi, h.f16, h.fb, (hb.cell (p := ⟨M, 7, none⟩) h.hi).trans h.c7, hb.ownsRow' h.row, h.mean.mono (fun _ _ g => g.kp (Kp.of_below hb)), h.l8, h.below.trans (hb.mono h.below.size)⟩

def u8s (l : List Nat) : List Value := l.map (fun y => Value.int .u8 (y : Nat))
theorem u8s_flat : ∀ l : List Nat, u8s l = l.flatMap (fun y => [Value.int .u8 (y : Nat)])
  | [] => rfl
  | a :: l => by
    have := u8s_flat l
    unfold u8s at *
    simp [this]
theorem info64s : (Tryz.prog.info? 69).map (fun i => (i.zero, i.size, i.bytes)) = some (some (.int .u8 0), 1, 1) := by kernel_rfl
end Go.Proofs.YtgoebckimmofoaaGreatDoor

/- The code: the states of a lasso's list. Our own text. -/
namespace Go.Proofs.YtgoebckimmofoaaGreatDoor
open Go.RowKit Go.Lib

theorem made_u8s (n : Nat) : (madeCells #[Value.int .u8 0] n).toList = u8s (List.replicate n 0) := by
  apply List.ext_getElem
  · simp [madeCells, u8s]
  · intro i h1 h2
    simp [madeCells, u8s, Nat.mod_one]
theorem u8s_set (l : List Nat) (i x : Nat) : (u8s l).set i (.int .u8 (x : Nat)) = u8s (l.set i x) := by simp [u8s, List.map_set]
theorem fill_next (xs : List Nat) (k x : Nat) : (xs ++ List.replicate (k + 1) 0).set xs.length x = (xs ++ [x]) ++ List.replicate k 0 := by
  simp [List.replicate_succ]

theorem IsS.okS {st : ByteArray} {n : Nat} {g : Nat → Nat} {x : Nat} (h : IsS st n g x) : OkS st n g :=
  ⟨h.2.1, fun k hk => by have := h.2.2.1 k hk; omega⟩
/-- How lasso ends. -/
def LassoPost (L : List ByteArray) (loop : Int) (n : Nat) (g : Nat → Nat) (W : World) (e : Ending) (w' : World) : Prop :=
  Below W.heap.size W w' ∧
  ((7000 < L.length ∧ e = .returned (.tuple #[.slice none 0 0, .int .i64 1, .int .i64 0])) ∨
   (L.length ≤ 7000 ∧ ∃ (i : Nat) (hi : i < L.length), ¬ OkS L[i] n g ∧ (∀ j (hj : j < i), OkS (L[j]'(Nat.lt_trans hj hi)) n g) ∧ e = .returned (.tuple #[.slice none 0 0, .int .i64 8, .int .i64 (i : Nat)])) ∨
   (L.length ≤ 7000 ∧ (∀ s ∈ L, OkS s n g) ∧ ¬ (0 ≤ loop ∧ loop < (L.length : Int)) ∧ e = .returned (.tuple #[.slice none 0 0, .int .i64 9, .int .i64 0])) ∨
   (L.length ≤ 7000 ∧ 0 ≤ loop ∧ loop < (L.length : Int) ∧ ∃ (xs : List Nat) (v : Value) (hx : xs.length = L.length), (∀ i (hi : i < L.length), IsS L[i] n g (xs[i]'(by omega))) ∧ w'.ownsRow W.heap.size 69 1 v xs.length (u8s xs) ∧ e = .returned (.tuple #[v, .int .i64 0, .int .i64 0])))

end Go.Proofs.YtgoebckimmofoaaGreatDoor

/- The document's reader of formulas: its block, what it reads, as a function of the text. Our own text. -/
namespace Go.Proofs.YtgoebckimmofoaaGreatDoor
open Go.RowKit Go.Lib

/-- A formula: its sign, its condition (if that is what it is), what it is made of. -/
structure Fm where
  o : Nat
  c : Tm × Tm
  n : Nat
  kid : Fin n → Fm
def Fm.tt : Fm := ⟨84, ((0, 0, 0), (0, 0, 0)), 0, fun i => i.elim0⟩
def Fm.cond (c : Tm × Tm) : Fm := ⟨99, c, 0, fun i => i.elim0⟩
def Fm.un (o : Nat) (a : Fm) : Fm := ⟨o, ((0, 0, 0), (0, 0, 0)), 1, fun _ => a⟩
def Fm.bin (o : Nat) (a b : Fm) : Fm := ⟨o, ((0, 0, 0), (0, 0, 0)), 2, fun i => if i.val = 0 then a else b⟩
/-- Where the reader of formulas is: the first bracket too many, how many are open, how many signs of time. -/
structure FSt where
  q : Q
  deep : Int
  opn : Nat
  wgt : Nat
def FSt.adv (x : FSt) : FSt := { x with q := x.q.adv }
def FSt.hvy (x : FSt) : FSt := { x with wgt := x.wgt + 1 }
def FSt.in (x : FSt) : FSt := { x with opn := x.opn + 1, deep := if 10 < x.opn + 1 ∧ x.deep < 0 then (x.q.pos : Int) - 1 else x.deep }
def isC (s : ByteArray) (q : Q) (c : Nat) : Bool := (qNum s q c 0).isSome
/-- What is read: 3 a formula, 2 an 'and', 1 a pair, 0 one. -/
def pF (s : ByteArray) : Nat → Nat → FSt → Fm × FSt
  | 0, _, x => (.tt, x)
  | n + 1, 0, x =>
    if isC s x.q 33 then (.un 33 (pF s n 0 x.adv).1, (pF s n 0 x.adv).2)
    else if isC s x.q 88 then (.un 88 (pF s n 0 x.adv.hvy).1, (pF s n 0 x.adv.hvy).2)
    else if isC s x.q 70 then (.un 70 (pF s n 0 x.adv.hvy).1, (pF s n 0 x.adv.hvy).2)
    else if isC s x.q 71 then (.un 71 (pF s n 0 x.adv.hvy).1, (pF s n 0 x.adv.hvy).2)
    else if isC s x.q 84 then (.tt, x.adv)
    else if isC s x.q 40 then
      let r := pF s n 3 x.adv.in
      (r.1, { r.2 with q := qMust s r.2.q 41, opn := x.opn })
    else match qCond s x.q with
      | (some c, q') => (.cond c, { x with q := q' })
      | (none, q') => (.tt, { x with q := q' })
  | n + 1, 1, x =>
    let r := pF s n 0 x
    if isC s r.2.q 85 then (.bin 85 r.1 (pF s n 0 r.2.adv.hvy).1, (pF s n 0 r.2.adv.hvy).2)
    else if isC s r.2.q 82 then (.bin 82 r.1 (pF s n 0 r.2.adv.hvy).1, (pF s n 0 r.2.adv.hvy).2)
    else if isC s r.2.q 87 then (.bin 87 r.1 (pF s n 0 r.2.adv.hvy).1, (pF s n 0 r.2.adv.hvy).2)
    else r
  | n + 1, 2, x =>
    let r := pF s n 1 x
    if isC s r.2.q 38 then (.bin 38 r.1 (pF s n 2 r.2.adv).1, (pF s n 2 r.2.adv).2) else r
  | n + 1, _ + 3, x =>
    let r := pF s n 2 x
    if isC s r.2.q 124 then (.bin 124 r.1 (pF s n 3 r.2.adv).1, (pF s n 3 r.2.adv).2) else r
theorem pF0 (s : ByteArray) (n : Nat) (x : FSt) : pF s (n + 1) 0 x =
    (if isC s x.q 33 then (.un 33 (pF s n 0 x.adv).1, (pF s n 0 x.adv).2)
      else if isC s x.q 88 then (.un 88 (pF s n 0 x.adv.hvy).1, (pF s n 0 x.adv.hvy).2)
      else if isC s x.q 70 then (.un 70 (pF s n 0 x.adv.hvy).1, (pF s n 0 x.adv.hvy).2)
      else if isC s x.q 71 then (.un 71 (pF s n 0 x.adv.hvy).1, (pF s n 0 x.adv.hvy).2)
      else if isC s x.q 84 then (.tt, x.adv)
      else if isC s x.q 40 then
        let r := pF s n 3 x.adv.in
        (r.1, { r.2 with q := qMust s r.2.q 41, opn := x.opn })
      else match qCond s x.q with
        | (some c, q') => (.cond c, { x with q := q' })
        | (none, q') => (.tt, { x with q := q' })) := rfl
theorem pF1 (s : ByteArray) (n : Nat) (x : FSt) : pF s (n + 1) 1 x =
    (let r := pF s n 0 x
      if isC s r.2.q 85 then (.bin 85 r.1 (pF s n 0 r.2.adv.hvy).1, (pF s n 0 r.2.adv.hvy).2)
      else if isC s r.2.q 82 then (.bin 82 r.1 (pF s n 0 r.2.adv.hvy).1, (pF s n 0 r.2.adv.hvy).2)
      else if isC s r.2.q 87 then (.bin 87 r.1 (pF s n 0 r.2.adv.hvy).1, (pF s n 0 r.2.adv.hvy).2)
      else r) := rfl
theorem pF2 (s : ByteArray) (n : Nat) (x : FSt) : pF s (n + 1) 2 x =
    (let r := pF s n 1 x
      if isC s r.2.q 38 then (.bin 38 r.1 (pF s n 2 r.2.adv).1, (pF s n 2 r.2.adv).2) else r) := rfl
theorem pF3 (s : ByteArray) (n m : Nat) (x : FSt) : pF s (n + 1) (m + 3) x =
    (let r := pF s n 2 x
      if isC s r.2.q 124 then (.bin 124 r.1 (pF s n 3 r.2.adv).1, (pF s n 3 r.2.adv).2) else r) := rfl

/-- How far the reader has come at most. -/
def Q.top (q : Q) (s : ByteArray) : Nat := match q with
  | .ok i => i
  | .error _ => s.size
/-- The reader of formulas in block P, its reader in block B. -/
structure FB (B P : Nat) (s : ByteArray) (x : FSt) (w : World) : Prop where
  r : RS B s x.q w
  p : w.heap[P]? = some (.cells #[.pointer (some ⟨B, 0, none⟩), .int .i64 x.deep, .int .i64 x.opn, .int .i64 x.wgt] 98 (0, 0))
  ne : B ≠ P
  o : x.opn ≤ 1000 + x.q.top s
  g : x.wgt ≤ x.q.top s
theorem isC_some {s : ByteArray} {q : Q} {c : Nat} (h : isC s q c = true) : ∃ k, qNum s q c 0 = some k := by
  unfold isC at h; exact Option.isSome_iff_exists.1 h
theorem isC_none {s : ByteArray} {q : Q} {c : Nat} (h : isC s q c = false) : qNum s q c 0 = none := by
  unfold isC at h; simpa using h
theorem isC_ok {s : ByteArray} {q : Q} {c : Nat} (h : isC s q c = true) : ∃ i, q = .ok i ∧ i < s.size := by
  obtain ⟨k, hk⟩ := isC_some h
  cases q with
  | ok i => exact ⟨i, rfl, num_lt hk⟩
  | error p => cases hk

/-- The 9 cells of a formula's node. -/
def z7 : List Value := [.int .i64 0, .int .i64 0, .int .i64 0, .int .i64 0, .int .i64 0, .int .i64 0, .int .u8 0]
def c7 (s : ByteArray) (c : Tm × Tm) : List Value := [.int .i64 c.1.1, .int .i64 c.1.2.1, .int .i64 c.1.2.2, .int .i64 c.2.1, .int .i64 c.2.2.1, .int .i64 c.2.2.2, .int .u8 (byteAt s (c.1.2.2.toNat + 1))]
/-- The cells of a node mean a formula; all blocks that it reaches are L or above. -/
def NV (L : Nat) (s : ByteArray) (w : World) : Fm → List Value → Prop
  | ⟨o, c, 0, _⟩, vs => vs = .int .u8 o :: (if o = 99 then c7 s c else z7) ++ [.slice none 0 0]
  | ⟨o, _, 1, k⟩, vs => ∃ (b cap : Nat) (us : List Value), vs = .int .u8 o :: z7 ++ [.slice (some ⟨b, 0, none⟩) 1 cap] ∧ L ≤ b ∧ w.heap[b]? = some (.cells us.toArray 90 (0, 0)) ∧ NV L s w (k 0) us
  | ⟨o, _, 2, k⟩, vs => ∃ (b cap : Nat) (us ts : List Value), vs = .int .u8 o :: z7 ++ [.slice (some ⟨b, 0, none⟩) 2 cap] ∧ L ≤ b ∧ w.heap[b]? = some (.cells (us ++ ts).toArray 90 (0, 0)) ∧ NV L s w (k 0) us ∧ NV L s w (k 1) ts
  | ⟨_, _, _ + 3, _⟩, _ => False
theorem NV.len {L : Nat} {s : ByteArray} {w : World} : ∀ {t : Fm} {vs : List Value}, NV L s w t vs → vs.length = 9
  | ⟨o, c, 0, _⟩, _, h => by rw [h]; by_cases ho : o = 99 <;> simp [ho, c7, z7]
  | ⟨_, _, 1, _⟩, _, ⟨_, _, _, e, _⟩ => by rw [e]; rfl
  | ⟨_, _, 2, _⟩, _, ⟨_, _, _, _, e, _⟩ => by rw [e]; rfl
  | ⟨_, _, _ + 3, _⟩, _, h => False.elim h
theorem NV.keep {L L' : Nat} {s : ByteArray} {w w' : World} (hL : L' ≤ L) (hx : ∀ k, L ≤ k → k < w.heap.size → w'.heap[k]? = w.heap[k]?) : ∀ {t : Fm} {vs : List Value}, NV L s w t vs → NV L' s w' t vs
  | ⟨_, _, 0, _⟩, _, h => h
  | ⟨_, _, 1, _⟩, _, ⟨b, cap, us, e, h1, h3, h4⟩ => ⟨b, cap, us, e, Nat.le_trans hL h1, (hx b h1 (lt_of_block h3)).trans h3, NV.keep hL hx h4⟩
  | ⟨_, _, 2, _⟩, _, ⟨b, cap, us, ts, e, h1, h3, h4, h5⟩ => ⟨b, cap, us, ts, e, Nat.le_trans hL h1, (hx b h1 (lt_of_block h3)).trans h3, NV.keep hL hx h4, NV.keep hL hx h5⟩
  | ⟨_, _, _ + 3, _⟩, _, h => False.elim h

/-- What each of the four answers. -/
def FPost (B P : Nat) (s : ByteArray) (r : Fm × FSt) (w : World) (e : Ending) (w' : World) : Prop :=
  (∃ (o a0 a1 a2 b0 b1 b2 g : Int) (p : Option Addr) (l c : Nat), e = .returned (.agg #[.int .u8 o, .int .i64 a0, .int .i64 a1, .int .i64 a2, .int .i64 b0, .int .i64 b1, .int .i64 b2, .int .u8 g, .slice p l c]) ∧ ∀ i, r.2.q = .ok i → NV w.heap.size s w' r.1 [.int .u8 o, .int .i64 a0, .int .i64 a1, .int .i64 a2, .int .i64 b0, .int .i64 b1, .int .i64 b2, .int .u8 g, .slice p l c]) ∧ FB B P s r.2 w' ∧ Ex2 B P w w'
def need (s : ByteArray) (m : Nat) (x : FSt) : Nat := 4 * (s.size - x.q.top s) + m + 1
/-- But for one block. -/
structure At (b : Nat) (w w' : World) : Prop where
  os : w'.os = w.os
  tape : w'.tape = w.tape
  output : w'.output = w.output
  size : w'.heap.size = w.heap.size
  block : ∀ k, k ≠ b → w'.heap[k]? = w.heap[k]?
theorem At.refl (b : Nat) (w : World) : At b w w := ⟨rfl, rfl, rfl, rfl, fun _ _ => rfl⟩
theorem At.set {b : Nat} {w w' : World} (h : At b w w') (i : Nat) (v : Value) : At b w (w'.setCell ⟨b, i, none⟩ v) :=
  ⟨h.os, h.tape, h.output, by simpa using h.size, fun k hk => by rw [heap_setCell_other _ _ _ _ (by exact hk)]; exact h.block k hk⟩
/-- Nine cells of a block are written. -/
theorem At.nine (b : Nat) (w : World) (v0 v1 v2 v3 v4 v5 v6 v7 v8 : Value) : At b w (((((((((w.setCell ⟨b, 0, none⟩ v0).setCell ⟨b, 1, none⟩ v1).setCell ⟨b, 2, none⟩ v2).setCell ⟨b, 3, none⟩ v3).setCell ⟨b, 4, none⟩ v4).setCell ⟨b, 5, none⟩ v5).setCell ⟨b, 6, none⟩ v6).setCell ⟨b, 7, none⟩ v7).setCell ⟨b, 8, none⟩ v8) :=
  (((((((((At.refl b w).set 0 v0).set 1 v1).set 2 v2).set 3 v3).set 4 v4).set 5 v5).set 6 v6).set 7 v7).set 8 v8
theorem Ex2.at {B P b : Nat} {a w w' : World} (h : Ex2 B P a w) (k : At b w w') (hb : a.heap.size ≤ b) : Ex2 B P a w' :=
  ⟨k.os.trans h.os, k.tape.trans h.tape, k.output.trans h.output, by rw [k.size]; exact h.size, fun i hi h1 h2 => (k.block i (by omega)).trans (h.block i hi h1 h2)⟩
theorem FB.at {B P b : Nat} {s : ByteArray} {x : FSt} {w w' : World} (h : FB B P s x w) (k : At b w w') (h1 : b ≠ B) (h2 : b ≠ P) : FB B P s x w' :=
  ⟨h.r.block (k.block B h1.symm), (k.block P h2.symm).trans h.p, h.ne, h.o, h.g⟩
end Go.Proofs.YtgoebckimmofoaaGreatDoor
