import Derived.Lib.TrailingZeros
import Derived.Test.YtgoebckimmofoaaGreatDoorRows
import Derived.WalkKit
import Derived.WalkSpells
import Derived.WalkLawsBesides
import Derived.Deep.QuietTactic
import Derived.BigQuiet
import Derived.RegionTactic
import Derived.Scope
import Derived.WalkMore
import Derived.Deep.LoopGhost
import Derived.Deep.AppendLies
import Derived.Deep.RegionHeld3
import Derived.Laws.Bits64b
import Derived.Laws.IdiomStrings
import Derived.Maps.AppendAt
import Derived.RangeFuncBox
import Derived.Deep.RegionLaw
import Derived.Deep.RegionHeld
import Derived.RangeFuncNested
import Derived.RangeFuncBound
import Derived.RangeFuncCalls
import Derived.RangeFuncLeaves
import Derived.Shelf.Abstract
import Derived.Shelf.RegionOpen
import Derived.OwnWalkIn
import Derived.TacticsInMore
import Derived.LoopNIn
import Derived.LoopIn
import Derived.Stop.RegionWithIn
import Derived.MapKept
import Derived.Lib.Bytealg
import Derived.Lib.IndexLaws
import Derived.Laws.EntriesVeiled
import Derived.Deep.DrawnRows
import Derived.Deep.OwnRows
import Derived.Test.YtgoebckimmofoaaGreatDoorB1
import Derived.Test.YtgoebckimmofoaaGreatDoorB2
import Derived.Test.YtgoebckimmofoaaGreatDoorB5
import Derived.Test.YtgoebckimmofoaaGreatDoorB6
import Derived.Test.YtgoebckimmofoaaGreatDoorB7
import Derived.Test.YtgoebckimmofoaaGreatDoorB8
import Derived.Test.YtgoebckimmofoaaGreatDoorB9
import Derived.Test.YtgoebckimmofoaaGreatDoorB10
import Derived.Test.YtgoebckimmofoaaGreatDoorB11
import Derived.Test.YtgoebckimmofoaaGreatDoorB13
import Derived.Test.YtgoebckimmofoaaGreatDoorB16
import Derived.Test.YtgoebckimmofoaaGreatDoorB17
import Derived.Test.YtgoebckimmofoaaGreatDoorB18
import Derived.Test.YtgoebckimmofoaaGreatDoorB20
import Derived.OrdersIn
import Derived.OrdersHeld
import Derived.Test.YtgoebckimmofoaaGreatDoorB4
import Derived.Test.YtgoebckimmofoaaGreatDoorB12
/- Marks on a lasso: going back over it twice settles each part. Our own text: no walk in it. -/
namespace Go.Proofs.YtgoebckimmofoaaGreatDoor
open Go.RowKit Go.Lib

/-- The first parts' bits are right. -/
structure BR (X : List Nat) (pv : List (List Bool)) (P : List Pl) : Prop where
  len : P.length = X.length
  st : ∀ i, i < X.length → (pl P i).1 = X.getD i 0
  lt : ∀ i, i < X.length → (pl P i).2 < 256
  bit : ∀ i, i < X.length → ∀ k, k < pv.length → (pl P i).2.testBit k = at_ (pv.getD k []) i
/-- Marking the parts in their order makes their bits right. -/
def GoodP (X : List Nat) (loop : Nat) (ps : List Pt) (pv : List (List Bool)) : Prop :=
  ps.length = pv.length ∧ ∀ k (hk : k < ps.length), k < 8 → ∀ P, BR X (pv.take k) P → BR X (pv.take (k + 1)) (markP ps[k] k P loop)
/-- What is made of a formula says what the formula does. -/
def SaysG (X : List Nat) (pv : List (List Bool)) (R : List Bool) (g : G) : Prop := Dep pv.length g ∧ ∀ P, BR X pv P → ∀ i, i < X.length → g (pl P i).1 (pl P i).2 = at_ R i
section
variable {X : List Nat} {loop : Nat} {ps : List Pt} {pv : List (List Bool)} {f g : G} {R A B : List Bool}
theorem BR.take {pw : List (List Bool)} {P : List Pl} (h : BR X (pv ++ pw) P) : BR X pv P :=
  ⟨h.len, h.st, h.lt, fun i hi k hk => by rw [h.bit i hi k (by simp; omega)]; simp [List.getD_eq_getElem?_getD, List.getElem?_append_left hk]⟩
theorem SaysG.more {pw : List (List Bool)} (h : SaysG X pv R g) : SaysG X (pv ++ pw) R g := ⟨h.1.mono (by simp), fun P hP => h.2 P hP.take⟩
theorem BR.snoc {v : List Bool} {P Q : List Pl} (h : BR X pv P) (ho : Off pv.length P Q) (hb : ∀ i, i < X.length → (pl Q i).2.testBit pv.length = at_ v i) : BR X (pv ++ [v]) Q := by
  refine ⟨ho.len.trans h.len, fun i hi => (ho.st i (by rw [h.len]; exact hi)).trans (h.st i hi), fun i hi => ho.lt i (by rw [h.len]; exact hi), fun i hi k hk => ?_⟩
  by_cases e : k = pv.length
  · subst e
    rw [hb i hi]; simp [List.getD_eq_getElem?_getD]
  · have hk' : k < pv.length := by simp at hk; omega
    rw [ho.bit i (by rw [h.len]; exact hi) k e, h.bit i hi k hk']
    simp [List.getD_eq_getElem?_getD, List.getElem?_append_left hk']
theorem GoodP.snoc {p : Pt} {v : List Bool} (h : GoodP X loop ps pv) (hp : pv.length < 8 → ∀ P, BR X pv P → BR X (pv ++ [v]) (markP p pv.length P loop)) : GoodP X loop (ps ++ [p]) (pv ++ [v]) := by
  refine ⟨by simp [h.1], fun k hk h8 P hP => ?_⟩
  by_cases e : k = ps.length
  · subst e
    have e1 : (pv ++ [v]).take ps.length = pv := by rw [h.1]; simp
    have e2 : (pv ++ [v]).take (ps.length + 1) = pv ++ [v] := List.take_of_length_le (by simp [h.1])
    rw [e1] at hP
    rw [e2]
    have := hp (by rw [← h.1]; exact h8) P hP
    rw [← h.1] at this
    simpa using this
  · have hk' : k < ps.length := by simp at hk; omega
    have e1 : (pv ++ [v]).take k = pv.take k := by rw [List.take_append_of_le_length (by rw [← h.1]; omega)]
    have e2 : (pv ++ [v]).take (k + 1) = pv.take (k + 1) := by rw [List.take_append_of_le_length (by rw [← h.1]; omega)]
    rw [e1] at hP
    rw [e2, List.getElem_append_left hk']
    exact h.2 k hk' h8 P hP
theorem says_new {v : List Bool} : SaysG X (pv ++ [v]) v (fun _ b => b.testBit pv.length) :=
  ⟨fun x b b' hb => hb _ (by simp), fun P hP i hi => by
    show (pl P i).2.testBit pv.length = _
    rw [hP.bit i hi _ (by simp)]; simp [List.getD_eq_getElem?_getD]⟩
theorem good_putOff (hX : loop < X.length) (h : GoodP X loop ps pv) (hf : SaysG X pv A f) (hg : SaysG X pv B g) (hA : A.length = X.length) (e : Bool) :
    GoodP X loop (putOff f g e ps).2 (pv ++ [untL A B loop e]) ∧ SaysG X (pv ++ [untL A B loop e]) (untL A B loop e) (putOff f g e ps).1 := by
  constructor
  · refine h.snoc (fun h8 P hP => ?_)
    have hl : ∀ i, i < P.length → (pl P i).2 < 256 := fun i hi => hP.lt i (by rw [← hP.len]; exact hi)
    have hlo : loop < P.length := by rw [hP.len]; exact hX
    refine hP.snoc (mark_off h8 hl hlo _) (fun i hi => ?_)
    have hi' : i < P.length := by rw [hP.len]; exact hi
    rw [mark_putOff (f := f) (g := g) h8 hl hlo hf.1 hg.1 (fun x b x' b' => by simp only [h.1]) hi', at_untL (by rw [hA]; exact hi), hA, hP.len]
    have ca : ∀ k, k < X.length → f (pl P k).1 (pl P k).2 = at_ A k := hf.2 P hP
    have cb : ∀ k, k < X.length → g (pl P k).1 (pl P k).2 = at_ B k := hg.2 P hP
    have key : ∀ (m k : Nat), k < X.length → unt X.length loop (fun i => f (pl P i).1 (pl P i).2) (fun i => g (pl P i).1 (pl P i).2) e m k = unt X.length loop (at_ A) (at_ B) e m k := by
      intro m
      induction m with
      | zero => intro k hk; rw [unt0, unt0, cb k hk]
      | succ m ih =>
        intro k hk
        rw [unt1, unt1, ca k hk, cb k hk, ih _ (by unfold nxt; split <;> omega)]
    exact key _ _ hi
  · have := says_new (X := X) (pv := pv) (v := untL A B loop e)
    unfold putOff
    simp only [h.1]
    exact this
theorem good_next (hX : loop < X.length) (h : GoodP X loop ps pv) (hg : SaysG X pv B g) (R : List Bool) (hR : ∀ i, i < X.length → at_ R i = at_ B (nxt X.length loop i)) (z : G) :
    GoodP X loop (ps ++ [⟨fun _ _ x' b' => g x' b', false, z⟩]) (pv ++ [R]) ∧ SaysG X (pv ++ [R]) R (fun _ b => b.testBit ps.length) := by
  constructor
  · refine h.snoc (fun h8 P hP => ?_)
    have hl : ∀ i, i < P.length → (pl P i).2 < 256 := fun i hi => hP.lt i (by rw [← hP.len]; exact hi)
    have hlo : loop < P.length := by rw [hP.len]; exact hX
    refine hP.snoc (mark_off h8 hl hlo _) (fun i hi => ?_)
    have hi' : i < P.length := by rw [hP.len]; exact hi
    rw [mark_next (g := g) h8 hl hlo hg.1 (fun x b x' b' => rfl) hi', hP.len, hR i hi]
    exact hg.2 P hP _ (by unfold nxt; split <;> omega)
  · rw [h.1]; exact says_new
end
/-- The parts of a formula, and itself, on a lasso. -/
theorem tr_says (s : ByteArray) (L : List ByteArray) (X : List Nat) (loop nv : Nat) (hXL : X.length = L.length) (hl : loop < L.length)
    (hc : ∀ (c : Tm × Tm), PC c → c.1.1 < (nv : Int) ∧ c.2.1 < (nv : Int) → ∀ i (hi : i < L.length), cdP s c (X.getD i 0) = soS s c L[i]) : ∀ (φ : Fm), φ.Ok → φ.Nm nv → ∀ (ps : List Pt) (pv : List (List Bool)), GoodP X loop ps pv →
      ∃ pw, GoodP X loop (tr s φ ps).2 (pv ++ pw) ∧ SaysG X (pv ++ pw) (plF s L loop φ) (tr s φ ps).1
  | ⟨o, c, 0, k⟩, ho, hm, ps, pv, h => by
    refine ⟨[], by rw [List.append_nil]; exact h, ?_⟩
    rw [List.append_nil]
    refine ⟨fun x b b' _ => rfl, fun P hP i hi => ?_⟩
    have hi' : i < L.length := by rw [← hXL]; exact hi
    rw [at_lt (by rw [plF_len _ _ _ _ ho]; exact hi')]
    show (if o = 84 then true else cdP s c (pl P i).1) = _
    simp only [plF, List.getElem_map]
    rcases ho with rfl | ⟨rfl, hpc⟩
    · rfl
    · rw [if_neg (by omega), if_neg (by omega), hP.st i hi]
      exact hc c hpc (hm rfl) i hi'
  | ⟨o, c, 1, k⟩, ho, hm, ps, pv, h => by
    have hX : loop < X.length := by rw [hXL]; exact hl
    obtain ⟨pw, h1, h2⟩ := tr_says s L X loop nv hXL hl hc (k 0) ho.2 hm ps pv h
    have hlen := plF_len s L loop (k 0) ho.2
    rcases ho.1 with rfl | rfl | rfl | rfl
    · refine ⟨pw, h1, fun x b b' hb => ?_, fun P hP i hi => ?_⟩
      · show (!(tr s (k 0) ps).1 x b) = (!(tr s (k 0) ps).1 x b')
        rw [h2.1 x b b' hb]
      · show (!(tr s (k 0) ps).1 (pl P i).1 (pl P i).2) = at_ ((plF s L loop (k 0)).map (fun x => !x)) i
        rw [h2.2 P hP i hi, at_lt (by rw [hlen, ← hXL]; exact hi), at_lt (by rw [List.length_map, hlen, ← hXL]; exact hi)]
        simp
    · have := good_next hX h1 h2 (plF s L loop ⟨88, c, 1, k⟩) (fun i hi => by
        rw [at_lt (by rw [plF_len _ _ _ _ ho, ← hXL]; exact hi)]
        simp [plF, hXL]) (fun _ _ => true)
      rw [List.append_assoc] at this
      exact ⟨_, this⟩
    · have ht : SaysG X (pv ++ pw) (List.replicate L.length true) (fun _ _ => true) := ⟨fun _ _ _ _ => rfl, fun P _ i hi => by rw [at_rep (by rw [← hXL]; exact hi)]⟩
      have := good_putOff hX h1 ht h2 (by simp [hXL]) false
      rw [List.append_assoc] at this
      exact ⟨_, this⟩
    · have ht : SaysG X (pv ++ pw) (List.replicate L.length false) (fun _ _ => false) := ⟨fun _ _ _ _ => rfl, fun P _ i hi => by rw [at_rep (by rw [← hXL]; exact hi)]⟩
      have := good_putOff hX h1 h2 ht (by rw [hlen, hXL]) true
      rw [List.append_assoc] at this
      exact ⟨_, this⟩
  | ⟨o, c, 2, k⟩, ho, hm, ps, pv, h => by
    have hX : loop < X.length := by rw [hXL]; exact hl
    obtain ⟨pw, h1, h2⟩ := tr_says s L X loop nv hXL hl hc (k 0) ho.2.1 hm.1 ps pv h
    obtain ⟨pu, h3, h4⟩ := tr_says s L X loop nv hXL hl hc (k 1) ho.2.2 hm.2 _ _ h1
    have h2' := h2.more (pw := pu)
    have hlen := plF_len s L loop (k 0) ho.2.1
    have hlen1 := plF_len s L loop (k 1) ho.2.2
    have hmeet : SaysG X ((pv ++ pw) ++ pu) (meetL (plF s L loop (k 0)) (plF s L loop (k 1))) (fun x b => (tr s (k 0) ps).1 x b && (tr s (k 1) (tr s (k 0) ps).2).1 x b) := by
      refine ⟨fun x b b' hb => ?_, fun P hP i hi => ?_⟩
      · show ((tr s (k 0) ps).1 x b && (tr s (k 1) (tr s (k 0) ps).2).1 x b) = ((tr s (k 0) ps).1 x b' && (tr s (k 1) (tr s (k 0) ps).2).1 x b')
        rw [h2'.1 x b b' hb, h4.1 x b b' hb]
      show ((tr s (k 0) ps).1 (pl P i).1 (pl P i).2 && (tr s (k 1) (tr s (k 0) ps).2).1 (pl P i).1 (pl P i).2) = _
      rw [h2'.2 P hP i hi, h4.2 P hP i hi, at_meet (by rw [hlen, ← hXL]; exact hi) (by rw [hlen1, ← hXL]; exact hi)]
    rcases ho.1 with rfl | rfl | rfl | rfl | rfl
    · rw [List.append_assoc] at h3 hmeet
      exact ⟨_, h3, hmeet⟩
    · rw [List.append_assoc] at h3 h4 h2'
      refine ⟨_, h3, fun x b b' hb => ?_, fun P hP i hi => ?_⟩
      · show ((tr s (k 0) ps).1 x b || (tr s (k 1) (tr s (k 0) ps).2).1 x b) = ((tr s (k 0) ps).1 x b' || (tr s (k 1) (tr s (k 0) ps).2).1 x b')
        rw [h2'.1 x b b' hb, h4.1 x b b' hb]
      · show ((tr s (k 0) ps).1 (pl P i).1 (pl P i).2 || (tr s (k 1) (tr s (k 0) ps).2).1 (pl P i).1 (pl P i).2) = at_ (List.zipWith (fun a b => a || b) (plF s L loop (k 0)) (plF s L loop (k 1))) i
        rw [h2'.2 P hP i hi, h4.2 P hP i hi, at_lt (by rw [hlen, ← hXL]; exact hi), at_lt (by rw [hlen1, ← hXL]; exact hi), at_lt (by simp [hlen, hlen1, ← hXL]; exact hi)]
        simp
    · have := good_putOff hX h3 h2' h4 (by rw [hlen, hXL]) false
      rw [List.append_assoc, List.append_assoc] at this
      exact ⟨_, this⟩
    · have := good_putOff hX h3 h4 hmeet (by rw [hlen1, hXL]) true
      rw [List.append_assoc, List.append_assoc] at this
      exact ⟨_, this⟩
    · have := good_putOff hX h3 h2' h4 (by rw [hlen, hXL]) true
      rw [List.append_assoc, List.append_assoc] at this
      exact ⟨_, this⟩
  | ⟨_, _, _ + 3, _⟩, ho, _, _, _, _ => False.elim ho
/-- All parts marked. -/
theorem marks_right {X : List Nat} {loop : Nat} {ps : List Pt} {pv : List (List Bool)} (h : GoodP X loop ps pv) (h8 : ps.length ≤ 8) : ∀ (k : Nat) (P : List Pl), k ≤ ps.length → BR X (pv.take k) P → BR X pv (marksP (ps.drop k) k P loop) := by
  intro k
  obtain ⟨d, hd⟩ : ∃ d, d = ps.length - k := ⟨_, rfl⟩
  induction d generalizing k with
  | zero =>
    intro P hk hP
    rw [List.drop_of_length_le (by omega)]
    rw [List.take_of_length_le (by rw [← h.1]; omega)] at hP
    exact hP
  | succ d ih =>
    intro P hk hP
    have hk' : k < ps.length := by omega
    rw [List.drop_eq_getElem_cons hk']
    exact ih (k + 1) (by omega) _ hk' (h.2 k hk' (by omega) P hP)
/-- The code's way of holding. -/
def holdP (ps : List Pt) (g : G) (X : List Nat) (loop : Nat) : Bool :=
  let P := marksP ps 0 (X.map (fun x => (x, 0))) loop
  g (pl P 0).1 (pl P 0).2
theorem hold_same (s : ByteArray) (L : List ByteArray) (X : List Nat) (loop nv : Nat) (hXL : X.length = L.length) (hl : loop < L.length)
    (hc : ∀ (c : Tm × Tm), PC c → c.1.1 < (nv : Int) ∧ c.2.1 < (nv : Int) → ∀ i (hi : i < L.length), cdP s c (X.getD i 0) = soS s c L[i]) (φ : Fm) (ho : φ.Ok) (hm : φ.Nm nv) (h8 : (tr s φ []).2.length ≤ 8) :
    holdP (tr s φ []).2 (tr s φ []).1 X loop = at_ (plF s L loop φ) 0 := by
  obtain ⟨pw, h1, h2⟩ := tr_says s L X loop nv hXL hl hc φ ho hm [] [] ⟨rfl, fun k hk => absurd hk (Nat.not_lt_zero _)⟩
  rw [List.nil_append] at h1 h2
  have h0 : BR X (pw.take 0) (X.map (fun x => (x, 0))) := by
    have hp : ∀ i, i < X.length → pl (X.map (fun x => (x, 0))) i = (X.getD i 0, 0) := fun i hi => by
      unfold pl; simp [List.getD_eq_getElem?_getD, hi]
    refine ⟨by simp, fun i hi => by rw [hp i hi], fun i hi => by rw [hp i hi]; show 0 < 256; omega, fun i hi k hk => by simp at hk⟩
  have := marks_right h1 h8 0 _ (Nat.zero_le _) h0
  rw [List.drop_zero] at this
  exact h2.2 _ this 0 (by omega)
end Go.Proofs.YtgoebckimmofoaaGreatDoor

/- On which bits a part hangs. Our own text: no walk in it. -/
namespace Go.Proofs.YtgoebckimmofoaaGreatDoor
open Go.RowKit Go.Lib
/-- Of the place itself a part asks the elder parts alone. -/
def InP (ps : List Pt) : Prop := ∀ (k : Nat) (p : Pt), ps[k]? = some p → ∀ x b b2 x' b' : Nat, (∀ j, j < k → b.testBit j = b2.testBit j) → p.h x b x' b' = p.h x b2 x' b'
/-- So a list of parts, and a formula over it. -/
def DP (n : Nat) (r : G × List Pt) : Prop := InP r.2 ∧ Dep r.2.length r.1 ∧ n ≤ r.2.length
theorem InP.snoc {ps : List Pt} (h : InP ps) {p : Pt} (hp : ∀ x b b2 x' b', (∀ j, j < ps.length → b.testBit j = b2.testBit j) → p.h x b x' b' = p.h x b2 x' b') : InP (ps ++ [p]) := by
  intro k q hq
  rcases Nat.lt_trichotomy k ps.length with hk | rfl | hk
  · rw [List.getElem?_append_left hk] at hq
    exact h k q hq
  · simp at hq
    subst hq
    exact hp
  · rw [List.getElem?_eq_none (by simp; omega)] at hq
    cases hq
section
variable {ps : List Pt} {f g : G}
theorem dep_bit (n : Nat) : Dep (n + 1) (fun _ b => b.testBit n) := fun _ _ _ hb => hb n (Nat.lt_succ_self n)
theorem putOff_dp (h : InP ps) (hf : Dep ps.length f) (hg : Dep ps.length g) (e : Bool) : DP ps.length (putOff f g e ps) := by
  refine ⟨h.snoc (fun x b b2 x' b' hb => ?_), ?_, ?_⟩
  · show (g x b || (f x b && _)) = (g x b2 || (f x b2 && _))
    rw [hf x b b2 hb, hg x b b2 hb]
  · show Dep (ps ++ [_]).length _
    rw [List.length_append]
    exact dep_bit _
  · show ps.length ≤ (ps ++ [_]).length
    simp
theorem bld_dp (o : Nat) (h : InP ps) (hf : Dep ps.length f) (hg : Dep ps.length g) : DP ps.length (bld o f g ps) := by
  have hc : ∀ (v : Bool), Dep ps.length (fun _ _ => v) := fun _ _ _ _ _ => rfl
  have hand : Dep ps.length (fun x b => f x b && g x b) := fun x b b' hb => by show (f x b && g x b) = (f x b' && g x b'); rw [hf x b b' hb, hg x b b' hb]
  unfold bld
  split
  · exact ⟨h, fun x b b' hb => by show (!g x b) = !g x b'; rw [hg x b b' hb], Nat.le_refl _⟩
  split
  · exact ⟨h, hand, Nat.le_refl _⟩
  split
  · exact ⟨h, fun x b b' hb => by show (f x b || g x b) = (f x b' || g x b'); rw [hf x b b' hb, hg x b b' hb], Nat.le_refl _⟩
  split
  · refine ⟨h.snoc (fun x b b2 x' b' _ => rfl), ?_, ?_⟩
    · show Dep (ps ++ [_]).length _
      rw [List.length_append]
      exact dep_bit _
    · show ps.length ≤ (ps ++ [_]).length
      simp
  split
  · exact putOff_dp h (hc true) hg _
  split
  · exact putOff_dp h hg (hc false) _
  split
  · exact putOff_dp h hf hg _
  split
  · exact putOff_dp h hg hand _
  · exact putOff_dp h hf hg _
end
theorem tr_dp (s : ByteArray) : ∀ (φ : Fm) (ps : List Pt), InP ps → DP ps.length (tr s φ ps)
  | ⟨_, _, 0, _⟩, _, h => ⟨h, fun _ _ _ _ => rfl, Nat.le_refl _⟩
  | ⟨o, c, 1, k⟩, ps, h => by
    obtain ⟨h1, h2, h3⟩ := tr_dp s (k 0) ps h
    obtain ⟨h4, h5, h6⟩ := bld_dp (f := fun _ _ => true) o h1 (fun _ _ _ _ => rfl) h2
    exact ⟨h4, h5, Nat.le_trans h3 h6⟩
  | ⟨o, c, 2, k⟩, ps, h => by
    obtain ⟨h1, h2, h3⟩ := tr_dp s (k 0) ps h
    obtain ⟨k1, k2, k3⟩ := tr_dp s (k 1) _ h1
    obtain ⟨h4, h5, h6⟩ := bld_dp o k1 (h2.mono k3) k2
    exact ⟨h4, h5, Nat.le_trans h3 (Nat.le_trans k3 h6)⟩
  | ⟨_, _, _ + 3, _⟩, _, h => ⟨h, fun _ _ _ _ => rfl, Nat.le_refl _⟩
theorem tr_in (s : ByteArray) (φ : Fm) : InP (tr s φ []).2 := (tr_dp s φ [] (fun k p hp => by simp at hp)).1
theorem InP.hd {ps : List Pt} (h : InP ps) {n : Nat} {p : Pt} (hp : ps[n]? = some p) : ∀ x b b2 x' b', (∀ j, j ≠ n → b.testBit j = b2.testBit j) → p.h x b x' b' = p.h x b2 x' b' :=
  fun x b b2 x' b' hb => h n p hp x b b2 x' b' (fun j hj => hb j (by omega))
end Go.Proofs.YtgoebckimmofoaaGreatDoor

/- A formula's parts are marked, and it is asked. Our own text. -/
namespace Go.Proofs.YtgoebckimmofoaaGreatDoor
open Go.RowKit Go.Lib
theorem plCells_set0 : ∀ (P : List Pl) (i b : Nat), i < P.length → (plCells P).set (i * 2) (.int .u8 (b : Nat)) = plCells (P.set i (b, (pl P i).2))
  | p :: P, 0, b, _ => by simp [plCells, pl]
  | p :: P, i + 1, b, h => by
    have := plCells_set0 P i b (by simpa using h)
    have e : plCells (p :: P) = .int .u8 (p.1 : Nat) :: .int .u8 (p.2 : Nat) :: plCells P := rfl
    rw [e, show (i + 1) * 2 = (i * 2) + 1 + 1 by omega]
    have e2 : plCells ((p :: P).set (i + 1) (b, (pl (p :: P) (i + 1)).2)) = .int .u8 (p.1 : Nat) :: .int .u8 (p.2 : Nat) :: plCells (P.set i (b, (pl P i).2)) := rfl
    rw [e2, ← this]; rfl
theorem RowP.set0 {g i : Nat} {Q : List Pl} {W : World} (h : RowP g Q W) (hi : i < Q.length) (b : Nat) : RowP g (Q.set i (b, (pl Q i).2)) (W.setCell ⟨g, i * 2, none⟩ (.int .u8 (b : Nat))) := by
  have := heap_setCell_same W g (i * 2) (plCells Q).toArray 157 (.int .u8 (b : Nat)) h
  unfold RowP
  rw [this]
  congr 2
  rw [List.setIfInBounds_toArray, plCells_set0 Q i b hi]
theorem infoPl : (Tryz.prog.info? 157).map (fun i => (i.zero, i.size, i.bytes)) = some (some (.agg #[.int .u8 0, .int .u8 0]), 2, 2) := by kernel_rfl
theorem plCells_zero : ∀ (n : Nat), plCells (List.replicate n (0, 0)) = List.replicate (n * 2) (.int .u8 0)
  | 0 => rfl
  | n + 1 => by
    have := plCells_zero n
    have e : plCells (List.replicate (n + 1) (0, 0)) = .int .u8 0 :: .int .u8 0 :: plCells (List.replicate n (0, 0)) := rfl
    rw [e, this, show (n + 1) * 2 = n * 2 + 1 + 1 by omega]
    rfl
theorem made_pl (n : Nat) : (madeCells #[Value.int .u8 0, .int .u8 0] (n * 2)).toList = plCells (List.replicate n (0, 0)) := by
  rw [plCells_zero]
  apply List.ext_getElem
  · simp [madeCells]
  · intro i h1 h2
    simp [madeCells]
    rcases Nat.mod_two_eq_zero_or_one i with e | e <;> rw [e] <;> rfl
theorem row_full {w : World} {base e z g n : Nat} {xs : List Value} (h : w.ownsRow base e z (.slice (some ⟨g, 0, none⟩) n n) n xs) : w.heap[g]? = some (.cells xs.toArray e (0, 0)) := by
  rcases h.2 with ⟨h0, _⟩ | ⟨g', cap, cur, hv, _, hg, _, _, hs, ht⟩
  · cases h0
  · cases hv
    rw [hg]
    congr 2
    rw [← ht, List.take_of_length_le (by simp; omega)]
/-- The first i places have their states. -/
def fillP (X : List Nat) (i : Nat) : List Pl := (X.take i).map (fun x => (x, 0)) ++ List.replicate (X.length - i) (0, 0)
theorem fillP_len (X : List Nat) {i : Nat} (hi : i ≤ X.length) : (fillP X i).length = X.length := by unfold fillP; simp; omega
theorem fillP_step (X : List Nat) {i : Nat} (hi : i < X.length) : (fillP X i).set i (X[i], (pl (fillP X i) i).2) = fillP X (i + 1) := by
  have hp : (pl (fillP X i) i).2 = 0 := by
    unfold pl fillP
    rw [List.getD_eq_getElem?_getD, List.getElem?_append_right (by simp; omega)]
    simp
    have : i - min i X.length = 0 := by omega
    rw [this]
    cases hx : X.length - i with
    | zero => omega
    | succ k => rfl
  rw [hp]
  unfold fillP
  rw [List.set_append_right _ _ (by simp; omega), List.take_succ_eq_append_getElem hi]
  have e : i - ((X.take i).map (fun x => (x, 0))).length = 0 := by simp; omega
  rw [e]
  obtain ⟨k, hk⟩ : ∃ k, X.length - i = k + 1 := ⟨X.length - i - 1, by omega⟩
  rw [hk, show X.length - (i + 1) = k by omega]
  rw [List.replicate_succ, List.set_cons_zero, List.map_append, List.append_assoc]
  rfl
theorem fillP_all (X : List Nat) : fillP X X.length = X.map (fun x => (x, 0)) := by unfold fillP; simp
theorem okP_map {X : List Nat} (hX : ∀ x ∈ X, x < 64) : OkP (X.map (fun x => (x, 0))) := by
  intro i hi
  have hi' : i < X.length := by simpa using hi
  unfold pl
  simp only [List.getD_eq_getElem?_getD, List.getElem?_map, List.getElem?_eq_getElem hi', Option.map_some, Option.getD_some]
  exact ⟨hX _ (List.getElem_mem hi'), by decide⟩
theorem marksP_snoc (loop : Nat) (p : Pt) : ∀ (ps : List Pt) (n : Nat) (P : List Pl), marksP (ps ++ [p]) n P loop = markP p (n + ps.length) (marksP ps n P loop) loop
  | [], _, _ => rfl
  | q :: ps, n, P => by
    show marksP (ps ++ [p]) (n + 1) (markP q n P loop) loop = _
    rw [marksP_snoc loop p ps (n + 1)]
    show markP p (n + 1 + ps.length) (marksP ps (n + 1) (markP q n P loop) loop) loop = markP p (n + (ps.length + 1)) (marksP ps (n + 1) (markP q n P loop) loop) loop
    rw [show n + 1 + ps.length = n + (ps.length + 1) by omega]
theorem markP_ok {P : List Pl} {n loop : Nat} (hn : n < 8) (hP : OkP P) (hlo : loop < P.length) (p : Pt) : OkP (markP p n P loop) ∧ (markP p n P loop).length = P.length := by
  have ho := mark_off hn (fun i hi => (hP i hi).2) hlo p
  refine ⟨fun j hj => ?_, ho.len⟩
  have hj' : j < P.length := by rw [← ho.len]; exact hj
  exact ⟨by rw [ho.st j hj']; exact (hP j hj').1, ho.lt j hj'⟩
theorem marksP_ok {loop : Nat} : ∀ (ps : List Pt) (n : Nat) (P : List Pl), n + ps.length ≤ 8 → OkP P → loop < P.length → OkP (marksP ps n P loop) ∧ (marksP ps n P loop).length = P.length
  | [], _, _, _, hP, _ => ⟨hP, rfl⟩
  | p :: ps, n, P, hn, hP, hlo => by
    simp only [List.length_cons] at hn
    obtain ⟨h1, h2⟩ := markP_ok (n := n) (by omega) hP hlo p
    obtain ⟨h3, h4⟩ := marksP_ok ps (n + 1) _ (by omega) h1 (by rw [h2]; exact hlo)
    exact ⟨h3, h4.trans h2⟩
theorem part_at {w : World} {pb : Nat} {ap : Option Addr} {cp : Nat} {pvs : List PtV} (h : w.ownsRow pb 160 3 (.slice ap pvs.length cp) pvs.length (pvs.flatMap PtV.cells)) (hl : 0 < pvs.length) :
    ∃ g, ap = some ⟨g, 0, none⟩ ∧ g < w.heap.size ∧ pvs.length ≤ cp ∧ ∀ k (hk : k < pvs.length), w.cell? ⟨g, k * 3, none⟩ = some (.func (.func pvs[k].fh) #[] pvs[k].ch) ∧ w.cell? ⟨g, k * 3 + 1, none⟩ = some (.bool pvs[k].e) ∧ w.cell? ⟨g, k * 3 + 2, none⟩ = some (.func (.func pvs[k].fz) #[] pvs[k].cz) := by
  obtain ⟨g, h1, _, h3, h4, h5⟩ := row_at (z := 3) (fun _ => rfl) h hl
  exact ⟨g, h1, h3, h4, fun k hk => ⟨h5 k hk 0 (by omega), h5 k hk 1 (by omega), h5 k hk 2 (by omega)⟩⟩
theorem below_ex {b g : Nat} {W w1 w2 : World} (h : Below b W w1) (hg : b ≤ g) (hb : b ≤ w1.heap.size) (k : Ex g w1 w2) : Below b W w2 :=
  ⟨k.os.trans h.os, k.tape.trans h.tape, k.output.trans h.output, Nat.le_trans h.size k.size, fun i hi => (k.block i (by omega) (by omega)).trans (h.block i hi)⟩
set_option maxRecDepth 100000 in
set_option maxHeartbeats 1600000 in
theorem sholds_any {w W : World} {S b pb fw loop : Nat} {cw : Array Value} {G' : G} {ap : Option Addr} {cp : Nat} {pvs : List PtV} {ps : List Pt} (X : List Nat) (v : Value)
    (hS : W.heap[S]? = some (.cells #[.func (.func fw) #[] cw, .slice ap pvs.length cp] 81 (0, 0))) (hw : FnP w (.func (.func fw) #[] cw) G') (hp : All2 (PartOk w) pvs ps) (hin : InP ps) (h8 : ps.length ≤ 8)
    (hprow : W.ownsRow pb 160 3 (.slice ap pvs.length cp) pvs.length (pvs.flatMap PtV.cells)) (hk : KP w W) (h0 : 0 < W.heap.size) (hT : Tab W)
    (hX : ∀ x ∈ X, x < 64) (h7 : X.length ≤ 7000) (hlo : loop < X.length) (hrow : W.ownsRow b 69 1 v X.length (u8s X)) :
    Calls Tryz.prog 43 #[.pointer (some ⟨S, 0, none⟩), v, .int .i64 (loop : Nat)] W fun e w' => e = .returned (.bool (holdP ps G' X loop)) ∧ Below W.heap.size W w' := by
  obtain ⟨ao1, cap1, rfl⟩ := owned_slice' hrow
  obtain ⟨gL, rfl, hgL, hcL⟩ : ∃ gL, ao1 = some ⟨gL, 0, none⟩ ∧ gL < W.heap.size ∧ ∀ k (hk : k < X.length), W.cell? ⟨gL, k, none⟩ = some (.int .u8 (X[k] : Nat)) := by
    rw [u8s_flat] at hrow
    obtain ⟨g, h1, h3, h4, h5, h6⟩ := row_at (z := 1) (fun _ => rfl) hrow (by omega)
    exact ⟨g, h1, h4, fun k hk => by have := h6 k hk 0 (by omega); simpa using this⟩
  obtain ⟨j0, hi, hz0, hz1, hz2⟩ := info_parts infoPl
  have hlen := hp.length
  have HW : Put (_ ∧ _ ∧ _ ∧ _) := ⟨hw, hp, hin, hk⟩
  have HT : Put (Tab W) := ⟨hT⟩
  have HPR : Put (_) := ⟨hprow⟩
  have HL : Put (_) := ⟨hcL⟩
  have HX : Put (∀ x ∈ X, x < 64) := ⟨hX⟩
  have HS : Put (_) := ⟨hS⟩
  have hSl := lt_of_block hS
  have HO0 : Put (OkP (X.map (fun x => (x, 0)))) := ⟨okP_map hX⟩
  have hl0 : (X.map (fun x => ((x, 0) : Pl))).length = X.length := by simp
  obtain ⟨fw', cw', hfe, he, hcall⟩ := hw
  simp only [Value.func.injEq, Fn.func.injEq, true_and] at hfe
  obtain ⟨rfl, rfl⟩ := hfe
  have HC : Put (_) := ⟨hcall⟩
  clear hp hin hk hT hprow hcL hX hS hrow hcall
  go_enter Tryz.func43, Tryz.ntmps43
  go_wp2_with (at_make; refine wpList_make_full _ rfl _ _ 129 rfl W.heap.size 157 j0 _ 2 Tryz.underlying129 hi hz0 hz1 .i64 .i64 _ _ X.length rfl rfl rfl rfl (by rw [hz2]; omega) (by unfold maxLen; omega) (Nat.le_refl _) ?_)
  intro w2 hown hgr
  rw [made_pl] at hown
  have hB2 : Below W.heap.size W w2 := (Below.refl _ W).grown hgr (Nat.le_refl _) (fun k h => by cases h)
  have HR2 : Put (RowP W.heap.size (fillP X 0) w2) := ⟨by have := row_full hown; unfold RowP fillP; simpa using this⟩
  have HB2 : Put (_) := ⟨hB2⟩
  clear hown hgr hB2 hi hz0 hz1 hz2
  go_wp2_with fail
  go_loopg [17] X.length (fun gk iv wr => ∃ (i : Nat), iv = .int .i64 i ∧ i + gk = X.length ∧ Below W.heap.size W wr ∧ Put (RowP W.heap.size (fillP X i) wr))
  case atStart => exact ⟨0, rfl, by omega, HB2.out, HR2⟩
  case round =>
    clear HB2 HR2
    obtain ⟨i, rfl, hik, hBr, HR⟩ := hrel
    have hsr := hBr.size
    have hgr := HR.out.lt
    by_cases hlt : i < X.length
    · have hlt' : (i : Int) < (X.length : Int) := by omega
      have k0 : (0 : Int) ≤ (i : Int) := by omega
      obtain ⟨g', rfl⟩ : ∃ g', gk = g' + 1 := ⟨gk - 1, by omega⟩
      have q := (hBr.cell (p := ⟨gL, i, none⟩) hgL).trans (HL.out i hlt)
      have hfl : i < (fillP X i).length := by rw [fillP_len X (by omega)]; exact hlt
      have c0 := HR.out.cell0 hfl
      have f0 := HR.out.free (i * 2)
      have HN : Put (RowP W.heap.size (fillP X (i + 1)) (wr.setCell ⟨W.heap.size, i * 2, none⟩ (.int .u8 (X[i] : Nat)))) := ⟨by rw [← fillP_step X hlt]; exact HR.out.set0 hfl _⟩
      have HBN : Put (Below W.heap.size W (wr.setCell ⟨W.heap.size, i * 2, none⟩ (.int .u8 (X[i] : Nat)))) := ⟨hBr.setCell (p := ⟨W.heap.size, i * 2, none⟩) (Nat.le_refl _) _⟩
      have hwr : wrap64 ((i : Int) + 1) = ((i + 1 : Nat) : Int) := by unfold wrap64; omega
      clear hBr hgL
      generalize X[i] = xi at *
      go_wp2
      go_roundg g'
      case measure => exact Nat.lt_succ_self _
      case rel => exact ⟨i + 1, by go_num, by omega, HBN.out, HN⟩
    · obtain rfl : i = X.length := by omega
      obtain rfl : gk = 0 := by omega
      have hlt' : ¬ ((X.length : Int) < (X.length : Int)) := by omega
      have HR1 : Put (RowP W.heap.size (marksP (ps.take 0) 0 (X.map (fun x => (x, 0))) loop) wr) := ⟨by have := HR.out; rw [fillP_all] at this; exact this⟩
      have HB1 : Put (_) := ⟨hBr⟩
      have hs1 := two_cell1 ((hBr.block _ hSl).trans HS.out)
      clear hBr HR HL hgL
      go_wp2_with fail
      go_loopg [33] pvs.length (fun gk iv wr => ∃ (i : Nat), iv = .int .i64 i ∧ i + gk = pvs.length ∧ Below W.heap.size W wr ∧ Put (RowP W.heap.size (marksP (ps.take i) 0 (X.map (fun x => (x, 0))) loop) wr))
      case atStart => exact ⟨0, rfl, by omega, HB1.out, HR1⟩
      case round =>
        clear HB1 HR1 hs1
        rename_i wr0 _
        obtain ⟨i, rfl, hik, hBr, HR⟩ := hrel
        have hsr := hBr.size
        have hgr := HR.out.lt
        by_cases hlt : i < pvs.length
        · have hlt' : (i : Int) < (pvs.length : Int) := by omega
          have k0 : (0 : Int) ≤ (i : Int) := by omega
          obtain ⟨g', rfl⟩ : ∃ g', gk = g' + 1 := ⟨gk - 1, by omega⟩
          obtain ⟨pg, rfl, hpg, hcp, hpc⟩ := part_at HPR.out (by omega)
          obtain ⟨p0, p1, p2⟩ := hpc i hlt
          have hi2 : i < ps.length := by omega
          have hpo := HW.out.2.1.get i hlt hi2
          rw [hpo.2] at p1
          have q0 := (hBr.cell (p := ⟨pg, i * 3, none⟩) hpg).trans p0
          have q1 := (hBr.cell (p := ⟨pg, i * 3 + 1, none⟩) hpg).trans p1
          have q2 := (hBr.cell (p := ⟨pg, i * 3 + 2, none⟩) hpg).trans p2
          have hmk := marksP_ok (loop := loop) (ps.take i) 0 (X.map (fun x => (x, 0))) (by simp; omega) HO0.out (by rw [hl0]; exact hlo)
          have HSN : Put (marksP (ps.take (i + 1)) 0 (X.map (fun x => (x, 0))) loop = markP ps[i] i (marksP (ps.take i) 0 (X.map (fun x => (x, 0))) loop) loop) := ⟨by
            rw [List.take_succ_eq_append_getElem hi2, marksP_snoc]
            rw [show 0 + (ps.take i).length = i by simp; omega]⟩
          generalize marksP (ps.take i) 0 (X.map (fun x => (x, 0))) loop = Q at *
          have hQl : Q.length = X.length := hmk.2.trans hl0
          have hbA : Below wr.heap.size wr (wr.alloc (.cells #[.func (.func pvs[i].fh) #[] pvs[i].ch, .bool ps[i].e, .func (.func pvs[i].fz) #[] pvs[i].cz] 160)) := (Below.refl _ _).alloc (Nat.le_refl _) _
          have hBA : Below W.heap.size W (wr.alloc (.cells #[.func (.func pvs[i].fh) #[] pvs[i].ch, .bool ps[i].e, .func (.func pvs[i].fz) #[] pvs[i].cz] 160)) := hBr.trans (hbA.mono hsr)
          have HM : Put (_) := ⟨mark_any (w := w) (fz := pvs[i].fz) (cz := pvs[i].cz) (z := ps[i].z) ps[i].e i W.heap.size loop Q (wr.alloc (.cells #[.func (.func pvs[i].fh) #[] pvs[i].ch, .bool ps[i].e, .func (.func pvs[i].fz) #[] pvs[i].cz] 160)) (by omega) hmk.1 (by omega) (by omega) (HW.out.2.2.1.hd (List.getElem?_eq_getElem hi2)) hpo.1 (HW.out.2.2.2.trans (KP.of_below hBA)) h0 (HT.out.below hBA h0) (HR.out.move (hbA.block _ hgr))⟩
          rw [hQl] at HM
          have HBA : Put (_) := ⟨hBA⟩
          clear hBA hbA hpo hmk p0 p1 p2 hpc hBr HR
          go_wp2_with fail
          refine HM.out.mono ?_
          rintro e w3 ⟨rfl, hr3, hx3⟩
          have HR3 : Put (RowP W.heap.size (marksP (ps.take (i + 1)) 0 (X.map (fun x => (x, 0))) loop) w3) := ⟨by rw [HSN.out]; exact hr3⟩
          have HB3 : Put (Below W.heap.size W w3) := ⟨below_ex HBA.out (Nat.le_refl _) HBA.out.size hx3⟩
          clear hr3 hx3 HM HBA HSN
          go_wp2
          go_roundg g'
          case measure => exact Nat.lt_succ_self _
          case rel => exact ⟨i + 1, by go_num, by omega, HB3.out, HR3⟩
        · obtain rfl : i = pvs.length := by omega
          obtain rfl : gk = 0 := by omega
          have hlt' : ¬ ((pvs.length : Int) < (pvs.length : Int)) := by omega
          have hr : RowP W.heap.size (marksP ps 0 (X.map (fun x => (x, 0))) loop) wr := by have := HR.out; rw [hlen, List.take_length] at this; exact this
          have hmk := marksP_ok (loop := loop) ps 0 (X.map (fun x => (x, 0))) (by omega) HO0.out (by rw [hl0]; exact hlo)
          have HF : Put (holdP ps G' X loop = G' (pl (marksP ps 0 (X.map (fun x => (x, 0))) loop) 0).1 (pl (marksP ps 0 (X.map (fun x => (x, 0))) loop) 0).2) := ⟨rfl⟩
          generalize marksP ps 0 (X.map (fun x => (x, 0))) loop = Q at *
          have hQl : Q.length = X.length := hmk.2.trans hl0
          have hok := hmk.1 0 (by omega)
          have c0 := hr.cell0 (i := 0) (by omega)
          have c1 := hr.cell1 (i := 0) (by omega)
          rw [Nat.zero_mul] at c0 c1
          rw [Nat.zero_add] at c1
          have s0 := two_cell0 ((hBr.block _ hSl).trans HS.out)
          have HCL : Put (_) := ⟨HC.out { wr with drawn := wr.drawn + 1 } (fun N => ⟨((HW.out.2.2.2.trans (KP.of_below hBr)) N).size, ((HW.out.2.2.2.trans (KP.of_below hBr)) N).keep⟩) (by show 0 < wr.heap.size; omega) (fun k hk => HT.out.below hBr h0 k hk) _ _ hok.1 hok.2⟩
          have HB : Put (Below W.heap.size W { wr with drawn := wr.drawn + 1 }) := ⟨⟨hBr.os, hBr.tape, hBr.output, hBr.size, hBr.block⟩⟩
          have k1 : 0 < X.length := by omega
          clear hr hmk HR hBr HC
          generalize (pl Q 0).1 = xa at *
          generalize (pl Q 0).2 = xb at *
          go_wp2_with fail
          have hS0 : (fun w' : World => w'.cell? ⟨S, 0, none⟩ = some (.func (.func fw) #[] cw) ∧ w'.cell? ⟨W.heap.size, 0, none⟩ = some (.int .u8 (xa : Nat)) ∧ w'.cell? ⟨W.heap.size, 1, none⟩ = some (.int .u8 (xb : Nat))) { wr with drawn := wr.drawn + 1 } := ⟨s0, c0, c1⟩
          refine wp_region_held (S := fun w' => w'.cell? ⟨S, 0, none⟩ = some (.func (.func fw) #[] cw) ∧ w'.cell? ⟨W.heap.size, 0, none⟩ = some (.int .u8 (xa : Nat)) ∧ w'.cell? ⟨W.heap.size, 1, none⟩ = some (.int .u8 (xb : Nat))) (by kernel_rfl) ?_
          refine wpAnyH_take (i := 0) (v := ?_) rfl (by kernel_rfl) (by kernel_rfl) (by kernel_rfl) (fun _ _ _ h => h) (Or.inl ⟨by rfl, ?_⟩) hS0 ?_
          rotate_left
          · intro w hSw; (try dsimp only at hSw); go_simp; try (with_reducible rfl)
          rotate_left
          (try simp only [Act.put, List.setIfInBounds_toArray])
          refine wpAnyH_take (i := 1) (v := ?_) rfl (by kernel_rfl) (by kernel_rfl) (by kernel_rfl) (fun _ _ _ h => h) (Or.inl ⟨by rfl, ?_⟩) hS0 ?_
          rotate_left
          · intro w hSw; (try dsimp only at hSw); go_simp; try (with_reducible rfl)
          rotate_left
          (try simp only [Act.put])
          refine wpAnyH_take (i := 2) (v := ?_) rfl (by kernel_rfl) (by kernel_rfl) (by kernel_rfl) (fun _ _ _ h => h) (Or.inl ⟨by rfl, ?_⟩) hS0 ?_
          rotate_left
          · intro w hSw; (try dsimp only at hSw); go_simp; try (with_reducible rfl)
          rotate_left
          (try simp only [Act.put])
          refine wpAnyH_take (i := 3) (v := ?_) rfl (by kernel_rfl) (by kernel_rfl) (by kernel_rfl) (fun _ _ _ h => h) (Or.inl ⟨by rfl, ?_⟩) hS0 ?_
          rotate_left
          · intro w hSw; (try dsimp only at hSw); go_simp; try (with_reducible rfl)
          rotate_left
          (try simp only [Act.put])
          refine wpAnyH_take (i := 4) (v := ?_) rfl (by kernel_rfl) (by kernel_rfl) (by kernel_rfl) (fun _ _ _ h => h) (Or.inl ⟨by rfl, ?_⟩) hS0 ?_
          rotate_left
          · intro w hSw; (try dsimp only at hSw); go_simp; try (with_reducible rfl)
          rotate_left
          (try simp only [Act.put])
          refine wpAnyH_take (i := 5) (v := ?_) rfl (by kernel_rfl) (by kernel_rfl) (by kernel_rfl) (fun _ _ _ h => h) (Or.inl ⟨by rfl, ?_⟩) hS0 ?_
          rotate_left
          · intro w hSw; (try dsimp only at hSw); go_simp; try (with_reducible rfl)
          rotate_left
          (try simp only [Act.put])
          refine wpAnyH_take (i := 6) (v := ?_) rfl (by kernel_rfl) (by kernel_rfl) (by kernel_rfl) (fun _ _ _ h => h) (Or.inl ⟨by rfl, ?_⟩) hS0 ?_
          rotate_left
          · intro w hSw; (try dsimp only at hSw); go_simp; try (with_reducible rfl)
          rotate_left
          (try simp only [Act.put])
          refine wpAnyH_ready (rs := [7]) (by kernel_rfl) (by simp) ?_
          refine AllReadyH.cons rfl (fun K hK => ?_) ?_
          ·
            go_simp
            refine HCL.out.mono ?_
            rintro e w3 ⟨rfl, hb3⟩
            have HB3 : Put (_) := ⟨HB.out.trans (hb3.mono HB.out.size)⟩
            have hS3 : (fun w' : World => w'.cell? ⟨S, 0, none⟩ = some (.func (.func fw) #[] cw) ∧ w'.cell? ⟨W.heap.size, 0, none⟩ = some (.int .u8 (xa : Nat)) ∧ w'.cell? ⟨W.heap.size, 1, none⟩ = some (.int .u8 (xb : Nat))) w3 := ⟨(hb3.cell (p := ⟨S, 0, none⟩) (by show S < wr.heap.size; omega)).trans s0, (hb3.cell (p := ⟨W.heap.size, 0, none⟩) hgr).trans c0, (hb3.cell (p := ⟨W.heap.size, 1, none⟩) hgr).trans c1⟩
            clear hb3
            refine hK.out _ _ ?_ (fun _ => ?_)
            · exact hS3
            clear hK K
            (try simp only [Act.put, List.setIfInBounds_toArray, List.set_cons_zero, List.set_cons_succ])
            refine wpAnyH_ready (rs := [8]) (by kernel_rfl) (by simp) ?_
            refine AllReadyH.cons rfl (fun K hK => ?_) ?_
            ·
              go_simp
              refine hK.out _ _ ?_ (fun _ => ?_)
              · exact hS3
              clear hK K
              (try simp only [Act.put, List.setIfInBounds_toArray, List.set_cons_zero, List.set_cons_succ])
              refine wpAnyH_done (by kernel_rfl) ?_ _
              go_wp2
              go_ret
              refine ⟨?_, HB3.out⟩
              rw [HF.out]
              rfl
            exact AllReadyH.nil
          exact AllReadyH.nil
end Go.Proofs.YtgoebckimmofoaaGreatDoor

/- A part is kept. Our own text. -/
namespace Go.Proofs.YtgoebckimmofoaaGreatDoor
open Go.RowKit Go.Lib
theorem infoP : (Tryz.prog.info? 160).map (fun i => (i.zero, i.size, i.bytes)) = some (some (.agg #[.nilFunc, .bool false, .nilFunc]), 3, 24) := by kernel_rfl
theorem infoW : (Tryz.prog.info? 259).map (fun i => (i.zero, i.size, i.bytes)) = some (some (.agg #[.int .u8 0, .nilFunc]), 2, 16) := by kernel_rfl
theorem news_here (w : World) (cs : List Value) (t : TypeId) : ∀ j u, cs[j]? = some u → (w.alloc (.cells cs.toArray t)).cell? ((⟨w.heap.size, 0, none⟩ : Addr).add j) = some u := by
  have h := heap_alloc_new w (.cells cs.toArray t)
  have := World.news_of_block (cs := cs.toArray) (t := t) (fr := (0, 0)) h
  simpa using this
theorem PtV.one (p : PtV) : ∀ u ∈ p.cells, u.oneCell' = true := by
  intro u hu
  simp only [PtV.cells, List.mem_cons, List.not_mem_nil, or_false] at hu
  rcases hu with rfl | rfl | rfl <;> rfl
section
variable {B M : Nat} {s : ByteArray} {t : T} {wh : Value} {opn deep : Nat} {pvs : List PtV} {wvs : List WV} {j : FJ} {w : World}
/-- What keep leaves. -/
def KeepPost (B M : Nat) (s : ByteArray) (t : T) (wh : Value) (opn deep : Nat) (pvs : List PtV) (wvs : List WV) (j : FJ) (p : PtV) (w : World) (e : Ending) (w' : World) : Prop :=
  ∃ (b : Nat) (ap' : Option Addr) (cp' : Nat), e = .returned (.func (.func 218) #[] #[.pointer (some ⟨b, 0, none⟩)]) ∧ w.heap.size ≤ b ∧ w'.heap[b]? = some (.cells #[.int .i64 (pvs.length : Nat)] 3 (0, 0)) ∧ FRv B M s t wh opn deep (pvs ++ [p]) wvs { j with ap := ap', cp := cp' } w' ∧ Fr B w w' ∧ ∀ k, k < w.heap.size → k ≠ B → (Value.slice j.ap pvs.length j.cp).ownBlock ≠ some k → w'.heap[k]? = w.heap[k]?
set_option maxRecDepth 100000 in
set_option maxHeartbeats 1600000 in
theorem keep_any (hl : pvs.length ≤ 100) (h : FRv B M s t wh opn deep pvs wvs j w) (p : PtV) :
    Calls Tryz.prog 213 #[.pointer (some ⟨B, 5, none⟩), .agg #[.func (.func p.fh) #[] p.ch, .bool p.e, .func (.func p.fz) #[] p.cz]] w (KeepPost B M s t wh opn deep pvs wvs j p w) := by
  obtain ⟨i0, hi, hz0, hz1, hz2⟩ := info_parts infoP
  have hmf : ∀ (fn : Fn) (first cap : Array Value) (w : World), (Instr.makeFunc fn first cap).run Tryz.prog w = .ok (.func fn first cap) w := fun _ _ _ _ => rfl
  have m63 : pvs.length + 1 ≤ maxLen := by unfold maxLen; omega
  have m47 : (pvs.length + 1) * 24 ≤ 140737488355328 := by omega
  have hlt := h.lt
  have c6 := h.c6
  have HH : Put (_) := ⟨h⟩
  have hb2 : Below w.heap.size w ((w.alloc (.cells #[.func (.func p.fh) #[] p.ch, .bool p.e, .func (.func p.fz) #[] p.cz] 160)).alloc (.cells #[.int .i64 (pvs.length : Nat)] 3)) := ((Below.refl _ w).alloc (Nat.le_refl _) _).alloc (by simp) _
  have p2 := (Below.heap_alloc (w.alloc (.cells #[.func (.func p.fh) #[] p.ch, .bool p.e, .func (.func p.fz) #[] p.cz] 160)) (.cells #[.int .i64 (pvs.length : Nat)] 3) w.heap.size (by simp)).trans (heap_alloc_new w (.cells #[.func (.func p.fh) #[] p.ch, .bool p.e, .func (.func p.fz) #[] p.cz] 160))
  have n2 := heap_alloc_new (w.alloc (.cells #[.func (.func p.fh) #[] p.ch, .bool p.e, .func (.func p.fz) #[] p.cz] 160)) (.cells #[.int .i64 (pvs.length : Nat)] 3)
  have z2 : ((w.alloc (.cells #[.func (.func p.fh) #[] p.ch, .bool p.e, .func (.func p.fz) #[] p.cz] 160)).alloc (.cells #[.int .i64 (pvs.length : Nat)] 3)).heap.size = w.heap.size + 2 := by simp
  rw [World.size_alloc] at n2
  go_enter Tryz.func213, Tryz.ntmps213
  go_wp2_with fail
  generalize (w.alloc (.cells #[.func (.func p.fh) #[] p.ch, .bool p.e, .func (.func p.fz) #[] p.cz] 160)).alloc (.cells #[.int .i64 (pvs.length : Nat)] 3) = w2 at *
  have h2 := h.below hb2
  have HBL : Put (_) := ⟨hb2⟩
  have HB2 : Put (Fr B w w2) := ⟨Fr.of_below hb2 (Nat.le_of_lt hlt)⟩
  have P2 : Put (_) := ⟨p2⟩
  have N2 : Put (_) := ⟨n2⟩
  have d6 := h2.c6
  have e6 := (h2.alloc (.cells #[.func (.func p.fh) #[] p.ch, .bool p.e, .func (.func p.fz) #[] p.cz] 160)).c6
  have H3 : Put (FRv B M s t wh opn deep pvs wvs j (w2.alloc (.cells (PtV.cells p).toArray 160)).drew) := ⟨(show FRv B M s t wh opn deep pvs wvs j w2.drew from ⟨h2.g.drew, h2.p, h2.q⟩).alloc _⟩
  have hbase : B + 1 ≤ (w2.alloc (.cells (PtV.cells p).toArray 160)).drew.heap.size := H3.out.lt
  have HX : Put ((w2.alloc (.cells (PtV.cells p).toArray 160)).drew.heap[w.heap.size + 2]? = some (.cells (PtV.cells p).toArray 160 (0, 0))) := ⟨by have := heap_alloc_new w2 (.cells (PtV.cells p).toArray 160); rw [z2] at this; exact this⟩
  have HZ : Put ((w2.alloc (.cells (PtV.cells p).toArray 160)).drew.heap.size = w.heap.size + 3) := ⟨by show (w2.alloc (.cells (PtV.cells p).toArray 160)).heap.size = _; rw [World.size_alloc, z2]⟩
  have HS : Put (∀ W : World, W.heap[w.heap.size]? = some (.cells (PtV.cells p).toArray 160 (0, 0)) → W.cell? ⟨w.heap.size, 0, none⟩ = some (.func (.func p.fh) #[] p.ch) ∧ W.cell? ⟨w.heap.size, 1, none⟩ = some (.bool p.e) ∧ W.cell? ⟨w.heap.size, 2, none⟩ = some (.func (.func p.fz) #[] p.cz)) := ⟨fun W hW => by simp [World.cell?, hW, PtV.cells]⟩
  clear h h2 hb2 p2 n2 c6
  refine wp_region_held (S := fun w' => w'.cell? ⟨w.heap.size, 0, none⟩ = some (.func (.func p.fh) #[] p.ch) ∧ w'.cell? ⟨w.heap.size, 1, none⟩ = some (.bool p.e) ∧ w'.cell? ⟨w.heap.size, 2, none⟩ = some (.func (.func p.fz) #[] p.cz)) (by kernel_rfl) ?_
  have hS0 : (fun w' : World => w'.cell? ⟨w.heap.size, 0, none⟩ = some (.func (.func p.fh) #[] p.ch) ∧ w'.cell? ⟨w.heap.size, 1, none⟩ = some (.bool p.e) ∧ w'.cell? ⟨w.heap.size, 2, none⟩ = some (.func (.func p.fz) #[] p.cz)) { w2 with drawn := w2.drawn + 1 } := HS.out _ P2.out
  refine wpAnyH_take (i := 0) (v := ?_) rfl (by kernel_rfl) (by kernel_rfl) (by kernel_rfl) (fun _ _ _ h => h) (Or.inl ⟨by rfl, ?_⟩) hS0 ?_
  rotate_left
  · intro w hSw; (try dsimp only at hSw); go_simp; try (with_reducible rfl)
  rotate_left
  (try simp only [Act.put, List.setIfInBounds_toArray])
  refine wpAnyH_take (i := 1) (v := ?_) rfl (by kernel_rfl) (by kernel_rfl) (by kernel_rfl) (fun _ _ _ h => h) (Or.inl ⟨by rfl, ?_⟩) hS0 ?_
  rotate_left
  · intro w hSw; (try dsimp only at hSw); go_simp; try (with_reducible rfl)
  rotate_left
  (try simp only [Act.put])
  refine wpAnyH_take (i := 2) (v := ?_) rfl (by kernel_rfl) (by kernel_rfl) (by kernel_rfl) (fun _ _ _ h => h) (Or.inl ⟨by rfl, ?_⟩) hS0 ?_
  rotate_left
  · intro w hSw; (try dsimp only at hSw); go_simp; try (with_reducible rfl)
  rotate_left
  (try simp only [Act.put])
  refine wpAnyH_take (i := 3) (v := ?_) rfl (by kernel_rfl) (by kernel_rfl) (by kernel_rfl) (fun _ _ _ h => h) (Or.inl ⟨by rfl, ?_⟩) hS0 ?_
  rotate_left
  · intro w hSw; (try dsimp only at hSw); go_simp; try (with_reducible rfl)
  rotate_left
  (try simp only [Act.put])
  refine wpAnyH_take (i := 5) (v := ?_) rfl (by kernel_rfl) (by kernel_rfl) (by kernel_rfl) (fun _ _ _ h => h) (Or.inl ⟨by rfl, ?_⟩) hS0 ?_
  rotate_left
  · intro w hSw; (try dsimp only at hSw); go_simp; try (with_reducible rfl)
  rotate_left
  (try simp only [Act.put])
  refine wpAnyH_ready (rs := [4, 6]) (by kernel_rfl) (by simp) ?_
  refine AllReadyH.cons rfl (fun K hK => ?_) ?_
  ·
    go_simp
    refine hK.out _ _ ?_ (fun _ => ?_)
    · first | exact hS0 | exact HS.out _ P2.out | exact HS.out _ ((Below.heap_alloc w2 _ _ (by omega)).trans P2.out) | exact HS.out _ P1.out | exact HS.out _ ((heap_setCell_other _ _ _ _ (by show w.heap.size ≠ B; omega)).trans P1.out)
    clear hK K
    (try simp only [Act.put, List.setIfInBounds_toArray, List.set_cons_zero, List.set_cons_succ])
    refine wpAnyH_ready (rs := [6]) (by kernel_rfl) (by simp) ?_
    refine AllReadyH.cons rfl (fun K hK => ?_) ?_
    ·
      go_simp
      refine hK.out _ _ ?_ (fun _ => ?_)
      · first | exact hS0 | exact HS.out _ P2.out | exact HS.out _ ((Below.heap_alloc w2 _ _ (by omega)).trans P2.out) | exact HS.out _ P1.out | exact HS.out _ ((heap_setCell_other _ _ _ _ (by show w.heap.size ≠ B; omega)).trans P1.out)
      clear hK K
      (try simp only [Act.put, List.setIfInBounds_toArray, List.set_cons_zero, List.set_cons_succ])
      refine wpAnyH_ready (rs := [7]) (by kernel_rfl) (by simp) ?_
      refine AllReadyH.cons rfl (fun K hK => ?_) ?_
      ·
        (refine step_append_lies _ ?q1 (.tmp 15) (.tmp 17) 79 ?q2 (B + 1) 160 i0 _ 3 24 Tryz.underlying79 hi hz0 hz1 hz2 rfl (Nat.succ_pos 2) (.slice j.ap pvs.length j.cp) pvs.length (pvs.flatMap PtV.cells) ?q3 H3.out.p ⟨w.heap.size + 2, 0, none⟩ 1 1 (PtV.cells p) ?q4 rfl (World.news_of_block HX.out) (PtV.one _) Nat.one_pos m63 m47 hbase (w.heap.size + 3) HZ.out ?_; (case q1 => rfl); (case q2 => rfl); (case q3 => rfl); (case q4 => rfl); intro g cap w1 hown1 hgrow hat' hlt)
        obtain ⟨f1, f2⟩ := H3.out.grownP (pvs' := pvs ++ [p]) (ap' := some ⟨g, 0, none⟩) (cp' := cap) hgrow (by rw [List.length_append, List.flatMap_append]; simpa using hown1)
        have g1 := H3.out.g.grown hgrow (ne_own (Nat.lt_succ_self B) H3.out.p) (ne_own (Nat.lt_trans H3.out.g.lo (Nat.lt_succ_self B)) H3.out.p)
        have k6 : w1.cell? ⟨B, 6, none⟩ = some (.slice j.ap pvs.length j.cp) := by simp [World.cell?, g1.blk, rblk, frest]
        have f6 := g1.free 6
        have P1 : Put (w1.heap[w.heap.size]? = some (.cells (PtV.cells p).toArray 160 (0, 0))) := ⟨(hgrow.block _ (Nat.lt_of_lt_of_eq (by omega) HZ.out.symm) (fun e => by have := (HH.out.p.lt _ e.symm).2; omega)).trans ((Below.heap_alloc w2 _ _ (by omega)).trans P2.out)⟩
        have N1 : Put (w1.heap[w.heap.size + 1]? = some (.cells #[.int .i64 (pvs.length : Nat)] 3 (0, 0))) := ⟨(hgrow.block _ (Nat.lt_of_lt_of_eq (by omega) HZ.out.symm) (fun e => by have := (HH.out.p.lt _ e.symm).2; omega)).trans ((Below.heap_alloc w2 _ _ (by omega)).trans N2.out)⟩
        have FIN : Put (_ ∧ _) := ⟨f1, f2⟩
        have GR : Put (∀ k, k < w.heap.size → (Value.slice j.ap pvs.length j.cp).ownBlock ≠ some k → w1.heap[k]? = w.heap[k]?) := ⟨fun k hk hkr => (hgrow.block k (Nat.lt_of_lt_of_eq (by omega) HZ.out.symm) (fun e => hkr e.symm)).trans ((Below.heap_alloc w2 _ _ (by omega)).trans (HBL.out.block k hk))⟩
        clear g1 hown1 hgrow hat' f1 f2
        refine hK.out _ _ ?_ (fun _ => ?_)
        · first | exact hS0 | exact HS.out _ P2.out | exact HS.out _ ((Below.heap_alloc w2 _ _ (by omega)).trans P2.out) | exact HS.out _ P1.out | exact HS.out _ ((heap_setCell_other _ _ _ _ (by show w.heap.size ≠ B; omega)).trans P1.out)
        clear hK K
        (try simp only [Act.put, List.setIfInBounds_toArray])
        refine wpAnyH_ready (rs := [8]) (by kernel_rfl) (by simp) ?_
        refine AllReadyH.cons rfl (fun K hK => ?_) ?_
        ·
          go_simp
          refine hK.out _ _ ?_ (fun _ => ?_)
          · first | exact hS0 | exact HS.out _ P2.out | exact HS.out _ ((Below.heap_alloc w2 _ _ (by omega)).trans P2.out) | exact HS.out _ P1.out | exact HS.out _ ((heap_setCell_other _ _ _ _ (by show w.heap.size ≠ B; omega)).trans P1.out)
          clear hK K
          (try simp only [Act.put, List.setIfInBounds_toArray, List.set_cons_zero, List.set_cons_succ])
          refine wpAnyH_ready (rs := [9]) (by kernel_rfl) (by simp) ?_
          refine AllReadyH.cons rfl (fun K hK => ?_) ?_
          ·
            go_simp
            refine hK.out _ _ ?_ (fun _ => ?_)
            · first | exact hS0 | exact HS.out _ P2.out | exact HS.out _ ((Below.heap_alloc w2 _ _ (by omega)).trans P2.out) | exact HS.out _ P1.out | exact HS.out _ ((heap_setCell_other _ _ _ _ (by show w.heap.size ≠ B; omega)).trans P1.out)
            clear hK K
            (try simp only [Act.put, List.setIfInBounds_toArray, List.set_cons_zero, List.set_cons_succ])
            refine wpAnyH_ready (rs := [10]) (by kernel_rfl) (by simp) ?_
            refine AllReadyH.cons rfl (fun K hK => ?_) ?_
            ·
              go_simp
              refine hK.out _ _ ?_ (fun _ => ?_)
              · first | exact hS0 | exact HS.out _ P2.out | exact HS.out _ ((Below.heap_alloc w2 _ _ (by omega)).trans P2.out) | exact HS.out _ P1.out | exact HS.out _ ((heap_setCell_other _ _ _ _ (by show w.heap.size ≠ B; omega)).trans P1.out)
              clear hK K
              (try simp only [Act.put, List.setIfInBounds_toArray, List.set_cons_zero, List.set_cons_succ])
              refine wpAnyH_done (by kernel_rfl) ?_ _
              go_wp2
              go_ret
              refine ⟨w.heap.size + 1, some ⟨g, 0, none⟩, cap, rfl, by omega, ?_, ?_, ?_, ?_⟩
              · exact (heap_setCell_other _ _ _ _ (by show w.heap.size + 1 ≠ B; omega)).trans N1.out
              · have := FIN.out.1; rw [List.length_append] at this; exact this
              · have := FIN.out.2; rw [List.length_append] at this; exact (HB2.out.trans (Fr.of_below ((Below.refl _ w2).alloc (Nat.le_refl _) (.cells (PtV.cells p).toArray 160)).drew (by omega))).trans this
              · intro k hk hkB hkr; exact (heap_setCell_other _ _ _ _ (by exact hkB)).trans (GR.out k hk hkr)
            exact AllReadyH.nil
          exact AllReadyH.nil
        exact AllReadyH.nil
      exact AllReadyH.nil
    exact AllReadyH.nil
  refine AllReadyH.cons rfl (fun K hK => ?_) ?_
  ·
    go_simp
    refine hK.out _ _ ?_ (fun _ => ?_)
    · first | exact hS0 | exact HS.out _ P2.out | exact HS.out _ ((Below.heap_alloc w2 _ _ (by omega)).trans P2.out) | exact HS.out _ P1.out | exact HS.out _ ((heap_setCell_other _ _ _ _ (by show w.heap.size ≠ B; omega)).trans P1.out)
    clear hK K
    (try simp only [Act.put, List.setIfInBounds_toArray, List.set_cons_zero, List.set_cons_succ])
    refine wpAnyH_ready (rs := [4]) (by kernel_rfl) (by simp) ?_
    refine AllReadyH.cons rfl (fun K hK => ?_) ?_
    ·
      go_simp
      refine hK.out _ _ ?_ (fun _ => ?_)
      · first | exact hS0 | exact HS.out _ P2.out | exact HS.out _ ((Below.heap_alloc w2 _ _ (by omega)).trans P2.out) | exact HS.out _ P1.out | exact HS.out _ ((heap_setCell_other _ _ _ _ (by show w.heap.size ≠ B; omega)).trans P1.out)
      clear hK K
      (try simp only [Act.put, List.setIfInBounds_toArray, List.set_cons_zero, List.set_cons_succ])
      refine wpAnyH_ready (rs := [7]) (by kernel_rfl) (by simp) ?_
      refine AllReadyH.cons rfl (fun K hK => ?_) ?_
      ·
        (refine step_append_lies _ ?q1 (.tmp 15) (.tmp 17) 79 ?q2 (B + 1) 160 i0 _ 3 24 Tryz.underlying79 hi hz0 hz1 hz2 rfl (Nat.succ_pos 2) (.slice j.ap pvs.length j.cp) pvs.length (pvs.flatMap PtV.cells) ?q3 H3.out.p ⟨w.heap.size + 2, 0, none⟩ 1 1 (PtV.cells p) ?q4 rfl (World.news_of_block HX.out) (PtV.one _) Nat.one_pos m63 m47 hbase (w.heap.size + 3) HZ.out ?_; (case q1 => rfl); (case q2 => rfl); (case q3 => rfl); (case q4 => rfl); intro g cap w1 hown1 hgrow hat' hlt)
        obtain ⟨f1, f2⟩ := H3.out.grownP (pvs' := pvs ++ [p]) (ap' := some ⟨g, 0, none⟩) (cp' := cap) hgrow (by rw [List.length_append, List.flatMap_append]; simpa using hown1)
        have g1 := H3.out.g.grown hgrow (ne_own (Nat.lt_succ_self B) H3.out.p) (ne_own (Nat.lt_trans H3.out.g.lo (Nat.lt_succ_self B)) H3.out.p)
        have k6 : w1.cell? ⟨B, 6, none⟩ = some (.slice j.ap pvs.length j.cp) := by simp [World.cell?, g1.blk, rblk, frest]
        have f6 := g1.free 6
        have P1 : Put (w1.heap[w.heap.size]? = some (.cells (PtV.cells p).toArray 160 (0, 0))) := ⟨(hgrow.block _ (Nat.lt_of_lt_of_eq (by omega) HZ.out.symm) (fun e => by have := (HH.out.p.lt _ e.symm).2; omega)).trans ((Below.heap_alloc w2 _ _ (by omega)).trans P2.out)⟩
        have N1 : Put (w1.heap[w.heap.size + 1]? = some (.cells #[.int .i64 (pvs.length : Nat)] 3 (0, 0))) := ⟨(hgrow.block _ (Nat.lt_of_lt_of_eq (by omega) HZ.out.symm) (fun e => by have := (HH.out.p.lt _ e.symm).2; omega)).trans ((Below.heap_alloc w2 _ _ (by omega)).trans N2.out)⟩
        have FIN : Put (_ ∧ _) := ⟨f1, f2⟩
        have GR : Put (∀ k, k < w.heap.size → (Value.slice j.ap pvs.length j.cp).ownBlock ≠ some k → w1.heap[k]? = w.heap[k]?) := ⟨fun k hk hkr => (hgrow.block k (Nat.lt_of_lt_of_eq (by omega) HZ.out.symm) (fun e => hkr e.symm)).trans ((Below.heap_alloc w2 _ _ (by omega)).trans (HBL.out.block k hk))⟩
        clear g1 hown1 hgrow hat' f1 f2
        refine hK.out _ _ ?_ (fun _ => ?_)
        · first | exact hS0 | exact HS.out _ P2.out | exact HS.out _ ((Below.heap_alloc w2 _ _ (by omega)).trans P2.out) | exact HS.out _ P1.out | exact HS.out _ ((heap_setCell_other _ _ _ _ (by show w.heap.size ≠ B; omega)).trans P1.out)
        clear hK K
        (try simp only [Act.put, List.setIfInBounds_toArray])
        refine wpAnyH_ready (rs := [8]) (by kernel_rfl) (by simp) ?_
        refine AllReadyH.cons rfl (fun K hK => ?_) ?_
        ·
          go_simp
          refine hK.out _ _ ?_ (fun _ => ?_)
          · first | exact hS0 | exact HS.out _ P2.out | exact HS.out _ ((Below.heap_alloc w2 _ _ (by omega)).trans P2.out) | exact HS.out _ P1.out | exact HS.out _ ((heap_setCell_other _ _ _ _ (by show w.heap.size ≠ B; omega)).trans P1.out)
          clear hK K
          (try simp only [Act.put, List.setIfInBounds_toArray, List.set_cons_zero, List.set_cons_succ])
          refine wpAnyH_ready (rs := [9]) (by kernel_rfl) (by simp) ?_
          refine AllReadyH.cons rfl (fun K hK => ?_) ?_
          ·
            go_simp
            refine hK.out _ _ ?_ (fun _ => ?_)
            · first | exact hS0 | exact HS.out _ P2.out | exact HS.out _ ((Below.heap_alloc w2 _ _ (by omega)).trans P2.out) | exact HS.out _ P1.out | exact HS.out _ ((heap_setCell_other _ _ _ _ (by show w.heap.size ≠ B; omega)).trans P1.out)
            clear hK K
            (try simp only [Act.put, List.setIfInBounds_toArray, List.set_cons_zero, List.set_cons_succ])
            refine wpAnyH_ready (rs := [10]) (by kernel_rfl) (by simp) ?_
            refine AllReadyH.cons rfl (fun K hK => ?_) ?_
            ·
              go_simp
              refine hK.out _ _ ?_ (fun _ => ?_)
              · first | exact hS0 | exact HS.out _ P2.out | exact HS.out _ ((Below.heap_alloc w2 _ _ (by omega)).trans P2.out) | exact HS.out _ P1.out | exact HS.out _ ((heap_setCell_other _ _ _ _ (by show w.heap.size ≠ B; omega)).trans P1.out)
              clear hK K
              (try simp only [Act.put, List.setIfInBounds_toArray, List.set_cons_zero, List.set_cons_succ])
              refine wpAnyH_done (by kernel_rfl) ?_ _
              go_wp2
              go_ret
              refine ⟨w.heap.size + 1, some ⟨g, 0, none⟩, cap, rfl, by omega, ?_, ?_, ?_, ?_⟩
              · exact (heap_setCell_other _ _ _ _ (by show w.heap.size + 1 ≠ B; omega)).trans N1.out
              · have := FIN.out.1; rw [List.length_append] at this; exact this
              · have := FIN.out.2; rw [List.length_append] at this; exact (HB2.out.trans (Fr.of_below ((Below.refl _ w2).alloc (Nat.le_refl _) (.cells (PtV.cells p).toArray 160)).drew (by omega))).trans this
              · intro k hk hkB hkr; exact (heap_setCell_other _ _ _ _ (by exact hkB)).trans (GR.out k hk hkr)
            exact AllReadyH.nil
          exact AllReadyH.nil
        exact AllReadyH.nil
      exact AllReadyH.nil
    exact AllReadyH.nil
  exact AllReadyH.nil
end
end Go.Proofs.YtgoebckimmofoaaGreatDoor
