import Derived.Lib.TrailingZeros
import Derived.Test.YtgoebckimmofoaaGreatDoorRows
import Derived.WalkKit
import Derived.WalkSpells
import Derived.WalkLawsBesides
import Derived.Deep.QuietTactic
import Derived.BigQuiet
import Derived.RegionTactic
import Derived.Scope
import Derived.WalkMore
import Derived.Deep.LoopGhost
import Derived.Deep.AppendLies
import Derived.Deep.RegionHeld3
import Derived.Laws.Bits64b
import Derived.Laws.IdiomStrings
import Derived.Maps.AppendAt
import Derived.RangeFuncBox
import Derived.Deep.RegionLaw
import Derived.Deep.RegionHeld
import Derived.RangeFuncNested
import Derived.RangeFuncBound
import Derived.RangeFuncCalls
import Derived.RangeFuncLeaves
import Derived.Shelf.Abstract
import Derived.Shelf.RegionOpen
import Derived.OwnWalkIn
import Derived.TacticsInMore
import Derived.LoopNIn
import Derived.LoopIn
import Derived.Stop.RegionWithIn
import Derived.Test.YtgoebckimmofoaaGreatDoorM1
import Derived.Test.YtgoebckimmofoaaGreatDoorM2
import Derived.Test.YtgoebckimmofoaaGreatDoorM3
import Derived.Test.YtgoebckimmofoaaGreatDoorM4
import Derived.Test.YtgoebckimmofoaaGreatDoorM5
import Derived.Test.YtgoebckimmofoaaGreatDoorM6
import Derived.Test.YtgoebckimmofoaaGreatDoorM7
import Derived.Test.YtgoebckimmofoaaGreatDoorCards
import Derived.Test.YtgoebckimmofoaaGreatDoorTie
import Derived.ProofKit
import Derived.OpenShut
import Derived.Deep.DeepHandedRow
import Derived.Lib.LaidTab
import Derived.LaidMore
import Derived.MakeChecks
import Derived.SizedLaws
import Derived.SliceStrings
import Derived.Carry
/- What is so of a model that Check takes. Pure. Our own text. -/
namespace Go.Proofs.YtgoebckimmofoaaGreatDoor

section
variable {s : ByteArray}
theorem qTerm_rng {q q' : Q} {a : Tm} (h : qTerm s q = (some a, q')) : 0 ≤ a.2.1 ∧ a.2.1 ≤ 3 ∧ 0 ≤ a.2.2 := by
  unfold qTerm at h
  split at h
  · simp at h; obtain ⟨rfl, _⟩ := h; exact ⟨by simp, by simp, by simp⟩
  · split at h
    · next n hn =>
      simp at h; obtain ⟨rfl, _⟩ := h
      have : n ≤ 3 := by
        cases q with
        | ok i => exact (num_le hn).2
        | error p => cases hn
      exact ⟨by simp, by simp; omega, by simp⟩
    · simp at h
/-- What a condition's ast is like, read of a text. -/
def PC (c : Tm × Tm) : Prop := (0 ≤ c.1.2.1 ∧ c.1.2.1 ≤ 3 ∧ 0 ≤ c.1.2.2) ∧ 0 ≤ c.2.2.1 ∧ c.2.2.1 ≤ 3 ∧ 0 ≤ c.2.2.2
def PD (s : ByteArray) (c : Chg) : Prop := 0 ≤ c.1 ∧ c.1 ≤ 2 ∧ 0 ≤ c.2.1 ∧ (0 ≤ c.2.2.2.2.1 ∧ c.2.2.2.2.1 ≤ 3 ∧ 0 ≤ c.2.2.2.2.2) ∧ 0 ≤ moreAt s c.2.2.1 c.2.2.2.2.2 ∧ moreAt s c.2.2.1 c.2.2.2.2.2 ≤ 3 ∧ (c.2.2.1 = true → c.2.2.2.1 = 0)
theorem qCond_rng {q q' : Q} {c : Tm × Tm} (h : qCond s q = (some c, q')) : PC c := by
  unfold qCond at h
  split at h
  · simp at h
  · next a q1 h1 =>
    split at h
    · split at h
      · simp at h
      · next b q2 h2 =>
        simp at h
        obtain ⟨rfl, _⟩ := h
        exact ⟨qTerm_rng h1, qTerm_rng h2⟩
    · simp at h
theorem qChange_rng {q q' : Q} {c : Chg} (h : qChange s q = (some c, q')) : PD s c := by
  unfold qChange at h
  split at h
  · simp at h
  · next k hk =>
    have hk2 : k ≤ 2 := by
      cases q with
      | ok i => exact (num_le hk).2
      | error p => cases hk
    split at h
    · simp at h
    · split at h
      · simp at h; obtain ⟨rfl, _⟩ := h
        exact ⟨by simp, by simp; omega, by simp, by simp, by simp [moreAt], by simp [moreAt], fun _ => rfl⟩
      · split at h
        · simp at h
        · next a q3 h4 =>
          split at h
          · next h5 =>
            simp at h; obtain ⟨rfl, _⟩ := h
            have hm := more_none h4 h5
            exact ⟨by simp, by simp; omega, by simp, qTerm_rng h4, by show 0 ≤ moreAt s false a.2.2; omega, by show moreAt s false a.2.2 ≤ 3; omega, fun h => by cases h⟩
          · next k5 h5 =>
            split at h
            · simp at h
            · next kd h6 =>
              simp at h; obtain ⟨rfl, _⟩ := h
              have hm := more_some h4 h5 h6
              have hd : kd ≤ 3 := by
                obtain ⟨i, rfl⟩ := qTerm_some h4
                exact (num_le h6).2
              exact ⟨by simp, by simp; omega, by simp, qTerm_rng h4, by show 0 ≤ moreAt s false a.2.2; omega, by show moreAt s false a.2.2 ≤ 3; omega, fun h => by cases h⟩
theorem qLoop1_all : ∀ (f : Nat) (b : Bool) (q : Q) (acc l : List (Tm × Tm)) (q' : Q), qLoop1 s f b q acc = (some l, q') → (∀ c ∈ acc, PC c) → ∀ c ∈ l, PC c
  | 0, false, q, acc, l, q', h, ha => by simp [qLoop1] at h; obtain ⟨rfl, _⟩ := h; exact ha
  | f + 1, false, q, acc, l, q', h, ha => by simp [qLoop1] at h; obtain ⟨rfl, _⟩ := h; exact ha
  | 0, true, q, acc, l, q', h, _ => by simp [qLoop1] at h
  | f + 1, true, q, acc, l, q', h, ha => by
    unfold qLoop1 at h
    split at h
    · simp at h
    · next c q1 hc =>
      have hc' := tied_snoc (p := PC) ha (qCond_rng hc)
      split at h
      · exact qLoop1_all f true _ _ l q' h hc'
      · exact qLoop1_all f false _ _ l q' h hc'
theorem qLoop2_all : ∀ (f : Nat) (b : Bool) (q : Q) (acc l : List Chg) (q' : Q), qLoop2 s f b q acc = (some l, q') → (∀ c ∈ acc, PD s c) → ∀ c ∈ l, PD s c
  | 0, false, q, acc, l, q', h, ha => by simp [qLoop2] at h; obtain ⟨rfl, _⟩ := h; exact ha
  | f + 1, false, q, acc, l, q', h, ha => by simp [qLoop2] at h; obtain ⟨rfl, _⟩ := h; exact ha
  | 0, true, q, acc, l, q', h, _ => by simp [qLoop2] at h
  | f + 1, true, q, acc, l, q', h, ha => by
    unfold qLoop2 at h
    split at h
    · simp at h
    · next c q1 hc =>
      have hc' := tied_snoc (p := PD s) ha (qChange_rng hc)
      split at h
      · exact qLoop2_all f true _ _ l q' h hc'
      · exact qLoop2_all f false _ _ l q' h hc'
theorem qRule_all {q q' : Q} {r : RA} (h : qRule s q = (some r, q')) : (∀ c ∈ r.1, PC c) ∧ ∀ c ∈ r.2, PD s c := by
  unfold qRule at h
  split at h
  · simp at h
  · next cs q1 h1 =>
    split at h
    · simp at h
    · split at h
      · simp at h
      · next ds q2 h2 =>
        simp at h; obtain ⟨rfl, _⟩ := h
        exact ⟨qLoop1_all _ _ _ _ _ _ h1 (by simp), qLoop2_all _ _ _ _ _ _ h2 (by simp)⟩
theorem qRules_all : ∀ (f i : Nat) (acc l : List RA) (q' : Q), qRules s f i acc = (some l, q') → (∀ r ∈ acc, (∀ c ∈ r.1, PC c) ∧ ∀ c ∈ r.2, PD s c) → ∀ r ∈ l, (∀ c ∈ r.1, PC c) ∧ ∀ c ∈ r.2, PD s c
  | 0, i, acc, l, q', h, _ => by simp [qRules] at h
  | f + 1, i, acc, l, q', h, ha => by
    unfold qRules at h
    split at h
    · split at h
      · simp at h
      · split at h
        · simp at h
        · split at h
          · simp at h
          · next r q1 hr => exact qRules_all f _ _ l q' h (tied_snoc (p := fun r : RA => (∀ c ∈ r.1, PC c) ∧ ∀ c ∈ r.2, PD s c) ha (qRule_all hr))
    · simp at h; obtain ⟨rfl, _⟩ := h; exact ha
def PV (v : VA) : Prop := 1 ≤ v.1 ∧ v.1 ≤ 3 ∧ ∀ x ∈ v.2.1, x ≤ 3
theorem qFirst_all : ∀ (f n j : Nat) (acc : List Nat), (∀ x ∈ acc, x ≤ 3) → ∀ x ∈ (qFirst s f n j acc).1, x ≤ 3
  | 0, _, _, _, ha => ha
  | f + 1, n, j, acc, ha => by
    unfold qFirst
    split
    · next v hv => exact qFirst_all f _ _ _ (tied_snoc (p := fun x => x ≤ 3) ha (num_le hv).2)
    · exact ha
theorem qVar_rng {k : Nat} {q q' : Q} {v : VA} (h : qVar s k q = (some v, q')) : PV v := by
  unfold qVar at h
  split at h
  · simp at h
  · next n j hb =>
    have h1 := qBet_le (s := s) (q := qMust s q (97 + k)) 49 2
    have h2 := qBet_le (s := s) (q := (qMust s (qBet s (qMust s q (97 + k)) 49 2).2 61)) 48 3
    rw [hb] at h2
    simp only [Prod.mk.injEq, Option.some.injEq] at h
    obtain ⟨rfl, _⟩ := h
    exact ⟨by simp, by show _ + 1 ≤ 3; omega, qFirst_all _ _ _ _ (by simp; exact h2)⟩
theorem qVars_all : ∀ (f : Nat) (q : Q) (acc l : List VA) (q' : Q), qVars s f q acc = (some l, q') → acc.length + f = 3 → (∀ v ∈ acc, PV v) → (∀ v ∈ l, PV v) ∧ l.length ≤ 3 ∧ (0 < f → 1 ≤ l.length) ∧ acc.length ≤ l.length
  | 0, q, acc, l, q', h, hl, ha => by simp [qVars] at h; obtain ⟨rfl, _⟩ := h; exact ⟨ha, by omega, by omega, Nat.le_refl _⟩
  | f + 1, q, acc, l, q', h, hl, ha => by
    unfold qVars at h
    split at h
    · simp at h
    · next v q1 hv =>
      have hc := tied_snoc (p := PV) ha (qVar_rng hv)
      split at h
      · split at h
        · obtain ⟨a, b, c, d⟩ := qVars_all f _ _ l q' h (by simp; omega) hc
          simp at d
          exact ⟨a, b, fun _ => by omega, by omega⟩
        · simp at h; obtain ⟨rfl, _⟩ := h; exact ⟨hc, by simp; omega, by simp, by simp⟩
      · simp at h; obtain ⟨rfl, _⟩ := h; exact ⟨hc, by simp; omega, by simp, by simp⟩
theorem qRead_all {va : List VA} {ra : List RA} {q' : Q} (h : qRead s = (some (va, ra), q')) : (∀ v ∈ va, PV v) ∧ 1 ≤ va.length ∧ va.length ≤ 3 ∧ ∀ r ∈ ra, (∀ c ∈ r.1, PC c) ∧ ∀ c ∈ r.2, PD s c := by
  unfold qRead at h
  split at h
  · simp at h
  · next vs q hv =>
    split at h
    · simp at h
    · next rs q2 hr =>
      simp at h; obtain ⟨⟨rfl, rfl⟩, _⟩ := h
      obtain ⟨a, b, c, _⟩ := qVars_all 3 _ _ _ _ hv rfl (by simp)
      exact ⟨a, c (by omega), b, qRules_all _ _ _ _ _ hr (by simp)⟩
end
theorem fb_none {top at_ : Nat} : ∀ {l : List Nat} {k : Nat}, fb top at_ l k = none → ∀ x ∈ l, x ≤ top
  | [], _, _ => by simp
  | y :: l, k, h => by
    unfold fb at h
    split at h
    · cases h
    · intro x hx
      rcases List.mem_cons.1 hx with rfl | hx
      · omega
      · exact fb_none h x hx
theorem fb_code {top at_ : Nat} : ∀ {l : List Nat} {k : Nat} {y : Nat × Int}, fb top at_ l k = some y → y.1 ≠ 0
  | [], _, _, h => by cases h
  | x :: l, k, y, h => by
    unfold fb at h
    split at h
    · simp at h; subst h; simp
    · exact fb_code h
theorem wv_none : ∀ {l : List VA}, wv l = none → ∀ v ∈ l, ∀ x ∈ v.2.1, x ≤ v.1
  | [], _ => by simp
  | u :: l, h => by
    unfold wv at h
    split at h
    · cases h
    · next hf =>
      intro v hv
      rcases List.mem_cons.1 hv with rfl | hv
      · exact fb_none hf
      · exact wv_none h v hv
theorem wv_code : ∀ {l : List VA} {y : Nat × Int}, wv l = some y → y.1 ≠ 0
  | [], _, h => by cases h
  | u :: l, y, h => by
    unfold wv at h
    split at h
    · next x hx => cases h; exact fb_code hx
    · exact wv_code h
theorem wc_none {n : Nat} : ∀ {l : List (Tm × Tm)}, (∀ c ∈ l, PC c) → wc n l = none → ∀ c ∈ l, c.1.1 < (n : Int) ∧ c.2.1 < (n : Int)
  | [], _, _ => by simp
  | u :: l, hp, h => by
    unfold wc at h
    split at h
    · cases h
    · next hu =>
      intro c hc
      rcases List.mem_cons.1 hc with rfl | hc
      · have h1 := hp c (by simp)
        unfold unnamed at hu
        split at hu
        · exact absurd h1.1.2.2 hu
        · split at hu
          · exact absurd h1.2.2.2 hu
          · omega
      · exact wc_none (fun d hd => hp d (by simp [hd])) h c hc
theorem wc_code {n : Nat} : ∀ {l : List (Tm × Tm)} {y : Nat × Int}, wc n l = some y → y.1 ≠ 0
  | [], _, h => by cases h
  | u :: l, y, h => by
    unfold wc at h
    split at h
    · cases h; simp
    · exact wc_code h
theorem wd_none {n : Nat} : ∀ {l pre : List Chg}, wd n pre l = none → (∀ c ∈ l, c.1 < (n : Int) ∧ (c.2.2.1 = false → c.2.2.2.1 < (n : Int)) ∧ ∀ d ∈ pre, d.1 ≠ c.1) ∧ (l.map Prod.fst).Nodup
  | [], _, _ => by simp
  | u :: l, pre, h => by
    unfold wd at h
    split at h
    · next hu =>
      obtain ⟨a, b⟩ := wd_none h
      have h1 : ¬ (n : Int) ≤ u.1 ∧ pre.any (fun d => decide (d.1 = u.1)) = false ∧ ¬ (u.2.2.1 = false ∧ (n : Int) ≤ u.2.2.2.1) := by
        unfold twiceP at hu
        split at hu
        · simp at hu
        · next g1 =>
          split at hu
          · simp at hu
          · next g2 =>
            split at hu
            · simp at hu
            · next g3 => exact ⟨g1, Bool.eq_false_iff.2 g2, g3⟩
      have h2 : ∀ d ∈ pre, d.1 ≠ u.1 := by
        intro d hd e
        have := h1.2.1
        rw [List.any_eq_false] at this
        exact this d hd (by simpa using e)
      refine ⟨fun c hc => ?_, ?_⟩
      · rcases List.mem_cons.1 hc with rfl | hc
        · exact ⟨by omega, fun hf => by have := h1.2.2; simp [hf] at this; omega, h2⟩
        · obtain ⟨a1, a2, a3⟩ := a c hc
          exact ⟨a1, a2, fun d hd => a3 d (by simp [hd])⟩
      · rw [List.map_cons, List.nodup_cons]
        refine ⟨fun hm => ?_, b⟩
        obtain ⟨c, hc, e⟩ := List.mem_map.1 hm
        exact (a c hc).2.2 u (by simp) e.symm
    · cases h
theorem wd_code {n : Nat} : ∀ {l pre : List Chg} {y : Nat × Int}, wd n pre l = some y → y.1 ≠ 0
  | [], _, _, h => by cases h
  | u :: l, pre, y, h => by
    unfold wd at h
    split at h
    · exact wd_code h
    · next hu => cases h; exact hu
theorem wr_none {n : Nat} : ∀ {l : List RA}, wr n l = none → ∀ r ∈ l, wc n r.1 = none ∧ wd n [] r.2 = none
  | [], _ => by simp
  | u :: l, h => by
    unfold wr at h
    split at h
    · cases h
    · next h1 =>
      split at h
      · cases h
      · next h2 =>
        intro r hr
        rcases List.mem_cons.1 hr with rfl | hr
        · exact ⟨h1, h2⟩
        · exact wr_none h r hr
theorem wr_code {n : Nat} : ∀ {l : List RA} {y : Nat × Int}, wr n l = some y → y.1 ≠ 0
  | [], _, h => by cases h
  | u :: l, y, h => by
    unfold wr at h
    split at h
    · next x hx => cases h; exact wc_code hx
    · split at h
      · next x hx => cases h; exact wd_code hx
      · exact wr_code h
theorem wrong_none {vs : List VA} {rs : List RA} (h : (wrongP vs rs).1 = 0) : wv vs = none ∧ wr vs.length rs = none := by
  unfold wrongP at h
  cases h1 : wv vs with
  | some x => rw [h1] at h; exact absurd h (wv_code h1)
  | none =>
    rw [h1] at h
    cases h2 : wr vs.length rs with
    | some x => rw [h2] at h; exact absurd h (wr_code h2)
    | none => exact ⟨rfl, rfl⟩
/-- All that is so of a good model. -/
theorem good_model {s : ByteArray} {vs : List V3} {rs : List R2} {q' : Q} (h : qRead s = (some (vs.map V3.ast, rs.map R2.ast), q')) (hw : (wrongP (vs.map V3.ast) (rs.map R2.ast)).1 = 0) (ht : ∀ r ∈ rs, R2.Tied s r) :
    1 ≤ vs.length ∧ vs.length ≤ 3 ∧ (∀ v ∈ vs, (1 ≤ v.top ∧ v.top ≤ 3) ∧ ∀ x ∈ v.l, x ≤ v.top) ∧ ∀ r ∈ rs, RuleOk s vs.length r := by
  obtain ⟨a, b, c, d⟩ := qRead_all h
  obtain ⟨e, f⟩ := wrong_none hw
  rw [List.length_map] at b c f
  refine ⟨b, c, fun v hv => ?_, fun r hr => ?_⟩
  · have h1 := a v.ast (List.mem_map_of_mem hv)
    have h2 := wv_none e v.ast (List.mem_map_of_mem hv)
    exact ⟨⟨h1.1, h1.2.1⟩, h2⟩
  · obtain ⟨d1, d2⟩ := d r.ast (List.mem_map_of_mem hr)
    obtain ⟨f1, f2⟩ := wr_none f r.ast (List.mem_map_of_mem hr)
    have g1 := wc_none d1 f1
    obtain ⟨g2, g3⟩ := wd_none f2
    refine ⟨ht r hr, fun c hc => ?_, fun c hc => ?_, ?_⟩
    · have hm : c.ast ∈ r.ast.1 := List.mem_map_of_mem hc
      have k1 := d1 _ hm
      have k2 := g1 _ hm
      exact ⟨⟨k2.1, k1.1.1, k1.1.2.1⟩, ⟨k2.2, k1.2.1, k1.2.2.1⟩⟩
    · have hm : c.ast ∈ r.ast.2 := List.mem_map_of_mem hc
      have k1 := d2 _ hm
      have k2 := g2 _ hm
      have ht' : c.more = moreAt s c.any c.t2 := (ht r hr).2 c hc
      have m1 : 0 ≤ moreAt s c.any c.t2 := k1.2.2.2.2.1
      have m2 : moreAt s c.any c.t2 ≤ 3 := k1.2.2.2.2.2.1
      refine ⟨k1.1, k2.1, ⟨?_, k1.2.2.2.1.1, k1.2.2.2.1.2.1⟩, by rw [ht']; exact m1, by rw [ht']; exact m2⟩
      cases hany : c.any with
      | false => exact k2.2.1 hany
      | true =>
        have : c.t0 = 0 := k1.2.2.2.2.2.2 hany
        show c.t0 < (vs.length : Int)
        omega
    · have : r.ast.2.map Prod.fst = r.dl.map D7.v := by simp [R2.ast, D7.ast, Function.comp_def]
      rw [← this]; exact g3
end Go.Proofs.YtgoebckimmofoaaGreatDoor

/- A state's number from its text. Our own text. -/
namespace Go.Proofs.YtgoebckimmofoaaGreatDoor
open Go.RowKit Go.Lib

/-- The text is a state's, of n variables with these greatest values. -/
def OkS (s : ByteArray) (n : Nat) (g : Nat → Nat) : Prop := s.size = n ∧ ∀ k (h : k < s.size), 48 ≤ s[k].toNat ∧ s[k].toNat ≤ 48 + g k
/-- The state's number that it is the text of. -/
def IsS (s : ByteArray) (n : Nat) (g : Nat → Nat) (x : Nat) : Prop := x < 64 ∧ s.size = n ∧ (∀ k (h : k < s.size), s[k].toNat = 48 + dig x k ∧ dig x k ≤ g k) ∧ ∀ k, n ≤ k → k < 3 → dig x k = 0

set_option maxRecDepth 100000 in
set_option maxHeartbeats 1000000 in
theorem state_any (B n : Nat) (g f : Nat → Nat) (hn : n ≤ 3) (hg : ∀ k, g k ≤ 3) (s : ByteArray) (_hs : s.size ≤ maxLen) (w : World) (hm : MC B g f n w) (hB : B < w.heap.size) :
    Calls Tryz.prog 35 #[.pointer (some ⟨B, 0, none⟩), .string s] w fun e w' => ((∃ x, IsS s n g x ∧ e = .returned (.tuple #[.int .u8 (x : Nat), .bool true])) ∨ (¬ OkS s n g ∧ ∃ y : Value, e = .returned (.tuple #[y, .bool false]))) ∧ Below w.heap.size w w' := by
  have hc := hm.2
  by_cases hsz : s.size = n
  · have h1 : ((s.size : Int) == (n : Int)) = true := by simp; omega
    have n0 : (0 : Int) ≤ (n : Int) := by omega
    have n3 : (n : Int) ≤ 3 := by omega
    go_enter Tryz.func35, Tryz.ntmps35
    go_wp2_with fail
    go_quiet (fail)
    go_wp2_with fail
    go_loopg [6, 27] n (fun gk sv iv wr => ∃ (i a : Nat), iv = .int .i64 i ∧ sv = .int .u8 (a : Nat) ∧ i + gk = n ∧ Below w.heap.size w wr ∧ a < 64 ∧ (∀ k (h : k < s.size), k < i → s[k].toNat = 48 + dig a k ∧ dig a k ≤ g k) ∧ ∀ k, i ≤ k → k < 3 → dig a k = 0)
    case atStart => exact ⟨0, 0, rfl, rfl, by omega, below_drewN (Below.refl _ _) _, by omega, fun k _ h => by omega, fun k _ _ => dig_zero k⟩
    case round =>
      obtain ⟨i, a, rfl, rfl, hik, hBr, ha, hpre, hpost⟩ := hrel
      have HPRE : Put (_) := ⟨hpre⟩
      have HPOST : Put (_) := ⟨hpost⟩
      clear hpre hpost
      by_cases hlt : i < n
      · have hlt' : (i : Int) < (n : Int) := by omega
        have i0 : (0 : Int) ≤ (i : Int) := by omega
        obtain ⟨g', rfl⟩ : ∃ g', gk = g' + 1 := ⟨gk - 1, by omega⟩
        obtain ⟨c1, c2⟩ := (hm.below hBr hB).1 i (by omega)
        have hgi := hg i
        have hsr := hBr.size
        have his : i < s.size := by omega
        have his' : (i : Int) < (s.size : Int) := by omega
        obtain ⟨b, hb⟩ : ∃ b : Nat, s[i].toNat = b := ⟨_, rfl⟩
        have hb255 : b < 256 := by rw [← hb]; exact s[i].toNat_lt
        by_cases hok : 48 ≤ b ∧ b ≤ 48 + g i
        · have k1 : ¬ ((b : Int) - 48 < 0) := by omega
          have k2 : ¬ ((g i : Int) < (b : Int) - 48) := by omega
          go_wp2_with fail
          have hBa := hBr.alloc hsr (.cells #[.int .i64 (g i), .int .u8 (f i)] 109)
          obtain ⟨v, rfl⟩ : ∃ v, b = 48 + v := ⟨b - 48, by omega⟩
          have ev : ((48 + v : Nat) : Int) - 48 = (v : Int) := by omega
          have hv4 : v < 4 := by omega
          have hcall := with_any a i v ha (by omega) hv4 (wr.alloc (.cells #[.int .i64 (g i), .int .u8 (f i)] 109))
          rw [← ev] at hcall
          refine hcall.mono ?_
          rintro e w2 ⟨rfl, mq, rfl⟩
          have hB2 : Below w.heap.size w ((wr.alloc (.cells #[.int .i64 (g i), .int .u8 (f i)] 109)).drewN mq) := below_drewN hBa mq
          have ha2 : stW a i v < 64 := stW_lt ha (by omega) hv4
          have HD : Put (∀ j, j < 3 → dig (stW a i v) j = if j = i then v else dig a j) := ⟨fun j hj => dig_stW ha (by omega) hv4 hj⟩
          generalize stW a i v = a2 at ha2 HD
          clear hcall
          generalize (wr.alloc (.cells #[.int .i64 (g i), .int .u8 (f i)] 109)).drewN mq = w2 at *
          clear c1 c2 hBa hBr
          go_wp2
          go_roundg g'
          case measure => exact Nat.lt_succ_self _
          case rel =>
            refine ⟨i + 1, a2, by go_num, rfl, by omega, hB2, ha2, fun k h hk => ?_, fun k h hk => ?_⟩
            · rw [HD.out k (by omega)]
              by_cases e : k = i
              · subst e; rw [if_pos rfl]; exact ⟨hb, by omega⟩
              · rw [if_neg e]; exact HPRE.out k h (by omega)
            · rw [HD.out k hk, if_neg (by omega)]; exact HPOST.out k (by omega) hk
        · have HNO : Put (¬ OkS s n g) := ⟨fun h => hok (by have := h.2 i his; rw [hb] at this; exact this)⟩
          by_cases hb48 : b < 48
          · have k1 : ((b : Int) - 48 < 0) := by omega
            go_wp2
            go_ret2
            exact ⟨.inr ⟨HNO.out, _, rfl⟩, hBr.alloc hsr _⟩
          · have k1 : ¬ ((b : Int) - 48 < 0) := by omega
            have k2 : ((g i : Int) < (b : Int) - 48) := by omega
            go_wp2
            go_ret2
            exact ⟨.inr ⟨HNO.out, _, rfl⟩, hBr.alloc hsr _⟩
      · obtain rfl : i = n := by omega
        have hlt' : ¬ ((i : Int) < (i : Int)) := by omega
        go_wp2
        go_ret2
        exact ⟨.inl ⟨a, ⟨ha, hsz, fun k h => HPRE.out k h (by omega), HPOST.out⟩, rfl⟩, hBr⟩
  · have h1 : ((s.size : Int) == (n : Int)) = false := by simp; omega
    go_enter Tryz.func35, Tryz.ntmps35
    go_wp2
    go_ret2
    exact ⟨.inr ⟨fun h => hsz h.1, _, rfl⟩, Below.refl _ _⟩
end Go.Proofs.YtgoebckimmofoaaGreatDoor

/- The reference: whether a text is a state's. Our own text. -/
namespace Go.Proofs.YtgoebckimmofoaaGreatDoor
open Go.RowKit

/-- The same, of the reference's variables. -/
def okT (s : ByteArray) (tops : List Nat) : Prop := s.size = tops.length ∧ ∀ k (h : k < s.size) (h' : k < tops.length), 48 ≤ s[k].toNat ∧ s[k].toNat ≤ 48 + tops[k]

section
variable {w : World}
set_option maxRecDepth 100000 in
set_option maxHeartbeats 1600000 in
theorem rstate_any (ao aor : Option Addr) (cap nr capr base : Nat) (vs : List V3) (s : ByteArray) (h3 : vs.length ≤ 3) (hs : s.size ≤ maxLen)
    (hv : w.ownsRow base 139 3 (.slice ao vs.length cap) vs.length (vs.flatMap V3.cells)) :
    Calls Tryz.prog 37 #[.agg #[.slice ao vs.length cap, .slice aor nr capr], .string s] w fun e w' => (∃ (y : Value) (b : Bool), e = .returned (.tuple #[y, .bool b]) ∧ (b = true ↔ okT s (vs.map V3.top))) ∧ Below w.heap.size w w' := by
  have hA := heap_alloc_new w (.cells #[.slice ao vs.length cap, .slice aor nr capr] 65)
  have hBel : Below w.heap.size w (w.alloc (.cells #[.slice ao vs.length cap, .slice aor nr capr] 65)) := (Below.refl _ _).alloc (Nat.le_refl _) _
  have hsw : (w.alloc (.cells #[.slice ao vs.length cap, .slice aor nr capr] 65)).heap.size = w.heap.size + 1 := by simp
  obtain ⟨n0, n1, nf⟩ := cell2 hA
  have HV : Put (w.ownsRow base 139 3 (.slice ao vs.length cap) vs.length (vs.flatMap V3.cells)) := ⟨hv⟩
  obtain ⟨i0, hi, hz0, hz1, hz2⟩ := info_parts Tryz.info3
  clear hv hA nf n1
  by_cases hsz : s.size = vs.length
  · have h1 : ((s.size : Int) == (vs.length : Int)) = true := by simp; omega
    go_enter Tryz.func37, Tryz.ntmps37
    go_wp2_with fail
    generalize w.alloc (.cells #[.slice ao vs.length cap, .slice aor nr capr] 65) = w1 at *
    go_loopg [6, 7] s.size (fun gk lv iv wr => ∃ (i : Nat), iv = .int .i64 i ∧ i + gk = s.size ∧ (∃ xs : List Value, xs.length = i ∧ wr.ownsRow w1.heap.size 3 1 lv i xs) ∧ Below w1.heap.size w1 wr ∧ ∀ k (h : k < s.size) (h' : k < (vs.map V3.top).length), k < i → 48 ≤ s[k].toNat ∧ s[k].toNat ≤ 48 + (vs.map V3.top)[k])
    case atStart => exact ⟨0, rfl, by omega, ⟨[], rfl, World.ownsRow_nil _ _ _ _⟩, Below.refl _ _, fun k _ _ h => by omega⟩
    case round =>
      obtain ⟨i, rfl, hik, ⟨xs, hxl, hrow⟩, hBr, hpre⟩ := hrel
      have HPRE : Put (_) := ⟨hpre⟩
      clear hpre
      have c0 := (hBr.cell (p := ⟨w.heap.size, 0, none⟩) (by show w.heap.size < w1.heap.size; omega)).trans n0
      have hsr := hBr.size
      have hBw : Below w.heap.size w wr := hBel.trans (hBr.mono (by omega))
      by_cases hlt : i < s.size
      · have hlt' : (i : Int) < (s.size : Int) := by omega
        have i0' : (0 : Int) ≤ (i : Int) := by omega
        have hiv : i < vs.length := by omega
        have hiv' : (i : Int) < (vs.length : Int) := by omega
        obtain ⟨g', rfl⟩ : ∃ g', gk = g' + 1 := ⟨gk - 1, by omega⟩
        obtain ⟨gv, rfl, hgv1, hgv2, hgv3, hcv⟩ := row_at V3.len HV.out (by omega)
        have v0 := (hBw.cell (p := ⟨gv, i * 3 + 0, none⟩) hgv2).trans (hcv i hiv 0 (by omega))
        simp only [V3.cells, V3.vf, List.getElem?_cons_zero, Nat.add_zero] at v0
        obtain ⟨b, hb⟩ : ∃ b : Nat, s[i].toNat = b := ⟨_, rfl⟩
        have hb255 : b < 256 := by rw [← hb]; exact s[i].toNat_lt
        have HTP : Put (∀ h : i < (vs.map V3.top).length, (vs.map V3.top)[i] = vs[i].top) := ⟨fun h => by simp⟩
        generalize vs[i].top = tp at v0 HTP
        clear hcv
        by_cases hok : 48 ≤ b ∧ b ≤ 48 + tp
        · have k1 : ¬ ((b : Int) < 48) := by omega
          have k2 : ¬ ((tp : Int) < (b : Int) - 48) := by omega
          have hd1 : decide ((b : Int) < 48) = false := by simp; omega
          have hd2 : decide ((tp : Int) < (b : Int) - 48) = false := by simp; omega
          have hw64 : IntKind.i64.wrap ((b : Int) - 48) = (b : Int) - 48 := by simp [IntKind.wrap, IntKind.signed, IntKind.bits]; omega
          have hw8 : IntKind.u8.wrap ((b : Int) - 48) = (b : Int) - 48 := by simp [IntKind.wrap, IntKind.signed, IntKind.bits]; omega
          go_wp2_with fail
          go_quiet (fail)
          have hoN : (wr.drewN nq).ownsRow w1.heap.size 3 1 u6 i xs := hrow
          have hBN : Below w1.heap.size w1 (wr.drewN nq) := below_drewN hBr nq
          generalize wr.drewN nq = wz at *
          have hsz' := hBN.size
          clear v0 c0 hBr hBw hrow
          go_wp2_with (at_builtin; refine wpList_append_own _ rfl _ _ 73 rfl w1.heap.size 3 i0 _ 1 8 Tryz.underlying73 hi hz0 hz1 hz2 rfl Nat.one_pos u6 i xs rfl (hoN.alloc _) ⟨wz.heap.size, 0, none⟩ 1 1 [.int .i64 ((b : Int) - 48)] rfl rfl (cell_one_new _ _ _) (by simp [Value.oneCell']) (by omega) (by omega) (by simp; omega) ?_)
          intro v' w5 hown' hgrow _
          obtain ⟨g5, cap5, rfl⟩ := ownsRow_succ hown'
          have hB5 : Below w1.heap.size w1 w5 := (hBN.alloc hsz' _).grown hgrow (by simp; omega) (fun k e => (hoN.lt k e).1)
          have HR5 : Put (_) := ⟨hown'⟩
          clear hown' hgrow hoN hBN
          go_wp2
          go_roundg g'
          case measure => exact Nat.lt_succ_self _
          case rel =>
            refine ⟨i + 1, by go_num, by omega, ⟨xs ++ [.int .i64 ((b : Int) - 48)], by simp [hxl], by rw [hsw]; exact HR5.out⟩, hB5, fun k h h' hk => ?_⟩
            by_cases e : k = i
            · subst e; rw [hb, HTP.out h']; exact hok
            · exact HPRE.out k h h' (by omega)
        · have HNO : Put (¬ okT s (vs.map V3.top)) := ⟨fun h => hok (by have := h.2 i hlt (by simpa using hiv); rw [hb, HTP.out] at this; exact this)⟩
          have hF : (false = true ↔ okT s (vs.map V3.top)) := by simpa using HNO.out
          have HF : Put (_) := ⟨hF⟩
          clear hF
          by_cases hb48 : b < 48
          · have k1 : ((b : Int) < 48) := by omega
            have hd1 : decide ((b : Int) < 48) = true := by simp; omega
            go_wp2_with fail
            go_quiet (fail)
            go_wp2
            go_ret2
            exact ⟨⟨_, false, rfl, HF.out⟩, below_drewN hBw _⟩
          · have k1 : ¬ ((b : Int) < 48) := by omega
            have k2 : ((tp : Int) < (b : Int) - 48) := by omega
            have hd1 : decide ((b : Int) < 48) = false := by simp; omega
            have hd2 : decide ((tp : Int) < (b : Int) - 48) = true := by simp; omega
            have hw64 : IntKind.i64.wrap ((b : Int) - 48) = (b : Int) - 48 := by simp [IntKind.wrap, IntKind.signed, IntKind.bits]; omega
            have hw8 : IntKind.u8.wrap ((b : Int) - 48) = (b : Int) - 48 := by simp [IntKind.wrap, IntKind.signed, IntKind.bits]; omega
            go_wp2_with fail
            go_quiet (fail)
            go_wp2
            go_ret2
            exact ⟨⟨_, false, rfl, HF.out⟩, below_drewN hBw _⟩
      · obtain rfl : i = s.size := by omega
        have hlt' : ¬ ((s.size : Int) < (s.size : Int)) := by omega
        have HF : Put (true = true ↔ okT s (vs.map V3.top)) := ⟨⟨fun _ => ⟨by simpa using hsz, fun k h h' => HPRE.out k h h' h⟩, fun _ => rfl⟩⟩
        obtain ⟨aol, capl, rfl⟩ := owned_slice' hrow
        go_wp2
        go_ret2
        first
          | exact ⟨⟨_, true, rfl, HF.out⟩, hBw⟩
          | exact ⟨⟨_, .inr ⟨rfl, by simpa using HF.out⟩⟩, hBw⟩
  · have h1 : ((s.size : Int) == (vs.length : Int)) = false := by simp; omega
    go_enter Tryz.func37, Tryz.ntmps37
    go_wp2
    go_ret2
    refine ⟨⟨_, false, rfl, ?_⟩, hBel⟩
    simp only [Bool.false_eq_true, false_iff]
    exact fun h => hsz (by simpa using h.1)
end
end Go.Proofs.YtgoebckimmofoaaGreatDoor

/- The reference's Check, First and Next, walked. Our own text. -/
namespace Go.Proofs.YtgoebckimmofoaaGreatDoor
open Go.RowKit

def rCheck (s : ByteArray) : Nat × Int := if 120 < s.size then (1, 0) else match qRead s with
  | (none, q) => (2, (q.pos : Int))
  | (some x, _) => wrongP x.1 x.2
theorem rCheck_ok {s : ByteArray} (h : (rCheck s).1 = 0) : s.size ≤ 120 ∧ ∃ va ra q, qRead s = (some (va, ra), q) ∧ (wrongP va ra).1 = 0 := by
  unfold rCheck at h
  split at h
  · simp at h
  · next hs =>
    split at h
    · simp at h
    · next x q hq => exact ⟨by omega, x.1, x.2, q, hq, h⟩

set_option maxRecDepth 100000 in
set_option maxHeartbeats 1600000 in
theorem rcheck_any (s : ByteArray) (w : World) (_hs : s.size ≤ maxLen) :
    Calls Tryz.prog 32 #[.string s] w fun e w' => e = .returned (.tuple #[.int .i64 ((rCheck s).1 : Nat), .int .i64 (rCheck s).2]) ∧ Below w.heap.size w w' := by
  by_cases h : 120 < s.size
  · have hr : rCheck s = (1, 0) := by unfold rCheck; rw [if_pos h]
    rw [hr]
    have h' : (120 : Int) < s.size := by omega
    clear hr
    go_enter Tryz.func32, Tryz.ntmps32
    go_wp2
    go_ret2
    exact ⟨rfl, Below.refl _ _⟩
  · have hle : s.size ≤ 120 := by omega
    have h' : ¬ (120 : Int) < s.size := by omega
    obtain ⟨P, hP⟩ : ∃ P, rCheck s = P := ⟨_, rfl⟩
    obtain ⟨r, q', hq⟩ : ∃ r q', qRead s = (r, q') := ⟨_, _, rfl⟩
    have HN : Put (∀ p, r = none → q' = .error p → P = (2, (p : Int))) := ⟨fun p h1 h2 => by
      subst h1 h2; rw [← hP]; unfold rCheck; rw [if_neg h, hq]; rfl⟩
    have HS : Put (∀ x, r = some x → P = wrongP x.1 x.2) := ⟨fun x h1 => by
      subst h1; rw [← hP]; unfold rCheck; rw [if_neg h, hq]⟩
    rw [hP]
    clear hP h
    go_enter Tryz.func32, Tryz.ntmps32
    go_wp2_with fail
    refine (rread_any hle hq).mono ?_
    rintro e w1 ⟨⟨ao, aor, cap, capr, vs, rs, bad, rfl, hv, hrr, hOv, hOr, h3, h8, hfin⟩, hb1⟩
    rcases hfin with ⟨p, h1, h2, rfl⟩ | ⟨h1, rfl, _⟩
    · have hP := HN.out p h1 h2
      subst hP
      have h0 : ¬ ((p : Int) < 0) := by omega
      have h0' : (0 : Int) ≤ (p : Int) := by omega
      clear hv hrr hOv hOr hq HN HS
      go_wp2
      go_ret2
      exact ⟨rfl, hb1.alloc hb1.size _⟩
    · have hP := HS.out _ h1
      subst hP
      clear HN HS hq
      have hl : Below w1.heap.size w1 (w1.alloc (Obj.cells #[Value.slice ao vs.length cap, Value.slice aor rs.length capr] 65)) := (Below.refl _ _).alloc (Nat.le_refl _) _
      have HV : Put _ := ⟨hl.ownsRow' hv⟩
      have HRR : Put _ := ⟨hl.ownsRow' hrr⟩
      have HOV : Put (∀ v ∈ vs, V3.Ok (w1.alloc (Obj.cells #[Value.slice ao vs.length cap, Value.slice aor rs.length capr] 65)) w.heap.size v) := ⟨fun v h => ⟨hl.ownsRow' (hOv v h).1, (hOv v h).2⟩⟩
      have HOR : Put (∀ x ∈ rs, R2.Ok (w1.alloc (Obj.cells #[Value.slice ao vs.length cap, Value.slice aor rs.length capr] 65)) w.heap.size x) := ⟨fun x h => ⟨hl.ownsRow' (hOr x h).1, hl.ownsRow' (hOr x h).2⟩⟩
      have HB : Put (Below w.heap.size w w1) := ⟨hb1⟩
      have hsz := hb1.size
      have HL : Put (Below w1.heap.size w1 (w1.alloc (Obj.cells #[Value.slice ao vs.length cap, Value.slice aor rs.length capr] 65))) := ⟨hl⟩
      clear hv hrr hOv hOr hb1 hl
      go_wp2_with fail
      refine (wrong_any ao aor cap capr w.heap.size vs rs (by simp; omega) h3 h8 HV.out HRR.out HOV.out HOR.out).mono ?_
      rintro e w2 ⟨rfl, hb2⟩
      go_wp2
      go_ret2
      exact ⟨rfl, (HB.out.trans (HL.out.mono hsz)).trans (hb2.mono (by simp; omega))⟩

end Go.Proofs.YtgoebckimmofoaaGreatDoor

/- The document's Bound: what is wrong with a lasso. Our own text. -/
namespace Go.Proofs.YtgoebckimmofoaaGreatDoor
open Go.RowKit Go.Lib

/-- A list of texts that lies somewhere. -/
def Reads (w : World) (v : Value) (L : List ByteArray) : Prop :=
  ∃ (ao : Option Addr) (cap : Nat), v = .slice ao L.length cap ∧ (0 < L.length → ∃ b o, ao = some ⟨b, o, none⟩ ∧ b < w.heap.size ∧ ∀ i (h : i < L.length), w.cell? ⟨b, o + i, none⟩ = some (.string L[i]))
theorem Reads.below {w w' : World} {v : Value} {L : List ByteArray} (h : Reads w v L) (hb : Below w.heap.size w w') : Reads w' v L := by
  obtain ⟨ao, cap, rfl, hc⟩ := h
  refine ⟨ao, cap, rfl, fun hp => ?_⟩
  obtain ⟨b, o, rfl, hl, hcell⟩ := hc hp
  exact ⟨b, o, rfl, Nat.lt_of_lt_of_le hl hb.size, fun i hi => (hb.cell (p := ⟨b, o + i, none⟩) hl).trans (hcell i hi)⟩

/-- What is wrong with a lasso, if its states are those that are ok. -/
def BndR (ok : ByteArray → Prop) (L : List ByteArray) (loop : Int) (c : Nat) (p : Int) : Prop :=
  (7000 < L.length ∧ c = 1 ∧ p = 0) ∨
  (L.length ≤ 7000 ∧ ∃ (i : Nat) (hi : i < L.length), ¬ ok L[i] ∧ (∀ j (hj : j < i), ok (L[j]'(Nat.lt_trans hj hi))) ∧ c = 8 ∧ p = (i : Int)) ∨
  (L.length ≤ 7000 ∧ (∀ s ∈ L, ok s) ∧ ¬ (0 ≤ loop ∧ loop < (L.length : Int)) ∧ c = 9 ∧ p = 0) ∨
  (L.length ≤ 7000 ∧ (∀ s ∈ L, ok s) ∧ 0 ≤ loop ∧ loop < (L.length : Int) ∧ c = 0 ∧ p = 0)

theorem BndR.uniq {ok : ByteArray → Prop} {L : List ByteArray} {loop : Int} {c c' : Nat} {p p' : Int} (h : BndR ok L loop c p) (h' : BndR ok L loop c' p') : c = c' ∧ p = p' := by
  rcases h with ⟨h7, rfl, rfl⟩ | ⟨h7, i, hi, hno, hok, rfl, rfl⟩ | ⟨h7, hok, hl, rfl, rfl⟩ | ⟨h7, hok, hl, hl2, rfl, rfl⟩ <;>
    rcases h' with ⟨h7', rfl, rfl⟩ | ⟨h7', i', hi', hno', hok', rfl, rfl⟩ | ⟨h7', hok', hl', rfl, rfl⟩ | ⟨h7', hok', hl', hl2', rfl, rfl⟩
  all_goals first
    | exact ⟨rfl, rfl⟩
    | omega
    | exact absurd (hok' _ (List.getElem_mem hi)) hno
    | exact absurd (hok _ (List.getElem_mem hi')) hno'
    | skip
  · refine ⟨rfl, ?_⟩
    by_cases e : i < i'
    · exact absurd (hok' i e) hno
    · by_cases e2 : i' < i
      · exact absurd (hok i' e2) hno'
      · have : i = i' := by omega
        rw [this]
section
variable {w : World}
set_option maxRecDepth 100000 in
set_option maxHeartbeats 1600000 in
theorem bound_any (ao aor : Option Addr) (cap nr capr base : Nat) (vs : List V3) (h3 : vs.length ≤ 3) (L : List ByteArray) (hL : ∀ s ∈ L, s.size ≤ maxLen) (hlen : L.length ≤ 9223372036854775807) (loop : Int) (v : Value) (hr : Reads w v L)
    (hv : w.ownsRow base 139 3 (.slice ao vs.length cap) vs.length (vs.flatMap V3.cells)) :
    Calls Tryz.prog 44 #[.agg #[.slice ao vs.length cap, .slice aor nr capr], .agg #[v, .int .i64 loop]] w fun e w' => (∃ (c : Nat) (p : Int), e = .returned (.tuple #[.int .i64 c, .int .i64 p]) ∧ BndR (fun s => okT s (vs.map V3.top)) L loop c p) ∧ Below w.heap.size w w' := by
  obtain ⟨aoL, capL, rfl, hcell⟩ := hr
  have HC : Put (_) := ⟨hcell⟩
  have HL : Put (_) := ⟨hL⟩
  have HV : Put (_) := ⟨hv⟩
  obtain ⟨w1, hw1⟩ : ∃ w1, w1 = (w.alloc (.cells #[.slice ao vs.length cap, .slice aor nr capr] 65)).alloc (.cells #[.slice aoL L.length capL, .int .i64 loop] 46) := ⟨_, rfl⟩
  have hB1 : Below w.heap.size w w1 := by rw [hw1]; exact ((Below.refl _ _).alloc (Nat.le_refl _) _).alloc (by simp) _
  have bx1 : w1.heap[w.heap.size]? = some (.cells #[.slice ao vs.length cap, .slice aor nr capr] 65 (0, 0)) := by
    rw [hw1]; exact (Below.heap_alloc _ _ _ (by simp)).trans (heap_alloc_new w _)
  have bx2 : w1.heap[w.heap.size + 1]? = some (.cells #[.slice aoL L.length capL, .int .i64 loop] 46 (0, 0)) := by
    rw [hw1]
    have := heap_alloc_new (w.alloc (.cells #[.slice ao vs.length cap, .slice aor nr capr] 65)) (.cells #[.slice aoL L.length capL, .int .i64 loop] 46)
    simpa using this
  have q0 := two_cell0 bx2
  have q1 := two_cell1 bx2
  have HX : Put (_ ∧ _ ∧ _) := ⟨hB1, bx1, bx2⟩
  have HW : Put (w1 = _) := ⟨hw1⟩
  clear hcell hL hv bx1 bx2 hB1
  by_cases h7 : 7000 < L.length
  · have h7' : (7000 : Int) < (L.length : Int) := by omega
    have FIN : Put (BndR (fun s => okT s (vs.map V3.top)) L loop 1 0) := ⟨.inl ⟨h7, rfl, rfl⟩⟩
    rw [hw1] at q0
    clear hw1
    go_enter Tryz.func44, Tryz.ntmps44
    go_wp2
    go_ret2
    exact ⟨⟨1, 0, rfl, FIN.out⟩, by rw [← HW.out]; exact HX.out.1⟩
  · have h7' : ¬ (7000 : Int) < (L.length : Int) := by omega
    have hw1' := hw1.symm
    clear hw1
    go_enter Tryz.func44, Tryz.ntmps44
    go_wp2_with fail
    go_loopg [6] L.length (fun gk iv wr => ∃ i : Nat, iv = .int .i64 i ∧ i + gk = L.length ∧ Below w1.heap.size w1 wr ∧ Put (∀ j (_ : j < i) (h : j < L.length), okT L[j] (vs.map V3.top)))
    case atStart => exact ⟨0, rfl, by omega, Below.refl _ _, ⟨fun j hj => absurd hj (Nat.not_lt_zero _)⟩⟩
    case round =>
      clear hw1' q0 q1
      obtain ⟨i, rfl, hik, hBr, HI⟩ := hrel
      have hsr := hBr.size
      have l1 := lt_of_block HX.out.2.1
      have l2 := lt_of_block HX.out.2.2
      have br1 := (hBr.block _ l1).trans HX.out.2.1
      have br2 := (hBr.block _ l2).trans HX.out.2.2
      have p0 := two_cell0 br1
      have p1 := two_cell1 br1
      have q0 := two_cell0 br2
      have q1 := two_cell1 br2
      have hBw : Below w.heap.size w wr := HX.out.1.trans (hBr.mono HX.out.1.size)
      by_cases hlt : i < L.length
      · have hlt' : (i : Int) < (L.length : Int) := by omega
        have k0 : (0 : Int) ≤ (i : Int) := by omega
        obtain ⟨g', rfl⟩ : ∃ g', gk = g' + 1 := ⟨gk - 1, by omega⟩
        obtain ⟨b, o, rfl, hbl, hcell⟩ := HC.out (by omega)
        have q := (hBw.cell (p := ⟨b, o + i, none⟩) hbl).trans (hcell i hlt)
        have HST : Put (∀ W, Below w.heap.size w W → Calls Tryz.prog 37 #[.agg #[.slice ao vs.length cap, .slice aor nr capr], .string L[i]] W _) := ⟨fun W hW => rstate_any ao aor cap nr capr base vs L[i] h3 (HL.out _ (List.getElem_mem hlt)) (hW.ownsRow' HV.out)⟩
        have hd : Below w.heap.size w wr.drew := hBw.drew
        have hbr : b < wr.heap.size := Nat.lt_of_lt_of_le hbl hBw.size
        have l1r := lt_of_block br1
        have l2r := lt_of_block br2
        clear br1 br2 hcell
        go_wp2_with fail
        go_region_held3 (fun w' => w'.cell? ⟨w.heap.size, 0, none⟩ = some (.slice ao vs.length cap) ∧ w'.cell? ⟨w.heap.size, 1, none⟩ = some (.slice aor nr capr) ∧ w'.cell? ⟨w.heap.size + 1, 0, none⟩ = some (.slice (some ⟨b, o, none⟩) L.length capL) ∧ w'.cell? ⟨b, o + i, none⟩ = some (.string L[i]))
          (first
            | exact ⟨p0, p1, q0, q⟩
            | exact ⟨(hb3.cell (p := ⟨w.heap.size, 0, none⟩) l1r).trans p0, (hb3.cell (p := ⟨w.heap.size, 1, none⟩) l1r).trans p1, (hb3.cell (p := ⟨w.heap.size + 1, 0, none⟩) l2r).trans q0, (hb3.cell (p := ⟨b, o + i, none⟩) hbr).trans q⟩
            | go_keep)
          (first
            | (go_at_call 37; refine (HST.out wr.drew hd).mono ?_; rintro e w3 ⟨⟨y, bb, rfl, hbb⟩, hb3'⟩; have hb3 : Below wr.heap.size wr w3 := ⟨hb3'.os, hb3'.tape, hb3'.output, hb3'.size, hb3'.block⟩))
        all_goals
          have hB3 : Below w1.heap.size w1 w3 := hBr.trans (hb3.mono hsr)
          have HBB : Put (_) := ⟨hbb⟩
          clear hbb hb3 hBr HST
          cases bb with
          | true =>
            have HI' : Put (∀ j (_ : j < i + 1) (h : j < L.length), okT L[j] (vs.map V3.top)) := ⟨fun j hj h => by
              by_cases e : j < i
              · exact HI.out j e h
              · obtain rfl : j = i := by omega
                exact HBB.out.1 rfl⟩
            clear HBB HI
            go_wp2
            go_roundg g'
            case measure => exact Nat.lt_succ_self _
            case rel => exact ⟨i + 1, by go_num, by omega, hB3, HI'⟩
          | false =>
            have FIN : Put (BndR (fun s => okT s (vs.map V3.top)) L loop 8 (i : Int)) := ⟨.inr (.inl ⟨by omega, i, hlt, (fun h => by have := HBB.out.2 h; cases this), fun j hj => HI.out j hj (by omega), rfl, rfl⟩)⟩
            have HB : Put (Below w.heap.size w w3) := ⟨HX.out.1.trans (hB3.mono HX.out.1.size)⟩
            clear HBB HI hB3
            go_wp2
            go_ret2
            exact ⟨⟨8, _, rfl, FIN.out⟩, HB.out⟩
      · obtain rfl : i = L.length := by omega
        have hlt' : ¬ ((L.length : Int) < (L.length : Int)) := by omega
        have hok : ∀ s ∈ L, okT s (vs.map V3.top) := fun s hs => by
          obtain ⟨k, hk, rfl⟩ := List.getElem_of_mem hs
          exact HI.out k hk hk
        have HB : Put (_) := ⟨hBw⟩
        by_cases hlo : loop < 0
        · have FIN : Put (BndR (fun s => okT s (vs.map V3.top)) L loop 9 0) := ⟨.inr (.inr (.inl ⟨by omega, hok, by omega, rfl, rfl⟩))⟩
          clear hok HI hBr hBw br1 br2
          go_wp2
          go_ret2
          exact ⟨⟨9, 0, rfl, FIN.out⟩, HB.out⟩
        · by_cases hhi : (L.length : Int) ≤ loop
          · have FIN : Put (BndR (fun s => okT s (vs.map V3.top)) L loop 9 0) := ⟨.inr (.inr (.inl ⟨by omega, hok, by omega, rfl, rfl⟩))⟩
            clear hok HI hBr hBw br1 br2
            go_wp2
            go_ret2
            exact ⟨⟨9, 0, rfl, FIN.out⟩, HB.out⟩
          · have FIN : Put (BndR (fun s => okT s (vs.map V3.top)) L loop 0 0) := ⟨.inr (.inr (.inr ⟨by omega, hok, by omega, by omega, rfl, rfl⟩))⟩
            clear hok HI hBr hBw br1 br2
            go_wp2
            go_ret2
            exact ⟨⟨0, 0, rfl, FIN.out⟩, HB.out⟩
end
end Go.Proofs.YtgoebckimmofoaaGreatDoor

/- The law's own helpers: two lists of texts, spoiling one. Our own text. -/
namespace Go.Proofs.YtgoebckimmofoaaGreatDoor
open Go.RowKit

def bys (l : List ByteArray) : List Value := l.map Value.string
theorem bys_at {w : World} {base : Nat} {v : Value} {l : List ByteArray} (h : w.ownsRow base 9 1 v l.length (bys l)) (hl : 0 < l.length) : ∃ g cap, v = .slice (some ⟨g, 0, none⟩) l.length cap ∧ base ≤ g ∧ g < w.heap.size ∧ l.length ≤ cap ∧ ∀ k (hk : k < l.length), w.cell? ⟨g, k, none⟩ = some (.string l[k]) := by
  have e : bys l = l.flatMap (fun d => [Value.string d]) := by
    unfold bys; rw [List.map_eq_flatMap]
  rw [e] at h
  obtain ⟨ao, cap, rfl⟩ := owned_slice' h
  obtain ⟨g, rfl, h2, h3, h4, h5⟩ := row_at (z := 1) (fun _ => rfl) h hl
  exact ⟨g, cap, rfl, h2, h3, h4, fun k hk => by have := h5 k hk 0 (by omega); simpa using this⟩

section
variable {w : World}
end
end Go.Proofs.YtgoebckimmofoaaGreatDoor

namespace Go.Proofs.YtgoebckimmofoaaGreatDoor
open Go.RowKit

section
variable {w : World}
end
end Go.Proofs.YtgoebckimmofoaaGreatDoor

/- The law's own helpers, of lists that are handed in: copied, sameTexts. Our own text. -/
namespace Go.Proofs.YtgoebckimmofoaaGreatDoor
open Go.RowKit Go.Lib

theorem Reads.cell {w : World} {ao : Option Addr} {n cap : Nat} {L : List ByteArray} (h : Reads w (.slice ao n cap) L) : n = L.length ∧ (0 < L.length → ∃ b o, ao = some ⟨b, o, none⟩ ∧ b < w.heap.size ∧ ∀ i (h : i < L.length), w.cell? ⟨b, o + i, none⟩ = some (.string L[i])) := by
  obtain ⟨ao', cap', e, hc⟩ := h
  obtain ⟨rfl, rfl, rfl⟩ : ao = ao' ∧ n = L.length ∧ cap = cap' := by simpa using e
  exact ⟨rfl, hc⟩
theorem Reads.of_owns {w : World} {b : Nat} {v : Value} {L : List ByteArray} (h : w.ownsRow b 9 1 v L.length (bys L)) : Reads w v L := by
  obtain ⟨ao, cap, rfl⟩ := owned_slice' h
  refine ⟨ao, cap, rfl, fun hl => ?_⟩
  obtain ⟨g, cap', e, _, hg, _, hc⟩ := bys_at h hl
  obtain ⟨rfl, rfl⟩ : ao = some ⟨g, 0, none⟩ ∧ cap = cap' := by simpa using e
  exact ⟨g, 0, rfl, hg, fun i hi => by have := hc i hi; simpa using this⟩
theorem bys_snoc (L : List ByteArray) (i : Nat) (h : i < L.length) : bys (L.take (i + 1)) = bys (L.take i) ++ [.string L[i]] := by
  have e : L.take (i + 1) = L.take i ++ [L[i]] := by rw [List.take_add_one, List.getElem?_eq_getElem h]; rfl
  rw [e]; unfold bys; rw [List.map_append]; rfl

section
variable {w : World}
set_option maxRecDepth 100000 in
set_option maxHeartbeats 1600000 in
theorem sameR_any (va vb : Value) (l : List ByteArray) (hl : l.length ≤ 9223372036854775807) (ha : Reads w va l) (hb : Reads w vb l) :
    Calls Tryz.prog 15 #[va, vb] w fun e w' => e = .returned (.bool true) ∧ Below w.heap.size w w' := by
  obtain ⟨aoa, capa, rfl, ha⟩ := ha
  obtain ⟨aob, capb, rfl, hb⟩ := hb
  have HA : Put (_) := ⟨ha⟩
  have HB : Put (_) := ⟨hb⟩
  clear ha hb
  go_enter Tryz.func15, Tryz.ntmps15
  go_wp2_with fail
  go_loopg [5] l.length (fun gk iv wr => ∃ i m : Nat, iv = .int .i64 i ∧ i + gk = l.length ∧ wr = w.drewN m)
  case atStart => exact ⟨0, 0, rfl, by omega, rfl⟩
  case round =>
    obtain ⟨i, m, rfl, hik, rfl⟩ := hrel
    by_cases hlt : i < l.length
    · have hlt' : (i : Int) < (l.length : Int) := by omega
      have i0 : (0 : Int) ≤ (i : Int) := by omega
      obtain ⟨g', rfl⟩ : ∃ g', gk = g' + 1 := ⟨gk - 1, by omega⟩
      obtain ⟨ba, oa, rfl, _, hca⟩ := HA.out (by omega)
      obtain ⟨bb, ob, rfl, _, hcb⟩ := HB.out (by omega)
      have c1 := hca i hlt
      have c2 := hcb i hlt
      generalize l[i] = s at c1 c2
      clear hca hcb
      go_wp2_with fail
      go_quiet (fail)
      go_wp2
      go_roundg g'
      case measure => exact Nat.lt_succ_self _
      case rel => exact ⟨i + 1, _, by go_num, by omega, rfl⟩
    · obtain rfl : i = l.length := by omega
      have hlt' : ¬ ((l.length : Int) < (l.length : Int)) := by omega
      go_wp2
      go_ret
      exact ⟨rfl, below_drewN (Below.refl _ _) _⟩

set_option maxRecDepth 100000 in
set_option maxHeartbeats 1600000 in
theorem copied_any (va : Value) (L : List ByteArray) (hl : L.length * 16 ≤ 140737488355328) (ha : Reads w va L) :
    Calls Tryz.prog 22 #[va] w fun e w' => (∃ v, e = .returned v ∧ w'.ownsRow w.heap.size 9 1 v L.length (bys L)) ∧ Below w.heap.size w w' := by
  obtain ⟨ao, cap, rfl, hc⟩ := ha
  have HC : Put (_) := ⟨hc⟩
  obtain ⟨i0, hi, hz0, hz1, hz2⟩ := info_parts info9
  clear hc
  go_enter Tryz.func22, Tryz.ntmps22
  go_wp2_with fail
  go_loopg [3, 4] L.length (fun gk lv iv wr => ∃ i : Nat, iv = .int .i64 i ∧ i + gk = L.length ∧ wr.ownsRow w.heap.size 9 1 lv i (bys (L.take i)) ∧ Below w.heap.size w wr)
  case atStart => exact ⟨0, rfl, by omega, World.ownsRow_nil _ _ _ _, Below.refl _ _⟩
  case round =>
    obtain ⟨i, rfl, hik, hrow, hBr⟩ := hrel
    have hsr := hBr.size
    by_cases hlt : i < L.length
    · have hlt' : (i : Int) < (L.length : Int) := by omega
      have k0 : (0 : Int) ≤ (i : Int) := by omega
      obtain ⟨g', rfl⟩ : ∃ g', gk = g' + 1 := ⟨gk - 1, by omega⟩
      obtain ⟨b, o, rfl, hbl, hcell⟩ := HC.out (by omega)
      have ci := (hBr.cell (p := ⟨b, o + i, none⟩) hbl).trans (hcell i hlt)
      have HS : Put (_ = _) := ⟨bys_snoc L i hlt⟩
      have hbl4 : (bys (L.take i)).length = i := by simp [bys]; omega
      generalize bys (L.take i) = M at *
      generalize L[i] = t at *
      clear hcell
      go_wp2_with (at_builtin; refine wpList_append_own _ rfl _ _ 22 rfl w.heap.size 9 i0 _ 1 16 Tryz.underlying22 hi hz0 hz1 hz2 rfl Nat.one_pos u3 i M rfl (hrow.alloc _) ⟨wr.heap.size, 0, none⟩ 1 1 [.string t] rfl rfl (cell_one_new _ _ _) (by simp [Value.oneCell']) (by unfold maxLen; omega) (by omega) (by simp; omega) ?_)
      intro v' w5 hown' hgrow _
      obtain ⟨g5, cap5, rfl⟩ := ownsRow_succ hown'
      have hB5 : Below w.heap.size w w5 := (hBr.alloc hsr _).grown hgrow (by simp; omega) (fun k e => (hrow.lt k e).1)
      have hrn : w5.ownsRow w.heap.size 9 1 (.slice (some ⟨g5, 0, none⟩) (i + 1) cap5) (i + 1) (bys (L.take (i + 1))) := by rw [HS.out]; exact hown'
      clear hown' hgrow hrow hBr ci
      go_wp2
      go_roundg g'
      case measure => exact Nat.lt_succ_self _
      case rel => exact ⟨i + 1, by go_num, by omega, hrn, hB5⟩
    · obtain rfl : i = L.length := by omega
      have hlt' : ¬ ((L.length : Int) < (L.length : Int)) := by omega
      rw [List.take_length] at hrow
      obtain ⟨aol, capl, rfl⟩ := owned_slice' hrow
      have HROW : Put (_) := ⟨hrow⟩
      clear hrow
      go_wp2
      go_ret
      exact ⟨⟨_, rfl, HROW.out⟩, hBr⟩
end
end Go.Proofs.YtgoebckimmofoaaGreatDoor

/- A list of texts that is handed in. Our own text. -/
namespace Go.Proofs.YtgoebckimmofoaaGreatDoor
open Go.ChangeShapes Go.WideShapes Go.ChangeAt Go.RowKit

theorem laidOut : laidOutB Tryz.prog = true := by kernel_rfl
theorem cells_str : Tryz.prog.cellsOf 9 = 1 := by kernel_rfl
theorem bytes_str : Tryz.prog.bytesOf 9 = 16 := by kernel_rfl
theorem lt_of_cell {w : World} {a : Addr} {v : Value} (h : w.cell? a = some v) : a.block < w.heap.size := by
  rcases Nat.lt_or_ge a.block w.heap.size with h' | h'
  · exact h'
  · simp [World.cell?, Array.getElem?_eq_none h'] at h
theorem open_texts {H : Type} {enc : TypeId × Value → H} {W : World} {a0 : Option Addr} {len cap fuel : Nat} {x : DataW H × List MemPlace}
    (hf : DataW.trod enc Tryz.prog W 0 (fun _ => true) true fuel 22 [.slice a0 len cap] = some x) :
    ∃ L : List ByteArray, L.length = len ∧ Reads W (.slice a0 len cap) L ∧ (∀ s ∈ L, s.size ≤ maxLen) ∧ (len = 0 ∨ ∃ spare, x.1 = .slice (Go.ChangeShapes.strs L) spare) := by
  rcases open_strings Tryz.underlying22 Tryz.underlying9 cells_str hf with ⟨hcs, hx⟩ | ⟨a, len', cap', ss, hcs, _, hl, hm, hz, hx, hcell, hws⟩
  · simp at hcs
    obtain ⟨rfl, rfl, rfl⟩ := hcs
    exact ⟨[], rfl, ⟨none, 0, rfl, fun h => absurd h (by simp)⟩, fun s hs => by simp at hs, .inl rfl⟩
  · simp at hcs
    obtain ⟨rfl, rfl, rfl⟩ := hcs
    subst hx
    simp only [if_true] at hz
    obtain ⟨b, off, spot⟩ := a
    have hlen : (ss.take len).length = len := by simp; omega
    refine ⟨ss.take len, hlen, ⟨_, cap, by rw [hlen], fun h0 => ?_⟩, fun s hs => hws s (List.mem_of_mem_take hs), .inr ⟨_, rfl⟩⟩
    rw [hlen] at h0
    have hspot : spot = none := by simpa [Addr.add] using World.cell?_spot (hcell 0 (by omega))
    subst hspot
    refine ⟨b, off, rfl, lt_of_cell (hcell 0 (by omega)), fun i hi => ?_⟩
    rw [hlen] at hi
    have := hcell i (by omega)
    rw [add_plain] at this
    rw [this]
    have hi2 : i < ss.length := by omega
    simp [List.getD, hi2]
end Go.Proofs.YtgoebckimmofoaaGreatDoor

/- One bit of eight. Our own text: no walk in it. -/
namespace Go.Proofs.YtgoebckimmofoaaGreatDoor
def setB (b n : Nat) (v : Bool) : Nat := if v then b ||| 2 ^ n else b &&& (255 ^^^ 2 ^ n)
theorem setB_bit {b n : Nat} (hb : b < 256) (_hn : n < 8) (v : Bool) (j : Nat) : (setB b n v).testBit j = if j = n then v else b.testBit j := by
  unfold setB
  cases v with
  | true =>
    rw [if_pos rfl, Nat.testBit_or, Nat.testBit_two_pow]
    by_cases h : j = n
    · subst h; simp
    · rw [if_neg h, decide_eq_false (fun e => h e.symm)]; simp
  | false =>
    simp only [Bool.false_eq_true, if_false, Nat.testBit_and, Nat.testBit_xor, Nat.testBit_two_pow]
    have h255 : (255 : Nat).testBit j = decide (j < 8) := Nat.testBit_two_pow_sub_one 8 j
    rw [h255]
    by_cases h : j = n
    · subst h; simp; omega
    · rw [if_neg h, decide_eq_false (p := n = j) (fun e => h e.symm)]
      by_cases h8 : j < 8
      · simp [h8]
      · have : b.testBit j = false := Nat.testBit_lt_two_pow (Nat.lt_of_lt_of_le hb (by
          rw [show 256 = 2 ^ 8 from rfl]; exact Nat.pow_le_pow_right (by omega) (by omega)))
        simp [this]
theorem setB_lt {b n : Nat} (hb : b < 256) (hn : n < 8) (v : Bool) : setB b n v < 256 := by
  unfold setB
  split
  · exact Nat.or_lt_two_pow (n := 8) hb (Nat.pow_lt_pow_right (by omega) hn)
  · exact Nat.lt_of_le_of_lt Nat.and_le_left hb
end Go.Proofs.YtgoebckimmofoaaGreatDoor

/- Sets of parts: the program's functions on them; a place's marks. Our own text. -/
namespace Go.Proofs.YtgoebckimmofoaaGreatDoor
open Go.RowKit Go.Lib

def bit8 (n : Nat) : Nat := if n < 8 then 2 ^ n else 0
theorem wrap_pow8 (n : Nat) : ((2 : Int) ^ min n 8) % 256 = ((bit8 n : Nat) : Int) := by
  unfold bit8
  split
  · obtain rfl | rfl | rfl | rfl | rfl | rfl | rfl | rfl : n = 0 ∨ n = 1 ∨ n = 2 ∨ n = 3 ∨ n = 4 ∨ n = 5 ∨ n = 6 ∨ n = 7 := by omega
    all_goals rfl
  · rw [show min n 8 = 8 by omega]; rfl
theorem oneP_any (n : Nat) (_hn : n < 64) (w : World) :
    Calls Tryz.prog 176 #[.int .i64 n] w fun e w' => e = .returned (.int .u8 (bit8 n : Nat)) ∧ w' = w := by
  have h0 : decide ((n : Int) < 0) = false := by simp
  go_enter Tryz.func176, Tryz.ntmps176
  go_wp2
  go_ret
  refine ⟨?_, rfl⟩
  exact congrArg (fun z => Ending.returned (Value.int .u8 z)) (wrap_pow8 n)
theorem and8_fin : ∀ (m : Fin 256) (n : Fin 8), (bits .and .u8 (m.val : Int) ((2 ^ n.val : Nat) : Int) != 0) = m.val.testBit n.val := by decide +kernel
theorem and8_zero : ∀ (m : Fin 256), (bits .and .u8 (m.val : Int) 0 != 0) = false := by decide +kernel
theorem has8 {b n : Nat} (hb : b < 256) : (bits .and .u8 (b : Int) ((bit8 n : Nat) : Int) != 0) = b.testBit n := by
  unfold bit8
  split
  · next h => exact and8_fin ⟨b, hb⟩ ⟨n, h⟩
  · have : b.testBit n = false := Nat.testBit_lt_two_pow (Nat.lt_of_lt_of_le hb (by
      rw [show 256 = 2 ^ 8 from rfl]; exact Nat.pow_le_pow_right (by omega) (by omega)))
    rw [this]
    exact and8_zero ⟨b, hb⟩
theorem hasP_any (b n : Nat) (hb : b < 256) (hn : n < 64) (w : World) :
    Calls Tryz.prog 219 #[.int .u8 b, .int .i64 n] w fun e w' => e = .returned (.bool (b.testBit n)) ∧ w' = w := by
  have HV : Put (_ = _) := ⟨has8 (n := n) hb⟩
  go_enter Tryz.func219, Tryz.ntmps219
  go_wp2_with fail
  refine (oneP_any n hn w).mono ?_
  rintro e w' ⟨rfl, rfl⟩
  go_wp2
  go_ret
  refine ⟨?_, rfl⟩
  rw [← HV.out]; rfl
theorem or8_set : ∀ (m : Fin 256) (n : Fin 8), bits .or .u8 (m.val : Int) ((2 ^ n.val : Nat) : Int) = ((setB m.val n.val true : Nat) : Int) := by decide +kernel
theorem off8_set : ∀ (m : Fin 256) (n : Fin 8), bits .andNot .u8 (m.val : Int) ((2 ^ n.val : Nat) : Int) = ((setB m.val n.val false : Nat) : Int) := by decide +kernel
theorem withP_any (b n : Nat) (hb : b < 256) (hn : n < 8) (w : World) :
    Calls Tryz.prog 145 #[.int .u8 b, .int .i64 n] w fun e w' => e = .returned (.int .u8 (setB b n true : Nat)) ∧ w' = w := by
  have HV : Put (_ = _) := ⟨or8_set ⟨b, hb⟩ ⟨n, hn⟩⟩
  have HB : Put (bit8 n = 2 ^ n) := ⟨by unfold bit8; rw [if_pos hn]⟩
  go_enter Tryz.func145, Tryz.ntmps145
  go_wp2_with fail
  refine (oneP_any n (by omega) w).mono ?_
  rintro e w' ⟨rfl, rfl⟩
  rw [HB.out]
  go_wp2
  go_ret
  refine ⟨?_, rfl⟩
  exact congrArg (fun z => Ending.returned (Value.int .u8 z)) HV.out
theorem withoutP_any (b n : Nat) (hb : b < 256) (hn : n < 8) (w : World) :
    Calls Tryz.prog 146 #[.int .u8 b, .int .i64 n] w fun e w' => e = .returned (.int .u8 (setB b n false : Nat)) ∧ w' = w := by
  have HV : Put (_ = _) := ⟨off8_set ⟨b, hb⟩ ⟨n, hn⟩⟩
  have HB : Put (bit8 n = 2 ^ n) := ⟨by unfold bit8; rw [if_pos hn]⟩
  go_enter Tryz.func146, Tryz.ntmps146
  go_wp2_with fail
  refine (oneP_any n (by omega) w).mono ?_
  rintro e w' ⟨rfl, rfl⟩
  rw [HB.out]
  go_wp2
  go_ret
  refine ⟨?_, rfl⟩
  exact congrArg (fun z => Ending.returned (Value.int .u8 z)) HV.out
set_option maxRecDepth 100000 in
set_option maxHeartbeats 800000 in
/-- A place's mark. -/
theorem pmark_any (blk o b n : Nat) (v : Bool) (hb : b < 256) (hn : n < 8) (w : World) (hc : w.cell? ⟨blk, o + 1, none⟩ = some (.int .u8 (b : Nat))) (hf : w.frozen? ⟨blk, o + 1, none⟩ = false) :
    Calls Tryz.prog 103 #[.pointer (some ⟨blk, o, none⟩), .int .i64 n, .bool v] w fun e w' => e = .returned (.tuple #[]) ∧ w' = w.setCell ⟨blk, o + 1, none⟩ (.int .u8 (setB b n v : Nat)) := by
  cases v with
  | true =>
    go_enter Tryz.func103, Tryz.ntmps103
    go_wp2_with fail
    refine (withP_any b n hb hn w).mono ?_
    rintro e w' ⟨rfl, rfl⟩
    go_wp2
    go_end0
    exact ⟨rfl, rfl⟩
  | false =>
    go_enter Tryz.func103, Tryz.ntmps103
    go_wp2_with fail
    refine (withoutP_any b n hb hn w).mono ?_
    rintro e w' ⟨rfl, rfl⟩
    go_wp2
    go_end0
    exact ⟨rfl, rfl⟩
end Go.Proofs.YtgoebckimmofoaaGreatDoor
