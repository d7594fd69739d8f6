import Derived.Test.YtgoebckimmofoaaDoorP20
import Derived.Test.YtgoebckimmofoaaDoorP21
import Derived.Test.YtgoebckimmofoaaDoorP12
import Derived.Test.YtgoebckimmofoaaDoorP11
/- What the code's reader has read of a good model is what the document reads. Our own text: no walk in it. -/
namespace Go.Proofs.YtgoebckimmofoaaDoor
open Go.RowKit

theorem qVar_parts {s : ByteArray} {k i j top a0 : Nat} {l : List Nat} (h : qVar s k (.ok i) = (some (top, l, a0), .ok j)) :
    ∃ k1 k3 v, num? s i (97 + k) 0 0 = some k1 ∧ num? s (i + 1) 48 1 3 = some top ∧ num? s (i + 2) 61 0 0 = some k3 ∧ num? s (i + 3) 48 0 3 = some v ∧ qFirst s 4 v (i + 4) [v] = (l, .ok j) := by
  unfold qVar at h
  cases h1 : num? s i (97 + k) 0 0 with
  | none => simp [qMust, qBet, qNum, Q.fail, h1] at h
  | some k1 =>
  cases h2 : num? s (i + 1) 49 0 2 with
  | none => simp [qMust, qBet, qNum, Q.fail, Q.adv, h1, h2] at h
  | some g =>
  cases h3 : num? s (i + 1 + 1) 61 0 0 with
  | none => simp [qMust, qBet, qNum, Q.fail, Q.adv, h1, h2, h3] at h
  | some k3 =>
  cases h4 : num? s (i + 1 + 1 + 1) 48 0 3 with
  | none => simp [qMust, qBet, qNum, Q.fail, Q.adv, h1, h2, h3, h4] at h
  | some v =>
    simp [qMust, qBet, qNum, Q.adv, h1, h2, h3, h4] at h
    obtain ⟨⟨rfl, hl, _⟩, hj⟩ := h
    refine ⟨k1, k3, v, rfl, ?_, rfl, rfl, ?_⟩
    · rw [num_top, h2]; rfl
    · exact Prod.ext hl hj

section
variable {s : ByteArray}
theorem qLoop1_pre : ∀ (f : Nat) (b : Bool) (q : Q) (acc l : List (Tm × Tm)) (q' : Q), qLoop1 s f b q acc = (some l, q') → ∃ r, l = acc ++ r
  | 0, false, _, _, _, _, h => by unfold qLoop1 at h; cases h; exact ⟨[], by simp⟩
  | _ + 1, false, _, _, _, _, h => by unfold qLoop1 at h; cases h; exact ⟨[], by simp⟩
  | 0, true, _, _, _, _, h => by unfold qLoop1 at h; cases h
  | f + 1, true, q, acc, l, q', h => by
    unfold qLoop1 at h
    split at h
    · cases h
    · next c q1 _ =>
      split at h
      · obtain ⟨r, e⟩ := qLoop1_pre f _ _ _ _ _ h; exact ⟨c :: r, by simp [e]⟩
      · obtain ⟨r, e⟩ := qLoop1_pre f _ _ _ _ _ h; exact ⟨c :: r, by simp [e]⟩
theorem qLoop2_pre : ∀ (f : Nat) (b : Bool) (q : Q) (acc l : List Chg) (q' : Q), qLoop2 s f b q acc = (some l, q') → ∃ r, l = acc ++ r
  | 0, false, _, _, _, _, h => by unfold qLoop2 at h; cases h; exact ⟨[], by simp⟩
  | _ + 1, false, _, _, _, _, h => by unfold qLoop2 at h; cases h; exact ⟨[], by simp⟩
  | 0, true, _, _, _, _, h => by unfold qLoop2 at h; cases h
  | f + 1, true, q, acc, l, q', h => by
    unfold qLoop2 at h
    split at h
    · cases h
    · next c q1 _ =>
      split at h
      · obtain ⟨r, e⟩ := qLoop2_pre f _ _ _ _ _ h; exact ⟨c :: r, by simp [e]⟩
      · obtain ⟨r, e⟩ := qLoop2_pre f _ _ _ _ _ h; exact ⟨c :: r, by simp [e]⟩
theorem qRules_pre : ∀ (f i : Nat) (acc l : List RA) (q' : Q), qRules s f i acc = (some l, q') → ∃ r, l = acc ++ r
  | 0, _, _, _, _, h => by unfold qRules at h; cases h
  | f + 1, i, acc, l, q', h => by
    unfold qRules at h
    split at h
    · split at h
      · cases h
      · split at h
        · cases h
        · split at h
          · cases h
          · next r _ _ => obtain ⟨r', e⟩ := qRules_pre f _ _ _ _ h; exact ⟨r :: r', by simp [e]⟩
    · cases h; exact ⟨[], by simp⟩
theorem qVars_pre : ∀ (f : Nat) (q : Q) (acc l : List VA) (q' : Q), qVars s f q acc = (some l, q') → ∃ r, l = acc ++ r
  | 0, _, _, _, _, h => by unfold qVars at h; cases h; exact ⟨[], by simp⟩
  | f + 1, q, acc, l, q', h => by
    unfold qVars at h
    split at h
    · cases h
    · next v _ _ =>
      split at h
      · split at h
        · obtain ⟨r, e⟩ := qVars_pre f _ _ _ _ h; exact ⟨v :: r, by simp [e]⟩
        · cases h; exact ⟨[v], rfl⟩
      · cases h; exact ⟨[v], rfl⟩

/-- What is left of the variables. -/
def LeftV (s : ByteArray) (va : List VA) (ra : List RA) (acc : List VA) (i : Nat) : Prop := ∃ f i0 q', f + acc.length = 3 ∧ qVars s f (.ok i) acc = (some va, .ok i0) ∧ qRules s 121 i0 [] = (some ra, q')
def LeftR (s : ByteArray) (ra acc : List RA) (i : Nat) : Prop := ∃ f q', qRules s f i acc = (some ra, q')
def LeftD (s : ByteArray) (ra acc : List RA) (cl : List (Tm × Tm)) (dl : List Chg) (i : Nat) : Prop := ∃ f ds j, qLoop2 s f true (.ok i) dl = (some ds, .ok j) ∧ LeftR s ra (acc ++ [(cl, ds)]) j
def LeftC (s : ByteArray) (ra acc : List RA) (cl : List (Tm × Tm)) (i : Nat) : Prop := ∃ f cs j k, qLoop1 s f true (.ok i) cl = (some cs, .ok j) ∧ num? s j 58 0 0 = some k ∧ LeftD s ra acc cs [] (j + 1)

theorem leftV {va : List VA} {ra : List RA} {acc : List VA} {i : Nat} (h : LeftV s va ra acc i) (hl : acc.length < 3) :
    ∃ (g a0 j : Nat) (l : List Nat), qVar s acc.length (.ok i) = (some (g, l, a0), .ok j) ∧ (g, l, a0) ∈ va ∧ va.getD acc.length (0, [], 0) = (g, l, a0) ∧ i < j ∧ j ≤ s.size ∧
      (acc.length + 1 < 3 → (∀ k, num? s j 44 0 0 = some k → LeftV s va ra (acc ++ [(g, l, a0)]) (j + 1)) ∧ (num? s j 44 0 0 = none → va.length = acc.length + 1 ∧ LeftR s ra [] j)) ∧
      (¬ acc.length + 1 < 3 → va.length = acc.length + 1 ∧ LeftR s ra [] j) := by
  obtain ⟨f, i0, q', hf, h, hr⟩ := h
  obtain ⟨f', rfl⟩ : ∃ f', f = f' + 1 := ⟨f - 1, by omega⟩
  have hpre := h
  unfold qVars at h
  split at h
  · cases h
  · next v q1 hv =>
    obtain ⟨g, l, a0⟩ := v
    obtain ⟨j, rfl, hj⟩ := qVar_some hv
    have hin : ∃ r, va = (acc ++ [(g, l, a0)]) ++ r := by
      split at h
      · split at h
        · exact qVars_pre _ _ _ _ _ h
        · cases h; exact ⟨[], by simp⟩
      · cases h; exact ⟨[], by simp⟩
    obtain ⟨r, hin⟩ := hin
    have hij : i < j := by
      obtain ⟨_, _, v, _, _, _, h4, hq⟩ := qVar_parts hv
      obtain ⟨j', e, hle, _⟩ := qFirst_ok s 4 v (i + 4) [v]
      rw [hq] at e
      cases e; omega
    refine ⟨g, a0, j, l, hv, by rw [hin]; simp, ?_, hij, hj, ?_, ?_⟩
    · rw [hin]; simp [List.getD]
    · intro h3
      rw [if_pos h3] at h
      refine ⟨fun k hk => ?_, fun hk => ?_⟩
      · have e : qNum s (.ok j) 44 0 = some k := hk
        rw [e] at h
        exact ⟨f', i0, q', by simp; omega, h, hr⟩
      · have e : qNum s (.ok j) 44 0 = none := hk
        rw [e] at h
        simp only [Prod.mk.injEq, Option.some.injEq, Except.ok.injEq] at h
        obtain ⟨rfl, rfl⟩ := h
        exact ⟨by simp, 121, q', hr⟩
    · intro h3
      rw [if_neg h3] at h
      simp only [Prod.mk.injEq, Option.some.injEq, Except.ok.injEq] at h
      obtain ⟨rfl, rfl⟩ := h
      exact ⟨by simp, 121, q', hr⟩

theorem leftR {ra acc : List RA} {i : Nat} (hs : s.size ≤ 120) (hi : i ≤ s.size) (h : LeftR s ra acc i) :
    (i = s.size ∧ ra = acc) ∨ (i < s.size ∧ acc.length ≠ 8 ∧ ∃ k, num? s i 59 0 0 = some k ∧ ((∃ k2, num? s (i + 1) 58 0 0 = some k2 ∧ LeftD s ra acc [] [] (i + 2)) ∨ (num? s (i + 1) 58 0 0 = none ∧ LeftC s ra acc [] (i + 1)))) := by
  obtain ⟨f, q', h⟩ := h
  cases f with
  | zero => unfold qRules at h; cases h
  | succ f =>
  unfold qRules at h
  by_cases hlt : i < s.size
  · rw [if_pos hlt] at h
    right
    refine ⟨hlt, ?_⟩
    by_cases h8 : acc.length = 8
    · rw [if_pos h8] at h; cases h
    rw [if_neg h8] at h
    refine ⟨h8, ?_⟩
    cases hk : num? s i 59 0 0 with
    | none => rw [hk] at h; cases h
    | some k =>
    rw [hk] at h
    simp only at h
    refine ⟨k, rfl, ?_⟩
    cases hr : qRule s (.ok (i + 1)) with
    | mk r q1 =>
    rw [hr] at h
    cases r with
    | none => cases h
    | some r =>
    simp only at h
    have hle : i + 1 ≤ s.size := hlt
    unfold qRule at hr
    cases h58 : num? s (i + 1) 58 0 0 with
    | some k2 =>
      left
      refine ⟨k2, rfl, ?_⟩
      have e : qNum s (.ok (i + 1)) 58 0 = some k2 := h58
      rw [e] at hr
      simp only [Option.isNone_some] at hr
      rw [show qLoop1 s 121 false (.ok (i + 1)) [] = (some [], .ok (i + 1)) from rfl] at hr
      simp only [e] at hr
      cases h2 : qLoop2 s 121 true (Q.adv (.ok (i + 1))) [] with
      | mk r2 q2 =>
      rw [h2] at hr
      cases r2 with
      | none => cases hr
      | some ds =>
      simp only [Prod.mk.injEq, Option.some.injEq] at hr
      obtain ⟨rfl, rfl⟩ := hr
      rcases qLoop2_ok 121 true (i + 1 + 1) [] (num_lt h58) (by omega) h2 with ⟨h', _⟩ | ⟨l, j, h', rfl, _, _⟩
      · cases h'
      · cases h'
        exact ⟨121, _, j, h2, f, q', h⟩
    | none =>
      right
      refine ⟨rfl, ?_⟩
      have e : qNum s (.ok (i + 1)) 58 0 = none := h58
      rw [e] at hr
      simp only [Option.isNone_none] at hr
      cases h1 : qLoop1 s 121 true (.ok (i + 1)) [] with
      | mk r1 q2 =>
      rw [h1] at hr
      cases r1 with
      | none => cases hr
      | some cs =>
      rcases qLoop1_ok 121 true (i + 1) [] hle (by omega) h1 with ⟨h', _⟩ | ⟨l, j, h', rfl, _, hj⟩
      · cases h'
      cases h'
      simp only at hr
      cases hk2 : qNum s (.ok j) 58 0 with
      | none => rw [hk2] at hr; cases hr
      | some k2 =>
      rw [hk2] at hr
      simp only at hr
      have hk2' : num? s j 58 0 0 = some k2 := hk2
      cases h2 : qLoop2 s 121 true (Q.adv (.ok j)) [] with
      | mk r2 q2 =>
      rw [h2] at hr
      cases r2 with
      | none => cases hr
      | some ds =>
      simp only [Prod.mk.injEq, Option.some.injEq] at hr
      obtain ⟨rfl, rfl⟩ := hr
      have hlj := num_lt hk2'
      rcases qLoop2_ok 121 true (j + 1) [] hlj (by omega) h2 with ⟨h', _⟩ | ⟨l2, j2, h', rfl, _, _⟩
      · cases h'
      · cases h'
        exact ⟨121, _, j, k2, h1, hk2', 121, _, j2, h2, f, q', h⟩
  · rw [if_neg hlt] at h
    cases h
    exact .inl ⟨by omega, rfl⟩

theorem leftC {ra acc : List RA} {cl : List (Tm × Tm)} {i : Nat} (h : LeftC s ra acc cl i) :
    ∃ c, qCond s (.ok i) = (some c, .ok (i + 3)) ∧ i + 3 ≤ s.size ∧ (∃ r ∈ ra, c ∈ r.1) ∧ (∀ k, num? s (i + 3) 38 0 0 = some k → LeftC s ra acc (cl ++ [c]) (i + 4)) ∧
      (num? s (i + 3) 38 0 0 = none → ∃ k, num? s (i + 3) 58 0 0 = some k ∧ LeftD s ra acc (cl ++ [c]) [] (i + 4)) := by
  obtain ⟨f, cs, j, k, h, hk, hD⟩ := h
  cases f with
  | zero => unfold qLoop1 at h; cases h
  | succ f =>
  have hin : ∃ r ∈ ra, r.1 = cs := by
    obtain ⟨f', ds, j', _, f'', q'', hr⟩ := hD
    obtain ⟨r, e⟩ := qRules_pre _ _ _ _ _ hr
    exact ⟨(cs, ds), by rw [e]; simp, rfl⟩
  unfold qLoop1 at h
  cases hc : qCond s (.ok i) with
  | mk r q1 =>
  rw [hc] at h
  cases r with
  | none => cases h
  | some c =>
  obtain ⟨rfl, hle⟩ := qCond_ok hc
  simp only at h
  have hcin : c ∈ cs := by
    split at h
    · obtain ⟨r, e⟩ := qLoop1_pre _ _ _ _ _ _ h; rw [e]; simp
    · obtain ⟨r, e⟩ := qLoop1_pre _ _ _ _ _ _ h; rw [e]; simp
  obtain ⟨r, hr1, hr2⟩ := hin
  refine ⟨c, rfl, hle, ⟨r, hr1, by rw [hr2]; exact hcin⟩, fun k' hk' => ?_, fun hk' => ?_⟩
  · have e : qNum s (.ok (i + 3)) 38 0 = some k' := hk'
    rw [e] at h
    exact ⟨f, cs, j, k, h, hk, hD⟩
  · have e : qNum s (.ok (i + 3)) 38 0 = none := hk'
    rw [e] at h
    have e2 : qLoop1 s f false (.ok (i + 3)) (cl ++ [c]) = (some (cl ++ [c]), .ok (i + 3)) := by cases f <;> rfl
    simp only [e2, Prod.mk.injEq, Option.some.injEq, Except.ok.injEq] at h
    obtain ⟨rfl, rfl⟩ := h
    exact ⟨k, hk, hD⟩

theorem leftD {ra acc : List RA} {cl : List (Tm × Tm)} {dl : List Chg} {i : Nat} (h : LeftD s ra acc cl dl i) :
    ∃ (d : Chg) (j : Nat), qChange s (.ok i) = (some d, .ok j) ∧ i < j ∧ j ≤ s.size ∧ (∃ r ∈ ra, ∃ e, r.2 = dl ++ d :: e) ∧ (∀ k, num? s j 44 0 0 = some k → LeftD s ra acc cl (dl ++ [d]) (j + 1)) ∧
      (num? s j 44 0 0 = none → LeftR s ra (acc ++ [(cl, dl ++ [d])]) j) := by
  obtain ⟨f, ds, j0, h, hR⟩ := h
  cases f with
  | zero => unfold qLoop2 at h; cases h
  | succ f =>
  have hin : ∃ r ∈ ra, r.2 = ds := by
    obtain ⟨f'', q'', hr⟩ := hR
    obtain ⟨r, e⟩ := qRules_pre _ _ _ _ _ hr
    exact ⟨(cl, ds), by rw [e]; simp, rfl⟩
  unfold qLoop2 at h
  cases hc : qChange s (.ok i) with
  | mk r q1 =>
  rw [hc] at h
  cases r with
  | none => cases h
  | some c =>
  obtain ⟨j, rfl, hij, hle⟩ := qChange_ok hc
  simp only at h
  have hcin : ∃ e, ds = dl ++ c :: e := by
    split at h
    · obtain ⟨r, e⟩ := qLoop2_pre _ _ _ _ _ _ h; exact ⟨r, by rw [e]; simp⟩
    · obtain ⟨r, e⟩ := qLoop2_pre _ _ _ _ _ _ h; exact ⟨r, by rw [e]; simp⟩
  obtain ⟨r, hr1, hr2⟩ := hin
  refine ⟨c, j, rfl, hij, hle, ⟨r, hr1, by rw [hr2]; exact hcin⟩, fun k' hk' => ?_, fun hk' => ?_⟩
  · have e : qNum s (.ok j) 44 0 = some k' := hk'
    rw [e] at h
    exact ⟨f, ds, j0, h, hR⟩
  · have e : qNum s (.ok j) 44 0 = none := hk'
    rw [e] at h
    have e2 : qLoop2 s f false (.ok j) (dl ++ [c]) = (some (dl ++ [c]), .ok j) := by cases f <;> rfl
    simp only [e2, Prod.mk.injEq, Option.some.injEq, Except.ok.injEq] at h
    obtain ⟨rfl, rfl⟩ := h
    exact hR

/-- A good model of these variables and rules. -/
structure GoodA (va : List VA) (ra : List RA) : Prop where
  v : ∀ v ∈ va, (1 ≤ v.1 ∧ v.1 ≤ 3) ∧ ∀ y ∈ v.2.1, y ≤ v.1
  l1 : 1 ≤ va.length
  l3 : va.length ≤ 3
  c : ∀ r ∈ ra, ∀ c ∈ r.1, c.1.1 < (va.length : Int) ∧ c.2.1 < (va.length : Int)
  d : ∀ r ∈ ra, ∀ c ∈ r.2, 0 ≤ c.1 ∧ c.1 < (va.length : Int) ∧ c.2.2.2.1 < (va.length : Int)
  n : ∀ r ∈ ra, (r.2.map Prod.fst).Nodup
theorem goodA {va : List VA} {ra : List RA} {q' : Q} (h : qRead s = (some (va, ra), q')) (hw : (wrongP va ra).1 = 0) : GoodA va ra := by
  obtain ⟨hv, h1, h3, hr⟩ := qRead_all h
  obtain ⟨w1, w2⟩ := wrong_none hw
  have a := wv_none w1
  have b := wr_none w2
  refine ⟨fun v hv' => ⟨⟨(hv v hv').1, (hv v hv').2.1⟩, a v hv'⟩, h1, h3, fun r hr' => wc_none (hr r hr').1 (b r hr').1, fun r hr' c hc => ?_, fun r hr' => (wd_none (b r hr').2).2⟩
  have p := (hr r hr').2 c hc
  have q := (wd_none (b r hr').2).1 c hc
  refine ⟨p.1, q.1, ?_⟩
  cases hb : c.2.2.1 with
  | true => rw [p.2.2.2.2.2.2 hb]; omega
  | false => exact q.2.1 hb
theorem qVars_notbad : ∀ (f i : Nat) (acc l : List VA) (p : Nat), qVars s f (.ok i) acc ≠ (some l, .error p)
  | 0, _, _, _, _, h => by unfold qVars at h; cases h
  | f + 1, i, acc, l, p, h => by
    unfold qVars at h
    split at h
    · cases h
    · next v q1 hv =>
      obtain ⟨j, rfl, _⟩ := qVar_some hv
      split at h
      · split at h
        · exact qVars_notbad f _ _ _ _ h
        · cases h
      · cases h
theorem leftV0 {va : List VA} {ra : List RA} {q' : Q} (h : qRead s = (some (va, ra), q')) : LeftV s va ra [] 0 := by
  unfold qRead at h
  cases hv : qVars s 3 (.ok 0) [] with
  | mk r q =>
  rw [hv] at h
  cases r with
  | none => cases h
  | some vs =>
  simp only at h
  cases hr : qRules s 121 q.pos [] with
  | mk r2 q2 =>
  rw [hr] at h
  cases r2 with
  | none => cases h
  | some rs =>
  simp only [Prod.mk.injEq, Option.some.injEq] at h
  obtain ⟨⟨rfl, rfl⟩, rfl⟩ := h
  cases q with
  | ok i => exact ⟨3, i, q2, rfl, hv, hr⟩
  | error p =>
    exfalso
    exact qVars_notbad 3 0 [] _ _ hv
end

theorem qFirst_fOf (s : ByteArray) (g : Nat) : ∀ (m v : Nat) (t : T) (acc : List Nat), 4 ≤ v + m → v ≤ 3 → qFirst s m v t.at_ (acc ++ [v]) = (acc ++ fOf s m v t.at_, .ok (pFirst s g m v t).at_)
  | 0, v, t, acc, h, h3 => by omega
  | m + 1, v, t, acc, h, h3 => by
    have hbl : ∀ t : T, (if g < v then t.blame 4 else t).at_ = t.at_ := fun t => by
      split
      · exact (blame_same t 4).1
      · rfl
    unfold qFirst fOf pFirst
    cases hd : num? s t.at_ 48 (v + 1) 3 with
    | none => simp only; rw [hbl]
    | some v' =>
      have hv := num_le hd
      simp only
      have e : (if g < v then t.blame 4 else t).adv.at_ = t.at_ + 1 := by show _ + 1 = _; rw [hbl]
      have := qFirst_fOf s g m v' (if g < v then t.blame 4 else t).adv (acc ++ [v]) (by omega) hv.2
      rw [e] at this
      rw [this]; simp
theorem tmOf_q {s : ByteArray} {i : Nat} {a : Tm} {q : Q} (h : qTerm s (.ok i) = (some a, q)) : a = tmOf s i := by
  unfold qTerm at h
  unfold tmOf
  cases h1 : num? s i 97 0 2 with
  | some k =>
    have e : qNum s (.ok i) 97 2 = some k := h1
    rw [e] at h
    simp only [Prod.mk.injEq, Option.some.injEq, Q.pos] at h
    exact h.1.symm
  | none =>
    have e : qNum s (.ok i) 97 2 = none := h1
    rw [e] at h
    simp only at h
    cases h2 : num? s i 48 0 3 with
    | none =>
      have e : qNum s (.ok i) 48 3 = none := h2
      rw [e] at h; simp at h
    | some k =>
      have e : qNum s (.ok i) 48 3 = some k := h2
      rw [e] at h
      simp only [Prod.mk.injEq, Option.some.injEq, Q.pos] at h
      exact h.1.symm
theorem cdOf_q {s : ByteArray} {i : Nat} {c : Tm × Tm} {q : Q} (h : qCond s (.ok i) = (some c, q)) : c = cdOf s i := by
  unfold qCond at h
  cases h1 : qTerm s (.ok i) with
  | mk r q1 =>
  rw [h1] at h
  cases r with
  | none => simp at h
  | some a =>
  obtain ⟨i1, rfl⟩ := qTerm_some h1
  obtain ⟨j1, e1, _, rfl⟩ := qTerm_at h1
  cases e1
  simp only at h
  cases hop : qOp s (.ok (i + 1)) with
  | false => rw [hop] at h; simp at h
  | true =>
  rw [hop] at h
  simp only [if_true, Q.adv] at h
  cases h2 : qTerm s (.ok (i + 1 + 1)) with
  | mk r2 q2 =>
  rw [h2] at h
  cases r2 with
  | none => simp at h
  | some b =>
  simp only [Prod.mk.injEq, Option.some.injEq] at h
  rw [← h.1, tmOf_q h1, tmOf_q h2]; rfl
theorem pCond_at {s : ByteArray} {t t' : T} (h : pCond s t = (true, t')) : t'.at_ = t.at_ + 3 := by
  unfold pCond at h
  split at h
  · cases h
  · next t1 e1 =>
    have s1 := (pTerm_same e1).1
    split at h
    · cases h
    · next t2 e2 =>
      obtain ⟨rfl, _⟩ := pCmp_same e2
      have n2 : t1.adv.at_ = t1.at_ + 1 := rfl
      split at h
      · cases h
      · next t3 e3 =>
        have s3 := (pTerm_same e3).1
        cases h; omega
theorem chOf_q {s : ByteArray} {t t' : T} {d : Chg} {j : Nat} (hq : qChange s (.ok t.at_) = (some d, .ok j)) (h : pChange s t = (true, t')) : d = chOf s t.at_ ∧ j = t'.at_ := by
  unfold qChange at hq
  unfold pChange at h
  cases h1 : num? s t.at_ 97 0 2 with
  | none => rw [h1] at h; simp at h
  | some k =>
  have e1 : qNum s (.ok t.at_) 97 2 = some k := h1
  rw [e1] at hq
  rw [h1] at h
  simp only [Q.adv, Q.pos] at hq h
  have a1 : ((t.named k).marked k).at_ = t.at_ + 1 := by rw [(marked_same _ _).1, (named_same t k).1]
  generalize (t.named k).marked k = t2 at h a1
  cases h2 : num? s (t.at_ + 1) 61 0 0 with
  | none =>
    have e2 : qNum s (.ok (t.at_ + 1)) 61 0 = none := h2
    rw [e2] at hq; simp at hq
  | some k2 =>
  have e2 : qNum s (.ok (t.at_ + 1)) 61 0 = some k2 := h2
  rw [e2] at hq
  rw [a1, h2] at h
  simp only at hq h
  have a2 : t2.adv.at_ = t.at_ + 2 := by show t2.at_ + 1 = _; omega
  have hby := num_byte h1
  have hbk : byteAt s t.at_ - 97 = k := by omega
  unfold pTo at h
  rw [a2] at h
  cases h3 : num? s (t.at_ + 2) 63 0 0 with
  | some k3 =>
    have e3 : qNum s (.ok (t.at_ + 1 + 1)) 63 0 = some k3 := h3
    rw [e3] at hq
    rw [h3] at h
    simp only [Prod.mk.injEq, Option.some.injEq, Except.ok.injEq] at hq h
    refine ⟨?_, ?_⟩
    · unfold chOf; rw [h3, ← hq.1]; simp only; rw [hbk]
    · rw [← hq.2, ← h.2]; show t.at_ + 1 + 1 + 1 = t2.at_ + 1 + 1; omega
  | none =>
    have e3 : qNum s (.ok (t.at_ + 1 + 1)) 63 0 = none := h3
    rw [e3] at hq
    rw [h3] at h
    simp only at hq h
    cases h4 : qTerm s (.ok (t.at_ + 1 + 1)) with
    | mk r q4 =>
    rw [h4] at hq
    cases r with
    | none => simp at hq
    | some a =>
    obtain ⟨i4, rfl⟩ := qTerm_some h4
    obtain ⟨j4, e4, _, rfl⟩ := qTerm_at h4
    cases e4
    simp only at hq
    have hch : chOf s t.at_ = ((k : Int), (t.at_ : Int), false, a) := by
      unfold chOf; rw [h3]; simp only; rw [hbk, tmOf_q h4]
    cases h5 : pTerm s t2.adv with
    | none => rw [h5] at h; simp at h
    | some t3 =>
    have s5 := (pTerm_same h5).1
    rw [h5] at h
    simp only at h
    have a5 : t3.at_ = t.at_ + 1 + 1 + 1 := by omega
    rw [a5] at h
    cases h6 : num? s (t.at_ + 1 + 1 + 1) 43 0 0 with
    | none =>
      have e6 : qNum s (.ok (t.at_ + 1 + 1 + 1)) 43 0 = none := h6
      rw [e6] at hq
      rw [h6] at h
      simp only [Prod.mk.injEq, Option.some.injEq, Except.ok.injEq] at hq h
      exact ⟨by rw [hch, ← hq.1], by rw [← hq.2, ← h.2, a5]⟩
    | some k6 =>
      have e6 : qNum s (.ok (t.at_ + 1 + 1 + 1)) 43 0 = some k6 := h6
      rw [e6] at hq
      rw [h6] at h
      simp only at hq h
      have a6 : t3.adv.at_ = t.at_ + 1 + 1 + 1 + 1 := by show t3.at_ + 1 = _; omega
      rw [a6] at h
      cases h7 : num? s (t.at_ + 1 + 1 + 1 + 1) 48 0 3 with
      | none => rw [h7] at h; simp at h
      | some k7 =>
        have e7 : qNum s (.ok (t.at_ + 1 + 1 + 1 + 1)) 48 3 = some k7 := h7
        rw [e7] at hq
        rw [h7] at h
        simp only [Prod.mk.injEq, Option.some.injEq, Except.ok.injEq] at hq h
        exact ⟨by rw [hch, ← hq.1], by rw [← hq.2, ← h.2]; show t.at_ + 1 + 1 + 1 + 1 + 1 = t3.at_ + 1 + 1; omega⟩

def v2 (v : VA) : V2 := (v.1, v.2.1)
/-- A good model: what is left at each label. -/
def GP (s : ByteArray) (va : List VA) (ra : List RA) (l : Nat) (t : T) (vs : List V2) (cl : List (Tm × Tm)) (dl : List Chg) (rl : List RA) : Prop :=
  (l = 1 ∧ ∃ acc : List VA, acc.length = t.n ∧ acc.length < 3 ∧ vs = acc.map v2 ∧ LeftV s va ra acc t.at_) ∨
  (l = 2 ∧ vs = va.map v2 ∧ LeftR s ra rl t.at_) ∨ (l = 3 ∧ vs = va.map v2 ∧ LeftD s ra rl cl dl t.at_) ∨ (l = 4 ∧ vs = va.map v2 ∧ LeftC s ra rl cl t.at_)
theorem GP.one {s : ByteArray} {va : List VA} {ra rl : List RA} {t t' : T} {vs : List V2} {cl : List (Tm × Tm)} {dl : List Chg} (h : GP s va ra 1 t vs cl dl rl) (hp : pVar s t = (true, t')) :
    ∃ (acc : List VA) (v : VA), acc.length = t.n ∧ acc.length < 3 ∧ vs = acc.map v2 ∧ vOf s t.at_ = v2 v ∧ t'.n = t.n + 1 ∧
      (acc.length + 1 < 3 → (∀ k, num? s t'.at_ 44 0 0 = some k → LeftV s va ra (acc ++ [v]) (t'.at_ + 1)) ∧ (num? s t'.at_ 44 0 0 = none → va = acc ++ [v] ∧ LeftR s ra [] t'.at_)) ∧
      (¬ acc.length + 1 < 3 → va = acc ++ [v] ∧ LeftR s ra [] t'.at_) := by
  rcases h with ⟨_, acc, h1, h3, hvs, hL⟩ | ⟨h, _⟩ | ⟨h, _⟩ | ⟨h, _⟩
  · obtain ⟨g, a0, j, l, hq, hin, hget, hij, hjs, hA, hZ⟩ := leftV hL h3
    obtain ⟨k1, k3, v0, g1, g2, g3, g4, hF⟩ := qVar_parts hq
    have hva : va.length = acc.length + 1 → va = acc ++ [(g, l, a0)] := fun hl => by
      obtain ⟨f, i0, q', _, hqv, _⟩ := hL
      obtain ⟨r, e⟩ := qVars_pre _ _ _ _ _ hqv
      have hr : r.length = 1 := by rw [e] at hl; simp at hl; omega
      obtain ⟨y, rfl⟩ : ∃ y, r = [y] := by
        cases r with
        | nil => simp at hr
        | cons y r => cases r with
          | nil => exact ⟨y, rfl⟩
          | cons _ _ => simp at hr
      rw [e] at hget
      simp [List.getD] at hget
      rw [e, hget]
    rw [h1] at g1
    have e0 := num_le g4
    have hp' := hp
    unfold pVar at hp'
    have n1 : t.adv.at_ = t.at_ + 1 := rfl
    have n2 : t.adv.adv.at_ = t.at_ + 2 := rfl
    have n3 : t.adv.adv.adv.at_ = t.at_ + 3 := rfl
    have n4 : t.adv.adv.adv.adv.at_ = t.at_ + 4 := rfl
    rw [g1] at hp'
    simp only [n1, n2, n3, g2, g3, g4, Prod.mk.injEq, true_and] at hp'
    have hFF := qFirst_fOf s g 4 v0 t.adv.adv.adv.adv [] (by omega) e0.2
    rw [n4] at hFF
    simp only [List.nil_append] at hFF
    rw [hF] at hFF
    simp only [Prod.mk.injEq, Except.ok.injEq] at hFF
    have hat : t'.at_ = j := by rw [← hp', hFF.2]
    have hn : t'.n = t.n + 1 := by rw [← hp']
    refine ⟨acc, (g, l, a0), h1, h3, hvs, ?_, hn, fun h => ?_, fun h => ?_⟩
    · rw [vOf_eq g2 g4 rfl]; simp [v2, hFF.1]
    · rw [hat]
      exact ⟨(hA h).1, fun hk => ⟨hva ((hA h).2 hk).1, ((hA h).2 hk).2⟩⟩
    · rw [hat]; exact ⟨hva (hZ h).1, (hZ h).2⟩
  · cases h
  · cases h
  · cases h
theorem GP.ghost {s : ByteArray} (va : List VA) (ra : List RA) (hs : s.size ≤ 120) : Ghost s (GP s va ra) where
  v1 := fun {t t' vs k} h hp hn hk => by
    obtain ⟨acc, v, h1, h3, hvs, hv, hn', hA, _⟩ := h.one hp
    exact .inl ⟨rfl, acc ++ [v], by simp [h1]; show _ = t'.n; omega, by simp; omega, by rw [hvs, hv]; simp, (hA (by omega)).1 k hk⟩
  v2 := fun {t t' vs} h hp hk => by
    obtain ⟨acc, v, h1, h3, hvs, hv, hn', hA, hZ⟩ := h.one hp
    by_cases h4 : acc.length + 1 < 3
    · obtain ⟨e1, e2⟩ := (hA h4).2 (hk (by omega))
      exact .inr (.inl ⟨rfl, by rw [hvs, hv, e1]; simp, e2⟩)
    · obtain ⟨e1, e2⟩ := hZ h4
      exact .inr (.inl ⟨rfl, by rw [hvs, hv, e1]; simp, e2⟩)
  r3 := fun {t vs rl k k2} h h1 h2 => by
    rcases h with ⟨h, _⟩ | ⟨_, hvs, hL⟩ | ⟨h, _⟩ | ⟨h, _⟩
    · cases h
    · rcases leftR hs (Nat.le_of_lt (num_lt h1)) hL with ⟨e, _⟩ | ⟨_, _, k', _, (⟨k2', _, hD⟩ | ⟨e, _⟩)⟩
      · have := num_lt h1; omega
      · exact .inr (.inr (.inl ⟨rfl, hvs, hD⟩))
      · have e' : num? s t.adv.at_ 58 0 0 = none := e
        rw [e'] at h2; cases h2
    · cases h
    · cases h
  r4 := fun {t vs rl k} h h1 h2 => by
    rcases h with ⟨h, _⟩ | ⟨_, hvs, hL⟩ | ⟨h, _⟩ | ⟨h, _⟩
    · cases h
    · rcases leftR hs (Nat.le_of_lt (num_lt h1)) hL with ⟨e, _⟩ | ⟨_, _, k', _, (⟨k2', e, _⟩ | ⟨_, hC⟩)⟩
      · have := num_lt h1; omega
      · have e' : num? s t.adv.at_ 58 0 0 = some k2' := e
        rw [e'] at h2; cases h2
      · exact .inr (.inr (.inr ⟨rfl, hvs, hC⟩))
    · cases h
    · cases h
  c4 := fun {t t' vs cl rl k} h hp hk => by
    rcases h with ⟨h, _⟩ | ⟨h, _⟩ | ⟨h, _⟩ | ⟨_, hvs, hL⟩
    · cases h
    · cases h
    · cases h
    · obtain ⟨c, hc, _, _, hA, _⟩ := leftC hL
      have ha := pCond_at hp
      rw [ha] at hk
      have := hA k hk
      rw [cdOf_q hc] at this
      exact .inr (.inr (.inr ⟨rfl, hvs, by show LeftC s ra rl _ (t'.at_ + 1); rw [ha]; exact this⟩))
  c3 := fun {t t' vs cl rl k} h hp hk h2 => by
    rcases h with ⟨h, _⟩ | ⟨h, _⟩ | ⟨h, _⟩ | ⟨_, hvs, hL⟩
    · cases h
    · cases h
    · cases h
    · obtain ⟨c, hc, _, _, _, hB⟩ := leftC hL
      have ha := pCond_at hp
      rw [ha] at hk
      obtain ⟨_, _, hD⟩ := hB hk
      rw [cdOf_q hc] at hD
      exact .inr (.inr (.inl ⟨rfl, hvs, by show LeftD s ra rl _ [] (t'.at_ + 1); rw [ha]; exact hD⟩))
  d3 := fun {t t' vs cl dl rl k} h hp hk => by
    rcases h with ⟨h, _⟩ | ⟨h, _⟩ | ⟨_, hvs, hL⟩ | ⟨h, _⟩
    · cases h
    · cases h
    · obtain ⟨d, j, hd, _, _, _, hA, _⟩ := leftD hL
      obtain ⟨rfl, rfl⟩ := chOf_q hd hp
      exact .inr (.inr (.inl ⟨rfl, hvs, hA k hk⟩))
    · cases h
  d2 := fun {t t' vs cl dl rl} h hp hk => by
    rcases h with ⟨h, _⟩ | ⟨h, _⟩ | ⟨_, hvs, hL⟩ | ⟨h, _⟩
    · cases h
    · cases h
    · obtain ⟨d, j, hd, _, _, _, _, hB⟩ := leftD hL
      obtain ⟨rfl, rfl⟩ := chOf_q hd hp
      exact .inr (.inl ⟨rfl, hvs, hB hk⟩)
    · cases h
/-- At the end all has been read. -/
theorem GP.all {s : ByteArray} {va : List VA} {ra rl : List RA} {t : T} {vs : List V2} (hs : s.size ≤ 120) (h : GP s va ra 2 t vs [] [] rl) (he : t.at_ = s.size) : vs = va.map v2 ∧ rl = ra := by
  rcases h with ⟨h, _⟩ | ⟨_, hvs, hL⟩ | ⟨h, _⟩ | ⟨h, _⟩
  · cases h
  · rcases leftR hs (by omega) hL with ⟨_, e⟩ | ⟨e, _⟩
    · exact ⟨hvs, e.symm⟩
    · omega
  · cases h
  · cases h
end Go.Proofs.YtgoebckimmofoaaDoor

/- The code's First and Next. Our own text. -/
namespace Go.Proofs.YtgoebckimmofoaaDoor
open Go.RowKit Go.Lib

def GvA (va : List VA) (k : Nat) : Nat := Gv (va.map v2) k
theorem getD_v2 (va : List VA) (k : Nat) : (va.map v2).getD k (0, []) = v2 (va.getD k (0, [], 0)) := by
  by_cases h : k < va.length
  · simp [List.getD, h]
  · simp [List.getD, List.getElem?_eq_none (Nat.le_of_not_lt h), v2]
def fN (x : Junk) (k : Nat) : Nat := (x.f k).toNat
theorem GF.three {va : List VA} {x : Junk} (h : GF (va.map v2) x) : ∀ k, k < 3 → x.g k = (GvA va k : Int) ∧ x.f k = (fN x k : Int) ∧ BitsL (fN x k) (va.getD k (0, [], 0)).2.1 := by
  intro k hk
  refine ⟨h.g hk, ?_⟩
  by_cases hl : k < va.length
  · obtain ⟨_, f, h2, h4⟩ := h.v k (by simpa using hl)
    rw [getD_v2] at h4
    have e : fN x k = f := by unfold fN; rw [h2]; exact Int.toNat_natCast f
    exact ⟨by rw [e]; exact h2, by rw [e]; exact h4⟩
  · obtain ⟨_, h2⟩ := h.z k (by simpa using hl) hk
    have e : fN x k = 0 := by unfold fN; rw [h2]; rfl
    have e2 : va.getD k (0, [], 0) = (0, [], 0) := by simp [List.getD, List.getElem?_eq_none (Nat.le_of_not_lt hl)]
    exact ⟨by rw [e, h2]; rfl, by rw [e, e2]; exact BitsL.nil⟩
theorem fN_lt {va : List VA} {x : Junk} (h : GF (va.map v2) x) (k : Nat) : fN x k < 16 := by
  by_cases hk : k < 3
  · exact (h.three k hk).2.2.1
  · have : fN x k = fN x 2 := by
      unfold fN Junk.f
      split <;> first | omega | rfl
    rw [this]; exact (h.three 2 (by omega)).2.2.1
theorem Gv_le {va : List VA} {ra : List RA} (h : GoodA va ra) (k : Nat) : GvA va k ≤ 3 := by
  unfold GvA Gv
  rw [getD_v2]
  by_cases hl : k < va.length
  · have e' : va.getD k (0, [], 0) = va[k] := by simp [List.getD, hl]
    rw [e']; exact (h.v _ (List.getElem_mem hl)).1.2
  · have e2 : va.getD k (0, [], 0) = (0, [], 0) := by simp [List.getD, List.getElem?_eq_none (Nat.le_of_not_lt hl)]
    rw [e2]; exact Nat.zero_le _
theorem mc_of {va : List VA} {t : T} {x : Junk} {M : Nat} {W : World} (h : GF (va.map v2) x) (hn : t.n = va.length) (hb : W.heap[M]? = some (.cells (mblk t x) 74 (0, 0))) : MC M (GvA va) (fN x) va.length W := by
  have h3 := h.three
  refine ⟨fun k hk => ?_, by simp [World.cell?, hb, mblk, hn]⟩
  obtain ⟨a, b, _⟩ := h3 k hk
  have hc : k = 0 ∨ k = 1 ∨ k = 2 := by omega
  rw [← a, ← b]
  rcases hc with rfl | rfl | rfl <;> simp [World.cell?, hb, mblk, Junk.g, Junk.f]
theorem rcheck_good {s : ByteArray} (h0 : (rCheck s).1 = 0) : s.size ≤ 120 ∧ (rCheck s).2 = 0 ∧ ∃ va ra q, qRead s = (some (va, ra), q) ∧ (wrongP va ra).1 = 0 := by
  obtain ⟨hle, va, ra, q', hq, hw⟩ := rCheck_ok h0
  refine ⟨hle, ?_, va, ra, q', hq, hw⟩
  unfold rCheck
  rw [if_neg (by omega), hq]
  obtain ⟨e1, e2⟩ := wrong_none hw
  show (wrongP va ra).2 = 0
  unfold wrongP
  rw [e1, e2]; rfl

/-- How readModel ends of a good model: the machine lies in block M, and its rules mean what the document's do. -/
structure GR (s : ByteArray) (va : List VA) (ra : List RA) (w w' : World) (M : Nat) (f : Nat → Nat) (ao : Option Addr) (cap N : Nat) (vals : List Value) : Prop where
  lo : w.heap.size ≤ M
  hi : M < w'.heap.size
  mc : MC M (GvA va) f va.length w'
  f16 : ∀ k, f k < 16
  fb : ∀ k, k < 3 → BitsL (f k) (va.getD k (0, [], 0)).2.1
  c7 : w'.cell? ⟨M, 7, none⟩ = some (.slice ao ra.length cap)
  row : w'.ownsRow w.heap.size 116 1 (.slice ao ra.length cap) ra.length vals
  mean : All2 (fun v r => FnK N w' v (fun y => .int .u64 (ruP s (GvA va) r y : Nat))) vals ra
  l8 : ra.length ≤ 8
  below : Below w.heap.size w w'
def GRPost (s : ByteArray) (va : List VA) (ra : List RA) (w : World) (e : Ending) (w' : World) : Prop :=
  ∃ M f ao cap N vals, e = .returned (.tuple #[.pointer (some ⟨M, 0, none⟩), .int .i64 0, .int .i64 0]) ∧ GR s va ra w w' M f ao cap N vals
theorem gread {s : ByteArray} {va : List VA} {ra : List RA} {q' : Q} (h0 : (rCheck s).1 = 0) (hs : s.size ≤ 120) (hq : qRead s = (some (va, ra), q')) (w : World) :
    Calls Tryd.prog 17 #[.string s] w (GRPost s va ra w) := by
  have hc := check_same s
  have hc1 : (pCheck s).1 = 0 := by rw [← hc] at h0; exact h0
  have hc2 : ((pCheck s).2 : Int) = 0 := by
    have := (rcheck_good h0).2.1
    rw [← hc] at this; exact this
  have hsz : s.size ≤ maxLen := by unfold maxLen; omega
  refine (readModel_any s (fun h => GP.ghost va ra h) (fun _ => .inl ⟨rfl, [], rfl, by decide, rfl, leftV0 hq⟩) w hsz).mono ?_
  rintro e w1 ⟨hb, (⟨h1, _⟩ | ⟨_, B, M, N, t, x, vs, rl, rfl, hS, hP, he, hM⟩)⟩
  · exact absurd hc1 h1
  · obtain ⟨rfl, rfl⟩ := hP.all hs he
    have hn : t.n = va.length := by have := hS.vl; simpa using this.symm
    obtain ⟨vals, hrow, hmean⟩ := hS.rw.r
    obtain ⟨ao, cap, hvr⟩ := owned_slice' hrow
    rw [hvr] at hrow
    refine ⟨M, fN x, ao, cap, N, vals, by rw [hc2], hM, hS.rb.ltM, mc_of hS.gf hn hS.rb.m, fN_lt hS.gf, fun k hk => (hS.gf.three k hk).2.2, by rw [hS.rb.m7, hvr], own_base hrow (by have := hS.rb.lo; omega), hmean, hS.l8, hb⟩
/-- readModel of a bad model. -/
theorem bread (s : ByteArray) (w : World) (hsz : s.size ≤ maxLen) : Calls Tryd.prog 17 #[.string s] w fun e w' => (∃ ao, e = .returned (.tuple #[.pointer ao, .int .i64 ((rCheck s).1 : Nat), .int .i64 (rCheck s).2])) ∧ Below w.heap.size w w' := by
  rw [← check_same s]
  refine (readModel_bad s w hsz).mono ?_
  rintro e w1 ⟨hb, (⟨_, ao, rfl⟩ | ⟨h0, _, M, _, _, _, _, _, rfl, _⟩)⟩
  · exact ⟨⟨ao, rfl⟩, hb⟩
  · exact ⟨⟨_, by show _ = Ending.returned (.tuple #[_, .int .i64 ((pCheck s).1 : Nat), .int .i64 ((pCheck s).2 : Int)]); rw [h0]; rfl⟩, hb⟩

set_option maxRecDepth 100000 in
set_option maxHeartbeats 1600000 in
theorem first9_any (s : ByteArray) (w : World) (hs : s.size ≤ maxLen) (h0w : 0 < w.heap.size) (hT : Tab w) :
    Calls Tryd.prog 14 #[.string s] w fun e w' => (∃ v, e = .returned (.tuple #[v, .int .i64 ((rCheck s).1 : Nat), .int .i64 (rCheck s).2]) ∧ w'.ownsRow w.heap.size 9 1 v (if (rCheck s).1 = 0 then refF s else []).length (strs (if (rCheck s).1 = 0 then refF s else []))) ∧ Below w.heap.size w w' := by
  by_cases h0 : (rCheck s).1 = 0
  · obtain ⟨hle, hp0, va, ra, q', hq, hw⟩ := rcheck_good h0
    have HR : Put (_) := ⟨gread h0 hle hq w⟩
    rw [h0, hp0]
    rw [if_pos rfl]
    have hrf : refF s = (allL (va.map (fun v => v.1))).filter (isFP (va.map (fun v => v.2.1))) := by unfold refF; rw [hq]
    have HRF : Put (_ = _) := ⟨hrf⟩
    have HG : Put (GoodA va ra) := ⟨goodA hq hw⟩
    clear hrf hq hw hp0 h0
    go_enter Tryd.func14, Tryd.ntmps14
    go_wp2_with fail
    refine HR.out.mono ?_
    rintro e w1 ⟨M, f, ao, cap, N, vals, rfl, hR⟩
    have HRR : Put (_) := ⟨hR⟩
    have hlt := hR.hi
    clear hR HR
    go_wp2_with fail
    refine (first_any M va.length (GvA va) f HG.out.l1 HG.out.l3 HRR.out.f16 w1 HRR.out.mc hlt (hT.below HRR.out.below h0w)).mono ?_
    rintro e w3 ⟨rfl, hb3⟩
    have HB3 : Put (Below w.heap.size w w3) := ⟨HRR.out.below.trans (hb3.mono HRR.out.below.size)⟩
    have HM3 : Put (_) := ⟨HRR.out.mc.below hb3 hlt⟩
    have hlt3 : M < w3.heap.size := Nat.lt_of_lt_of_le hlt hb3.size
    have HFL : Put (_) := ⟨frs_lt f va.length HG.out.l3⟩
    clear hb3 hlt
    go_wp2_with fail
    refine (texts_any M (frs f va.length) va.length (GvA va) f HFL.out HG.out.l1 HG.out.l3 w3 HM3.out hlt3 (hT.below HB3.out h0w)).mono ?_
    rintro e w4 ⟨⟨v, rfl, hrow⟩, hb4⟩
    have hfs := firsts_same (va.map (fun v => v.1)) (va.map (fun v => v.2.1)) f (by simpa using HG.out.l1) (by simpa using HG.out.l3)
      (fun t ht => by obtain ⟨v, hv, rfl⟩ := List.mem_map.1 ht; exact (HG.out.v v hv).1) (by simp)
      (fun k hk v hv => by
        have hk' : k < va.length := by simpa using hk
        have := (HRR.out.fb k (by have := HG.out.l3; omega)).2 v hv
        rw [this]
        simp [List.getD, hk'])
      (fun k hk _ v hv => by
        have hk' : k < va.length := by simpa using hk
        simp only [List.getElem_map] at hv ⊢
        exact (HG.out.v _ (List.getElem_mem hk')).2 v hv)
    rw [List.length_map] at hfs
    have hlen : (mem (frs f va.length)).length = ((mem (frs f va.length)).map (fun i => digs va.length i.val)).length := by simp
    rw [hlen, hfs, ← HRF.out] at hrow
    have HROW : Put (w4.ownsRow w.heap.size 9 1 v (refF s).length (strs (refF s))) := ⟨own_base hrow HB3.out.size⟩
    obtain ⟨aol, capl, rfl⟩ := owned_slice' hrow
    have HB4 : Put (Below w.heap.size w w4) := ⟨HB3.out.trans (hb4.mono HB3.out.size)⟩
    clear hrow hb4 hfs hlen
    go_wp2
    refine bodyPost_ret (v := .tuple #[.slice aol _ capl, .int .i64 0, .int .i64 0]) (by simp [results, Tryd.results14, go_sem]; rfl) rfl ?_
    exact ⟨⟨_, rfl, HROW.out⟩, HB4.out⟩
  · rw [if_neg h0]
    have hne : (((rCheck s).1 : Int) == 0) = false := by simp; exact h0
    have hck := bread s w hs
    generalize (rCheck s).1 = a at *
    generalize (rCheck s).2 = b at *
    go_enter Tryd.func14, Tryd.ntmps14
    go_wp2_with fail
    refine hck.mono ?_
    rintro e w1 ⟨⟨ao, rfl⟩, hb1⟩
    clear hck
    go_wp2
    refine bodyPost_ret (v := .tuple #[.slice none 0 0, .int .i64 a, .int .i64 b]) (by simp [results, Tryd.results14, go_sem]) rfl ?_
    exact ⟨⟨_, rfl, World.ownsRow_nil _ _ _ _⟩, hb1⟩

theorem FnK.fn1 {N : Nat} {w : World} {v : Value} {R : Nat → Value} (h : FnK N w v R) (h0 : 0 < w.heap.size) (hT : Tab w) : Fn1 w v R := by
  obtain ⟨fn, caps, h1, h2, h3⟩ := h
  exact ⟨fn, caps, h1, h2, fun W hW x hx => h3 W (Kp.of_below hW) (Nat.lt_of_lt_of_le h0 hW.size) (hT.below hW h0) x hx⟩
theorem All2.mapr {α β γ : Type} {R : α → γ → Prop} {f : β → γ} : ∀ {l : List α} {m : List β}, All2 (fun a b => R a (f b)) l m → All2 R l (m.map f)
  | [], [], _ => All2.nil
  | _ :: _, _ :: _, h => All2.cons h.1 (All2.mapr (R := R) h.2)
  | [], _ :: _, h => h.elim
  | _ :: _, [], h => h.elim
theorem ruP_lt {s : ByteArray} {va : List VA} {ra : List RA} (hg : GoodA va ra) {r : RA} (hr : r ∈ ra) {x : Nat} (hx : x < 64) : ruP s (GvA va) r x < 18446744073709551616 := by
  unfold ruP
  split
  · refine chF_lt _ _ (fun d hd => ?_) (Nat.pow_lt_pow_right (by decide) hx)
    unfold dsP at hd
    obtain ⟨c, hc, rfl⟩ := List.mem_map.1 hd
    have := hg.d r hr c hc
    have := hg.l3
    show c.1.toNat < 3
    omega
  · decide
theorem nxS_lt {ρs : List (Nat → Nat)} {x : Nat} (hx : x < 64) (h : ∀ ρ ∈ ρs, ρ x < 18446744073709551616) : nxS ρs x < 18446744073709551616 := by
  unfold nxS
  split
  · exact Nat.pow_lt_pow_right (by decide) hx
  · exact nxU_lt _ h 0 (by decide)
def nxL (s : ByteArray) (va : List VA) (ra : List RA) (x : Nat) : List (List Nat) := (mem (nxS (ra.map (ruP s (GvA va))) x)).map (fun i => digs va.length i.val)

def NextPost (s st : ByteArray) (w : World) (e : Ending) (w' : World) : Prop :=
  (((rCheck s).1 ≠ 0 ∧ e = .returned (.tuple #[.slice none 0 0, .int .i64 ((rCheck s).1 : Nat), .int .i64 (rCheck s).2]))
    ∨ ((rCheck s).1 = 0 ∧ ∃ (va : List VA) (ra : List RA) (q' : Q), qRead s = (some (va, ra), q') ∧ GoodA va ra ∧
      ((¬ OkS st va.length (GvA va) ∧ e = .returned (.tuple #[.slice none 0 0, .int .i64 8, .int .i64 0]))
        ∨ (∃ (x : Nat) (v : Value), IsS st va.length (GvA va) x ∧ e = .returned (.tuple #[v, .int .i64 0, .int .i64 0]) ∧ w'.ownsRow w.heap.size 9 1 v (nxL s va ra x).length (strs (nxL s va ra x))))))
  ∧ Below w.heap.size w w'


set_option maxRecDepth 100000 in
set_option maxHeartbeats 1600000 in
theorem next14_any (s st : ByteArray) (w : World) (hs : s.size ≤ maxLen) (hst : st.size ≤ maxLen) (h0w : 0 < w.heap.size) (hT : Tab w) :
    Calls Tryd.prog 16 #[.string s, .string st] w (NextPost s st w) := by
  by_cases h0 : (rCheck s).1 = 0
  · obtain ⟨hle, hp0, va, ra, q', hq, hw⟩ := rcheck_good h0
    have H0 : Put (_ ∧ _) := ⟨h0, hq⟩
    have HG : Put (GoodA va ra) := ⟨goodA hq hw⟩
    have HR : Put (_) := ⟨gread h0 hle hq w⟩
    clear hq hw hp0 h0
    go_enter Tryd.func16, Tryd.ntmps16
    go_wp2_with fail
    refine HR.out.mono ?_
    rintro e w1 ⟨M, f, ao, cap, N, vals, rfl, hR⟩
    have HRR : Put (_) := ⟨hR⟩
    have hlt := hR.hi
    have hlen := hR.mean.length
    clear hR HR
    go_wp2_with fail
    refine (state_any M va.length (GvA va) f HG.out.l3 (Gv_le HG.out) st hst w1 HRR.out.mc hlt).mono ?_
    rintro e w3 ⟨hres, hb3⟩
    have HB3 : Put (Below w.heap.size w w3) := ⟨HRR.out.below.trans (hb3.mono HRR.out.below.size)⟩
    have HL3 : Put (Below w1.heap.size w1 w3) := ⟨hb3⟩
    have HM3 : Put (_) := ⟨HRR.out.mc.below hb3 hlt⟩
    have HC3 : Put (_) := ⟨(hb3.cell (p := ⟨M, 7, none⟩) hlt).trans HRR.out.c7⟩
    have hlt3 : M < w3.heap.size := Nat.lt_of_lt_of_le hlt hb3.size
    clear hb3 hlt
    rcases hres with ⟨y, hy, rfl⟩ | ⟨hno, z, rfl⟩
    · have HY : Put (_) := ⟨hy⟩
      have hy64 := hy.1
      clear hy
      have h0w1 : 0 < w1.heap.size := Nat.lt_of_lt_of_le h0w HRR.out.below.size
      have hT1 : Tab w1 := hT.below HRR.out.below h0w
      have hm3 : All2 (fun v ρ => Fn1 w3 v (fun x => .int .u64 (ρ x : Nat))) vals (ra.map (ruP s (GvA va))) :=
        All2.mapr (HRR.out.mean.mono (fun _ _ h => (h.fn1 h0w1 hT1).below HL3.out))
      have hc3 : w3.cell? ⟨M, 7, none⟩ = some (.slice ao vals.length cap) := by rw [hlen]; exact HC3.out
      have hrow3 : w3.ownsRow w.heap.size 116 1 (.slice ao vals.length cap) vals.length vals := by rw [hlen]; exact HL3.out.ownsRow' HRR.out.row
      have hltρ : ∀ ρ ∈ ra.map (ruP s (GvA va)), ρ y < 18446744073709551616 := fun ρ hρ => by obtain ⟨r, hr, rfl⟩ := List.mem_map.1 hρ; exact ruP_lt HG.out hr hy64
      have HN : Put (_) := ⟨next_any M y hy64 w3 ao cap w.heap.size vals (ra.map (ruP s (GvA va))) hlt3 (by have := HRR.out.l8; omega) hc3 hrow3 hm3 hltρ⟩
      have HLT : Put (_) := ⟨nxS_lt hy64 hltρ⟩
      clear hm3 hc3 hrow3 hltρ h0w1 hT1
      go_wp2_with fail
      refine HN.out.mono ?_
      rintro e w4 ⟨rfl, hb4⟩
      have HB4 : Put (Below w.heap.size w w4) := ⟨HB3.out.trans (hb4.mono HB3.out.size)⟩
      have HM4 : Put (_) := ⟨HM3.out.below hb4 hlt3⟩
      have hlt4 : M < w4.heap.size := Nat.lt_of_lt_of_le hlt3 hb4.size
      clear hb4 hlt3 HN
      go_wp2_with fail
      refine (texts_any M (nxS (ra.map (ruP s (GvA va))) y) va.length (GvA va) f HLT.out HG.out.l1 HG.out.l3 w4 HM4.out hlt4 (hT.below HB4.out h0w)).mono ?_
      rintro e w5 ⟨⟨v, rfl, hrow⟩, hb5⟩
      have hlen5 : (mem (nxS (ra.map (ruP s (GvA va))) y)).length = (nxL s va ra y).length := by simp [nxL]
      rw [hlen5] at hrow
      have HROW5 : Put (w5.ownsRow w.heap.size 9 1 v (nxL s va ra y).length (strs (nxL s va ra y))) := ⟨own_base hrow HB4.out.size⟩
      obtain ⟨aol, capl, rfl⟩ := owned_slice' hrow
      have HB5 : Put (Below w.heap.size w w5) := ⟨HB4.out.trans (hb5.mono HB4.out.size)⟩
      clear hrow hb5 hlen5
      go_wp2
      refine bodyPost_ret (v := .tuple #[.slice aol _ capl, .int .i64 0, .int .i64 0]) (by simp [results, Tryd.results16, go_sem]; rfl) rfl ?_
      exact ⟨.inr ⟨H0.out.1, va, ra, q', H0.out.2, HG.out, .inr ⟨y, _, HY.out, rfl, HROW5.out⟩⟩, HB5.out⟩
    · have HNO : Put (_) := ⟨hno⟩
      clear hno
      go_wp2
      refine bodyPost_ret (v := .tuple #[.slice none 0 0, .int .i64 8, .int .i64 0]) (by simp [results, Tryd.results16, go_sem]) rfl ?_
      exact ⟨.inr ⟨H0.out.1, va, ra, q', H0.out.2, HG.out, .inl ⟨HNO.out, rfl⟩⟩, HB3.out⟩
  · have H0 : Put (_) := ⟨h0⟩
    unfold NextPost
    have hne : (((rCheck s).1 : Int) == 0) = false := by simp; exact h0
    have hck := bread s w hs
    clear h0
    generalize (rCheck s).1 = a at *
    generalize (rCheck s).2 = b at *
    go_enter Tryd.func16, Tryd.ntmps16
    go_wp2_with fail
    refine hck.mono ?_
    rintro e w1 ⟨⟨ao, rfl⟩, hb1⟩
    clear hck
    go_wp2
    refine bodyPost_ret (v := .tuple #[.slice none 0 0, .int .i64 a, .int .i64 b]) (by simp [results, Tryd.results16, go_sem]) rfl ?_
    exact ⟨.inl ⟨H0.out, rfl⟩, hb1⟩
end Go.Proofs.YtgoebckimmofoaaDoor
