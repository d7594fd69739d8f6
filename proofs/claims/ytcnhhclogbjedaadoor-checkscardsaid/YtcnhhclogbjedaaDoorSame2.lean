/- The code's reader and the document's say the same: rules. Our own text: no walk in it. -/
import Derived.Test.YtcnhhclogbjedaaDoorSame
namespace Go.Proofs.YtcnhhclogbjedaaDoor

def toI (p : Nat × Nat) : Nat × Int := (p.1, (p.2 : Int))
theorem wc_cons (n : Nat) (c : Tm × Tm) (l : List (Tm × Tm)) : wc n (c :: l) = (condO n c).or (wc n l) := by
  rw [wc]; unfold condO; split <;> rfl
theorem wd_cons (n : Nat) (pre : List Chg) (c : Chg) (l : List Chg) : wd n pre (c :: l) = (chgO n pre c).or (wd n (pre ++ [c]) l) := by
  rw [wd]; unfold chgO; split <;> rfl
theorem wr_cons (n : Nat) (r : RA) (l : List RA) : wr n (r :: l) = ((wc n r.1).or (wd n [] r.2)).or (wr n l) := by
  rw [wr]; cases wc n r.1 <;> cases wd n [] r.2 <;> rfl

def q1L (s : ByteArray) : Nat → Nat → Option (List (Tm × Tm)) × Q
  | 0, i => (none, .ok i)
  | f + 1, i => match qCond s (.ok i) with
    | (none, q) => (none, q)
    | (some c, q) => match qNum s q 38 0 with
      | some _ => match q1L s f (q.pos + 1) with
        | (none, q2) => (none, q2)
        | (some cs, q2) => (some (c :: cs), q2)
      | none => (some [c], q)
theorem q1L_acc (s : ByteArray) : ∀ (f i : Nat) (acc : List (Tm × Tm)), i ≤ s.size → s.size + 1 ≤ i + f → qLoop1 s f true (.ok i) acc = match q1L s f i with
    | (none, q) => (none, q)
    | (some cs, q) => (some (acc ++ cs), q)
  | 0, i, acc, h1, h2 => by omega
  | f + 1, i, acc, h1, h2 => by
    rw [qLoop1, q1L]
    cases hc : qCond s (.ok i) with
    | mk rc qc =>
    cases rc with
    | none => rfl
    | some c =>
      obtain ⟨rfl, hle⟩ := qCond_ok hc
      simp only
      cases hn : qNum s (.ok (i + 3)) 38 0 with
      | none => simp only; cases f <;> rfl
      | some k =>
        have := num_lt hn
        simp only [Q.adv, Q.pos]
        rw [q1L_acc s f (i + 3 + 1) _ (by omega) (by omega)]
        cases q1L s f (i + 3 + 1) with
        | mk r q => cases r <;> simp
def q2L (s : ByteArray) : Nat → Nat → Option (List Chg) × Q
  | 0, i => (none, .ok i)
  | f + 1, i => match qChange s (.ok i) with
    | (none, q) => (none, q)
    | (some c, q) => match qNum s q 44 0 with
      | some _ => match q2L s f (q.pos + 1) with
        | (none, q2) => (none, q2)
        | (some cs, q2) => (some (c :: cs), q2)
      | none => (some [c], q)
theorem q2L_acc (s : ByteArray) : ∀ (f i : Nat) (acc : List Chg), i ≤ s.size → s.size + 1 ≤ i + f → qLoop2 s f true (.ok i) acc = match q2L s f i with
    | (none, q) => (none, q)
    | (some cs, q) => (some (acc ++ cs), q)
  | 0, i, acc, h1, h2 => by omega
  | f + 1, i, acc, h1, h2 => by
    rw [qLoop2, q2L]
    cases hc : qChange s (.ok i) with
    | mk rc qc =>
    cases rc with
    | none => rfl
    | some c =>
      obtain ⟨j, rfl, hlt, hle⟩ := qChange_ok hc
      simp only
      cases hn : qNum s (.ok j) 44 0 with
      | none => simp only; cases f <;> rfl
      | some k =>
        have := num_lt hn
        simp only [Q.adv, Q.pos]
        rw [q2L_acc s f (j + 1) _ (by omega) (by omega)]
        cases q2L s f (j + 1) with
        | mk r q => cases r <;> simp
def qR (s : ByteArray) : Nat → Nat → Nat → Option (List RA) × Q
  | 0, i, _ => (none, .bad i)
  | f + 1, i, c => if i < s.size then (if c = 8 then (none, .bad i) else match num? s i 59 0 0 with
      | none => (none, .bad i)
      | some _ => match qRule s (.ok (i + 1)) with
        | (none, q1) => (none, q1)
        | (some r, q1) => match qR s f q1.pos (c + 1) with
          | (none, q2) => (none, q2)
          | (some rs, q2) => (some (r :: rs), q2)) else (some [], .ok i)
theorem qR_acc (s : ByteArray) : ∀ (f i : Nat) (acc : List RA), qRules s f i acc = match qR s f i acc.length with
    | (none, q) => (none, q)
    | (some rs, q) => (some (acc ++ rs), q)
  | 0, i, acc => rfl
  | f + 1, i, acc => by
    rw [qRules, qR]
    by_cases h : i < s.size
    · rw [if_pos h, if_pos h]
      by_cases h8 : acc.length = 8
      · rw [if_pos h8, if_pos h8]
      · rw [if_neg h8, if_neg h8]
        cases num? s i 59 0 0 with
        | none => rfl
        | some k =>
          simp only
          cases qRule s (.ok (i + 1)) with
          | mk r q =>
          cases r with
          | none => rfl
          | some x =>
            simp only
            rw [qR_acc s f q.pos (acc ++ [x]), List.length_append, List.length_singleton]
            cases qR s f q.pos (acc.length + 1) with
            | mk r q => cases r <;> simp
    · rw [if_neg h, if_neg h]; simp

theorem conds_same (s : ByteArray) : ∀ (f F : Nat) (t : T), Inv t → t.at_ ≤ s.size → s.size + 1 ≤ t.at_ + f → s.size + 1 ≤ t.at_ + F →
    (∃ p, q1L s f t.at_ = (none, .bad p) ∧ pRun s F 4 t = (2, p)) ∨
    (∃ cs j, q1L s f t.at_ = (some cs, .ok j) ∧ j ≤ s.size ∧ ((num? s j 58 0 0 = none ∧ pRun s F 4 t = (2, j)) ∨ (∃ k F' t', num? s j 58 0 0 = some k ∧ pRun s F 4 t = pRun s F' 3 t' ∧ t'.at_ = j + 1 ∧ s.size + 1 ≤ t'.at_ + F' ∧ t'.n = t.n ∧ t'.nr = t.nr ∧ t'.chd = t.chd ∧ Inv t' ∧ fl t' = (fl t).or (wc t.n cs))))
  | 0, F, t, hI, h1, h2, h3 => by omega
  | f + 1, 0, t, hI, h1, h2, h3 => by omega
  | f + 1, F + 1, t, hI, h1, h2, h3 => by
    rw [q1L, pRun]
    rcases cond_same s t hI with ⟨t', e1, e2⟩ | ⟨c, t', e1, e2, hc, st⟩
    · left; rw [e1, e2]; exact ⟨t'.at_, rfl, rfl⟩
    · have hle := (qCond_ok e1).2
      have ea := st.at_
      rw [e1, e2]
      simp only [qNum, Q.pos]
      rw [ea]
      cases hn : num? s (t.at_ + 3) 38 0 0 with
      | none =>
        right
        simp only
        refine ⟨[c], t.at_ + 3, rfl, hle, ?_⟩
        cases h58 : num? s (t.at_ + 3) 58 0 0 with
        | none => left; exact ⟨rfl, rfl⟩
        | some k =>
          right
          refine ⟨k, F, t'.adv, rfl, rfl, by show t'.at_ + 1 = _; omega, by show _ ≤ t'.at_ + 1 + F; omega, st.n, st.nr, hc, st.inv, ?_⟩
          rw [fl_adv, st.fl, wc_cons, wc]; simp
      | some k =>
        have hl := num_lt hn
        simp only
        have ea2 : t'.adv.at_ = t.at_ + 3 + 1 := by show t'.at_ + 1 = _; omega
        have ih := conds_same s f F t'.adv st.inv (by omega) (by omega) (by omega)
        rw [ea2] at ih
        have en : t'.adv.n = t.n := st.n
        rcases ih with ⟨p, i1, i2⟩ | ⟨cs, j, i1, hj, i2⟩
        · left; rw [i1]; exact ⟨p, rfl, i2⟩
        · right
          rw [i1]
          refine ⟨c :: cs, j, rfl, hj, ?_⟩
          rcases i2 with ⟨i3, i4⟩ | ⟨k', F', t2, i3, i4, i5, i6, i7, i8, i9, i10, i11⟩
          · left; exact ⟨i3, i4⟩
          · right
            refine ⟨k', F', t2, i3, i4, i5, i6, i7.trans en, i8.trans st.nr, i9.trans hc, i10, ?_⟩
            rw [i11, fl_adv, st.fl, en, wc_cons, Option.or_assoc]

theorem q1L_le (s : ByteArray) : ∀ (f i : Nat) {cs : List (Tm × Tm)} {j : Nat}, q1L s f i = (some cs, .ok j) → i ≤ j
  | 0, i, cs, j, h => by cases h
  | f + 1, i, cs, j, h => by
    rw [q1L] at h
    cases hc : qCond s (.ok i) with
    | mk rc qc =>
    rw [hc] at h
    cases rc with
    | none => cases h
    | some c =>
      obtain ⟨rfl, hle⟩ := qCond_ok hc
      simp only [Q.pos] at h
      cases hn : qNum s (.ok (i + 3)) 38 0 with
      | none => simp only [hn] at h; cases h; omega
      | some k =>
        simp only [hn] at h
        cases h2 : q1L s f (i + 3 + 1) with
        | mk r2 q2 =>
        rw [h2] at h
        cases r2 with
        | none => cases h
        | some cs2 =>
          cases h
          have := q1L_le s f (i + 3 + 1) h2
          omega
theorem bits0 : Bits 0 [] := ⟨by omega, fun k hk => by simp⟩
theorem changes_same (s : ByteArray) : ∀ (f F : Nat) (t : T) (pre : List Chg), Inv t → Bits t.chd pre → t.at_ ≤ s.size → s.size + 1 ≤ t.at_ + f → s.size + 1 ≤ t.at_ + F →
    (∃ p, q2L s f t.at_ = (none, .bad p) ∧ pRun s F 3 t = (2, p)) ∨
    (∃ ds j F' t', q2L s f t.at_ = (some ds, .ok j) ∧ j ≤ s.size ∧ t.at_ < j ∧ pRun s F 3 t = pRun s F' 2 t' ∧ t'.at_ = j ∧ s.size + 1 ≤ t'.at_ + F' ∧ t'.n = t.n ∧ t'.nr = t.nr + 1 ∧ t'.chd = 0 ∧ Inv t' ∧ fl t' = (fl t).or (wd t.n pre ds))
  | 0, F, t, pre, hI, hB, h1, h2, h3 => by omega
  | f + 1, 0, t, pre, hI, hB, h1, h2, h3 => by omega
  | f + 1, F + 1, t, pre, hI, hB, h1, h2, h3 => by
    rw [q2L, pRun]
    rcases change_same s t pre hI hB with ⟨t', e1, e2⟩ | ⟨c, t', d, e1, e2, hd, hb, st⟩
    · left; rw [e1, e2]; exact ⟨t'.at_, rfl, rfl⟩
    · obtain ⟨j', hj', _, hle⟩ := qChange_ok e1
      cases hj'
      have ea := st.at_
      rw [e1, e2]
      simp only [qNum, Q.pos]
      rw [ea]
      cases hn : num? s (t.at_ + d) 44 0 0 with
      | none =>
        right
        simp only
        refine ⟨[c], t.at_ + d, F, { t' with nr := t'.nr + 1, chd := 0 }, rfl, hle, by omega, by rw [← ea], ea, by show _ ≤ t'.at_ + F; omega, st.n, by show t'.nr + 1 = _; rw [st.nr], rfl, st.inv, ?_⟩
        show fl t' = _
        rw [st.fl, wd_cons, wd]; simp
      | some k =>
        have hl := num_lt hn
        simp only
        have ea2 : t'.adv.at_ = t.at_ + d + 1 := by show t'.at_ + 1 = _; omega
        have ih := changes_same s f F t'.adv (pre ++ [c]) st.inv hb (by omega) (by omega) (by omega)
        rw [ea2] at ih
        have en : t'.adv.n = t.n := st.n
        rcases ih with ⟨p, i1, i2⟩ | ⟨ds, j, F', t2, i1, hj, hlt, i4, i5, i6, i7, i8, i9, i10, i11⟩
        · left; rw [i1]; exact ⟨p, rfl, i2⟩
        · right
          rw [i1]
          refine ⟨c :: ds, j, F', t2, rfl, hj, by omega, i4, i5, i6, i7.trans en, by rw [i8]; show t'.nr + 1 = _; rw [st.nr], i9, i10, ?_⟩
          rw [i11, fl_adv, st.fl, en, wd_cons, Option.or_assoc]

theorem rule_same (s : ByteArray) (hs : s.size ≤ 120) (F : Nat) (t : T) (hI : Inv t) (hc : t.chd = 0) (h1 : t.at_ ≤ s.size) (h3 : s.size + 1 ≤ t.at_ + F) (_hF : 0 < F) :
    let P := match num? s t.at_ 58 0 0 with
      | some _ => pRun s F 3 t.adv
      | none => pRun s F 4 t
    (∃ p, qRule s (.ok t.at_) = (none, .bad p) ∧ P = (2, p)) ∨
    (∃ r j F' t', qRule s (.ok t.at_) = (some r, .ok j) ∧ j ≤ s.size ∧ t.at_ < j ∧ P = pRun s F' 2 t' ∧ t'.at_ = j ∧ s.size + 1 ≤ t'.at_ + F' ∧ t'.n = t.n ∧ t'.nr = t.nr + 1 ∧ t'.chd = 0 ∧ Inv t' ∧ fl t' = (fl t).or ((wc t.n r.1).or (wd t.n [] r.2))) := by
  intro P
  unfold qRule qNum
  simp only
  cases h58 : num? s t.at_ 58 0 0 with
  | some k =>
    have hl := num_lt h58
    have hP : P = pRun s F 3 t.adv := by show (match num? s t.at_ 58 0 0 with | some _ => pRun s F 3 t.adv | none => pRun s F 4 t) = _; rw [h58]
    rw [hP]
    have hloop : qLoop1 s 121 (some k).isNone (.ok t.at_) [] = (some [], .ok t.at_) := rfl
    rw [hloop]
    simp only [h58, Q.adv]
    have ea : t.adv.at_ = t.at_ + 1 := rfl
    rw [q2L_acc s 121 (t.at_ + 1) [] (by omega) (by omega)]
    have hB : Bits t.adv.chd [] := by show Bits t.chd []; rw [hc]; exact bits0
    have ih := changes_same s 121 F t.adv [] hI hB (by omega) (by omega) (by omega)
    rw [ea] at ih
    rcases ih with ⟨p, i1, i2⟩ | ⟨ds, j, F', t2, i1, hj, hlt, i4, i5, i6, i7, i8, i9, i10, i11⟩
    · left; rw [i1]; exact ⟨p, rfl, i2⟩
    · right
      rw [i1]
      refine ⟨([], ds), j, F', t2, by simp, hj, by omega, i4, i5, i6, i7, i8, i9, i10, ?_⟩
      rw [i11, fl_adv]; rfl
  | none =>
    have hP : P = pRun s F 4 t := by show (match num? s t.at_ 58 0 0 with | some _ => pRun s F 3 t.adv | none => pRun s F 4 t) = _; rw [h58]
    rw [hP]
    have hno : (none : Option Nat).isNone = true := rfl
    rw [hno]
    rw [q1L_acc s 121 t.at_ [] h1 (by omega)]
    rcases conds_same s 121 F t hI h1 (by omega) h3 with ⟨p, i1, i2⟩ | ⟨cs, j, i1, hj, ⟨i3, i4⟩ | ⟨k', F', t2, i3, i4, i5, i6, i7, i8, i9, i10, i11⟩⟩
    · left; rw [i1]; exact ⟨p, rfl, i2⟩
    · left; rw [i1]; simp only [i3]; exact ⟨j, rfl, i4⟩
    · rw [i1]; simp only [List.nil_append, i3, Q.adv]
      have hl := num_lt i3
      rw [q2L_acc s 121 (j + 1) [] (by omega) (by omega)]
      have hB : Bits t2.chd [] := by rw [i9, hc]; exact bits0
      have ih := changes_same s 121 F' t2 [] i10 hB (by omega) (by omega) i6
      rw [i5] at ih
      rcases ih with ⟨p, k1, k2⟩ | ⟨ds, j2, F2, t3, k1, kj, klt, k4, k5, k6, k7, k8, k9, k10, k11⟩
      · left; rw [k1]; exact ⟨p, rfl, i4.trans k2⟩
      · right
        rw [k1]
        have hmono : t.at_ ≤ j := by
          have := q1L_le s 121 t.at_ i1
          exact this
        refine ⟨(cs, ds), j2, F2, t3, by simp, kj, by omega, i4.trans k4, k5, k6, k7.trans i7, by rw [k8, i8], k9, k10, ?_⟩
        rw [k11, i11, i7, Option.or_assoc]
end Go.Proofs.YtcnhhclogbjedaaDoor
