/- The code's reader and the document's say the same: variables, the whole. Our own text: no walk in it. -/
import Derived.Test.YtkbmolodljenjaaDoorSame
import Derived.Test.YtkbmolodljenjaaDoorKRead
import Derived.Test.YtkbmolodljenjaaDoorRRef
namespace Go.Proofs.YtkbmolodljenjaaDoor

theorem end_same (t : T) (h : Inv t) : toI (t.flt, t.plc) = orP (fl t) (0, 0) := by
  unfold fl
  by_cases h0 : t.flt = 0
  · rw [if_pos h0]; simp [toI, orP, h0, h h0]
  · rw [if_neg h0]; rfl
theorem rules_same (s : ByteArray) (hs : s.size ≤ 120) : ∀ (f F : Nat) (t : T), Inv t → t.chd = 0 → t.at_ ≤ s.size → s.size + 1 ≤ t.at_ + f → s.size + 1 ≤ t.at_ + F →
    (∃ p, qR s f t.at_ t.nr = (none, .error p) ∧ pRun s F 2 t = (2, p)) ∨ (∃ rs j, qR s f t.at_ t.nr = (some rs, .ok j) ∧ toI (pRun s F 2 t) = orP ((fl t).or (wr t.n rs)) (0, 0))
  | 0, F, t, hI, hc, h1, h2, h3 => by omega
  | f + 1, 0, t, hI, hc, h1, h2, h3 => by omega
  | f + 1, F + 1, t, hI, hc, h1, h2, h3 => by
    rw [qR, pRun_2]
    by_cases he : t.at_ = s.size
    · right
      rw [if_neg (by omega), if_pos he]
      refine ⟨[], t.at_, rfl, ?_⟩
      rw [wr]; simp [end_same t hI]
    · rw [if_pos (by omega), if_neg he]
      by_cases h8 : t.nr = 8
      · left; rw [if_pos h8, if_pos h8]; exact ⟨_, rfl, rfl⟩
      · rw [if_neg h8, if_neg h8]
        cases h59 : num? s t.at_ 59 0 0 with
        | none => left; exact ⟨_, rfl, rfl⟩
        | some k =>
          have hl := num_lt h59
          simp only
          have ea : t.adv.at_ = t.at_ + 1 := rfl
          have hr := rule_same s hs F t.adv hI hc (by omega) (by omega) (by omega)
          simp only at hr
          rw [ea] at hr ⊢
          rcases hr with ⟨p, i1, i2⟩ | ⟨r, j, F', t', i1, hj, hlt, i4, i5, i6, i7, i8, i9, i10, i11⟩
          · left; rw [i1]; exact ⟨p, rfl, i2⟩
          · rw [i1]
            simp only [Q.pos]
            have ih := rules_same s hs f F' t' i10 i9 (by omega) (by omega) i6
            have e8 : t'.nr = t.nr + 1 := i8
            have e7 : t'.n = t.n := i7
            rw [i5, e8, e7] at ih
            rcases ih with ⟨p, k1, k2⟩ | ⟨rs, j2, k1, k2⟩
            · left; rw [k1]; exact ⟨p, rfl, i4.trans k2⟩
            · right
              rw [k1]
              refine ⟨r :: rs, j2, rfl, ?_⟩
              have e := congrArg toI i4
              refine (e.trans k2).trans ?_
              rw [i11, fl_adv, wr_cons, Option.or_assoc]
              rfl

def qF (s : ByteArray) : Nat → Nat → Nat → List Nat × Nat
  | 0, _, j => ([], j)
  | f + 1, n, j => match num? s j 48 (n + 1) 3 with
    | some v => (v :: (qF s f v (j + 1)).1, (qF s f v (j + 1)).2)
    | none => ([], j)
theorem qF_acc (s : ByteArray) : ∀ (f n j : Nat) (acc : List Nat), qFirst s f n j acc = (acc ++ (qF s f n j).1, .ok (qF s f n j).2)
  | 0, n, j, acc => by simp [qFirst, qF]
  | f + 1, n, j, acc => by
    rw [qFirst, qF]
    cases num? s j 48 (n + 1) 3 with
    | none => simp
    | some v => simp only; rw [qF_acc s f v (j + 1)]; simp
theorem qF_le (s : ByteArray) : ∀ (f n j : Nat), j ≤ s.size → j ≤ (qF s f n j).2 ∧ (qF s f n j).2 ≤ s.size
  | 0, n, j, h => ⟨Nat.le_refl _, h⟩
  | f + 1, n, j, h => by
    rw [qF]
    cases e : num? s j 48 (n + 1) 3 with
    | none => exact ⟨Nat.le_refl _, h⟩
    | some v =>
      have := num_lt e
      have ih := qF_le s f v (j + 1) (by omega)
      exact ⟨by show j ≤ (qF s f v (j + 1)).2; omega, ih.2⟩
theorem fb_cons (g a0 v : Nat) (l : List Nat) (k : Nat) : fb g a0 (v :: l) k = (if g < v then some ((4 : Nat), ((a0 + k : Nat) : Int)) else none).or (fb g a0 l (k + 1)) := by
  rw [fb]; split <;> rfl
theorem first_same (s : ByteArray) (g a0 : Nat) : ∀ (m v : Nat) (t : T) (k : Nat), Inv t → t.at_ = a0 + k + 1 → v ≤ 3 → 4 ≤ v + m →
    (pFirst s g m v t).at_ = (qF s m v t.at_).2 ∧ (pFirst s g m v t).nr = t.nr ∧ (pFirst s g m v t).chd = t.chd ∧ Inv (pFirst s g m v t) ∧ fl (pFirst s g m v t) = (fl t).or (fb g a0 (v :: (qF s m v t.at_).1) k)
  | 0, v, t, k, hI, ha, hv, hm => by omega
  | m + 1, v, t, k, hI, ha, hv, hm => by
    rw [pFirst, qF]
    obtain ⟨tb, htb⟩ : ∃ tb, tb = if g < v then t.blame 4 else t := ⟨_, rfl⟩
    rw [← htb]
    have hsame : tb.at_ = t.at_ ∧ tb.nr = t.nr ∧ tb.chd = t.chd ∧ Inv tb ∧ fl tb = (fl t).or (if g < v then some (4, ((a0 + k : Nat) : Int)) else none) := by
      rw [htb]
      by_cases h : g < v
      · rw [if_pos h, if_pos h]
        have := blame_same t 4
        refine ⟨this.1, this.2.2.1, this.2.2.2, inv_blame t 4 (by omega) hI, ?_⟩
        rw [fl_blame t 4 (by omega)]
        have : t.at_ - 1 = a0 + k := by omega
        rw [this]
      · rw [if_neg h, if_neg h]
        exact ⟨rfl, rfl, rfl, hI, by simp⟩
    cases hn : num? s t.at_ 48 (v + 1) 3 with
    | none =>
      simp only
      refine ⟨hsame.1, hsame.2.1, hsame.2.2.1, hsame.2.2.2.1, ?_⟩
      rw [hsame.2.2.2.2, fb_cons, fb]; simp
    | some v' =>
      have hle := num_le hn
      simp only
      have ih := first_same s g a0 m v' tb.adv (k + 1) hsame.2.2.2.1 (by show tb.at_ + 1 = _; omega) hle.2 (by omega)
      have ea : tb.adv.at_ = t.at_ + 1 := by show tb.at_ + 1 = _; omega
      rw [ea] at ih
      refine ⟨ih.1, ih.2.1.trans hsame.2.1, ih.2.2.1.trans hsame.2.2.1, ih.2.2.2.1, ?_⟩
      rw [ih.2.2.2.2, fl_adv, hsame.2.2.2.2, fb_cons g a0 v, Option.or_assoc]
theorem num_top (s : ByteArray) (p : Nat) : num? s p 48 1 3 = (num? s p 49 0 2).map (· + 1) := by
  unfold num?
  by_cases h : p < s.size
  · rw [dif_pos h, dif_pos h]
    by_cases h2 : 48 + 1 ≤ s[p].toNat ∧ s[p].toNat ≤ 48 + 3
    · rw [if_pos h2, if_pos (by omega)]; simp; omega
    · rw [if_neg h2, if_neg (by omega)]; rfl
  · rw [dif_neg h, dif_neg h]; rfl
theorem bet_bad (s : ByteArray) (p lo d : Nat) : qBet s (.error p) lo d = (0, .error p) := rfl
theorem must_bad (s : ByteArray) (p c : Nat) : qMust s (.error p) c = .error p := rfl
theorem var_same (s : ByteArray) (t : T) (hI : Inv t) (_hat : t.at_ ≤ s.size) :
    (∃ t', qVar s t.n (.ok t.at_) = (none, .error t'.at_) ∧ pVar s t = (false, t')) ∨
    (∃ v t', qVar s t.n (.ok t.at_) = (some v, .ok t'.at_) ∧ pVar s t = (true, t') ∧ t.at_ < t'.at_ ∧ t'.at_ ≤ s.size ∧ t'.n = t.n + 1 ∧ t'.nr = t.nr ∧ t'.chd = t.chd ∧ Inv t' ∧ fl t' = (fl t).or (fb v.1 v.2.2 v.2.1 0)) := by
  unfold qVar pVar
  cases h1 : num? s t.at_ (97 + t.n) 0 0 with
  | none =>
    left
    have e1 : qMust s (.ok t.at_) (97 + t.n) = .error t.at_ := by simp [qMust, qNum, h1, Q.fail]
    rw [e1]; exact ⟨t, rfl, rfl⟩
  | some k1 =>
    have e1 : qMust s (.ok t.at_) (97 + t.n) = .ok (t.at_ + 1) := by simp [qMust, qNum, h1, Q.adv]
    rw [e1]
    simp only
    have a1 : t.adv.at_ = t.at_ + 1 := rfl
    rw [a1, num_top]
    cases h2 : num? s (t.at_ + 1) 49 0 2 with
    | none =>
      left
      have e2 : qBet s (.ok (t.at_ + 1)) 49 2 = (0, .error (t.at_ + 1)) := by simp [qBet, qNum, h2, Q.fail]
      rw [e2]; exact ⟨t.adv, rfl, rfl⟩
    | some g =>
      have e2 : qBet s (.ok (t.at_ + 1)) 49 2 = (g, .ok (t.at_ + 1 + 1)) := by simp [qBet, qNum, h2, Q.adv]
      rw [e2]
      simp only [Option.map_some]
      have a2 : t.adv.adv.at_ = t.at_ + 1 + 1 := rfl
      rw [a2]
      cases h3 : num? s (t.at_ + 1 + 1) 61 0 0 with
      | none =>
        left
        have e3 : qMust s (.ok (t.at_ + 1 + 1)) 61 = .error (t.at_ + 1 + 1) := by simp [qMust, qNum, h3, Q.fail]
        rw [e3]; exact ⟨t.adv.adv, rfl, rfl⟩
      | some k3 =>
        have e3 : qMust s (.ok (t.at_ + 1 + 1)) 61 = .ok (t.at_ + 1 + 1 + 1) := by simp [qMust, qNum, h3, Q.adv]
        rw [e3]
        simp only
        have a3 : t.adv.adv.adv.at_ = t.at_ + 1 + 1 + 1 := rfl
        rw [a3]
        cases h4 : num? s (t.at_ + 1 + 1 + 1) 48 0 3 with
        | none =>
          left
          have e4 : qBet s (.ok (t.at_ + 1 + 1 + 1)) 48 3 = (0, .error (t.at_ + 1 + 1 + 1)) := by simp [qBet, qNum, h4, Q.fail]
          rw [e4]; exact ⟨t.adv.adv.adv, rfl, rfl⟩
        | some v =>
          right
          have hv := (num_le h4).2
          have hl4 := num_lt h4
          have e4 : qBet s (.ok (t.at_ + 1 + 1 + 1)) 48 3 = (v, .ok (t.at_ + 1 + 1 + 1 + 1)) := by simp [qBet, qNum, h4, Q.adv]
          rw [e4]
          simp only [Q.pos]
          rw [qF_acc]
          have a4 : t.adv.adv.adv.adv.at_ = t.at_ + 1 + 1 + 1 + 1 := rfl
          have fs := first_same s (g + 1) (t.at_ + 1 + 1 + 1) 4 v t.adv.adv.adv.adv 0 hI (by rw [a4]) hv (by omega)
          rw [a4] at fs
          have fle := qF_le s 4 v (t.at_ + 1 + 1 + 1 + 1) (by omega)
          refine ⟨(g + 1, v :: (qF s 4 v (t.at_ + 1 + 1 + 1 + 1)).1, t.at_ + 1 + 1 + 1), { pFirst s (g + 1) 4 v t.adv.adv.adv.adv with n := t.n + 1 }, ?_, rfl, ?_, ?_, rfl, fs.2.1, fs.2.2.1, fs.2.2.2.1, ?_⟩
          · show _ = (some _, Except.ok (pFirst s (g + 1) 4 v t.adv.adv.adv.adv).at_)
            rw [fs.1]; rfl
          · show t.at_ < (pFirst s (g + 1) 4 v t.adv.adv.adv.adv).at_; omega
          · show (pFirst s (g + 1) 4 v t.adv.adv.adv.adv).at_ ≤ s.size; omega
          · show fl (pFirst s (g + 1) 4 v t.adv.adv.adv.adv) = _
            rw [fs.2.2.2.2]
            rfl

def qV (s : ByteArray) : Nat → Nat → Nat → Option (List VA) × Q
  | 0, _, i => (some [], .ok i)
  | f + 1, c, i => match qVar s c (.ok i) with
    | (none, q) => (none, q)
    | (some v, q) => if c + 1 < 3 then (match qNum s q 44 0 with
        | some _ => match qV s f (c + 1) (q.pos + 1) with
          | (none, q2) => (none, q2)
          | (some vs, q2) => (some (v :: vs), q2)
        | none => (some [v], q)) else (some [v], q)
theorem qV_acc (s : ByteArray) : ∀ (f i : Nat) (acc : List VA), qVars s f (.ok i) acc = match qV s f acc.length i with
    | (none, q) => (none, q)
    | (some vs, q) => (some (acc ++ vs), q)
  | 0, i, acc => by simp [qVars, qV]
  | f + 1, i, acc => by
    rw [qVars, qV]
    cases hv : qVar s acc.length (.ok i) with
    | mk rv qv =>
    cases rv with
    | none => rfl
    | some v =>
      obtain ⟨j, rfl, hj⟩ := qVar_some hv
      simp only
      by_cases h3 : acc.length + 1 < 3
      · rw [if_pos h3, if_pos h3]
        cases hn : qNum s (.ok j) 44 0 with
        | none => rfl
        | some k =>
          simp only [Q.adv, Q.pos]
          rw [qV_acc s f (j + 1) (acc ++ [v]), List.length_append, List.length_singleton]
          cases qV s f (acc.length + 1) (j + 1) with
          | mk r q => cases r <;> simp
      · rw [if_neg h3, if_neg h3]
theorem wv_cons (v : VA) (l : List VA) : wv (v :: l) = (fb v.1 v.2.2 v.2.1 0).or (wv l) := by
  rw [wv]; cases fb v.1 v.2.2 v.2.1 0 <;> rfl
theorem vars_same (s : ByteArray) : ∀ (f F : Nat) (t : T), Inv t → f + t.n = 3 → t.n < 3 → t.at_ ≤ s.size → s.size + 1 ≤ t.at_ + F →
    (∃ p, qV s f t.n t.at_ = (none, .error p) ∧ pRun s F 1 t = (2, p)) ∨
    (∃ vs j F' t', qV s f t.n t.at_ = (some vs, .ok j) ∧ pRun s F 1 t = pRun s F' 2 t' ∧ t'.at_ = j ∧ j ≤ s.size ∧ s.size + 1 ≤ t'.at_ + F' ∧ t'.n = t.n + vs.length ∧ t'.nr = t.nr ∧ t'.chd = t.chd ∧ Inv t' ∧ fl t' = (fl t).or (wv vs))
  | 0, F, t, hI, hf, hn, h1, h3 => by omega
  | f + 1, 0, t, hI, hf, hn, h1, h3 => by omega
  | f + 1, F + 1, t, hI, hf, hn, h1, h3 => by
    rw [qV, pRun]
    rcases var_same s t hI h1 with ⟨t', e1, e2⟩ | ⟨v, t', e1, e2, hlt, hle, en, enr, ec, hI', ef⟩
    · left; rw [e1, e2]; exact ⟨_, rfl, rfl⟩
    · rw [e1, e2]
      simp only
      rw [en]
      by_cases h : t.n + 1 < 3
      · rw [if_pos h, if_pos h]
        simp only [qNum, Q.pos]
        cases h44 : num? s t'.at_ 44 0 0 with
        | none =>
          right
          simp only
          refine ⟨[v], t'.at_, F, t', rfl, rfl, rfl, hle, by omega, by rw [en]; rfl, enr, ec, hI', ?_⟩
          rw [ef, wv_cons, wv]; simp
        | some k =>
          have hl := num_lt h44
          simp only
          have ea : t'.adv.at_ = t'.at_ + 1 := rfl
          have en' : t'.adv.n = t.n + 1 := en
          have ih := vars_same s f F t'.adv hI' (by omega) (by omega) (by omega) (by omega)
          rw [ea, en'] at ih
          rcases ih with ⟨p, i1, i2⟩ | ⟨vs, j, F', t2, i1, i2, i3, i4, i5, i6, i7, i8, i9, i10⟩
          · left; rw [i1]; exact ⟨p, rfl, i2⟩
          · right
            rw [i1]
            refine ⟨v :: vs, j, F', t2, rfl, i2, i3, i4, i5, by rw [i6, List.length_cons]; omega, i7.trans enr, i8.trans ec, i9, ?_⟩
            rw [i10, fl_adv, ef, wv_cons, Option.or_assoc]
      · rw [if_neg h, if_neg h]
        right
        refine ⟨[v], t'.at_, F, t', rfl, rfl, rfl, hle, by omega, by rw [en]; rfl, enr, ec, hI', ?_⟩
        rw [ef, wv_cons, wv]; simp

theorem check_same (s : ByteArray) : toI (pCheck s) = rCheck s := by
  unfold pCheck rCheck
  by_cases h : 120 < s.size
  · rw [if_pos h, if_pos h]; rfl
  · rw [if_neg h, if_neg h]
    unfold qRead
    rw [qV_acc]
    have hI : Inv T0 := fun _ => rfl
    have hv := vars_same s 3 (s.size + 1) T0 hI rfl (by show 0 < 3; omega) (Nat.zero_le _) (by show _ ≤ 0 + (s.size + 1); omega)
    have e0 : T0.at_ = 0 := rfl
    have e1 : T0.n = 0 := rfl
    rw [e0, e1] at hv
    have el : ([] : List VA).length = 0 := rfl
    rw [el]
    rcases hv with ⟨p, i1, i2⟩ | ⟨vs, j, F', t', i1, i2, i3, i4, i5, i6, i7, i8, i9, i10⟩
    · rw [i1, i2]; rfl
    · rw [i1, i2]
      simp only [List.nil_append, Q.pos]
      rw [qR_acc]
      have hr := rules_same s (by omega) 121 F' t' i9 i8 (by omega) (by omega) i5
      have er : t'.nr = 0 := i7
      have en : t'.n = vs.length := by rw [i6]; simp
      rw [i3, er, en] at hr
      have el2 : ([] : List RA).length = 0 := rfl
      rw [el2]
      rcases hr with ⟨p, k1, k2⟩ | ⟨rs, j2, k1, k2⟩
      · rw [k1, k2]; rfl
      · rw [k1, k2]
        simp only [List.nil_append]
        unfold wrongP
        have hf : fl T0 = none := rfl
        rw [i10, hf]
        cases wv vs <;> rfl
end Go.Proofs.YtkbmolodljenjaaDoor
