/- What is so of a model that Check takes. Pure. Our own text. -/
import Derived.Test.YtkbmolodljenjaaDoorEqN2
import Derived.Test.YtkbmolodljenjaaDoorRWrong
namespace Go.Proofs.YtkbmolodljenjaaDoor

section
variable {s : ByteArray}
theorem qTerm_rng {q q' : Q} {a : Tm} (h : qTerm s q = (some a, q')) : 0 ≤ a.2.1 ∧ a.2.1 ≤ 3 ∧ 0 ≤ a.2.2 := by
  unfold qTerm at h
  split at h
  · simp at h; obtain ⟨rfl, _⟩ := h; exact ⟨by simp, by simp, by simp⟩
  · split at h
    · next n hn =>
      simp at h; obtain ⟨rfl, _⟩ := h
      have : n ≤ 3 := by
        cases q with
        | ok i => exact (num_le hn).2
        | error p => cases hn
      exact ⟨by simp, by simp; omega, by simp⟩
    · simp at h
/-- What a condition's ast is like, read of a text. -/
def PC (c : Tm × Tm) : Prop := (0 ≤ c.1.2.1 ∧ c.1.2.1 ≤ 3 ∧ 0 ≤ c.1.2.2) ∧ 0 ≤ c.2.2.1 ∧ c.2.2.1 ≤ 3 ∧ 0 ≤ c.2.2.2
def PD (s : ByteArray) (c : Chg) : Prop := 0 ≤ c.1 ∧ c.1 ≤ 2 ∧ 0 ≤ c.2.1 ∧ (0 ≤ c.2.2.2.2.1 ∧ c.2.2.2.2.1 ≤ 3 ∧ 0 ≤ c.2.2.2.2.2) ∧ 0 ≤ moreAt s c.2.2.1 c.2.2.2.2.2 ∧ moreAt s c.2.2.1 c.2.2.2.2.2 ≤ 3 ∧ (c.2.2.1 = true → c.2.2.2.1 = 0)
theorem qCond_rng {q q' : Q} {c : Tm × Tm} (h : qCond s q = (some c, q')) : PC c := by
  unfold qCond at h
  split at h
  · simp at h
  · next a q1 h1 =>
    split at h
    · split at h
      · simp at h
      · next b q2 h2 =>
        simp at h
        obtain ⟨rfl, _⟩ := h
        exact ⟨qTerm_rng h1, qTerm_rng h2⟩
    · simp at h
theorem qChange_rng {q q' : Q} {c : Chg} (h : qChange s q = (some c, q')) : PD s c := by
  unfold qChange at h
  split at h
  · simp at h
  · next k hk =>
    have hk2 : k ≤ 2 := by
      cases q with
      | ok i => exact (num_le hk).2
      | error p => cases hk
    split at h
    · simp at h
    · split at h
      · simp at h; obtain ⟨rfl, _⟩ := h
        exact ⟨by simp, by simp; omega, by simp, by simp, by simp [moreAt], by simp [moreAt], fun _ => rfl⟩
      · split at h
        · simp at h
        · next a q3 h4 =>
          split at h
          · next h5 =>
            simp at h; obtain ⟨rfl, _⟩ := h
            have hm := more_none h4 h5
            exact ⟨by simp, by simp; omega, by simp, qTerm_rng h4, by show 0 ≤ moreAt s false a.2.2; omega, by show moreAt s false a.2.2 ≤ 3; omega, fun h => by cases h⟩
          · next k5 h5 =>
            split at h
            · simp at h
            · next kd h6 =>
              simp at h; obtain ⟨rfl, _⟩ := h
              have hm := more_some h4 h5 h6
              have hd : kd ≤ 3 := by
                obtain ⟨i, rfl⟩ := qTerm_some h4
                exact (num_le h6).2
              exact ⟨by simp, by simp; omega, by simp, qTerm_rng h4, by show 0 ≤ moreAt s false a.2.2; omega, by show moreAt s false a.2.2 ≤ 3; omega, fun h => by cases h⟩
theorem qLoop1_all : ∀ (f : Nat) (b : Bool) (q : Q) (acc l : List (Tm × Tm)) (q' : Q), qLoop1 s f b q acc = (some l, q') → (∀ c ∈ acc, PC c) → ∀ c ∈ l, PC c
  | 0, false, q, acc, l, q', h, ha => by simp [qLoop1] at h; obtain ⟨rfl, _⟩ := h; exact ha
  | f + 1, false, q, acc, l, q', h, ha => by simp [qLoop1] at h; obtain ⟨rfl, _⟩ := h; exact ha
  | 0, true, q, acc, l, q', h, _ => by simp [qLoop1] at h
  | f + 1, true, q, acc, l, q', h, ha => by
    unfold qLoop1 at h
    split at h
    · simp at h
    · next c q1 hc =>
      have hc' := tied_snoc (p := PC) ha (qCond_rng hc)
      split at h
      · exact qLoop1_all f true _ _ l q' h hc'
      · exact qLoop1_all f false _ _ l q' h hc'
theorem qLoop2_all : ∀ (f : Nat) (b : Bool) (q : Q) (acc l : List Chg) (q' : Q), qLoop2 s f b q acc = (some l, q') → (∀ c ∈ acc, PD s c) → ∀ c ∈ l, PD s c
  | 0, false, q, acc, l, q', h, ha => by simp [qLoop2] at h; obtain ⟨rfl, _⟩ := h; exact ha
  | f + 1, false, q, acc, l, q', h, ha => by simp [qLoop2] at h; obtain ⟨rfl, _⟩ := h; exact ha
  | 0, true, q, acc, l, q', h, _ => by simp [qLoop2] at h
  | f + 1, true, q, acc, l, q', h, ha => by
    unfold qLoop2 at h
    split at h
    · simp at h
    · next c q1 hc =>
      have hc' := tied_snoc (p := PD s) ha (qChange_rng hc)
      split at h
      · exact qLoop2_all f true _ _ l q' h hc'
      · exact qLoop2_all f false _ _ l q' h hc'
theorem qRule_all {q q' : Q} {r : RA} (h : qRule s q = (some r, q')) : (∀ c ∈ r.1, PC c) ∧ ∀ c ∈ r.2, PD s c := by
  unfold qRule at h
  split at h
  · simp at h
  · next cs q1 h1 =>
    split at h
    · simp at h
    · split at h
      · simp at h
      · next ds q2 h2 =>
        simp at h; obtain ⟨rfl, _⟩ := h
        exact ⟨qLoop1_all _ _ _ _ _ _ h1 (by simp), qLoop2_all _ _ _ _ _ _ h2 (by simp)⟩
theorem qRules_all : ∀ (f i : Nat) (acc l : List RA) (q' : Q), qRules s f i acc = (some l, q') → (∀ r ∈ acc, (∀ c ∈ r.1, PC c) ∧ ∀ c ∈ r.2, PD s c) → ∀ r ∈ l, (∀ c ∈ r.1, PC c) ∧ ∀ c ∈ r.2, PD s c
  | 0, i, acc, l, q', h, _ => by simp [qRules] at h
  | f + 1, i, acc, l, q', h, ha => by
    unfold qRules at h
    split at h
    · split at h
      · simp at h
      · split at h
        · simp at h
        · split at h
          · simp at h
          · next r q1 hr => exact qRules_all f _ _ l q' h (tied_snoc (p := fun r : RA => (∀ c ∈ r.1, PC c) ∧ ∀ c ∈ r.2, PD s c) ha (qRule_all hr))
    · simp at h; obtain ⟨rfl, _⟩ := h; exact ha
def PV (v : VA) : Prop := 1 ≤ v.1 ∧ v.1 ≤ 3 ∧ ∀ x ∈ v.2.1, x ≤ 3
theorem qFirst_all : ∀ (f n j : Nat) (acc : List Nat), (∀ x ∈ acc, x ≤ 3) → ∀ x ∈ (qFirst s f n j acc).1, x ≤ 3
  | 0, _, _, _, ha => ha
  | f + 1, n, j, acc, ha => by
    unfold qFirst
    split
    · next v hv => exact qFirst_all f _ _ _ (tied_snoc (p := fun x => x ≤ 3) ha (num_le hv).2)
    · exact ha
theorem qVar_rng {k : Nat} {q q' : Q} {v : VA} (h : qVar s k q = (some v, q')) : PV v := by
  unfold qVar at h
  split at h
  · simp at h
  · next n j hb =>
    have h1 := qBet_le (s := s) (q := qMust s q (97 + k)) 49 2
    have h2 := qBet_le (s := s) (q := (qMust s (qBet s (qMust s q (97 + k)) 49 2).2 61)) 48 3
    rw [hb] at h2
    simp only [Prod.mk.injEq, Option.some.injEq] at h
    obtain ⟨rfl, _⟩ := h
    exact ⟨by simp, by show _ + 1 ≤ 3; omega, qFirst_all _ _ _ _ (by simp; exact h2)⟩
theorem qVars_all : ∀ (f : Nat) (q : Q) (acc l : List VA) (q' : Q), qVars s f q acc = (some l, q') → acc.length + f = 3 → (∀ v ∈ acc, PV v) → (∀ v ∈ l, PV v) ∧ l.length ≤ 3 ∧ (0 < f → 1 ≤ l.length) ∧ acc.length ≤ l.length
  | 0, q, acc, l, q', h, hl, ha => by simp [qVars] at h; obtain ⟨rfl, _⟩ := h; exact ⟨ha, by omega, by omega, Nat.le_refl _⟩
  | f + 1, q, acc, l, q', h, hl, ha => by
    unfold qVars at h
    split at h
    · simp at h
    · next v q1 hv =>
      have hc := tied_snoc (p := PV) ha (qVar_rng hv)
      split at h
      · split at h
        · obtain ⟨a, b, c, d⟩ := qVars_all f _ _ l q' h (by simp; omega) hc
          simp at d
          exact ⟨a, b, fun _ => by omega, by omega⟩
        · simp at h; obtain ⟨rfl, _⟩ := h; exact ⟨hc, by simp; omega, by simp, by simp⟩
      · simp at h; obtain ⟨rfl, _⟩ := h; exact ⟨hc, by simp; omega, by simp, by simp⟩
theorem qRead_all {va : List VA} {ra : List RA} {q' : Q} (h : qRead s = (some (va, ra), q')) : (∀ v ∈ va, PV v) ∧ 1 ≤ va.length ∧ va.length ≤ 3 ∧ ∀ r ∈ ra, (∀ c ∈ r.1, PC c) ∧ ∀ c ∈ r.2, PD s c := by
  unfold qRead at h
  split at h
  · simp at h
  · next vs q hv =>
    split at h
    · simp at h
    · next rs q2 hr =>
      simp at h; obtain ⟨⟨rfl, rfl⟩, _⟩ := h
      obtain ⟨a, b, c, _⟩ := qVars_all 3 _ _ _ _ hv rfl (by simp)
      exact ⟨a, c (by omega), b, qRules_all _ _ _ _ _ hr (by simp)⟩
end
theorem fb_none {top at_ : Nat} : ∀ {l : List Nat} {k : Nat}, fb top at_ l k = none → ∀ x ∈ l, x ≤ top
  | [], _, _ => by simp
  | y :: l, k, h => by
    unfold fb at h
    split at h
    · cases h
    · intro x hx
      rcases List.mem_cons.1 hx with rfl | hx
      · omega
      · exact fb_none h x hx
theorem fb_code {top at_ : Nat} : ∀ {l : List Nat} {k : Nat} {y : Nat × Int}, fb top at_ l k = some y → y.1 ≠ 0
  | [], _, _, h => by cases h
  | x :: l, k, y, h => by
    unfold fb at h
    split at h
    · simp at h; subst h; simp
    · exact fb_code h
theorem wv_none : ∀ {l : List VA}, wv l = none → ∀ v ∈ l, ∀ x ∈ v.2.1, x ≤ v.1
  | [], _ => by simp
  | u :: l, h => by
    unfold wv at h
    split at h
    · cases h
    · next hf =>
      intro v hv
      rcases List.mem_cons.1 hv with rfl | hv
      · exact fb_none hf
      · exact wv_none h v hv
theorem wv_code : ∀ {l : List VA} {y : Nat × Int}, wv l = some y → y.1 ≠ 0
  | [], _, h => by cases h
  | u :: l, y, h => by
    unfold wv at h
    split at h
    · next x hx => cases h; exact fb_code hx
    · exact wv_code h
theorem wc_none {n : Nat} : ∀ {l : List (Tm × Tm)}, (∀ c ∈ l, PC c) → wc n l = none → ∀ c ∈ l, c.1.1 < (n : Int) ∧ c.2.1 < (n : Int)
  | [], _, _ => by simp
  | u :: l, hp, h => by
    unfold wc at h
    split at h
    · cases h
    · next hu =>
      intro c hc
      rcases List.mem_cons.1 hc with rfl | hc
      · have h1 := hp c (by simp)
        unfold unnamed at hu
        split at hu
        · exact absurd h1.1.2.2 hu
        · split at hu
          · exact absurd h1.2.2.2 hu
          · omega
      · exact wc_none (fun d hd => hp d (by simp [hd])) h c hc
theorem wc_code {n : Nat} : ∀ {l : List (Tm × Tm)} {y : Nat × Int}, wc n l = some y → y.1 ≠ 0
  | [], _, h => by cases h
  | u :: l, y, h => by
    unfold wc at h
    split at h
    · cases h; simp
    · exact wc_code h
theorem wd_none {n : Nat} : ∀ {l pre : List Chg}, wd n pre l = none → (∀ c ∈ l, c.1 < (n : Int) ∧ (c.2.2.1 = false → c.2.2.2.1 < (n : Int)) ∧ ∀ d ∈ pre, d.1 ≠ c.1) ∧ (l.map Prod.fst).Nodup
  | [], _, _ => by simp
  | u :: l, pre, h => by
    unfold wd at h
    split at h
    · next hu =>
      obtain ⟨a, b⟩ := wd_none h
      have h1 : ¬ (n : Int) ≤ u.1 ∧ pre.any (fun d => decide (d.1 = u.1)) = false ∧ ¬ (u.2.2.1 = false ∧ (n : Int) ≤ u.2.2.2.1) := by
        unfold twiceP at hu
        split at hu
        · simp at hu
        · next g1 =>
          split at hu
          · simp at hu
          · next g2 =>
            split at hu
            · simp at hu
            · next g3 => exact ⟨g1, Bool.eq_false_iff.2 g2, g3⟩
      have h2 : ∀ d ∈ pre, d.1 ≠ u.1 := by
        intro d hd e
        have := h1.2.1
        rw [List.any_eq_false] at this
        exact this d hd (by simpa using e)
      refine ⟨fun c hc => ?_, ?_⟩
      · rcases List.mem_cons.1 hc with rfl | hc
        · exact ⟨by omega, fun hf => by have := h1.2.2; simp [hf] at this; omega, h2⟩
        · obtain ⟨a1, a2, a3⟩ := a c hc
          exact ⟨a1, a2, fun d hd => a3 d (by simp [hd])⟩
      · rw [List.map_cons, List.nodup_cons]
        refine ⟨fun hm => ?_, b⟩
        obtain ⟨c, hc, e⟩ := List.mem_map.1 hm
        exact (a c hc).2.2 u (by simp) e.symm
    · cases h
theorem wd_code {n : Nat} : ∀ {l pre : List Chg} {y : Nat × Int}, wd n pre l = some y → y.1 ≠ 0
  | [], _, _, h => by cases h
  | u :: l, pre, y, h => by
    unfold wd at h
    split at h
    · exact wd_code h
    · next hu => cases h; exact hu
theorem wr_none {n : Nat} : ∀ {l : List RA}, wr n l = none → ∀ r ∈ l, wc n r.1 = none ∧ wd n [] r.2 = none
  | [], _ => by simp
  | u :: l, h => by
    unfold wr at h
    split at h
    · cases h
    · next h1 =>
      split at h
      · cases h
      · next h2 =>
        intro r hr
        rcases List.mem_cons.1 hr with rfl | hr
        · exact ⟨h1, h2⟩
        · exact wr_none h r hr
theorem wr_code {n : Nat} : ∀ {l : List RA} {y : Nat × Int}, wr n l = some y → y.1 ≠ 0
  | [], _, h => by cases h
  | u :: l, y, h => by
    unfold wr at h
    split at h
    · next x hx => cases h; exact wc_code hx
    · split at h
      · next x hx => cases h; exact wd_code hx
      · exact wr_code h
theorem wrong_none {vs : List VA} {rs : List RA} (h : (wrongP vs rs).1 = 0) : wv vs = none ∧ wr vs.length rs = none := by
  unfold wrongP at h
  cases h1 : wv vs with
  | some x => rw [h1] at h; exact absurd h (wv_code h1)
  | none =>
    rw [h1] at h
    cases h2 : wr vs.length rs with
    | some x => rw [h2] at h; exact absurd h (wr_code h2)
    | none => exact ⟨rfl, rfl⟩
/-- All that is so of a good model. -/
theorem good_model {s : ByteArray} {vs : List V3} {rs : List R2} {q' : Q} (h : qRead s = (some (vs.map V3.ast, rs.map R2.ast), q')) (hw : (wrongP (vs.map V3.ast) (rs.map R2.ast)).1 = 0) (ht : ∀ r ∈ rs, R2.Tied s r) :
    1 ≤ vs.length ∧ vs.length ≤ 3 ∧ (∀ v ∈ vs, (1 ≤ v.top ∧ v.top ≤ 3) ∧ ∀ x ∈ v.l, x ≤ v.top) ∧ ∀ r ∈ rs, RuleOk s vs.length r := by
  obtain ⟨a, b, c, d⟩ := qRead_all h
  obtain ⟨e, f⟩ := wrong_none hw
  rw [List.length_map] at b c f
  refine ⟨b, c, fun v hv => ?_, fun r hr => ?_⟩
  · have h1 := a v.ast (List.mem_map_of_mem hv)
    have h2 := wv_none e v.ast (List.mem_map_of_mem hv)
    exact ⟨⟨h1.1, h1.2.1⟩, h2⟩
  · obtain ⟨d1, d2⟩ := d r.ast (List.mem_map_of_mem hr)
    obtain ⟨f1, f2⟩ := wr_none f r.ast (List.mem_map_of_mem hr)
    have g1 := wc_none d1 f1
    obtain ⟨g2, g3⟩ := wd_none f2
    refine ⟨ht r hr, fun c hc => ?_, fun c hc => ?_, ?_⟩
    · have hm : c.ast ∈ r.ast.1 := List.mem_map_of_mem hc
      have k1 := d1 _ hm
      have k2 := g1 _ hm
      exact ⟨⟨k2.1, k1.1.1, k1.1.2.1⟩, ⟨k2.2, k1.2.1, k1.2.2.1⟩⟩
    · have hm : c.ast ∈ r.ast.2 := List.mem_map_of_mem hc
      have k1 := d2 _ hm
      have k2 := g2 _ hm
      have ht' : c.more = moreAt s c.any c.t2 := (ht r hr).2 c hc
      have m1 : 0 ≤ moreAt s c.any c.t2 := k1.2.2.2.2.1
      have m2 : moreAt s c.any c.t2 ≤ 3 := k1.2.2.2.2.2.1
      refine ⟨k1.1, k2.1, ⟨?_, k1.2.2.2.1.1, k1.2.2.2.1.2.1⟩, by rw [ht']; exact m1, by rw [ht']; exact m2⟩
      cases hany : c.any with
      | false => exact k2.2.1 hany
      | true =>
        have : c.t0 = 0 := k1.2.2.2.2.2.2 hany
        show c.t0 < (vs.length : Int)
        omega
    · have : r.ast.2.map Prod.fst = r.dl.map D7.v := by simp [R2.ast, D7.ast, Function.comp_def]
      rw [← this]; exact g3
end Go.Proofs.YtkbmolodljenjaaDoor
