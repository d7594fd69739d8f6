import Derived.Test.YtgoebckimmofoaaGreatDoorA17
import Derived.Test.YtgoebckimmofoaaGreatDoorA7
/- What is so of a model that Check takes. Pure. Our own text. -/
namespace Go.Proofs.YtgoebckimmofoaaGreatDoor

section
variable {s : ByteArray}
theorem qTerm_rng {q q' : Q} {a : Tm} (h : qTerm s q = (some a, q')) : 0 ≤ a.2.1 ∧ a.2.1 ≤ 3 ∧ 0 ≤ a.2.2 := by
  unfold qTerm at h
  split at h
  · simp at h; obtain ⟨rfl, _⟩ := h; exact ⟨by simp, by simp, by simp⟩
  · split at h
    · next n hn =>
      simp at h; obtain ⟨rfl, _⟩ := h
      have : n ≤ 3 := by
        cases q with
        | ok i => exact (num_le hn).2
        | error p => cases hn
      exact ⟨by simp, by simp; omega, by simp⟩
    · simp at h
/-- What a condition's ast is like, read of a text. -/
def PC (c : Tm × Tm) : Prop := (0 ≤ c.1.2.1 ∧ c.1.2.1 ≤ 3 ∧ 0 ≤ c.1.2.2) ∧ 0 ≤ c.2.2.1 ∧ c.2.2.1 ≤ 3 ∧ 0 ≤ c.2.2.2
def PD (s : ByteArray) (c : Chg) : Prop := 0 ≤ c.1 ∧ c.1 ≤ 2 ∧ 0 ≤ c.2.1 ∧ (0 ≤ c.2.2.2.2.1 ∧ c.2.2.2.2.1 ≤ 3 ∧ 0 ≤ c.2.2.2.2.2) ∧ 0 ≤ moreAt s c.2.2.1 c.2.2.2.2.2 ∧ moreAt s c.2.2.1 c.2.2.2.2.2 ≤ 3 ∧ (c.2.2.1 = true → c.2.2.2.1 = 0)
theorem qCond_rng {q q' : Q} {c : Tm × Tm} (h : qCond s q = (some c, q')) : PC c := by
  unfold qCond at h
  split at h
  · simp at h
  · next a q1 h1 =>
    split at h
    · split at h
      · simp at h
      · next b q2 h2 =>
        simp at h
        obtain ⟨rfl, _⟩ := h
        exact ⟨qTerm_rng h1, qTerm_rng h2⟩
    · simp at h
theorem qChange_rng {q q' : Q} {c : Chg} (h : qChange s q = (some c, q')) : PD s c := by
  unfold qChange at h
  split at h
  · simp at h
  · next k hk =>
    have hk2 : k ≤ 2 := by
      cases q with
      | ok i => exact (num_le hk).2
      | error p => cases hk
    split at h
    · simp at h
    · split at h
      · simp at h; obtain ⟨rfl, _⟩ := h
        exact ⟨by simp, by simp; omega, by simp, by simp, by simp [moreAt], by simp [moreAt], fun _ => rfl⟩
      · split at h
        · simp at h
        · next a q3 h4 =>
          split at h
          · next h5 =>
            simp at h; obtain ⟨rfl, _⟩ := h
            have hm := more_none h4 h5
            exact ⟨by simp, by simp; omega, by simp, qTerm_rng h4, by show 0 ≤ moreAt s false a.2.2; omega, by show moreAt s false a.2.2 ≤ 3; omega, fun h => by cases h⟩
          · next k5 h5 =>
            split at h
            · simp at h
            · next kd h6 =>
              simp at h; obtain ⟨rfl, _⟩ := h
              have hm := more_some h4 h5 h6
              have hd : kd ≤ 3 := by
                obtain ⟨i, rfl⟩ := qTerm_some h4
                exact (num_le h6).2
              exact ⟨by simp, by simp; omega, by simp, qTerm_rng h4, by show 0 ≤ moreAt s false a.2.2; omega, by show moreAt s false a.2.2 ≤ 3; omega, fun h => by cases h⟩
theorem qLoop1_all : ∀ (f : Nat) (b : Bool) (q : Q) (acc l : List (Tm × Tm)) (q' : Q), qLoop1 s f b q acc = (some l, q') → (∀ c ∈ acc, PC c) → ∀ c ∈ l, PC c
  | 0, false, q, acc, l, q', h, ha => by simp [qLoop1] at h; obtain ⟨rfl, _⟩ := h; exact ha
  | f + 1, false, q, acc, l, q', h, ha => by simp [qLoop1] at h; obtain ⟨rfl, _⟩ := h; exact ha
  | 0, true, q, acc, l, q', h, _ => by simp [qLoop1] at h
  | f + 1, true, q, acc, l, q', h, ha => by
    unfold qLoop1 at h
    split at h
    · simp at h
    · next c q1 hc =>
      have hc' := tied_snoc (p := PC) ha (qCond_rng hc)
      split at h
      · exact qLoop1_all f true _ _ l q' h hc'
      · exact qLoop1_all f false _ _ l q' h hc'
theorem qLoop2_all : ∀ (f : Nat) (b : Bool) (q : Q) (acc l : List Chg) (q' : Q), qLoop2 s f b q acc = (some l, q') → (∀ c ∈ acc, PD s c) → ∀ c ∈ l, PD s c
  | 0, false, q, acc, l, q', h, ha => by simp [qLoop2] at h; obtain ⟨rfl, _⟩ := h; exact ha
  | f + 1, false, q, acc, l, q', h, ha => by simp [qLoop2] at h; obtain ⟨rfl, _⟩ := h; exact ha
  | 0, true, q, acc, l, q', h, _ => by simp [qLoop2] at h
  | f + 1, true, q, acc, l, q', h, ha => by
    unfold qLoop2 at h
    split at h
    · simp at h
    · next c q1 hc =>
      have hc' := tied_snoc (p := PD s) ha (qChange_rng hc)
      split at h
      · exact qLoop2_all f true _ _ l q' h hc'
      · exact qLoop2_all f false _ _ l q' h hc'
theorem qRule_all {q q' : Q} {r : RA} (h : qRule s q = (some r, q')) : (∀ c ∈ r.1, PC c) ∧ ∀ c ∈ r.2, PD s c := by
  unfold qRule at h
  split at h
  · simp at h
  · next cs q1 h1 =>
    split at h
    · simp at h
    · split at h
      · simp at h
      · next ds q2 h2 =>
        simp at h; obtain ⟨rfl, _⟩ := h
        exact ⟨qLoop1_all _ _ _ _ _ _ h1 (by simp), qLoop2_all _ _ _ _ _ _ h2 (by simp)⟩
theorem qRules_all : ∀ (f i : Nat) (acc l : List RA) (q' : Q), qRules s f i acc = (some l, q') → (∀ r ∈ acc, (∀ c ∈ r.1, PC c) ∧ ∀ c ∈ r.2, PD s c) → ∀ r ∈ l, (∀ c ∈ r.1, PC c) ∧ ∀ c ∈ r.2, PD s c
  | 0, i, acc, l, q', h, _ => by simp [qRules] at h
  | f + 1, i, acc, l, q', h, ha => by
    unfold qRules at h
    split at h
    · split at h
      · simp at h
      · split at h
        · simp at h
        · split at h
          · simp at h
          · next r q1 hr => exact qRules_all f _ _ l q' h (tied_snoc (p := fun r : RA => (∀ c ∈ r.1, PC c) ∧ ∀ c ∈ r.2, PD s c) ha (qRule_all hr))
    · simp at h; obtain ⟨rfl, _⟩ := h; exact ha
def PV (v : VA) : Prop := 1 ≤ v.1 ∧ v.1 ≤ 3 ∧ ∀ x ∈ v.2.1, x ≤ 3
theorem qFirst_all : ∀ (f n j : Nat) (acc : List Nat), (∀ x ∈ acc, x ≤ 3) → ∀ x ∈ (qFirst s f n j acc).1, x ≤ 3
  | 0, _, _, _, ha => ha
  | f + 1, n, j, acc, ha => by
    unfold qFirst
    split
    · next v hv => exact qFirst_all f _ _ _ (tied_snoc (p := fun x => x ≤ 3) ha (num_le hv).2)
    · exact ha
theorem qVar_rng {k : Nat} {q q' : Q} {v : VA} (h : qVar s k q = (some v, q')) : PV v := by
  unfold qVar at h
  split at h
  · simp at h
  · next n j hb =>
    have h1 := qBet_le (s := s) (q := qMust s q (97 + k)) 49 2
    have h2 := qBet_le (s := s) (q := (qMust s (qBet s (qMust s q (97 + k)) 49 2).2 61)) 48 3
    rw [hb] at h2
    simp only [Prod.mk.injEq, Option.some.injEq] at h
    obtain ⟨rfl, _⟩ := h
    exact ⟨by simp, by show _ + 1 ≤ 3; omega, qFirst_all _ _ _ _ (by simp; exact h2)⟩
theorem qVars_all : ∀ (f : Nat) (q : Q) (acc l : List VA) (q' : Q), qVars s f q acc = (some l, q') → acc.length + f = 3 → (∀ v ∈ acc, PV v) → (∀ v ∈ l, PV v) ∧ l.length ≤ 3 ∧ (0 < f → 1 ≤ l.length) ∧ acc.length ≤ l.length
  | 0, q, acc, l, q', h, hl, ha => by simp [qVars] at h; obtain ⟨rfl, _⟩ := h; exact ⟨ha, by omega, by omega, Nat.le_refl _⟩
  | f + 1, q, acc, l, q', h, hl, ha => by
    unfold qVars at h
    split at h
    · simp at h
    · next v q1 hv =>
      have hc := tied_snoc (p := PV) ha (qVar_rng hv)
      split at h
      · split at h
        · obtain ⟨a, b, c, d⟩ := qVars_all f _ _ l q' h (by simp; omega) hc
          simp at d
          exact ⟨a, b, fun _ => by omega, by omega⟩
        · simp at h; obtain ⟨rfl, _⟩ := h; exact ⟨hc, by simp; omega, by simp, by simp⟩
      · simp at h; obtain ⟨rfl, _⟩ := h; exact ⟨hc, by simp; omega, by simp, by simp⟩
theorem qRead_all {va : List VA} {ra : List RA} {q' : Q} (h : qRead s = (some (va, ra), q')) : (∀ v ∈ va, PV v) ∧ 1 ≤ va.length ∧ va.length ≤ 3 ∧ ∀ r ∈ ra, (∀ c ∈ r.1, PC c) ∧ ∀ c ∈ r.2, PD s c := by
  unfold qRead at h
  split at h
  · simp at h
  · next vs q hv =>
    split at h
    · simp at h
    · next rs q2 hr =>
      simp at h; obtain ⟨⟨rfl, rfl⟩, _⟩ := h
      obtain ⟨a, b, c, _⟩ := qVars_all 3 _ _ _ _ hv rfl (by simp)
      exact ⟨a, c (by omega), b, qRules_all _ _ _ _ _ hr (by simp)⟩
end
theorem fb_none {top at_ : Nat} : ∀ {l : List Nat} {k : Nat}, fb top at_ l k = none → ∀ x ∈ l, x ≤ top
  | [], _, _ => by simp
  | y :: l, k, h => by
    unfold fb at h
    split at h
    · cases h
    · intro x hx
      rcases List.mem_cons.1 hx with rfl | hx
      · omega
      · exact fb_none h x hx
theorem fb_code {top at_ : Nat} : ∀ {l : List Nat} {k : Nat} {y : Nat × Int}, fb top at_ l k = some y → y.1 ≠ 0
  | [], _, _, h => by cases h
  | x :: l, k, y, h => by
    unfold fb at h
    split at h
    · simp at h; subst h; simp
    · exact fb_code h
theorem wv_none : ∀ {l : List VA}, wv l = none → ∀ v ∈ l, ∀ x ∈ v.2.1, x ≤ v.1
  | [], _ => by simp
  | u :: l, h => by
    unfold wv at h
    split at h
    · cases h
    · next hf =>
      intro v hv
      rcases List.mem_cons.1 hv with rfl | hv
      · exact fb_none hf
      · exact wv_none h v hv
theorem wv_code : ∀ {l : List VA} {y : Nat × Int}, wv l = some y → y.1 ≠ 0
  | [], _, h => by cases h
  | u :: l, y, h => by
    unfold wv at h
    split at h
    · next x hx => cases h; exact fb_code hx
    · exact wv_code h
theorem wc_none {n : Nat} : ∀ {l : List (Tm × Tm)}, (∀ c ∈ l, PC c) → wc n l = none → ∀ c ∈ l, c.1.1 < (n : Int) ∧ c.2.1 < (n : Int)
  | [], _, _ => by simp
  | u :: l, hp, h => by
    unfold wc at h
    split at h
    · cases h
    · next hu =>
      intro c hc
      rcases List.mem_cons.1 hc with rfl | hc
      · have h1 := hp c (by simp)
        unfold unnamed at hu
        split at hu
        · exact absurd h1.1.2.2 hu
        · split at hu
          · exact absurd h1.2.2.2 hu
          · omega
      · exact wc_none (fun d hd => hp d (by simp [hd])) h c hc
theorem wc_code {n : Nat} : ∀ {l : List (Tm × Tm)} {y : Nat × Int}, wc n l = some y → y.1 ≠ 0
  | [], _, h => by cases h
  | u :: l, y, h => by
    unfold wc at h
    split at h
    · cases h; simp
    · exact wc_code h
theorem wd_none {n : Nat} : ∀ {l pre : List Chg}, wd n pre l = none → (∀ c ∈ l, c.1 < (n : Int) ∧ (c.2.2.1 = false → c.2.2.2.1 < (n : Int)) ∧ ∀ d ∈ pre, d.1 ≠ c.1) ∧ (l.map Prod.fst).Nodup
  | [], _, _ => by simp
  | u :: l, pre, h => by
    unfold wd at h
    split at h
    · next hu =>
      obtain ⟨a, b⟩ := wd_none h
      have h1 : ¬ (n : Int) ≤ u.1 ∧ pre.any (fun d => decide (d.1 = u.1)) = false ∧ ¬ (u.2.2.1 = false ∧ (n : Int) ≤ u.2.2.2.1) := by
        unfold twiceP at hu
        split at hu
        · simp at hu
        · next g1 =>
          split at hu
          · simp at hu
          · next g2 =>
            split at hu
            · simp at hu
            · next g3 => exact ⟨g1, Bool.eq_false_iff.2 g2, g3⟩
      have h2 : ∀ d ∈ pre, d.1 ≠ u.1 := by
        intro d hd e
        have := h1.2.1
        rw [List.any_eq_false] at this
        exact this d hd (by simpa using e)
      refine ⟨fun c hc => ?_, ?_⟩
      · rcases List.mem_cons.1 hc with rfl | hc
        · exact ⟨by omega, fun hf => by have := h1.2.2; simp [hf] at this; omega, h2⟩
        · obtain ⟨a1, a2, a3⟩ := a c hc
          exact ⟨a1, a2, fun d hd => a3 d (by simp [hd])⟩
      · rw [List.map_cons, List.nodup_cons]
        refine ⟨fun hm => ?_, b⟩
        obtain ⟨c, hc, e⟩ := List.mem_map.1 hm
        exact (a c hc).2.2 u (by simp) e.symm
    · cases h
theorem wd_code {n : Nat} : ∀ {l pre : List Chg} {y : Nat × Int}, wd n pre l = some y → y.1 ≠ 0
  | [], _, _, h => by cases h
  | u :: l, pre, y, h => by
    unfold wd at h
    split at h
    · exact wd_code h
    · next hu => cases h; exact hu
theorem wr_none {n : Nat} : ∀ {l : List RA}, wr n l = none → ∀ r ∈ l, wc n r.1 = none ∧ wd n [] r.2 = none
  | [], _ => by simp
  | u :: l, h => by
    unfold wr at h
    split at h
    · cases h
    · next h1 =>
      split at h
      · cases h
      · next h2 =>
        intro r hr
        rcases List.mem_cons.1 hr with rfl | hr
        · exact ⟨h1, h2⟩
        · exact wr_none h r hr
theorem wr_code {n : Nat} : ∀ {l : List RA} {y : Nat × Int}, wr n l = some y → y.1 ≠ 0
  | [], _, h => by cases h
  | u :: l, y, h => by
    unfold wr at h
    split at h
    · next x hx => cases h; exact wc_code hx
    · split at h
      · next x hx => cases h; exact wd_code hx
      · exact wr_code h
theorem wrong_none {vs : List VA} {rs : List RA} (h : (wrongP vs rs).1 = 0) : wv vs = none ∧ wr vs.length rs = none := by
  unfold wrongP at h
  cases h1 : wv vs with
  | some x => rw [h1] at h; exact absurd h (wv_code h1)
  | none =>
    rw [h1] at h
    cases h2 : wr vs.length rs with
    | some x => rw [h2] at h; exact absurd h (wr_code h2)
    | none => exact ⟨rfl, rfl⟩
end Go.Proofs.YtgoebckimmofoaaGreatDoor

/- The reference's list of next states. Our own text. -/
namespace Go.Proofs.YtgoebckimmofoaaGreatDoor
open Go.RowKit

section
variable {w : World}
end
end Go.Proofs.YtgoebckimmofoaaGreatDoor

/- A state's number from its text. Our own text. -/
namespace Go.Proofs.YtgoebckimmofoaaGreatDoor
open Go.RowKit Go.Lib

end Go.Proofs.YtgoebckimmofoaaGreatDoor

/- The reference: whether a text is a state's. Our own text. -/
namespace Go.Proofs.YtgoebckimmofoaaGreatDoor
open Go.RowKit

section
variable {w : World}
end
end Go.Proofs.YtgoebckimmofoaaGreatDoor

/- The reference's Check, First and Next, walked. Our own text. -/
namespace Go.Proofs.YtgoebckimmofoaaGreatDoor
open Go.RowKit

def rCheck (s : ByteArray) : Nat × Int := if 120 < s.size then (1, 0) else match qRead s with
  | (none, q) => (2, (q.pos : Int))
  | (some x, _) => wrongP x.1 x.2
theorem rCheck_ok {s : ByteArray} (h : (rCheck s).1 = 0) : s.size ≤ 120 ∧ ∃ va ra q, qRead s = (some (va, ra), q) ∧ (wrongP va ra).1 = 0 := by
  unfold rCheck at h
  split at h
  · simp at h
  · next hs =>
    split at h
    · simp at h
    · next x q hq => exact ⟨by omega, x.1, x.2, q, hq, h⟩

set_option maxRecDepth 100000 in
set_option maxHeartbeats 1600000 in
theorem rcheck_any (s : ByteArray) (w : World) (_hs : s.size ≤ maxLen) :
    Calls Tryz.prog 32 #[.string s] w fun e w' => e = .returned (.tuple #[.int .i64 ((rCheck s).1 : Nat), .int .i64 (rCheck s).2]) ∧ Below w.heap.size w w' := by
  by_cases h : 120 < s.size
  · have hr : rCheck s = (1, 0) := by unfold rCheck; rw [if_pos h]
    rw [hr]
    have h' : (120 : Int) < s.size := by omega
    clear hr
    go_enter Tryz.func32, Tryz.ntmps32
    go_wp2
    go_ret2
    exact ⟨rfl, Below.refl _ _⟩
  · have hle : s.size ≤ 120 := by omega
    have h' : ¬ (120 : Int) < s.size := by omega
    obtain ⟨P, hP⟩ : ∃ P, rCheck s = P := ⟨_, rfl⟩
    obtain ⟨r, q', hq⟩ : ∃ r q', qRead s = (r, q') := ⟨_, _, rfl⟩
    have HN : Put (∀ p, r = none → q' = .error p → P = (2, (p : Int))) := ⟨fun p h1 h2 => by
      subst h1 h2; rw [← hP]; unfold rCheck; rw [if_neg h, hq]; rfl⟩
    have HS : Put (∀ x, r = some x → P = wrongP x.1 x.2) := ⟨fun x h1 => by
      subst h1; rw [← hP]; unfold rCheck; rw [if_neg h, hq]⟩
    rw [hP]
    clear hP h
    go_enter Tryz.func32, Tryz.ntmps32
    go_wp2_with fail
    refine (rread_any hle hq).mono ?_
    rintro e w1 ⟨⟨ao, aor, cap, capr, vs, rs, bad, rfl, hv, hrr, hOv, hOr, h3, h8, hfin⟩, hb1⟩
    rcases hfin with ⟨p, h1, h2, rfl⟩ | ⟨h1, rfl, _⟩
    · have hP := HN.out p h1 h2
      subst hP
      have h0 : ¬ ((p : Int) < 0) := by omega
      have h0' : (0 : Int) ≤ (p : Int) := by omega
      clear hv hrr hOv hOr hq HN HS
      go_wp2
      go_ret2
      exact ⟨rfl, hb1.alloc hb1.size _⟩
    · have hP := HS.out _ h1
      subst hP
      clear HN HS hq
      have hl : Below w1.heap.size w1 (w1.alloc (Obj.cells #[Value.slice ao vs.length cap, Value.slice aor rs.length capr] 65)) := (Below.refl _ _).alloc (Nat.le_refl _) _
      have HV : Put _ := ⟨hl.ownsRow' hv⟩
      have HRR : Put _ := ⟨hl.ownsRow' hrr⟩
      have HOV : Put (∀ v ∈ vs, V3.Ok (w1.alloc (Obj.cells #[Value.slice ao vs.length cap, Value.slice aor rs.length capr] 65)) w.heap.size v) := ⟨fun v h => ⟨hl.ownsRow' (hOv v h).1, (hOv v h).2⟩⟩
      have HOR : Put (∀ x ∈ rs, R2.Ok (w1.alloc (Obj.cells #[Value.slice ao vs.length cap, Value.slice aor rs.length capr] 65)) w.heap.size x) := ⟨fun x h => ⟨hl.ownsRow' (hOr x h).1, hl.ownsRow' (hOr x h).2⟩⟩
      have HB : Put (Below w.heap.size w w1) := ⟨hb1⟩
      have hsz := hb1.size
      have HL : Put (Below w1.heap.size w1 (w1.alloc (Obj.cells #[Value.slice ao vs.length cap, Value.slice aor rs.length capr] 65))) := ⟨hl⟩
      clear hv hrr hOv hOr hb1 hl
      go_wp2_with fail
      refine (wrong_any ao aor cap capr w.heap.size vs rs (by simp; omega) h3 h8 HV.out HRR.out HOV.out HOR.out).mono ?_
      rintro e w2 ⟨rfl, hb2⟩
      go_wp2
      go_ret2
      exact ⟨rfl, (HB.out.trans (HL.out.mono hsz)).trans (hb2.mono (by simp; omega))⟩

end Go.Proofs.YtgoebckimmofoaaGreatDoor

/- The code's reader and the document's say the same: variables, the whole. Our own text: no walk in it. -/
namespace Go.Proofs.YtgoebckimmofoaaGreatDoor

theorem end_same (t : T) (h : Inv t) : toI (t.flt, t.plc) = orP (fl t) (0, 0) := by
  unfold fl
  by_cases h0 : t.flt = 0
  · rw [if_pos h0]; simp [toI, orP, h0, h h0]
  · rw [if_neg h0]; rfl
theorem rules_same (s : ByteArray) (hs : s.size ≤ 120) : ∀ (f F : Nat) (t : T), Inv t → t.chd = 0 → t.at_ ≤ s.size → s.size + 1 ≤ t.at_ + f → s.size + 1 ≤ t.at_ + F →
    (∃ p, qR s f t.at_ t.nr = (none, .error p) ∧ pRun s F 2 t = (2, p)) ∨ (∃ rs j, qR s f t.at_ t.nr = (some rs, .ok j) ∧ toI (pRun s F 2 t) = orP ((fl t).or (wr t.n rs)) (0, 0))
  | 0, F, t, hI, hc, h1, h2, h3 => by omega
  | f + 1, 0, t, hI, hc, h1, h2, h3 => by omega
  | f + 1, F + 1, t, hI, hc, h1, h2, h3 => by
    rw [qR, pRun_2]
    by_cases he : t.at_ = s.size
    · right
      rw [if_neg (by omega), if_pos he]
      refine ⟨[], t.at_, rfl, ?_⟩
      rw [wr]; simp [end_same t hI]
    · rw [if_pos (by omega), if_neg he]
      by_cases h8 : t.nr = 8
      · left; rw [if_pos h8, if_pos h8]; exact ⟨_, rfl, rfl⟩
      · rw [if_neg h8, if_neg h8]
        cases h59 : num? s t.at_ 59 0 0 with
        | none => left; exact ⟨_, rfl, rfl⟩
        | some k =>
          have hl := num_lt h59
          simp only
          have ea : t.adv.at_ = t.at_ + 1 := rfl
          have hr := rule_same s hs F t.adv hI hc (by omega) (by omega) (by omega)
          simp only at hr
          rw [ea] at hr ⊢
          rcases hr with ⟨p, i1, i2⟩ | ⟨r, j, F', t', i1, hj, hlt, i4, i5, i6, i7, i8, i9, i10, i11⟩
          · left; rw [i1]; exact ⟨p, rfl, i2⟩
          · rw [i1]
            simp only [Q.pos]
            have ih := rules_same s hs f F' t' i10 i9 (by omega) (by omega) i6
            have e8 : t'.nr = t.nr + 1 := i8
            have e7 : t'.n = t.n := i7
            rw [i5, e8, e7] at ih
            rcases ih with ⟨p, k1, k2⟩ | ⟨rs, j2, k1, k2⟩
            · left; rw [k1]; exact ⟨p, rfl, i4.trans k2⟩
            · right
              rw [k1]
              refine ⟨r :: rs, j2, rfl, ?_⟩
              have e := congrArg toI i4
              refine (e.trans k2).trans ?_
              rw [i11, fl_adv, wr_cons, Option.or_assoc]
              rfl

def qF (s : ByteArray) : Nat → Nat → Nat → List Nat × Nat
  | 0, _, j => ([], j)
  | f + 1, n, j => match num? s j 48 (n + 1) 3 with
    | some v => (v :: (qF s f v (j + 1)).1, (qF s f v (j + 1)).2)
    | none => ([], j)
theorem qF_acc (s : ByteArray) : ∀ (f n j : Nat) (acc : List Nat), qFirst s f n j acc = (acc ++ (qF s f n j).1, .ok (qF s f n j).2)
  | 0, n, j, acc => by simp [qFirst, qF]
  | f + 1, n, j, acc => by
    rw [qFirst, qF]
    cases num? s j 48 (n + 1) 3 with
    | none => simp
    | some v => simp only; rw [qF_acc s f v (j + 1)]; simp
theorem qF_le (s : ByteArray) : ∀ (f n j : Nat), j ≤ s.size → j ≤ (qF s f n j).2 ∧ (qF s f n j).2 ≤ s.size
  | 0, n, j, h => ⟨Nat.le_refl _, h⟩
  | f + 1, n, j, h => by
    rw [qF]
    cases e : num? s j 48 (n + 1) 3 with
    | none => exact ⟨Nat.le_refl _, h⟩
    | some v =>
      have := num_lt e
      have ih := qF_le s f v (j + 1) (by omega)
      exact ⟨by show j ≤ (qF s f v (j + 1)).2; omega, ih.2⟩
theorem fb_cons (g a0 v : Nat) (l : List Nat) (k : Nat) : fb g a0 (v :: l) k = (if g < v then some ((4 : Nat), ((a0 + k : Nat) : Int)) else none).or (fb g a0 l (k + 1)) := by
  rw [fb]; split <;> rfl
theorem first_same (s : ByteArray) (g a0 : Nat) : ∀ (m v : Nat) (t : T) (k : Nat), Inv t → t.at_ = a0 + k + 1 → v ≤ 3 → 4 ≤ v + m →
    (pFirst s g m v t).at_ = (qF s m v t.at_).2 ∧ (pFirst s g m v t).nr = t.nr ∧ (pFirst s g m v t).chd = t.chd ∧ Inv (pFirst s g m v t) ∧ fl (pFirst s g m v t) = (fl t).or (fb g a0 (v :: (qF s m v t.at_).1) k)
  | 0, v, t, k, hI, ha, hv, hm => by omega
  | m + 1, v, t, k, hI, ha, hv, hm => by
    rw [pFirst, qF]
    obtain ⟨tb, htb⟩ : ∃ tb, tb = if g < v then t.blame 4 else t := ⟨_, rfl⟩
    rw [← htb]
    have hsame : tb.at_ = t.at_ ∧ tb.nr = t.nr ∧ tb.chd = t.chd ∧ Inv tb ∧ fl tb = (fl t).or (if g < v then some (4, ((a0 + k : Nat) : Int)) else none) := by
      rw [htb]
      by_cases h : g < v
      · rw [if_pos h, if_pos h]
        have := blame_same t 4
        refine ⟨this.1, this.2.2.1, this.2.2.2, inv_blame t 4 (by omega) hI, ?_⟩
        rw [fl_blame t 4 (by omega)]
        have : t.at_ - 1 = a0 + k := by omega
        rw [this]
      · rw [if_neg h, if_neg h]
        exact ⟨rfl, rfl, rfl, hI, by simp⟩
    cases hn : num? s t.at_ 48 (v + 1) 3 with
    | none =>
      simp only
      refine ⟨hsame.1, hsame.2.1, hsame.2.2.1, hsame.2.2.2.1, ?_⟩
      rw [hsame.2.2.2.2, fb_cons, fb]; simp
    | some v' =>
      have hle := num_le hn
      simp only
      have ih := first_same s g a0 m v' tb.adv (k + 1) hsame.2.2.2.1 (by show tb.at_ + 1 = _; omega) hle.2 (by omega)
      have ea : tb.adv.at_ = t.at_ + 1 := by show tb.at_ + 1 = _; omega
      rw [ea] at ih
      refine ⟨ih.1, ih.2.1.trans hsame.2.1, ih.2.2.1.trans hsame.2.2.1, ih.2.2.2.1, ?_⟩
      rw [ih.2.2.2.2, fl_adv, hsame.2.2.2.2, fb_cons g a0 v, Option.or_assoc]
theorem num_top (s : ByteArray) (p : Nat) : num? s p 48 1 3 = (num? s p 49 0 2).map (· + 1) := by
  unfold num?
  by_cases h : p < s.size
  · rw [dif_pos h, dif_pos h]
    by_cases h2 : 48 + 1 ≤ s[p].toNat ∧ s[p].toNat ≤ 48 + 3
    · rw [if_pos h2, if_pos (by omega)]; simp; omega
    · rw [if_neg h2, if_neg (by omega)]; rfl
  · rw [dif_neg h, dif_neg h]; rfl
theorem var_same (s : ByteArray) (t : T) (hI : Inv t) (_hat : t.at_ ≤ s.size) :
    (∃ t', qVar s t.n (.ok t.at_) = (none, .error t'.at_) ∧ pVar s t = (false, t')) ∨
    (∃ v t', qVar s t.n (.ok t.at_) = (some v, .ok t'.at_) ∧ pVar s t = (true, t') ∧ t.at_ < t'.at_ ∧ t'.at_ ≤ s.size ∧ t'.n = t.n + 1 ∧ t'.nr = t.nr ∧ t'.chd = t.chd ∧ Inv t' ∧ fl t' = (fl t).or (fb v.1 v.2.2 v.2.1 0)) := by
  unfold qVar pVar
  cases h1 : num? s t.at_ (97 + t.n) 0 0 with
  | none =>
    left
    have e1 : qMust s (.ok t.at_) (97 + t.n) = .error t.at_ := by simp [qMust, qNum, h1, Q.fail]
    rw [e1]; exact ⟨t, rfl, rfl⟩
  | some k1 =>
    have e1 : qMust s (.ok t.at_) (97 + t.n) = .ok (t.at_ + 1) := by simp [qMust, qNum, h1, Q.adv]
    rw [e1]
    simp only
    have a1 : t.adv.at_ = t.at_ + 1 := rfl
    rw [a1, num_top]
    cases h2 : num? s (t.at_ + 1) 49 0 2 with
    | none =>
      left
      have e2 : qBet s (.ok (t.at_ + 1)) 49 2 = (0, .error (t.at_ + 1)) := by simp [qBet, qNum, h2, Q.fail]
      rw [e2]; exact ⟨t.adv, rfl, rfl⟩
    | some g =>
      have e2 : qBet s (.ok (t.at_ + 1)) 49 2 = (g, .ok (t.at_ + 1 + 1)) := by simp [qBet, qNum, h2, Q.adv]
      rw [e2]
      simp only [Option.map_some]
      have a2 : t.adv.adv.at_ = t.at_ + 1 + 1 := rfl
      rw [a2]
      cases h3 : num? s (t.at_ + 1 + 1) 61 0 0 with
      | none =>
        left
        have e3 : qMust s (.ok (t.at_ + 1 + 1)) 61 = .error (t.at_ + 1 + 1) := by simp [qMust, qNum, h3, Q.fail]
        rw [e3]; exact ⟨t.adv.adv, rfl, rfl⟩
      | some k3 =>
        have e3 : qMust s (.ok (t.at_ + 1 + 1)) 61 = .ok (t.at_ + 1 + 1 + 1) := by simp [qMust, qNum, h3, Q.adv]
        rw [e3]
        simp only
        have a3 : t.adv.adv.adv.at_ = t.at_ + 1 + 1 + 1 := rfl
        rw [a3]
        cases h4 : num? s (t.at_ + 1 + 1 + 1) 48 0 3 with
        | none =>
          left
          have e4 : qBet s (.ok (t.at_ + 1 + 1 + 1)) 48 3 = (0, .error (t.at_ + 1 + 1 + 1)) := by simp [qBet, qNum, h4, Q.fail]
          rw [e4]; exact ⟨t.adv.adv.adv, rfl, rfl⟩
        | some v =>
          right
          have hv := (num_le h4).2
          have hl4 := num_lt h4
          have e4 : qBet s (.ok (t.at_ + 1 + 1 + 1)) 48 3 = (v, .ok (t.at_ + 1 + 1 + 1 + 1)) := by simp [qBet, qNum, h4, Q.adv]
          rw [e4]
          simp only [Q.pos]
          rw [qF_acc]
          have a4 : t.adv.adv.adv.adv.at_ = t.at_ + 1 + 1 + 1 + 1 := rfl
          have fs := first_same s (g + 1) (t.at_ + 1 + 1 + 1) 4 v t.adv.adv.adv.adv 0 hI (by rw [a4]) hv (by omega)
          rw [a4] at fs
          have fle := qF_le s 4 v (t.at_ + 1 + 1 + 1 + 1) (by omega)
          refine ⟨(g + 1, v :: (qF s 4 v (t.at_ + 1 + 1 + 1 + 1)).1, t.at_ + 1 + 1 + 1), { pFirst s (g + 1) 4 v t.adv.adv.adv.adv with n := t.n + 1 }, ?_, rfl, ?_, ?_, rfl, fs.2.1, fs.2.2.1, fs.2.2.2.1, ?_⟩
          · show _ = (some _, Except.ok (pFirst s (g + 1) 4 v t.adv.adv.adv.adv).at_)
            rw [fs.1]; rfl
          · show t.at_ < (pFirst s (g + 1) 4 v t.adv.adv.adv.adv).at_; omega
          · show (pFirst s (g + 1) 4 v t.adv.adv.adv.adv).at_ ≤ s.size; omega
          · show fl (pFirst s (g + 1) 4 v t.adv.adv.adv.adv) = _
            rw [fs.2.2.2.2]
            rfl

def qV (s : ByteArray) : Nat → Nat → Nat → Option (List VA) × Q
  | 0, _, i => (some [], .ok i)
  | f + 1, c, i => match qVar s c (.ok i) with
    | (none, q) => (none, q)
    | (some v, q) => if c + 1 < 3 then (match qNum s q 44 0 with
        | some _ => match qV s f (c + 1) (q.pos + 1) with
          | (none, q2) => (none, q2)
          | (some vs, q2) => (some (v :: vs), q2)
        | none => (some [v], q)) else (some [v], q)
theorem qV_acc (s : ByteArray) : ∀ (f i : Nat) (acc : List VA), qVars s f (.ok i) acc = match qV s f acc.length i with
    | (none, q) => (none, q)
    | (some vs, q) => (some (acc ++ vs), q)
  | 0, i, acc => by simp [qVars, qV]
  | f + 1, i, acc => by
    rw [qVars, qV]
    cases hv : qVar s acc.length (.ok i) with
    | mk rv qv =>
    cases rv with
    | none => rfl
    | some v =>
      obtain ⟨j, rfl, hj⟩ := qVar_some hv
      simp only
      by_cases h3 : acc.length + 1 < 3
      · rw [if_pos h3, if_pos h3]
        cases hn : qNum s (.ok j) 44 0 with
        | none => rfl
        | some k =>
          simp only [Q.adv, Q.pos]
          rw [qV_acc s f (j + 1) (acc ++ [v]), List.length_append, List.length_singleton]
          cases qV s f (acc.length + 1) (j + 1) with
          | mk r q => cases r <;> simp
      · rw [if_neg h3, if_neg h3]
theorem wv_cons (v : VA) (l : List VA) : wv (v :: l) = (fb v.1 v.2.2 v.2.1 0).or (wv l) := by
  rw [wv]; cases fb v.1 v.2.2 v.2.1 0 <;> rfl
theorem vars_same (s : ByteArray) : ∀ (f F : Nat) (t : T), Inv t → f + t.n = 3 → t.n < 3 → t.at_ ≤ s.size → s.size + 1 ≤ t.at_ + F →
    (∃ p, qV s f t.n t.at_ = (none, .error p) ∧ pRun s F 1 t = (2, p)) ∨
    (∃ vs j F' t', qV s f t.n t.at_ = (some vs, .ok j) ∧ pRun s F 1 t = pRun s F' 2 t' ∧ t'.at_ = j ∧ j ≤ s.size ∧ s.size + 1 ≤ t'.at_ + F' ∧ t'.n = t.n + vs.length ∧ t'.nr = t.nr ∧ t'.chd = t.chd ∧ Inv t' ∧ fl t' = (fl t).or (wv vs))
  | 0, F, t, hI, hf, hn, h1, h3 => by omega
  | f + 1, 0, t, hI, hf, hn, h1, h3 => by omega
  | f + 1, F + 1, t, hI, hf, hn, h1, h3 => by
    rw [qV, pRun]
    rcases var_same s t hI h1 with ⟨t', e1, e2⟩ | ⟨v, t', e1, e2, hlt, hle, en, enr, ec, hI', ef⟩
    · left; rw [e1, e2]; exact ⟨_, rfl, rfl⟩
    · rw [e1, e2]
      simp only
      rw [en]
      by_cases h : t.n + 1 < 3
      · rw [if_pos h, if_pos h]
        simp only [qNum, Q.pos]
        cases h44 : num? s t'.at_ 44 0 0 with
        | none =>
          right
          simp only
          refine ⟨[v], t'.at_, F, t', rfl, rfl, rfl, hle, by omega, by rw [en]; rfl, enr, ec, hI', ?_⟩
          rw [ef, wv_cons, wv]; simp
        | some k =>
          have hl := num_lt h44
          simp only
          have ea : t'.adv.at_ = t'.at_ + 1 := rfl
          have en' : t'.adv.n = t.n + 1 := en
          have ih := vars_same s f F t'.adv hI' (by omega) (by omega) (by omega) (by omega)
          rw [ea, en'] at ih
          rcases ih with ⟨p, i1, i2⟩ | ⟨vs, j, F', t2, i1, i2, i3, i4, i5, i6, i7, i8, i9, i10⟩
          · left; rw [i1]; exact ⟨p, rfl, i2⟩
          · right
            rw [i1]
            refine ⟨v :: vs, j, F', t2, rfl, i2, i3, i4, i5, by rw [i6, List.length_cons]; omega, i7.trans enr, i8.trans ec, i9, ?_⟩
            rw [i10, fl_adv, ef, wv_cons, Option.or_assoc]
      · rw [if_neg h, if_neg h]
        right
        refine ⟨[v], t'.at_, F, t', rfl, rfl, rfl, hle, by omega, by rw [en]; rfl, enr, ec, hI', ?_⟩
        rw [ef, wv_cons, wv]; simp

theorem check_same (s : ByteArray) : toI (pCheck s) = rCheck s := by
  unfold pCheck rCheck
  by_cases h : 120 < s.size
  · rw [if_pos h, if_pos h]; rfl
  · rw [if_neg h, if_neg h]
    unfold qRead
    rw [qV_acc]
    have hI : Inv T0 := fun _ => rfl
    have hv := vars_same s 3 (s.size + 1) T0 hI rfl (by show 0 < 3; omega) (Nat.zero_le _) (by show _ ≤ 0 + (s.size + 1); omega)
    have e0 : T0.at_ = 0 := rfl
    have e1 : T0.n = 0 := rfl
    rw [e0, e1] at hv
    have el : ([] : List VA).length = 0 := rfl
    rw [el]
    rcases hv with ⟨p, i1, i2⟩ | ⟨vs, j, F', t', i1, i2, i3, i4, i5, i6, i7, i8, i9, i10⟩
    · rw [i1, i2]; rfl
    · rw [i1, i2]
      simp only [List.nil_append, Q.pos]
      rw [qR_acc]
      have hr := rules_same s (by omega) 121 F' t' i9 i8 (by omega) (by omega) i5
      have er : t'.nr = 0 := i7
      have en : t'.n = vs.length := by rw [i6]; simp
      rw [i3, er, en] at hr
      have el2 : ([] : List RA).length = 0 := rfl
      rw [el2]
      rcases hr with ⟨p, k1, k2⟩ | ⟨rs, j2, k1, k2⟩
      · rw [k1, k2]; rfl
      · rw [k1, k2]
        simp only [List.nil_append]
        unfold wrongP
        have hf : fl T0 = none := rfl
        rw [i10, hf]
        cases wv vs <;> rfl
end Go.Proofs.YtgoebckimmofoaaGreatDoor

/- What the code's reader has read of a good model is what the document reads. Our own text: no walk in it. -/
namespace Go.Proofs.YtgoebckimmofoaaGreatDoor
open Go.RowKit

theorem qVar_parts {s : ByteArray} {k i j top a0 : Nat} {l : List Nat} (h : qVar s k (.ok i) = (some (top, l, a0), .ok j)) :
    ∃ k1 k3 v, num? s i (97 + k) 0 0 = some k1 ∧ num? s (i + 1) 48 1 3 = some top ∧ num? s (i + 2) 61 0 0 = some k3 ∧ num? s (i + 3) 48 0 3 = some v ∧ qFirst s 4 v (i + 4) [v] = (l, .ok j) := by
  unfold qVar at h
  cases h1 : num? s i (97 + k) 0 0 with
  | none => simp [qMust, qBet, qNum, Q.fail, h1] at h
  | some k1 =>
  cases h2 : num? s (i + 1) 49 0 2 with
  | none => simp [qMust, qBet, qNum, Q.fail, Q.adv, h1, h2] at h
  | some g =>
  cases h3 : num? s (i + 1 + 1) 61 0 0 with
  | none => simp [qMust, qBet, qNum, Q.fail, Q.adv, h1, h2, h3] at h
  | some k3 =>
  cases h4 : num? s (i + 1 + 1 + 1) 48 0 3 with
  | none => simp [qMust, qBet, qNum, Q.fail, Q.adv, h1, h2, h3, h4] at h
  | some v =>
    simp [qMust, qBet, qNum, Q.adv, h1, h2, h3, h4] at h
    obtain ⟨⟨rfl, hl, _⟩, hj⟩ := h
    refine ⟨k1, k3, v, rfl, ?_, rfl, rfl, ?_⟩
    · rw [num_top, h2]; rfl
    · exact Prod.ext hl hj

section
variable {s : ByteArray}
theorem qLoop1_pre : ∀ (f : Nat) (b : Bool) (q : Q) (acc l : List (Tm × Tm)) (q' : Q), qLoop1 s f b q acc = (some l, q') → ∃ r, l = acc ++ r
  | 0, false, _, _, _, _, h => by unfold qLoop1 at h; cases h; exact ⟨[], by simp⟩
  | _ + 1, false, _, _, _, _, h => by unfold qLoop1 at h; cases h; exact ⟨[], by simp⟩
  | 0, true, _, _, _, _, h => by unfold qLoop1 at h; cases h
  | f + 1, true, q, acc, l, q', h => by
    unfold qLoop1 at h
    split at h
    · cases h
    · next c q1 _ =>
      split at h
      · obtain ⟨r, e⟩ := qLoop1_pre f _ _ _ _ _ h; exact ⟨c :: r, by simp [e]⟩
      · obtain ⟨r, e⟩ := qLoop1_pre f _ _ _ _ _ h; exact ⟨c :: r, by simp [e]⟩
theorem qLoop2_pre : ∀ (f : Nat) (b : Bool) (q : Q) (acc l : List Chg) (q' : Q), qLoop2 s f b q acc = (some l, q') → ∃ r, l = acc ++ r
  | 0, false, _, _, _, _, h => by unfold qLoop2 at h; cases h; exact ⟨[], by simp⟩
  | _ + 1, false, _, _, _, _, h => by unfold qLoop2 at h; cases h; exact ⟨[], by simp⟩
  | 0, true, _, _, _, _, h => by unfold qLoop2 at h; cases h
  | f + 1, true, q, acc, l, q', h => by
    unfold qLoop2 at h
    split at h
    · cases h
    · next c q1 _ =>
      split at h
      · obtain ⟨r, e⟩ := qLoop2_pre f _ _ _ _ _ h; exact ⟨c :: r, by simp [e]⟩
      · obtain ⟨r, e⟩ := qLoop2_pre f _ _ _ _ _ h; exact ⟨c :: r, by simp [e]⟩
theorem qRules_pre : ∀ (f i : Nat) (acc l : List RA) (q' : Q), qRules s f i acc = (some l, q') → ∃ r, l = acc ++ r
  | 0, _, _, _, _, h => by unfold qRules at h; cases h
  | f + 1, i, acc, l, q', h => by
    unfold qRules at h
    split at h
    · split at h
      · cases h
      · split at h
        · cases h
        · split at h
          · cases h
          · next r _ _ => obtain ⟨r', e⟩ := qRules_pre f _ _ _ _ h; exact ⟨r :: r', by simp [e]⟩
    · cases h; exact ⟨[], by simp⟩
theorem qVars_pre : ∀ (f : Nat) (q : Q) (acc l : List VA) (q' : Q), qVars s f q acc = (some l, q') → ∃ r, l = acc ++ r
  | 0, _, _, _, _, h => by unfold qVars at h; cases h; exact ⟨[], by simp⟩
  | f + 1, q, acc, l, q', h => by
    unfold qVars at h
    split at h
    · cases h
    · next v _ _ =>
      split at h
      · split at h
        · obtain ⟨r, e⟩ := qVars_pre f _ _ _ _ h; exact ⟨v :: r, by simp [e]⟩
        · cases h; exact ⟨[v], rfl⟩
      · cases h; exact ⟨[v], rfl⟩

/-- What is left of the variables. -/
def LeftV (s : ByteArray) (va : List VA) (ra : List RA) (acc : List VA) (i : Nat) : Prop := ∃ f i0 q', f + acc.length = 3 ∧ qVars s f (.ok i) acc = (some va, .ok i0) ∧ qRules s 121 i0 [] = (some ra, q')
def LeftR (s : ByteArray) (ra acc : List RA) (i : Nat) : Prop := ∃ f q', qRules s f i acc = (some ra, q')
def LeftD (s : ByteArray) (ra acc : List RA) (cl : List (Tm × Tm)) (dl : List Chg) (i : Nat) : Prop := ∃ f ds j, qLoop2 s f true (.ok i) dl = (some ds, .ok j) ∧ LeftR s ra (acc ++ [(cl, ds)]) j
def LeftC (s : ByteArray) (ra acc : List RA) (cl : List (Tm × Tm)) (i : Nat) : Prop := ∃ f cs j k, qLoop1 s f true (.ok i) cl = (some cs, .ok j) ∧ num? s j 58 0 0 = some k ∧ LeftD s ra acc cs [] (j + 1)

theorem leftV {va : List VA} {ra : List RA} {acc : List VA} {i : Nat} (h : LeftV s va ra acc i) (hl : acc.length < 3) :
    ∃ (g a0 j : Nat) (l : List Nat), qVar s acc.length (.ok i) = (some (g, l, a0), .ok j) ∧ (g, l, a0) ∈ va ∧ va.getD acc.length (0, [], 0) = (g, l, a0) ∧ i < j ∧ j ≤ s.size ∧
      (acc.length + 1 < 3 → (∀ k, num? s j 44 0 0 = some k → LeftV s va ra (acc ++ [(g, l, a0)]) (j + 1)) ∧ (num? s j 44 0 0 = none → va.length = acc.length + 1 ∧ LeftR s ra [] j)) ∧
      (¬ acc.length + 1 < 3 → va.length = acc.length + 1 ∧ LeftR s ra [] j) := by
  obtain ⟨f, i0, q', hf, h, hr⟩ := h
  obtain ⟨f', rfl⟩ : ∃ f', f = f' + 1 := ⟨f - 1, by omega⟩
  have hpre := h
  unfold qVars at h
  split at h
  · cases h
  · next v q1 hv =>
    obtain ⟨g, l, a0⟩ := v
    obtain ⟨j, rfl, hj⟩ := qVar_some hv
    have hin : ∃ r, va = (acc ++ [(g, l, a0)]) ++ r := by
      split at h
      · split at h
        · exact qVars_pre _ _ _ _ _ h
        · cases h; exact ⟨[], by simp⟩
      · cases h; exact ⟨[], by simp⟩
    obtain ⟨r, hin⟩ := hin
    have hij : i < j := by
      obtain ⟨_, _, v, _, _, _, h4, hq⟩ := qVar_parts hv
      obtain ⟨j', e, hle, _⟩ := qFirst_ok s 4 v (i + 4) [v]
      rw [hq] at e
      cases e; omega
    refine ⟨g, a0, j, l, hv, by rw [hin]; simp, ?_, hij, hj, ?_, ?_⟩
    · rw [hin]; simp [List.getD]
    · intro h3
      rw [if_pos h3] at h
      refine ⟨fun k hk => ?_, fun hk => ?_⟩
      · have e : qNum s (.ok j) 44 0 = some k := hk
        rw [e] at h
        exact ⟨f', i0, q', by simp; omega, h, hr⟩
      · have e : qNum s (.ok j) 44 0 = none := hk
        rw [e] at h
        simp only [Prod.mk.injEq, Option.some.injEq, Except.ok.injEq] at h
        obtain ⟨rfl, rfl⟩ := h
        exact ⟨by simp, 121, q', hr⟩
    · intro h3
      rw [if_neg h3] at h
      simp only [Prod.mk.injEq, Option.some.injEq, Except.ok.injEq] at h
      obtain ⟨rfl, rfl⟩ := h
      exact ⟨by simp, 121, q', hr⟩

theorem leftR {ra acc : List RA} {i : Nat} (hs : s.size ≤ 120) (hi : i ≤ s.size) (h : LeftR s ra acc i) :
    (i = s.size ∧ ra = acc) ∨ (i < s.size ∧ acc.length ≠ 8 ∧ ∃ k, num? s i 59 0 0 = some k ∧ ((∃ k2, num? s (i + 1) 58 0 0 = some k2 ∧ LeftD s ra acc [] [] (i + 2)) ∨ (num? s (i + 1) 58 0 0 = none ∧ LeftC s ra acc [] (i + 1)))) := by
  obtain ⟨f, q', h⟩ := h
  cases f with
  | zero => unfold qRules at h; cases h
  | succ f =>
  unfold qRules at h
  by_cases hlt : i < s.size
  · rw [if_pos hlt] at h
    right
    refine ⟨hlt, ?_⟩
    by_cases h8 : acc.length = 8
    · rw [if_pos h8] at h; cases h
    rw [if_neg h8] at h
    refine ⟨h8, ?_⟩
    cases hk : num? s i 59 0 0 with
    | none => rw [hk] at h; cases h
    | some k =>
    rw [hk] at h
    simp only at h
    refine ⟨k, rfl, ?_⟩
    cases hr : qRule s (.ok (i + 1)) with
    | mk r q1 =>
    rw [hr] at h
    cases r with
    | none => cases h
    | some r =>
    simp only at h
    have hle : i + 1 ≤ s.size := hlt
    unfold qRule at hr
    cases h58 : num? s (i + 1) 58 0 0 with
    | some k2 =>
      left
      refine ⟨k2, rfl, ?_⟩
      have e : qNum s (.ok (i + 1)) 58 0 = some k2 := h58
      rw [e] at hr
      simp only [Option.isNone_some] at hr
      rw [show qLoop1 s 121 false (.ok (i + 1)) [] = (some [], .ok (i + 1)) from rfl] at hr
      simp only [e] at hr
      cases h2 : qLoop2 s 121 true (Q.adv (.ok (i + 1))) [] with
      | mk r2 q2 =>
      rw [h2] at hr
      cases r2 with
      | none => cases hr
      | some ds =>
      simp only [Prod.mk.injEq, Option.some.injEq] at hr
      obtain ⟨rfl, rfl⟩ := hr
      rcases qLoop2_ok 121 true (i + 1 + 1) [] (num_lt h58) (by omega) h2 with ⟨h', _⟩ | ⟨l, j, h', rfl, _, _⟩
      · cases h'
      · cases h'
        exact ⟨121, _, j, h2, f, q', h⟩
    | none =>
      right
      refine ⟨rfl, ?_⟩
      have e : qNum s (.ok (i + 1)) 58 0 = none := h58
      rw [e] at hr
      simp only [Option.isNone_none] at hr
      cases h1 : qLoop1 s 121 true (.ok (i + 1)) [] with
      | mk r1 q2 =>
      rw [h1] at hr
      cases r1 with
      | none => cases hr
      | some cs =>
      rcases qLoop1_ok 121 true (i + 1) [] hle (by omega) h1 with ⟨h', _⟩ | ⟨l, j, h', rfl, _, hj⟩
      · cases h'
      cases h'
      simp only at hr
      cases hk2 : qNum s (.ok j) 58 0 with
      | none => rw [hk2] at hr; cases hr
      | some k2 =>
      rw [hk2] at hr
      simp only at hr
      have hk2' : num? s j 58 0 0 = some k2 := hk2
      cases h2 : qLoop2 s 121 true (Q.adv (.ok j)) [] with
      | mk r2 q2 =>
      rw [h2] at hr
      cases r2 with
      | none => cases hr
      | some ds =>
      simp only [Prod.mk.injEq, Option.some.injEq] at hr
      obtain ⟨rfl, rfl⟩ := hr
      have hlj := num_lt hk2'
      rcases qLoop2_ok 121 true (j + 1) [] hlj (by omega) h2 with ⟨h', _⟩ | ⟨l2, j2, h', rfl, _, _⟩
      · cases h'
      · cases h'
        exact ⟨121, _, j, k2, h1, hk2', 121, _, j2, h2, f, q', h⟩
  · rw [if_neg hlt] at h
    cases h
    exact .inl ⟨by omega, rfl⟩

theorem leftC {ra acc : List RA} {cl : List (Tm × Tm)} {i : Nat} (h : LeftC s ra acc cl i) :
    ∃ c, qCond s (.ok i) = (some c, .ok (i + 3)) ∧ i + 3 ≤ s.size ∧ (∃ r ∈ ra, c ∈ r.1) ∧ (∀ k, num? s (i + 3) 38 0 0 = some k → LeftC s ra acc (cl ++ [c]) (i + 4)) ∧
      (num? s (i + 3) 38 0 0 = none → ∃ k, num? s (i + 3) 58 0 0 = some k ∧ LeftD s ra acc (cl ++ [c]) [] (i + 4)) := by
  obtain ⟨f, cs, j, k, h, hk, hD⟩ := h
  cases f with
  | zero => unfold qLoop1 at h; cases h
  | succ f =>
  have hin : ∃ r ∈ ra, r.1 = cs := by
    obtain ⟨f', ds, j', _, f'', q'', hr⟩ := hD
    obtain ⟨r, e⟩ := qRules_pre _ _ _ _ _ hr
    exact ⟨(cs, ds), by rw [e]; simp, rfl⟩
  unfold qLoop1 at h
  cases hc : qCond s (.ok i) with
  | mk r q1 =>
  rw [hc] at h
  cases r with
  | none => cases h
  | some c =>
  obtain ⟨rfl, hle⟩ := qCond_ok hc
  simp only at h
  have hcin : c ∈ cs := by
    split at h
    · obtain ⟨r, e⟩ := qLoop1_pre _ _ _ _ _ _ h; rw [e]; simp
    · obtain ⟨r, e⟩ := qLoop1_pre _ _ _ _ _ _ h; rw [e]; simp
  obtain ⟨r, hr1, hr2⟩ := hin
  refine ⟨c, rfl, hle, ⟨r, hr1, by rw [hr2]; exact hcin⟩, fun k' hk' => ?_, fun hk' => ?_⟩
  · have e : qNum s (.ok (i + 3)) 38 0 = some k' := hk'
    rw [e] at h
    exact ⟨f, cs, j, k, h, hk, hD⟩
  · have e : qNum s (.ok (i + 3)) 38 0 = none := hk'
    rw [e] at h
    have e2 : qLoop1 s f false (.ok (i + 3)) (cl ++ [c]) = (some (cl ++ [c]), .ok (i + 3)) := by cases f <;> rfl
    simp only [e2, Prod.mk.injEq, Option.some.injEq, Except.ok.injEq] at h
    obtain ⟨rfl, rfl⟩ := h
    exact ⟨k, hk, hD⟩

theorem leftD {ra acc : List RA} {cl : List (Tm × Tm)} {dl : List Chg} {i : Nat} (h : LeftD s ra acc cl dl i) :
    ∃ (d : Chg) (j : Nat), qChange s (.ok i) = (some d, .ok j) ∧ i < j ∧ j ≤ s.size ∧ (∃ r ∈ ra, ∃ e, r.2 = dl ++ d :: e) ∧ (∀ k, num? s j 44 0 0 = some k → LeftD s ra acc cl (dl ++ [d]) (j + 1)) ∧
      (num? s j 44 0 0 = none → LeftR s ra (acc ++ [(cl, dl ++ [d])]) j) := by
  obtain ⟨f, ds, j0, h, hR⟩ := h
  cases f with
  | zero => unfold qLoop2 at h; cases h
  | succ f =>
  have hin : ∃ r ∈ ra, r.2 = ds := by
    obtain ⟨f'', q'', hr⟩ := hR
    obtain ⟨r, e⟩ := qRules_pre _ _ _ _ _ hr
    exact ⟨(cl, ds), by rw [e]; simp, rfl⟩
  unfold qLoop2 at h
  cases hc : qChange s (.ok i) with
  | mk r q1 =>
  rw [hc] at h
  cases r with
  | none => cases h
  | some c =>
  obtain ⟨j, rfl, hij, hle⟩ := qChange_ok hc
  simp only at h
  have hcin : ∃ e, ds = dl ++ c :: e := by
    split at h
    · obtain ⟨r, e⟩ := qLoop2_pre _ _ _ _ _ _ h; exact ⟨r, by rw [e]; simp⟩
    · obtain ⟨r, e⟩ := qLoop2_pre _ _ _ _ _ _ h; exact ⟨r, by rw [e]; simp⟩
  obtain ⟨r, hr1, hr2⟩ := hin
  refine ⟨c, j, rfl, hij, hle, ⟨r, hr1, by rw [hr2]; exact hcin⟩, fun k' hk' => ?_, fun hk' => ?_⟩
  · have e : qNum s (.ok j) 44 0 = some k' := hk'
    rw [e] at h
    exact ⟨f, ds, j0, h, hR⟩
  · have e : qNum s (.ok j) 44 0 = none := hk'
    rw [e] at h
    have e2 : qLoop2 s f false (.ok j) (dl ++ [c]) = (some (dl ++ [c]), .ok j) := by cases f <;> rfl
    simp only [e2, Prod.mk.injEq, Option.some.injEq, Except.ok.injEq] at h
    obtain ⟨rfl, rfl⟩ := h
    exact hR

/-- A good model of these variables and rules. -/
structure GoodA (va : List VA) (ra : List RA) : Prop where
  v : ∀ v ∈ va, (1 ≤ v.1 ∧ v.1 ≤ 3) ∧ ∀ y ∈ v.2.1, y ≤ v.1
  l1 : 1 ≤ va.length
  l3 : va.length ≤ 3
  c : ∀ r ∈ ra, ∀ c ∈ r.1, c.1.1 < (va.length : Int) ∧ c.2.1 < (va.length : Int)
  d : ∀ r ∈ ra, ∀ c ∈ r.2, 0 ≤ c.1 ∧ c.1 < (va.length : Int) ∧ c.2.2.2.1 < (va.length : Int)
  n : ∀ r ∈ ra, (r.2.map Prod.fst).Nodup
theorem goodA {va : List VA} {ra : List RA} {q' : Q} (h : qRead s = (some (va, ra), q')) (hw : (wrongP va ra).1 = 0) : GoodA va ra := by
  obtain ⟨hv, h1, h3, hr⟩ := qRead_all h
  obtain ⟨w1, w2⟩ := wrong_none hw
  have a := wv_none w1
  have b := wr_none w2
  refine ⟨fun v hv' => ⟨⟨(hv v hv').1, (hv v hv').2.1⟩, a v hv'⟩, h1, h3, fun r hr' => wc_none (hr r hr').1 (b r hr').1, fun r hr' c hc => ?_, fun r hr' => (wd_none (b r hr').2).2⟩
  have p := (hr r hr').2 c hc
  have q := (wd_none (b r hr').2).1 c hc
  refine ⟨p.1, q.1, ?_⟩
  cases hb : c.2.2.1 with
  | true => rw [p.2.2.2.2.2.2 hb]; omega
  | false => exact q.2.1 hb
theorem qVars_notbad : ∀ (f i : Nat) (acc l : List VA) (p : Nat), qVars s f (.ok i) acc ≠ (some l, .error p)
  | 0, _, _, _, _, h => by unfold qVars at h; cases h
  | f + 1, i, acc, l, p, h => by
    unfold qVars at h
    split at h
    · cases h
    · next v q1 hv =>
      obtain ⟨j, rfl, _⟩ := qVar_some hv
      split at h
      · split at h
        · exact qVars_notbad f _ _ _ _ h
        · cases h
      · cases h
theorem leftV0 {va : List VA} {ra : List RA} {q' : Q} (h : qRead s = (some (va, ra), q')) : LeftV s va ra [] 0 := by
  unfold qRead at h
  cases hv : qVars s 3 (.ok 0) [] with
  | mk r q =>
  rw [hv] at h
  cases r with
  | none => cases h
  | some vs =>
  simp only at h
  cases hr : qRules s 121 q.pos [] with
  | mk r2 q2 =>
  rw [hr] at h
  cases r2 with
  | none => cases h
  | some rs =>
  simp only [Prod.mk.injEq, Option.some.injEq] at h
  obtain ⟨⟨rfl, rfl⟩, rfl⟩ := h
  cases q with
  | ok i => exact ⟨3, i, q2, rfl, hv, hr⟩
  | error p =>
    exfalso
    exact qVars_notbad 3 0 [] _ _ hv
end

theorem qFirst_fOf (s : ByteArray) (g : Nat) : ∀ (m v : Nat) (t : T) (acc : List Nat), 4 ≤ v + m → v ≤ 3 → qFirst s m v t.at_ (acc ++ [v]) = (acc ++ fOf s m v t.at_, .ok (pFirst s g m v t).at_)
  | 0, v, t, acc, h, h3 => by omega
  | m + 1, v, t, acc, h, h3 => by
    have hbl : ∀ t : T, (if g < v then t.blame 4 else t).at_ = t.at_ := fun t => by
      split
      · exact (blame_same t 4).1
      · rfl
    unfold qFirst fOf pFirst
    cases hd : num? s t.at_ 48 (v + 1) 3 with
    | none => simp only; rw [hbl]
    | some v' =>
      have hv := num_le hd
      simp only
      have e : (if g < v then t.blame 4 else t).adv.at_ = t.at_ + 1 := by show _ + 1 = _; rw [hbl]
      have := qFirst_fOf s g m v' (if g < v then t.blame 4 else t).adv (acc ++ [v]) (by omega) hv.2
      rw [e] at this
      rw [this]; simp
theorem tmOf_q {s : ByteArray} {i : Nat} {a : Tm} {q : Q} (h : qTerm s (.ok i) = (some a, q)) : a = tmOf s i := by
  unfold qTerm at h
  unfold tmOf
  cases h1 : num? s i 97 0 2 with
  | some k =>
    have e : qNum s (.ok i) 97 2 = some k := h1
    rw [e] at h
    simp only [Prod.mk.injEq, Option.some.injEq, Q.pos] at h
    exact h.1.symm
  | none =>
    have e : qNum s (.ok i) 97 2 = none := h1
    rw [e] at h
    simp only at h
    cases h2 : num? s i 48 0 3 with
    | none =>
      have e : qNum s (.ok i) 48 3 = none := h2
      rw [e] at h; simp at h
    | some k =>
      have e : qNum s (.ok i) 48 3 = some k := h2
      rw [e] at h
      simp only [Prod.mk.injEq, Option.some.injEq, Q.pos] at h
      exact h.1.symm
theorem cdOf_q {s : ByteArray} {i : Nat} {c : Tm × Tm} {q : Q} (h : qCond s (.ok i) = (some c, q)) : c = cdOf s i := by
  unfold qCond at h
  cases h1 : qTerm s (.ok i) with
  | mk r q1 =>
  rw [h1] at h
  cases r with
  | none => simp at h
  | some a =>
  obtain ⟨i1, rfl⟩ := qTerm_some h1
  obtain ⟨j1, e1, _, rfl⟩ := qTerm_at h1
  cases e1
  simp only at h
  cases hop : qOp s (.ok (i + 1)) with
  | false => rw [hop] at h; simp at h
  | true =>
  rw [hop] at h
  simp only [if_true, Q.adv] at h
  cases h2 : qTerm s (.ok (i + 1 + 1)) with
  | mk r2 q2 =>
  rw [h2] at h
  cases r2 with
  | none => simp at h
  | some b =>
  simp only [Prod.mk.injEq, Option.some.injEq] at h
  rw [← h.1, tmOf_q h1, tmOf_q h2]; rfl
theorem pCond_at {s : ByteArray} {t t' : T} (h : pCond s t = (true, t')) : t'.at_ = t.at_ + 3 := by
  unfold pCond at h
  split at h
  · cases h
  · next t1 e1 =>
    have s1 := (pTerm_same e1).1
    split at h
    · cases h
    · next t2 e2 =>
      obtain ⟨rfl, _⟩ := pCmp_same e2
      have n2 : t1.adv.at_ = t1.at_ + 1 := rfl
      split at h
      · cases h
      · next t3 e3 =>
        have s3 := (pTerm_same e3).1
        cases h; omega
theorem chOf_q {s : ByteArray} {t t' : T} {d : Chg} {j : Nat} (hq : qChange s (.ok t.at_) = (some d, .ok j)) (h : pChange s t = (true, t')) : d = chOf s t.at_ ∧ j = t'.at_ := by
  unfold qChange at hq
  unfold pChange at h
  cases h1 : num? s t.at_ 97 0 2 with
  | none => rw [h1] at h; simp at h
  | some k =>
  have e1 : qNum s (.ok t.at_) 97 2 = some k := h1
  rw [e1] at hq
  rw [h1] at h
  simp only [Q.adv, Q.pos] at hq h
  have a1 : ((t.named k).marked k).at_ = t.at_ + 1 := by rw [(marked_same _ _).1, (named_same t k).1]
  generalize (t.named k).marked k = t2 at h a1
  cases h2 : num? s (t.at_ + 1) 61 0 0 with
  | none =>
    have e2 : qNum s (.ok (t.at_ + 1)) 61 0 = none := h2
    rw [e2] at hq; simp at hq
  | some k2 =>
  have e2 : qNum s (.ok (t.at_ + 1)) 61 0 = some k2 := h2
  rw [e2] at hq
  rw [a1, h2] at h
  simp only at hq h
  have a2 : t2.adv.at_ = t.at_ + 2 := by show t2.at_ + 1 = _; omega
  have hby := num_byte h1
  have hbk : byteAt s t.at_ - 97 = k := by omega
  unfold pTo at h
  rw [a2] at h
  cases h3 : num? s (t.at_ + 2) 63 0 0 with
  | some k3 =>
    have e3 : qNum s (.ok (t.at_ + 1 + 1)) 63 0 = some k3 := h3
    rw [e3] at hq
    rw [h3] at h
    simp only [Prod.mk.injEq, Option.some.injEq, Except.ok.injEq] at hq h
    refine ⟨?_, ?_⟩
    · unfold chOf; rw [h3, ← hq.1]; simp only; rw [hbk]
    · rw [← hq.2, ← h.2]; show t.at_ + 1 + 1 + 1 = t2.at_ + 1 + 1; omega
  | none =>
    have e3 : qNum s (.ok (t.at_ + 1 + 1)) 63 0 = none := h3
    rw [e3] at hq
    rw [h3] at h
    simp only at hq h
    cases h4 : qTerm s (.ok (t.at_ + 1 + 1)) with
    | mk r q4 =>
    rw [h4] at hq
    cases r with
    | none => simp at hq
    | some a =>
    obtain ⟨i4, rfl⟩ := qTerm_some h4
    obtain ⟨j4, e4, _, rfl⟩ := qTerm_at h4
    cases e4
    simp only at hq
    have hch : chOf s t.at_ = ((k : Int), (t.at_ : Int), false, a) := by
      unfold chOf; rw [h3]; simp only; rw [hbk, tmOf_q h4]
    cases h5 : pTerm s t2.adv with
    | none => rw [h5] at h; simp at h
    | some t3 =>
    have s5 := (pTerm_same h5).1
    rw [h5] at h
    simp only at h
    have a5 : t3.at_ = t.at_ + 1 + 1 + 1 := by omega
    rw [a5] at h
    cases h6 : num? s (t.at_ + 1 + 1 + 1) 43 0 0 with
    | none =>
      have e6 : qNum s (.ok (t.at_ + 1 + 1 + 1)) 43 0 = none := h6
      rw [e6] at hq
      rw [h6] at h
      simp only [Prod.mk.injEq, Option.some.injEq, Except.ok.injEq] at hq h
      exact ⟨by rw [hch, ← hq.1], by rw [← hq.2, ← h.2, a5]⟩
    | some k6 =>
      have e6 : qNum s (.ok (t.at_ + 1 + 1 + 1)) 43 0 = some k6 := h6
      rw [e6] at hq
      rw [h6] at h
      simp only at hq h
      have a6 : t3.adv.at_ = t.at_ + 1 + 1 + 1 + 1 := by show t3.at_ + 1 = _; omega
      rw [a6] at h
      cases h7 : num? s (t.at_ + 1 + 1 + 1 + 1) 48 0 3 with
      | none => rw [h7] at h; simp at h
      | some k7 =>
        have e7 : qNum s (.ok (t.at_ + 1 + 1 + 1 + 1)) 48 3 = some k7 := h7
        rw [e7] at hq
        rw [h7] at h
        simp only [Prod.mk.injEq, Option.some.injEq, Except.ok.injEq] at hq h
        exact ⟨by rw [hch, ← hq.1], by rw [← hq.2, ← h.2]; show t.at_ + 1 + 1 + 1 + 1 + 1 = t3.at_ + 1 + 1; omega⟩

def v2 (v : VA) : V2 := (v.1, v.2.1)
/-- A good model: what is left at each label. -/
def GP (s : ByteArray) (va : List VA) (ra : List RA) (l : Nat) (t : T) (vs : List V2) (cl : List (Tm × Tm)) (dl : List Chg) (rl : List RA) : Prop :=
  (l = 1 ∧ ∃ acc : List VA, acc.length = t.n ∧ acc.length < 3 ∧ vs = acc.map v2 ∧ LeftV s va ra acc t.at_) ∨
  (l = 2 ∧ vs = va.map v2 ∧ LeftR s ra rl t.at_) ∨ (l = 3 ∧ vs = va.map v2 ∧ LeftD s ra rl cl dl t.at_) ∨ (l = 4 ∧ vs = va.map v2 ∧ LeftC s ra rl cl t.at_)
theorem GP.one {s : ByteArray} {va : List VA} {ra rl : List RA} {t t' : T} {vs : List V2} {cl : List (Tm × Tm)} {dl : List Chg} (h : GP s va ra 1 t vs cl dl rl) (hp : pVar s t = (true, t')) :
    ∃ (acc : List VA) (v : VA), acc.length = t.n ∧ acc.length < 3 ∧ vs = acc.map v2 ∧ vOf s t.at_ = v2 v ∧ t'.n = t.n + 1 ∧
      (acc.length + 1 < 3 → (∀ k, num? s t'.at_ 44 0 0 = some k → LeftV s va ra (acc ++ [v]) (t'.at_ + 1)) ∧ (num? s t'.at_ 44 0 0 = none → va = acc ++ [v] ∧ LeftR s ra [] t'.at_)) ∧
      (¬ acc.length + 1 < 3 → va = acc ++ [v] ∧ LeftR s ra [] t'.at_) := by
  rcases h with ⟨_, acc, h1, h3, hvs, hL⟩ | ⟨h, _⟩ | ⟨h, _⟩ | ⟨h, _⟩
  · obtain ⟨g, a0, j, l, hq, hin, hget, hij, hjs, hA, hZ⟩ := leftV hL h3
    obtain ⟨k1, k3, v0, g1, g2, g3, g4, hF⟩ := qVar_parts hq
    have hva : va.length = acc.length + 1 → va = acc ++ [(g, l, a0)] := fun hl => by
      obtain ⟨f, i0, q', _, hqv, _⟩ := hL
      obtain ⟨r, e⟩ := qVars_pre _ _ _ _ _ hqv
      have hr : r.length = 1 := by rw [e] at hl; simp at hl; omega
      obtain ⟨y, rfl⟩ : ∃ y, r = [y] := by
        cases r with
        | nil => simp at hr
        | cons y r => cases r with
          | nil => exact ⟨y, rfl⟩
          | cons _ _ => simp at hr
      rw [e] at hget
      simp [List.getD] at hget
      rw [e, hget]
    rw [h1] at g1
    have e0 := num_le g4
    have hp' := hp
    unfold pVar at hp'
    have n1 : t.adv.at_ = t.at_ + 1 := rfl
    have n2 : t.adv.adv.at_ = t.at_ + 2 := rfl
    have n3 : t.adv.adv.adv.at_ = t.at_ + 3 := rfl
    have n4 : t.adv.adv.adv.adv.at_ = t.at_ + 4 := rfl
    rw [g1] at hp'
    simp only [n1, n2, n3, g2, g3, g4, Prod.mk.injEq, true_and] at hp'
    have hFF := qFirst_fOf s g 4 v0 t.adv.adv.adv.adv [] (by omega) e0.2
    rw [n4] at hFF
    simp only [List.nil_append] at hFF
    rw [hF] at hFF
    simp only [Prod.mk.injEq, Except.ok.injEq] at hFF
    have hat : t'.at_ = j := by rw [← hp', hFF.2]
    have hn : t'.n = t.n + 1 := by rw [← hp']
    refine ⟨acc, (g, l, a0), h1, h3, hvs, ?_, hn, fun h => ?_, fun h => ?_⟩
    · rw [vOf_eq g2 g4 rfl]; simp [v2, hFF.1]
    · rw [hat]
      exact ⟨(hA h).1, fun hk => ⟨hva ((hA h).2 hk).1, ((hA h).2 hk).2⟩⟩
    · rw [hat]; exact ⟨hva (hZ h).1, (hZ h).2⟩
  · cases h
  · cases h
  · cases h
theorem GP.ghost {s : ByteArray} (va : List VA) (ra : List RA) (hs : s.size ≤ 120) : Ghost s (GP s va ra) where
  v1 := fun {t t' vs k} h hp hn hk => by
    obtain ⟨acc, v, h1, h3, hvs, hv, hn', hA, _⟩ := h.one hp
    exact .inl ⟨rfl, acc ++ [v], by simp [h1]; show _ = t'.n; omega, by simp; omega, by rw [hvs, hv]; simp, (hA (by omega)).1 k hk⟩
  v2 := fun {t t' vs} h hp hk => by
    obtain ⟨acc, v, h1, h3, hvs, hv, hn', hA, hZ⟩ := h.one hp
    by_cases h4 : acc.length + 1 < 3
    · obtain ⟨e1, e2⟩ := (hA h4).2 (hk (by omega))
      exact .inr (.inl ⟨rfl, by rw [hvs, hv, e1]; simp, e2⟩)
    · obtain ⟨e1, e2⟩ := hZ h4
      exact .inr (.inl ⟨rfl, by rw [hvs, hv, e1]; simp, e2⟩)
  r3 := fun {t vs rl k k2} h h1 h2 => by
    rcases h with ⟨h, _⟩ | ⟨_, hvs, hL⟩ | ⟨h, _⟩ | ⟨h, _⟩
    · cases h
    · rcases leftR hs (Nat.le_of_lt (num_lt h1)) hL with ⟨e, _⟩ | ⟨_, _, k', _, (⟨k2', _, hD⟩ | ⟨e, _⟩)⟩
      · have := num_lt h1; omega
      · exact .inr (.inr (.inl ⟨rfl, hvs, hD⟩))
      · have e' : num? s t.adv.at_ 58 0 0 = none := e
        rw [e'] at h2; cases h2
    · cases h
    · cases h
  r4 := fun {t vs rl k} h h1 h2 => by
    rcases h with ⟨h, _⟩ | ⟨_, hvs, hL⟩ | ⟨h, _⟩ | ⟨h, _⟩
    · cases h
    · rcases leftR hs (Nat.le_of_lt (num_lt h1)) hL with ⟨e, _⟩ | ⟨_, _, k', _, (⟨k2', e, _⟩ | ⟨_, hC⟩)⟩
      · have := num_lt h1; omega
      · have e' : num? s t.adv.at_ 58 0 0 = some k2' := e
        rw [e'] at h2; cases h2
      · exact .inr (.inr (.inr ⟨rfl, hvs, hC⟩))
    · cases h
    · cases h
  c4 := fun {t t' vs cl rl k} h hp hk => by
    rcases h with ⟨h, _⟩ | ⟨h, _⟩ | ⟨h, _⟩ | ⟨_, hvs, hL⟩
    · cases h
    · cases h
    · cases h
    · obtain ⟨c, hc, _, _, hA, _⟩ := leftC hL
      have ha := pCond_at hp
      rw [ha] at hk
      have := hA k hk
      rw [cdOf_q hc] at this
      exact .inr (.inr (.inr ⟨rfl, hvs, by show LeftC s ra rl _ (t'.at_ + 1); rw [ha]; exact this⟩))
  c3 := fun {t t' vs cl rl k} h hp hk h2 => by
    rcases h with ⟨h, _⟩ | ⟨h, _⟩ | ⟨h, _⟩ | ⟨_, hvs, hL⟩
    · cases h
    · cases h
    · cases h
    · obtain ⟨c, hc, _, _, _, hB⟩ := leftC hL
      have ha := pCond_at hp
      rw [ha] at hk
      obtain ⟨_, _, hD⟩ := hB hk
      rw [cdOf_q hc] at hD
      exact .inr (.inr (.inl ⟨rfl, hvs, by show LeftD s ra rl _ [] (t'.at_ + 1); rw [ha]; exact hD⟩))
  d3 := fun {t t' vs cl dl rl k} h hp hk => by
    rcases h with ⟨h, _⟩ | ⟨h, _⟩ | ⟨_, hvs, hL⟩ | ⟨h, _⟩
    · cases h
    · cases h
    · obtain ⟨d, j, hd, _, _, _, hA, _⟩ := leftD hL
      obtain ⟨rfl, rfl⟩ := chOf_q hd hp
      exact .inr (.inr (.inl ⟨rfl, hvs, hA k hk⟩))
    · cases h
  d2 := fun {t t' vs cl dl rl} h hp hk => by
    rcases h with ⟨h, _⟩ | ⟨h, _⟩ | ⟨_, hvs, hL⟩ | ⟨h, _⟩
    · cases h
    · cases h
    · obtain ⟨d, j, hd, _, _, _, _, hB⟩ := leftD hL
      obtain ⟨rfl, rfl⟩ := chOf_q hd hp
      exact .inr (.inl ⟨rfl, hvs, hB hk⟩)
    · cases h
/-- At the end all has been read. -/
theorem GP.all {s : ByteArray} {va : List VA} {ra rl : List RA} {t : T} {vs : List V2} (hs : s.size ≤ 120) (h : GP s va ra 2 t vs [] [] rl) (he : t.at_ = s.size) : vs = va.map v2 ∧ rl = ra := by
  rcases h with ⟨h, _⟩ | ⟨_, hvs, hL⟩ | ⟨h, _⟩ | ⟨h, _⟩
  · cases h
  · rcases leftR hs (by omega) hL with ⟨_, e⟩ | ⟨e, _⟩
    · exact ⟨hvs, e.symm⟩
    · omega
  · cases h
  · cases h
end Go.Proofs.YtgoebckimmofoaaGreatDoor
