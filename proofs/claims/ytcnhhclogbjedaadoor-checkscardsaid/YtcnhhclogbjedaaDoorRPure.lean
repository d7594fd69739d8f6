/- The document's reader: a whole model. Our own text. -/
import Derived.Test.YtcnhhclogbjedaaDoorRVar
namespace Go.Proofs.YtcnhhclogbjedaaDoor
open Go.RowKit

theorem Tryd.info82 : (Tryd.prog.info? 82).map (fun i => (i.zero, i.size, i.bytes)) = some (some (.agg #[.int .i64 0, .slice none 0 0, .int .i64 0]), 3, 40) := by kernel_rfl
theorem Tryd.info89 : (Tryd.prog.info? 89).map (fun i => (i.zero, i.size, i.bytes)) = some (some (.agg #[.slice none 0 0, .slice none 0 0]), 2, 48) := by kernel_rfl

structure V3 where
  top : Nat
  at_ : Nat
  l : List Nat
  ao : Option Addr
  cap : Nat
def V3.vf (v : V3) : Value := .slice v.ao v.l.length v.cap
def V3.cells (v : V3) : List Value := [.int .i64 v.top, v.vf, .int .i64 v.at_]
abbrev VA := Nat × List Nat × Nat
def V3.ast (v : V3) : VA := (v.top, v.l, v.at_)
def V3.Ok (w : World) (base : Nat) (v : V3) : Prop := w.ownsRow base 3 1 v.vf v.l.length (ints v.l) ∧ v.l.length ≤ 5 ∧ v.at_ ≤ 120
structure R2 where
  cl : List C7
  dl : List D7
  ao : Option Addr
  cap : Nat
  ao' : Option Addr
  cap' : Nat
def R2.vi (r : R2) : Value := .slice r.ao r.cl.length r.cap
def R2.vd (r : R2) : Value := .slice r.ao' r.dl.length r.cap'
def R2.cells (r : R2) : List Value := [r.vi, r.vd]
abbrev RA := List (Tm × Tm) × List Chg
def R2.ast (r : R2) : RA := (r.cl.map C7.ast, r.dl.map D7.ast)
def R2.Ok (w : World) (base : Nat) (r : R2) : Prop := w.ownsRow base 95 7 r.vi r.cl.length (r.cl.flatMap C7.cells) ∧ w.ownsRow base 111 7 r.vd r.dl.length (r.dl.flatMap D7.cells)
theorem V3.one (v : V3) : ∀ u ∈ v.cells, u.oneCell' = true := by
  intro u hu; simp [V3.cells, V3.vf] at hu; rcases hu with rfl | rfl | rfl <;> rfl
theorem R2.one (v : R2) : ∀ u ∈ v.cells, u.oneCell' = true := by
  intro u hu; simp [R2.cells, R2.vi, R2.vd] at hu; rcases hu with rfl | rfl <;> rfl

def qVars (s : ByteArray) : Nat → Q → List VA → Option (List VA) × Q
  | 0, q, acc => (some acc, q)
  | f + 1, q, acc => match qVar s acc.length q with
    | (none, q1) => (none, q1)
    | (some v, q1) => if acc.length + 1 < 3 then (match qNum s q1 44 0 with
        | some _ => qVars s f q1.adv (acc ++ [v])
        | none => (some (acc ++ [v]), q1)) else (some (acc ++ [v]), q1)
def qRules (s : ByteArray) : Nat → Nat → List RA → Option (List RA) × Q
  | 0, i, _ => (none, .bad i)
  | f + 1, i, acc => if i < s.size then (if acc.length = 8 then (none, .bad i) else match num? s i 59 0 0 with
      | none => (none, .bad i)
      | some _ => match qRule s (.ok (i + 1)) with
        | (none, q1) => (none, q1)
        | (some r, q1) => qRules s f q1.pos (acc ++ [r])) else (some acc, .ok i)
def qRead (s : ByteArray) : Option (List VA × List RA) × Q := match qVars s 3 (.ok 0) [] with
  | (none, q) => (none, q)
  | (some vs, q) => match qRules s 121 q.pos [] with
    | (none, q) => (none, q)
    | (some rs, q) => (some (vs, rs), q)

theorem qFirst_ok (s : ByteArray) : ∀ (f n j : Nat) (acc : List Nat), ∃ j', (qFirst s f n j acc).2 = .ok j' ∧ j ≤ j' ∧ (j ≤ s.size → j' ≤ s.size)
  | 0, _, j, _ => ⟨j, rfl, Nat.le_refl _, id⟩
  | f + 1, n, j, acc => by
    unfold qFirst
    cases h : num? s j 48 (n + 1) 3 with
    | none => exact ⟨j, rfl, Nat.le_refl _, id⟩
    | some v =>
      obtain ⟨j', h1, h2, h3⟩ := qFirst_ok s f v (j + 1) (acc ++ [v])
      have := num_lt h
      exact ⟨j', h1, by omega, fun _ => h3 (by omega)⟩
theorem qMust_ok {s : ByteArray} {q : Q} {c i : Nat} (h : qMust s q c = .ok i) : ∃ j, q = .ok j ∧ i = j + 1 ∧ j < s.size ∧ (∃ k, num? s j c 0 0 = some k) := by
  unfold qMust at h
  cases hn : qNum s q c 0 with
  | none => rw [hn] at h; cases q <;> cases h
  | some k =>
    rw [hn] at h
    cases q with
    | bad p => cases hn
    | ok j => cases h; exact ⟨j, rfl, rfl, num_lt hn, k, hn⟩
theorem qBet_ok {s : ByteArray} {q : Q} {lo d i n : Nat} (h : qBet s q lo d = (n, .ok i)) : ∃ j, q = .ok j ∧ i = j + 1 ∧ j < s.size ∧ num? s j lo 0 d = some n := by
  unfold qBet at h
  cases hn : qNum s q lo d with
  | none => rw [hn] at h; cases q <;> cases h
  | some k =>
    rw [hn] at h
    cases q with
    | bad p => cases hn
    | ok j => cases h; exact ⟨j, rfl, rfl, num_lt hn, hn⟩
theorem qVar_some {s : ByteArray} {k : Nat} {q q1 : Q} {v : VA} (h : qVar s k q = (some v, q1)) : ∃ j, q1 = .ok j ∧ j ≤ s.size := by
  unfold qVar at h
  split at h
  · cases h
  · next n j e =>
    obtain ⟨_, _, rfl, h1, _⟩ := qBet_ok e
    obtain ⟨j', h2, _, h4⟩ := qFirst_ok s 4 n _ [n]
    simp only [Prod.mk.injEq] at h
    exact ⟨j', h.2.symm.trans h2, h4 h1⟩
theorem qVar_none {s : ByteArray} {k : Nat} {q q1 : Q} (h : qVar s k q = (none, q1)) : ∃ p, q1 = .bad p := by
  unfold qVar at h
  split at h
  · cases h; exact ⟨_, rfl⟩
  · cases h
theorem qLoop1_ok {s : ByteArray} : ∀ (f : Nat) (b : Bool) (i : Nat) (acc : List (Tm × Tm)) {r : Option (List (Tm × Tm))} {q : Q}, i ≤ s.size → s.size + 1 ≤ i + f → qLoop1 s f b (.ok i) acc = (r, q) → (r = none ∧ ∃ p, q = .bad p) ∨ (∃ l j, r = some l ∧ q = .ok j ∧ i ≤ j ∧ j ≤ s.size)
  | f, false, i, acc, r, q, hi, hf, h => by
    have h' : (some acc, Q.ok i) = (r, q) := by rw [← h]; cases f <;> rfl
    cases h'; exact .inr ⟨acc, i, rfl, rfl, Nat.le_refl _, hi⟩
  | 0, true, i, acc, r, q, hi, hf, h => by omega
  | f + 1, true, i, acc, r, q, hi, hf, h => by
    unfold qLoop1 at h
    cases hc : qCond s (.ok i) with
    | mk rc qc =>
    rw [hc] at h
    cases rc with
    | none => obtain ⟨p, rfl⟩ := qCond_none hc; cases h; exact .inl ⟨rfl, p, rfl⟩
    | some c =>
      obtain ⟨rfl, hle⟩ := qCond_ok hc
      simp only at h
      cases hn : qNum s (.ok (i + 3)) 38 0 with
      | none =>
        simp only [hn] at h
        rcases qLoop1_ok f false (i + 3) _ hle (by omega) h with h1 | ⟨l, j, h1, h2, h3, h4⟩
        · exact .inl h1
        · exact .inr ⟨l, j, h1, h2, by omega, h4⟩
      | some k =>
        simp only [hn] at h
        have := num_lt hn
        rcases qLoop1_ok f true (i + 3 + 1) _ (by omega) (by omega) h with h1 | ⟨l, j, h1, h2, h3, h4⟩
        · exact .inl h1
        · exact .inr ⟨l, j, h1, h2, by omega, h4⟩
theorem qLoop2_ok {s : ByteArray} : ∀ (f : Nat) (b : Bool) (i : Nat) (acc : List Chg) {r : Option (List Chg)} {q : Q}, i ≤ s.size → s.size + 1 ≤ i + f → qLoop2 s f b (.ok i) acc = (r, q) → (r = none ∧ ∃ p, q = .bad p) ∨ (∃ l j, r = some l ∧ q = .ok j ∧ i ≤ j ∧ j ≤ s.size)
  | f, false, i, acc, r, q, hi, hf, h => by
    have h' : (some acc, Q.ok i) = (r, q) := by rw [← h]; cases f <;> rfl
    cases h'; exact .inr ⟨acc, i, rfl, rfl, Nat.le_refl _, hi⟩
  | 0, true, i, acc, r, q, hi, hf, h => by omega
  | f + 1, true, i, acc, r, q, hi, hf, h => by
    unfold qLoop2 at h
    cases hc : qChange s (.ok i) with
    | mk rc qc =>
    rw [hc] at h
    cases rc with
    | none => obtain ⟨p, rfl⟩ := qChange_none hc; cases h; exact .inl ⟨rfl, p, rfl⟩
    | some c =>
      obtain ⟨j0, rfl, hlt, hle⟩ := qChange_ok hc
      simp only at h
      cases hn : qNum s (.ok j0) 44 0 with
      | none =>
        simp only [hn] at h
        rcases qLoop2_ok f false j0 _ hle (by omega) h with h1 | ⟨l, j, h1, h2, h3, h4⟩
        · exact .inl h1
        · exact .inr ⟨l, j, h1, h2, by omega, h4⟩
      | some k =>
        simp only [hn] at h
        have := num_lt hn
        rcases qLoop2_ok f true (j0 + 1) _ (by omega) (by omega) h with h1 | ⟨l, j, h1, h2, h3, h4⟩
        · exact .inl h1
        · exact .inr ⟨l, j, h1, h2, by omega, h4⟩
theorem qRule_ok {s : ByteArray} {i : Nat} {r : Option RA} {q : Q} (hs : s.size ≤ 120) (hi : i ≤ s.size) (h : qRule s (.ok i) = (r, q)) : (r = none ∧ ∃ p, q = .bad p) ∨ (∃ l j, r = some l ∧ q = .ok j ∧ i ≤ j ∧ j ≤ s.size) := by
  unfold qRule at h
  cases h1 : qLoop1 s 121 (qNum s (.ok i) 58 0).isNone (.ok i) [] with
  | mk r1 q1 =>
  rw [h1] at h
  rcases qLoop1_ok 121 _ i [] hi (by omega) h1 with ⟨rfl, p, rfl⟩ | ⟨l, j, rfl, rfl, h3, h4⟩
  · cases h; exact .inl ⟨rfl, p, rfl⟩
  · simp only at h
    cases hn : qNum s (.ok j) 58 0 with
    | none => simp only [hn] at h; cases h; exact .inl ⟨rfl, _, rfl⟩
    | some k =>
      have hl := num_lt hn
      simp only [hn] at h
      cases h2 : qLoop2 s 121 true (.ok (j + 1)) [] with
      | mk r2 q2 =>
      replace h : (match qLoop2 s 121 true (.ok (j + 1)) [] with | (none, q2) => (none, q2) | (some ds, q2) => (some (l, ds), q2)) = (r, q) := h
      rw [h2] at h
      rcases qLoop2_ok 121 true (j + 1) [] (by omega) (by omega) h2 with ⟨rfl, p, rfl⟩ | ⟨l2, j2, rfl, rfl, h5, h6⟩
      · cases h; exact .inl ⟨rfl, p, rfl⟩
      · cases h; exact .inr ⟨_, j2, rfl, rfl, by omega, h6⟩
theorem own_base {w : World} {b b' e z n : Nat} {v : Value} {xs : List Value} (h : w.ownsRow b e z v n xs) (hb : b' ≤ b) : w.ownsRow b' e z v n xs := by
  refine ⟨h.1, ?_⟩
  rcases h.2 with h | ⟨g, cap, cur, h1, h2, r⟩
  · exact .inl h
  · exact .inr ⟨g, cap, cur, h1, by omega, r⟩
end Go.Proofs.YtcnhhclogbjedaaDoor
