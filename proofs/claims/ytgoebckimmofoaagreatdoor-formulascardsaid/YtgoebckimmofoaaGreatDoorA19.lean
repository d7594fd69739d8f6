import Derived.Test.YtgoebckimmofoaaGreatDoorA2
import Derived.Test.YtgoebckimmofoaaGreatDoorA9
import Derived.Test.YtgoebckimmofoaaGreatDoorA1
import Derived.Deep.LoopGhost
import Derived.Deep.RegionLaw
import Derived.Deep.RegionHeld3
import Derived.Stop.RegionWithIn
import Derived.Shelf.RegionOpen
/- The document's reader of formulas: its block, what it reads, as a function of the text. Our own text. -/
namespace Go.Proofs.YtgoebckimmofoaaGreatDoor
open Go.RowKit Go.Lib

/-- A formula: its sign, its condition (if that is what it is), what it is made of. -/
structure Fm where
  o : Nat
  c : Tm × Tm
  n : Nat
  kid : Fin n → Fm
def Fm.tt : Fm := ⟨84, ((0, 0, 0), (0, 0, 0)), 0, fun i => i.elim0⟩
def Fm.cond (c : Tm × Tm) : Fm := ⟨99, c, 0, fun i => i.elim0⟩
def Fm.un (o : Nat) (a : Fm) : Fm := ⟨o, ((0, 0, 0), (0, 0, 0)), 1, fun _ => a⟩
def Fm.bin (o : Nat) (a b : Fm) : Fm := ⟨o, ((0, 0, 0), (0, 0, 0)), 2, fun i => if i.val = 0 then a else b⟩
/-- Where the reader of formulas is: the first bracket too many, how many are open, how many signs of time. -/
structure FSt where
  q : Q
  deep : Int
  opn : Nat
  wgt : Nat
def FSt.adv (x : FSt) : FSt := { x with q := x.q.adv }
def FSt.hvy (x : FSt) : FSt := { x with wgt := x.wgt + 1 }
def FSt.in (x : FSt) : FSt := { x with opn := x.opn + 1, deep := if 10 < x.opn + 1 ∧ x.deep < 0 then (x.q.pos : Int) - 1 else x.deep }
def isC (s : ByteArray) (q : Q) (c : Nat) : Bool := (qNum s q c 0).isSome
/-- What is read: 3 a formula, 2 an 'and', 1 a pair, 0 one. -/
def pF (s : ByteArray) : Nat → Nat → FSt → Fm × FSt
  | 0, _, x => (.tt, x)
  | n + 1, 0, x =>
    if isC s x.q 33 then (.un 33 (pF s n 0 x.adv).1, (pF s n 0 x.adv).2)
    else if isC s x.q 88 then (.un 88 (pF s n 0 x.adv.hvy).1, (pF s n 0 x.adv.hvy).2)
    else if isC s x.q 70 then (.un 70 (pF s n 0 x.adv.hvy).1, (pF s n 0 x.adv.hvy).2)
    else if isC s x.q 71 then (.un 71 (pF s n 0 x.adv.hvy).1, (pF s n 0 x.adv.hvy).2)
    else if isC s x.q 84 then (.tt, x.adv)
    else if isC s x.q 40 then
      let r := pF s n 3 x.adv.in
      (r.1, { r.2 with q := qMust s r.2.q 41, opn := x.opn })
    else match qCond s x.q with
      | (some c, q') => (.cond c, { x with q := q' })
      | (none, q') => (.tt, { x with q := q' })
  | n + 1, 1, x =>
    let r := pF s n 0 x
    if isC s r.2.q 85 then (.bin 85 r.1 (pF s n 0 r.2.adv.hvy).1, (pF s n 0 r.2.adv.hvy).2)
    else if isC s r.2.q 82 then (.bin 82 r.1 (pF s n 0 r.2.adv.hvy).1, (pF s n 0 r.2.adv.hvy).2)
    else if isC s r.2.q 87 then (.bin 87 r.1 (pF s n 0 r.2.adv.hvy).1, (pF s n 0 r.2.adv.hvy).2)
    else r
  | n + 1, 2, x =>
    let r := pF s n 1 x
    if isC s r.2.q 38 then (.bin 38 r.1 (pF s n 2 r.2.adv).1, (pF s n 2 r.2.adv).2) else r
  | n + 1, _ + 3, x =>
    let r := pF s n 2 x
    if isC s r.2.q 124 then (.bin 124 r.1 (pF s n 3 r.2.adv).1, (pF s n 3 r.2.adv).2) else r
theorem pF0 (s : ByteArray) (n : Nat) (x : FSt) : pF s (n + 1) 0 x =
    (if isC s x.q 33 then (.un 33 (pF s n 0 x.adv).1, (pF s n 0 x.adv).2)
      else if isC s x.q 88 then (.un 88 (pF s n 0 x.adv.hvy).1, (pF s n 0 x.adv.hvy).2)
      else if isC s x.q 70 then (.un 70 (pF s n 0 x.adv.hvy).1, (pF s n 0 x.adv.hvy).2)
      else if isC s x.q 71 then (.un 71 (pF s n 0 x.adv.hvy).1, (pF s n 0 x.adv.hvy).2)
      else if isC s x.q 84 then (.tt, x.adv)
      else if isC s x.q 40 then
        let r := pF s n 3 x.adv.in
        (r.1, { r.2 with q := qMust s r.2.q 41, opn := x.opn })
      else match qCond s x.q with
        | (some c, q') => (.cond c, { x with q := q' })
        | (none, q') => (.tt, { x with q := q' })) := rfl
theorem pF1 (s : ByteArray) (n : Nat) (x : FSt) : pF s (n + 1) 1 x =
    (let r := pF s n 0 x
      if isC s r.2.q 85 then (.bin 85 r.1 (pF s n 0 r.2.adv.hvy).1, (pF s n 0 r.2.adv.hvy).2)
      else if isC s r.2.q 82 then (.bin 82 r.1 (pF s n 0 r.2.adv.hvy).1, (pF s n 0 r.2.adv.hvy).2)
      else if isC s r.2.q 87 then (.bin 87 r.1 (pF s n 0 r.2.adv.hvy).1, (pF s n 0 r.2.adv.hvy).2)
      else r) := rfl
theorem pF2 (s : ByteArray) (n : Nat) (x : FSt) : pF s (n + 1) 2 x =
    (let r := pF s n 1 x
      if isC s r.2.q 38 then (.bin 38 r.1 (pF s n 2 r.2.adv).1, (pF s n 2 r.2.adv).2) else r) := rfl
theorem pF3 (s : ByteArray) (n m : Nat) (x : FSt) : pF s (n + 1) (m + 3) x =
    (let r := pF s n 2 x
      if isC s r.2.q 124 then (.bin 124 r.1 (pF s n 3 r.2.adv).1, (pF s n 3 r.2.adv).2) else r) := rfl

/-- How far the reader has come at most. -/
def Q.top (q : Q) (s : ByteArray) : Nat := match q with
  | .ok i => i
  | .error _ => s.size
/-- The reader of formulas in block P, its reader in block B. -/
structure FB (B P : Nat) (s : ByteArray) (x : FSt) (w : World) : Prop where
  r : RS B s x.q w
  p : w.heap[P]? = some (.cells #[.pointer (some ⟨B, 0, none⟩), .int .i64 x.deep, .int .i64 x.opn, .int .i64 x.wgt] 98 (0, 0))
  ne : B ≠ P
  o : x.opn ≤ 1000 + x.q.top s
  g : x.wgt ≤ x.q.top s
theorem isC_some {s : ByteArray} {q : Q} {c : Nat} (h : isC s q c = true) : ∃ k, qNum s q c 0 = some k := by
  unfold isC at h; exact Option.isSome_iff_exists.1 h
theorem isC_none {s : ByteArray} {q : Q} {c : Nat} (h : isC s q c = false) : qNum s q c 0 = none := by
  unfold isC at h; simpa using h
theorem isC_ok {s : ByteArray} {q : Q} {c : Nat} (h : isC s q c = true) : ∃ i, q = .ok i ∧ i < s.size := by
  obtain ⟨k, hk⟩ := isC_some h
  cases q with
  | ok i => exact ⟨i, rfl, num_lt hk⟩
  | error p => cases hk

/-- The 9 cells of a formula's node. -/
def z7 : List Value := [.int .i64 0, .int .i64 0, .int .i64 0, .int .i64 0, .int .i64 0, .int .i64 0, .int .u8 0]
def c7 (s : ByteArray) (c : Tm × Tm) : List Value := [.int .i64 c.1.1, .int .i64 c.1.2.1, .int .i64 c.1.2.2, .int .i64 c.2.1, .int .i64 c.2.2.1, .int .i64 c.2.2.2, .int .u8 (byteAt s (c.1.2.2.toNat + 1))]
/-- The cells of a node mean a formula; all blocks that it reaches are L or above. -/
def NV (L : Nat) (s : ByteArray) (w : World) : Fm → List Value → Prop
  | ⟨o, c, 0, _⟩, vs => vs = .int .u8 o :: (if o = 99 then c7 s c else z7) ++ [.slice none 0 0]
  | ⟨o, _, 1, k⟩, vs => ∃ (b cap : Nat) (us : List Value), vs = .int .u8 o :: z7 ++ [.slice (some ⟨b, 0, none⟩) 1 cap] ∧ L ≤ b ∧ w.heap[b]? = some (.cells us.toArray 90 (0, 0)) ∧ NV L s w (k 0) us
  | ⟨o, _, 2, k⟩, vs => ∃ (b cap : Nat) (us ts : List Value), vs = .int .u8 o :: z7 ++ [.slice (some ⟨b, 0, none⟩) 2 cap] ∧ L ≤ b ∧ w.heap[b]? = some (.cells (us ++ ts).toArray 90 (0, 0)) ∧ NV L s w (k 0) us ∧ NV L s w (k 1) ts
  | ⟨_, _, _ + 3, _⟩, _ => False
theorem NV.len {L : Nat} {s : ByteArray} {w : World} : ∀ {t : Fm} {vs : List Value}, NV L s w t vs → vs.length = 9
  | ⟨o, c, 0, _⟩, _, h => by rw [h]; by_cases ho : o = 99 <;> simp [ho, c7, z7]
  | ⟨_, _, 1, _⟩, _, ⟨_, _, _, e, _⟩ => by rw [e]; rfl
  | ⟨_, _, 2, _⟩, _, ⟨_, _, _, _, e, _⟩ => by rw [e]; rfl
  | ⟨_, _, _ + 3, _⟩, _, h => False.elim h
theorem NV.keep {L L' : Nat} {s : ByteArray} {w w' : World} (hL : L' ≤ L) (hx : ∀ k, L ≤ k → k < w.heap.size → w'.heap[k]? = w.heap[k]?) : ∀ {t : Fm} {vs : List Value}, NV L s w t vs → NV L' s w' t vs
  | ⟨_, _, 0, _⟩, _, h => h
  | ⟨_, _, 1, _⟩, _, ⟨b, cap, us, e, h1, h3, h4⟩ => ⟨b, cap, us, e, Nat.le_trans hL h1, (hx b h1 (lt_of_block h3)).trans h3, NV.keep hL hx h4⟩
  | ⟨_, _, 2, _⟩, _, ⟨b, cap, us, ts, e, h1, h3, h4, h5⟩ => ⟨b, cap, us, ts, e, Nat.le_trans hL h1, (hx b h1 (lt_of_block h3)).trans h3, NV.keep hL hx h4, NV.keep hL hx h5⟩
  | ⟨_, _, _ + 3, _⟩, _, h => False.elim h

/-- What each of the four answers. -/
def FPost (B P : Nat) (s : ByteArray) (r : Fm × FSt) (w : World) (e : Ending) (w' : World) : Prop :=
  (∃ (o a0 a1 a2 b0 b1 b2 g : Int) (p : Option Addr) (l c : Nat), e = .returned (.agg #[.int .u8 o, .int .i64 a0, .int .i64 a1, .int .i64 a2, .int .i64 b0, .int .i64 b1, .int .i64 b2, .int .u8 g, .slice p l c]) ∧ ∀ i, r.2.q = .ok i → NV w.heap.size s w' r.1 [.int .u8 o, .int .i64 a0, .int .i64 a1, .int .i64 a2, .int .i64 b0, .int .i64 b1, .int .i64 b2, .int .u8 g, .slice p l c]) ∧ FB B P s r.2 w' ∧ Ex2 B P w w'
def need (s : ByteArray) (m : Nat) (x : FSt) : Nat := 4 * (s.size - x.q.top s) + m + 1
/-- But for one block. -/
structure At (b : Nat) (w w' : World) : Prop where
  os : w'.os = w.os
  tape : w'.tape = w.tape
  output : w'.output = w.output
  size : w'.heap.size = w.heap.size
  block : ∀ k, k ≠ b → w'.heap[k]? = w.heap[k]?
theorem At.refl (b : Nat) (w : World) : At b w w := ⟨rfl, rfl, rfl, rfl, fun _ _ => rfl⟩
theorem At.set {b : Nat} {w w' : World} (h : At b w w') (i : Nat) (v : Value) : At b w (w'.setCell ⟨b, i, none⟩ v) :=
  ⟨h.os, h.tape, h.output, by simpa using h.size, fun k hk => by rw [heap_setCell_other _ _ _ _ (by exact hk)]; exact h.block k hk⟩
/-- Nine cells of a block are written. -/
theorem At.nine (b : Nat) (w : World) (v0 v1 v2 v3 v4 v5 v6 v7 v8 : Value) : At b w (((((((((w.setCell ⟨b, 0, none⟩ v0).setCell ⟨b, 1, none⟩ v1).setCell ⟨b, 2, none⟩ v2).setCell ⟨b, 3, none⟩ v3).setCell ⟨b, 4, none⟩ v4).setCell ⟨b, 5, none⟩ v5).setCell ⟨b, 6, none⟩ v6).setCell ⟨b, 7, none⟩ v7).setCell ⟨b, 8, none⟩ v8) :=
  (((((((((At.refl b w).set 0 v0).set 1 v1).set 2 v2).set 3 v3).set 4 v4).set 5 v5).set 6 v6).set 7 v7).set 8 v8
theorem Ex2.at {B P b : Nat} {a w w' : World} (h : Ex2 B P a w) (k : At b w w') (hb : a.heap.size ≤ b) : Ex2 B P a w' :=
  ⟨k.os.trans h.os, k.tape.trans h.tape, k.output.trans h.output, by rw [k.size]; exact h.size, fun i hi h1 h2 => (k.block i (by omega)).trans (h.block i hi h1 h2)⟩
theorem FB.at {B P b : Nat} {s : ByteArray} {x : FSt} {w w' : World} (h : FB B P s x w) (k : At b w w') (h1 : b ≠ B) (h2 : b ≠ P) : FB B P s x w' :=
  ⟨h.r.block (k.block B h1.symm), (k.block P h2.symm).trans h.p, h.ne, h.o, h.g⟩
end Go.Proofs.YtgoebckimmofoaaGreatDoor

/- The document's reader of formulas, walked. Our own text. -/
namespace Go.Proofs.YtgoebckimmofoaaGreatDoor
open Go.RowKit Go.Lib

theorem qMust_pos {s : ByteArray} {q : Q} {c j : Nat} (h : qMust s q c = .ok j) : ∃ i, q = .ok i ∧ i ≤ j := by
  unfold qMust at h
  split at h
  · cases q with
    | ok i => simp [Q.adv] at h; exact ⟨i, rfl, by omega⟩
    | error p => simp [Q.adv] at h
  · cases q with
    | ok i => simp [Q.fail] at h
    | error p => simp [Q.fail] at h
theorem qTerm_pos {s : ByteArray} {q : Q} {j : Nat} (h : (qTerm s q).2 = .ok j) : ∃ i, q = .ok i ∧ i ≤ j := by
  unfold qTerm at h
  cases q with
  | ok i =>
    refine ⟨i, rfl, ?_⟩
    split at h
    · simp [Q.adv] at h; omega
    · split at h
      · simp [Q.adv] at h; omega
      · simp [Q.fail] at h
  | error p => simp [qNum, Q.fail] at h
theorem adv_pos {q : Q} {j : Nat} (h : q.adv = .ok j) : ∃ i, q = .ok i ∧ i ≤ j := by
  cases q with
  | ok i => simp [Q.adv] at h; exact ⟨i, rfl, by omega⟩
  | error p => simp [Q.adv] at h
theorem qCond_pos {s : ByteArray} {q : Q} {j : Nat} (h : (qCond s q).2 = .ok j) : ∃ i, q = .ok i ∧ i ≤ j := by
  unfold qCond at h
  split at h
  · next q1 e => exact qTerm_pos (by rw [e]; exact h)
  · next a q1 e =>
    have k1 : ∀ i, q1 = .ok i → ∃ i', q = .ok i' ∧ i' ≤ i := fun i hi => qTerm_pos (by rw [e]; exact hi)
    split at h
    · have k2 : ∀ j, (qTerm s q1.adv).2 = .ok j → ∃ i, q = .ok i ∧ i ≤ j := fun j hj => by
        obtain ⟨i2, h2, h3⟩ := qTerm_pos hj
        obtain ⟨i1, h4, h5⟩ := adv_pos h2
        obtain ⟨i0, h6, h7⟩ := k1 i1 h4
        exact ⟨i0, h6, by omega⟩
      split at h
      · next e2 => exact k2 j (by rw [e2]; exact h)
      · next e2 => exact k2 j (by rw [e2]; exact h)
    · cases q1 with
      | ok i => simp [Q.fail] at h
      | error p => simp [Q.fail] at h
theorem pF_pos (s : ByteArray) : ∀ (n m : Nat) (x : FSt) (j : Nat), (pF s n m x).2.q = .ok j → ∃ i, x.q = .ok i ∧ i ≤ j := by
  intro n
  induction n with
  | zero => intro m x j h; exact ⟨j, h, Nat.le_refl _⟩
  | succ n ih =>
    intro m x j h
    have two : ∀ (m m' : Nat) (y : FSt → FSt), (∀ x j, (y x).q = .ok j → ∃ i, x.q = .ok i ∧ i ≤ j) → (pF s n m (y (pF s n m' x).2)).2.q = .ok j → ∃ i, x.q = .ok i ∧ i ≤ j := fun m m' y hy h => by
      obtain ⟨i, h1, h2⟩ := ih _ _ _ h
      obtain ⟨i', h3, h4⟩ := hy _ _ h1
      obtain ⟨i2, h5, h6⟩ := ih _ _ _ h3
      exact ⟨i2, h5, by omega⟩
    have one : ∀ (m : Nat) (y : FSt → FSt), (∀ x j, (y x).q = .ok j → ∃ i, x.q = .ok i ∧ i ≤ j) → (pF s n m (y x)).2.q = .ok j → ∃ i, x.q = .ok i ∧ i ≤ j := fun m y hy h => by
      obtain ⟨i, h1, h2⟩ := ih _ _ _ h
      obtain ⟨i', h3, h4⟩ := hy _ _ h1
      exact ⟨i', h3, by omega⟩
    have a1 : ∀ (x : FSt) j, x.adv.q = .ok j → ∃ i, x.q = .ok i ∧ i ≤ j := fun x j h => adv_pos h
    have a2 : ∀ (x : FSt) j, x.adv.hvy.q = .ok j → ∃ i, x.q = .ok i ∧ i ≤ j := fun x j h => adv_pos h
    have a3 : ∀ (x : FSt) j, x.adv.in.q = .ok j → ∃ i, x.q = .ok i ∧ i ≤ j := fun x j h => adv_pos h
    match m, h with
    | 0, h =>
      rw [pF0] at h
      split at h
      · exact one 0 _ a1 h
      · split at h
        · exact one 0 _ a2 h
        · split at h
          · exact one 0 _ a2 h
          · split at h
            · exact one 0 _ a2 h
            · split at h
              · exact a1 _ _ h
              · split at h
                · obtain ⟨i, h1, h2⟩ := qMust_pos h
                  obtain ⟨i1, h3, h4⟩ := ih _ _ _ h1
                  obtain ⟨i', h5, h6⟩ := a3 _ _ h3
                  exact ⟨i', h5, by omega⟩
                · split at h
                  · next e => exact qCond_pos (by rw [e]; exact h)
                  · next e => exact qCond_pos (by rw [e]; exact h)
    | 1, h =>
      rw [pF1] at h
      dsimp only at h
      split at h
      · exact two 0 0 _ a2 h
      · split at h
        · exact two 0 0 _ a2 h
        · split at h
          · exact two 0 0 _ a2 h
          · exact ih _ _ _ h
    | 2, h =>
      rw [pF2] at h
      dsimp only at h
      split at h
      · exact two 2 1 _ a1 h
      · exact ih _ _ _ h
    | m + 3, h =>
      rw [pF3] at h
      dsimp only at h
      split at h
      · exact two 3 2 _ a1 h
      · exact ih _ _ _ h
theorem pF_opn (s : ByteArray) : ∀ (n m : Nat) (x : FSt), (pF s n m x).2.opn = x.opn := by
  intro n
  induction n with
  | zero => intro m x; rfl
  | succ n ih =>
    intro m x
    match m with
    | 0 =>
      rw [pF0]
      split
      · exact ih _ _
      · split
        · exact ih _ _
        · split
          · exact ih _ _
          · split
            · exact ih _ _
            · split
              · rfl
              · split
                · rfl
                · split <;> rfl
    | 1 =>
      rw [pF1]
      dsimp only
      split
      · exact (ih _ _).trans (ih _ _)
      · split
        · exact (ih _ _).trans (ih _ _)
        · split
          · exact (ih _ _).trans (ih _ _)
          · exact ih _ _
    | 2 =>
      rw [pF2]
      dsimp only
      split
      · exact (ih _ _).trans (ih _ _)
      · exact ih _ _
    | m + 3 =>
      rw [pF3]
      dsimp only
      split
      · exact (ih _ _).trans (ih _ _)
      · exact ih _ _
theorem need_le {s : ByteArray} {n m m' : Nat} {x y : FSt} (h : need s m x ≤ n + 1) (hm : m' < m) (hy : ∀ j, y.q = .ok j → ∃ i, x.q = .ok i ∧ i ≤ j) : need s m' y ≤ n := by
  unfold need Q.top at *
  cases hq : y.q with
  | error p => simp only; omega
  | ok j =>
    obtain ⟨i, h1, h2⟩ := hy j hq
    rw [h1] at h
    simp only at *
    omega
theorem need_adv {s : ByteArray} {n m m' : Nat} {x y : FSt} (h : need s m x ≤ n + 1) (hm : m' ≤ 3) (hy : ∀ j, y.q = .ok j → ∃ i, x.q = .ok i ∧ i < j ∧ i < s.size) : need s m' y ≤ n ∨ ∃ p, y.q = .error p := by
  unfold need Q.top at *
  cases hq : y.q with
  | error p => exact .inr ⟨p, rfl⟩
  | ok j =>
    obtain ⟨i, h1, h2, h3⟩ := hy j hq
    rw [h1] at h
    simp only at *
    exact .inl (by omega)
section
variable {B P : Nat} {s : ByteArray} {x : FSt} {w : World}
theorem FB.lt (h : FB B P s x w) : P < w.heap.size := lt_of_block h.p
theorem FB.ex (h : FB B P s x w) {w' : World} {q' : Q} (hr : RS B s q' w') (hx : Ex B w w') (ho : x.q.top s ≤ q'.top s) : FB B P s { x with q := q' } w' :=
  ⟨hr, (hx.block P h.lt h.ne.symm).trans h.p, h.ne, Nat.le_trans h.o (by simp only; omega), Nat.le_trans h.g ho⟩
theorem FB.c0 (h : FB B P s x w) : w.cell? ⟨P, 0, none⟩ = some (.pointer (some ⟨B, 0, none⟩)) := by simp [World.cell?, h.p]
theorem FB.c1 (h : FB B P s x w) : w.cell? ⟨P, 1, none⟩ = some (.int .i64 x.deep) := by simp [World.cell?, h.p]
theorem FB.c2 (h : FB B P s x w) : w.cell? ⟨P, 2, none⟩ = some (.int .i64 x.opn) := by simp [World.cell?, h.p]
theorem FB.c3 (h : FB B P s x w) : w.cell? ⟨P, 3, none⟩ = some (.int .i64 x.wgt) := by simp [World.cell?, h.p]
theorem FB.free (h : FB B P s x w) (i : Nat) : w.frozen? ⟨P, i, none⟩ = false := by simp [World.frozen?, h.p]
def zN : Obj := .cells #[.int .u8 0, .int .i64 0, .int .i64 0, .int .i64 0, .int .i64 0, .int .i64 0, .int .i64 0, .int .u8 0, .slice none 0 0] 90
theorem FB.alloc (h : FB B P s x w) (o : Obj) : FB B P s x (w.alloc o) := ⟨h.r.alloc o, (Below.heap_alloc _ _ _ h.lt).trans h.p, h.ne, h.o, h.g⟩
theorem Ex2.ofAlloc (w : World) (o : Obj) : Ex2 B P w (w.alloc o) := ((Ex.refl B w).alloc o).two
theorem len9 {vs : List Value} (h : vs.length = 9) : ∃ v0 v1 v2 v3 v4 v5 v6 v7 v8, vs = [v0, v1, v2, v3, v4, v5, v6, v7, v8] := by
  match vs, h with
  | [v0, v1, v2, v3, v4, v5, v6, v7, v8], _ => exact ⟨_, _, _, _, _, _, _, _, _, rfl⟩
theorem below_ex2 {w w' : World} (h : Below w.heap.size w w') : Ex2 B P w w' := ⟨h.os, h.tape, h.output, h.size, fun k hk _ _ => h.block k hk⟩
theorem FB.below (h : FB B P s x w) {w' : World} (hb : Below w.heap.size w w') : FB B P s x w' := ⟨h.r.block (hb.block _ h.r.lt), (hb.block _ h.lt).trans h.p, h.ne, h.o, h.g⟩
theorem blk9 {w : World} {b : Nat} {x0 x1 x2 x3 x4 x5 x6 x7 x8 : Value} {t : TypeId} (h : w.heap[b]? = some (.cells #[x0, x1, x2, x3, x4, x5, x6, x7, x8] t (0, 0))) :
    (w.cell? ⟨b, 0, none⟩ = some x0 ∧ w.cell? ⟨b, 1, none⟩ = some x1 ∧ w.cell? ⟨b, 2, none⟩ = some x2 ∧ w.cell? ⟨b, 3, none⟩ = some x3 ∧ w.cell? ⟨b, 4, none⟩ = some x4 ∧ w.cell? ⟨b, 5, none⟩ = some x5 ∧ w.cell? ⟨b, 6, none⟩ = some x6 ∧ w.cell? ⟨b, 7, none⟩ = some x7 ∧ w.cell? ⟨b, 8, none⟩ = some x8) ∧ ∀ i, w.frozen? ⟨b, i, none⟩ = false := by
  refine ⟨⟨?_, ?_, ?_, ?_, ?_, ?_, ?_, ?_, ?_⟩, fun i => ?_⟩ <;> simp [World.cell?, World.frozen?, h]
theorem FB.alloc2 {w4 w5 : World} {y : FSt} (h : FB B P s y w4) (hat : At w.heap.size w4 w5) (hBw : B < w.heap.size) (hPw : P < w.heap.size) (O1 O2 : Obj) : FB B P s y ((w5.alloc O1).alloc O2) :=
  ((h.at hat (by omega) (by omega)).alloc O1).alloc O2
/-- What is answered of two. -/
theorem close_bin (og : Nat) {vs us : List Value} {r r2 : Fm × FSt} {w4 w5 : World} (hb4 : FB B P s r2.2 w4) (hx : Ex2 B P w w4) (hBw : B < w.heap.size) (hPw : P < w.heap.size)
    (h1 : NV (w.heap.size + 1) s w4 r.1 vs) (h2 : ∀ i, r2.2.q = .ok i → NV (w.heap.size + 1) s w4 r2.1 us) (hat : At w.heap.size w4 w5) (O1 : Obj) :
    FPost B P s (.bin og r.1 r2.1, r2.2) w (.returned (.agg #[.int .u8 og, .int .i64 0, .int .i64 0, .int .i64 0, .int .i64 0, .int .i64 0, .int .i64 0, .int .u8 0, .slice (some ⟨w4.heap.size + 1, 0, none⟩) 2 2])) ((w5.alloc O1).alloc (.cells (vs ++ us).toArray 90)) := by
  have hsz : (w5.alloc O1).heap.size = w4.heap.size + 1 := by rw [World.size_alloc, hat.size]
  have hkeep : ∀ k, w.heap.size + 1 ≤ k → k < w4.heap.size → ((w5.alloc O1).alloc (.cells (vs ++ us).toArray 90)).heap[k]? = w4.heap[k]? := fun k h1 h2 => by
    rw [Below.heap_alloc _ _ _ (by rw [hsz]; omega), Below.heap_alloc _ _ _ (by rw [hat.size]; omega), hat.block k (by omega)]
  have hnew := heap_alloc_new (w5.alloc O1) (.cells (vs ++ us).toArray 90)
  rw [hsz] at hnew
  have hsx := hx.size
  refine ⟨⟨_, _, _, _, _, _, _, _, _, _, _, rfl, fun i hi => ⟨w4.heap.size + 1, 2, vs, us, rfl, by omega, hnew, h1.keep (by omega) hkeep, (h2 i hi).keep (by omega) hkeep⟩⟩, hb4.alloc2 hat hBw hPw _ _, (hx.at hat (Nat.le_refl _)).trans ((Ex2.ofAlloc _ _).trans (Ex2.ofAlloc _ _))⟩
set_option maxRecDepth 100000 in
set_option maxHeartbeats 1600000 in
theorem formula_step (n : Nat) (hs : s.size ≤ 120) (IHb : ∀ x w, FB B P s x w → need s 2 x ≤ n → Calls Tryz.prog 102 #[.pointer (some ⟨P, 0, none⟩)] w (FPost B P s (pF s n 2 x) w))
    (IHf : ∀ x w, FB B P s x w → need s 3 x ≤ n → Calls Tryz.prog 65 #[.pointer (some ⟨P, 0, none⟩)] w (FPost B P s (pF s n 3 x) w))
    (hn : need s 3 x ≤ n + 1) (hb : FB B P s x w) :
    Calls Tryz.prog 65 #[.pointer (some ⟨P, 0, none⟩)] w (FPost B P s (pF s (n + 1) 3 x) w) := by
  have HIF : Put (_) := ⟨IHf⟩
  have HBc : Put (_) := ⟨IHb x (w.alloc zN) (hb.alloc _) (need_le hn (by omega) (fun j h => ⟨j, h, Nat.le_refl _⟩))⟩
  obtain ⟨r, hr⟩ : ∃ r, r = pF s n 2 x := ⟨_, rfl⟩
  have HP : Put (pF s (n + 1) 3 x = if isC s r.2.q 124 then (.bin 124 r.1 (pF s n 3 r.2.adv).1, (pF s n 3 r.2.adv).2) else r) := ⟨by rw [hr]; exact pF3 s n 0 x⟩
  have HPos : Put (∀ j, r.2.q = .ok j → ∃ i, x.q = .ok i ∧ i ≤ j) := ⟨by rw [hr]; exact pF_pos s n 2 x⟩
  rw [← hr] at HBc
  have hP := hb.lt
  have hBl := hb.r.lt
  have HX0 : Put (_) := ⟨Ex2.ofAlloc (B := B) (P := P) w zN⟩
  unfold zN at HBc HX0
  clear IHb IHf hb hr
  go_enter Tryz.func65, Tryz.ntmps65
  go_wp2_with fail
  refine HBc.out.mono ?_
  rintro e w1 ⟨⟨o, a0, a1, a2, b0, b1, b2, g, p, l, c, rfl, hnv⟩, hb1, hx1⟩
  have HX1 : Put (_) := ⟨hx1⟩
  clear HBc hx1
  have hR1 := (HX1.out.block w.heap.size (by simp) (by omega) (by omega)).trans (heap_alloc_new w _)
  have hl1 := lt_of_block hR1
  have hB2 : Below w1.heap.size w1 _ := (Below.refl _ _).alloc (Nat.le_refl _) (.cells #[.int .u8 o, .int .i64 a0, .int .i64 a1, .int .i64 a2, .int .i64 b0, .int .i64 b1, .int .i64 b2, .int .u8 g, .slice p l c] 90)
  have hA2 := heap_alloc_new w1 (.cells #[.int .u8 o, .int .i64 a0, .int .i64 a1, .int .i64 a2, .int .i64 b0, .int .i64 b1, .int .i64 b2, .int .u8 g, .slice p l c] 90)
  have HNV : Put (_) := ⟨hnv⟩
  have hb2 := hb1.below hB2
  have HB2 : Put (_) := ⟨hb2⟩
  have HX2 : Put (_) := ⟨HX0.out.trans (HX1.out.trans (below_ex2 hB2))⟩
  have HR2 : Put (_) := ⟨(hB2.block _ hl1).trans hR1⟩
  have HA2 : Put (_) := ⟨hA2⟩
  have HBl : Put (_) := ⟨hB2⟩
  have c0 := hb2.c0
  clear hnv hb1 hB2 hb2 hR1 hA2
  go_wp2_with fail
  cases hc : isC s r.2.q 124 with
  | false =>
    refine (got_no 124 hs (by omega) HB2.out.r (isC_none hc)).mono ?_; rintro e w3 ⟨rfl, hr3, hx3⟩
    have HX3 : Put (_) := ⟨HX2.out.trans hx3.two⟩
    have hR3 := (hx3.block _ (lt_of_block HR2.out) (by omega)).trans HR2.out
    have hA3 := (hx3.block _ (lt_of_block HA2.out) (by omega)).trans HA2.out
    obtain ⟨⟨n0, n1, n2, n3, n4, n5, n6, n7, n8⟩, nf⟩ := blk9 hA3
    obtain ⟨⟨m0, m1, m2, m3, m4, m5, m6, m7, m8⟩, mf⟩ := blk9 hR3
    have HAt : Put (_) := ⟨At.nine w.heap.size w3 (.int .u8 o) (.int .i64 a0) (.int .i64 a1) (.int .i64 a2) (.int .i64 b0) (.int .i64 b1) (.int .i64 b2) (.int .u8 g) (.slice p l c)⟩
    have HR : Put (_) := ⟨hr3⟩
    have HX : Put (_) := ⟨hx3⟩
    clear hR3 hA3 hr3 hx3 c0
    go_wp2
    refine bodyPost_ret (v := .agg #[.int .u8 o, .int .i64 a0, .int .i64 a1, .int .i64 a2, .int .i64 b0, .int .i64 b1, .int .i64 b2, .int .u8 g, .slice p l c]) (by simp [results, Tryz.results65, go_sem, m0, m1, m2, m3, m4, m5, m6, m7, m8]) rfl ?_
    rw [HP.out, hc]
    refine ⟨⟨_, _, _, _, _, _, _, _, _, _, _, rfl, fun i hi => (HNV.out i hi).keep (by simp) (fun k h1 h2 => ?_)⟩, (HB2.out.ex HR.out HX.out (Nat.le_refl _)).at HAt.out (by omega) (by omega), HX3.out.at HAt.out (Nat.le_refl _)⟩
    simp only [World.size_alloc] at h1
    rw [HAt.out.block k (by omega), HX.out.block k (by simp; omega) (by omega), HBl.out.block k h2]
  | true =>
    obtain ⟨k, hk⟩ := isC_some hc
    obtain ⟨i, hi, his⟩ := isC_ok hc
    refine (got_yes 124 k hs (by omega) HB2.out.r hk).mono ?_; rintro e w3 ⟨rfl, hr3, hx3⟩
    have hb3 : FB B P s r.2.adv w3 := HB2.out.ex hr3 hx3 (by rw [hi]; simp [Q.adv, Q.top])
    have hn3 : need s 3 r.2.adv ≤ n := by
      rcases need_adv (y := r.2.adv) hn (Nat.le_refl 3) (fun j hj => by
        have h1 : j = i + 1 := by
          have : r.2.adv.q = .ok (i + 1) := by show r.2.q.adv = _; rw [hi]; rfl
          rw [this] at hj; cases hj; rfl
        obtain ⟨i', h2, h3⟩ := HPos.out i hi
        exact ⟨i', h2, by omega, by omega⟩) with h | ⟨p, h⟩
      · exact h
      · have : r.2.adv.q = .ok (i + 1) := by show r.2.q.adv = _; rw [hi]; rfl
        rw [this] at h; cases h
    have HX3 : Put (_) := ⟨HX2.out.trans hx3.two⟩
    have HR3 : Put (_) := ⟨(hx3.block _ (lt_of_block HR2.out) (by omega)).trans HR2.out⟩
    have HA3 : Put (_) := ⟨(hx3.block _ (lt_of_block HA2.out) (by omega)).trans HA2.out⟩
    have HX : Put (_) := ⟨hx3⟩
    have HB3 : Put (_) := ⟨hb3⟩
    clear hr3 hx3 c0 hb3
    go_wp2_with fail
    refine (HIF.out _ _ HB3.out hn3).mono ?_
    obtain ⟨r2, hr2⟩ : ∃ r2, r2 = pF s n 3 r.2.adv := ⟨_, rfl⟩
    rw [← hr2]
    rintro e w4 ⟨⟨o', a0', a1', a2', b0', b1', b2', g', p', l', c', rfl, hnv4⟩, hb4, hx4⟩
    have HX4 : Put (_) := ⟨hx4⟩
    have HNV4 : Put (_) := ⟨hnv4⟩
    have HB4 : Put (_) := ⟨hb4⟩
    have l1 := hx4.size
    have hR4 := (hx4.block _ (lt_of_block HR3.out) (by omega) (by omega)).trans HR3.out
    have hA4 := (hx4.block _ (lt_of_block HA3.out) (by omega) (by omega)).trans HA3.out
    have HR4 : Put (_) := ⟨hR4⟩
    have HA4 : Put (_) := ⟨hA4⟩
    obtain ⟨⟨n0, n1, n2, n3, n4, n5, n6, n7, n8⟩, nf⟩ := blk9 hA4
    obtain ⟨⟨m0, m1, m2, m3, m4, m5, m6, m7, m8⟩, mf⟩ := blk9 hR4
    have l2 := lt_of_block hA4
    have l3 := lt_of_block hR4
    have l4 := hb4.lt
    have l5 := hb4.r.lt
    clear hnv4 hb4 hx4 hR4 hA4
    have HAt : Put (_) := ⟨At.nine w.heap.size w4 (.int .u8 124) (.int .i64 0) (.int .i64 0) (.int .i64 0) (.int .i64 0) (.int .i64 0) (.int .i64 0) (.int .u8 0) (.slice (some ⟨w4.heap.size + 1, 0, none⟩) 2 2)⟩
    go_wp2
    refine bodyPost_ret (v := .agg #[.int .u8 124, .int .i64 0, .int .i64 0, .int .i64 0, .int .i64 0, .int .i64 0, .int .i64 0, .int .u8 0, .slice (some ⟨w4.heap.size + 1, 0, none⟩) 2 2]) (by simp [results, Tryz.results65, go_sem, m0, m1, m2, m3, m4, m5, m6, m7, m8, l3, Nat.lt_succ_of_lt l3]) rfl ?_
    rw [HP.out, hc, ← hr2]
    refine close_bin 124 (r := r) (r2 := r2) (vs := [_, _, _, _, _, _, _, _, _]) (us := [_, _, _, _, _, _, _, _, _]) HB4.out (HX3.out.trans HX4.out) hBl hP ((HNV.out i hi).keep (by simp) (fun k h1 h2 => ?_)) (fun i hi => (HNV4.out i hi).keep (lt_of_block HR3.out) (fun _ _ _ => rfl)) HAt.out _
    simp only [World.size_alloc] at h1
    rw [HX4.out.block k (by have := HX.out.size; simp at this; omega) (by omega) (by omega), HX.out.block k (by simp; omega) (by omega), HBl.out.block k h2]
set_option maxRecDepth 100000 in
set_option maxHeartbeats 1600000 in
theorem both_step (n : Nat) (hs : s.size ≤ 120) (IHp : ∀ x w, FB B P s x w → need s 1 x ≤ n → Calls Tryz.prog 144 #[.pointer (some ⟨P, 0, none⟩)] w (FPost B P s (pF s n 1 x) w))
    (IHb : ∀ x w, FB B P s x w → need s 2 x ≤ n → Calls Tryz.prog 102 #[.pointer (some ⟨P, 0, none⟩)] w (FPost B P s (pF s n 2 x) w))
    (hn : need s 2 x ≤ n + 1) (hb : FB B P s x w) :
    Calls Tryz.prog 102 #[.pointer (some ⟨P, 0, none⟩)] w (FPost B P s (pF s (n + 1) 2 x) w) := by
  have HIF : Put (_) := ⟨IHb⟩
  have HBc : Put (_) := ⟨IHp x (w.alloc zN) (hb.alloc _) (need_le hn (by omega) (fun j h => ⟨j, h, Nat.le_refl _⟩))⟩
  obtain ⟨r, hr⟩ : ∃ r, r = pF s n 1 x := ⟨_, rfl⟩
  have HP : Put (pF s (n + 1) 2 x = if isC s r.2.q 38 then (.bin 38 r.1 (pF s n 2 r.2.adv).1, (pF s n 2 r.2.adv).2) else r) := ⟨by rw [hr]; exact pF2 s n x⟩
  have HPos : Put (∀ j, r.2.q = .ok j → ∃ i, x.q = .ok i ∧ i ≤ j) := ⟨by rw [hr]; exact pF_pos s n 1 x⟩
  rw [← hr] at HBc
  have hP := hb.lt
  have hBl := hb.r.lt
  have HX0 : Put (_) := ⟨Ex2.ofAlloc (B := B) (P := P) w zN⟩
  unfold zN at HBc HX0
  clear IHp IHb hb hr
  go_enter Tryz.func102, Tryz.ntmps102
  go_wp2_with fail
  refine HBc.out.mono ?_
  rintro e w1 ⟨⟨o, a0, a1, a2, b0, b1, b2, g, p, l, c, rfl, hnv⟩, hb1, hx1⟩
  have HX1 : Put (_) := ⟨hx1⟩
  clear HBc hx1
  have hR1 := (HX1.out.block w.heap.size (by simp) (by omega) (by omega)).trans (heap_alloc_new w _)
  have hl1 := lt_of_block hR1
  have hB2 : Below w1.heap.size w1 _ := (Below.refl _ _).alloc (Nat.le_refl _) (.cells #[.int .u8 o, .int .i64 a0, .int .i64 a1, .int .i64 a2, .int .i64 b0, .int .i64 b1, .int .i64 b2, .int .u8 g, .slice p l c] 90)
  have hA2 := heap_alloc_new w1 (.cells #[.int .u8 o, .int .i64 a0, .int .i64 a1, .int .i64 a2, .int .i64 b0, .int .i64 b1, .int .i64 b2, .int .u8 g, .slice p l c] 90)
  have HNV : Put (_) := ⟨hnv⟩
  have hb2 := hb1.below hB2
  have HB2 : Put (_) := ⟨hb2⟩
  have HX2 : Put (_) := ⟨HX0.out.trans (HX1.out.trans (below_ex2 hB2))⟩
  have HR2 : Put (_) := ⟨(hB2.block _ hl1).trans hR1⟩
  have HA2 : Put (_) := ⟨hA2⟩
  have HBl : Put (_) := ⟨hB2⟩
  have c0 := hb2.c0
  clear hnv hb1 hB2 hb2 hR1 hA2
  go_wp2_with fail
  cases hc : isC s r.2.q 38 with
  | false =>
    refine (got_no 38 hs (by omega) HB2.out.r (isC_none hc)).mono ?_; rintro e w3 ⟨rfl, hr3, hx3⟩
    have HX3 : Put (_) := ⟨HX2.out.trans hx3.two⟩
    have hR3 := (hx3.block _ (lt_of_block HR2.out) (by omega)).trans HR2.out
    have hA3 := (hx3.block _ (lt_of_block HA2.out) (by omega)).trans HA2.out
    obtain ⟨⟨n0, n1, n2, n3, n4, n5, n6, n7, n8⟩, nf⟩ := blk9 hA3
    obtain ⟨⟨m0, m1, m2, m3, m4, m5, m6, m7, m8⟩, mf⟩ := blk9 hR3
    have HAt : Put (_) := ⟨At.nine w.heap.size w3 (.int .u8 o) (.int .i64 a0) (.int .i64 a1) (.int .i64 a2) (.int .i64 b0) (.int .i64 b1) (.int .i64 b2) (.int .u8 g) (.slice p l c)⟩
    have HR : Put (_) := ⟨hr3⟩
    have HX : Put (_) := ⟨hx3⟩
    clear hR3 hA3 hr3 hx3 c0
    go_wp2
    refine bodyPost_ret (v := .agg #[.int .u8 o, .int .i64 a0, .int .i64 a1, .int .i64 a2, .int .i64 b0, .int .i64 b1, .int .i64 b2, .int .u8 g, .slice p l c]) (by simp [results, Tryz.results102, go_sem, m0, m1, m2, m3, m4, m5, m6, m7, m8]) rfl ?_
    rw [HP.out, hc]
    refine ⟨⟨_, _, _, _, _, _, _, _, _, _, _, rfl, fun i hi => (HNV.out i hi).keep (by simp) (fun k h1 h2 => ?_)⟩, (HB2.out.ex HR.out HX.out (Nat.le_refl _)).at HAt.out (by omega) (by omega), HX3.out.at HAt.out (Nat.le_refl _)⟩
    simp only [World.size_alloc] at h1
    rw [HAt.out.block k (by omega), HX.out.block k (by simp; omega) (by omega), HBl.out.block k h2]
  | true =>
    obtain ⟨k, hk⟩ := isC_some hc
    obtain ⟨i, hi, his⟩ := isC_ok hc
    refine (got_yes 38 k hs (by omega) HB2.out.r hk).mono ?_; rintro e w3 ⟨rfl, hr3, hx3⟩
    have hb3 : FB B P s r.2.adv w3 := HB2.out.ex hr3 hx3 (by rw [hi]; simp [Q.adv, Q.top])
    have hn3 : need s 2 r.2.adv ≤ n := by
      rcases need_adv (m' := 2) (y := r.2.adv) hn (by omega) (fun j hj => by
        have h1 : j = i + 1 := by
          have : r.2.adv.q = .ok (i + 1) := by show r.2.q.adv = _; rw [hi]; rfl
          rw [this] at hj; cases hj; rfl
        obtain ⟨i', h2, h3⟩ := HPos.out i hi
        exact ⟨i', h2, by omega, by omega⟩) with h | ⟨p, h⟩
      · exact h
      · have : r.2.adv.q = .ok (i + 1) := by show r.2.q.adv = _; rw [hi]; rfl
        rw [this] at h; cases h
    have HX3 : Put (_) := ⟨HX2.out.trans hx3.two⟩
    have HR3 : Put (_) := ⟨(hx3.block _ (lt_of_block HR2.out) (by omega)).trans HR2.out⟩
    have HA3 : Put (_) := ⟨(hx3.block _ (lt_of_block HA2.out) (by omega)).trans HA2.out⟩
    have HX : Put (_) := ⟨hx3⟩
    have HB3 : Put (_) := ⟨hb3⟩
    clear hr3 hx3 c0 hb3
    go_wp2_with fail
    refine (HIF.out _ _ HB3.out hn3).mono ?_
    obtain ⟨r2, hr2⟩ : ∃ r2, r2 = pF s n 2 r.2.adv := ⟨_, rfl⟩
    rw [← hr2]
    rintro e w4 ⟨⟨o', a0', a1', a2', b0', b1', b2', g', p', l', c', rfl, hnv4⟩, hb4, hx4⟩
    have HX4 : Put (_) := ⟨hx4⟩
    have HNV4 : Put (_) := ⟨hnv4⟩
    have HB4 : Put (_) := ⟨hb4⟩
    have l1 := hx4.size
    have hR4 := (hx4.block _ (lt_of_block HR3.out) (by omega) (by omega)).trans HR3.out
    have hA4 := (hx4.block _ (lt_of_block HA3.out) (by omega) (by omega)).trans HA3.out
    have HR4 : Put (_) := ⟨hR4⟩
    have HA4 : Put (_) := ⟨hA4⟩
    obtain ⟨⟨n0, n1, n2, n3, n4, n5, n6, n7, n8⟩, nf⟩ := blk9 hA4
    obtain ⟨⟨m0, m1, m2, m3, m4, m5, m6, m7, m8⟩, mf⟩ := blk9 hR4
    have l2 := lt_of_block hA4
    have l3 := lt_of_block hR4
    have l4 := hb4.lt
    have l5 := hb4.r.lt
    clear hnv4 hb4 hx4 hR4 hA4
    have HAt : Put (_) := ⟨At.nine w.heap.size w4 (.int .u8 38) (.int .i64 0) (.int .i64 0) (.int .i64 0) (.int .i64 0) (.int .i64 0) (.int .i64 0) (.int .u8 0) (.slice (some ⟨w4.heap.size + 1, 0, none⟩) 2 2)⟩
    go_wp2
    refine bodyPost_ret (v := .agg #[.int .u8 38, .int .i64 0, .int .i64 0, .int .i64 0, .int .i64 0, .int .i64 0, .int .i64 0, .int .u8 0, .slice (some ⟨w4.heap.size + 1, 0, none⟩) 2 2]) (by simp [results, Tryz.results102, go_sem, m0, m1, m2, m3, m4, m5, m6, m7, m8, l3, Nat.lt_succ_of_lt l3]) rfl ?_
    rw [HP.out, hc, ← hr2]
    refine close_bin 38 (r := r) (r2 := r2) (vs := [_, _, _, _, _, _, _, _, _]) (us := [_, _, _, _, _, _, _, _, _]) HB4.out (HX3.out.trans HX4.out) hBl hP ((HNV.out i hi).keep (by simp) (fun k h1 h2 => ?_)) (fun i hi => (HNV4.out i hi).keep (lt_of_block HR3.out) (fun _ _ _ => rfl)) HAt.out _
    simp only [World.size_alloc] at h1
    rw [HX4.out.block k (by have := HX.out.size; simp at this; omega) (by omega) (by omega), HX.out.block k (by simp; omega) (by omega), HBl.out.block k h2]
end
end Go.Proofs.YtgoebckimmofoaaGreatDoor

/- The document's reader of formulas: a pair, and one. Our own text. -/
namespace Go.Proofs.YtgoebckimmofoaaGreatDoor
open Go.RowKit Go.Lib
theorem FPost.drew {B P : Nat} {s : ByteArray} {r : Fm × FSt} {w w' : World} {e : Ending} (h : FPost B P s r w e w') : FPost B P s r w e w'.drew := by
  obtain ⟨⟨o, a0, a1, a2, b0, b1, b2, g, p, l, c, h1, h2⟩, hb, hx⟩ := h
  exact ⟨⟨o, a0, a1, a2, b0, b1, b2, g, p, l, c, h1, fun i hi => NV.keep (L := w.heap.size) (L' := w.heap.size) (w := w') (w' := w'.drew) (Nat.le_refl _) (fun _ _ _ => rfl) (h2 i hi)⟩, ⟨hb.r.drew, hb.p, hb.ne, hb.o, hb.g⟩, hx.drew⟩
/-- One of some signs, and one behind it. -/
def tryB (s : ByteArray) (n : Nat) (r : Fm × FSt) : List Nat → Fm × FSt
  | [] => r
  | c :: l => if isC s r.2.q c then (.bin c r.1 (pF s n 0 r.2.adv.hvy).1, (pF s n 0 r.2.adv.hvy).2) else tryB s n r l
section
variable {B P : Nat} {s : ByteArray} {x : FSt} {w : World}
theorem FB.heavy (h : FB B P s x w) (hg : x.wgt + 1 ≤ x.q.top s) : FB B P s x.hvy (w.setCell ⟨P, 3, none⟩ (.int .i64 ((x.wgt : Int) + 1))) :=
  ⟨h.r.set_other (by exact h.ne.symm) _, heap_setCell_same _ P 3 #[.pointer (some ⟨B, 0, none⟩), .int .i64 x.deep, .int .i64 x.opn, .int .i64 x.wgt] 98 _ h.p, h.ne, h.o, hg⟩
theorem Ex2.setP {a b : World} (h : Ex2 B P a b) (i : Nat) (v : Value) : Ex2 B P a (b.setCell ⟨P, i, none⟩ v) := h.setCell (.inr (.inl rfl)) v
set_option maxRecDepth 100000 in
set_option maxHeartbeats 1600000 in
theorem pair_step (n : Nat) (hs : s.size ≤ 120) (IHo : ∀ x w, FB B P s x w → need s 0 x ≤ n → Calls Tryz.prog 175 #[.pointer (some ⟨P, 0, none⟩)] w (FPost B P s (pF s n 0 x) w))
    (hn : need s 1 x ≤ n + 1) (hb : FB B P s x w) :
    Calls Tryz.prog 144 #[.pointer (some ⟨P, 0, none⟩)] w (FPost B P s (pF s (n + 1) 1 x) w) := by
  have HIO : Put (_) := ⟨IHo⟩
  have HOc : Put (_) := ⟨IHo x (w.alloc zN) (hb.alloc _) (need_le hn (by omega) (fun j h => ⟨j, h, Nat.le_refl _⟩))⟩
  obtain ⟨r, hr⟩ : ∃ r, r = pF s n 0 x := ⟨_, rfl⟩
  have HP : Put (pF s (n + 1) 1 x = tryB s n r [85, 82, 87]) := ⟨by rw [hr]; exact pF1 s n x⟩
  have HPos : Put (∀ j, r.2.q = .ok j → ∃ i, x.q = .ok i ∧ i ≤ j) := ⟨by rw [hr]; exact pF_pos s n 0 x⟩
  rw [← hr] at HOc
  have hP := hb.lt
  have hBl := hb.r.lt
  have HX0 : Put (_) := ⟨Ex2.ofAlloc (B := B) (P := P) w zN⟩
  unfold zN at HOc HX0
  clear IHo hb hr
  go_enter Tryz.func144, Tryz.ntmps144
  go_wp2_with fail
  refine HOc.out.mono ?_
  rintro e w1 ⟨⟨o, a0, a1, a2, b0, b1, b2, g, p, l, c, rfl, hnv⟩, hb1, hx1⟩
  have HX1 : Put (_) := ⟨hx1⟩
  clear HOc hx1
  have hR1 := (HX1.out.block w.heap.size (by simp) (by omega) (by omega)).trans (heap_alloc_new w _)
  have hl1 := lt_of_block hR1
  have hB2 : Below w1.heap.size w1 _ := (Below.refl _ _).alloc (Nat.le_refl _) (.cells #[.int .u8 o, .int .i64 a0, .int .i64 a1, .int .i64 a2, .int .i64 b0, .int .i64 b1, .int .i64 b2, .int .u8 g, .slice p l c] 90)
  have hA2 := heap_alloc_new w1 (.cells #[.int .u8 o, .int .i64 a0, .int .i64 a1, .int .i64 a2, .int .i64 b0, .int .i64 b1, .int .i64 b2, .int .u8 g, .slice p l c] 90)
  have HNV : Put (_) := ⟨hnv⟩
  have hb2 := hb1.below hB2
  have HB2 : Put (_) := ⟨hb2⟩
  have HX2 : Put (_) := ⟨HX0.out.trans (HX1.out.trans (below_ex2 hB2))⟩
  have HR2 : Put (_) := ⟨(hB2.block _ hl1).trans hR1⟩
  have HA2 : Put (_) := ⟨hA2⟩
  have HBl : Put (_) := ⟨hB2⟩
  clear hnv hb1 hB2 hb2 hR1 hA2
  go_wp2_with fail
  generalize hw2 : w1.alloc (.cells #[.int .u8 o, .int .i64 a0, .int .i64 a1, .int .i64 a2, .int .i64 b0, .int .i64 b1, .int .i64 b2, .int .u8 g, .slice p l c] 90) = w2 at *
  clear hw2
  go_loopg [5] 3 (fun gk iv wr => ∃ i : Nat, iv = .int .i64 i ∧ i + gk = 3 ∧ Put (FB B P s r.2 wr) ∧ Put (Ex B w2 wr) ∧ Put (pF s (n + 1) 1 x = tryB s n r ([85, 82, 87].drop i)))
  case atStart => exact ⟨0, rfl, rfl, HB2, ⟨Ex.refl _ _⟩, HP⟩
  case round =>
    clear HP
    obtain ⟨i, rfl, hik, HBr, HXr, HPi⟩ := hrel
    obtain rfl | rfl | rfl | rfl : i = 0 ∨ i = 1 ∨ i = 2 ∨ i = 3 := by omega
    · have hh : tryB s n r [85,82,87] = if isC s r.2.q 85 then (.bin 85 r.1 (pF s n 0 r.2.adv.hvy).1, (pF s n 0 r.2.adv.hvy).2) else tryB s n r [82,87] := rfl
      have HP1 : Put (_) := ⟨HPi.out.trans hh⟩
      clear hh HPi
      have c0 := HBr.out.c0
      have c0' : wr.drew.cell? ⟨P, 0, none⟩ = _ := c0
      cases hc : isC s r.2.q 85 with
      | false =>
        have HG : Put (_) := ⟨got_no 85 hs (by omega) HBr.out.r.drew (isC_none hc)⟩
        go_wp2_with fail
        go_region_law ((go_simp; go_at_call 56; refine HG.out.mono ?_; rintro e w3 ⟨rfl, hr3, hx3⟩))
        all_goals
          have HF : Put (_) := ⟨HBr.out.ex hr3 ((Ex.refl _ _).drew.trans hx3) (Nat.le_refl _)⟩
          have HX : Put (_) := ⟨HXr.out.drew.trans hx3⟩
          have HP2 : Put (_ = _) := ⟨HP1.out.trans (by rw [hc])⟩
          clear hr3 hx3 c0 c0' HG HP1 HBr HXr
          go_wp2
          go_roundg (gk - 1)
          case measure => omega
          case rel => exact ⟨1, by go_num, by omega, HF, HX, HP2⟩
      | true =>
        obtain ⟨k, hk⟩ := isC_some hc
        obtain ⟨i, hi, his⟩ := isC_ok hc
        have HG : Put (_) := ⟨got_yes 85 k hs (by omega) HBr.out.r.drew hk⟩
        go_wp2_with fail
        go_region_law ((go_simp; go_at_call 56; refine HG.out.mono ?_; rintro e w3 ⟨rfl, hr3, hx3⟩))
        all_goals
          have HF : FB B P s r.2.adv w3 := HBr.out.ex hr3 ((Ex.refl _ _).drew.trans hx3) (by rw [hi]; simp [Q.adv, Q.top])
          have HX : Put (_) := ⟨HXr.out.drew.trans hx3⟩
          have HP2 : Put (_ = _) := ⟨HP1.out.trans (by rw [hc])⟩
          have HQ : Put (r.2.adv.q = .ok (i + 1)) := ⟨by show r.2.q.adv = _; rw [hi]; rfl⟩
          have HH : Put (_) := ⟨HF.heavy (by rw [HQ.out]; have := HBr.out.g; rw [hi] at this; exact Nat.succ_le_succ this)⟩
          have hnn : need s 0 r.2.adv.hvy ≤ n := by
            rcases need_adv (m' := 0) (y := r.2.adv.hvy) hn (by omega) (fun j hj => by
              have h1 : j = i + 1 := by have := HQ.out.symm.trans hj; cases this; rfl
              obtain ⟨i', h2, h3⟩ := HPos.out i hi
              exact ⟨i', h2, by omega, by omega⟩) with h | ⟨p, h⟩
            · exact h
            · have := HQ.out.symm.trans h; cases this
          have d3 := HF.c3
          have df := HF.free 3
          have dg : r.2.adv.wgt ≤ 120 := by
            have := HF.g
            rw [HQ.out] at this; simp only [Q.top] at this; omega
          clear hr3 hx3 c0 c0' HG HP1 HBr HXr
          go_wp2_with fail
          refine (HIO.out _ _ HH.out hnn).mono ?_
          obtain ⟨r2, hr2⟩ : ∃ r2, r2 = pF s n 0 r.2.adv.hvy := ⟨_, rfl⟩
          rw [← hr2]
          rw [← hr2] at HP2
          rintro e w4 ⟨⟨o', a0', a1', a2', b0', b1', b2', g', p', l', c', rfl, hnv4⟩, hb4, hx4⟩
          have HX4 : Put (Ex2 B P w2 w4) := ⟨((HX.out.two).setP 3 _).trans hx4⟩
          have HNV4 : Put (_) := ⟨hnv4⟩
          have HB4 : Put (_) := ⟨hb4⟩
          have hR4 := (HX4.out.block _ (lt_of_block HR2.out) (by omega) (by omega)).trans HR2.out
          have hA4 := (HX4.out.block _ (lt_of_block HA2.out) (by omega) (by omega)).trans HA2.out
          obtain ⟨⟨n0, n1, n2, n3, n4, n5, n6, n7, n8⟩, nf⟩ := blk9 hA4
          obtain ⟨⟨m0, m1, m2, m3, m4, m5, m6, m7, m8⟩, mf⟩ := blk9 hR4
          have l2 := lt_of_block hA4
          have l3 := lt_of_block hR4
          have l4 := hb4.lt
          have l5 := hb4.r.lt
          clear hnv4 hb4 hx4 hR4 hA4 hnn dg df d3 HF
          have HAt : Put (_) := ⟨At.nine w.heap.size w4 (.int .u8 85) (.int .i64 0) (.int .i64 0) (.int .i64 0) (.int .i64 0) (.int .i64 0) (.int .i64 0) (.int .u8 0) (.slice (some ⟨w4.heap.size + 1, 0, none⟩) 2 2)⟩
          go_wp2_with fail
          go_region
          all_goals
            go_wp2
            refine bodyPost_ret (v := .agg #[.int .u8 85, .int .i64 0, .int .i64 0, .int .i64 0, .int .i64 0, .int .i64 0, .int .i64 0, .int .u8 0, .slice (some ⟨w4.heap.size + 1, 0, none⟩) 2 2]) (by simp [results, Tryz.results144, go_sem, m0, m1, m2, m3, m4, m5, m6, m7, m8, l3, Nat.lt_succ_of_lt l3]; rfl) rfl ?_
            rw [HP2.out]
            refine FPost.drew (close_bin 85 (r := r) (r2 := r2) (vs := [_, _, _, _, _, _, _, _, _]) (us := [_, _, _, _, _, _, _, _, _]) HB4.out (HX2.out.trans HX4.out) hBl hP ((HNV.out i hi).keep (by simp) (fun k h1 h2 => ?_)) (fun i hi => (HNV4.out i hi).keep (by have := lt_of_block HR2.out; have := HX.out.size; simp; omega) (fun _ _ _ => rfl)) HAt.out _)
            simp only [World.size_alloc] at h1
            rw [HX4.out.block k (by have := HBl.out.size; omega) (by omega) (by omega), HBl.out.block k h2]
    · have hh : tryB s n r [82,87] = if isC s r.2.q 82 then (.bin 82 r.1 (pF s n 0 r.2.adv.hvy).1, (pF s n 0 r.2.adv.hvy).2) else tryB s n r [87] := rfl
      have HP1 : Put (_) := ⟨HPi.out.trans hh⟩
      clear hh HPi
      have c0 := HBr.out.c0
      have c0' : wr.drew.cell? ⟨P, 0, none⟩ = _ := c0
      cases hc : isC s r.2.q 82 with
      | false =>
        have HG : Put (_) := ⟨got_no 82 hs (by omega) HBr.out.r.drew (isC_none hc)⟩
        go_wp2_with fail
        go_region_law ((go_simp; go_at_call 56; refine HG.out.mono ?_; rintro e w3 ⟨rfl, hr3, hx3⟩))
        all_goals
          have HF : Put (_) := ⟨HBr.out.ex hr3 ((Ex.refl _ _).drew.trans hx3) (Nat.le_refl _)⟩
          have HX : Put (_) := ⟨HXr.out.drew.trans hx3⟩
          have HP2 : Put (_ = _) := ⟨HP1.out.trans (by rw [hc])⟩
          clear hr3 hx3 c0 c0' HG HP1 HBr HXr
          go_wp2
          go_roundg (gk - 1)
          case measure => omega
          case rel => exact ⟨2, by go_num, by omega, HF, HX, HP2⟩
      | true =>
        obtain ⟨k, hk⟩ := isC_some hc
        obtain ⟨i, hi, his⟩ := isC_ok hc
        have HG : Put (_) := ⟨got_yes 82 k hs (by omega) HBr.out.r.drew hk⟩
        go_wp2_with fail
        go_region_law ((go_simp; go_at_call 56; refine HG.out.mono ?_; rintro e w3 ⟨rfl, hr3, hx3⟩))
        all_goals
          have HF : FB B P s r.2.adv w3 := HBr.out.ex hr3 ((Ex.refl _ _).drew.trans hx3) (by rw [hi]; simp [Q.adv, Q.top])
          have HX : Put (_) := ⟨HXr.out.drew.trans hx3⟩
          have HP2 : Put (_ = _) := ⟨HP1.out.trans (by rw [hc])⟩
          have HQ : Put (r.2.adv.q = .ok (i + 1)) := ⟨by show r.2.q.adv = _; rw [hi]; rfl⟩
          have HH : Put (_) := ⟨HF.heavy (by rw [HQ.out]; have := HBr.out.g; rw [hi] at this; exact Nat.succ_le_succ this)⟩
          have hnn : need s 0 r.2.adv.hvy ≤ n := by
            rcases need_adv (m' := 0) (y := r.2.adv.hvy) hn (by omega) (fun j hj => by
              have h1 : j = i + 1 := by have := HQ.out.symm.trans hj; cases this; rfl
              obtain ⟨i', h2, h3⟩ := HPos.out i hi
              exact ⟨i', h2, by omega, by omega⟩) with h | ⟨p, h⟩
            · exact h
            · have := HQ.out.symm.trans h; cases this
          have d3 := HF.c3
          have df := HF.free 3
          have dg : r.2.adv.wgt ≤ 120 := by
            have := HF.g
            rw [HQ.out] at this; simp only [Q.top] at this; omega
          clear hr3 hx3 c0 c0' HG HP1 HBr HXr
          go_wp2_with fail
          refine (HIO.out _ _ HH.out hnn).mono ?_
          obtain ⟨r2, hr2⟩ : ∃ r2, r2 = pF s n 0 r.2.adv.hvy := ⟨_, rfl⟩
          rw [← hr2]
          rw [← hr2] at HP2
          rintro e w4 ⟨⟨o', a0', a1', a2', b0', b1', b2', g', p', l', c', rfl, hnv4⟩, hb4, hx4⟩
          have HX4 : Put (Ex2 B P w2 w4) := ⟨((HX.out.two).setP 3 _).trans hx4⟩
          have HNV4 : Put (_) := ⟨hnv4⟩
          have HB4 : Put (_) := ⟨hb4⟩
          have hR4 := (HX4.out.block _ (lt_of_block HR2.out) (by omega) (by omega)).trans HR2.out
          have hA4 := (HX4.out.block _ (lt_of_block HA2.out) (by omega) (by omega)).trans HA2.out
          obtain ⟨⟨n0, n1, n2, n3, n4, n5, n6, n7, n8⟩, nf⟩ := blk9 hA4
          obtain ⟨⟨m0, m1, m2, m3, m4, m5, m6, m7, m8⟩, mf⟩ := blk9 hR4
          have l2 := lt_of_block hA4
          have l3 := lt_of_block hR4
          have l4 := hb4.lt
          have l5 := hb4.r.lt
          clear hnv4 hb4 hx4 hR4 hA4 hnn dg df d3 HF
          have HAt : Put (_) := ⟨At.nine w.heap.size w4 (.int .u8 82) (.int .i64 0) (.int .i64 0) (.int .i64 0) (.int .i64 0) (.int .i64 0) (.int .i64 0) (.int .u8 0) (.slice (some ⟨w4.heap.size + 1, 0, none⟩) 2 2)⟩
          go_wp2_with fail
          go_region
          all_goals
            go_wp2
            refine bodyPost_ret (v := .agg #[.int .u8 82, .int .i64 0, .int .i64 0, .int .i64 0, .int .i64 0, .int .i64 0, .int .i64 0, .int .u8 0, .slice (some ⟨w4.heap.size + 1, 0, none⟩) 2 2]) (by simp [results, Tryz.results144, go_sem, m0, m1, m2, m3, m4, m5, m6, m7, m8, l3, Nat.lt_succ_of_lt l3]; rfl) rfl ?_
            rw [HP2.out]
            refine FPost.drew (close_bin 82 (r := r) (r2 := r2) (vs := [_, _, _, _, _, _, _, _, _]) (us := [_, _, _, _, _, _, _, _, _]) HB4.out (HX2.out.trans HX4.out) hBl hP ((HNV.out i hi).keep (by simp) (fun k h1 h2 => ?_)) (fun i hi => (HNV4.out i hi).keep (by have := lt_of_block HR2.out; have := HX.out.size; simp; omega) (fun _ _ _ => rfl)) HAt.out _)
            simp only [World.size_alloc] at h1
            rw [HX4.out.block k (by have := HBl.out.size; omega) (by omega) (by omega), HBl.out.block k h2]
    · have hh : tryB s n r [87] = if isC s r.2.q 87 then (.bin 87 r.1 (pF s n 0 r.2.adv.hvy).1, (pF s n 0 r.2.adv.hvy).2) else tryB s n r [] := rfl
      have HP1 : Put (_) := ⟨HPi.out.trans hh⟩
      clear hh HPi
      have c0 := HBr.out.c0
      have c0' : wr.drew.cell? ⟨P, 0, none⟩ = _ := c0
      cases hc : isC s r.2.q 87 with
      | false =>
        have HG : Put (_) := ⟨got_no 87 hs (by omega) HBr.out.r.drew (isC_none hc)⟩
        go_wp2_with fail
        go_region_law ((go_simp; go_at_call 56; refine HG.out.mono ?_; rintro e w3 ⟨rfl, hr3, hx3⟩))
        all_goals
          have HF : Put (_) := ⟨HBr.out.ex hr3 ((Ex.refl _ _).drew.trans hx3) (Nat.le_refl _)⟩
          have HX : Put (_) := ⟨HXr.out.drew.trans hx3⟩
          have HP2 : Put (_ = _) := ⟨HP1.out.trans (by rw [hc])⟩
          clear hr3 hx3 c0 c0' HG HP1 HBr HXr
          go_wp2
          go_roundg (gk - 1)
          case measure => omega
          case rel => exact ⟨3, by go_num, by omega, HF, HX, HP2⟩
      | true =>
        obtain ⟨k, hk⟩ := isC_some hc
        obtain ⟨i, hi, his⟩ := isC_ok hc
        have HG : Put (_) := ⟨got_yes 87 k hs (by omega) HBr.out.r.drew hk⟩
        go_wp2_with fail
        go_region_law ((go_simp; go_at_call 56; refine HG.out.mono ?_; rintro e w3 ⟨rfl, hr3, hx3⟩))
        all_goals
          have HF : FB B P s r.2.adv w3 := HBr.out.ex hr3 ((Ex.refl _ _).drew.trans hx3) (by rw [hi]; simp [Q.adv, Q.top])
          have HX : Put (_) := ⟨HXr.out.drew.trans hx3⟩
          have HP2 : Put (_ = _) := ⟨HP1.out.trans (by rw [hc])⟩
          have HQ : Put (r.2.adv.q = .ok (i + 1)) := ⟨by show r.2.q.adv = _; rw [hi]; rfl⟩
          have HH : Put (_) := ⟨HF.heavy (by rw [HQ.out]; have := HBr.out.g; rw [hi] at this; exact Nat.succ_le_succ this)⟩
          have hnn : need s 0 r.2.adv.hvy ≤ n := by
            rcases need_adv (m' := 0) (y := r.2.adv.hvy) hn (by omega) (fun j hj => by
              have h1 : j = i + 1 := by have := HQ.out.symm.trans hj; cases this; rfl
              obtain ⟨i', h2, h3⟩ := HPos.out i hi
              exact ⟨i', h2, by omega, by omega⟩) with h | ⟨p, h⟩
            · exact h
            · have := HQ.out.symm.trans h; cases this
          have d3 := HF.c3
          have df := HF.free 3
          have dg : r.2.adv.wgt ≤ 120 := by
            have := HF.g
            rw [HQ.out] at this; simp only [Q.top] at this; omega
          clear hr3 hx3 c0 c0' HG HP1 HBr HXr
          go_wp2_with fail
          refine (HIO.out _ _ HH.out hnn).mono ?_
          obtain ⟨r2, hr2⟩ : ∃ r2, r2 = pF s n 0 r.2.adv.hvy := ⟨_, rfl⟩
          rw [← hr2]
          rw [← hr2] at HP2
          rintro e w4 ⟨⟨o', a0', a1', a2', b0', b1', b2', g', p', l', c', rfl, hnv4⟩, hb4, hx4⟩
          have HX4 : Put (Ex2 B P w2 w4) := ⟨((HX.out.two).setP 3 _).trans hx4⟩
          have HNV4 : Put (_) := ⟨hnv4⟩
          have HB4 : Put (_) := ⟨hb4⟩
          have hR4 := (HX4.out.block _ (lt_of_block HR2.out) (by omega) (by omega)).trans HR2.out
          have hA4 := (HX4.out.block _ (lt_of_block HA2.out) (by omega) (by omega)).trans HA2.out
          obtain ⟨⟨n0, n1, n2, n3, n4, n5, n6, n7, n8⟩, nf⟩ := blk9 hA4
          obtain ⟨⟨m0, m1, m2, m3, m4, m5, m6, m7, m8⟩, mf⟩ := blk9 hR4
          have l2 := lt_of_block hA4
          have l3 := lt_of_block hR4
          have l4 := hb4.lt
          have l5 := hb4.r.lt
          clear hnv4 hb4 hx4 hR4 hA4 hnn dg df d3 HF
          have HAt : Put (_) := ⟨At.nine w.heap.size w4 (.int .u8 87) (.int .i64 0) (.int .i64 0) (.int .i64 0) (.int .i64 0) (.int .i64 0) (.int .i64 0) (.int .u8 0) (.slice (some ⟨w4.heap.size + 1, 0, none⟩) 2 2)⟩
          go_wp2_with fail
          go_region
          all_goals
            go_wp2
            refine bodyPost_ret (v := .agg #[.int .u8 87, .int .i64 0, .int .i64 0, .int .i64 0, .int .i64 0, .int .i64 0, .int .i64 0, .int .u8 0, .slice (some ⟨w4.heap.size + 1, 0, none⟩) 2 2]) (by simp [results, Tryz.results144, go_sem, m0, m1, m2, m3, m4, m5, m6, m7, m8, l3, Nat.lt_succ_of_lt l3]; rfl) rfl ?_
            rw [HP2.out]
            refine FPost.drew (close_bin 87 (r := r) (r2 := r2) (vs := [_, _, _, _, _, _, _, _, _]) (us := [_, _, _, _, _, _, _, _, _]) HB4.out (HX2.out.trans HX4.out) hBl hP ((HNV.out i hi).keep (by simp) (fun k h1 h2 => ?_)) (fun i hi => (HNV4.out i hi).keep (by have := lt_of_block HR2.out; have := HX.out.size; simp; omega) (fun _ _ _ => rfl)) HAt.out _)
            simp only [World.size_alloc] at h1
            rw [HX4.out.block k (by have := HBl.out.size; omega) (by omega) (by omega), HBl.out.block k h2]
    · have HP2 : Put (pF s (n + 1) 1 x = r) := ⟨HPi.out⟩
      have hR3 := (HXr.out.block _ (lt_of_block HR2.out) (by omega)).trans HR2.out
      have hA3 := (HXr.out.block _ (lt_of_block HA2.out) (by omega)).trans HA2.out
      obtain ⟨⟨n0, n1, n2, n3, n4, n5, n6, n7, n8⟩, nf⟩ := blk9 hA3
      obtain ⟨⟨m0, m1, m2, m3, m4, m5, m6, m7, m8⟩, mf⟩ := blk9 hR3
      have HAt : Put (_) := ⟨At.nine w.heap.size wr (.int .u8 o) (.int .i64 a0) (.int .i64 a1) (.int .i64 a2) (.int .i64 b0) (.int .i64 b1) (.int .i64 b2) (.int .u8 g) (.slice p l c)⟩
      clear hR3 hA3 HPi
      go_wp2
      refine bodyPost_ret (v := .agg #[.int .u8 o, .int .i64 a0, .int .i64 a1, .int .i64 a2, .int .i64 b0, .int .i64 b1, .int .i64 b2, .int .u8 g, .slice p l c]) (by simp [results, Tryz.results144, go_sem, m0, m1, m2, m3, m4, m5, m6, m7, m8]) rfl ?_
      rw [HP2.out]
      refine ⟨⟨_, _, _, _, _, _, _, _, _, _, _, rfl, fun i hi => (HNV.out i hi).keep (by simp) (fun k h1 h2 => ?_)⟩, HBr.out.at HAt.out (by omega) (by omega), (HX2.out.trans HXr.out.two).at HAt.out (Nat.le_refl _)⟩
      simp only [World.size_alloc] at h1
      rw [HAt.out.block k (by omega), HXr.out.block k (by have := HBl.out.size; omega) (by omega), HBl.out.block k h2]
end
end Go.Proofs.YtgoebckimmofoaaGreatDoor
