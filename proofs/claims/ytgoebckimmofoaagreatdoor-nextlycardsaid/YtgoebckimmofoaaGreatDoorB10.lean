import Derived.Test.YtgoebckimmofoaaGreatDoorRows
import Derived.WalkKit
import Derived.WalkSpells
import Derived.WalkLawsBesides
import Derived.Deep.QuietTactic
import Derived.BigQuiet
import Derived.Lib.TrailingZeros
import Derived.RegionTactic
import Derived.Scope
import Derived.WalkMore
import Derived.Deep.LoopGhost
import Derived.Deep.AppendLies
import Derived.Deep.RegionHeld3
import Derived.Laws.Bits64b
import Derived.Laws.IdiomStrings
import Derived.Maps.AppendAt
import Derived.RangeFuncBox
import Derived.Deep.RegionLaw
import Derived.Deep.RegionHeld
import Derived.RangeFuncNested
import Derived.RangeFuncBound
import Derived.RangeFuncCalls
import Derived.RangeFuncLeaves
import Derived.Shelf.Abstract
import Derived.Shelf.RegionOpen
import Derived.OwnWalkIn
import Derived.TacticsInMore
import Derived.LoopNIn
import Derived.LoopIn
import Derived.Stop.RegionWithIn
import Derived.MapKept
import Derived.Lib.Bytealg
import Derived.Lib.IndexLaws
import Derived.Test.YtgoebckimmofoaaGreatDoorB1
import Derived.Test.YtgoebckimmofoaaGreatDoorB6
import Derived.Test.YtgoebckimmofoaaGreatDoorB7
import Derived.Test.YtgoebckimmofoaaGreatDoorB8
import Derived.Test.YtgoebckimmofoaaGreatDoorB9
import Derived.Test.YtgoebckimmofoaaGreatDoorB4
import Derived.Test.YtgoebckimmofoaaGreatDoorB5
import Derived.OrdersIn
import Derived.OrdersHeld
/- On a lasso: what goes on step by step, by two rounds back. Our own text. -/
namespace Go.Proofs.YtgoebckimmofoaaGreatDoor
/-- The place behind place k. -/
def nxt (n loop k : Nat) : Nat := if k + 1 < n then k + 1 else loop
/-- Step by step, at most f steps: the document's way. -/
def unt (n loop : Nat) (a b : Nat → Bool) (wk : Bool) : Nat → Nat → Bool
  | 0, k => b k || wk
  | f + 1, k => if !b k && a k then unt n loop a b wk f (nxt n loop k) else b k
theorem unt0 {n loop : Nat} {a b : Nat → Bool} {wk : Bool} (k : Nat) : unt n loop a b wk 0 k = (b k || wk) := rfl
theorem unt1 {n loop : Nat} {a b : Nat → Bool} {wk : Bool} (f k : Nat) : unt n loop a b wk (f + 1) k = if !b k && a k then unt n loop a b wk f (nxt n loop k) else b k := rfl
/-- Over m places from k on, then e: the code's way. -/
def scan (a b : Nat → Bool) (e : Bool) : Nat → Nat → Bool
  | 0, _ => e
  | m + 1, k => b k || (a k && scan a b e m (k + 1))
theorem scan1 {a b : Nat → Bool} {e : Bool} (m k : Nat) : scan a b e (m + 1) k = (b k || (a k && scan a b e m (k + 1))) := rfl
section
variable {n loop : Nat} {a b : Nat → Bool} {wk : Bool}
theorem scan_wrap (g : Nat) : ∀ (m k : Nat), k + (m + 1) = n → unt n loop a b wk (m + 1 + g) k = scan a b (unt n loop a b wk g loop) (m + 1) k
  | 0, k, h => by
    have e : nxt n loop k = loop := by unfold nxt; rw [if_neg (by omega)]
    rw [show 0 + 1 + g = g + 1 by omega]
    rw [unt1, scan1, e]
    unfold scan
    cases b k <;> cases a k <;> simp
  | m + 1, k, h => by
    have e : nxt n loop k = k + 1 := by unfold nxt; rw [if_pos (by omega)]
    rw [show m + 1 + 1 + g = (m + 1 + g) + 1 by omega]
    rw [unt1, e, scan_wrap g m (k + 1) (by omega), scan1 (m + 1)]
    cases b k <;> cases a k <;> simp
theorem scan_on (g : Nat) : ∀ (m k : Nat), k + m < n → unt n loop a b wk (m + g) k = scan a b (unt n loop a b wk g (k + m)) m k
  | 0, k, _ => by simp [scan]
  | m + 1, k, h => by
    have e : nxt n loop k = k + 1 := by unfold nxt; rw [if_pos (by omega)]
    rw [show m + 1 + g = (m + g) + 1 by omega]
    rw [unt1, e, scan_on g m (k + 1) (by omega), show k + 1 + m = k + (m + 1) by omega, scan1]
    cases b k <;> cases a k <;> simp
theorem scan_same {e e' : Bool} : ∀ (m k : Nat), ((∀ j, k ≤ j → j < k + m → b j = false ∧ a j = true) → e = e') → scan a b e m k = scan a b e' m k
  | 0, k, h => h (fun j _ _ => by omega)
  | m + 1, k, h => by
    unfold scan
    cases hb : b k with
    | true => simp
    | false =>
      cases ha : a k with
      | false => simp
      | true =>
        simp only [Bool.true_and, Bool.false_or]
        exact scan_same m (k + 1) (fun hj => h (fun j h1 h2 => by
          by_cases hk : j = k
          · subst hk; exact ⟨hb, ha⟩
          · exact hj j (by omega) (by omega)))
theorem scan_none {e : Bool} : ∀ (m k : Nat), (∀ j, k ≤ j → j < k + m → b j = false ∧ a j = true) → scan a b e m k = e
  | 0, _, _ => rfl
  | m + 1, k, h => by
    unfold scan
    rw [(h k (by omega) (by omega)).1, (h k (by omega) (by omega)).2, scan_none m (k + 1) (fun j h1 h2 => h j (by omega) (by omega))]
    rfl
theorem scan_app {e : Bool} : ∀ (m m' k : Nat), scan a b e (m + m') k = scan a b (scan a b e m' (k + m)) m k
  | 0, m', k => by simp [scan]
  | m + 1, m', k => by
    rw [show m + 1 + m' = (m + m') + 1 by omega]
    unfold scan
    rw [scan_app m m' (k + 1), show k + 1 + m = k + (m + 1) by omega]
theorem unt_none (hl : loop < n) (hall : ∀ j, loop ≤ j → j < n → b j = false ∧ a j = true) : ∀ (f k : Nat), loop ≤ k → k < n → unt n loop a b wk f k = wk
  | 0, k, h1, h2 => by unfold unt; rw [(hall k h1 h2).1]; rfl
  | f + 1, k, h1, h2 => by
    unfold unt
    rw [(hall k h1 h2).1, (hall k h1 h2).2]
    simp only [Bool.not_false, Bool.and_self, if_true]
    refine unt_none hl hall f _ ?_ ?_ <;> unfold nxt <;> split <;> omega
/-- Going back over the list twice settles it. -/
theorem unt_scan (hl : loop < n) {i : Nat} (hi : i < n) : unt n loop a b wk n i = scan a b (scan a b wk (n - loop) loop) (n - i) i := by
  have h1 := scan_wrap (n := n) (loop := loop) (a := a) (b := b) (wk := wk) i (n - i - 1) i (by omega)
  rw [show n - i - 1 + 1 + i = n by omega, show n - i - 1 + 1 = n - i by omega] at h1
  rw [h1]
  refine scan_same _ _ (fun hall => ?_)
  by_cases hil : i ≤ loop
  · rw [unt_none hl (fun j h1 h2 => hall j (by omega) (by omega)) i loop (Nat.le_refl _) hl, scan_none _ _ (fun j h1 h2 => hall j (by omega) (by omega))]
  · have h2 := scan_on (n := n) (loop := loop) (a := a) (b := b) (wk := wk) loop (i - loop) loop (by omega)
    rw [show i - loop + loop = i by omega, show loop + (i - loop) = i by omega] at h2
    have h3 := scan_app (a := a) (b := b) (e := wk) (i - loop) (n - i) loop
    rw [show i - loop + (n - i) = n - loop by omega, show loop + (i - loop) = i by omega] at h3
    rw [h2, h3]
    refine scan_same _ _ (fun hl2 => ?_)
    have hA : ∀ j, loop ≤ j → j < n → b j = false ∧ a j = true := fun j h1 h2 => by
      by_cases hj : j < i
      · exact hl2 j h1 (by omega)
      · exact hall j (by omega) (by omega)
    rw [unt_none hl hA loop i (by omega) hi, scan_none _ _ (fun j h1 h2 => hA j (by omega) (by omega))]
/-- What is so now and next. -/
theorem unt_step (hl : loop < n) {i : Nat} (hi : i < n) : unt n loop a b wk n i = (b i || (a i && unt n loop a b wk n (nxt n loop i))) := by
  rw [unt_scan hl hi]
  obtain ⟨m, hm⟩ : ∃ m, n - i = m + 1 := ⟨n - i - 1, by omega⟩
  rw [hm]
  conv => lhs; unfold scan
  unfold nxt
  split
  · rw [unt_scan hl (i := i + 1) (by omega), show n - (i + 1) = m by omega]
  · have : m = 0 := by omega
    subst this
    rw [unt_scan hl hl]
    have : scan a b (scan a b wk (n - loop) loop) (n - loop) loop = scan a b wk (n - loop) loop := by
      refine scan_same _ _ (fun hall => scan_none _ _ hall)
    rw [this]
    rfl
end
end Go.Proofs.YtgoebckimmofoaaGreatDoor

/- Marks on a row of places, going back over it. Our own text: no walk in it. -/
namespace Go.Proofs.YtgoebckimmofoaaGreatDoor
open Go.RowKit Go.Lib

abbrev Pl := Nat × Nat
/-- Backward over the places: here and next tell whether it holds here. -/
def backP (h : Nat → Nat → Nat → Nat → Bool) (n : Nat) : List Pl → Pl → List Pl
  | [], _ => []
  | p :: r, nx => (p.1, setB p.2 n (h p.1 p.2 ((backP h n r nx).headD nx).1 ((backP h n r nx).headD nx).2)) :: backP h n r nx
theorem backP_len (h : Nat → Nat → Nat → Nat → Bool) (n : Nat) (nx : Pl) : ∀ r, (backP h n r nx).length = r.length
  | [] => rfl
  | _ :: r => by simp [backP, backP_len h n nx r]
def pl (P : List Pl) (i : Nat) : Pl := P.getD i (0, 0)
theorem backP_get (h : Nat → Nat → Nat → Nat → Bool) (n : Nat) (nx : Pl) : ∀ (r : List Pl) (i : Nat), i < r.length →
    pl (backP h n r nx) i = ((pl r i).1, setB (pl r i).2 n (h (pl r i).1 (pl r i).2 ((backP h n r nx).getD (i + 1) nx).1 ((backP h n r nx).getD (i + 1) nx).2))
  | p :: r, 0, _ => by
    have e : ((backP h n (p :: r) nx).getD (0 + 1) nx) = (backP h n r nx).headD nx := by
      show ((_ :: backP h n r nx).getD (0 + 1) nx) = _
      cases backP h n r nx <;> simp
    rw [e]
    simp [pl, backP]
  | p :: r, i + 1, hi => by
    have := backP_get h n nx r i (by simpa using hi)
    simpa [pl, backP] using this
def mark1 (n : Nat) (P : List Pl) (loop : Nat) (e : Bool) : List Pl := P.set loop ((pl P loop).1, setB (pl P loop).2 n e)
def rndP (h : Nat → Nat → Nat → Nat → Bool) (n : Nat) (P : List Pl) (loop : Nat) : List Pl := backP h n P (pl P loop)
def markP (p : Pt) (n : Nat) (P : List Pl) (loop : Nat) : List Pl := rndP p.h n (rndP p.h n (mark1 n P loop p.e) loop) loop
def marksP : List Pt → Nat → List Pl → Nat → List Pl
  | [], _, P, _ => P
  | p :: ps, n, P, loop => marksP ps (n + 1) (markP p n P loop) loop
/-- The same but for one bit. -/
structure Off (n : Nat) (P Q : List Pl) : Prop where
  len : Q.length = P.length
  st : ∀ i, i < P.length → (pl Q i).1 = (pl P i).1
  lt : ∀ i, i < P.length → (pl Q i).2 < 256
  bit : ∀ i, i < P.length → ∀ j, j ≠ n → (pl Q i).2.testBit j = (pl P i).2.testBit j
theorem Off.trans {n : Nat} {P Q R : List Pl} (h : Off n P Q) (k : Off n Q R) : Off n P R :=
  ⟨k.len.trans h.len, fun i hi => (k.st i (by rw [h.len]; exact hi)).trans (h.st i hi), fun i hi => k.lt i (by rw [h.len]; exact hi), fun i hi j hj => (k.bit i (by rw [h.len]; exact hi) j hj).trans (h.bit i hi j hj)⟩
theorem off_back {n : Nat} (hn : n < 8) (h : Nat → Nat → Nat → Nat → Bool) (nx : Pl) {P : List Pl} (hl : ∀ i, i < P.length → (pl P i).2 < 256) : Off n P (backP h n P nx) := by
  refine ⟨backP_len _ _ _ _, fun i hi => ?_, fun i hi => ?_, fun i hi j hj => ?_⟩
  · rw [backP_get _ _ _ _ _ hi]
  · rw [backP_get _ _ _ _ _ hi]; exact setB_lt (hl i hi) hn _
  · rw [backP_get _ _ _ _ _ hi]
    show (setB _ _ _).testBit j = _
    rw [setB_bit (hl i hi) hn, if_neg hj]
theorem pl_set (P : List Pl) (k i : Nat) (v : Pl) (hk : k < P.length) : pl (P.set k v) i = if i = k then v else pl P i := by
  unfold pl
  rw [List.getD_eq_getElem?_getD, List.getD_eq_getElem?_getD, List.getElem?_set]
  by_cases h : k = i
  · subst h; simp [hk]
  · rw [if_neg h, if_neg (fun e => h e.symm)]
theorem off_mark1 {n loop : Nat} (hn : n < 8) {P : List Pl} (hl : ∀ i, i < P.length → (pl P i).2 < 256) (hlo : loop < P.length) (e : Bool) : Off n P (mark1 n P loop e) := by
  unfold mark1
  refine ⟨by simp, fun i hi => ?_, fun i hi => ?_, fun i hi j hj => ?_⟩
  · rw [pl_set _ _ _ _ hlo]; split
    · next h => rw [h]
    · rfl
  · rw [pl_set _ _ _ _ hlo]; split
    · exact setB_lt (hl loop hlo) hn _
    · exact hl i hi
  · rw [pl_set _ _ _ _ hlo]; split
    · next h => rw [setB_bit (hl loop hlo) hn, if_neg hj, h]
    · rfl
/-- It hangs on the bits below n alone. -/
def Dep (n : Nat) (g : G) : Prop := ∀ x b b', (∀ j, j < n → b.testBit j = b'.testBit j) → g x b = g x b'
theorem Dep.mono {n m : Nat} {g : G} (h : Dep n g) (hm : n ≤ m) : Dep m g := fun x b b' hb => h x b b' (fun j hj => hb j (by omega))
theorem Off.g {n : Nat} {P Q : List Pl} (h : Off n P Q) {g : G} (hg : Dep n g) {i : Nat} (hi : i < P.length) : g (pl Q i).1 (pl Q i).2 = g (pl P i).1 (pl P i).2 := by
  rw [h.st i hi]
  exact hg _ _ _ (fun j hj => h.bit i hi j (by omega))
section
variable {n loop : Nat} {P : List Pl} {f g : G}
theorem mark_off (hn : n < 8) (hl : ∀ i, i < P.length → (pl P i).2 < 256) (hlo : loop < P.length) (p : Pt) : Off n P (markP p n P loop) := by
  have h1 := off_mark1 hn hl hlo p.e
  have h2 : Off n (mark1 n P loop p.e) (rndP p.h n (mark1 n P loop p.e) loop) := off_back hn _ _ (fun i hi => h1.lt i (by rw [← h1.len]; exact hi))
  have h3 : Off n (rndP p.h n (mark1 n P loop p.e) loop) (markP p n P loop) := off_back hn _ _ (fun i hi => h2.lt i (by rw [← h2.len]; exact hi))
  exact (h1.trans h2).trans h3
theorem pl_D (Q : List Pl) (i : Nat) (z : Pl) (h : i < Q.length) : Q.getD i z = pl Q i := by
  unfold pl; simp [List.getD_eq_getElem?_getD, h]
theorem D_end (Q : List Pl) (i : Nat) (z : Pl) (h : Q.length ≤ i) : Q.getD i z = z := by
  simp [List.getD_eq_getElem?_getD, List.getElem?_eq_none h]
/-- Backward, what is put off. -/
theorem back_scan (hn : n < 8) (hl : ∀ i, i < P.length → (pl P i).2 < 256) (nx : Pl) {h : Nat → Nat → Nat → Nat → Bool} (hh : ∀ x b x' b', h x b x' b' = (g x b || (f x b && b'.testBit n))) : ∀ (m i : Nat), i + m = P.length →
    ((backP h n P nx).getD i nx).2.testBit n = scan (fun i => f (pl P i).1 (pl P i).2) (fun i => g (pl P i).1 (pl P i).2) (nx.2.testBit n) m i
  | 0, i, hi => by rw [D_end _ _ _ (by rw [backP_len]; omega)]; rfl
  | m + 1, i, hi => by
    have ih := back_scan hn hl nx hh m (i + 1) (by omega)
    rw [pl_D _ _ _ (by rw [backP_len]; omega), backP_get _ _ _ _ _ (by omega), scan1, ← ih]
    show (setB _ _ _).testBit n = _
    rw [setB_bit (hl i (by omega)) hn, if_pos rfl, hh]
theorem mark_putOff (hn : n < 8) (hl : ∀ i, i < P.length → (pl P i).2 < 256) (hlo : loop < P.length) (hf : Dep n f) (hg : Dep n g) {p : Pt} (hh : ∀ x b x' b', p.h x b x' b' = (g x b || (f x b && b'.testBit n))) {i : Nat} (hi : i < P.length) :
    (pl (markP p n P loop) i).2.testBit n = unt P.length loop (fun i => f (pl P i).1 (pl P i).2) (fun i => g (pl P i).1 (pl P i).2) p.e P.length i := by
  have h1 := off_mark1 hn hl hlo p.e
  have hl1 : ∀ i, i < (mark1 n P loop p.e).length → (pl (mark1 n P loop p.e) i).2 < 256 := fun i hi => h1.lt i (by rw [← h1.len]; exact hi)
  have h2 : Off n (mark1 n P loop p.e) (rndP p.h n (mark1 n P loop p.e) loop) := off_back hn _ _ hl1
  have hl2 : ∀ i, i < (rndP p.h n (mark1 n P loop p.e) loop).length → (pl (rndP p.h n (mark1 n P loop p.e) loop) i).2 < 256 := fun i hi => h2.lt i (by rw [← h2.len]; exact hi)
  have h12 := h1.trans h2
  have hscan : ∀ {Q : List Pl}, Off n P Q → ∀ (e : Bool) (m k : Nat), k + m ≤ P.length → scan (fun i => f (pl Q i).1 (pl Q i).2) (fun i => g (pl Q i).1 (pl Q i).2) e m k = scan (fun i => f (pl P i).1 (pl P i).2) (fun i => g (pl P i).1 (pl P i).2) e m k := by
    intro Q hQ e m
    induction m with
    | zero => intro k _; rfl
    | succ m ih => intro k hk; rw [scan1, scan1, ih (k + 1) (by omega), hQ.g hf (by omega), hQ.g hg (by omega)]
  have e0 : (pl (mark1 n P loop p.e) loop).2.testBit n = p.e := by
    unfold mark1
    rw [pl_set _ _ _ _ hlo, if_pos rfl]
    show (setB _ _ _).testBit n = _
    rw [setB_bit (hl loop hlo) hn, if_pos rfl]
  have e1 : (pl (rndP p.h n (mark1 n P loop p.e) loop) loop).2.testBit n = scan (fun i => f (pl P i).1 (pl P i).2) (fun i => g (pl P i).1 (pl P i).2) p.e (P.length - loop) loop := by
    have := back_scan hn hl1 (pl (mark1 n P loop p.e) loop) hh (P.length - loop) loop (by rw [h1.len]; omega)
    rw [pl_D _ _ _ (by rw [backP_len, h1.len]; exact hlo), e0, hscan h1 _ _ _ (by omega)] at this
    exact this
  rw [unt_scan hlo hi]
  have := back_scan hn hl2 (pl (rndP p.h n (mark1 n P loop p.e) loop) loop) hh (P.length - i) i (by rw [h12.len]; omega)
  rw [pl_D _ _ _ (by rw [backP_len, h12.len]; exact hi), e1, hscan h12 _ _ _ (by omega)] at this
  exact this
theorem mark_next (hn : n < 8) (hl : ∀ i, i < P.length → (pl P i).2 < 256) (hlo : loop < P.length) (hg : Dep n g) {p : Pt} (hh : ∀ x b x' b', p.h x b x' b' = g x' b') {i : Nat} (hi : i < P.length) :
    (pl (markP p n P loop) i).2.testBit n = g (pl P (nxt P.length loop i)).1 (pl P (nxt P.length loop i)).2 := by
  have h1 := off_mark1 hn hl hlo p.e
  have hl1 : ∀ i, i < (mark1 n P loop p.e).length → (pl (mark1 n P loop p.e) i).2 < 256 := fun i hi => h1.lt i (by rw [← h1.len]; exact hi)
  have h2 : Off n (mark1 n P loop p.e) (rndP p.h n (mark1 n P loop p.e) loop) := off_back hn _ _ hl1
  have hl2 : ∀ i, i < (rndP p.h n (mark1 n P loop p.e) loop).length → (pl (rndP p.h n (mark1 n P loop p.e) loop) i).2 < 256 := fun i hi => h2.lt i (by rw [← h2.len]; exact hi)
  have h12 := h1.trans h2
  have h123 := mark_off hn hl hlo p
  have e : pl (markP p n P loop) i = _ := backP_get p.h n (pl (rndP p.h n (mark1 n P loop p.e) loop) loop) (rndP p.h n (mark1 n P loop p.e) loop) i (by rw [h12.len]; exact hi)
  rw [e]
  show (setB _ _ _).testBit n = _
  rw [setB_bit (hl2 i (by rw [h12.len]; exact hi)) hn, if_pos rfl, hh]
  unfold nxt
  split
  · next hlt =>
    rw [pl_D _ _ _ (by rw [backP_len, h12.len]; exact hlt)]
    exact h123.g hg hlt
  · next hlt =>
    rw [D_end _ _ _ (by rw [backP_len, h12.len]; omega)]
    exact h12.g hg hlo
end
end Go.Proofs.YtgoebckimmofoaaGreatDoor

/- Places in memory; going back over them. Our own text. -/
namespace Go.Proofs.YtgoebckimmofoaaGreatDoor
open Go.RowKit Go.Shelf Go.Lib
attribute [local go_sem] Oper.semAt_some

def plCells (P : List Pl) : List Value := P.flatMap (fun p => [.int .u8 (p.1 : Nat), .int .u8 (p.2 : Nat)])
theorem plCells_at : ∀ (P : List Pl) (i : Nat), i < P.length → (plCells P)[i * 2]? = some (.int .u8 ((pl P i).1 : Nat)) ∧ (plCells P)[i * 2 + 1]? = some (.int .u8 ((pl P i).2 : Nat))
  | p :: P, 0, _ => by simp [plCells, pl]
  | p :: P, i + 1, h => by
    have := plCells_at P i (by simpa using h)
    have e : plCells (p :: P) = .int .u8 (p.1 : Nat) :: .int .u8 (p.2 : Nat) :: plCells P := rfl
    rw [e, show (i + 1) * 2 = i * 2 + 1 + 1 by omega]
    simpa [pl] using this
theorem plCells_set : ∀ (P : List Pl) (i b : Nat), i < P.length → (plCells P).set (i * 2 + 1) (.int .u8 (b : Nat)) = plCells (P.set i ((pl P i).1, b))
  | p :: P, 0, b, _ => by simp [plCells, pl]
  | p :: P, i + 1, b, h => by
    have := plCells_set P i b (by simpa using h)
    have e : plCells (p :: P) = .int .u8 (p.1 : Nat) :: .int .u8 (p.2 : Nat) :: plCells P := rfl
    rw [e, show (i + 1) * 2 + 1 = (i * 2 + 1) + 1 + 1 by omega]
    have e2 : plCells ((p :: P).set (i + 1) ((pl (p :: P) (i + 1)).1, b)) = .int .u8 (p.1 : Nat) :: .int .u8 (p.2 : Nat) :: plCells (P.set i ((pl P i).1, b)) := rfl
    rw [e2, ← this]; rfl
/-- A row of places fills a block. -/
def RowP (g : Nat) (Q : List Pl) (W : World) : Prop := W.heap[g]? = some (.cells (plCells Q).toArray 157 (0, 0))
section
variable {g i : Nat} {Q P : List Pl} {W W' : World}
theorem RowP.cell0 (h : RowP g Q W) (hi : i < Q.length) : W.cell? ⟨g, i * 2, none⟩ = some (.int .u8 ((pl Q i).1 : Nat)) := by
  unfold RowP at h
  simp [World.cell?, h, (plCells_at Q i hi).1]
theorem RowP.cell1 (h : RowP g Q W) (hi : i < Q.length) : W.cell? ⟨g, i * 2 + 1, none⟩ = some (.int .u8 ((pl Q i).2 : Nat)) := by
  unfold RowP at h
  simp [World.cell?, h, (plCells_at Q i hi).2]
theorem RowP.free (h : RowP g Q W) (k : Nat) : W.frozen? ⟨g, k, none⟩ = false := by
  unfold RowP at h
  simp [World.frozen?, h]
theorem RowP.lt (h : RowP g Q W) : g < W.heap.size := lt_of_block h
theorem RowP.set (h : RowP g Q W) (hi : i < Q.length) (b : Nat) : RowP g (Q.set i ((pl Q i).1, b)) (W.setCell ⟨g, i * 2 + 1, none⟩ (.int .u8 (b : Nat))) := by
  have := heap_setCell_same W g (i * 2 + 1) (plCells Q).toArray 157 (.int .u8 (b : Nat)) h
  unfold RowP
  rw [this]
  congr 2
  rw [List.setIfInBounds_toArray, plCells_set Q i b hi]
theorem RowP.move (h : RowP g Q W) (e : W'.heap[g]? = W.heap[g]?) : RowP g Q W' := e.trans h
end
theorem box_cellP {b : Nat} {W : World} {v : Value} {t : TypeId} (h : W.heap[b]? = some (.cells #[v] t (0, 0))) : W.cell? ⟨b, 0, none⟩ = some v := by simp [World.cell?, h]
/-- What is handed in at a place: but for bit n it is P's. -/
def El (n : Nat) (P : List Pl) : Type := { e : Nat × Nat // e.1 < P.length ∧ e.2 < 256 ∧ ∀ j, j ≠ n → e.2.testBit j = (pl P e.1).2.testBit j }
def El.args {n : Nat} {P : List Pl} (e : El n P) : Array Value := #[.int .i64 (e.val.1 : Nat), .agg #[.int .u8 ((pl P e.val.1).1 : Nat), .int .u8 (e.val.2 : Nat)]]
/-- The row, but for bit n P's, and the box of the iterator. -/
def Sh (bs g n : Nat) (P : List Pl) (W : World) : Prop := (∃ Q, Off n P Q ∧ RowP g Q W) ∧ W.heap[bs]? = some (.cells #[.slice (some ⟨g, 0, none⟩) P.length P.length] 129 (0, 0))
def KpB (n₀ bs g n : Nat) (P : List Pl) (W W' : World) : Prop := Below n₀ W W' ∧ (Sh bs g n P W → Sh bs g n P W')
def downOf (v : Value) : Nat := match v with
  | .int _ z => (z + 1).toNat
  | _ => 0
theorem backward_any (v : Value) (hv : v.oneCell' = true) (w : World) : Calls Tryz.prog 104 #[v] w fun e w' => e = .returned (.func (.func 147) #[] #[.pointer (some ⟨w.heap.size, 0, none⟩)]) ∧ w' = w.alloc (.cells #[v] 129) := by
  have hmf : ∀ (fn : Fn) (first cap : Array Value) (w : World), (Instr.makeFunc fn first cap).run Tryz.prog w = .ok (.func fn first cap) w := fun _ _ _ _ => rfl
  go_enter Tryz.func104, Tryz.ntmps104
  go_wp2
  go_ret
  exact ⟨rfl, rfl⟩
set_option maxRecDepth 100000 in
set_option maxHeartbeats 1000000 in
theorem back_in (k : Nat) (hk : 1 ≤ k) (l bs g n n₀ : Nat) (P : List Pl) (hP : P.length ≤ 7000) (J Jx : List (El n P) → World → Prop)
    (hY : ∀ pre (x : El n P) W, J pre W → pre.length < P.length → YieldAt Fence.wide (k - 1) Tryz.prog l x.args W fun e W' =>
      (e = .returned (.bool true) ∧ J (pre ++ [x]) W' ∧ KpB n₀ bs g n P W W') ∨ (e = .returned (.bool false) ∧ Jx (pre ++ [x]) W'))
    (W : World) (hS : Sh bs g n P W) (hJ0 : J [] W) :
    CallsIn Fence.wide k Tryz.prog 147 #[.func (.yield l) #[] #[], .pointer (some ⟨bs, 0, none⟩)] W fun e W' => (∃ v, e = .returned v) ∧
      ((∃ ys : List (El n P), ys.map (fun e => e.val.1) = (List.range P.length).reverse ∧ J ys W') ∨ (∃ pre, True ∧ Jx pre W')) := by
  have cB := box_cellP hS.2
  refine callsIn_of_wp Tryz.func147 rfl trivial ?_ rfl
  simp only [Tryz.ntmps147, List.size_toArray, List.length_cons, List.length_nil, Nat.reduceAdd, Nat.reduceSub, Array.replicate_succ, Array.replicate_zero, List.push_toArray, List.append_toArray, List.nil_append, List.cons_append]
  have hwr : wrap64 ((P.length : Int) - 1) = (P.length : Int) - 1 := by unfold wrap64; omega
  have HS : Put (_) := ⟨hS⟩
  clear hS
  gi_wp2
  gi_loopw [3] (fun p wr => ∃ (pre : List (El n P)) (j : Nat), p = .int .i64 ((j : Int) - 1) ∧ j + pre.length = P.length ∧ Put (pre.map (fun e => e.val.1) ++ (List.range j).reverse = (List.range P.length).reverse) ∧ Put (Sh bs g n P wr) ∧ J pre wr)
    (fun p _ => downOf p)
  case atStart =>
    exact ⟨[], P.length, rfl, by simp, ⟨by simp⟩, HS, hJ0⟩
  case round =>
    obtain ⟨pre, j, rfl, hjl, hxs, HSr, hJr⟩ := hrel
    cases j with
    | zero =>
      gi_wp2
      go_end0
      exact ⟨⟨_, rfl⟩, .inl ⟨pre, by have := hxs.out; simpa using this, hJr⟩⟩
    | succ j =>
      obtain ⟨⟨Q, hoff, hrow⟩, hbx⟩ := HSr.out
      have hjP : j < P.length := by omega
      have hjQ : j < Q.length := by rw [hoff.len]; exact hjP
      have c0 := hrow.cell0 hjQ
      have c1 := hrow.cell1 hjQ
      rw [hoff.st j hjP] at c0
      have cb := box_cellP hbx
      obtain ⟨x, hx⟩ : ∃ x : El n P, x.val = (j, (pl Q j).2) := ⟨⟨(j, (pl Q j).2), hjP, hoff.lt j hjP, fun i hi => hoff.bit j hjP i hi⟩, rfl⟩
      have hxa : x.args = #[.int .i64 (j : Nat), .agg #[.int .u8 ((pl P j).1 : Nat), .int .u8 ((pl Q j).2 : Nat)]] := by unfold El.args; rw [hx]
      have hY1 := hY pre x wr hJr (by omega)
      rw [hxa] at hY1
      obtain ⟨fn, tmps, assign, body, hy, hR⟩ := hY1
      have HR : Put (_) := ⟨hR⟩
      have HX : Put ((pre ++ [x]).map (fun e => e.val.1) ++ (List.range j).reverse = (List.range P.length).reverse) := ⟨by
        rw [← hxs.out, List.map_append, List.append_assoc]
        congr 1
        rw [List.range_succ, List.reverse_append]
        simp [hx]⟩
      have HO : Put (_) := ⟨HSr.out⟩
      clear hoff hrow hbx hxs HSr hxa hx hR
      have e1 : ((j + 1 : Nat) : Int) - 1 = (j : Int) := by omega
      have i0 : (0 : Int) ≤ (j : Int) := by omega
      have i1 : (j : Int) < (P.length : Int) := by omega
      rw [e1]
      generalize (pl P j).1 = xa at *
      generalize (pl Q j).2 = xb at *
      gi_wp2
      refine HR.out.mono ?_
      rintro e W3 (⟨rfl, hJ3, hk3⟩ | ⟨rfl, hJx3⟩)
      · gi_wp2
        go_roundw
        case rel => exact ⟨pre ++ [x], j, rfl, by simp; omega, HX, ⟨hk3.2 HO.out⟩, hJ3⟩
        case measure =>
          show (((j : Int) - 1) + 1).toNat < ((j : Int) + 1).toNat
          omega
      · gi_wp2
        refine bodyPost_ret (results_none rfl _ _ _) rfl ?_
        exact ⟨⟨_, rfl⟩, .inr ⟨_, trivial, hJx3⟩⟩
end Go.Proofs.YtgoebckimmofoaaGreatDoor

/- A part's marks on a row of places. Our own text. -/
namespace Go.Proofs.YtgoebckimmofoaaGreatDoor
open Go.RowKit Go.Shelf Go.Lib
attribute [local go_sem] Oper.semAt_some
section
variable {n : Nat} {P : List Pl}
/-- One round of going back. -/
def stepE (h : Nat → Nat → Nat → Nat → Bool) (s : List Pl × Pl) (e : El n P) : List Pl × Pl :=
  (s.1.set e.val.1 ((pl s.1 e.val.1).1, setB (pl s.1 e.val.1).2 n (h (pl P e.val.1).1 e.val.2 s.2.1 s.2.2)), ((pl s.1 e.val.1).1, setB (pl s.1 e.val.1).2 n (h (pl P e.val.1).1 e.val.2 s.2.1 s.2.2)))
def foldE (h : Nat → Nat → Nat → Nat → Bool) (nx : Pl) (pre : List (El n P)) : List Pl × Pl := pre.foldl (stepE h) (P, nx)
theorem foldE_snoc (h : Nat → Nat → Nat → Nat → Bool) (nx : Pl) (pre : List (El n P)) (e : El n P) : foldE h nx (pre ++ [e]) = stepE h (foldE h nx pre) e := by
  unfold foldE; rw [List.foldl_append]; rfl
/-- Good places: states below 64, eight bits. -/
def OkP (P : List Pl) : Prop := ∀ i, i < P.length → (pl P i).1 < 64 ∧ (pl P i).2 < 256
theorem Off.refl (hP : OkP P) : Off n P P := ⟨rfl, fun _ _ => rfl, fun i hi => (hP i hi).2, fun _ _ _ _ => rfl⟩
theorem stepE_ok (hn : n < 8) (hP : OkP P) (h : Nat → Nat → Nat → Nat → Bool) {s : List Pl × Pl} (e : El n P) (h1 : Off n P s.1) : Off n P (stepE h s e).1 ∧ (stepE h s e).2.1 < 64 ∧ (stepE h s e).2.2 < 256 := by
  have he := e.property.1
  have hl : e.val.1 < s.1.length := by rw [h1.len]; exact he
  have hlt := h1.lt e.val.1 he
  refine ⟨⟨by unfold stepE; simp [h1.len], fun i hi => ?_, fun i hi => ?_, fun i hi j hj => ?_⟩, ?_, setB_lt hlt hn _⟩
  · unfold stepE
    rw [pl_set _ _ _ _ hl]
    split
    · next e' => subst e'; exact h1.st _ hi
    · exact h1.st i hi
  · unfold stepE
    rw [pl_set _ _ _ _ hl]
    split
    · exact setB_lt hlt hn _
    · exact h1.lt i hi
  · unfold stepE
    rw [pl_set _ _ _ _ hl]
    split
    · next e' =>
      subst e'
      show (setB _ _ _).testBit j = _
      rw [setB_bit hlt hn, if_neg hj]
      exact h1.bit _ hi j hj
    · exact h1.bit i hi j hj
  · show (pl s.1 e.val.1).1 < 64
    rw [h1.st _ he]; exact (hP _ he).1
theorem foldE_ok (hn : n < 8) (hP : OkP P) (h : Nat → Nat → Nat → Nat → Bool) {nx : Pl} (hx : nx.1 < 64 ∧ nx.2 < 256) : ∀ (pre : List (El n P)) (s : List Pl × Pl), Off n P s.1 → s.2.1 < 64 ∧ s.2.2 < 256 → Off n P (pre.foldl (stepE h) s).1 ∧ (pre.foldl (stepE h) s).2.1 < 64 ∧ (pre.foldl (stepE h) s).2.2 < 256
  | [], s, h1, h2 => ⟨h1, h2⟩
  | e :: pre, s, h1, h2 => by
    have := stepE_ok hn hP h e h1
    exact foldE_ok hn hP h hx pre _ this.1 this.2
/-- Whatever was handed in, going back over all places is going back. -/
theorem foldE_back (h : Nat → Nat → Nat → Nat → Bool) (hd : ∀ x b b2 x' b', (∀ j, j ≠ n → b.testBit j = b2.testBit j) → h x b x' b' = h x b2 x' b') (nx : Pl) : ∀ (j : Nat) (ys : List (El n P)) (s : List Pl × Pl), j ≤ P.length →
    ys.map (fun e => e.val.1) = (List.range j).reverse → s = (P.take j ++ backP h n (P.drop j) nx, (backP h n (P.drop j) nx).headD nx) → (ys.foldl (stepE h) s).1 = backP h n P nx
  | 0, ys, s, _, hy, hs => by
    have : ys = [] := by simpa using hy
    subst this
    rw [hs]; simp
  | j + 1, ys, s, hj, hy, hs => by
    rw [List.range_succ, List.reverse_append] at hy
    cases ys with
    | nil => simp at hy
    | cons e ys =>
      simp only [List.map_cons, List.reverse_cons, List.reverse_nil, List.nil_append, List.singleton_append, List.cons.injEq] at hy
      obtain ⟨he, hy⟩ := hy
      rw [List.foldl_cons]
      refine foldE_back h hd nx j ys _ (by omega) hy ?_
      have hjl : j < P.length := by omega
      have hdrop : P.drop j = pl P j :: P.drop (j + 1) := by
        rw [List.drop_eq_getElem_cons hjl]
        congr 1
        unfold pl; simp [hjl]
      have hb : h (pl P j).1 e.val.2 = h (pl P j).1 (pl P j).2 := by
        funext x' b'
        refine hd _ _ _ _ _ (fun i hi => ?_)
        have := e.property.2.2 i hi
        rw [he] at this; exact this
      have hpl : pl s.1 j = pl P j := by
        rw [hs]
        unfold pl
        simp only [List.getD_eq_getElem?_getD]
        rw [List.getElem?_append_left (by simp; omega), List.getElem?_take_of_lt (by omega)]
      have hnx : s.2 = (backP h n (P.drop (j + 1)) nx).headD nx := by rw [hs]
      have hset : s.1.set j ((pl P j).1, setB (pl P j).2 n (h (pl P j).1 (pl P j).2 s.2.1 s.2.2)) = P.take j ++ backP h n (P.drop j) nx := by
        rw [hdrop]
        show _ = P.take j ++ (((pl P j).1, setB (pl P j).2 n (h (pl P j).1 (pl P j).2 ((backP h n (P.drop (j + 1)) nx).headD nx).1 ((backP h n (P.drop (j + 1)) nx).headD nx).2)) :: backP h n (P.drop (j + 1)) nx)
        rw [← hnx, hs]
        have ht : P.take (j + 1) = P.take j ++ [pl P j] := by
          rw [List.take_succ_eq_append_getElem hjl]
          congr 2
          unfold pl; simp [hjl]
        simp only [ht, List.append_assoc, List.singleton_append]
        rw [List.set_append_right _ _ (by simp; omega)]
        have : j - (P.take j).length = 0 := by simp; omega
        rw [this]; rfl
      unfold stepE
      rw [he, hpl, hb, hset]
      congr 1
      rw [hdrop]
      show _ = ((pl P j).1, setB (pl P j).2 n (h (pl P j).1 (pl P j).2 ((backP h n (P.drop (j + 1)) nx).headD nx).1 ((backP h n (P.drop (j + 1)) nx).headD nx).2))
      rw [← hnx]
end
end Go.Proofs.YtgoebckimmofoaaGreatDoor

/- Formulas as function values: what stays, what they mean. Our own text. -/
namespace Go.Proofs.YtgoebckimmofoaaGreatDoor
open Go.RowKit Go.Lib

/-- What may change while formulas are read and asked: blocks of soft types, and boxes that were empty. -/
def KP (w w' : World) : Prop := ∀ N, Kp N w w'
section
variable {w w' w2 W : World}
theorem KP.refl (w : World) : KP w w := fun _ => Kp.refl _ _
theorem KP.trans (h : KP w w') (k : KP w' w2) : KP w w2 := fun N => (h N).trans (k N)
theorem KP.size (h : KP w w') : w.heap.size ≤ w'.heap.size := (h 0).size
theorem KP.of_below (h : Below w.heap.size w w') : KP w w' := fun _ => Kp.of_below h
theorem KP.of_ex {B : Nat} {cs : Array Value} {ty : TypeId} {fz : Nat × Nat} (h : Ex B w w') (hB : w.heap[B]? = some (.cells cs ty fz)) (hs : soft ty = true) : KP w w' := fun _ => Kp.of_ex h hB hs
theorem KP.alloc (w : World) (o : Obj) : KP w (w.alloc o) := fun _ => Kp.alloc _ _ _
theorem KP.grown {e size n base : Nat} {v : Value} {xs : List Value} (ho : w.ownsRow base e size v n xs) (he : soft e = true) (g : w.grownBy w' v.ownBlock) : KP w w' := fun _ => Kp.grown ho (.inl he) g
theorem KP.softSet {cs : Array Value} {ty : TypeId} {fz : Nat × Nat} {p : Addr} (hB : w.heap[p.block]? = some (.cells cs ty fz)) (hs : soft ty = true) (v : Value) : KP w (w.setCell p v) := fun _ => Kp.softSet hB hs v
theorem KP.fill {b : Nat} {t : TypeId} (v : Value) (h : w.heap[b]? = some (.cells #[Value.nilFunc] t (0, 0))) : KP w (w.setCell ⟨b, 0, none⟩ v) := fun _ => Kp.fill v h
theorem KP.box {b : Nat} {v : Value} {t : TypeId} (h : KP w W) (hb : w.heap[b]? = some (.cells #[v] t (0, 0))) (h1 : soft t = false := by decide) (hv : v ≠ .nilFunc := by simp) : W.heap[b]? = some (.cells #[v] t (0, 0)) :=
  ((h (b + 1)).keep b _ t _ hb (by simpa using hv) h1 (fun _ => Nat.lt_succ_self _)).trans hb
end
/-- A function value on a place. -/
def FnP (w : World) (v : Value) (g : G) : Prop :=
  ∃ (fn : Nat) (caps : Array Value), v = .func (.func fn) #[] caps ∧ (∀ args w, (callFunc fn args).run Tryz.prog w = .ok (.enter fn args) w) ∧
    ∀ W, KP w W → 0 < W.heap.size → Tab W → ∀ x b, x < 64 → b < 256 → Calls Tryz.prog fn (#[.agg #[.int .u8 (x : Nat), .int .u8 (b : Nat)]] ++ caps) W fun e W' => e = .returned (.bool (g x b)) ∧ Below W.heap.size W W'
theorem FnP.kp {w w' : World} {v : Value} {g : G} (h : FnP w v g) (k : KP w w') : FnP w' v g := by
  obtain ⟨fn, caps, h1, h2, h3⟩ := h
  exact ⟨fn, caps, h1, h2, fun W hW => h3 W (k.trans hW)⟩
/-- One on a place and the next. -/
def FnP2 (w : World) (v : Value) (h : Nat → Nat → Nat → Nat → Bool) : Prop :=
  ∃ (fn : Nat) (caps : Array Value), v = .func (.func fn) #[] caps ∧ (∀ args w, (callFunc fn args).run Tryz.prog w = .ok (.enter fn args) w) ∧
    ∀ W, KP w W → 0 < W.heap.size → Tab W → ∀ x b x' b', x < 64 → b < 256 → x' < 64 → b' < 256 → Calls Tryz.prog fn (#[.agg #[.int .u8 (x : Nat), .int .u8 (b : Nat)], .agg #[.int .u8 (x' : Nat), .int .u8 (b' : Nat)]] ++ caps) W fun e W' => e = .returned (.bool (h x b x' b')) ∧ Below W.heap.size W W'
theorem FnP2.kp {w w' : World} {v : Value} {h : Nat → Nat → Nat → Nat → Bool} (k : FnP2 w v h) (kp : KP w w') : FnP2 w' v h := by
  obtain ⟨fn, caps, h1, h2, h3⟩ := k
  exact ⟨fn, caps, h1, h2, fun W hW => h3 W (kp.trans hW)⟩
/-- What it answers from here on. -/
theorem FnP.at {w W : World} {f : Nat} {a : Array Value} {g : G} (h : FnP w (.func (.func f) #[] a) g) (k : KP w W) (h0 : 0 < W.heap.size) (hT : Tab W) {x b : Nat} (hx : x < 64) (hb : b < 256) :
    ∀ W2, Below W.heap.size W W2 → Calls Tryz.prog f (#[.agg #[.int .u8 (x : Nat), .int .u8 (b : Nat)]] ++ a) W2 fun e W' => e = .returned (.bool (g x b)) ∧ Below W2.heap.size W2 W' := by
  obtain ⟨fn, caps, h1, _, h3⟩ := h
  simp only [Value.func.injEq, Fn.func.injEq, true_and] at h1
  obtain ⟨rfl, rfl⟩ := h1
  intro W2 h2
  exact h3 W2 (k.trans (KP.of_below h2)) (Nat.lt_of_lt_of_le h0 h2.size) (hT.below h2 h0) x b hx hb
theorem FnP.form {w : World} {v : Value} {g : G} (h : FnP w v g) : ∃ f a, v = .func (.func f) #[] a ∧ ∀ args w, (callFunc f args).run Tryz.prog w = .ok (.enter f args) w := by
  obtain ⟨fn, caps, h1, h2, _⟩ := h
  exact ⟨fn, caps, h1, h2⟩

theorem always_any (x b : Int) (w : World) : Calls Tryz.prog 172 #[.agg #[.int .u8 x, .int .u8 b]] w fun e w' => e = .returned (.bool true) ∧ Below w.heap.size w w' := by
  go_enter Tryz.func172, Tryz.ntmps172
  go_wp2
  go_ret
  exact ⟨rfl, (Below.refl _ _).alloc (Nat.le_refl _) _⟩
theorem never_any (x b : Int) (w : World) : Calls Tryz.prog 215 #[.agg #[.int .u8 x, .int .u8 b]] w fun e w' => e = .returned (.bool false) ∧ Below w.heap.size w w' := by
  go_enter Tryz.func215, Tryz.ntmps215
  go_wp2
  go_ret
  exact ⟨rfl, (Below.refl _ _).alloc (Nat.le_refl _) _⟩
theorem always_fn (w : World) : FnP w (.func (.func 172) #[] #[]) (fun _ _ => true) :=
  ⟨_, _, rfl, enters_of Tryz.func172 (by kernel_rfl) rfl, fun W _ _ _ x b _ _ => always_any x b W⟩
theorem never_fn (w : World) : FnP w (.func (.func 215) #[] #[]) (fun _ _ => false) :=
  ⟨_, _, rfl, enters_of Tryz.func215 (by kernel_rfl) rfl, fun W _ _ _ x b _ _ => never_any x b W⟩

section
variable {w : World} {fl fr : Nat} {cl cr : Array Value} {f g : G}
theorem not1_any (bl x b : Nat) (hx : x < 64) (hb : b < 256) (W : World) (hW : KP w W) (h0 : 0 < W.heap.size) (hT : Tab W) (hg : FnP w (.func (.func fr) #[] cr) g) (b1 : W.heap[bl]? = some (.cells #[.func (.func fr) #[] cr] 78 (0, 0))) :
    Calls Tryz.prog 210 #[.agg #[.int .u8 (x : Nat), .int .u8 (b : Nat)], .pointer (some ⟨bl, 0, none⟩)] W fun e W' => e = .returned (.bool (!g x b)) ∧ Below W.heap.size W W' := by
  have c1 := box_cell b1
  have l1 := lt_of_block b1
  have HA : Put (Below W.heap.size W (W.alloc (.cells #[.int .u8 (x : Nat), .int .u8 (b : Nat)] 157))) := ⟨(Below.refl _ _).alloc (Nat.le_refl _) _⟩
  have HG : Put (_) := ⟨hg.at hW h0 hT hx hb _ HA.out⟩
  obtain ⟨_, _, e, en⟩ := hg.form
  obtain ⟨rfl, rfl⟩ : _ ∧ _ := by simpa using e
  clear hW hT hg b1 e
  generalize g x b = r at *
  go_enter Tryz.func210, Tryz.ntmps210
  go_wp2_with fail
  refine HG.out.mono ?_
  rintro e w1 ⟨rfl, hb1⟩
  go_wp2
  go_ret
  exact ⟨rfl, HA.out.trans (hb1.mono HA.out.size)⟩
theorem and1_any (bl br x b : Nat) (hx : x < 64) (hb : b < 256) (W : World) (hW : KP w W) (h0 : 0 < W.heap.size) (hT : Tab W) (hf : FnP w (.func (.func fl) #[] cl) f) (hg : FnP w (.func (.func fr) #[] cr) g) (b1 : W.heap[bl]? = some (.cells #[.func (.func fl) #[] cl] 78 (0, 0))) (b2 : W.heap[br]? = some (.cells #[.func (.func fr) #[] cr] 78 (0, 0))) :
    Calls Tryz.prog 211 #[.agg #[.int .u8 (x : Nat), .int .u8 (b : Nat)], .pointer (some ⟨bl, 0, none⟩), .pointer (some ⟨br, 0, none⟩)] W fun e W' => e = .returned (.bool (f x b && g x b)) ∧ Below W.heap.size W W' := by
  have c1 := box_cell b1
  have l1 := lt_of_block b1
  have l2 := lt_of_block b2
  have hA := heap_alloc_new W (.cells #[.int .u8 (x : Nat), .int .u8 (b : Nat)] 157)
  have HA : Put (Below W.heap.size W (W.alloc (.cells #[.int .u8 (x : Nat), .int .u8 (b : Nat)] 157))) := ⟨(Below.refl _ _).alloc (Nat.le_refl _) _⟩
  have HF : Put (_) := ⟨hf.at hW h0 hT hx hb _ HA.out⟩
  have HG : Put (_) := ⟨hg.at hW h0 hT hx hb⟩
  obtain ⟨_, _, e, en⟩ := hf.form
  obtain ⟨rfl, rfl⟩ : _ ∧ _ := by simpa using e
  obtain ⟨_, _, e', en'⟩ := hg.form
  obtain ⟨rfl, rfl⟩ : _ ∧ _ := by simpa using e'
  have B2 : Put (_) := ⟨b2⟩
  have A2 : Put (_) := ⟨hA⟩
  clear hW hT hf hg b1 b2 e e' hA
  generalize f x b = r at *
  generalize g x b = r' at *
  cases r with
  | true =>
    go_enter Tryz.func211, Tryz.ntmps211
    go_wp2_with fail
    refine HF.out.mono ?_
    rintro e w1 ⟨rfl, hb1⟩
    have hB := HA.out.trans (hb1.mono HA.out.size)
    have c2 := box_cell ((hB.block _ l2).trans B2.out)
    have p1 := (hb1.block _ (by simp)).trans A2.out
    have q0 := two_cell0 p1
    have q1 := two_cell1 p1
    have HB : Put (_) := ⟨hB⟩
    clear hb1 hB p1
    go_wp2_with fail
    refine (HG.out w1 HB.out).mono ?_
    rintro e w2 ⟨rfl, hb2⟩
    go_wp2
    go_ret
    exact ⟨rfl, HB.out.trans (hb2.mono HB.out.size)⟩
  | false =>
    go_enter Tryz.func211, Tryz.ntmps211
    go_wp2_with fail
    refine HF.out.mono ?_
    rintro e w1 ⟨rfl, hb1⟩
    go_wp2
    go_ret
    exact ⟨rfl, HA.out.trans (hb1.mono HA.out.size)⟩
theorem or1_any (bl br x b : Nat) (hx : x < 64) (hb : b < 256) (W : World) (hW : KP w W) (h0 : 0 < W.heap.size) (hT : Tab W) (hf : FnP w (.func (.func fl) #[] cl) f) (hg : FnP w (.func (.func fr) #[] cr) g) (b1 : W.heap[bl]? = some (.cells #[.func (.func fl) #[] cl] 78 (0, 0))) (b2 : W.heap[br]? = some (.cells #[.func (.func fr) #[] cr] 78 (0, 0))) :
    Calls Tryz.prog 212 #[.agg #[.int .u8 (x : Nat), .int .u8 (b : Nat)], .pointer (some ⟨bl, 0, none⟩), .pointer (some ⟨br, 0, none⟩)] W fun e W' => e = .returned (.bool (f x b || g x b)) ∧ Below W.heap.size W W' := by
  have c1 := box_cell b1
  have l1 := lt_of_block b1
  have l2 := lt_of_block b2
  have hA := heap_alloc_new W (.cells #[.int .u8 (x : Nat), .int .u8 (b : Nat)] 157)
  have HA : Put (Below W.heap.size W (W.alloc (.cells #[.int .u8 (x : Nat), .int .u8 (b : Nat)] 157))) := ⟨(Below.refl _ _).alloc (Nat.le_refl _) _⟩
  have HF : Put (_) := ⟨hf.at hW h0 hT hx hb _ HA.out⟩
  have HG : Put (_) := ⟨hg.at hW h0 hT hx hb⟩
  obtain ⟨_, _, e, en⟩ := hf.form
  obtain ⟨rfl, rfl⟩ : _ ∧ _ := by simpa using e
  obtain ⟨_, _, e', en'⟩ := hg.form
  obtain ⟨rfl, rfl⟩ : _ ∧ _ := by simpa using e'
  have B2 : Put (_) := ⟨b2⟩
  have A2 : Put (_) := ⟨hA⟩
  clear hW hT hf hg b1 b2 e e' hA
  generalize f x b = r at *
  generalize g x b = r' at *
  cases r with
  | false =>
    go_enter Tryz.func212, Tryz.ntmps212
    go_wp2_with fail
    refine HF.out.mono ?_
    rintro e w1 ⟨rfl, hb1⟩
    have hB := HA.out.trans (hb1.mono HA.out.size)
    have c2 := box_cell ((hB.block _ l2).trans B2.out)
    have p1 := (hb1.block _ (by simp)).trans A2.out
    have q0 := two_cell0 p1
    have q1 := two_cell1 p1
    have HB : Put (_) := ⟨hB⟩
    clear hb1 hB p1
    go_wp2_with fail
    refine (HG.out w1 HB.out).mono ?_
    rintro e w2 ⟨rfl, hb2⟩
    go_wp2
    go_ret
    exact ⟨rfl, HB.out.trans (hb2.mono HB.out.size)⟩
  | true =>
    go_enter Tryz.func212, Tryz.ntmps212
    go_wp2_with fail
    refine HF.out.mono ?_
    rintro e w1 ⟨rfl, hb1⟩
    go_wp2
    go_ret
    exact ⟨rfl, HA.out.trans (hb1.mono HA.out.size)⟩
theorem next1_any (br x' b' : Nat) (x b : Int) (hx : x' < 64) (hb : b' < 256) (W : World) (hW : KP w W) (h0 : 0 < W.heap.size) (hT : Tab W) (hg : FnP w (.func (.func fr) #[] cr) g) (b1 : W.heap[br]? = some (.cells #[.func (.func fr) #[] cr] 78 (0, 0))) :
    Calls Tryz.prog 214 #[.agg #[.int .u8 x, .int .u8 b], .agg #[.int .u8 (x' : Nat), .int .u8 (b' : Nat)], .pointer (some ⟨br, 0, none⟩)] W fun e W' => e = .returned (.bool (g x' b')) ∧ Below W.heap.size W W' := by
  have c1 := box_cell b1
  have l1 := lt_of_block b1
  have HA : Put (Below W.heap.size W ((W.alloc (.cells #[.int .u8 x, .int .u8 b] 157)).alloc (.cells #[.int .u8 (x' : Nat), .int .u8 (b' : Nat)] 157))) := ⟨((Below.refl _ _).alloc (Nat.le_refl _) _).alloc (by simp) _⟩
  have HG : Put (_) := ⟨hg.at hW h0 hT hx hb _ HA.out⟩
  obtain ⟨_, _, e, en⟩ := hg.form
  obtain ⟨rfl, rfl⟩ : _ ∧ _ := by simpa using e
  clear hW hT hg b1 e
  generalize g x' b' = r at *
  go_enter Tryz.func214, Tryz.ntmps214
  go_wp2_with fail
  refine HG.out.mono ?_
  rintro e w1 ⟨rfl, hb1⟩
  go_wp2
  go_ret
  exact ⟨rfl, HA.out.trans (hb1.mono HA.out.size)⟩
theorem keep1_any (bn n x b : Nat) (hn : n < 64) (hb : b < 256) (W : World) (b1 : W.heap[bn]? = some (.cells #[.int .i64 n] 3 (0, 0))) :
    Calls Tryz.prog 218 #[.agg #[.int .u8 (x : Nat), .int .u8 (b : Nat)], .pointer (some ⟨bn, 0, none⟩)] W fun e W' => e = .returned (.bool (b.testBit n)) ∧ Below W.heap.size W W' := by
  have c1 := box_cell b1
  have l1 := lt_of_block b1
  have HP : Put (∀ w, Calls Tryz.prog 219 #[.int .u8 (b : Nat), .int .i64 n] w fun e w' => e = .returned (.bool (b.testBit n)) ∧ w' = w) := ⟨fun w => hasP_any b n hb hn w⟩
  generalize b.testBit n = r at *
  clear b1
  go_enter Tryz.func218, Tryz.ntmps218
  go_wp2_with fail
  refine (HP.out _).mono ?_
  rintro e w1 ⟨rfl, rfl⟩
  go_wp2
  go_ret
  exact ⟨rfl, (Below.refl _ _).alloc (Nat.le_refl _) _⟩
end
end Go.Proofs.YtgoebckimmofoaaGreatDoor

/- Regions inside a round: as outside. Our own text. -/
namespace Go.Proofs.YtgoebckimmofoaaGreatDoor
open Go
section
variable {P : Program} {ops : Array Oper} {Q : Exit → Act → World → Prop} {md : Region.Mode} {l n : Nat}
theorem rowsIn_any {row : String} {args : Array Value} {w : World} {R : Value → World → Prop} (h : Rows P row args w R) : RowsIn (Fence.wide.inRound l) n P row args w R :=
  fun c cs _ => let ⟨v, w', r, s⟩ := h c cs; ⟨v, w', r, stepsIn_wide.2 s⟩
theorem callsIn_any {f : FuncId} {args : Array Value} {w : World} {R : Ending → World → Prop} (h : Calls P f args w R) : CallsIn (Fence.wide.inRound l) n P f args w R := CallsIn.inRound l (callsIn_wide.2 h)
theorem opIn_of_op {o : Oper} {a : Act} {w : World} {K : Act → World → Prop} (hd : ∀ c, o.op ≠ .defer c) (h : o.wp P a w K Q) : o.wpIn (Fence.wide.inRound l) n P a w K Q := by
  refine ⟨fun _ _ => trivial, ?_⟩
  rw [Oper.semAt_plain (Fence.wide.inRound l) a.eval o hd]
  unfold Oper.wp at h
  generalize (execOp a.eval o).run P w = r at *
  cases r with
  | ok nx w' =>
    cases nx <;> simp only [Oper.upon, Oper.uponIn] at h ⊢
    case value v => exact h
    case skip => exact h
    case defer d => exact h
    case enter f args => exact ⟨fun (hx : false = true) => (by cases hx), callsIn_any h⟩
    case row row args => exact ⟨fun (hx : false = true) => (by cases hx), rowsIn_any h⟩
  | halt x w' =>
    cases x <;> simp only [Oper.upon, Oper.uponIn] at h ⊢
    case panic v => exact h
theorem anyIn_of_any (hd : ∀ (i : Nat) (o : Oper), ops[i]? = some o → ∀ c, o.op ≠ .defer c) (hlo : ¬ LetsOut Q) : ∀ (fuel : Nat) (listed : Array Bool) (a : Act) (w : World), wpAny P md ops Q fuel listed a w → wpAnyIn (Fence.wide.inRound l) n P md ops Q fuel listed a w
  | 0, _, _, _, h => h
  | fuel + 1, listed, a, w, h => by
    refine ⟨h.1, fun i hi => ?_⟩
    have h2 := h.2 i hi
    unfold wpOp at h2
    unfold wpOpIn
    cases ho : ops[i]? with
    | none =>
      rw [ho] at h2
      exact anyIn_of_any hd hlo fuel _ _ _ h2
    | some o =>
      rw [ho] at h2
      simp only at h2 ⊢
      split
      · next hw =>
        rw [if_pos hw] at h2
        rcases h2 with h2 | ⟨_, h2⟩
        · exact Oper.wpIn_mono (fun a w => anyIn_of_any hd hlo fuel _ a w) (opIn_of_op (hd i o ho) h2)
        · exact absurd h2 hlo
      · next hw =>
        rw [if_neg hw] at h2
        exact ⟨fun _ _ => trivial, anyIn_of_any hd hlo fuel _ _ _ h2⟩
/-- A drawn region inside a round, by the laws of one outside. -/
theorem wpIn_region_held {id : Nat} {a : Act} {w : World} {S : World → Prop} (hm : P.follows .mixedOrders = true) (hd : ∀ (i : Nat) (o : Oper), ops[i]? = some o → ∀ c, o.op ≠ .defer c) (hlo : ¬ LetsOut Q)
    (h : wpAnyH P .any ops Q S ops.size (Array.replicate ops.size false) a { w with drawn := w.drawn + 1 }) : (Code.region id ops true).wpIn (Fence.wide.inRound l) n P Q a w :=
  wpIn_region_any hm (anyIn_of_any hd hlo _ _ _ _ (wpAny_of_held _ _ _ _ h))
end
end Go.Proofs.YtgoebckimmofoaaGreatDoor

/- A part's marks on a row of places. Our own text. -/
namespace Go.Proofs.YtgoebckimmofoaaGreatDoor
open Go.RowKit Go.Shelf Go.Lib
attribute [local go_sem] Oper.semAt_some
/-- All blocks below b stay but for two; nothing else is told. -/
structure Bt (b g nb : Nat) (W0 W : World) : Prop where
  os : W.os = W0.os
  tape : W.tape = W0.tape
  output : W.output = W0.output
  size : b ≤ W.heap.size
  block : ∀ k, k < b → k ≠ g → k ≠ nb → W.heap[k]? = W0.heap[k]?
/-- While it goes back: the row, the next place, the rest as it was. -/
structure MI (b g nb : Nat) (W0 : World) (s : List Pl × Pl) (W : World) : Prop where
  t : Bt b g nb W0 W
  r : RowP g s.1 W
  x : W.heap[nb]? = some (.cells #[.int .u8 (s.2.1 : Nat), .int .u8 (s.2.2 : Nat)] 157 (0, 0))
section
variable {b g nb : Nat} {W0 W W' : World} {s : List Pl × Pl}
theorem Bt.grown {row : Option Nat} (h : Bt b g nb W0 W) (hg : W.grownBy W' row) (hr : ∀ r, row = some r → b ≤ r) : Bt b g nb W0 W' :=
  ⟨hg.os.trans h.os, hg.tape.trans h.tape, hg.output.trans h.output, Nat.le_trans h.size hg.size, fun k hk h1 h2 => (hg.block k (Nat.lt_of_lt_of_le hk h.size) (fun e => by have := hr k e.symm; omega)).trans (h.block k hk h1 h2)⟩
theorem MI.grown {row : Option Nat} (h : MI b g nb W0 s W) (hgb : g < b) (hnb : nb < b) (hg : W.grownBy W' row) (hr : ∀ r, row = some r → b ≤ r) : MI b g nb W0 s W' :=
  ⟨h.t.grown hg hr, h.r.move (hg.block g h.r.lt (fun e => by have := hr g e.symm; omega)), (hg.block nb (lt_of_block h.x) (fun e => by have := hr nb e.symm; omega)).trans h.x⟩
theorem MI.own {α : Type} (hgb : g < b) (hnb : nb < b) (f : α → List Pl × Pl) : OwnFrom b (fun (a : α) W => MI b g nb W0 (f a) W) :=
  fun _ _ _ _ hs hg hr => hs.grown hgb hnb hg (fun r e => (hr r e).1)
theorem MI.below (h : MI b g nb W0 s W) (_hgb : g < b) (_hnb : nb < b) (hb : Below W.heap.size W W') : MI b g nb W0 s W' :=
  ⟨⟨hb.os.trans h.t.os, hb.tape.trans h.t.tape, hb.output.trans h.t.output, Nat.le_trans h.t.size hb.size, fun k hk h1 h2 => (hb.block k (Nat.lt_of_lt_of_le hk h.t.size)).trans (h.t.block k hk h1 h2)⟩, h.r.move (hb.block g h.r.lt), (hb.block nb (lt_of_block h.x)).trans h.x⟩
end

theorem loop_inv {F : Fence} {n : Nat} {P : Program} {c : Code} {Q : Exit → Act → World → Prop} (J : Nat → Act → World → Prop) (h0 : ∀ a w, J 0 a w → c.wpIn F n P (Exit.then (fun _ _ => False) Q) a w)
    (hs : ∀ k a w, J (k + 1) a w → c.wpIn F n P (Exit.then (J k) Q) a w) (m : Nat) {a : Act} {w : World} (h : J m a w) : (Code.loop c).wpIn F n P Q a w := by
  have key : ∀ m a w, J m a w → Code.roundsIn F n P c Q (m + 1) a w := by
    intro m
    induction m with
    | zero => exact h0
    | succ m ih =>
      intro a w h
      rw [roundsIn_succ]
      refine Go.wpIn_mono (hs m a w h) (fun e a w q => ?_)
      cases e <;> first | exact ih _ _ q | exact q
  exact wpIn_loop_rounds (m + 1) (key m a w h)
theorem wpIn_calm {F : Fence} {n : Nat} {P : Program} {c : Code} {K : Act → World → Prop} {Q : Exit → Act → World → Prop} {a : Act} {w : World} (h : c.wpIn F n P (Exit.then K (fun _ _ _ => False)) a w) : c.wpIn F n P (Exit.then K Q) a w :=
  Go.wpIn_mono h (fun e a w q => by cases e <;> first | exact q | exact q.elim)
theorem KP.of_bt {b g nb : Nat} {W0 W : World} {c1 c2 : Array Value} {t1 t2 : TypeId} {f1 f2 : Nat × Nat} (h : Bt b g nb W0 W) (hb : b = W0.heap.size) (h1 : W0.heap[g]? = some (.cells c1 t1 f1)) (s1 : soft t1 = true) (h2 : W0.heap[nb]? = some (.cells c2 t2 f2)) (s2 : soft t2 = true) : KP W0 W := by
  refine fun N => ⟨by rw [← hb]; exact h.size, fun k cs t fz hc _ hs _ => h.block k (by rw [hb]; exact lt_of_block hc) (fun e => ?_) (fun e => ?_)⟩
  · subst e; rw [h1] at hc; simp at hc; obtain ⟨_, rfl, _⟩ := hc; rw [s1] at hs; cases hs
  · subst e; rw [h2] at hc; simp at hc; obtain ⟨_, rfl, _⟩ := hc; rw [s2] at hs; cases hs
theorem KpB.trans {n₀ bs g n : Nat} {P : List Pl} {A B C : World} (h : KpB n₀ bs g n P A B) (k : KpB n₀ bs g n P B C) : KpB n₀ bs g n P A C := ⟨h.1.trans k.1, fun s => k.2 (h.2 s)⟩
theorem Below.zero {w w' : World} (h1 : w'.os = w.os) (h2 : w'.tape = w.tape) (h3 : w'.output = w.output) (h4 : w.heap.size ≤ w'.heap.size) : Below 0 w w' := ⟨h1, h2, h3, h4, fun _ hk => absurd hk (Nat.not_lt_zero _)⟩
theorem Sh.of {bs g n : Nat} {P : List Pl} {W W' : World} (h : Sh bs g n P W) (e1 : W'.heap[g]? = W.heap[g]?) (e2 : W'.heap[bs]? = W.heap[bs]?) : Sh bs g n P W' :=
  let ⟨⟨Q, h1, h2⟩, h3⟩ := h; ⟨⟨Q, h1, h2.move e1⟩, e2.trans h3⟩
theorem KpB.put {bs g n : Nat} {P : List Pl} {W : World} {l : Nat} {o : Obj} (o' : Obj) (hl : W.heap[l]? = some o) (ho : o.isCells = false) : KpB 0 bs g n P W (W.putObj l o') := by
  have gr := grownBy_putObj' W l o'
  refine ⟨Below.zero gr.os gr.tape gr.output gr.size, fun s => s.of ?_ ?_⟩
  · obtain ⟨Q, _, h2⟩ := s.1
    exact gr.block g h2.lt (fun e => by cases e; unfold RowP at h2; rw [hl] at h2; cases h2; cases ho)
  · exact gr.block bs (lt_of_block s.2) (fun e => by cases e; have h3 := s.2; rw [hl] at h3; cases h3; cases ho)
/-- Rounds. -/
def itP (h : Nat → Nat → Nat → Nat → Bool) (n loop : Nat) : Nat → List Pl → List Pl
  | 0, P => P
  | i + 1, P => rndP h n (itP h n loop i P) loop
theorem itP_ok {h : Nat → Nat → Nat → Nat → Bool} {n loop : Nat} (hn : n < 8) {P : List Pl} (hP : OkP P) : ∀ i, OkP (itP h n loop i P) ∧ (itP h n loop i P).length = P.length
  | 0 => ⟨hP, rfl⟩
  | i + 1 => by
    obtain ⟨h1, h2⟩ := itP_ok (h := h) (loop := loop) hn hP i
    have ho := off_back hn h (pl (itP h n loop i P) loop) (fun j hj => (h1 j hj).2)
    refine ⟨fun j hj => ?_, ?_⟩
    · have hj' : j < (itP h n loop i P).length := by rw [← ho.len]; exact hj
      have e := ho.st j hj'
      exact ⟨by show (pl (backP h n _ _) j).1 < 64; rw [e]; exact (h1 j hj').1, ho.lt j hj'⟩
    · exact ho.len.trans h2
theorem mark1_ok {n loop : Nat} (hn : n < 8) {P : List Pl} (hP : OkP P) (hlo : loop < P.length) (e : Bool) : OkP (mark1 n P loop e) ∧ (mark1 n P loop e).length = P.length := by
  have ho := off_mark1 hn (fun i hi => (hP i hi).2) hlo e
  refine ⟨fun j hj => ?_, ho.len⟩
  have hj' : j < P.length := by rw [← ho.len]; exact hj
  exact ⟨by rw [ho.st j hj']; exact (hP j hj').1, ho.lt j hj'⟩
def coll (D : Nat) : Deferred := { target := .collected D, args := #[] }
/-- Between the rounds. -/
structure MJ (W3 : World) (g : Nat) (Q : List Pl) (Ds : List Nat) (w : World) : Prop where
  ex : Ex g W3 w
  row : RowP g Q w
  ds : ∀ D ∈ Ds, W3.heap.size ≤ D ∧ w.heap[D]? = some (.deferred (some []))
  nd : Ds.Nodup
theorem Ex.put {g D : Nat} {W3 w : World} (h : Ex g W3 w) (hD : W3.heap.size ≤ D) (o : Obj) : Ex g W3 (w.putObj D o) := by
  have gr := grownBy_putObj' w D o
  exact ⟨gr.os.trans h.os, gr.tape.trans h.tape, gr.output.trans h.output, Nat.le_trans h.size gr.size, fun k hk hg => (gr.block k (Nat.lt_of_lt_of_le hk h.size) (fun e => by cases e; omega)).trans (h.block k hk hg)⟩
theorem MI.done {W3 wr W0 W : World} {g b nb D : Nat} {Q : List Pl} {s : List Pl × Pl} {Ds : List Nat} (hj : MJ W3 g Q Ds wr) (h : MI b g nb W0 s W) (hb : b = W0.heap.size) (hnb : nb = wr.heap.size) (hW : Below wr.heap.size wr W0) (hD : b ≤ D) (hd : W.heap[D]? = some (.deferred (some []))) : MJ W3 g s.1 (D :: Ds) W := by
  have hs := hW.size
  have hs3 := hj.ex.size
  refine ⟨⟨(h.t.os.trans hW.os).trans hj.ex.os, (h.t.tape.trans hW.tape).trans hj.ex.tape, (h.t.output.trans hW.output).trans hj.ex.output, ?_, fun k hk hg => ?_⟩, h.r, fun D' hD' => ?_, ?_⟩
  · have := h.t.size; omega
  · exact ((h.t.block k (by omega) hg (by omega)).trans (hW.block k (by omega))).trans (hj.ex.block k hk hg)
  · rcases List.mem_cons.1 hD' with rfl | hm
    · exact ⟨by omega, hd⟩
    · obtain ⟨h1, h2⟩ := hj.ds D' hm
      have hl := lt_of_block h2
      refine ⟨h1, ((h.t.block D' (by omega) (fun e => ?_) (by omega)).trans (hW.block D' hl)).trans h2⟩
      subst e; have := hj.row; unfold RowP at this; rw [h2] at this; cases this
  · refine List.nodup_cons.2 ⟨fun hm => ?_, hj.nd⟩
    have := lt_of_block (hj.ds D hm).2
    omega
theorem MI.step {b g nb bs n : Nat} {Q : List Pl} {h : Nat → Nat → Nat → Nat → Bool} {W0 Wc w2 : World} {s : List Pl × Pl} (x : El n Q) (hi : MI b g nb W0 s Wc) (hb2 : Below Wc.heap.size Wc w2) (hoff : Off n Q s.1) (hn : n < 8) (hQ : OkP Q) (hgb : g < b) (hnb : nb < b) (gnb : g ≠ nb) (bsb : bs < b) (bsg : bs ≠ g) (bsn : bs ≠ nb)
    {vv : Nat} (hv : vv = setB (pl s.1 x.val.1).2 n (h (pl Q x.val.1).1 x.val.2 s.2.1 s.2.2)) :
    KeepsFrom b Wc (((w2.setCell ⟨g, x.val.1 * 2 + 1, none⟩ (.int .u8 (vv : Nat))).setCell ⟨nb, 0, none⟩ (.int .u8 ((pl s.1 x.val.1).1 : Nat))).setCell ⟨nb, 1, none⟩ (.int .u8 (vv : Nat))) ∧
    KpB 0 bs g n Q Wc (((w2.setCell ⟨g, x.val.1 * 2 + 1, none⟩ (.int .u8 (vv : Nat))).setCell ⟨nb, 0, none⟩ (.int .u8 ((pl s.1 x.val.1).1 : Nat))).setCell ⟨nb, 1, none⟩ (.int .u8 (vv : Nat))) ∧
    MI b g nb W0 (stepE h s x) (((w2.setCell ⟨g, x.val.1 * 2 + 1, none⟩ (.int .u8 (vv : Nat))).setCell ⟨nb, 0, none⟩ (.int .u8 ((pl s.1 x.val.1).1 : Nat))).setCell ⟨nb, 1, none⟩ (.int .u8 (vv : Nat))) := by
  have hxl : x.val.1 < s.1.length := by rw [hoff.len]; exact x.property.1
  have hbs := hi.t.size
  have hbl : ∀ k, k ≠ g → k ≠ nb → (((w2.setCell ⟨g, x.val.1 * 2 + 1, none⟩ (.int .u8 (vv : Nat))).setCell ⟨nb, 0, none⟩ (.int .u8 ((pl s.1 x.val.1).1 : Nat))).setCell ⟨nb, 1, none⟩ (.int .u8 (vv : Nat))).heap[k]? = w2.heap[k]? := fun k h1 h2 =>
    ((heap_setCell_other _ _ _ _ h2).trans (heap_setCell_other _ _ _ _ h2)).trans (heap_setCell_other _ _ _ _ h1)
  have hsz : (((w2.setCell ⟨g, x.val.1 * 2 + 1, none⟩ (.int .u8 (vv : Nat))).setCell ⟨nb, 0, none⟩ (.int .u8 ((pl s.1 x.val.1).1 : Nat))).setCell ⟨nb, 1, none⟩ (.int .u8 (vv : Nat))).heap.size = w2.heap.size := by simp
  have hs2 := hb2.size
  have hr : RowP g (stepE h s x).1 (((w2.setCell ⟨g, x.val.1 * 2 + 1, none⟩ (.int .u8 (vv : Nat))).setCell ⟨nb, 0, none⟩ (.int .u8 ((pl s.1 x.val.1).1 : Nat))).setCell ⟨nb, 1, none⟩ (.int .u8 (vv : Nat))) := by
    have h1 : RowP g s.1 w2 := hi.r.move (hb2.block g hi.r.lt)
    have h2 := h1.set hxl vv
    rw [hv] at h2
    unfold stepE
    rw [hv]
    exact h2.move ((heap_setCell_other _ _ _ _ gnb).trans (heap_setCell_other _ _ _ _ gnb))
  have hx : (((w2.setCell ⟨g, x.val.1 * 2 + 1, none⟩ (.int .u8 (vv : Nat))).setCell ⟨nb, 0, none⟩ (.int .u8 ((pl s.1 x.val.1).1 : Nat))).setCell ⟨nb, 1, none⟩ (.int .u8 (vv : Nat))).heap[nb]? = some (.cells #[.int .u8 ((stepE h s x).2.1 : Nat), .int .u8 ((stepE h s x).2.2 : Nat)] 157 (0, 0)) := by
    have h1 : w2.heap[nb]? = some (.cells #[.int .u8 (s.2.1 : Nat), .int .u8 (s.2.2 : Nat)] 157 (0, 0)) := (hb2.block nb (lt_of_block hi.x)).trans hi.x
    have h2 := (show (w2.setCell ⟨g, x.val.1 * 2 + 1, none⟩ (.int .u8 (vv : Nat))).heap[nb]? = w2.heap[nb]? from heap_setCell_other _ _ _ _ (fun e => gnb e.symm)).trans h1
    have h3 := heap_setCell_same _ nb 0 _ _ (.int .u8 ((pl s.1 x.val.1).1 : Nat)) h2
    have h4 := heap_setCell_same _ nb 1 _ _ (.int .u8 (vv : Nat)) h3
    rw [h4]
    unfold stepE
    rw [hv]
    simp
  have hm : MI b g nb W0 (stepE h s x) (((w2.setCell ⟨g, x.val.1 * 2 + 1, none⟩ (.int .u8 (vv : Nat))).setCell ⟨nb, 0, none⟩ (.int .u8 ((pl s.1 x.val.1).1 : Nat))).setCell ⟨nb, 1, none⟩ (.int .u8 (vv : Nat))) :=
    ⟨⟨hb2.os.trans hi.t.os, hb2.tape.trans hi.t.tape, hb2.output.trans hi.t.output, by rw [hsz]; omega, fun k hk h1 h2 => ((hbl k h1 h2).trans (hb2.block k (by omega))).trans (hi.t.block k hk h1 h2)⟩, hr, hx⟩
  refine ⟨⟨by rw [hsz]; exact hs2, fun k o hk ho _ => ?_⟩, ⟨Below.zero hb2.os hb2.tape hb2.output (by rw [hsz]; exact hs2), fun sh => ⟨⟨_, (stepE_ok hn hQ h x hoff).1, hr⟩, ?_⟩⟩, hm⟩
  · exact ((hbl k (by omega) (by omega)).trans (hb2.block k (lt_of_block ho))).trans ho
  · exact ((hbl bs bsg bsn).trans (hb2.block bs (by omega))).trans sh.2
end Go.Proofs.YtgoebckimmofoaaGreatDoor
