/- What is wrong with a model, purely. Our own text. -/
import Derived.Test.YtcnhhclogbjedaaDoorRTwice
import Derived.Deep.RegionHeld3
namespace Go.Proofs.YtcnhhclogbjedaaDoor
open Go.RowKit

def fb (top at_ : Nat) : List Nat → Nat → Option (Nat × Int)
  | [], _ => none
  | x :: l, k => if top < x then some (4, ((at_ + k : Nat) : Int)) else fb top at_ l (k + 1)
def wc (n : Nat) : List (Tm × Tm) → Option (Nat × Int)
  | [] => none
  | c :: l => if 0 ≤ unnamed n c.1 c.2 then some (3, unnamed n c.1 c.2) else wc n l
def wd (n : Nat) : List Chg → List Chg → Option (Nat × Int)
  | _, [] => none
  | pre, c :: l => if (twiceP n pre c).1 = 0 then wd n (pre ++ [c]) l else some (twiceP n pre c)
def wv : List VA → Option (Nat × Int)
  | [] => none
  | v :: l => match fb v.1 v.2.2 v.2.1 0 with
    | some x => some x
    | none => wv l
def wr (n : Nat) : List RA → Option (Nat × Int)
  | [] => none
  | r :: l => match wc n r.1 with
    | some x => some x
    | none => match wd n [] r.2 with
      | some x => some x
      | none => wr n l
def orP (a : Option (Nat × Int)) (b : Nat × Int) : Nat × Int := match a with
  | some x => x
  | none => b
def wrongP (vs : List VA) (rs : List RA) : Nat × Int := orP (wv vs) (orP (wr vs.length rs) (0, 0))
theorem orP_fb (top at_ x k : Nat) (l : List Nat) (b : Nat × Int) : orP (fb top at_ (x :: l) k) b = if top < x then (4, ((at_ + k : Nat) : Int)) else orP (fb top at_ l (k + 1)) b := by
  rw [fb]; split <;> rfl
theorem orP_wv (v : VA) (l : List VA) (b : Nat × Int) : orP (wv (v :: l)) b = orP (fb v.1 v.2.2 v.2.1 0) (orP (wv l) b) := by
  rw [wv]; cases fb v.1 v.2.2 v.2.1 0 <;> rfl
theorem orP_wr (n : Nat) (r : RA) (l : List RA) (b : Nat × Int) : orP (wr n (r :: l)) b = orP (wc n r.1) (orP (wd n [] r.2) (orP (wr n l) b)) := by
  rw [wr]; cases wc n r.1 <;> cases wd n [] r.2 <;> rfl
theorem orP_wc (n : Nat) (c : Tm × Tm) (l : List (Tm × Tm)) (b : Nat × Int) : orP (wc n (c :: l)) b = if 0 ≤ unnamed n c.1 c.2 then (3, unnamed n c.1 c.2) else orP (wc n l) b := by
  rw [wc]; split <;> rfl
theorem orP_wd (n : Nat) (pre : List Chg) (c : Chg) (l : List Chg) (b : Nat × Int) : orP (wd n pre (c :: l)) b = if (twiceP n pre c).1 = 0 then orP (wd n (pre ++ [c]) l) b else twiceP n pre c := by
  rw [wd]; split <;> rfl
theorem V3.len (v : V3) : v.cells.length = 3 := rfl
theorem R2.len (v : R2) : v.cells.length = 2 := rfl
theorem C7.len (v : C7) : v.cells.length = 7 := rfl
theorem drop_map {α β : Type} (f : α → β) (l : List α) (i : Nat) (h : i < l.length) : (l.map f).drop i = f l[i] :: (l.map f).drop (i + 1) := by
  rw [List.drop_eq_getElem_cons (by simpa using h)]; simp
theorem ints_at {w : World} {base : Nat} {ao : Option Addr} {cap : Nat} {l : List Nat} (h : w.ownsRow base 3 1 (.slice ao l.length cap) l.length (ints l)) (hl : 0 < l.length) : ∃ g, ao = some ⟨g, 0, none⟩ ∧ base ≤ g ∧ g < w.heap.size ∧ l.length ≤ cap ∧ ∀ k (hk : k < l.length), w.cell? ⟨g, k, none⟩ = some (.int .i64 (l[k] : Nat)) := by
  have e : ints l = l.flatMap (fun n : Nat => [Value.int .i64 (n : Int)]) := by
    unfold ints; rw [List.map_eq_flatMap]
  rw [e] at h
  obtain ⟨g, h1, h2, h3, h4, h5⟩ := row_at (z := 1) (fun _ => rfl) h hl
  exact ⟨g, h1, h2, h3, h4, fun k hk => by have := h5 k hk 0 (by omega); simpa using this⟩

end Go.Proofs.YtcnhhclogbjedaaDoor
