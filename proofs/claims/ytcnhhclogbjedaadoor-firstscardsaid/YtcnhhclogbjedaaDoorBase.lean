/- The worlds of the two readers: what stays, what a reader's block holds. Our own text. -/
import Derived.Test.YtcnhhclogbjedaaDoorRows
import Derived.WalkKit
import Derived.WalkSpells
import Derived.WalkLawsBesides
import Derived.Deep.QuietTactic
import Derived.BigQuiet
namespace Go.Proofs.YtcnhhclogbjedaaDoor
open Go.RowKit

/-- All blocks of w but B are as they were; new ones may have come. -/
structure Ex (B : Nat) (w w' : World) : Prop where
  os : w'.os = w.os
  tape : w'.tape = w.tape
  output : w'.output = w.output
  size : w.heap.size ≤ w'.heap.size
  block : ∀ k, k < w.heap.size → k ≠ B → w'.heap[k]? = w.heap[k]?
theorem Ex.refl (B : Nat) (w : World) : Ex B w w := ⟨rfl, rfl, rfl, Nat.le_refl _, fun _ _ _ => rfl⟩
theorem Ex.trans {B : Nat} {a b c : World} (h : Ex B a b) (k : Ex B b c) : Ex B a c :=
  ⟨k.os.trans h.os, k.tape.trans h.tape, k.output.trans h.output, Nat.le_trans h.size k.size, fun i hi hB => (k.block i (Nat.lt_of_lt_of_le hi h.size) hB).trans (h.block i hi hB)⟩
theorem Ex.drewN {B : Nat} {a b : World} (h : Ex B a b) (n : Nat) : Ex B a (b.drewN n) := ⟨h.os, h.tape, h.output, h.size, h.block⟩
theorem Ex.drew {B : Nat} {a b : World} (h : Ex B a b) : Ex B a b.drew := ⟨h.os, h.tape, h.output, h.size, h.block⟩
theorem Ex.alloc {B : Nat} {a b : World} (h : Ex B a b) (o : Obj) : Ex B a (b.alloc o) :=
  h.trans ⟨rfl, rfl, rfl, by simp, fun k hk _ => Below.heap_alloc _ _ _ hk⟩
theorem Ex.setCell {B : Nat} {a b : World} (h : Ex B a b) {p : Addr} (hp : p.block = B ∨ a.heap.size ≤ p.block) (v : Value) : Ex B a (b.setCell p v) :=
  ⟨h.os, h.tape, h.output, by simpa using h.size, fun k hk hB => by rw [heap_setCell_other _ _ _ _ (by omega)]; exact h.block k hk hB⟩
theorem Ex.grown {B : Nat} {a b c : World} {row : Option Nat} (h : Ex B a b) (g : b.grownBy c row) (hr : ∀ k, row = some k → a.heap.size ≤ k) : Ex B a c :=
  ⟨g.os.trans h.os, g.tape.trans h.tape, g.output.trans h.output, Nat.le_trans h.size g.size,
   fun k hk hB => (g.block k (Nat.lt_of_lt_of_le hk h.size) (fun e => by have := hr k e.symm; omega)).trans (h.block k hk hB)⟩
theorem Ex.below {B b : Nat} {w w' : World} (h : Ex B w w') (hb : b ≤ B) (hs : b ≤ w.heap.size) : Below b w w' :=
  ⟨h.os, h.tape, h.output, h.size, fun k hk => h.block k (by omega) (by omega)⟩
theorem Ex.ownsRow {B base e size n : Nat} {v : Value} {xs : List Value} {w w' : World} (h : Ex B w w') (hB : B < base) (ho : w.ownsRow base e size v n xs) : w'.ownsRow base e size v n xs := by
  refine ⟨ho.1, ?_⟩
  rcases ho.2 with hn | ⟨g, cap, cur, rfl, hb, hg, r⟩
  · exact .inl hn
  · exact .inr ⟨g, cap, cur, rfl, hb, by rw [h.block g (lt_of_block hg) (by omega)]; exact hg, r⟩
theorem Ex.of_below {B : Nat} {w w' : World} (h : Below w.heap.size w w') : Ex B w w' := ⟨h.os, h.tape, h.output, h.size, fun k hk _ => h.block k hk⟩
/-- Rows of different element types lie in different blocks. -/
theorem apart_of_types {w : World} {b1 b2 e1 e2 s1 s2 n1 n2 : Nat} {v1 v2 : Value} {xs1 xs2 : List Value} (h1 : w.ownsRow b1 e1 s1 v1 n1 xs1) (h2 : w.ownsRow b2 e2 s2 v2 n2 xs2) (hne : e1 ≠ e2) : v1.ownBlock = none ∨ v1.ownBlock ≠ v2.ownBlock := by
  rcases h1.2 with ⟨rfl, _⟩ | ⟨g, _, _, rfl, _, hg, _⟩
  · exact .inl rfl
  · right
    rcases h2.2 with ⟨rfl, _⟩ | ⟨g', _, _, rfl, _, hg', _⟩
    · simp [Value.ownBlock]
    · simp only [Value.ownBlock, ne_eq, Option.some.injEq]
      intro e
      rw [e] at hg; rw [hg] at hg'
      simp at hg'
      exact hne hg'.2
theorem ne_block_of_type {w : World} {b e s n c t : Nat} {v : Value} {xs : List Value} {cs : Array Value} {fz : Nat × Nat} (h1 : w.ownsRow b e s v n xs) (h2 : w.heap[c]? = some (.cells cs t fz)) (hne : e ≠ t) : v.ownBlock ≠ some c := by
  rcases h1.2 with ⟨rfl, _⟩ | ⟨g, _, _, rfl, _, hg, _⟩
  · simp [Value.ownBlock]
  · simp only [Value.ownBlock, ne_eq, Option.some.injEq]
    intro e'
    rw [e'] at hg; rw [hg] at h2
    simp at h2
    exact hne h2.2.1

/-- What Check hangs on of the code's reader. -/
structure T where
  at_ : Nat
  n : Nat
  nr : Nat
  chd : Nat
  flt : Nat
  plc : Nat
/-- What it does not hang on. -/
structure Junk where
  g0 : Int
  f0 : Int
  g1 : Int
  f1 : Int
  g2 : Int
  f2 : Int
  vr : Value
  vc : Value
  vh : Value
def blk (s : ByteArray) (t : T) (x : Junk) : Array Value :=
  #[.string s, .int .i64 t.at_, .int .i64 x.g0, .int .u8 x.f0, .int .i64 x.g1, .int .u8 x.f1, .int .i64 x.g2, .int .u8 x.f2, .int .i64 t.n, x.vr, x.vc, x.vh, .int .u8 t.chd, .int .i64 t.flt, .int .i64 t.plc]
def RB (B : Nat) (s : ByteArray) (t : T) (x : Junk) (w : World) : Prop := w.heap[B]? = some (.cells (blk s t x) 76 (0, 0))
section
variable {B : Nat} {s : ByteArray} {t : T} {x : Junk} {w w' : World}
theorem RB.lt (h : RB B s t x w) : B < w.heap.size := lt_of_block h
theorem RB.cell (h : RB B s t x w) (i : Nat) : w.cell? ⟨B, i, none⟩ = (blk s t x)[i]? := by
  have h' : w.heap[B]? = some (.cells (blk s t x) 76 (0, 0)) := h
  simp [World.cell?, h']
theorem RB.free (h : RB B s t x w) (i : Nat) : w.frozen? ⟨B, i, none⟩ = false := by
  have h' : w.heap[B]? = some (.cells (blk s t x) 76 (0, 0)) := h
  simp [World.frozen?, h']
theorem RB.c0 (h : RB B s t x w) : w.cell? ⟨B, 0, none⟩ = some (.string s) := h.cell 0
theorem RB.c1 (h : RB B s t x w) : w.cell? ⟨B, 1, none⟩ = some (.int .i64 t.at_) := h.cell 1
theorem RB.c2 (h : RB B s t x w) : w.cell? ⟨B, 2, none⟩ = some (.int .i64 x.g0) := h.cell 2
theorem RB.c3 (h : RB B s t x w) : w.cell? ⟨B, 3, none⟩ = some (.int .u8 x.f0) := h.cell 3
theorem RB.c4 (h : RB B s t x w) : w.cell? ⟨B, 4, none⟩ = some (.int .i64 x.g1) := h.cell 4
theorem RB.c5 (h : RB B s t x w) : w.cell? ⟨B, 5, none⟩ = some (.int .u8 x.f1) := h.cell 5
theorem RB.c6 (h : RB B s t x w) : w.cell? ⟨B, 6, none⟩ = some (.int .i64 x.g2) := h.cell 6
theorem RB.c7 (h : RB B s t x w) : w.cell? ⟨B, 7, none⟩ = some (.int .u8 x.f2) := h.cell 7
theorem RB.c8 (h : RB B s t x w) : w.cell? ⟨B, 8, none⟩ = some (.int .i64 t.n) := h.cell 8
theorem RB.c9 (h : RB B s t x w) : w.cell? ⟨B, 9, none⟩ = some x.vr := h.cell 9
theorem RB.c10 (h : RB B s t x w) : w.cell? ⟨B, 10, none⟩ = some x.vc := h.cell 10
theorem RB.c11 (h : RB B s t x w) : w.cell? ⟨B, 11, none⟩ = some x.vh := h.cell 11
theorem RB.c12 (h : RB B s t x w) : w.cell? ⟨B, 12, none⟩ = some (.int .u8 t.chd) := h.cell 12
theorem RB.c13 (h : RB B s t x w) : w.cell? ⟨B, 13, none⟩ = some (.int .i64 t.flt) := h.cell 13
theorem RB.c14 (h : RB B s t x w) : w.cell? ⟨B, 14, none⟩ = some (.int .i64 t.plc) := h.cell 14
theorem RB.drewN (h : RB B s t x w) (n : Nat) : RB B s t x (w.drewN n) := h
theorem RB.drew (h : RB B s t x w) : RB B s t x w.drew := h
theorem RB.alloc (h : RB B s t x w) (o : Obj) : RB B s t x (w.alloc o) := (Below.heap_alloc _ _ _ h.lt).trans h
theorem RB.set_other (h : RB B s t x w) {p : Addr} (hp : p.block ≠ B) (v : Value) : RB B s t x (w.setCell p v) := (heap_setCell_other _ _ _ _ (fun e => hp e.symm)).trans h
theorem RB.grown {row : Option Nat} (h : RB B s t x w) (g : w.grownBy w' row) (hr : row ≠ some B) : RB B s t x w' := (g.block B h.lt (fun e => hr e.symm)).trans h
theorem RB.set (h : RB B s t x w) (i : Nat) (v : Value) {t' : T} {x' : Junk} (e : (blk s t x).setIfInBounds i v = blk s t' x') : RB B s t' x' (w.setCell ⟨B, i, none⟩ v) := by
  have := heap_setCell_same w B i (blk s t x) 76 v h
  rw [e] at this
  exact this
theorem RB.set1 (h : RB B s t x w) (k : Nat) : RB B s { t with at_ := k } x (w.setCell ⟨B, 1, none⟩ (.int .i64 k)) := h.set 1 _ rfl
theorem RB.set8 (h : RB B s t x w) (k : Nat) : RB B s { t with n := k } x (w.setCell ⟨B, 8, none⟩ (.int .i64 k)) := h.set 8 _ rfl
theorem RB.set9 (h : RB B s t x w) (v : Value) (k : Nat) : RB B s { t with nr := k } { x with vr := v } (w.setCell ⟨B, 9, none⟩ v) := h.set 9 _ rfl
theorem RB.set10 (h : RB B s t x w) (v : Value) : RB B s t { x with vc := v } (w.setCell ⟨B, 10, none⟩ v) := h.set 10 _ rfl
theorem RB.set11 (h : RB B s t x w) (v : Value) : RB B s t { x with vh := v } (w.setCell ⟨B, 11, none⟩ v) := h.set 11 _ rfl
theorem RB.set12 (h : RB B s t x w) (k : Nat) : RB B s { t with chd := k } x (w.setCell ⟨B, 12, none⟩ (.int .u8 k)) := h.set 12 _ rfl
theorem RB.set13 (h : RB B s t x w) (k : Nat) : RB B s { t with flt := k } x (w.setCell ⟨B, 13, none⟩ (.int .i64 k)) := h.set 13 _ rfl
theorem RB.set14 (h : RB B s t x w) (k : Nat) : RB B s { t with plc := k } x (w.setCell ⟨B, 14, none⟩ (.int .i64 k)) := h.set 14 _ rfl
end

/-! The pure reader of the code, as far as Check hangs on it. -/
def num? (s : ByteArray) (p z lo hi : Nat) : Option Nat :=
  if h : p < s.size then (if z + lo ≤ s[p].toNat ∧ s[p].toNat ≤ z + hi then some (s[p].toNat - z) else none) else none
def T.adv (t : T) : T := { t with at_ := t.at_ + 1 }
def T.blame (t : T) (f : Nat) : T := if t.flt = 0 then { t with flt := f, plc := t.at_ - 1 } else t

theorem num_lt {s : ByteArray} {p z lo hi k : Nat} (h : num? s p z lo hi = some k) : p < s.size := by
  unfold num? at h; split at h
  · assumption
  · cases h
theorem num_le {s : ByteArray} {p z lo hi k : Nat} (h : num? s p z lo hi = some k) : lo ≤ k ∧ k ≤ hi := by
  unfold num? at h; split at h
  · split at h
    · simp at h; omega
    · cases h
  · cases h
end Go.Proofs.YtcnhhclogbjedaaDoor
