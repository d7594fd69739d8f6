/- The worlds of the two readers: what stays, what a reader's block holds. Our own text. -/
import Derived.Test.YtkbmolodljenjaaDoorRows
import Derived.WalkKit
import Derived.WalkSpells
import Derived.WalkLawsBesides
import Derived.Deep.QuietTactic
import Derived.BigQuiet
namespace Go.Proofs.YtkbmolodljenjaaDoor
open Go.RowKit

/-- All blocks of w but B are as they were; new ones may have come. -/
structure Ex (B : Nat) (w w' : World) : Prop where
  os : w'.os = w.os
  tape : w'.tape = w.tape
  output : w'.output = w.output
  size : w.heap.size ≤ w'.heap.size
  block : ∀ k, k < w.heap.size → k ≠ B → w'.heap[k]? = w.heap[k]?
theorem Ex.refl (B : Nat) (w : World) : Ex B w w := ⟨rfl, rfl, rfl, Nat.le_refl _, fun _ _ _ => rfl⟩
theorem Ex.trans {B : Nat} {a b c : World} (h : Ex B a b) (k : Ex B b c) : Ex B a c :=
  ⟨k.os.trans h.os, k.tape.trans h.tape, k.output.trans h.output, Nat.le_trans h.size k.size, fun i hi hB => (k.block i (Nat.lt_of_lt_of_le hi h.size) hB).trans (h.block i hi hB)⟩
theorem Ex.drewN {B : Nat} {a b : World} (h : Ex B a b) (n : Nat) : Ex B a (b.drewN n) := ⟨h.os, h.tape, h.output, h.size, h.block⟩
theorem Ex.drew {B : Nat} {a b : World} (h : Ex B a b) : Ex B a b.drew := ⟨h.os, h.tape, h.output, h.size, h.block⟩
theorem Ex.alloc {B : Nat} {a b : World} (h : Ex B a b) (o : Obj) : Ex B a (b.alloc o) :=
  h.trans ⟨rfl, rfl, rfl, by simp, fun k hk _ => Below.heap_alloc _ _ _ hk⟩
theorem Ex.setCell {B : Nat} {a b : World} (h : Ex B a b) {p : Addr} (hp : p.block = B ∨ a.heap.size ≤ p.block) (v : Value) : Ex B a (b.setCell p v) :=
  ⟨h.os, h.tape, h.output, by simpa using h.size, fun k hk hB => by rw [heap_setCell_other _ _ _ _ (by omega)]; exact h.block k hk hB⟩
theorem Ex.grown {B : Nat} {a b c : World} {row : Option Nat} (h : Ex B a b) (g : b.grownBy c row) (hr : ∀ k, row = some k → a.heap.size ≤ k) : Ex B a c :=
  ⟨g.os.trans h.os, g.tape.trans h.tape, g.output.trans h.output, Nat.le_trans h.size g.size,
   fun k hk hB => (g.block k (Nat.lt_of_lt_of_le hk h.size) (fun e => by have := hr k e.symm; omega)).trans (h.block k hk hB)⟩
theorem Ex.below {B b : Nat} {w w' : World} (h : Ex B w w') (hb : b ≤ B) (hs : b ≤ w.heap.size) : Below b w w' :=
  ⟨h.os, h.tape, h.output, h.size, fun k hk => h.block k (by omega) (by omega)⟩
theorem Ex.ownsRow {B base e size n : Nat} {v : Value} {xs : List Value} {w w' : World} (h : Ex B w w') (hB : B < base) (ho : w.ownsRow base e size v n xs) : w'.ownsRow base e size v n xs := by
  refine ⟨ho.1, ?_⟩
  rcases ho.2 with hn | ⟨g, cap, cur, rfl, hb, hg, r⟩
  · exact .inl hn
  · exact .inr ⟨g, cap, cur, rfl, hb, by rw [h.block g (lt_of_block hg) (by omega)]; exact hg, r⟩
theorem Ex.of_below {B : Nat} {w w' : World} (h : Below w.heap.size w w') : Ex B w w' := ⟨h.os, h.tape, h.output, h.size, fun k hk _ => h.block k hk⟩
/-- Rows of different element types lie in different blocks. -/
theorem apart_of_types {w : World} {b1 b2 e1 e2 s1 s2 n1 n2 : Nat} {v1 v2 : Value} {xs1 xs2 : List Value} (h1 : w.ownsRow b1 e1 s1 v1 n1 xs1) (h2 : w.ownsRow b2 e2 s2 v2 n2 xs2) (hne : e1 ≠ e2) : v1.ownBlock = none ∨ v1.ownBlock ≠ v2.ownBlock := by
  rcases h1.2 with ⟨rfl, _⟩ | ⟨g, _, _, rfl, _, hg, _⟩
  · exact .inl rfl
  · right
    rcases h2.2 with ⟨rfl, _⟩ | ⟨g', _, _, rfl, _, hg', _⟩
    · simp [Value.ownBlock]
    · simp only [Value.ownBlock, ne_eq, Option.some.injEq]
      intro e
      rw [e] at hg; rw [hg] at hg'
      simp at hg'
      exact hne hg'.2
theorem ne_block_of_type {w : World} {b e s n c t : Nat} {v : Value} {xs : List Value} {cs : Array Value} {fz : Nat × Nat} (h1 : w.ownsRow b e s v n xs) (h2 : w.heap[c]? = some (.cells cs t fz)) (hne : e ≠ t) : v.ownBlock ≠ some c := by
  rcases h1.2 with ⟨rfl, _⟩ | ⟨g, _, _, rfl, _, hg, _⟩
  · simp [Value.ownBlock]
  · simp only [Value.ownBlock, ne_eq, Option.some.injEq]
    intro e'
    rw [e'] at hg; rw [hg] at h2
    simp at h2
    exact hne h2.2.1

/-- What Check hangs on of the code's reader. -/
structure T where
  at_ : Nat
  n : Nat
  nr : Nat
  chd : Nat
  flt : Nat
  plc : Nat
/-- What it does not hang on. -/
structure Junk where
  g0 : Int
  f0 : Int
  g1 : Int
  f1 : Int
  g2 : Int
  f2 : Int
  vr : Value
  vc : Value
  vh : Value
/-- The code's reader in block B, over a machine in block M; rest: what its block holds besides. -/
def rblk (s : ByteArray) (M : Nat) (t : T) (rest : List Value) : Array Value :=
  (.string s :: .int .i64 t.at_ :: .pointer (some ⟨M, 0, none⟩) :: .int .i64 t.flt :: .int .i64 t.plc :: rest : List Value).toArray
structure RG (B M : Nat) (ty : TypeId) (rest : List Value) (s : ByteArray) (t : T) (w : World) : Prop where
  blk : w.heap[B]? = some (.cells (rblk s M t rest) ty (0, 0))
  cnt : ∃ cs mty, w.heap[M]? = some (.cells cs mty (0, 0)) ∧ cs[6]? = some (.int .i64 t.n)
  lo : M < B
section
variable {B M : Nat} {ty : TypeId} {rest : List Value} {s : ByteArray} {t : T} {w w' : World}
theorem RG.lt (h : RG B M ty rest s t w) : B < w.heap.size := lt_of_block h.blk
theorem RG.c0 (h : RG B M ty rest s t w) : w.cell? ⟨B, 0, none⟩ = some (.string s) := by simp [World.cell?, h.blk, rblk]
theorem RG.c1 (h : RG B M ty rest s t w) : w.cell? ⟨B, 1, none⟩ = some (.int .i64 t.at_) := by simp [World.cell?, h.blk, rblk]
theorem RG.c2 (h : RG B M ty rest s t w) : w.cell? ⟨B, 2, none⟩ = some (.pointer (some ⟨M, 0, none⟩)) := by simp [World.cell?, h.blk, rblk]
theorem RG.c3 (h : RG B M ty rest s t w) : w.cell? ⟨B, 3, none⟩ = some (.int .i64 t.flt) := by simp [World.cell?, h.blk, rblk]
theorem RG.c4 (h : RG B M ty rest s t w) : w.cell? ⟨B, 4, none⟩ = some (.int .i64 t.plc) := by simp [World.cell?, h.blk, rblk]
theorem RG.free (h : RG B M ty rest s t w) (i : Nat) : w.frozen? ⟨B, i, none⟩ = false := by simp [World.frozen?, h.blk]
theorem RG.cM (h : RG B M ty rest s t w) : w.cell? ⟨M, 6, none⟩ = some (.int .i64 t.n) := by
  obtain ⟨cs, mty, h1, h2⟩ := h.cnt
  simp [World.cell?, h1, h2]
theorem RG.move (h : RG B M ty rest s t w) (e1 : w'.heap[B]? = w.heap[B]?) (e2 : w'.heap[M]? = w.heap[M]?) : RG B M ty rest s t w' :=
  ⟨e1.trans h.blk, by obtain ⟨cs, mty, h1, h2⟩ := h.cnt; exact ⟨cs, mty, e2.trans h1, h2⟩, h.lo⟩
theorem RG.drewN (h : RG B M ty rest s t w) (n : Nat) : RG B M ty rest s t (w.drewN n) := h.move rfl rfl
theorem RG.drew (h : RG B M ty rest s t w) : RG B M ty rest s t w.drew := h.move rfl rfl
theorem RG.alloc (h : RG B M ty rest s t w) (o : Obj) : RG B M ty rest s t (w.alloc o) := h.move (Below.heap_alloc _ _ _ h.lt) (Below.heap_alloc _ _ _ (Nat.lt_trans h.lo h.lt))
theorem RG.set_other (h : RG B M ty rest s t w) {p : Addr} (hp : p.block ≠ B) (hq : p.block ≠ M) (v : Value) : RG B M ty rest s t (w.setCell p v) :=
  h.move (heap_setCell_other _ _ _ _ (fun e => hp e.symm)) (heap_setCell_other _ _ _ _ (fun e => hq e.symm))
theorem RG.grown {row : Option Nat} (h : RG B M ty rest s t w) (g : w.grownBy w' row) (hr : row ≠ some B) (hq : row ≠ some M) : RG B M ty rest s t w' :=
  h.move (g.block B h.lt (fun e => hr e.symm)) (g.block M (Nat.lt_trans h.lo h.lt) (fun e => hq e.symm))
theorem RG.set (h : RG B M ty rest s t w) (i : Nat) (v : Value) {t' : T} {rest' : List Value} (e : (rblk s M t rest).setIfInBounds i v = rblk s M t' rest') (hn : t'.n = t.n) : RG B M ty rest' s t' (w.setCell ⟨B, i, none⟩ v) := by
  have := heap_setCell_same w B i (rblk s M t rest) ty v h.blk
  rw [e] at this
  obtain ⟨cs, mty, h1, h2⟩ := h.cnt
  exact ⟨this, ⟨cs, mty, (heap_setCell_other _ _ _ _ (show M ≠ B from Nat.ne_of_lt h.lo)).trans h1, by rw [hn]; exact h2⟩, h.lo⟩
theorem RG.set1 (h : RG B M ty rest s t w) (k : Nat) : RG B M ty rest s { t with at_ := k } (w.setCell ⟨B, 1, none⟩ (.int .i64 k)) := h.set 1 _ (by simp [rblk]) rfl
theorem RG.set3 (h : RG B M ty rest s t w) (k : Nat) : RG B M ty rest s { t with flt := k } (w.setCell ⟨B, 3, none⟩ (.int .i64 k)) := h.set 3 _ (by simp [rblk]) rfl
theorem RG.set4 (h : RG B M ty rest s t w) (k : Nat) : RG B M ty rest s { t with plc := k } (w.setCell ⟨B, 4, none⟩ (.int .i64 k)) := h.set 4 _ (by simp [rblk]) rfl
end

/-! The pure reader of the code, as far as Check hangs on it. -/
def num? (s : ByteArray) (p z lo hi : Nat) : Option Nat :=
  if h : p < s.size then (if z + lo ≤ s[p].toNat ∧ s[p].toNat ≤ z + hi then some (s[p].toNat - z) else none) else none
def T.adv (t : T) : T := { t with at_ := t.at_ + 1 }
def T.blame (t : T) (f : Nat) : T := if t.flt = 0 then { t with flt := f, plc := t.at_ - 1 } else t

theorem num_lt {s : ByteArray} {p z lo hi k : Nat} (h : num? s p z lo hi = some k) : p < s.size := by
  unfold num? at h; split at h
  · assumption
  · cases h
theorem num_le {s : ByteArray} {p z lo hi k : Nat} (h : num? s p z lo hi = some k) : lo ≤ k ∧ k ≤ hi := by
  unfold num? at h; split at h
  · split at h
    · simp at h; omega
    · cases h
  · cases h
theorem cell_one_next (w : World) (o : Obj) (v : Value) (t : TypeId) : ∀ j u, [v][j]? = some u → ((w.alloc o).alloc (.cells #[v] t)).cell? ((⟨w.heap.size + 1, 0, none⟩ : Addr).add j) = some u := by
  have := cell_one_new (w.alloc o) v t
  simpa using this
theorem owned_form {w : World} {b e z n : Nat} {v : Value} {xs : List Value} (h : w.ownsRow b e z v n xs) (hn : 0 < n) : ∃ g cap, v = .slice (some ⟨g, 0, none⟩) n cap := by
  rcases h.2 with ⟨_, h0⟩ | ⟨g, cap, _, hv, _⟩
  · omega
  · exact ⟨g, cap, hv⟩
theorem func_oneCell (f : Fn) (a b : Array Value) : ∀ u ∈ [Value.func f a b], u.oneCell' = true := by
  intro u hu; simp at hu; subst hu; rfl
theorem ownBlock_ne {w : World} {B e z n : Nat} {v : Value} {xs : List Value} (h : w.ownsRow (B + 1) e z v n xs) : v.ownBlock ≠ some B := by
  intro e'; have := (h.lt B e').1; omega
theorem ownBlock_ge {w : World} {B e z n : Nat} {v : Value} {xs : List Value} (h : w.ownsRow (B + 1) e z v n xs) : ∀ k, v.ownBlock = some k → B ≤ k := by
  intro k hk; have := (h.lt k hk).1; omega

theorem two_setCell0 {w : World} {b : Nat} {v u y : Value} {t : TypeId} (h : w.heap[b]? = some (.cells #[v, u] t (0, 0))) : (w.setCell ⟨b, 0, none⟩ y).heap[b]? = some (.cells #[y, u] t (0, 0)) := heap_setCell_same w b 0 #[v, u] t y h
theorem two_setCell1 {w : World} {b : Nat} {v u y : Value} {t : TypeId} (h : w.heap[b]? = some (.cells #[v, u] t (0, 0))) : (w.setCell ⟨b, 1, none⟩ y).heap[b]? = some (.cells #[v, y] t (0, 0)) := heap_setCell_same w b 1 #[v, u] t y h
theorem two_cell0 {w : World} {b : Nat} {v u : Value} {t : TypeId} (h : w.heap[b]? = some (.cells #[v, u] t (0, 0))) : w.cell? ⟨b, 0, none⟩ = some v := by simp [World.cell?, h]
theorem two_cell1 {w : World} {b : Nat} {v u : Value} {t : TypeId} (h : w.heap[b]? = some (.cells #[v, u] t (0, 0))) : w.cell? ⟨b, 1, none⟩ = some u := by simp [World.cell?, h]
theorem two_free {w : World} {b : Nat} {v u : Value} {t : TypeId} (h : w.heap[b]? = some (.cells #[v, u] t (0, 0))) (i : Nat) : w.frozen? ⟨b, i, none⟩ = false := by simp [World.frozen?, h]

theorem owned_oneCell {w : World} {b e z n : Nat} {v : Value} {xs : List Value} (h : w.ownsRow b e z v n xs) : v.oneCell' = true := by
  rcases h.2 with ⟨rfl, _⟩ | ⟨g, cap, _, rfl, _⟩ <;> rfl

end Go.Proofs.YtkbmolodljenjaaDoor
