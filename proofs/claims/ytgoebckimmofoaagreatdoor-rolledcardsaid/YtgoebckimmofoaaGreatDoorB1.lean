import Derived.Test.YtgoebckimmofoaaGreatDoorRows
import Derived.WalkKit
import Derived.WalkSpells
import Derived.WalkLawsBesides
import Derived.Deep.QuietTactic
import Derived.BigQuiet
import Derived.Lib.TrailingZeros
import Derived.Laws.Bits64b
import Derived.Test.YtgoebckimmofoaaGreatDoorCards
import Derived.Test.YtgoebckimmofoaaGreatDoorTie
import Derived.ProofKit
import Derived.OpenShut
import Derived.Deep.DeepHandedRow
import Derived.Lib.LaidTab
import Derived.LaidMore
import Derived.MakeChecks
/- The worlds of the two readers: what stays, what a reader's block holds. Our own text. -/
namespace Go.Proofs.YtgoebckimmofoaaGreatDoor
open Go.RowKit

/-- All blocks of w but B are as they were; new ones may have come. -/
structure Ex (B : Nat) (w w' : World) : Prop where
  os : w'.os = w.os
  tape : w'.tape = w.tape
  output : w'.output = w.output
  size : w.heap.size ≤ w'.heap.size
  block : ∀ k, k < w.heap.size → k ≠ B → w'.heap[k]? = w.heap[k]?
theorem Ex.refl (B : Nat) (w : World) : Ex B w w := ⟨rfl, rfl, rfl, Nat.le_refl _, fun _ _ _ => rfl⟩
theorem Ex.trans {B : Nat} {a b c : World} (h : Ex B a b) (k : Ex B b c) : Ex B a c :=
  ⟨k.os.trans h.os, k.tape.trans h.tape, k.output.trans h.output, Nat.le_trans h.size k.size, fun i hi hB => (k.block i (Nat.lt_of_lt_of_le hi h.size) hB).trans (h.block i hi hB)⟩
theorem Ex.drewN {B : Nat} {a b : World} (h : Ex B a b) (n : Nat) : Ex B a (b.drewN n) := ⟨h.os, h.tape, h.output, h.size, h.block⟩
theorem Ex.drew {B : Nat} {a b : World} (h : Ex B a b) : Ex B a b.drew := ⟨h.os, h.tape, h.output, h.size, h.block⟩
theorem Ex.alloc {B : Nat} {a b : World} (h : Ex B a b) (o : Obj) : Ex B a (b.alloc o) :=
  h.trans ⟨rfl, rfl, rfl, by simp, fun k hk _ => Below.heap_alloc _ _ _ hk⟩
theorem Ex.setCell {B : Nat} {a b : World} (h : Ex B a b) {p : Addr} (hp : p.block = B ∨ a.heap.size ≤ p.block) (v : Value) : Ex B a (b.setCell p v) :=
  ⟨h.os, h.tape, h.output, by simpa using h.size, fun k hk hB => by rw [heap_setCell_other _ _ _ _ (by omega)]; exact h.block k hk hB⟩
theorem Ex.grown {B : Nat} {a b c : World} {row : Option Nat} (h : Ex B a b) (g : b.grownBy c row) (hr : ∀ k, row = some k → a.heap.size ≤ k) : Ex B a c :=
  ⟨g.os.trans h.os, g.tape.trans h.tape, g.output.trans h.output, Nat.le_trans h.size g.size,
   fun k hk hB => (g.block k (Nat.lt_of_lt_of_le hk h.size) (fun e => by have := hr k e.symm; omega)).trans (h.block k hk hB)⟩
theorem Ex.below {B b : Nat} {w w' : World} (h : Ex B w w') (hb : b ≤ B) (hs : b ≤ w.heap.size) : Below b w w' :=
  ⟨h.os, h.tape, h.output, h.size, fun k hk => h.block k (by omega) (by omega)⟩
theorem Ex.ownsRow {B base e size n : Nat} {v : Value} {xs : List Value} {w w' : World} (h : Ex B w w') (hB : B < base) (ho : w.ownsRow base e size v n xs) : w'.ownsRow base e size v n xs := by
  refine ⟨ho.1, ?_⟩
  rcases ho.2 with hn | ⟨g, cap, cur, rfl, hb, hg, r⟩
  · exact .inl hn
  · exact .inr ⟨g, cap, cur, rfl, hb, by rw [h.block g (lt_of_block hg) (by omega)]; exact hg, r⟩
theorem Ex.of_below {B : Nat} {w w' : World} (h : Below w.heap.size w w') : Ex B w w' := ⟨h.os, h.tape, h.output, h.size, fun k hk _ => h.block k hk⟩
/-- Rows of different element types lie in different blocks. -/
theorem apart_of_types {w : World} {b1 b2 e1 e2 s1 s2 n1 n2 : Nat} {v1 v2 : Value} {xs1 xs2 : List Value} (h1 : w.ownsRow b1 e1 s1 v1 n1 xs1) (h2 : w.ownsRow b2 e2 s2 v2 n2 xs2) (hne : e1 ≠ e2) : v1.ownBlock = none ∨ v1.ownBlock ≠ v2.ownBlock := by
  rcases h1.2 with ⟨rfl, _⟩ | ⟨g, _, _, rfl, _, hg, _⟩
  · exact .inl rfl
  · right
    rcases h2.2 with ⟨rfl, _⟩ | ⟨g', _, _, rfl, _, hg', _⟩
    · simp [Value.ownBlock]
    · simp only [Value.ownBlock, ne_eq, Option.some.injEq]
      intro e
      rw [e] at hg; rw [hg] at hg'
      simp at hg'
      exact hne hg'.2
theorem ne_block_of_type {w : World} {b e s n c t : Nat} {v : Value} {xs : List Value} {cs : Array Value} {fz : Nat × Nat} (h1 : w.ownsRow b e s v n xs) (h2 : w.heap[c]? = some (.cells cs t fz)) (hne : e ≠ t) : v.ownBlock ≠ some c := by
  rcases h1.2 with ⟨rfl, _⟩ | ⟨g, _, _, rfl, _, hg, _⟩
  · simp [Value.ownBlock]
  · simp only [Value.ownBlock, ne_eq, Option.some.injEq]
    intro e'
    rw [e'] at hg; rw [hg] at h2
    simp at h2
    exact hne h2.2.1

/-- What Check hangs on of the code's reader. -/
structure T where
  at_ : Nat
  n : Nat
  nr : Nat
  chd : Nat
  flt : Nat
  plc : Nat
/-- What it does not hang on. -/
structure Junk where
  g0 : Int
  f0 : Int
  g1 : Int
  f1 : Int
  g2 : Int
  f2 : Int
  vr : Value
  vc : Value
  vh : Value
/-- The code's reader in block B, over a machine in block M; rest: what its block holds besides. -/
def rblk (s : ByteArray) (M : Nat) (t : T) (rest : List Value) : Array Value :=
  (.string s :: .int .i64 t.at_ :: .pointer (some ⟨M, 0, none⟩) :: .int .i64 t.flt :: .int .i64 t.plc :: rest : List Value).toArray
structure RG (B M : Nat) (ty : TypeId) (rest : List Value) (s : ByteArray) (t : T) (w : World) : Prop where
  blk : w.heap[B]? = some (.cells (rblk s M t rest) ty (0, 0))
  cnt : ∃ cs mty, w.heap[M]? = some (.cells cs mty (0, 0)) ∧ cs[6]? = some (.int .i64 t.n)
  lo : M < B
section
variable {B M : Nat} {ty : TypeId} {rest : List Value} {s : ByteArray} {t : T} {w w' : World}
theorem RG.lt (h : RG B M ty rest s t w) : B < w.heap.size := lt_of_block h.blk
theorem RG.c0 (h : RG B M ty rest s t w) : w.cell? ⟨B, 0, none⟩ = some (.string s) := by simp [World.cell?, h.blk, rblk]
theorem RG.c1 (h : RG B M ty rest s t w) : w.cell? ⟨B, 1, none⟩ = some (.int .i64 t.at_) := by simp [World.cell?, h.blk, rblk]
theorem RG.c2 (h : RG B M ty rest s t w) : w.cell? ⟨B, 2, none⟩ = some (.pointer (some ⟨M, 0, none⟩)) := by simp [World.cell?, h.blk, rblk]
theorem RG.c3 (h : RG B M ty rest s t w) : w.cell? ⟨B, 3, none⟩ = some (.int .i64 t.flt) := by simp [World.cell?, h.blk, rblk]
theorem RG.c4 (h : RG B M ty rest s t w) : w.cell? ⟨B, 4, none⟩ = some (.int .i64 t.plc) := by simp [World.cell?, h.blk, rblk]
theorem RG.free (h : RG B M ty rest s t w) (i : Nat) : w.frozen? ⟨B, i, none⟩ = false := by simp [World.frozen?, h.blk]
theorem RG.cM (h : RG B M ty rest s t w) : w.cell? ⟨M, 6, none⟩ = some (.int .i64 t.n) := by
  obtain ⟨cs, mty, h1, h2⟩ := h.cnt
  simp [World.cell?, h1, h2]
theorem RG.move (h : RG B M ty rest s t w) (e1 : w'.heap[B]? = w.heap[B]?) (e2 : w'.heap[M]? = w.heap[M]?) : RG B M ty rest s t w' :=
  ⟨e1.trans h.blk, by obtain ⟨cs, mty, h1, h2⟩ := h.cnt; exact ⟨cs, mty, e2.trans h1, h2⟩, h.lo⟩
theorem RG.drewN (h : RG B M ty rest s t w) (n : Nat) : RG B M ty rest s t (w.drewN n) := h.move rfl rfl
theorem RG.drew (h : RG B M ty rest s t w) : RG B M ty rest s t w.drew := h.move rfl rfl
theorem RG.alloc (h : RG B M ty rest s t w) (o : Obj) : RG B M ty rest s t (w.alloc o) := h.move (Below.heap_alloc _ _ _ h.lt) (Below.heap_alloc _ _ _ (Nat.lt_trans h.lo h.lt))
theorem RG.set_other (h : RG B M ty rest s t w) {p : Addr} (hp : p.block ≠ B) (hq : p.block ≠ M) (v : Value) : RG B M ty rest s t (w.setCell p v) :=
  h.move (heap_setCell_other _ _ _ _ (fun e => hp e.symm)) (heap_setCell_other _ _ _ _ (fun e => hq e.symm))
theorem RG.grown {row : Option Nat} (h : RG B M ty rest s t w) (g : w.grownBy w' row) (hr : row ≠ some B) (hq : row ≠ some M) : RG B M ty rest s t w' :=
  h.move (g.block B h.lt (fun e => hr e.symm)) (g.block M (Nat.lt_trans h.lo h.lt) (fun e => hq e.symm))
theorem RG.set (h : RG B M ty rest s t w) (i : Nat) (v : Value) {t' : T} {rest' : List Value} (e : (rblk s M t rest).setIfInBounds i v = rblk s M t' rest') (hn : t'.n = t.n) : RG B M ty rest' s t' (w.setCell ⟨B, i, none⟩ v) := by
  have := heap_setCell_same w B i (rblk s M t rest) ty v h.blk
  rw [e] at this
  obtain ⟨cs, mty, h1, h2⟩ := h.cnt
  exact ⟨this, ⟨cs, mty, (heap_setCell_other _ _ _ _ (show M ≠ B from Nat.ne_of_lt h.lo)).trans h1, by rw [hn]; exact h2⟩, h.lo⟩
theorem RG.set1 (h : RG B M ty rest s t w) (k : Nat) : RG B M ty rest s { t with at_ := k } (w.setCell ⟨B, 1, none⟩ (.int .i64 k)) := h.set 1 _ (by simp [rblk]) rfl
theorem RG.set3 (h : RG B M ty rest s t w) (k : Nat) : RG B M ty rest s { t with flt := k } (w.setCell ⟨B, 3, none⟩ (.int .i64 k)) := h.set 3 _ (by simp [rblk]) rfl
theorem RG.set4 (h : RG B M ty rest s t w) (k : Nat) : RG B M ty rest s { t with plc := k } (w.setCell ⟨B, 4, none⟩ (.int .i64 k)) := h.set 4 _ (by simp [rblk]) rfl
end

/-! The pure reader of the code, as far as Check hangs on it. -/
def num? (s : ByteArray) (p z lo hi : Nat) : Option Nat :=
  if h : p < s.size then (if z + lo ≤ s[p].toNat ∧ s[p].toNat ≤ z + hi then some (s[p].toNat - z) else none) else none
def T.adv (t : T) : T := { t with at_ := t.at_ + 1 }
def T.blame (t : T) (f : Nat) : T := if t.flt = 0 then { t with flt := f, plc := t.at_ - 1 } else t

theorem num_lt {s : ByteArray} {p z lo hi k : Nat} (h : num? s p z lo hi = some k) : p < s.size := by
  unfold num? at h; split at h
  · assumption
  · cases h
theorem num_le {s : ByteArray} {p z lo hi k : Nat} (h : num? s p z lo hi = some k) : lo ≤ k ∧ k ≤ hi := by
  unfold num? at h; split at h
  · split at h
    · simp at h; omega
    · cases h
  · cases h
theorem owned_form {w : World} {b e z n : Nat} {v : Value} {xs : List Value} (h : w.ownsRow b e z v n xs) (hn : 0 < n) : ∃ g cap, v = .slice (some ⟨g, 0, none⟩) n cap := by
  rcases h.2 with ⟨_, h0⟩ | ⟨g, cap, _, hv, _⟩
  · omega
  · exact ⟨g, cap, hv⟩
theorem func_oneCell (f : Fn) (a b : Array Value) : ∀ u ∈ [Value.func f a b], u.oneCell' = true := by
  intro u hu; simp at hu; subst hu; rfl
theorem ownBlock_ne {w : World} {B e z n : Nat} {v : Value} {xs : List Value} (h : w.ownsRow (B + 1) e z v n xs) : v.ownBlock ≠ some B := by
  intro e'; have := (h.lt B e').1; omega
theorem two_setCell0 {w : World} {b : Nat} {v u y : Value} {t : TypeId} (h : w.heap[b]? = some (.cells #[v, u] t (0, 0))) : (w.setCell ⟨b, 0, none⟩ y).heap[b]? = some (.cells #[y, u] t (0, 0)) := heap_setCell_same w b 0 #[v, u] t y h
theorem two_setCell1 {w : World} {b : Nat} {v u y : Value} {t : TypeId} (h : w.heap[b]? = some (.cells #[v, u] t (0, 0))) : (w.setCell ⟨b, 1, none⟩ y).heap[b]? = some (.cells #[v, y] t (0, 0)) := heap_setCell_same w b 1 #[v, u] t y h
theorem two_cell0 {w : World} {b : Nat} {v u : Value} {t : TypeId} (h : w.heap[b]? = some (.cells #[v, u] t (0, 0))) : w.cell? ⟨b, 0, none⟩ = some v := by simp [World.cell?, h]
theorem two_cell1 {w : World} {b : Nat} {v u : Value} {t : TypeId} (h : w.heap[b]? = some (.cells #[v, u] t (0, 0))) : w.cell? ⟨b, 1, none⟩ = some u := by simp [World.cell?, h]
theorem two_free {w : World} {b : Nat} {v u : Value} {t : TypeId} (h : w.heap[b]? = some (.cells #[v, u] t (0, 0))) (i : Nat) : w.frozen? ⟨b, i, none⟩ = false := by simp [World.frozen?, h]

theorem owned_oneCell {w : World} {b e z n : Nat} {v : Value} {xs : List Value} (h : w.ownsRow b e z v n xs) : v.oneCell' = true := by
  rcases h.2 with ⟨rfl, _⟩ | ⟨g, cap, _, rfl, _⟩ <;> rfl

end Go.Proofs.YtgoebckimmofoaaGreatDoor

/- Sets as bits, as lists; states as numbers, and their texts. Pure. Our own text. -/
namespace Go.Proofs.YtgoebckimmofoaaGreatDoor

/-- The members of a set of states, rising. -/
def mem (m : Nat) : List (Fin 64) := (List.finRange 64).filter (fun i => m.testBit i.val)
theorem mem_zero : mem 0 = [] := by simp [mem]

theorem and_pred (k q : Nat) (j : Nat) : ((2 ^ k * (2 * q + 1)) &&& (2 ^ k * (2 * q + 1) - 1)).testBit j = ((2 ^ k * (2 * q + 1)).testBit j && decide (j ≠ k)) := by
  have e : 2 ^ k * (2 * q + 1) - 1 = 2 ^ k * (2 * q) + (2 ^ k - 1) := by
    have h := Nat.pos_of_ne_zero (n := 2 ^ k) (by simp)
    rw [Nat.mul_add]; omega
  have h := Nat.pos_of_ne_zero (n := 2 ^ k) (by simp)
  rw [Nat.testBit_and, e]
  rw [Nat.testBit_two_pow_mul_add _ (by omega)]
  have e0 : (2 ^ k * (2 * q + 1)).testBit j = (decide (k ≤ j) && (2 * q + 1).testBit (j - k)) := by
    rw [Nat.mul_comm, Nat.testBit_mul_two_pow]
  rw [e0]
  by_cases h1 : j < k
  · have : ¬ k ≤ j := by omega
    simp [h1, this]
  · by_cases h2 : j = k
    · subst h2; simp
    · obtain ⟨d, rfl⟩ : ∃ d, j = k + (d + 1) := ⟨j - k - 1, by omega⟩
      have e3 : k + (d + 1) - k = d + 1 := by omega
      have e4 : (2 * q + 1) / 2 = q := by omega
      have e5 : (2 * q) / 2 = q := by omega
      rw [if_neg h1, e3, Nat.testBit_succ, Nat.testBit_succ, e4, e5]
      simp

theorem low_spec (m : Nat) (h0 : m ≠ 0) (h : m < 2 ^ 64) : Go.Lib.ctz 64 m < 64 ∧ m.testBit (Go.Lib.ctz 64 m) = true ∧ (∀ j, j < Go.Lib.ctz 64 m → m.testBit j = false) ∧ ∀ j, (m &&& (m - 1)).testBit j = (m.testBit j && decide (j ≠ Go.Lib.ctz 64 m)) := by
  obtain ⟨q, hm, hk⟩ := Go.Lib.ctzFrom_spec 64 m (by omega) h
  have e : Go.Lib.ctz 64 m = Go.Lib.ctzFrom 64 m := by simp [Go.Lib.ctz, h0]
  rw [e]
  generalize Go.Lib.ctzFrom 64 m = k at hm hk
  subst hm
  refine ⟨hk, ?_, ?_, fun j => and_pred k q j⟩
  · rw [Nat.mul_comm, Nat.testBit_mul_two_pow]; simp
  · intro j hj
    rw [Nat.mul_comm, Nat.testBit_mul_two_pow]
    have : ¬ k ≤ j := by omega
    simp [this]

theorem filter_first {α : Type} (p q : α → Bool) (x : α) : ∀ (l : List α), l.Nodup → x ∈ l → p x = true → (∀ y, q y = true ↔ (p y = true ∧ y ≠ x)) → (∀ (i j : Nat) (hi : i < l.length) (hj : j < l.length), l[j] = x → i < j → p l[i] = false) → l.filter p = x :: l.filter q
  | [], _, hx, _, _, _ => by simp at hx
  | y :: l, hn, hx, hp, hq, hf => by
    by_cases hy : y = x
    · subst hy
      have hqy : q y = false := by
        cases h : q y with
        | false => rfl
        | true => exact absurd rfl ((hq y).1 h).2
      rw [List.filter_cons_of_pos hp, List.filter_cons_of_neg (by simp [hqy])]
      congr 1
      apply List.filter_congr
      intro z hz
      have hzy : z ≠ y := fun e => by subst e; exact (List.nodup_cons.1 hn).1 hz
      cases h : p z with
      | false =>
        cases h2 : q z with
        | false => rfl
        | true => rw [((hq z).1 h2).1] at h; cases h
      | true => exact ((hq z).2 ⟨h, hzy⟩).symm
    · have hx' : x ∈ l := by
        rcases List.mem_cons.1 hx with h | h
        · exact absurd h.symm hy
        · exact h
      obtain ⟨j, hj, hjx⟩ := List.mem_iff_getElem.1 hx'
      have hpy : p y = false := hf 0 (j + 1) (by simp) (by simp; omega) (by simpa using hjx) (by omega)
      have hqy : q y = false := by
        cases h : q y with
        | false => rfl
        | true => rw [((hq y).1 h).1] at hpy; cases hpy
      rw [List.filter_cons_of_neg (by simp [hpy]), List.filter_cons_of_neg (by simp [hqy])]
      exact filter_first p q x l (List.nodup_cons.1 hn).2 hx' hp hq (fun i j hi hj hjx hij => hf (i + 1) (j + 1) (by simp; omega) (by simp; omega) (by simpa using hjx) (by omega))

theorem mem_step (m : Nat) (h0 : m ≠ 0) (h : m < 2 ^ 64) : mem m = ⟨Go.Lib.ctz 64 m, (low_spec m h0 h).1⟩ :: mem (m &&& (m - 1)) := by
  obtain ⟨h1, h2, h3, h4⟩ := low_spec m h0 h
  unfold mem
  refine filter_first _ _ _ _ (by decide +kernel) (by simp) h2 ?_ ?_
  · intro y
    rw [h4]
    simp [Fin.ext_iff]
  · intro i j hi hj he hij
    simp only [List.getElem_finRange] at he ⊢
    have he' := congrArg Fin.val he
    simp at he'
    exact h3 _ (by simp; omega)
theorem mem_len (m : Nat) : (mem m).length ≤ 64 := by
  have := List.length_filter_le (fun i : Fin 64 => m.testBit i.val) (List.finRange 64)
  simpa [mem] using this
end Go.Proofs.YtgoebckimmofoaaGreatDoor

namespace Go.Proofs.YtgoebckimmofoaaGreatDoor

/-- The members of a set of values, rising. -/
def mem4 (m : Nat) : List (Fin 4) := (List.finRange 4).filter (fun i => m.testBit i.val)
theorem mem4_zero : mem4 0 = [] := by simp [mem4]
theorem low4_lt : ∀ m : Fin 16, m.val ≠ 0 → Go.Lib.ctz 64 m.val < 4 := by decide +kernel
theorem mem4_step_fin : ∀ m : Fin 16, (h : m.val ≠ 0) → mem4 m.val = ⟨Go.Lib.ctz 64 m.val, low4_lt m h⟩ :: mem4 (m.val &&& (m.val - 1)) := by decide +kernel
theorem mem4_step (m : Nat) (h0 : m ≠ 0) (h : m < 16) : ∃ hl : Go.Lib.ctz 64 m < 4, mem4 m = ⟨Go.Lib.ctz 64 m, hl⟩ :: mem4 (m &&& (m - 1)) := ⟨low4_lt ⟨m, h⟩ h0, mem4_step_fin ⟨m, h⟩ h0⟩
theorem mem4_len (m : Nat) : (mem4 m).length ≤ 4 := by
  have := List.length_filter_le (fun i : Fin 4 => m.testBit i.val) (List.finRange 4)
  simpa [mem4] using this

/-- The value of variable k in a state. -/
def dig (x k : Nat) : Nat := x / 4 ^ (2 - k) % 4
/-- The state with another value there. -/
def stW (x k v : Nat) : Nat := x / 4 ^ (3 - k) * 4 ^ (3 - k) + v * 4 ^ (2 - k) + x % 4 ^ (2 - k)
theorem stW_fin : ∀ (k : Fin 3) (v : Fin 4) (x : Fin 64), stW x k v < 64 ∧ ∀ j : Fin 3, dig (stW x k v) j = if j = k then v.val else dig x j := by decide +kernel
theorem stW_lt {x k v : Nat} (hx : x < 64) (hk : k < 3) (hv : v < 4) : stW x k v < 64 := (stW_fin ⟨k, hk⟩ ⟨v, hv⟩ ⟨x, hx⟩).1
theorem dig_stW {x k v j : Nat} (hx : x < 64) (hk : k < 3) (hv : v < 4) (hj : j < 3) : dig (stW x k v) j = if j = k then v else dig x j := by
  have := (stW_fin ⟨k, hk⟩ ⟨v, hv⟩ ⟨x, hx⟩).2 ⟨j, hj⟩
  simpa [Fin.ext_iff] using this
theorem dig_zero (j : Nat) : dig 0 j = 0 := by simp [dig]

/-- Every one of the values, in one state; in every one of the states. -/
def spr1 (out x k : Nat) (vs : List (Fin 4)) : Nat := vs.foldl (fun o v => o ||| 2 ^ stW x k v.val) out
def sprP (xs : List (Fin 64)) (k : Nat) (vs : List (Fin 4)) : Nat := xs.foldl (fun o x => spr1 o x.val k vs) 0
theorem spr1_snoc (out x k : Nat) (vs : List (Fin 4)) (v : Fin 4) : spr1 out x k (vs ++ [v]) = spr1 out x k vs ||| 2 ^ stW x k v.val := by simp [spr1]
theorem sprP_snoc (xs : List (Fin 64)) (x : Fin 64) (k : Nat) (vs : List (Fin 4)) : sprP (xs ++ [x]) k vs = spr1 (sprP xs k vs) x.val k vs := by simp [sprP]
theorem or_pow_lt {a k : Nat} (ha : a < 2 ^ 64) (hk : k < 64) : a ||| 2 ^ k < 2 ^ 64 := Nat.or_lt_two_pow ha (Nat.pow_lt_pow_right (by decide) hk)
theorem spr1_lt {x k : Nat} (hx : x < 64) (hk : k < 3) : ∀ (vs : List (Fin 4)) (out : Nat), out < 2 ^ 64 → spr1 out x k vs < 2 ^ 64
  | [], _, h => h
  | v :: vs, out, h => spr1_lt hx hk vs (out ||| 2 ^ stW x k v.val) (or_pow_lt h (stW_lt hx hk v.2))
theorem sprP_lt_from {k : Nat} (hk : k < 3) (vs : List (Fin 4)) : ∀ (xs : List (Fin 64)) (out : Nat), out < 2 ^ 64 → xs.foldl (fun o x => spr1 o x.val k vs) out < 2 ^ 64
  | [], _, h => h
  | x :: xs, out, h => sprP_lt_from hk vs xs _ (spr1_lt x.2 hk vs out h)
theorem sprP_lt {k : Nat} (hk : k < 3) (vs : List (Fin 4)) (xs : List (Fin 64)) : sprP xs k vs < 2 ^ 64 := sprP_lt_from hk vs xs 0 (by decide)

/-- The set, spread. -/
def spr (m k f : Nat) : Nat := sprP (mem m) k (mem4 f)
theorem spr_lt {m k f : Nat} (hk : k < 3) : spr m k f < 2 ^ 64 := sprP_lt hk _ _
/-! Texts. -/
def digs (n x : Nat) : List Nat := (List.range n).map (dig x)
end Go.Proofs.YtgoebckimmofoaaGreatDoor

/- The sets as bits: the program's functions on them. Our own text. -/
namespace Go.Proofs.YtgoebckimmofoaaGreatDoor
open Go.RowKit Go.Lib

/-- Put aside, out of the walker's sight. -/
structure Put (p : Prop) : Prop where
  out : p

/-- The table behind math/bits. -/
def Tab (w : World) : Prop := ∀ k, k < 64 → w.cell? ⟨0, k, none⟩ = some (.int .u8 ((deBruijn64tab.getD k 0 : Nat) : Int))
theorem Tab.below {n : Nat} {w w' : World} (h : Tab w) (hb : Below n w w') (hn : 0 < n) : Tab w' := fun k hk => (hb.cell (p := ⟨0, k, none⟩) hn).trans (h k hk)
theorem Tab.drewN {w : World} (h : Tab w) (n : Nat) : Tab (w.drewN n) := h

theorem wrap_u64 (z : Int) : IntKind.u64.wrap z = z % 18446744073709551616 := by
  simp [IntKind.wrap, IntKind.signed, IntKind.bits]
theorem p64 : (2 : Nat) ^ 64 = 18446744073709551616 := by decide
theorem tz_neg (x : Nat) (h0 : x ≠ 0) (hx : x < 18446744073709551616) : IntKind.u64.wrap (-(x : Int)) = ((18446744073709551616 - x : Nat) : Int) := by
  rw [wrap_u64]; omega
theorem tz_and (x : Nat) (h0 : x ≠ 0) (hx : x < 18446744073709551616) : bits .and .u64 (x : Int) (IntKind.u64.wrap (-(x : Int))) = ((2 ^ ctz 64 x : Nat) : Int) := by
  have h1 := (lowest_bit 64 x h0 (by rw [p64]; exact hx)).1
  rw [p64] at h1
  rw [tz_neg x h0 hx, bits_and_u64_nat _ _ hx (by omega), h1]
theorem tz_idx (x : Nat) (h0 : x ≠ 0) (hx : x < 18446744073709551616) : ∃ k : Nat, k < 64 ∧ deBruijn64tab.getD k 0 = ctz 64 x ∧ IntKind.u64.wrap (bits .and .u64 (x : Int) (IntKind.u64.wrap (-(x : Int))) * 285870213051353865) / 288230376151711744 = (k : Int) := by
  have h2 := (lowest_bit 64 x h0 (by rw [p64]; exact hx)).2
  obtain ⟨h3, h4⟩ := deBruijn64_at (ctz 64 x) h2
  refine ⟨_, h3, h4, ?_⟩
  rw [tz_and x h0 hx, wrap_u64]
  generalize 2 ^ ctz 64 x = y
  omega

theorem tz_any (x : Nat) (h0 : x ≠ 0) (hx : x < 18446744073709551616) (w : World) (hT : Tab w) :
    Calls Tryz.prog 80 #[.int .u64 x] w fun e w' => e = .returned (.int .i64 (ctz 64 x : Nat)) ∧ w' = w := by
  obtain ⟨k, h3, h4, hidx⟩ := tz_idx x h0 hx
  have hc := hT _ h3
  rw [h4] at hc
  have hk1 : (0 : Int) ≤ (k : Int) := by omega
  have hk2 : (k : Int) < 64 := by omega
  have hx0 : ((x : Int) == 0) = false := by simp; omega
  have hy := (lowest_bit 64 x h0 (by rw [p64]; exact hx)).2
  generalize ctz 64 x = y at *
  have hyw : wrap64 (y : Int) = (y : Int) := by unfold wrap64; omega
  clear h4 hT
  go_enter Tryz.func80, Tryz.ntmps80
  go_wp2
  go_ret
  exact ⟨rfl, rfl⟩

theorem pow_lt64 {n : Nat} (hn : n < 64) : 2 ^ n < 18446744073709551616 := by rw [← p64]; exact Nat.pow_lt_pow_right (by decide) hn
theorem wrap_pow {n : Nat} (hn : n < 64) : IntKind.u64.wrap (2 ^ n) = ((2 ^ n : Nat) : Int) := by
  have h := pow_lt64 hn
  rw [wrap_u64]
  have e : ((2 : Int) ^ n) = ((2 ^ n : Nat) : Int) := by simp
  rw [e]
  generalize 2 ^ n = y at h
  omega
theorem one64_any (n : Nat) (hn : n < 64) (w : World) :
    Calls Tryz.prog 82 #[.int .i64 n] w fun e w' => e = .returned (.int .u64 (2 ^ n : Nat)) ∧ w' = w := by
  have h0 : decide ((n : Int) < 0) = false := by simp
  go_enter Tryz.func82, Tryz.ntmps82
  go_wp2
  go_ret
  refine ⟨?_, rfl⟩
  show Ending.returned (Value.int .u64 (IntKind.u64.wrap (2 ^ n))) = _
  rw [wrap_pow hn]
theorem with64_any (m n : Nat) (hm : m < 18446744073709551616) (hn : n < 64) (w : World) :
    Calls Tryz.prog 49 #[.int .u64 m, .int .i64 n] w fun e w' => e = .returned (.int .u64 (m ||| 2 ^ n : Nat)) ∧ w' = w := by
  have hb := bits_or_u64_nat m (2 ^ n) hm (pow_lt64 hn)
  go_enter Tryz.func49, Tryz.ntmps49
  go_wp2_with fail
  refine (one64_any n hn w).mono ?_
  rintro e w' ⟨rfl, rfl⟩
  go_wp2
  go_ret
  refine ⟨?_, rfl⟩
  show Ending.returned (Value.int .u64 (bits .or .u64 (m : Int) ((2 ^ n : Nat) : Int))) = _
  rw [hb]
theorem shift_any (k : Nat) (hk : k < 3) (w : World) : Calls Tryz.prog 98 #[.int .i64 k] w fun e w' => e = .returned (.int .i64 (2 * (2 - k) : Nat)) ∧ w' = w := by
  go_enter Tryz.func98, Tryz.ntmps98
  go_wp2
  go_ret
  refine ⟨?_, rfl⟩
  obtain rfl | rfl | rfl : k = 0 ∨ k = 1 ∨ k = 2 := by omega
  all_goals rfl
theorem value_fin : ∀ (x : Fin 64) (k : Fin 3), bits .and .i64 (wrap64 ((x.val : Int) / 2 ^ (2 * (2 - k.val)))) 3 = (dig x.val k.val : Int) := by decide +kernel
theorem value_any (x k : Nat) (hx : x < 64) (hk : k < 3) (w : World) : Calls Tryz.prog 81 #[.int .u8 x, .int .i64 k] w fun e w' => e = .returned (.int .i64 (dig x k : Nat)) ∧ w' = w := by
  have hs : decide (((2 * (2 - k) : Nat) : Int) < 0) = false := by simp; omega
  have hv := value_fin ⟨x, hx⟩ ⟨k, hk⟩
  simp only at hv
  have HV : Put (_ = _) := ⟨hv⟩
  clear hv
  go_enter Tryz.func81, Tryz.ntmps81
  go_wp2_with fail
  refine (shift_any k hk w).mono ?_
  rintro e w' ⟨rfl, rfl⟩
  go_wp2
  go_ret
  refine ⟨?_, rfl⟩
  show Ending.returned (Value.int .i64 (bits .and .i64 (wrap64 ((x : Int) / 2 ^ (2 * (2 - k)))) 3)) = _
  rw [HV.out]
theorem with_fin : ∀ (x : Fin 64) (k : Fin 3) (v : Fin 4), bits .or .u8 (bits .andNot .u8 (x.val : Int) (3 * 2 ^ (2 * (2 - k.val)) % 256)) ((v.val : Int) * 2 ^ (2 * (2 - k.val)) % 256) = (stW x.val k.val v.val : Int) := by decide +kernel
theorem with_any (x k v : Nat) (hx : x < 64) (hk : k < 3) (hv : v < 4) (w : World) : Calls Tryz.prog 62 #[.int .u8 x, .int .i64 k, .int .i64 v] w fun e w' => e = .returned (.int .u8 (stW x k v : Nat)) ∧ ∃ m, w' = w.drewN m := by
  have hs : decide (((2 * (2 - k) : Nat) : Int) < 0) = false := by simp; omega
  have HV : Put (_ = _) := ⟨with_fin ⟨x, hx⟩ ⟨k, hk⟩ ⟨v, hv⟩⟩
  go_enter Tryz.func62, Tryz.ntmps62
  go_wp2_with fail
  go_quiet ((go_at_call 98; exact Calls.quiet_of_same (shift_any k hk _)))
  go_wp2
  go_ret
  refine ⟨?_, _, rfl⟩
  exact congrArg (fun z => Ending.returned (Value.int .u8 z)) HV.out
/-! Values: small sets. -/
theorem one8_any (n : Nat) (hn : n < 8) (w : World) :
    Calls Tryz.prog 148 #[.int .i64 n] w fun e w' => e = .returned (.int .u8 (2 ^ n : Nat)) ∧ w' = w := by
  have h0 : decide ((n : Int) < 0) = false := by simp
  go_enter Tryz.func148, Tryz.ntmps148
  go_wp2
  go_ret
  refine ⟨?_, rfl⟩
  obtain rfl | rfl | rfl | rfl | rfl | rfl | rfl | rfl : n = 0 ∨ n = 1 ∨ n = 2 ∨ n = 3 ∨ n = 4 ∨ n = 5 ∨ n = 6 ∨ n = 7 := by omega
  all_goals rfl
theorem or8_fin : ∀ (m : Fin 256) (n : Fin 8), bits .or .u8 (m.val : Int) ((2 ^ n.val : Nat) : Int) = ((m.val ||| 2 ^ n.val : Nat) : Int) := by decide +kernel
theorem with8_any (m n : Nat) (hm : m < 256) (hn : n < 8) (w : World) :
    Calls Tryz.prog 108 #[.int .u8 m, .int .i64 n] w fun e w' => e = .returned (.int .u8 (m ||| 2 ^ n : Nat)) ∧ w' = w := by
  have HV : Put (_ = _) := ⟨or8_fin ⟨m, hm⟩ ⟨n, hn⟩⟩
  go_enter Tryz.func108, Tryz.ntmps108
  go_wp2_with fail
  refine (one8_any n hn w).mono ?_
  rintro e w' ⟨rfl, rfl⟩
  go_wp2
  go_ret
  refine ⟨?_, rfl⟩
  exact congrArg (fun z => Ending.returned (Value.int .u8 z)) HV.out
theorem below8_any (n : Nat) (h1 : 1 ≤ n) (hn : n ≤ 4) (w : World) :
    Calls Tryz.prog 153 #[.int .i64 n] w fun e w' => e = .returned (.int .u8 (2 ^ n - 1 : Nat)) ∧ w' = w := by
  have h0 : decide ((n : Int) ≤ 0) = false := by simp; omega
  go_enter Tryz.func153, Tryz.ntmps153
  go_wp2_with fail
  refine (one8_any n (by omega) w).mono ?_
  rintro e w' ⟨rfl, rfl⟩
  go_wp2
  go_ret
  refine ⟨?_, rfl⟩
  obtain rfl | rfl | rfl | rfl : n = 1 ∨ n = 2 ∨ n = 3 ∨ n = 4 := by omega
  all_goals rfl
end Go.Proofs.YtgoebckimmofoaaGreatDoor

/- The laid world of this seat's witnesses. Our own text. -/
namespace Go.Proofs.YtgoebckimmofoaaGreatDoor
open Go.ChangeShapes Go.WideShapes Go.ChangeAt Go.RowKit

theorem own : ownKnob Tryz.prog.godebug = none := by kernel_rfl

end Go.Proofs.YtgoebckimmofoaaGreatDoor

namespace Go.Proofs.YtgoebckimmofoaaGreatDoor
open Go.RowKit Go.Lib

theorem tab_fin : ∀ k : _root_.Fin 64, (deBruijn64tab.map Int.ofNat).getD k.val 0 = ((deBruijn64tab.getD k.val 0 : Nat) : Int) := by decide +kernel
theorem tab_of_laid {W : World} (h : laidMetH Tryz.prog [("math/bits.deBruijn64tab", Rows.laid_math_bits_deBruijn64tab)] W) : 0 < W.heap.size ∧ Tab W := by
  rw [MakeChecks.laidMetH_plain _ _ _ (by kernel_rfl)] at h
  have h' : laidMet Tryz.prog [("math/bits.deBruijn64tab", tabData .u8 (deBruijn64tab.map Int.ofNat))] W := h
  have hT : TabIs Tryz.prog W "math/bits.deBruijn64tab" .u8 (deBruijn64tab.map Int.ofNat) :=
    tabIs_of_head (g := 0) (t := 228) (e := 5) (n := 64) (by kernel_rfl) (by kernel_rfl) (by kernel_rfl) (by kernel_rfl) (by kernel_rfl) (by kernel_rfl) h'
  have hc : Tab W := fun k hk => by
    have := hT.cell (g := 0) (by kernel_rfl) k (by simpa [deBruijn64tab] using hk)
    rw [tab_fin ⟨k, hk⟩] at this
    exact this
  refine ⟨?_, hc⟩
  have := hc 0 (by omega)
  rcases Nat.eq_zero_or_pos W.heap.size with h0 | h0
  · simp [World.cell?, h0] at this
  · exact h0
end Go.Proofs.YtgoebckimmofoaaGreatDoor

/- A tied card of a program that has a go statement somewhere. Our own text. -/
namespace Go.Proofs.YtgoebckimmofoaaGreatDoor
open Go
theorem tied_goes (Lk : Looks) {p : Pinned} {s : OpenSpec} {c : OpenClaim} (g : Bool) (kinds : List LaidKind) (tests : Bool) (har : Bool × String) (lk : Bool)
    (hc : c.holds p s) (hw : c.wfByText s = true) (htie : c.laidByTextAt Lk p kinds tests)
    (hst : c.start = .entering) (hnb : c.noBlocks = false ∧ c.again = false) (hm : p.checked.prog.mainIs = some (har.1, har.2.toList)) (hn : (!har.1 && har.2.isEmpty && !lk) = false)
    (hl : ∀ f fn, p.checked.prog.funcNamed c.func = some f → p.checked.prog.funcs[f]? = some fn → lk = p.checked.prog.looks [] ∧ ∀ (j : Nat) t, fn.params[j]? = some t → p.checked.prog.wantsStandIn t = false)
    (hg : g = c.goesBy p.checked.prog) :
    Claim7.holds p (.plain s) { stood := { row := c, standIns := [], harness := har, looks := lk }, kinds := [], alts := [], goes := g, laidByText := true, laidKinds := kinds, laidTests := tests, laidLooks := Lk } := by
  have h6 : ∀ r : OpenClaim, Claim7.isSixth { stood := { row := r, standIns := [], harness := har, looks := lk }, kinds := [] } = false := fun r => by simpa [Claim7.isSixth] using hn
  have h := Claim7.tied_new_at Lk kinds tests (Claim7.new_of_sixth hc har lk hst hnb hm (h6 c) hl) hw
  exact ⟨h, (fun D hD => by cases hD), htie, (fun h => by cases h), hg⟩
end Go.Proofs.YtgoebckimmofoaaGreatDoor

/- The code's reader: its small steps. Our own text. -/
namespace Go.Proofs.YtgoebckimmofoaaGreatDoor
open Go.RowKit

theorem num_ways {s : ByteArray} {p z lo hi : Nat} (h : num? s p z lo hi = none) (hp : p ≤ s.size) : p = s.size ∨ ∃ h : p < s.size, (s[p].toNat < z + lo ∨ z + hi < s[p].toNat) := by
  unfold num? at h; split at h
  · next h' => split at h
               · cases h
               · exact .inr ⟨h', by omega⟩
  · exact .inl (by omega)
theorem num_some {s : ByteArray} {p z lo hi k : Nat} (h : num? s p z lo hi = some k) : ∃ h : p < s.size, z + lo ≤ s[p].toNat ∧ s[p].toNat ≤ z + hi ∧ k = s[p].toNat - z := by
  unfold num? at h; split at h
  · next h' => split at h
               · simp at h; exact ⟨h', by omega, by omega, by omega⟩
               · cases h
  · cases h

section
variable {B M : Nat} {ty : TypeId} {rest : List Value} {s : ByteArray} {t : T} {w : World}

theorem atEnd_q (_hat : t.at_ ≤ s.size) (hb : RG B M ty rest s t w) :
    Calls Tryz.prog 75 #[.pointer (some ⟨B, 0, none⟩)] w fun e w' => e = .returned (.bool (decide (t.at_ = s.size))) ∧ ∃ n, w' = w.drewN n := by
  have c0 := hb.c0
  have c1 := hb.c1
  by_cases h : t.at_ = s.size
  · rw [decide_eq_true h]
    rw [h] at c1
    clear hb h
    go_enter Tryz.func75, Tryz.ntmps75
    go_wp2
    go_quiet (fail)
    go_wp2
    go_ret
    exact ⟨rfl, _, rfl⟩
  · rw [decide_eq_false h]
    have i2 : ((t.at_ : Int) == (s.size : Int)) = false := by simp; omega
    clear hb h
    go_enter Tryz.func75, Tryz.ntmps75
    go_wp2
    go_quiet (fail)
    go_wp2
    go_ret
    exact ⟨rfl, _, rfl⟩
theorem atEnd_any (hat : t.at_ ≤ s.size) (hb : RG B M ty rest s t w) :
    Calls Tryz.prog 75 #[.pointer (some ⟨B, 0, none⟩)] w fun e w' => e = .returned (.bool (decide (t.at_ = s.size))) ∧ RG B M ty rest s t w' ∧ Ex B w w' := by
  refine (atEnd_q hat hb).mono ?_
  rintro e w' ⟨he, n, rfl⟩
  exact ⟨he, hb.drewN _, (Ex.refl _ _).drewN _⟩

set_option maxHeartbeats 400000 in
theorem number_none (z lo hi : Nat) (_hs : s.size ≤ 120) (hat : t.at_ ≤ s.size) (hz : z ≤ 255) (hlo : lo ≤ 10) (hhi : hi ≤ 10) (hb : RG B M ty rest s t w) (hn : num? s t.at_ z lo hi = none) :
    Calls Tryz.prog 109 #[.pointer (some ⟨B, 0, none⟩), .int .u8 z, .int .i64 lo, .int .i64 hi] w fun e w' =>
      e = .returned (.tuple #[.int .i64 0, .bool false]) ∧ RG B M ty rest s t w' ∧ Ex B w w' := by
  have he := atEnd_any hat hb
  rcases num_ways hn hat with h | ⟨h, h'⟩
  · rw [decide_eq_true h] at he
    clear hb h hn hat
    go_enter Tryz.func109, Tryz.ntmps109
    go_wp2_with fail
    refine he.mono ?_; rintro e w1 ⟨rfl, hb1, hx1⟩
    go_wp2
    go_ret2
    exact ⟨rfl, hb1, hx1⟩
  · rw [decide_eq_false (by omega)] at he
    have hlt : s[t.at_].toNat < 256 := s[t.at_].toNat_lt
    have i1 : (t.at_ : Int) < (s.size : Int) := by omega
    have i0 : (0 : Int) ≤ (t.at_ : Int) := by omega
    clear hb hn
    rcases h' with h' | h'
    · have h1 : (s[t.at_].toNat : Int) - (z : Int) < (lo : Int) := by omega
      go_enter Tryz.func109, Tryz.ntmps109
      go_wp2_with fail
      refine he.mono ?_; rintro e w1 ⟨rfl, hb1, hx1⟩
      have d0 := hb1.c0
      have d1 := hb1.c1
      have HB : Hid (RG B M ty rest s t w1) := hb1
      clear he hb1
      generalize t.at_ = p at *
      go_wp2
      go_quiet (fail)
      go_wp2
      go_ret2
      exact ⟨rfl, HB.out.drewN _, hx1.drewN _⟩
    · have h1 : (hi : Int) < (s[t.at_].toNat : Int) - (z : Int) := by omega
      by_cases h2 : (s[t.at_].toNat : Int) - (z : Int) < (lo : Int)
      all_goals
        go_enter Tryz.func109, Tryz.ntmps109
        go_wp2_with fail
        refine he.mono ?_; rintro e w1 ⟨rfl, hb1, hx1⟩
        have d0 := hb1.c0
        have d1 := hb1.c1
        have HB : Hid (RG B M ty rest s t w1) := hb1
        clear he hb1
        generalize t.at_ = p at *
        go_wp2
        go_quiet (fail)
        go_wp2
        go_ret2
        exact ⟨rfl, HB.out.drewN _, hx1.drewN _⟩

set_option maxHeartbeats 400000 in
theorem number_some (z lo hi k : Nat) (hs : s.size ≤ 120) (hz : z ≤ 255) (hlo : lo ≤ 10) (hhi : hi ≤ 10) (hb : RG B M ty rest s t w) (hn : num? s t.at_ z lo hi = some k) :
    Calls Tryz.prog 109 #[.pointer (some ⟨B, 0, none⟩), .int .u8 z, .int .i64 lo, .int .i64 hi] w fun e w' =>
      e = .returned (.tuple #[.int .i64 k, .bool true]) ∧ RG B M ty rest s t.adv w' ∧ Ex B w w' := by
  obtain ⟨h, ha, hbb, hk⟩ := num_some hn
  have he := atEnd_any (by omega) hb
  rw [decide_eq_false (by omega)] at he
  have HK : Hid ((k : Int) = (s[t.at_].toNat : Int) - (z : Int)) := by show (k : Int) = _; omega
  have hlt : s[t.at_].toNat < 256 := s[t.at_].toNat_lt
  clear hb hn hk
  have i1 : (t.at_ : Int) < (s.size : Int) := by omega
  have i0 : (0 : Int) ≤ (t.at_ : Int) := by omega
  have h1 : ¬ (s[t.at_].toNat : Int) - (z : Int) < (lo : Int) := by omega
  have h2 : ¬ (hi : Int) < (s[t.at_].toNat : Int) - (z : Int) := by omega
  go_enter Tryz.func109, Tryz.ntmps109
  go_wp2_with fail
  refine he.mono ?_; rintro e w1 ⟨rfl, hb, hx1⟩
  have d0 := hb.c0
  have d1 := hb.c1
  have f1 := hb.free 1
  have HB : Hid (RG B M ty rest s t.adv (w1.setCell ⟨B, 1, none⟩ (.int .i64 ((t.at_ + 1 : Nat) : Int)))) := hb.set1 (t.at_ + 1)
  clear he hb
  generalize t.at_ = p at *
  go_wp2
  go_quiet (fail)
  go_wp2
  go_ret2
  rw [HK.out]
  refine ⟨rfl, ?_, ?_⟩
  · exact HB.out.move rfl rfl
  · exact (hx1.drewN _).setCell (.inl rfl) _

theorem take_no0 (c : Nat) (hs : s.size ≤ 120) (hat : t.at_ ≤ s.size) (hc : c ≤ 255) (hb : RG B M ty rest s t w) (hn : num? s t.at_ c 0 0 = none) :
    Calls Tryz.prog 74 #[.pointer (some ⟨B, 0, none⟩), .int .u8 c] w fun e w' => e = .returned (.bool false) ∧ RG B M ty rest s t w' ∧ Ex B w w' := by
  go_enter Tryz.func74, Tryz.ntmps74
  go_wp2_with fail
  refine (number_none c 0 0 hs hat hc (by omega) (by omega) hb hn).mono ?_; rintro e w1 ⟨rfl, hb1, hx1⟩
  go_wp2
  go_ret
  exact ⟨rfl, hb1, hx1⟩
theorem take_yes0 (c k : Nat) (hs : s.size ≤ 120) (hc : c ≤ 255) (hb : RG B M ty rest s t w) (hn : num? s t.at_ c 0 0 = some k) :
    Calls Tryz.prog 74 #[.pointer (some ⟨B, 0, none⟩), .int .u8 c] w fun e w' => e = .returned (.bool true) ∧ RG B M ty rest s t.adv w' ∧ Ex B w w' := by
  go_enter Tryz.func74, Tryz.ntmps74
  go_wp2_with fail
  refine (number_some c 0 0 k hs hc (by omega) (by omega) hb hn).mono ?_; rintro e w1 ⟨rfl, hb1, hx1⟩
  go_wp2
  go_ret
  exact ⟨rfl, hb1, hx1⟩
theorem digit_no0 (lo : Nat) (hs : s.size ≤ 120) (hat : t.at_ ≤ s.size) (hlo : lo ≤ 10) (hb : RG B M ty rest s t w) (hn : num? s t.at_ 48 lo 3 = none) :
    Calls Tryz.prog 106 #[.pointer (some ⟨B, 0, none⟩), .int .i64 lo] w fun e w' => e = .returned (.tuple #[.int .i64 0, .bool false]) ∧ RG B M ty rest s t w' ∧ Ex B w w' := by
  go_enter Tryz.func106, Tryz.ntmps106
  go_wp2_with fail
  refine (number_none 48 lo 3 hs hat (by omega) hlo (by omega) hb hn).mono ?_; rintro e w1 ⟨rfl, hb1, hx1⟩
  go_wp2
  go_ret2
  exact ⟨rfl, hb1, hx1⟩
theorem digit_yes0 (lo k : Nat) (hs : s.size ≤ 120) (hlo : lo ≤ 10) (hb : RG B M ty rest s t w) (hn : num? s t.at_ 48 lo 3 = some k) :
    Calls Tryz.prog 106 #[.pointer (some ⟨B, 0, none⟩), .int .i64 lo] w fun e w' => e = .returned (.tuple #[.int .i64 k, .bool true]) ∧ RG B M ty rest s t.adv w' ∧ Ex B w w' := by
  go_enter Tryz.func106, Tryz.ntmps106
  go_wp2_with fail
  refine (number_some 48 lo 3 k hs (by omega) hlo (by omega) hb hn).mono ?_; rintro e w1 ⟨rfl, hb1, hx1⟩
  go_wp2
  go_ret2
  exact ⟨rfl, hb1, hx1⟩
theorem blame_any0 (f : Nat) (hat : 1 ≤ t.at_) (hat2 : t.at_ ≤ 120) (hb : RG B M ty rest s t w) :
    Calls Tryz.prog 107 #[.pointer (some ⟨B, 0, none⟩), .int .i64 f] w fun e w' => e = .returned (.tuple #[]) ∧ RG B M ty rest s (t.blame f) w' ∧ Ex B w w' := by
  have c1 := hb.c1
  have c13 := hb.c3
  have c14 := hb.c4
  have f13 := hb.free 3
  have f14 := hb.free 4
  unfold T.blame
  by_cases h : t.flt = 0
  · rw [if_pos h]
    rw [h] at c13
    have HB : Hid (RG B M ty rest s { t with flt := f, plc := t.at_ - 1 } ((w.setCell ⟨B, 3, none⟩ (.int .i64 f)).setCell ⟨B, 4, none⟩ (.int .i64 ((t.at_ - 1 : Nat) : Int)))) := (hb.set3 f).set4 (t.at_ - 1)
    have e1 : ((t.at_ - 1 : Nat) : Int) = (t.at_ : Int) - 1 := by omega
    rw [e1] at HB
    clear hb h e1
    go_enter Tryz.func107, Tryz.ntmps107
    go_wp2
    go_end0
    exact ⟨rfl, HB.out, ((Ex.refl B w).setCell (.inl rfl) _).setCell (.inl rfl) _⟩
  · rw [if_neg h]
    have h' : ((t.flt : Int) == 0) = false := by simp; omega
    have HB : Hid (RG B M ty rest s t w) := hb
    clear hb h
    go_enter Tryz.func107, Tryz.ntmps107
    go_wp2
    go_end0
    exact ⟨rfl, HB.out, Ex.refl B w⟩

/-- name: none, or which one, and the reader behind it. -/
def T.named (t : T) (k : Nat) : T := if t.n ≤ k then t.adv.blame 3 else t.adv
theorem name_no0 (hs : s.size ≤ 120) (hat : t.at_ ≤ s.size) (hb : RG B M ty rest s t w) (hn : num? s t.at_ 97 0 2 = none) :
    Calls Tryz.prog 111 #[.pointer (some ⟨B, 0, none⟩)] w fun e w' => e = .returned (.tuple #[.int .i64 0, .bool false]) ∧ RG B M ty rest s t w' ∧ Ex B w w' := by
  go_enter Tryz.func111, Tryz.ntmps111
  go_wp2_with fail
  refine (number_none 97 0 2 hs hat (by omega) (by omega) (by omega) hb hn).mono ?_; rintro e w1 ⟨rfl, hb1, hx1⟩
  go_wp2
  go_ret2
  exact ⟨rfl, hb1, hx1⟩
theorem name_yes0 (k : Nat) (hs : s.size ≤ 120) (hb : RG B M ty rest s t w) (hn : num? s t.at_ 97 0 2 = some k) :
    Calls Tryz.prog 111 #[.pointer (some ⟨B, 0, none⟩)] w fun e w' => e = .returned (.tuple #[.int .i64 k, .bool true]) ∧ RG B M ty rest s (t.named k) w' ∧ Ex B w w' := by
  have hlt := num_lt hn
  by_cases hk : t.n ≤ k
  · have e1 : t.named k = t.adv.blame 3 := by simp [T.named, hk]
    rw [e1]
    have hk' : (t.n : Int) ≤ (k : Int) := by omega
    clear e1 hk
    go_enter Tryz.func111, Tryz.ntmps111
    go_wp2_with fail
    refine (number_some 97 0 2 k hs (by omega) (by omega) (by omega) hb hn).mono ?_; rintro e w1 ⟨rfl, hb1, hx1⟩
    have cM : w1.cell? ⟨M, 6, none⟩ = some (.int .i64 t.n) := hb1.cM
    have c2 := hb1.c2
    go_wp2_with fail
    refine (blame_any0 3 (by show 1 ≤ t.at_ + 1; omega) (by show t.at_ + 1 ≤ 120; omega) hb1).mono ?_; rintro e w2 ⟨rfl, hb2, hx2⟩
    go_wp2
    go_ret2
    exact ⟨rfl, hb2, hx1.trans hx2⟩
  · have e1 : t.named k = t.adv := by simp [T.named, hk]
    rw [e1]
    have hk' : ¬ (t.n : Int) ≤ (k : Int) := by omega
    clear e1 hk
    go_enter Tryz.func111, Tryz.ntmps111
    go_wp2_with fail
    refine (number_some 97 0 2 k hs (by omega) (by omega) (by omega) hb hn).mono ?_; rintro e w1 ⟨rfl, hb1, hx1⟩
    have cM : w1.cell? ⟨M, 6, none⟩ = some (.int .i64 t.n) := hb1.cM
    have c2 := hb1.c2
    go_wp2
    go_ret2
    exact ⟨rfl, hb1, hx1⟩
end
end Go.Proofs.YtgoebckimmofoaaGreatDoor

/- The document's reader: its block, its small steps. Our own text. -/
namespace Go.Proofs.YtgoebckimmofoaaGreatDoor
open Go.RowKit

/-- Where the document's reader is: at a place, or failed at one. -/
abbrev Q := Except Nat Nat
def Q.adv : Q → Q
  | .ok i => .ok (i + 1)
  | .error p => .error p
def Q.fail : Q → Q
  | .ok i => .error i
  | .error p => .error p
def qNum (s : ByteArray) (q : Q) (z d : Nat) : Option Nat := match q with
  | .ok i => num? s i z 0 d
  | .error _ => none

def RC (B : Nat) (s : ByteArray) (i : Nat) (b : Int) (w : World) : Prop := w.heap[B]? = some (.cells #[.string s, .int .i64 i, .int .i64 b] 95 (0, 0))
def RS (B : Nat) (s : ByteArray) (q : Q) (w : World) : Prop := match q with
  | .ok i => i ≤ s.size ∧ RC B s i (-1) w
  | .error p => ∃ i, i ≤ s.size ∧ RC B s i p w
section
variable {B : Nat} {s : ByteArray} {i : Nat} {b : Int} {q : Q} {w w' : World}
theorem RC.lt (h : RC B s i b w) : B < w.heap.size := lt_of_block h
theorem RC.c0 (h : RC B s i b w) : w.cell? ⟨B, 0, none⟩ = some (.string s) := by
  have h' : w.heap[B]? = some (.cells #[.string s, .int .i64 i, .int .i64 b] 95 (0, 0)) := h
  simp [World.cell?, h']
theorem RC.c1 (h : RC B s i b w) : w.cell? ⟨B, 1, none⟩ = some (.int .i64 i) := by
  have h' : w.heap[B]? = some (.cells #[.string s, .int .i64 i, .int .i64 b] 95 (0, 0)) := h
  simp [World.cell?, h']
theorem RC.c2 (h : RC B s i b w) : w.cell? ⟨B, 2, none⟩ = some (.int .i64 b) := by
  have h' : w.heap[B]? = some (.cells #[.string s, .int .i64 i, .int .i64 b] 95 (0, 0)) := h
  simp [World.cell?, h']
theorem RC.free (h : RC B s i b w) (j : Nat) : w.frozen? ⟨B, j, none⟩ = false := by
  have h' : w.heap[B]? = some (.cells #[.string s, .int .i64 i, .int .i64 b] 95 (0, 0)) := h
  simp [World.frozen?, h']
theorem RC.set1 (h : RC B s i b w) (k : Nat) : RC B s k b (w.setCell ⟨B, 1, none⟩ (.int .i64 k)) := heap_setCell_same w B 1 _ 95 _ h
theorem RC.set2 (h : RC B s i b w) (k : Int) : RC B s i k (w.setCell ⟨B, 2, none⟩ (.int .i64 k)) := heap_setCell_same w B 2 _ 95 _ h
theorem RS.block (h : RS B s q w) (e : w'.heap[B]? = w.heap[B]?) : RS B s q w' := by
  cases q with
  | ok i => exact ⟨h.1, e.trans h.2⟩
  | error p => obtain ⟨i, h1, h2⟩ := h; exact ⟨i, h1, e.trans h2⟩
theorem RS.lt (h : RS B s q w) : B < w.heap.size := by
  cases q with
  | ok i => exact h.2.lt
  | error p => obtain ⟨i, _, h2⟩ := h; exact h2.lt
theorem RS.drewN (h : RS B s q w) (n : Nat) : RS B s q (w.drewN n) := h.block rfl
theorem RS.drew (h : RS B s q w) : RS B s q w.drew := h.block rfl
theorem RS.alloc (h : RS B s q w) (o : Obj) : RS B s q (w.alloc o) := h.block (Below.heap_alloc _ _ _ h.lt)
theorem RS.set_other (h : RS B s q w) {p : Addr} (hp : p.block ≠ B) (v : Value) : RS B s q (w.setCell p v) := h.block (heap_setCell_other _ _ _ _ (fun e => hp e.symm))
theorem RS.grown {row : Option Nat} (h : RS B s q w) (g : w.grownBy w' row) (hr : row ≠ some B) : RS B s q w' := h.block (g.block B h.lt (fun e => hr e.symm))

set_option maxHeartbeats 400000 in
theorem here_no (c : Nat) (_hs : s.size ≤ 120) (_hc : c ≤ 255) (hb : RS B s q w) (hn : qNum s q c 0 = none) :
    Calls Tryz.prog 95 #[.pointer (some ⟨B, 0, none⟩), .int .u8 c] w fun e w' => e = .returned (.bool false) ∧ RS B s q w' ∧ Ex B w w' := by
  have HB : Hid (RS B s q w) := hb
  cases q with
  | error p =>
    obtain ⟨i, hi, h⟩ := hb
    have c2 := h.c2
    have hd : decide ((p : Int) < 0) = false := by simp
    clear h hn
    go_enter Tryz.func95, Tryz.ntmps95
    go_wp2
    go_quiet (fail)
    go_wp2
    go_ret
    exact ⟨rfl, HB.out.drewN _, (Ex.refl _ _).drewN _⟩
  | ok i =>
    obtain ⟨hi, h⟩ := hb
    have c0 := h.c0
    have c1 := h.c1
    have c2 := h.c2
    clear h
    rcases num_ways hn hi with h | ⟨h, h'⟩
    · have hd : decide ((i : Int) < (s.size : Int)) = false := by simp; omega
      clear hn
      go_enter Tryz.func95, Tryz.ntmps95
      go_wp2
      go_quiet (fail)
      go_wp2
      go_ret
      exact ⟨rfl, HB.out.drewN _, (Ex.refl _ _).drewN _⟩
    · have i0 : (0 : Int) ≤ (i : Int) := by omega
      have i1 : (i : Int) < (s.size : Int) := by omega
      have hne : ((s[i].toNat : Int) == (c : Int)) = false := by simp; omega
      clear hn
      go_enter Tryz.func95, Tryz.ntmps95
      go_wp2
      go_quiet (fail)
      go_wp2
      go_ret
      exact ⟨rfl, HB.out.drewN _, (Ex.refl _ _).drewN _⟩
set_option maxHeartbeats 400000 in
theorem here_yes (c k : Nat) (_hs : s.size ≤ 120) (_hc : c ≤ 255) (hb : RS B s q w) (hn : qNum s q c 0 = some k) :
    Calls Tryz.prog 95 #[.pointer (some ⟨B, 0, none⟩), .int .u8 c] w fun e w' => e = .returned (.bool true) ∧ RS B s q w' ∧ Ex B w w' := by
  have HB : Hid (RS B s q w) := hb
  cases q with
  | error p => cases hn
  | ok i =>
    obtain ⟨hi, h⟩ := hb
    have c0 := h.c0
    have c1 := h.c1
    have c2 := h.c2
    clear h
    obtain ⟨h, ha, hb', _⟩ := num_some hn
    have i0 : (0 : Int) ≤ (i : Int) := by omega
    have i1 : (i : Int) < (s.size : Int) := by omega
    have hne : ((s[i].toNat : Int) == (c : Int)) = true := by simp; omega
    clear hn ha hb'
    go_enter Tryz.func95, Tryz.ntmps95
    go_wp2
    go_quiet (fail)
    go_wp2
    go_ret
    exact ⟨rfl, HB.out.drewN _, (Ex.refl _ _).drewN _⟩

theorem got_no (c : Nat) (hs : s.size ≤ 120) (hc : c ≤ 255) (hb : RS B s q w) (hn : qNum s q c 0 = none) :
    Calls Tryz.prog 56 #[.pointer (some ⟨B, 0, none⟩), .int .u8 c] w fun e w' => e = .returned (.bool false) ∧ RS B s q w' ∧ Ex B w w' := by
  go_enter Tryz.func56, Tryz.ntmps56
  go_wp2_with fail
  refine (here_no c hs hc hb hn).mono ?_; rintro e w1 ⟨rfl, hb1, hx1⟩
  go_wp2
  go_ret
  exact ⟨rfl, hb1, hx1⟩
theorem got_yes (c k : Nat) (hs : s.size ≤ 120) (hc : c ≤ 255) (hb : RS B s q w) (hn : qNum s q c 0 = some k) :
    Calls Tryz.prog 56 #[.pointer (some ⟨B, 0, none⟩), .int .u8 c] w fun e w' => e = .returned (.bool true) ∧ RS B s q.adv w' ∧ Ex B w w' := by
  go_enter Tryz.func56, Tryz.ntmps56
  go_wp2_with fail
  refine (here_yes c k hs hc hb hn).mono ?_; rintro e w1 ⟨rfl, hb1, hx1⟩
  cases q with
  | error p => cases hn
  | ok i =>
    have hlt := num_lt hn
    have c1 := hb1.2.c1
    have f1 := hb1.2.free 1
    have HB : Hid (RS B s (Q.adv (.ok i)) (w1.setCell ⟨B, 1, none⟩ (.int .i64 ((i + 1 : Nat) : Int)))) := ⟨hlt, hb1.2.set1 (i + 1)⟩
    clear hb1 hb hn
    go_wp2
    go_ret
    exact ⟨rfl, HB.out, hx1.setCell (.inl rfl) _⟩
theorem fail_any (_hs : s.size ≤ 120) (hb : RS B s q w) :
    Calls Tryz.prog 57 #[.pointer (some ⟨B, 0, none⟩)] w fun e w' => e = .returned (.tuple #[]) ∧ RS B s q.fail w' ∧ Ex B w w' := by
  have HB : Hid (RS B s q w) := hb
  cases q with
  | error p =>
    obtain ⟨i, hi, h⟩ := hb
    have c2 := h.c2
    have hd : ¬ ((p : Int) < 0) := by omega
    clear h
    go_enter Tryz.func57, Tryz.ntmps57
    go_wp2
    go_end0
    exact ⟨rfl, HB.out, Ex.refl _ _⟩
  | ok i =>
    obtain ⟨hi, h⟩ := hb
    have c1 := h.c1
    have c2 := h.c2
    have f2 := h.free 2
    have HB2 : Hid (RS B s (Q.fail (.ok i)) (w.setCell ⟨B, 2, none⟩ (.int .i64 i))) := ⟨i, hi, h.set2 i⟩
    clear h
    go_enter Tryz.func57, Tryz.ntmps57
    go_wp2
    go_end0
    exact ⟨rfl, HB2.out, (Ex.refl B w).setCell (.inl rfl) _⟩
def qMust (s : ByteArray) (q : Q) (c : Nat) : Q := match qNum s q c 0 with
  | some _ => q.adv
  | none => q.fail
theorem must_any {ci : Int} (c : Nat) (e : ci = (c : Int)) (hs : s.size ≤ 120) (hc : c ≤ 255) (hb : RS B s q w) :
    Calls Tryz.prog 58 #[.pointer (some ⟨B, 0, none⟩), .int .u8 ci] w fun e w' => e = .returned (.tuple #[]) ∧ RS B s (qMust s q c) w' ∧ Ex B w w' := by
  subst e
  unfold qMust
  cases hn : qNum s q c 0 with
  | none =>
    go_enter Tryz.func58, Tryz.ntmps58
    go_wp2_with fail
    refine (got_no c hs hc hb hn).mono ?_; rintro e w1 ⟨rfl, hb1, hx1⟩
    go_wp2_with fail
    refine (fail_any hs hb1).mono ?_; rintro e w2 ⟨rfl, hb2, hx2⟩
    go_wp2
    go_end0
    exact ⟨rfl, hb2, hx1.trans hx2⟩
  | some k =>
    go_enter Tryz.func58, Tryz.ntmps58
    go_wp2_with fail
    refine (got_yes c k hs hc hb hn).mono ?_; rintro e w1 ⟨rfl, hb1, hx1⟩
    go_wp2
    go_end0
    exact ⟨rfl, hb1, hx1⟩
end
end Go.Proofs.YtgoebckimmofoaaGreatDoor
