/- Sets as bits, as lists; states as numbers, and their texts. Pure. Our own text. -/
import Derived.Lib.TrailingZeros
namespace Go.Proofs.YtkbmolodljenjaaDoor

/-- The members of a set of states, rising. -/
def mem (m : Nat) : List (Fin 64) := (List.finRange 64).filter (fun i => m.testBit i.val)
theorem mem_zero : mem 0 = [] := by simp [mem]

theorem and_pred (k q : Nat) (j : Nat) : ((2 ^ k * (2 * q + 1)) &&& (2 ^ k * (2 * q + 1) - 1)).testBit j = ((2 ^ k * (2 * q + 1)).testBit j && decide (j ≠ k)) := by
  have e : 2 ^ k * (2 * q + 1) - 1 = 2 ^ k * (2 * q) + (2 ^ k - 1) := by
    have h := Nat.pos_of_ne_zero (n := 2 ^ k) (by simp)
    rw [Nat.mul_add]; omega
  have h := Nat.pos_of_ne_zero (n := 2 ^ k) (by simp)
  rw [Nat.testBit_and, e]
  rw [Nat.testBit_two_pow_mul_add _ (by omega)]
  have e0 : (2 ^ k * (2 * q + 1)).testBit j = (decide (k ≤ j) && (2 * q + 1).testBit (j - k)) := by
    rw [Nat.mul_comm, Nat.testBit_mul_two_pow]
  rw [e0]
  by_cases h1 : j < k
  · have : ¬ k ≤ j := by omega
    simp [h1, this]
  · by_cases h2 : j = k
    · subst h2; simp
    · obtain ⟨d, rfl⟩ : ∃ d, j = k + (d + 1) := ⟨j - k - 1, by omega⟩
      have e3 : k + (d + 1) - k = d + 1 := by omega
      have e4 : (2 * q + 1) / 2 = q := by omega
      have e5 : (2 * q) / 2 = q := by omega
      rw [if_neg h1, e3, Nat.testBit_succ, Nat.testBit_succ, e4, e5]
      simp

theorem low_spec (m : Nat) (h0 : m ≠ 0) (h : m < 2 ^ 64) : Go.Lib.ctz 64 m < 64 ∧ m.testBit (Go.Lib.ctz 64 m) = true ∧ (∀ j, j < Go.Lib.ctz 64 m → m.testBit j = false) ∧ ∀ j, (m &&& (m - 1)).testBit j = (m.testBit j && decide (j ≠ Go.Lib.ctz 64 m)) := by
  obtain ⟨q, hm, hk⟩ := Go.Lib.ctzFrom_spec 64 m (by omega) h
  have e : Go.Lib.ctz 64 m = Go.Lib.ctzFrom 64 m := by simp [Go.Lib.ctz, h0]
  rw [e]
  generalize Go.Lib.ctzFrom 64 m = k at hm hk
  subst hm
  refine ⟨hk, ?_, ?_, fun j => and_pred k q j⟩
  · rw [Nat.mul_comm, Nat.testBit_mul_two_pow]; simp
  · intro j hj
    rw [Nat.mul_comm, Nat.testBit_mul_two_pow]
    have : ¬ k ≤ j := by omega
    simp [this]

theorem filter_first {α : Type} (p q : α → Bool) (x : α) : ∀ (l : List α), l.Nodup → x ∈ l → p x = true → (∀ y, q y = true ↔ (p y = true ∧ y ≠ x)) → (∀ (i j : Nat) (hi : i < l.length) (hj : j < l.length), l[j] = x → i < j → p l[i] = false) → l.filter p = x :: l.filter q
  | [], _, hx, _, _, _ => by simp at hx
  | y :: l, hn, hx, hp, hq, hf => by
    by_cases hy : y = x
    · subst hy
      have hqy : q y = false := by
        cases h : q y with
        | false => rfl
        | true => exact absurd rfl ((hq y).1 h).2
      rw [List.filter_cons_of_pos hp, List.filter_cons_of_neg (by simp [hqy])]
      congr 1
      apply List.filter_congr
      intro z hz
      have hzy : z ≠ y := fun e => by subst e; exact (List.nodup_cons.1 hn).1 hz
      cases h : p z with
      | false =>
        cases h2 : q z with
        | false => rfl
        | true => rw [((hq z).1 h2).1] at h; cases h
      | true => exact ((hq z).2 ⟨h, hzy⟩).symm
    · have hx' : x ∈ l := by
        rcases List.mem_cons.1 hx with h | h
        · exact absurd h.symm hy
        · exact h
      obtain ⟨j, hj, hjx⟩ := List.mem_iff_getElem.1 hx'
      have hpy : p y = false := hf 0 (j + 1) (by simp) (by simp; omega) (by simpa using hjx) (by omega)
      have hqy : q y = false := by
        cases h : q y with
        | false => rfl
        | true => rw [((hq y).1 h).1] at hpy; cases hpy
      rw [List.filter_cons_of_neg (by simp [hpy]), List.filter_cons_of_neg (by simp [hqy])]
      exact filter_first p q x l (List.nodup_cons.1 hn).2 hx' hp hq (fun i j hi hj hjx hij => hf (i + 1) (j + 1) (by simp; omega) (by simp; omega) (by simpa using hjx) (by omega))

theorem mem_step (m : Nat) (h0 : m ≠ 0) (h : m < 2 ^ 64) : mem m = ⟨Go.Lib.ctz 64 m, (low_spec m h0 h).1⟩ :: mem (m &&& (m - 1)) := by
  obtain ⟨h1, h2, h3, h4⟩ := low_spec m h0 h
  unfold mem
  refine filter_first _ _ _ _ (by decide +kernel) (by simp) h2 ?_ ?_
  · intro y
    rw [h4]
    simp [Fin.ext_iff]
  · intro i j hi hj he hij
    simp only [List.getElem_finRange] at he ⊢
    have he' := congrArg Fin.val he
    simp at he'
    exact h3 _ (by simp; omega)
theorem mem_iff (m : Nat) (i : Fin 64) : i ∈ mem m ↔ m.testBit i.val = true := by simp [mem]
theorem mem_len (m : Nat) : (mem m).length ≤ 64 := by
  have := List.length_filter_le (fun i : Fin 64 => m.testBit i.val) (List.finRange 64)
  simpa [mem] using this
end Go.Proofs.YtkbmolodljenjaaDoor

namespace Go.Proofs.YtkbmolodljenjaaDoor

/-- The members of a set of values, rising. -/
def mem4 (m : Nat) : List (Fin 4) := (List.finRange 4).filter (fun i => m.testBit i.val)
theorem mem4_zero : mem4 0 = [] := by simp [mem4]
theorem low4_lt : ∀ m : Fin 16, m.val ≠ 0 → Go.Lib.ctz 64 m.val < 4 := by decide +kernel
theorem mem4_step_fin : ∀ m : Fin 16, (h : m.val ≠ 0) → mem4 m.val = ⟨Go.Lib.ctz 64 m.val, low4_lt m h⟩ :: mem4 (m.val &&& (m.val - 1)) := by decide +kernel
theorem mem4_step (m : Nat) (h0 : m ≠ 0) (h : m < 16) : ∃ hl : Go.Lib.ctz 64 m < 4, mem4 m = ⟨Go.Lib.ctz 64 m, hl⟩ :: mem4 (m &&& (m - 1)) := ⟨low4_lt ⟨m, h⟩ h0, mem4_step_fin ⟨m, h⟩ h0⟩
theorem mem4_iff (m : Nat) (i : Fin 4) : i ∈ mem4 m ↔ m.testBit i.val = true := by simp [mem4]
theorem mem4_len (m : Nat) : (mem4 m).length ≤ 4 := by
  have := List.length_filter_le (fun i : Fin 4 => m.testBit i.val) (List.finRange 4)
  simpa [mem4] using this

/-- The value of variable k in a state. -/
def dig (x k : Nat) : Nat := x / 4 ^ (2 - k) % 4
/-- The state with another value there. -/
def stW (x k v : Nat) : Nat := x / 4 ^ (3 - k) * 4 ^ (3 - k) + v * 4 ^ (2 - k) + x % 4 ^ (2 - k)
theorem dig_lt (x k : Nat) : dig x k < 4 := Nat.mod_lt _ (by decide)
theorem stW_fin : ∀ (k : Fin 3) (v : Fin 4) (x : Fin 64), stW x k v < 64 ∧ ∀ j : Fin 3, dig (stW x k v) j = if j = k then v.val else dig x j := by decide +kernel
theorem stW_lt {x k v : Nat} (hx : x < 64) (hk : k < 3) (hv : v < 4) : stW x k v < 64 := (stW_fin ⟨k, hk⟩ ⟨v, hv⟩ ⟨x, hx⟩).1
theorem dig_stW {x k v j : Nat} (hx : x < 64) (hk : k < 3) (hv : v < 4) (hj : j < 3) : dig (stW x k v) j = if j = k then v else dig x j := by
  have := (stW_fin ⟨k, hk⟩ ⟨v, hv⟩ ⟨x, hx⟩).2 ⟨j, hj⟩
  simpa [Fin.ext_iff] using this
theorem dig_ext_fin : ∀ x : Fin 64, x.val = dig x 0 * 16 + dig x 1 * 4 + dig x 2 := by decide +kernel
theorem dig_ext {x y : Nat} (hx : x < 64) (hy : y < 64) (h : ∀ j, j < 3 → dig x j = dig y j) : x = y := by
  have h1 := dig_ext_fin ⟨x, hx⟩
  have h2 := dig_ext_fin ⟨y, hy⟩
  simp only at h1 h2
  rw [h1, h2, h 0 (by omega), h 1 (by omega), h 2 (by omega)]
theorem dig_zero (j : Nat) : dig 0 j = 0 := by simp [dig]

/-- Every one of the values, in one state; in every one of the states. -/
def spr1 (out x k : Nat) (vs : List (Fin 4)) : Nat := vs.foldl (fun o v => o ||| 2 ^ stW x k v.val) out
def sprP (xs : List (Fin 64)) (k : Nat) (vs : List (Fin 4)) : Nat := xs.foldl (fun o x => spr1 o x.val k vs) 0
theorem spr1_snoc (out x k : Nat) (vs : List (Fin 4)) (v : Fin 4) : spr1 out x k (vs ++ [v]) = spr1 out x k vs ||| 2 ^ stW x k v.val := by simp [spr1]
theorem sprP_snoc (xs : List (Fin 64)) (x : Fin 64) (k : Nat) (vs : List (Fin 4)) : sprP (xs ++ [x]) k vs = spr1 (sprP xs k vs) x.val k vs := by simp [sprP]
theorem spr1_bit (x k y : Nat) : ∀ (vs : List (Fin 4)) (out : Nat), (spr1 out x k vs).testBit y = (out.testBit y || vs.any (fun v => stW x k v.val == y))
  | [], out => by simp [spr1]
  | v :: vs, out => by
    have := spr1_bit x k y vs (out ||| 2 ^ stW x k v.val)
    have e : spr1 out x k (v :: vs) = spr1 (out ||| 2 ^ stW x k v.val) x k vs := rfl
    rw [e, this, Nat.testBit_or, Nat.testBit_two_pow]
    simp [Bool.or_assoc]
    rfl
theorem sprP_bit_from (k y : Nat) (vs : List (Fin 4)) : ∀ (xs : List (Fin 64)) (out : Nat), (xs.foldl (fun o x => spr1 o x.val k vs) out).testBit y = (out.testBit y || xs.any (fun x => vs.any (fun v => stW x.val k v.val == y)))
  | [], out => by simp
  | x :: xs, out => by
    rw [List.foldl_cons, sprP_bit_from k y vs xs, spr1_bit]
    simp [Bool.or_assoc]
theorem sprP_bit (k y : Nat) (vs : List (Fin 4)) (xs : List (Fin 64)) : (sprP xs k vs).testBit y = xs.any (fun x => vs.any (fun v => stW x.val k v.val == y)) := by
  unfold sprP; rw [sprP_bit_from]; simp
theorem or_pow_lt {a k : Nat} (ha : a < 2 ^ 64) (hk : k < 64) : a ||| 2 ^ k < 2 ^ 64 := Nat.or_lt_two_pow ha (Nat.pow_lt_pow_right (by decide) hk)
theorem spr1_lt {x k : Nat} (hx : x < 64) (hk : k < 3) : ∀ (vs : List (Fin 4)) (out : Nat), out < 2 ^ 64 → spr1 out x k vs < 2 ^ 64
  | [], _, h => h
  | v :: vs, out, h => spr1_lt hx hk vs (out ||| 2 ^ stW x k v.val) (or_pow_lt h (stW_lt hx hk v.2))
theorem sprP_lt_from {k : Nat} (hk : k < 3) (vs : List (Fin 4)) : ∀ (xs : List (Fin 64)) (out : Nat), out < 2 ^ 64 → xs.foldl (fun o x => spr1 o x.val k vs) out < 2 ^ 64
  | [], _, h => h
  | x :: xs, out, h => sprP_lt_from hk vs xs _ (spr1_lt x.2 hk vs out h)
theorem sprP_lt {k : Nat} (hk : k < 3) (vs : List (Fin 4)) (xs : List (Fin 64)) : sprP xs k vs < 2 ^ 64 := sprP_lt_from hk vs xs 0 (by decide)

/-- The set, spread. -/
def spr (m k f : Nat) : Nat := sprP (mem m) k (mem4 f)
theorem spr_lt {m k f : Nat} (hk : k < 3) : spr m k f < 2 ^ 64 := sprP_lt hk _ _
theorem spr_bit {m k f y : Nat} (hk : k < 3) (hy : y < 64) : (spr m k f).testBit y = true ↔ f.testBit (dig y k) = true ∧ ∃ x, x < 64 ∧ m.testBit x = true ∧ ∀ j, j < 3 → j ≠ k → dig x j = dig y j := by
  unfold spr
  rw [sprP_bit]
  simp only [List.any_eq_true, beq_iff_eq]
  constructor
  · rintro ⟨x, hx, v, hv, rfl⟩
    have d := fun j hj => dig_stW (j := j) x.2 hk v.2 hj
    refine ⟨?_, x.val, x.2, (mem_iff _ _).1 hx, ?_⟩
    · rw [d k hk, if_pos rfl]; exact (mem4_iff _ _).1 hv
    · intro j hj hne
      rw [d j hj, if_neg hne]
  · rintro ⟨hf, x, hx, hm, hd⟩
    refine ⟨⟨x, hx⟩, (mem_iff _ _).2 hm, ⟨dig y k, dig_lt _ _⟩, (mem4_iff _ _).2 hf, ?_⟩
    apply dig_ext (stW_lt hx hk (dig_lt _ _)) hy
    intro j hj
    rw [dig_stW hx hk (dig_lt _ _) hj]
    by_cases h : j = k
    · rw [if_pos h, h]
    · rw [if_neg h]; exact hd j hj h

/-- The first states: of the variables ahead of i. -/
def frs (f : Nat → Nat) : Nat → Nat
  | 0 => 1
  | i + 1 => spr (frs f i) i (f i)
theorem frs_lt (f : Nat → Nat) : ∀ i, i ≤ 3 → frs f i < 2 ^ 64
  | 0, _ => by show (1 : Nat) < 2 ^ 64; decide
  | i + 1, h => spr_lt (by omega)
theorem one_bit (y : Nat) : (1 : Nat).testBit y = true ↔ y = 0 := by
  have : (1 : Nat) = 2 ^ 0 := rfl
  rw [this, Nat.testBit_two_pow]
  simp [eq_comm]
theorem frs_bit (f : Nat → Nat) : ∀ (i y : Nat), i ≤ 3 → y < 64 → ((frs f i).testBit y = true ↔ (∀ j, j < i → (f j).testBit (dig y j) = true) ∧ ∀ j, i ≤ j → j < 3 → dig y j = 0)
  | 0, y, _, hy => by
    show (1 : Nat).testBit y = true ↔ _
    rw [one_bit]
    constructor
    · rintro rfl; exact ⟨fun j hj => by omega, fun j _ _ => dig_zero j⟩
    · rintro ⟨_, h⟩
      exact dig_ext hy (by decide) (fun j hj => by rw [h j (by omega) hj, dig_zero])
  | i + 1, y, hi, hy => by
    show (spr (frs f i) i (f i)).testBit y = true ↔ _
    rw [spr_bit (by omega) hy]
    constructor
    · rintro ⟨h1, x, hx, hm, hd⟩
      obtain ⟨h2, h3⟩ := (frs_bit f i x (by omega) hx).1 hm
      refine ⟨fun j hj => ?_, fun j h hj => ?_⟩
      · by_cases e : j = i
        · subst e; exact h1
        · rw [← hd j (by omega) e]; exact h2 j (by omega)
      · rw [← hd j hj (by omega)]; exact h3 j (by omega) hj
    · rintro ⟨h1, h2⟩
      refine ⟨h1 i (by omega), stW y i 0, stW_lt hy (by omega) (by decide), (frs_bit f i _ (by omega) (stW_lt hy (by omega) (by decide))).2 ⟨fun j hj => ?_, fun j h hj => ?_⟩, fun j hj hne => ?_⟩
      · rw [dig_stW hy (by omega) (by decide) (by omega), if_neg (by omega)]; exact h1 j (by omega)
      · rw [dig_stW hy (by omega) (by decide) hj]
        by_cases e : j = i
        · rw [if_pos e]
        · rw [if_neg e]; exact h2 j (by omega) hj
      · rw [dig_stW hy (by omega) (by decide) hj, if_neg hne]

/-! Texts. -/
def txtL (ds : List Nat) : ByteArray := ⟨(ds.map (fun d => UInt8.ofNat (48 + d))).toArray⟩
def digs (n x : Nat) : List Nat := (List.range n).map (dig x)
def allL (tops : List Nat) : List (List Nat) := tops.foldl (fun l top => l.flatMap (fun s => (List.range (top + 1)).map (fun v => s ++ [v]))) [[]]
def valid (tops : List Nat) (x : Nat) : Bool := (List.range 3).all (fun k => match tops[k]? with | some t => decide (dig x k ≤ t) | none => dig x k == 0)
theorem all1 : ∀ a : Fin 4, 0 < a.val → allL [a.val] = ((List.range 64).filter (valid [a.val])).map (digs 1) := by decide +kernel
theorem all2 : ∀ a b : Fin 4, 0 < a.val → 0 < b.val → allL [a.val, b.val] = ((List.range 64).filter (valid [a.val, b.val])).map (digs 2) := by decide +kernel
theorem all3 : ∀ a b c : Fin 4, 0 < a.val → 0 < b.val → 0 < c.val → allL [a.val, b.val, c.val] = ((List.range 64).filter (valid [a.val, b.val, c.val])).map (digs 3) := by decide +kernel
theorem allL_eq (tops : List Nat) (h1 : 1 ≤ tops.length) (h3 : tops.length ≤ 3) (h : ∀ t ∈ tops, 1 ≤ t ∧ t ≤ 3) : allL tops = ((List.range 64).filter (valid tops)).map (digs tops.length) := by
  match tops, h1, h3, h with
  | [a], _, _, h => 
    have ha := h a (by simp)
    exact all1 ⟨a, by omega⟩ (by show 0 < a; omega)
  | [a, b], _, _, h =>
    have ha := h a (by simp)
    have hb := h b (by simp)
    exact all2 ⟨a, by omega⟩ ⟨b, by omega⟩ (by show 0 < a; omega) (by show 0 < b; omega)
  | [a, b, c], _, _, h =>
    have ha := h a (by simp)
    have hb := h b (by simp)
    have hc := h c (by simp)
    exact all3 ⟨a, by omega⟩ ⟨b, by omega⟩ ⟨c, by omega⟩ (by show 0 < a; omega) (by show 0 < b; omega) (by show 0 < c; omega)
  | _ :: _ :: _ :: _ :: _, _, h3, _ => simp at h3
theorem mem_val (m : Nat) : (mem m).map Fin.val = (List.range 64).filter (fun i => m.testBit i) := by
  have e : List.range 64 = (List.finRange 64).map Fin.val := by decide +kernel
  rw [e, List.filter_map]
  rfl
theorem lists_same (tops : List Nat) (h1 : 1 ≤ tops.length) (h3 : tops.length ≤ 3) (h : ∀ t ∈ tops, 1 ≤ t ∧ t ≤ 3) (m : Nat) (P : List Nat → Bool) (hm : ∀ x, x < 64 → m.testBit x = (valid tops x && P (digs tops.length x))) :
    (mem m).map (fun i => digs tops.length i.val) = (allL tops).filter P := by
  rw [allL_eq tops h1 h3 h, List.filter_map, List.filter_filter]
  have e : (mem m).map (fun i => digs tops.length i.val) = ((mem m).map Fin.val).map (digs tops.length) := by rw [List.map_map]; rfl
  rw [e, mem_val]
  congr 1
  apply List.filter_congr
  intro x hx
  rw [hm x (List.mem_range.1 hx)]
  simp [Bool.and_comm]
end Go.Proofs.YtkbmolodljenjaaDoor
