/- A machine's next states, whatever its rules mean. Our own text. -/
import Derived.Test.YtkbmolodljenjaaDoorMTexts
import Derived.Test.YtkbmolodljenjaaDoorRTwice
namespace Go.Proofs.YtkbmolodljenjaaDoor
open Go.RowKit Go.Lib

/-- A function value that maps a state to a value, in every world from w0 on. -/
def Fn1 (w0 : World) (v : Value) (R : Nat → Value) : Prop :=
  ∃ (fn : Nat) (caps : Array Value), v = .func (.func fn) #[] caps ∧ (∀ args w, (callFunc fn args).run Tryd.prog w = .ok (.enter fn args) w) ∧
    ∀ W, Below w0.heap.size w0 W → ∀ x, x < 64 → Calls Tryd.prog fn (#[.int .u8 (x : Nat)] ++ caps) W fun e W' => e = .returned (R x) ∧ Below W.heap.size W W'
theorem Fn1.below {w0 w1 : World} {v : Value} {R : Nat → Value} (h : Fn1 w0 v R) (hb : Below w0.heap.size w0 w1) : Fn1 w1 v R := by
  obtain ⟨fn, caps, h1, h2, h3⟩ := h
  exact ⟨fn, caps, h1, h2, fun W hW => h3 W (hb.trans (hW.mono hb.size))⟩
/-- Two lists, one by one. -/
def All2 {α β : Type} (R : α → β → Prop) : List α → List β → Prop
  | [], [] => True
  | a :: l, b :: m => R a b ∧ All2 R l m
  | _, _ => False
theorem All2.nil {α β : Type} {R : α → β → Prop} : All2 R [] [] := trivial
theorem All2.cons {α β : Type} {R : α → β → Prop} {a : α} {b : β} {l : List α} {m : List β} (h : R a b) (t : All2 R l m) : All2 R (a :: l) (b :: m) := ⟨h, t⟩
theorem All2.length {α β : Type} {R : α → β → Prop} : ∀ {l : List α} {m : List β}, All2 R l m → l.length = m.length
  | [], [], _ => rfl
  | _ :: _, _ :: _, h => by simp [All2.length (R := R) h.2]
  | [], _ :: _, h => h.elim
  | _ :: _, [], h => h.elim
theorem All2.get {α β : Type} {R : α → β → Prop} : ∀ {l : List α} {m : List β}, All2 R l m → ∀ i (h1 : i < l.length) (h2 : i < m.length), R l[i] m[i]
  | [], [], _, i, h1, _ => absurd h1 (Nat.not_lt_zero i)
  | _ :: _, _ :: _, h, 0, _, _ => h.1
  | _ :: _, _ :: _, h, i + 1, h1, h2 => All2.get (R := R) h.2 i (by simpa using h1) (by simpa using h2)
  | [], _ :: _, h, _, _, _ => h.elim
  | _ :: _, [], h, _, _, _ => h.elim
theorem All2.mono {α β : Type} {R S : α → β → Prop} (hs : ∀ a b, R a b → S a b) : ∀ {l : List α} {m : List β}, All2 R l m → All2 S l m
  | [], [], _ => All2.nil
  | _ :: _, _ :: _, h => All2.cons (hs _ _ h.1) (All2.mono (R := R) hs h.2)
  | [], _ :: _, h => h.elim
  | _ :: _, [], h => h.elim
theorem All2.snoc {α β : Type} {R : α → β → Prop} {a : α} {b : β} (hr : R a b) : ∀ {l : List α} {m : List β}, All2 R l m → All2 R (l ++ [a]) (m ++ [b])
  | [], [], _ => All2.cons hr All2.nil
  | _ :: _, _ :: _, h => All2.cons h.1 (All2.snoc (R := R) hr h.2)
  | [], _ :: _, h => h.elim
  | _ :: _, [], h => h.elim

/-- What the rules make of a state together. -/
def nxU (ρs : List (Nat → Nat)) (x : Nat) : Nat := ρs.foldl (fun a ρ => a ||| ρ x) 0
def nxS (ρs : List (Nat → Nat)) (x : Nat) : Nat := if nxU ρs x = 0 then 2 ^ x else nxU ρs x
theorem nxU_snoc (ρs : List (Nat → Nat)) (k : Nat) (h : k < ρs.length) (x : Nat) : nxU (ρs.take (k + 1)) x = nxU (ρs.take k) x ||| ρs[k] x := by
  have e : ρs.take (k + 1) = ρs.take k ++ [ρs[k]] := by rw [List.take_add_one, List.getElem?_eq_getElem h]; rfl
  rw [e]; unfold nxU; rw [List.foldl_append]; rfl
theorem nxU_lt {x : Nat} : ∀ (ρs : List (Nat → Nat)), (∀ ρ ∈ ρs, ρ x < 18446744073709551616) → ∀ a, a < 18446744073709551616 → ρs.foldl (fun a ρ => a ||| ρ x) a < 18446744073709551616
  | [], _, _, ha => ha
  | ρ :: ρs, h, a, ha => nxU_lt ρs (fun r hr => h r (by simp [hr])) _ (by rw [← p64] at *; exact Nat.or_lt_two_pow ha (h ρ (by simp)))

set_option maxRecDepth 100000 in
set_option maxHeartbeats 1000000 in
theorem next_any (B x : Nat) (hx : x < 64) (w : World) (ao : Option Addr) (cap base : Nat) (vals : List Value) (ρs : List (Nat → Nat)) (_hB : B < w.heap.size) (h8 : vals.length ≤ 200)
    (hc : w.cell? ⟨B, 7, none⟩ = some (.slice ao vals.length cap)) (hrow : w.ownsRow base 120 1 (.slice ao vals.length cap) vals.length vals)
    (hm : All2 (fun v ρ => Fn1 w v (fun x => .int .u64 (ρ x : Nat))) vals ρs) (hlt : ∀ ρ ∈ ρs, ρ x < 18446744073709551616) :
    Calls Tryd.prog 31 #[.pointer (some ⟨B, 0, none⟩), .int .u8 x] w fun e w' => e = .returned (.int .u64 (nxS ρs x : Nat)) ∧ Below w.heap.size w w' := by
  have HROW : Put (_) := ⟨hrow⟩
  have hlen := hm.length
  clear hrow
  go_enter Tryd.func31, Tryd.ntmps31
  go_wp2
  go_loopg [5, 13] vals.length (fun gk av iv wr => ∃ i : Nat, iv = .int .i64 i ∧ i + gk = vals.length ∧ av = .int .u64 (nxU (ρs.take i) x : Nat) ∧ Below w.heap.size w wr)
  case atStart => exact ⟨0, rfl, by omega, rfl, Below.refl _ _⟩
  case round =>
    obtain ⟨i, rfl, hik, rfl, hBr⟩ := hrel
    have hl1 : nxU (ρs.take i) x < 18446744073709551616 := nxU_lt _ (fun ρ h => hlt ρ (List.mem_of_mem_take h)) 0 (by decide)
    by_cases hi : i < vals.length
    · have hi' : (i : Int) < (vals.length : Int) := by omega
      have i0 : (0 : Int) ≤ (i : Int) := by omega
      obtain ⟨g', rfl⟩ : ∃ g', gk = g' + 1 := ⟨gk - 1, by omega⟩
      have hir : i < ρs.length := by omega
      obtain ⟨fn, caps, hvi, hent, hcall⟩ := hm.get i hi hir
      have e1 : vals = vals.flatMap (fun v => [v]) := by simp
      have hr1 := HROW.out
      rw [e1] at hr1
      have hr2 : w.ownsRow base 120 1 (.slice ao vals.length cap) vals.length (vals.flatMap (fun v => [v])) := by rw [← e1]; exact HROW.out
      obtain ⟨g, rfl, hg1, hg2, hg3, hcell⟩ := row_at (z := 1) (fun _ => rfl) hr2 (by omega)
      have c0 := (hBr.cell (p := ⟨g, i * 1 + 0, none⟩) hg2).trans (hcell i hi 0 (by omega))
      simp only [List.getElem?_cons_zero, Nat.mul_one, Nat.add_zero] at c0
      rw [hvi] at c0
      have hcl : Calls Tryd.prog fn (#[.int .u8 (x : Nat)] ++ caps) wr fun e W' => e = .returned (.int .u64 ((ρs[i] x : Nat) : Int)) ∧ Below wr.heap.size wr W' := hcall wr hBr x hx
      have hl2 := hlt _ (List.getElem_mem hir)
      have hsn := nxU_snoc ρs i hir x
      have hor := bits_or_u64_nat (nxU (ρs.take i) x) (ρs[i] x) hl1 hl2
      generalize ρs[i] x = m at hcl hl2 hsn hor
      generalize nxU (ρs.take i) x = a at *
      have HSN : Put (_ = _) := ⟨hsn⟩
      have HOR : Put (_ = _) := ⟨hor⟩
      clear hcell hr1 hr2 e1 hvi hcall hsn hor
      go_wp2_with fail
      refine hcl.mono ?_
      rintro e w3 ⟨rfl, hb3⟩
      have hB3 : Below w.heap.size w w3 := hBr.trans (hb3.mono hBr.size)
      clear hcl hb3 hBr
      go_wp2
      go_roundg g'
      case measure => exact Nat.lt_succ_self _
      case rel => exact ⟨i + 1, by go_num, by omega, by rw [HSN.out, HOR.out], hB3⟩
    · obtain rfl : i = vals.length := by omega
      have hi' : ¬ ((vals.length : Int) < (vals.length : Int)) := by omega
      rw [hlen, List.take_length] at hl1 ⊢
      have hS : nxS ρs x = if nxU ρs x = 0 then 2 ^ x else nxU ρs x := rfl
      generalize nxU ρs x = U at hl1 hS
      have HS : Put (_ = _) := ⟨hS⟩
      clear hS
      by_cases hU : U = 0
      · subst hU
        go_wp2_with fail
        refine (with64_any 0 x (by decide) hx wr).mono ?_
        rintro e w3 ⟨rfl, rfl⟩
        go_wp2
        go_ret
        exact ⟨by have h2 : nxS ρs x = 2 ^ x := (by have := HS.out; simpa using this); rw [h2]; simp, hBr⟩
      · have hne : ((U : Int) == 0) = false := by simp; omega
        go_wp2
        go_ret
        exact ⟨by rw [HS.out, if_neg hU]; rfl, hBr⟩
end Go.Proofs.YtkbmolodljenjaaDoor
