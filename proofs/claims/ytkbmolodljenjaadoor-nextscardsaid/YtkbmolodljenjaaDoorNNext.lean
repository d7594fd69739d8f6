/- The reference: what a term is worth, whether a condition holds, whether a rule may and makes. Our own text. -/
import Derived.Test.YtkbmolodljenjaaDoorNFirst
namespace Go.Proofs.YtkbmolodljenjaaDoor
open Go.RowKit

def wor (t0 t1 : Int) (d : List Nat) : Int := if t0 < 0 then t1 else ((d.getD t0.toNat 0 : Nat) : Int)
def soC (c : C7) (d : List Nat) : Bool := if c.op = 61 then wor c.a0 c.a1 d == wor c.b0 c.b1 d else if c.op = 35 then wor c.a0 c.a1 d != wor c.b0 c.b1 d else decide (wor c.a0 c.a1 d < wor c.b0 c.b1 d)
def mayC (l : List C7) (d : List Nat) : Bool := l.all (soC · d)

section
variable {w : World}
set_option maxRecDepth 100000 in
set_option maxHeartbeats 800000 in
theorem worth_any (t0 t1 t2 : Int) (d : List Nat) (hd : ∀ x ∈ d, x ≤ 3) (ht : t0 < (d.length : Int)) :
    Calls Tryd.prog 74 #[.agg #[.int .i64 t0, .int .i64 t1, .int .i64 t2], .string (txtL d)] w fun e w' => e = .returned (.int .i64 (wor t0 t1 d)) ∧ Below w.heap.size w w' := by
  by_cases h : t0 < 0
  · have hw : wor t0 t1 d = t1 := by unfold wor; rw [if_pos h]
    rw [hw]
    clear hw
    go_enter Tryd.func74, Tryd.ntmps74
    go_wp2
    go_ret
    exact ⟨rfl, (Below.refl _ _).alloc (Nat.le_refl _) _⟩
  · obtain ⟨k, rfl⟩ : ∃ k : Nat, t0 = (k : Int) := ⟨t0.toNat, by omega⟩
    have hk : k < d.length := by omega
    have hks : k < (txtL d).size := by rw [txtL_size]; exact hk
    have hx := hd _ (List.getElem_mem hk)
    have hw : wor k t1 d = ((d[k] : Nat) : Int) := by unfold wor; rw [if_neg h]; simp [List.getElem?_eq_getElem hk]
    rw [hw]
    have hb := txtL_toNat d k hk hks hd
    have h0 : (0 : Int) ≤ (k : Int) := by omega
    have hks' : (k : Int) < ((txtL d).size : Int) := by omega
    generalize txtL d = s at *
    generalize d[k] = x at *
    have e8 : IntKind.u8.wrap (48 + (x : Int) - 48) = (x : Int) := by simp [IntKind.wrap, IntKind.signed, IntKind.bits]; omega
    clear hw
    go_enter Tryd.func74, Tryd.ntmps74
    go_wp2_with fail
    go_ret
    exact ⟨rfl, (Below.refl _ _).alloc (Nat.le_refl _) _⟩
/-- A condition as it is handed on. -/
def C7.agg (c : C7) : Value := .agg #[.int .i64 c.a0, .int .i64 c.a1, .int .i64 c.a2, .int .i64 c.b0, .int .i64 c.b1, .int .i64 c.b2, .int .u8 c.op]
set_option maxRecDepth 100000 in
set_option maxHeartbeats 800000 in
theorem so_any (c : C7) (d : List Nat) (hd : ∀ x ∈ d, x ≤ 3) (ha : c.a0 < (d.length : Int)) (hb : c.b0 < (d.length : Int)) :
    Calls Tryd.prog 73 #[c.agg, .string (txtL d)] w fun e w' => e = .returned (.bool (soC c d)) ∧ Below w.heap.size w w' := by
  obtain ⟨a0, a1, a2, b0, b1, b2, op⟩ := c
  unfold C7.agg soC
  simp only at ha hb ⊢
  have HA : ∀ w, Calls Tryd.prog 74 #[.agg #[.int .i64 a0, .int .i64 a1, .int .i64 a2], .string (txtL d)] w fun e w' => e = .returned (.int .i64 (wor a0 a1 d)) ∧ Below w.heap.size w w' := fun w => worth_any a0 a1 a2 d hd ha
  have HB : ∀ w, Calls Tryd.prog 74 #[.agg #[.int .i64 b0, .int .i64 b1, .int .i64 b2], .string (txtL d)] w fun e w' => e = .returned (.int .i64 (wor b0 b1 d)) ∧ Below w.heap.size w w' := fun w => worth_any b0 b1 b2 d hd hb
  generalize wor a0 a1 d = x at *
  generalize wor b0 b1 d = y at *
  generalize txtL d = s at *
  generalize hR : (if op = 61 then x == y else if op = 35 then x != y else decide (x < y)) = R
  have HR : Put (_ = R) := ⟨hR⟩
  clear hR
  have hA := heap_alloc_new w (.cells #[.int .i64 a0, .int .i64 a1, .int .i64 a2, .int .i64 b0, .int .i64 b1, .int .i64 b2, .int .u8 op] 110)
  have hBel : Below w.heap.size w (w.alloc (.cells #[.int .i64 a0, .int .i64 a1, .int .i64 a2, .int .i64 b0, .int .i64 b1, .int .i64 b2, .int .u8 op] 110)) := (Below.refl _ _).alloc (Nat.le_refl _) _
  have hsz : (w.alloc (.cells #[.int .i64 a0, .int .i64 a1, .int .i64 a2, .int .i64 b0, .int .i64 b1, .int .i64 b2, .int .u8 op] 110)).heap.size = w.heap.size + 1 := by simp
  go_enter Tryd.func73, Tryd.ntmps73
  go_wp2_with fail
  generalize w.alloc (.cells #[.int .i64 a0, .int .i64 a1, .int .i64 a2, .int .i64 b0, .int .i64 b1, .int .i64 b2, .int .u8 op] 110) = w1 at *
  refine (HA w1).mono ?_
  rintro e w2 ⟨rfl, hb2⟩
  have hA2 := (hb2.block _ (lt_of_block hA)).trans hA
  obtain ⟨⟨q0, q1, q2, q3, q4, q5, q6⟩, qf⟩ := blk7 hA2
  clear q0 q1 q2 qf
  go_wp2_with fail
  refine (HB w2).mono ?_
  rintro e w3 ⟨rfl, hb3⟩
  have hA3 := (hb3.block _ (lt_of_block hA2)).trans hA2
  obtain ⟨⟨p0, p1, p2, p3, p4, p5, p6⟩, pf⟩ := blk7 hA3
  have hB3 : Below w.heap.size w w3 := hBel.trans ((hb2.mono (by omega)).trans (hb3.mono (Nat.le_trans (by omega) hb2.size)))
  clear p0 p1 p2 p3 p4 p5 pf q3 q4 q5 q6 hA hA2 hA3 HA HB hb2 hb3 hBel hsz
  by_cases h61 : op = 61
  · have hR := HR.out
    rw [if_pos h61] at hR
    subst h61 hR
    clear HR
    go_wp2
    go_ret
    exact ⟨rfl, hB3⟩
  · have n61 : (op == 61) = false := by simpa using h61
    have hR := HR.out
    rw [if_neg h61] at hR
    clear HR
    by_cases h35 : op = 35
    · rw [if_pos h35] at hR
      subst h35 hR
      go_wp2
      go_ret
      exact ⟨rfl, hB3⟩
    · have n35 : (op == 35) = false := by simpa using h35
      rw [if_neg h35] at hR
      subst hR
      go_wp2
      go_ret
      exact ⟨rfl, hB3⟩
end
end Go.Proofs.YtkbmolodljenjaaDoor

namespace Go.Proofs.YtkbmolodljenjaaDoor
open Go.RowKit

theorem mayC_cons (c : C7) (l : List C7) (d : List Nat) : mayC (c :: l) d = (soC c d && mayC l d) := rfl
section
variable {w : World}
set_option maxRecDepth 100000 in
set_option maxHeartbeats 1600000 in
theorem may_any (base : Nat) (r : R2) (d : List Nat) (hd : ∀ x ∈ d, x ≤ 3) (hl : r.cl.length ≤ 9223372036854775807) (hg : ∀ c ∈ r.cl, c.a0 < (d.length : Int) ∧ c.b0 < (d.length : Int)) (hr : R2.Ok w base r) :
    Calls Tryd.prog 55 #[.agg #[r.vi, r.vd], .string (txtL d)] w fun e w' => e = .returned (.bool (mayC r.cl d)) ∧ Below w.heap.size w w' := by
  obtain ⟨cl, dl, ao, cap, ao', cap'⟩ := r
  simp only [R2.vi, R2.vd] at *
  have HR : Put (w.ownsRow base 110 7 (.slice ao cl.length cap) cl.length (cl.flatMap C7.cells)) := ⟨hr.1⟩
  have HG : Put (_) := ⟨hg⟩
  have HD : Put (_) := ⟨hd⟩
  generalize hP : mayC cl d = P
  have HP : Put (_ = P) := ⟨hP⟩
  have hA := heap_alloc_new w (.cells #[.slice ao cl.length cap, .slice ao' dl.length cap'] 104)
  have hBel : Below w.heap.size w (w.alloc (.cells #[.slice ao cl.length cap, .slice ao' dl.length cap'] 104)) := (Below.refl _ _).alloc (Nat.le_refl _) _
  have hsz : (w.alloc (.cells #[.slice ao cl.length cap, .slice ao' dl.length cap'] 104)).heap.size = w.heap.size + 1 := by simp
  obtain ⟨n0, n1, nf⟩ := cell2 hA
  clear hr hg hd hP hA n1 nf
  go_enter Tryd.func55, Tryd.ntmps55
  go_wp2_with fail
  generalize w.alloc (.cells #[.slice ao cl.length cap, .slice ao' dl.length cap'] 104) = w1 at *
  go_loopg [5] cl.length (fun gk iv wr => ∃ i : Nat, iv = .int .i64 i ∧ i + gk = cl.length ∧ Below w1.heap.size w1 wr ∧ mayC (cl.drop i) d = P)
  case atStart => exact ⟨0, rfl, by omega, Below.refl _ _, HP.out⟩
  case round =>
    clear HP
    obtain ⟨i, rfl, hik, hBr, hPi⟩ := hrel
    have c0 := (hBr.cell (p := ⟨w.heap.size, 0, none⟩) (by show w.heap.size < w1.heap.size; omega)).trans n0
    have hsr := hBr.size
    have hBw : Below w.heap.size w wr := hBel.trans (hBr.mono (by omega))
    by_cases hlt : i < cl.length
    · have hlt' : (i : Int) < (cl.length : Int) := by omega
      have i0 : (0 : Int) ≤ (i : Int) := by omega
      obtain ⟨g', rfl⟩ : ∃ g', gk = g' + 1 := ⟨gk - 1, by omega⟩
      obtain ⟨gc, rfl, hgc1, hgc2, hgc3, hcc⟩ := row_at C7.len HR.out (by omega)
      have q0 := (hBw.cell (p := ⟨gc, i * 7 + 0, none⟩) hgc2).trans (hcc i hlt 0 (by omega))
      have q1 := (hBw.cell (p := ⟨gc, i * 7 + 1, none⟩) hgc2).trans (hcc i hlt 1 (by omega))
      have q2 := (hBw.cell (p := ⟨gc, i * 7 + 2, none⟩) hgc2).trans (hcc i hlt 2 (by omega))
      have q3 := (hBw.cell (p := ⟨gc, i * 7 + 3, none⟩) hgc2).trans (hcc i hlt 3 (by omega))
      have q4 := (hBw.cell (p := ⟨gc, i * 7 + 4, none⟩) hgc2).trans (hcc i hlt 4 (by omega))
      have q5 := (hBw.cell (p := ⟨gc, i * 7 + 5, none⟩) hgc2).trans (hcc i hlt 5 (by omega))
      have q6 := (hBw.cell (p := ⟨gc, i * 7 + 6, none⟩) hgc2).trans (hcc i hlt 6 (by omega))
      have hgi := HG.out _ (List.getElem_mem hlt)
      rw [List.drop_eq_getElem_cons hlt, mayC_cons] at hPi
      generalize cl[i] = c at q0 q1 q2 q3 q4 q5 q6 hgi hPi
      simp only [C7.cells, List.getElem?_cons_zero, List.getElem?_cons_succ, Nat.add_zero] at q0 q1 q2 q3 q4 q5 q6
      have hcall : ∀ w, Calls Tryd.prog 73 #[c.agg, .string (txtL d)] w fun e w' => e = .returned (.bool (soC c d)) ∧ Below w.heap.size w w' := fun w => so_any c d HD.out hgi.1 hgi.2
      unfold C7.agg at hcall
      have HPi : Put (_ = P) := ⟨hPi⟩
      generalize soC c d = bb at hcall HPi
      clear hcc hPi hgi
      generalize txtL d = s at *
      go_wp2_with fail
      refine (hcall wr).mono ?_
      rintro e w3 ⟨rfl, hb3⟩
      have hB3 : Below w1.heap.size w1 w3 := hBr.trans (hb3.mono hsr)
      clear hcall q0 q1 q2 q3 q4 q5 q6 hb3
      cases bb with
      | true =>
        have HPn : Put (mayC (cl.drop (i + 1)) d = P) := ⟨by have := HPi.out; simpa using this⟩
        clear HPi
        go_wp2
        go_roundg g'
        case measure => exact Nat.lt_succ_self _
        case rel => exact ⟨i + 1, by go_num, by omega, hB3, HPn.out⟩
      | false =>
        have hPn : false = P := by have := HPi.out; simpa using this
        subst hPn
        clear HPi
        go_wp2
        go_ret
        exact ⟨rfl, hBel.trans (hB3.mono (by omega))⟩
    · obtain rfl : i = cl.length := by omega
      have hlt' : ¬ ((cl.length : Int) < (cl.length : Int)) := by omega
      rw [List.drop_length] at hPi
      have hPn : true = P := by rw [← hPi]; rfl
      subst hPn
      clear hPi
      go_wp2
      go_ret
      exact ⟨rfl, hBw⟩
end
end Go.Proofs.YtkbmolodljenjaaDoor
