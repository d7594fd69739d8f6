/- The reference's list of next states. Our own text. -/
import Derived.Test.YtkbmolodljenjaaDoorNMakes
namespace Go.Proofs.YtkbmolodljenjaaDoor
open Go.RowKit

section
variable {w : World}
set_option maxRecDepth 100000 in
set_option maxHeartbeats 3200000 in
theorem nexts26_any (ao aor : Option Addr) (cap capr base : Nat) (vs : List V3) (rs : List R2) (d0 : List Nat) (h3 : vs.length ≤ 3) (h8 : rs.length ≤ 200) (ht : ∀ v ∈ vs, v.top ≤ 3) (hdl : d0.length = vs.length) (hd : ∀ x ∈ d0, x ≤ 3) (hg : ∀ x ∈ rs, R2.Good vs.length x)
    (hv : w.ownsRow base 97 3 (.slice ao vs.length cap) vs.length (vs.flatMap V3.cells)) (hr : w.ownsRow base 104 2 (.slice aor rs.length capr) rs.length (rs.flatMap R2.cells)) (hOr : ∀ x ∈ rs, R2.Ok w base x) :
    Calls Tryd.prog 33 #[.agg #[.slice ao vs.length cap, .slice aor rs.length capr], .string (txtL d0)] w fun e w' => (∃ v, e = .returned v ∧ w'.ownsRow w.heap.size 9 1 v ((allL (vs.map V3.top)).filter (fun d => folF (vs.map V3.top) d0 d rs true)).length (strs ((allL (vs.map V3.top)).filter (fun d => folF (vs.map V3.top) d0 d rs true)))) ∧ Below w.heap.size w w' := by
  have hA := heap_alloc_new w (.cells #[.slice ao vs.length cap, .slice aor rs.length capr] 53)
  have hBel : Below w.heap.size w (w.alloc (.cells #[.slice ao vs.length cap, .slice aor rs.length capr] 53)) := (Below.refl _ _).alloc (Nat.le_refl _) _
  have hsz : (w.alloc (.cells #[.slice ao vs.length cap, .slice aor rs.length capr] 53)).heap.size = w.heap.size + 1 := by simp
  obtain ⟨n0, n1, nf⟩ := cell2 hA
  have HV : Put (w.ownsRow base 97 3 (.slice ao vs.length cap) vs.length (vs.flatMap V3.cells)) := ⟨hv⟩
  have HRR : Put (w.ownsRow base 104 2 (.slice aor rs.length capr) rs.length (rs.flatMap R2.cells)) := ⟨hr⟩
  have HOR : Put (∀ x ∈ rs, R2.Ok w base x) := ⟨hOr⟩
  obtain ⟨i0, hi, hz0, hz1, hz2⟩ := info_parts info9
  have h64 := allL_64 (vs.map V3.top) (by simpa using h3) (by simpa using ht)
  have HM : Put (∀ d ∈ allL (vs.map V3.top), d.length = vs.length ∧ ∀ x ∈ d, x ≤ 3) := ⟨by
    have := allL_mem (vs.map V3.top) (by simpa using ht)
    simpa using this⟩
  clear hv hA nf hOr hr
  go_enter Tryd.func33, Tryd.ntmps33
  go_wp2_with fail
  generalize w.alloc (.cells #[.slice ao vs.length cap, .slice aor rs.length capr] 53) = w1 at *
  refine (all_any ao aor cap rs.length capr base vs h3 ht (hBel.ownsRow' HV.out)).mono ?_
  rintro e w2 ⟨⟨va, rfl, hra⟩, hb2⟩
  generalize hAe : allL (vs.map V3.top) = A at hra h64 HM
  have HAE : Put (_ = A) := ⟨hAe⟩
  clear hAe
  obtain ⟨aoa, capa, rfl⟩ := owned_slice' hra
  have HRA : Put (_) := ⟨hra⟩
  clear hra
  have m0 := (hb2.cell (p := ⟨w.heap.size, 0, none⟩) (by show w.heap.size < w1.heap.size; omega)).trans n0
  have m1 := (hb2.cell (p := ⟨w.heap.size, 1, none⟩) (by show w.heap.size < w1.heap.size; omega)).trans n1
  have hs2 := hb2.size
  go_wp2_with fail
  go_loopg [5, 7] A.length (fun gk lv iv wr => ∃ i : Nat, iv = .int .i64 i ∧ i + gk = A.length ∧ wr.ownsRow w2.heap.size 9 1 lv ((A.take i).filter (fun d => folF (vs.map V3.top) d0 d rs true)).length (strs ((A.take i).filter (fun d => folF (vs.map V3.top) d0 d rs true))) ∧ Below w2.heap.size w2 wr)
  case atStart => exact ⟨0, rfl, by omega, World.ownsRow_nil _ _ _ _, Below.refl _ _⟩
  case round =>
    obtain ⟨i, rfl, hik, hrow, hBr⟩ := hrel
    have hsr := hBr.size
    have hBw : Below w.heap.size w wr := hBel.trans ((hb2.mono (by omega)).trans (hBr.mono (by omega)))
    have m0' := (hBr.cell (p := ⟨w.heap.size, 0, none⟩) (by show w.heap.size < w2.heap.size; omega)).trans m0
    have m1' := (hBr.cell (p := ⟨w.heap.size, 1, none⟩) (by show w.heap.size < w2.heap.size; omega)).trans m1
    by_cases hlt : i < A.length
    · have hlt' : (i : Int) < (A.length : Int) := by omega
      have i0' : (0 : Int) ≤ (i : Int) := by omega
      obtain ⟨g', rfl⟩ : ∃ g', gk = g' + 1 := ⟨gk - 1, by omega⟩
      obtain ⟨ga, capa', hle, hga1, hga2, hga3, hca⟩ := strs_at HRA.out (by omega)
      obtain ⟨rfl, rfl⟩ : aoa = some ⟨ga, 0, none⟩ ∧ capa = capa' := by simpa using hle
      have cA := (hBr.cell (p := ⟨ga, i, none⟩) hga2).trans (hca i hlt)
      have hdi := HM.out _ (List.getElem_mem hlt)
      have hfs : (A.take (i + 1)).filter (fun d => folF (vs.map V3.top) d0 d rs true) = (A.take i).filter (fun d => folF (vs.map V3.top) d0 d rs true) ++ (if folF (vs.map V3.top) d0 A[i] rs true then [A[i]] else []) := filter_snoc _ A i hlt
      have hfl := filter_le (fun d => folF (vs.map V3.top) d0 d rs true) A i
      generalize A[i] = d at cA hdi hfs
      have HF : Put (_ = _) := ⟨hfs⟩
      have hcall := follows_any (w := wr.drew) ao aor cap capr base vs rs d0 d h3 h8 ht hdl hdi.1 hd hdi.2 hg (hBw.ownsRow' HV.out) (hBw.ownsRow' HRR.out) (fun v hv => hBw.okR (HOR.out v hv))
      generalize (A.take i).filter (fun d => folF (vs.map V3.top) d0 d rs true) = M at hrow hfl HF
      generalize folF (vs.map V3.top) d0 d rs true = bb at hcall HF
      clear hfs hca hle hdi
      go_wp2_with fail
      go_region_law ((go_simp; go_at_call 38; refine hcall.mono ?_; rintro e w3 ⟨rfl, hb3⟩))
      all_goals
        have hb3' : Below wr.heap.size wr w3 := ⟨hb3.os, hb3.tape, hb3.output, hb3.size, hb3.block⟩
        have hB3 : Below w2.heap.size w2 w3 := hBr.trans (hb3'.mono hsr)
        have hrow3 := hb3'.ownsRow' hrow
        have cA3 := (hb3'.cell (p := ⟨ga, i, none⟩) (by show ga < wr.heap.size; omega)).trans cA
        have hs3 := hB3.size
        clear hb3 hb3' hcall hrow cA m0' m1' hBr hBw
        cases bb with
        | false =>
          have hrn : w3.ownsRow w2.heap.size 9 1 u5 ((A.take (i + 1)).filter (fun d => folF (vs.map V3.top) d0 d rs true)).length (strs ((A.take (i + 1)).filter (fun d => folF (vs.map V3.top) d0 d rs true))) := by
            rw [HF.out]; simpa using hrow3
          clear hrow3
          go_wp2
          go_roundg g'
          case measure => exact Nat.lt_succ_self _
          case rel => exact ⟨i + 1, by go_num, by omega, hrn, hB3⟩
        | true =>
          go_wp2_with (at_builtin; refine wpList_append_own _ rfl _ _ 29 rfl w2.heap.size 9 i0 _ 1 16 Tryd.underlying29 hi hz0 hz1 hz2 rfl Nat.one_pos u5 M.length (strs M) rfl (hrow3.alloc _) ⟨w3.heap.size, 0, none⟩ 1 1 [.string (txtL d)] rfl rfl (cell_one_new _ _ _) (by simp [Value.oneCell']) (by unfold maxLen; omega) (by omega) (by simp; omega) ?_)
          intro v' w5 hown' hgrow _
          obtain ⟨g5, cap5, rfl⟩ := ownsRow_succ hown'
          have hB5 : Below w2.heap.size w2 w5 := (hB3.alloc hs3 _).grown hgrow (by simp; omega) (fun k e => (hrow3.lt k e).1)
          have hrn : w5.ownsRow w2.heap.size 9 1 (.slice (some ⟨g5, 0, none⟩) (M.length + 1) cap5) ((A.take (i + 1)).filter (fun d => folF (vs.map V3.top) d0 d rs true)).length (strs ((A.take (i + 1)).filter (fun d => folF (vs.map V3.top) d0 d rs true))) := by
            rw [HF.out]; simp only [if_true, strs_append, List.length_append]; exact hown'
          clear hown' hgrow hrow3
          go_wp2
          go_roundg g'
          case measure => exact Nat.lt_succ_self _
          case rel => exact ⟨i + 1, by go_num, by omega, hrn, hB5⟩
    · obtain rfl : i = A.length := by omega
      have hlt' : ¬ ((A.length : Int) < (A.length : Int)) := by omega
      rw [List.take_length] at hrow
      obtain ⟨aol, capl, rfl⟩ := owned_slice' hrow
      have hrn := own_base hrow (show w.heap.size ≤ w2.heap.size by omega)
      clear hrow
      go_wp2
      go_ret
      exact ⟨⟨_, rfl, by rw [HAE.out]; exact hrn⟩, hBw⟩
end
end Go.Proofs.YtkbmolodljenjaaDoor
