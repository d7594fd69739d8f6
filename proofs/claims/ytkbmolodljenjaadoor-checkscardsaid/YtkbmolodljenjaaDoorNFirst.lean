/- The reference's first states. Our own text. -/
import Derived.Test.YtkbmolodljenjaaDoorNPure
namespace Go.Proofs.YtkbmolodljenjaaDoor
open Go.RowKit

def isFP : List (List Nat) → List Nat → Bool
  | [], _ => true
  | _ :: _, [] => false
  | l :: vl, x :: d => l.contains x && isFP vl d
theorem txtL_toNat (d : List Nat) (i : Nat) (h : i < d.length) (h' : i < (txtL d).size) (hd : ∀ x ∈ d, x ≤ 3) : (txtL d)[i].toNat = 48 + d[i] := by
  rw [txtL_get d i h h']
  have := hd _ (List.getElem_mem h)
  simp; omega
theorem contains_app (a : List Nat) (y x : Nat) : (a ++ [y]).contains x = (a.contains x || y == x) := by
  by_cases hx : y = x
  · subst hx; simp
  · have h1 : (y == x) = false := by simpa using hx
    have h2 : ¬ x = y := fun h => hx h.symm
    simp [h1, h2]
theorem contains_snoc (l : List Nat) (k : Nat) (h : k < l.length) (x : Nat) : (l.take (k + 1)).contains x = ((l.take k).contains x || l[k] == x) := by
  have e : l.take (k + 1) = l.take k ++ [l[k]] := by rw [List.take_add_one, List.getElem?_eq_getElem h]; rfl
  rw [e, contains_app]

section
variable {w : World}
set_option maxRecDepth 100000 in
set_option maxHeartbeats 3200000 in
theorem isFirst_any (ao aor : Option Addr) (cap nr capr base : Nat) (vs : List V3) (d : List Nat) (h3 : vs.length ≤ 3) (hdl : d.length = vs.length) (hd : ∀ x ∈ d, x ≤ 3)
    (hv : w.ownsRow base 97 3 (.slice ao vs.length cap) vs.length (vs.flatMap V3.cells)) (hOv : ∀ v ∈ vs, V3.Ok w base v) :
    Calls Tryd.prog 52 #[.agg #[.slice ao vs.length cap, .slice aor nr capr], .string (txtL d)] w fun e w' => e = .returned (.bool (isFP (vs.map V3.l) d)) ∧ Below w.heap.size w w' := by
  have hA := heap_alloc_new w (.cells #[.slice ao vs.length cap, .slice aor nr capr] 53)
  have hBel : Below w.heap.size w (w.alloc (.cells #[.slice ao vs.length cap, .slice aor nr capr] 53)) := (Below.refl _ _).alloc (Nat.le_refl _) _
  obtain ⟨n0, n1, nf⟩ := cell2 hA
  have HV : Put (w.ownsRow base 97 3 (.slice ao vs.length cap) vs.length (vs.flatMap V3.cells)) := ⟨hv⟩
  have HOV : Put (∀ v ∈ vs, V3.Ok w base v) := ⟨hOv⟩
  have hss := txtL_size d
  have HG : Put (∀ (i : Nat) (h : i < d.length) (h' : i < (txtL d).size), (txtL d)[i].toNat = 48 + d[i]) := ⟨fun i h h' => txtL_toNat d i h h' hd⟩
  generalize txtL d = s at hss HG
  generalize hR : isFP (vs.map V3.l) d = R
  have HR : Put (_ = R) := ⟨hR⟩
  clear hv hA nf n1 hOv hR
  go_enter Tryd.func52, Tryd.ntmps52
  go_wp2_with fail
  have hsz : (w.alloc (.cells #[.slice ao vs.length cap, .slice aor nr capr] 53)).heap.size = w.heap.size + 1 := by simp
  generalize w.alloc (.cells #[.slice ao vs.length cap, .slice aor nr capr] 53) = w1 at *
  go_loopg [5] vs.length (fun gk iv wr => ∃ i m : Nat, iv = .int .i64 i ∧ i + gk = vs.length ∧ wr = w1.drewN m ∧ isFP ((vs.map V3.l).drop i) (d.drop i) = R)
  case atStart => exact ⟨0, 0, rfl, by omega, rfl, HR.out⟩
  case round =>
    clear HR
    obtain ⟨i, m, rfl, hik, rfl, hRi⟩ := hrel
    by_cases hlt : i < vs.length
    · have hlt' : (i : Int) < (vs.length : Int) := by omega
      have i0 : (0 : Int) ≤ (i : Int) := by omega
      have hid : i < d.length := by omega
      have his : i < s.size := by omega
      have hbyte := HG.out i hid his
      obtain ⟨gv, rfl, hgv1, hgv2, hgv3, hcv⟩ := row_at V3.len HV.out (by omega)
      have c1 := hcv i hlt 1 (by omega)
      rw [← hBel.cell (p := ⟨gv, _, none⟩) hgv2] at c1
      have hok := HOV.out _ (List.getElem_mem hlt)
      rw [drop_map _ _ _ hlt, List.drop_eq_getElem_cons hid] at hRi
      have hx3 := hd _ (List.getElem_mem hid)
      obtain ⟨v, hvd⟩ : ∃ v, v = vs[i] := ⟨_, rfl⟩
      rw [← hvd] at c1 hok hRi
      generalize d[i] = x at *
      simp only [V3.cells, V3.vf, List.getElem?_cons_zero, List.getElem?_cons_succ] at c1
      obtain ⟨hrow, hl5, hat⟩ := hok
      clear hcv hvd
      obtain ⟨g', rfl⟩ : ∃ g', gk = g' + 1 := ⟨gk - 1, by omega⟩
      have HRi : Put (_ = R) := ⟨hRi⟩
      have HRow : Put (w.ownsRow base 3 1 v.vf v.l.length (ints v.l)) := ⟨hrow⟩
      clear hRi hrow
      go_wp2_with fail
      go_loopg [6, 7] v.l.length (fun gk ov kv wr => ∃ k m : Nat, kv = .int .i64 k ∧ k + gk = v.l.length ∧ wr = w1.drewN m ∧ ov = .bool ((v.l.take k).contains x))
      case atStart => exact ⟨0, m, rfl, by omega, rfl, by simp⟩
      case round =>
        obtain ⟨k, m', rfl, hkk, rfl, rfl⟩ := hrel
        by_cases hk : k < v.l.length
        · have hk' : (k : Int) < (v.l.length : Int) := by omega
          have k0 : (0 : Int) ≤ (k : Int) := by omega
          obtain ⟨gf, hao, hgf1, hgf2, hgf3, hcf⟩ := ints_at HRow.out (by omega)
          have hck := hcf k hk
          rw [← hBel.cell (p := ⟨gf, k, none⟩) hgf2] at hck
          rw [hao] at c1
          have hsn := contains_snoc v.l k hk x
          generalize v.l[k] = y at *
          obtain ⟨g2, rfl⟩ : ∃ g2, gk = g2 + 1 := ⟨gk - 1, by omega⟩
          by_cases hyx : y = x
          · have hcmp : ((y : Int) == 48 + (x : Int) - 48) = true := by simp; omega
            have hn' : ((v.l.take (k + 1)).contains x) = true := by rw [hsn, hyx]; simp
            have HSN : Put (_ = _) := ⟨hn'⟩
            clear hsn hn' hyx
            go_wp2_with fail
            go_quiet (fail)
            go_wp2
            go_roundg g2
            case measure => exact Nat.lt_succ_self _
            case rel => exact ⟨k + 1, _, by go_num, by omega, rfl, by rw [HSN.out]⟩
          · have hcmp : ((y : Int) == 48 + (x : Int) - 48) = false := by simp; omega
            have hn' : ((v.l.take (k + 1)).contains x) = ((v.l.take k).contains x) := by
              rw [hsn]
              have : (y == x) = false := by simpa using hyx
              rw [this]; simp
            have HSN : Put (_ = _) := ⟨hn'⟩
            clear hsn hn' hyx
            go_wp2_with fail
            go_quiet (fail)
            go_wp2
            go_roundg g2
            case measure => exact Nat.lt_succ_self _
            case rel => exact ⟨k + 1, _, by go_num, by omega, rfl, by rw [HSN.out]⟩
        · obtain rfl : k = v.l.length := by omega
          have hk' : ¬ ((v.l.length : Int) < (v.l.length : Int)) := by omega
          have HRj : Put ((v.l.contains x && isFP ((vs.map V3.l).drop (i + 1)) (d.drop (i + 1))) = R) := ⟨HRi.out⟩
          rw [List.take_length]
          cases hcx : v.l.contains x with
          | true =>
            have hRn : isFP ((vs.map V3.l).drop (i + 1)) (d.drop (i + 1)) = R := by have := HRj.out; rw [hcx] at this; simpa using this
            have HRn : Put (_ = R) := ⟨hRn⟩
            clear hRn HRj HRi hcx
            go_wp2
            go_roundg g'
            case measure => exact Nat.lt_succ_self _
            case rel => exact ⟨i + 1, _, by go_num, by omega, rfl, HRn.out⟩
          | false =>
            have hRn : false = R := by have := HRj.out; rw [hcx] at this; simpa using this
            subst hRn
            clear HRj HRi hcx
            go_wp2
            go_ret
            exact ⟨rfl, below_drewN hBel _⟩
    · obtain rfl : i = vs.length := by omega
      have hlt' : ¬ ((vs.length : Int) < (vs.length : Int)) := by omega
      rw [List.drop_of_length_le (by simp)] at hRi
      have hRn : true = R := by rw [← hRi]; rfl
      subst hRn
      clear hRi
      go_wp2
      go_ret
      exact ⟨rfl, below_drewN hBel _⟩
end
end Go.Proofs.YtkbmolodljenjaaDoor

namespace Go.Proofs.YtkbmolodljenjaaDoor
open Go.RowKit

end Go.Proofs.YtkbmolodljenjaaDoor
namespace Go.RowKit
open Go.Proofs.YtkbmolodljenjaaDoor
theorem Below.okV {w w' : World} (h : Below w.heap.size w w') {base : Nat} {v : V3} (ho : V3.Ok w base v) : V3.Ok w' base v := ⟨h.ownsRow' ho.1, ho.2⟩
end Go.RowKit
namespace Go.Proofs.YtkbmolodljenjaaDoor
open Go.RowKit
theorem filter_snoc (p : List Nat → Bool) (l : List (List Nat)) (k : Nat) (h : k < l.length) : (l.take (k + 1)).filter p = (l.take k).filter p ++ (if p l[k] then [l[k]] else []) := by
  have e : l.take (k + 1) = l.take k ++ [l[k]] := by rw [List.take_add_one, List.getElem?_eq_getElem h]; rfl
  rw [e, List.filter_append]
  congr 1
  generalize l[k] = d
  cases hp : p d <;> simp [hp]
theorem filter_le (p : List Nat → Bool) (l : List (List Nat)) (k : Nat) : ((l.take k).filter p).length ≤ l.length :=
  Nat.le_trans (List.length_filter_le _ _) (by rw [List.length_take]; omega)
theorem allL_64 (tops : List Nat) (h3 : tops.length ≤ 3) (ht : ∀ t ∈ tops, t ≤ 3) : (allL tops).length ≤ 64 := by
  have := allL_le tops h3 ht 3 (Nat.le_refl _)
  rwa [List.take_of_length_le h3] at this

section
variable {w : World}
set_option maxRecDepth 100000 in
set_option maxHeartbeats 3200000 in
theorem firsts22_any (ao aor : Option Addr) (cap nr capr base : Nat) (vs : List V3) (h3 : vs.length ≤ 3) (ht : ∀ v ∈ vs, v.top ≤ 3)
    (hv : w.ownsRow base 97 3 (.slice ao vs.length cap) vs.length (vs.flatMap V3.cells)) (hOv : ∀ v ∈ vs, V3.Ok w base v) :
    Calls Tryd.prog 29 #[.agg #[.slice ao vs.length cap, .slice aor nr capr]] w fun e w' => (∃ v, e = .returned v ∧ w'.ownsRow w.heap.size 9 1 v ((allL (vs.map V3.top)).filter (isFP (vs.map V3.l))).length (strs ((allL (vs.map V3.top)).filter (isFP (vs.map V3.l))))) ∧ Below w.heap.size w w' := by
  have hA := heap_alloc_new w (.cells #[.slice ao vs.length cap, .slice aor nr capr] 53)
  have hBel : Below w.heap.size w (w.alloc (.cells #[.slice ao vs.length cap, .slice aor nr capr] 53)) := (Below.refl _ _).alloc (Nat.le_refl _) _
  have hsz : (w.alloc (.cells #[.slice ao vs.length cap, .slice aor nr capr] 53)).heap.size = w.heap.size + 1 := by simp
  obtain ⟨n0, n1, nf⟩ := cell2 hA
  have HV : Put (w.ownsRow base 97 3 (.slice ao vs.length cap) vs.length (vs.flatMap V3.cells)) := ⟨hv⟩
  have HOV : Put (∀ v ∈ vs, V3.Ok w base v) := ⟨hOv⟩
  obtain ⟨i0, hi, hz0, hz1, hz2⟩ := info_parts info9
  have h64 := allL_64 (vs.map V3.top) (by simpa using h3) (by simpa using ht)
  have HM : Put (∀ d ∈ allL (vs.map V3.top), d.length = vs.length ∧ ∀ x ∈ d, x ≤ 3) := ⟨by
    have := allL_mem (vs.map V3.top) (by simpa using ht)
    simpa using this⟩
  clear hv hA nf hOv
  go_enter Tryd.func29, Tryd.ntmps29
  go_wp2_with fail
  generalize w.alloc (.cells #[.slice ao vs.length cap, .slice aor nr capr] 53) = w1 at *
  refine (all_any ao aor cap nr capr base vs h3 ht (hBel.ownsRow' HV.out)).mono ?_
  rintro e w2 ⟨⟨va, rfl, hra⟩, hb2⟩
  generalize hAe : allL (vs.map V3.top) = A at hra h64 HM
  have HAE : Put (_ = A) := ⟨hAe⟩
  clear hAe
  obtain ⟨aoa, capa, rfl⟩ := owned_slice' hra
  have HRA : Put (_) := ⟨hra⟩
  clear hra
  have m0 := (hb2.cell (p := ⟨w.heap.size, 0, none⟩) (by show w.heap.size < w1.heap.size; omega)).trans n0
  have m1 := (hb2.cell (p := ⟨w.heap.size, 1, none⟩) (by show w.heap.size < w1.heap.size; omega)).trans n1
  have hs2 := hb2.size
  go_wp2_with fail
  go_loopg [3, 5] A.length (fun gk lv iv wr => ∃ i : Nat, iv = .int .i64 i ∧ i + gk = A.length ∧ wr.ownsRow w2.heap.size 9 1 lv ((A.take i).filter (isFP (vs.map V3.l))).length (strs ((A.take i).filter (isFP (vs.map V3.l)))) ∧ Below w2.heap.size w2 wr)
  case atStart => exact ⟨0, rfl, by omega, World.ownsRow_nil _ _ _ _, Below.refl _ _⟩
  case round =>
    obtain ⟨i, rfl, hik, hrow, hBr⟩ := hrel
    have hsr := hBr.size
    have hBw : Below w.heap.size w wr := hBel.trans ((hb2.mono (by omega)).trans (hBr.mono (by omega)))
    have m0' := (hBr.cell (p := ⟨w.heap.size, 0, none⟩) (by show w.heap.size < w2.heap.size; omega)).trans m0
    have m1' := (hBr.cell (p := ⟨w.heap.size, 1, none⟩) (by show w.heap.size < w2.heap.size; omega)).trans m1
    by_cases hlt : i < A.length
    · have hlt' : (i : Int) < (A.length : Int) := by omega
      have i0' : (0 : Int) ≤ (i : Int) := by omega
      obtain ⟨g', rfl⟩ : ∃ g', gk = g' + 1 := ⟨gk - 1, by omega⟩
      obtain ⟨ga, capa', hle, hga1, hga2, hga3, hca⟩ := strs_at HRA.out (by omega)
      obtain ⟨rfl, rfl⟩ : aoa = some ⟨ga, 0, none⟩ ∧ capa = capa' := by simpa using hle
      have cA := (hBr.cell (p := ⟨ga, i, none⟩) hga2).trans (hca i hlt)
      have hdi := HM.out _ (List.getElem_mem hlt)
      have hfs := filter_snoc (isFP (vs.map V3.l)) A i hlt
      have hfl := filter_le (isFP (vs.map V3.l)) A i
      generalize A[i] = d at cA hdi hfs
      have HF : Put (_ = _) := ⟨hfs⟩
      have hcall := isFirst_any (w := wr.drew) ao aor cap nr capr base vs d h3 hdi.1 hdi.2 (hBw.ownsRow' HV.out) (fun v hv => hBw.okV (HOV.out v hv))
      generalize (A.take i).filter (isFP (vs.map V3.l)) = M at hrow hfl HF
      generalize isFP (vs.map V3.l) d = bb at hcall HF
      clear hfs hca hle hdi
      go_wp2_with fail
      go_region_law ((go_simp; go_at_call 52; refine hcall.mono ?_; rintro e w3 ⟨rfl, hb3⟩))
      all_goals
        have hb3' : Below wr.heap.size wr w3 := ⟨hb3.os, hb3.tape, hb3.output, hb3.size, hb3.block⟩
        have hB3 : Below w2.heap.size w2 w3 := hBr.trans (hb3'.mono hsr)
        have hrow3 := hb3'.ownsRow' hrow
        have cA3 := (hb3'.cell (p := ⟨ga, i, none⟩) (by show ga < wr.heap.size; omega)).trans cA
        have hs3 := hB3.size
        clear hb3 hb3' hcall hrow cA m0' m1' hBr hBw
        cases bb with
        | false =>
          have hrn : w3.ownsRow w2.heap.size 9 1 u3 ((A.take (i + 1)).filter (isFP (vs.map V3.l))).length (strs ((A.take (i + 1)).filter (isFP (vs.map V3.l)))) := by
            rw [HF.out]; simpa using hrow3
          clear hrow3
          go_wp2
          go_roundg g'
          case measure => exact Nat.lt_succ_self _
          case rel => exact ⟨i + 1, by go_num, by omega, hrn, hB3⟩
        | true =>
          go_wp2_with (at_builtin; refine wpList_append_own _ rfl _ _ 29 rfl w2.heap.size 9 i0 _ 1 16 Tryd.underlying29 hi hz0 hz1 hz2 rfl Nat.one_pos u3 M.length (strs M) rfl (hrow3.alloc _) ⟨w3.heap.size, 0, none⟩ 1 1 [.string (txtL d)] rfl rfl (cell_one_new _ _ _) (by simp [Value.oneCell']) (by unfold maxLen; omega) (by omega) (by simp; omega) ?_)
          intro v' w5 hown' hgrow _
          obtain ⟨g5, cap5, rfl⟩ := ownsRow_succ hown'
          have hB5 : Below w2.heap.size w2 w5 := (hB3.alloc hs3 _).grown hgrow (by simp; omega) (fun k e => (hrow3.lt k e).1)
          have hrn : w5.ownsRow w2.heap.size 9 1 (.slice (some ⟨g5, 0, none⟩) (M.length + 1) cap5) ((A.take (i + 1)).filter (isFP (vs.map V3.l))).length (strs ((A.take (i + 1)).filter (isFP (vs.map V3.l)))) := by
            rw [HF.out]; simp only [if_true, strs_append, List.length_append]; exact hown'
          clear hown' hgrow hrow3
          go_wp2
          go_roundg g'
          case measure => exact Nat.lt_succ_self _
          case rel => exact ⟨i + 1, by go_num, by omega, hrn, hB5⟩
    · obtain rfl : i = A.length := by omega
      have hlt' : ¬ ((A.length : Int) < (A.length : Int)) := by omega
      rw [List.take_length] at hrow
      obtain ⟨aol, capl, rfl⟩ := owned_slice' hrow
      have hrn := own_base hrow (show w.heap.size ≤ w2.heap.size by omega)
      clear hrow
      go_wp2
      go_ret
      exact ⟨⟨_, rfl, by rw [HAE.out]; exact hrn⟩, hBw⟩
end
end Go.Proofs.YtkbmolodljenjaaDoor
