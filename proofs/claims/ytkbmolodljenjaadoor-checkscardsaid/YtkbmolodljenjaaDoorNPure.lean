/- What the reference's loops make, pure. Our own text. -/
import Derived.Test.YtkbmolodljenjaaDoorMPure
import Derived.Test.YtkbmolodljenjaaDoorRWrong
import Derived.Test.YtkbmolodljenjaaDoorMText
import Derived.Deep.RegionLaw
import Derived.Deep.AppendLies
import Derived.Deep.RegionHeld
namespace Go.Proofs.YtkbmolodljenjaaDoor

def ext (top : Nat) (d : List Nat) : List (List Nat) := (List.range (top + 1)).map (fun v => d ++ [v])
theorem allL_snoc (tops : List Nat) (t : Nat) : allL (tops ++ [t]) = (allL tops).flatMap (ext t) := by
  simp [allL]
  rfl
theorem ext_length (top : Nat) (d : List Nat) : (ext top d).length = top + 1 := by simp [ext]
theorem flatMap_length_le {α β : Type} (f : α → List β) (c : Nat) : ∀ (l : List α), (∀ a ∈ l, (f a).length ≤ c) → (l.flatMap f).length ≤ l.length * c
  | [], _ => by simp
  | a :: l, h => by
    have ih := flatMap_length_le f c l (fun b hb => h b (by simp [hb]))
    have ha := h a (by simp)
    rw [List.flatMap_cons, List.length_append, List.length_cons, Nat.succ_mul]
    omega
theorem allL_take (tops : List Nat) (i : Nat) (h : i < tops.length) : allL (tops.take (i + 1)) = (allL (tops.take i)).flatMap (ext tops[i]) := by
  rw [List.take_add_one, List.getElem?_eq_getElem h, ← allL_snoc]
  rfl
theorem allL_le (tops : List Nat) (h3 : tops.length ≤ 3) (ht : ∀ t ∈ tops, t ≤ 3) : ∀ i, i ≤ 3 → (allL (tops.take i)).length ≤ 4 ^ i
  | 0, _ => by simp [allL]
  | i + 1, hi => by
    have ih := allL_le tops h3 ht i (by omega)
    by_cases h : i < tops.length
    · rw [allL_take _ _ h]
      have := flatMap_length_le (ext tops[i]) 4 (allL (tops.take i)) (fun a _ => by rw [ext_length]; have := ht _ (List.getElem_mem h); omega)
      rw [Nat.pow_succ]
      omega
    · rw [List.take_of_length_le (by omega)] at ih ⊢
      rw [Nat.pow_succ]
      omega
theorem take_flatMap {α β : Type} (f : α → List β) (l : List α) (k : Nat) (h : k < l.length) : (l.take (k + 1)).flatMap f = (l.take k).flatMap f ++ f l[k] := by
  have e : l.take (k + 1) = l.take k ++ [l[k]] := by rw [List.take_add_one, List.getElem?_eq_getElem h]; rfl
  rw [e, List.flatMap_append]
  simp
theorem txtL_append (d : List Nat) (v : Nat) : txtL (d ++ [v]) = txtL d ++ ⟨#[UInt8.ofNat (48 + v)]⟩ := by
  simp [txtL]
  rfl
theorem txtL_size (d : List Nat) : (txtL d).size = d.length := by simp [txtL, ByteArray.size]
theorem txtL_get (d : List Nat) (i : Nat) (h : i < d.length) (h' : i < (txtL d).size) : (txtL d)[i] = UInt8.ofNat (48 + d[i]) := by
  simp [txtL, ByteArray.getElem_eq_getElem_data]
theorem allL_mem (tops : List Nat) (ht : ∀ t ∈ tops, t ≤ 3) : ∀ d ∈ allL tops, d.length = tops.length ∧ ∀ x ∈ d, x ≤ 3 := by
  suffices h : ∀ i, i ≤ tops.length → ∀ d ∈ allL (tops.take i), d.length = i ∧ ∀ x ∈ d, x ≤ 3 by
    have := h tops.length (Nat.le_refl _)
    rwa [List.take_length] at this
  intro i
  induction i with
  | zero => intro _ d hd; simp [allL] at hd; subst hd; simp
  | succ i ih =>
    intro hi d hd
    rw [allL_take _ _ (by omega)] at hd
    obtain ⟨d', h', he⟩ := List.mem_flatMap.1 hd
    obtain ⟨h1, h2⟩ := ih (by omega) d' h'
    simp only [ext, List.mem_map, List.mem_range] at he
    obtain ⟨v, hv, rfl⟩ := he
    refine ⟨by simp [h1], ?_⟩
    intro x hx
    rcases List.mem_append.1 hx with h | h
    · exact h2 x h
    · have := ht _ (List.getElem_mem (show i < tops.length by omega))
      simp at h; omega
end Go.Proofs.YtkbmolodljenjaaDoor

namespace Go.Proofs.YtkbmolodljenjaaDoor
open Go.RowKit

theorem strs_at {w : World} {base : Nat} {v : Value} {l : List (List Nat)} (h : w.ownsRow base 9 1 v l.length (strs l)) (hl : 0 < l.length) : ∃ g cap, v = .slice (some ⟨g, 0, none⟩) l.length cap ∧ base ≤ g ∧ g < w.heap.size ∧ l.length ≤ cap ∧ ∀ k (hk : k < l.length), w.cell? ⟨g, k, none⟩ = some (.string (txtL l[k])) := by
  have e : strs l = l.flatMap (fun d => [Value.string (txtL d)]) := by
    unfold strs; rw [List.map_eq_flatMap]
  rw [e] at h
  obtain ⟨ao, cap, rfl⟩ := owned_slice' h
  obtain ⟨g, rfl, h2, h3, h4, h5⟩ := row_at (z := 1) (fun _ => rfl) h hl
  exact ⟨g, cap, rfl, h2, h3, h4, fun k hk => by have := h5 k hk 0 (by omega); simpa using this⟩

theorem news2 (w : World) (o : Obj) (v : Value) (t : TypeId) : ∀ j u, [v][j]? = some u → ((w.alloc o).alloc (.cells #[v] t)).drew.cell? ((⟨w.heap.size + 1, 0, none⟩ : Addr).add j) = some u := by
  intro j u h
  have := cell_one_new (w.alloc o) v t j u h
  rw [World.size_alloc] at this
  exact this

section
variable {w : World}
set_option maxRecDepth 100000 in
set_option maxHeartbeats 3200000 in
theorem all_any (ao aor : Option Addr) (cap nr capr base : Nat) (vs : List V3) (h3 : vs.length ≤ 3) (ht : ∀ v ∈ vs, v.top ≤ 3)
    (hv : w.ownsRow base 97 3 (.slice ao vs.length cap) vs.length (vs.flatMap V3.cells)) :
    Calls Tryd.prog 51 #[.agg #[.slice ao vs.length cap, .slice aor nr capr]] w fun e w' => (∃ v, e = .returned v ∧ w'.ownsRow w.heap.size 9 1 v (allL (vs.map V3.top)).length (strs (allL (vs.map V3.top)))) ∧ Below w.heap.size w w' := by
  have hA := heap_alloc_new w (.cells #[.slice ao vs.length cap, .slice aor nr capr] 53)
  have hBel : Below w.heap.size w (w.alloc (.cells #[.slice ao vs.length cap, .slice aor nr capr] 53)) := (Below.refl _ _).alloc (Nat.le_refl _) _
  have hsz : (w.alloc (.cells #[.slice ao vs.length cap, .slice aor nr capr] 53)).heap.size = w.heap.size + 1 := by simp
  obtain ⟨n0, n1, nf⟩ := cell2 hA
  have HV : Put (w.ownsRow base 97 3 (.slice ao vs.length cap) vs.length (vs.flatMap V3.cells)) := ⟨hv⟩
  obtain ⟨i0, hi, hz0, hz1, hz2⟩ := info_parts info9
  clear hv hA nf n1
  go_enter Tryd.func51, Tryd.ntmps51
  go_wp2_with fail
  generalize w.alloc (.cells #[.slice ao vs.length cap, .slice aor nr capr] 53) = w1 at *
  have hB0 : Below w1.heap.size w1 (w1.alloc (.cells #[.string ⟨#[]⟩] 9)) := (Below.refl _ _).alloc (Nat.le_refl _) _
  go_loopg [3, 4] vs.length (fun gk lv iv wr => ∃ i : Nat, iv = .int .i64 i ∧ i + gk = vs.length ∧ wr.ownsRow w1.heap.size 9 1 lv (allL ((vs.map V3.top).take i)).length (strs (allL ((vs.map V3.top).take i))) ∧ Below w1.heap.size w1 wr)
  case atStart =>
    refine ⟨0, rfl, by omega, ?_, hB0⟩
    rw [← hsz]
    exact own_one w1 w1.heap.size (Nat.le_refl _) (.string ⟨#[]⟩) 9
  case round =>
    obtain ⟨i, rfl, hik, hrow, hBr⟩ := hrel
    by_cases hlt : i < vs.length
    · have hlt' : (i : Int) < (vs.length : Int) := by omega
      have i0' : (0 : Int) ≤ (i : Int) := by omega
      obtain ⟨g', rfl⟩ : ∃ g', gk = g' + 1 := ⟨gk - 1, by omega⟩
      have cN := (hBr.cell (p := ⟨w.heap.size, 0, none⟩) (by show w.heap.size < w1.heap.size; omega)).trans n0
      obtain ⟨gv, rfl, hgv1, hgv2, hgv3, hcv⟩ := row_at V3.len HV.out (by omega)
      have c0 := hcv i hlt 0 (by omega)
      simp only [V3.cells, V3.vf, List.getElem?_cons_zero, Nat.add_zero] at c0
      have htp := ht _ (List.getElem_mem hlt)
      have hL16 := allL_le (vs.map V3.top) (by simpa using h3) (by simpa using ht) i (by omega)
      have hmem := allL_mem ((vs.map V3.top).take i) (fun t h => by obtain ⟨v, hv, rfl⟩ := List.mem_map.1 (List.mem_of_mem_take h); exact ht v hv)
      have hmem2 : ∀ d ∈ allL ((vs.map V3.top).take i), d.length ≤ 3 := fun d hd => by
        have := (hmem d hd).1
        rw [List.length_take, List.length_map] at this
        omega
      clear hmem
      have hstep := allL_take (vs.map V3.top) i (by simpa using hlt)
      rw [List.getElem_map] at hstep
      generalize vs[i].top = tp at c0 htp hstep
      have HSTEP : Put (_ = _) := ⟨hstep⟩
      clear hstep hcv
      generalize allL (List.take i (List.map V3.top vs)) = L at hrow hL16 HSTEP hmem2
      have hL : L.length ≤ 16 := Nat.le_trans hL16 (by
        have : i ≤ 2 := by omega
        calc 4 ^ i ≤ 4 ^ 2 := Nat.pow_le_pow_right (by decide) this
          _ = 16 := rfl)
      clear hL16
      obtain ⟨aol, capl, rfl⟩ := owned_slice' hrow
      have HROW : Put (_) := ⟨hrow⟩
      have hsr := hBr.size
      clear hrow
      go_wp2_with fail
      rename World => wi
      go_loopg [5, 6] L.length (fun gk nv kv wk => ∃ k : Nat, kv = .int .i64 k ∧ k + gk = L.length ∧ wk.ownsRow wi.heap.size 9 1 nv ((L.take k).flatMap (ext tp)).length (strs ((L.take k).flatMap (ext tp))) ∧ Below wi.heap.size wi wk)
      case atStart => exact ⟨0, rfl, by omega, World.ownsRow_nil _ _ _ _, Below.refl _ _⟩
      case round =>
        obtain ⟨k, rfl, hkk, hrowk, hBk⟩ := hrel
        by_cases hk : k < L.length
        · have hk' : (k : Int) < (L.length : Int) := by omega
          have k0' : (0 : Int) ≤ (k : Int) := by omega
          obtain ⟨g2, rfl⟩ : ∃ g2, gk = g2 + 1 := ⟨gk - 1, by omega⟩
          obtain ⟨gl, capl', hle, hgl1, hgl2, hgl3, hcl⟩ := strs_at HROW.out (by omega)
          obtain ⟨rfl, rfl⟩ : aol = some ⟨gl, 0, none⟩ ∧ capl = capl' := by simpa using hle
          have cK := hcl k hk
          have hM0 := flatMap_length_le (ext tp) (tp + 1) (L.take k) (fun a _ => by rw [ext_length]; exact Nat.le_refl _)
          have hM : ((L.take k).flatMap (ext tp)).length ≤ 60 := by
            rw [List.length_take] at hM0
            have : min k L.length * (tp + 1) ≤ 15 * 4 := Nat.mul_le_mul (by omega) (by omega)
            omega
          have HT : Put (_ = _) := ⟨take_flatMap (ext tp) L k hk⟩
          have hdk := hmem2 _ (List.getElem_mem hk)
          generalize L[k] = dk at cK HT hdk
          generalize (L.take k).flatMap (ext tp) = M0 at hrowk hM HT
          clear hcl hle hM0
          go_wp2_with fail
          rename World => wk
          go_loopg [5, 7] (tp + 1) (fun gk nv vv wv => ∃ v : Nat, vv = .int .i64 v ∧ v + gk = tp + 1 ∧ wv.ownsRow wi.heap.size 9 1 nv (M0 ++ (List.range v).map (fun u => dk ++ [u])).length (strs (M0 ++ (List.range v).map (fun u => dk ++ [u]))) ∧ Below wi.heap.size wi wv)
          case atStart => exact ⟨0, rfl, by omega, by simpa using hrowk, hBk⟩
          case round =>
            obtain ⟨v, rfl, hvk, hrowv, hBv⟩ := hrel
            have hBw : Below w.heap.size w wr := hBel.trans ((hBr.mono (by omega)).trans (hBv.mono (by omega)))
            have cN' := (hBv.cell (p := ⟨w.heap.size, 0, none⟩) (by show w.heap.size < wi.heap.size; omega)).trans cN
            have c0' := (hBw.cell (p := ⟨gv, i * 3, none⟩) hgv2).trans c0
            have cK' := (hBv.cell (p := ⟨gl, k, none⟩) hgl2).trans cK
            by_cases hv : v ≤ tp
            · have hv' : (v : Int) ≤ (tp : Int) := by omega
              obtain ⟨g3, rfl⟩ : ∃ g3, gk = g3 + 1 := ⟨gk - 1, by omega⟩
              obtain ⟨B1, hB1⟩ : ∃ b : ByteArray, b = ⟨#[UInt8.ofNat (48 + v)]⟩ := ⟨_, rfl⟩
              have hb8 : IntKind.u8.wrap (48 + (v : Int)) = 48 + (v : Int) := by simp [IntKind.wrap, IntKind.signed, IntKind.bits]; omega
              have hi8 : IntKind.i64.wrap (48 + (v : Int)) = 48 + (v : Int) := by simp [IntKind.wrap, IntKind.signed, IntKind.bits]; omega
              have hcv1 : (convert 132 9 (.slice (some ⟨wr.heap.size, 0, none⟩) 1 1)).run Tryd.prog (wr.alloc (.cells #[.int .u8 (48 + (v : Int))] 5)).drew = .ok (.string B1) (wr.alloc (.cells #[.int .u8 (48 + (v : Int))] 5)).drew := by
                rw [hB1]
                exact run_convert_bytes_back (P := Tryd.prog) _ 132 9 5 ⟨wr.heap.size, 0, none⟩ 1 [UInt8.ofNat (48 + v)] Tryd.underlying132 Tryd.underlying5 Tryd.underlying9 (by
                  intro j hj
                  obtain rfl : j = 0 := by simpa using hj
                  have h1 := (Boxed.new wr 5 (.int .u8 (48 + (v : Int)))).cell
                  have h2 : ((([UInt8.ofNat (48 + v)] : List UInt8)[0]).toNat : Int) = 48 + (v : Int) := by simp; omega
                  rw [h2]
                  exact h1)
              have hcat : ¬ 9223372036854775807 < (txtL dk).size + B1.size := by
                have : B1.size = 1 := by rw [hB1]; rfl
                rw [txtL_size]; omega
              have HB1 : Put (_ = _) := ⟨hB1⟩
              clear hB1
              have hMv : (M0 ++ (List.range v).map (fun u => dk ++ [u])).length ≤ 64 := by simp; omega
              have HMV : Put (strs (M0 ++ (List.range (v + 1)).map (fun u => dk ++ [u])) = strs (M0 ++ (List.range v).map (fun u => dk ++ [u])) ++ [.string (txtL dk ++ B1)] ∧ (M0 ++ (List.range (v + 1)).map (fun u => dk ++ [u])).length = (M0 ++ (List.range v).map (fun u => dk ++ [u])).length + 1) := ⟨by
                rw [HB1.out, ← txtL_append]; simp [List.range_succ, strs], by simp [List.range_succ]; omega⟩
              generalize M0 ++ (List.range v).map (fun u => dk ++ [u]) = Mv at hrowv hMv HMV
              have cKa : ∀ o, (wr.alloc o).cell? ⟨gl, k, none⟩ = some (.string (txtL dk)) := fun o => (World.cell?_alloc_some wr _ o (by rw [cK']; rfl)).trans cK'
              have cKd : ∀ o, (wr.alloc o).drew.cell? ⟨gl, k, none⟩ = some (.string (txtL dk)) := fun o => cKa o
              have hsv := hBv.size
              go_wp2_with fail
              go_region_law (refine step_append_lies _ ?q1 (.tmp 32) (.tmp 43) 29 ?q2 wi.heap.size 9 i0 _ 1 16 Tryd.underlying29 hi hz0 hz1 hz2 rfl Nat.one_pos u5 Mv.length (strs Mv) ?q3 (((hrowv.alloc _).alloc _).drew) ⟨wr.heap.size + 1, 0, none⟩ 1 1 [.string (txtL dk ++ B1)] ?q4 rfl ?q5 ?q6 Nat.one_pos ?q7 ?q8 ?q9 (wr.heap.size + 2) ?q10 ?_; (case q1 => rfl); (case q2 => rfl); (case q3 => rfl); (case q4 => rfl); (case q5 => exact news2 wr _ _ _); (case q6 => simp [Value.oneCell']); (case q7 => unfold maxLen; omega); (case q8 => omega); (case q9 => simp; omega); (case q10 => simp); intro g5 cap5 w5 hown' hgrow _ _)
              all_goals
                have hB5 : Below wi.heap.size wi w5 := (((hBv.alloc hsv _).alloc (by simp; omega) _).drew).grown hgrow (by simp; omega) (fun k e => (hrowv.lt k e).1)
                have hr5 : w5.ownsRow wi.heap.size 9 1 (.slice (some ⟨g5, 0, none⟩) (Mv.length + 1) cap5) (M0 ++ (List.range (v + 1)).map (fun u => dk ++ [u])).length (strs (M0 ++ (List.range (v + 1)).map (fun u => dk ++ [u]))) := by
                  rw [HMV.out.1, HMV.out.2]; exact hown'
                clear hown' hgrow hrowv hBv cKa cKd hcv1 hcat
                go_wp2
                go_roundg g3
                case measure => exact Nat.lt_succ_self _
                case rel => exact ⟨v + 1, by go_num, by omega, hr5, hB5⟩
            · obtain rfl : v = tp + 1 := by omega
              have hv' : ¬ (((tp + 1 : Nat) : Int) ≤ (tp : Int)) := by omega
              have hrn : wr.ownsRow wi.heap.size 9 1 u5 ((L.take (k + 1)).flatMap (ext tp)).length (strs ((L.take (k + 1)).flatMap (ext tp))) := by
                rw [HT.out]; exact hrowv
              clear hrowv
              go_wp2
              go_roundg g2
              case measure => exact Nat.lt_succ_self _
              case rel => exact ⟨k + 1, by go_num, by omega, hrn, hBv⟩
        · obtain rfl : k = L.length := by omega
          have hk' : ¬ ((L.length : Int) < (L.length : Int)) := by omega
          have hrn : wr.ownsRow w1.heap.size 9 1 u5 (allL ((vs.map V3.top).take (i + 1))).length (strs (allL ((vs.map V3.top).take (i + 1)))) := by
            rw [HSTEP.out]
            rw [List.take_length] at hrowk
            exact own_base hrowk hsr
          have hBn : Below w1.heap.size w1 wr := hBr.trans (hBk.mono hsr)
          clear hrowk hBk
          go_wp2
          go_roundg g'
          case measure => exact Nat.lt_succ_self _
          case rel => exact ⟨i + 1, by go_num, by omega, hrn, hBn⟩
    · obtain rfl : i = vs.length := by omega
      have hlt' : ¬ ((vs.length : Int) < (vs.length : Int)) := by omega
      have cN := (hBr.cell (p := ⟨w.heap.size, 0, none⟩) (by show w.heap.size < w1.heap.size; omega)).trans n0
      rw [List.take_of_length_le (by simp)] at hrow
      obtain ⟨aol, capl, rfl⟩ := owned_slice' hrow
      have hrn := own_base hrow (show w.heap.size ≤ w1.heap.size by omega)
      have hBn := hBel.trans (hBr.mono (by omega))
      clear hrow
      go_wp2
      go_ret
      exact ⟨⟨_, rfl, hrn⟩, hBn⟩
end
end Go.Proofs.YtkbmolodljenjaaDoor
