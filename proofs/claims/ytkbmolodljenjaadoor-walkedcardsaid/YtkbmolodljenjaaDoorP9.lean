import Derived.Test.YtkbmolodljenjaaDoorP1
import Derived.Test.YtkbmolodljenjaaDoorP8
import Derived.Deep.RegionLaw
import Derived.Deep.AppendLies
import Derived.Deep.RegionHeld
/- What the reference's loops make, pure. Our own text. -/
namespace Go.Proofs.YtkbmolodljenjaaDoor

def ext (top : Nat) (d : List Nat) : List (List Nat) := (List.range (top + 1)).map (fun v => d ++ [v])
theorem allL_snoc (tops : List Nat) (t : Nat) : allL (tops ++ [t]) = (allL tops).flatMap (ext t) := by
  simp [allL]
  rfl
theorem ext_length (top : Nat) (d : List Nat) : (ext top d).length = top + 1 := by simp [ext]
theorem flatMap_length_le {α β : Type} (f : α → List β) (c : Nat) : ∀ (l : List α), (∀ a ∈ l, (f a).length ≤ c) → (l.flatMap f).length ≤ l.length * c
  | [], _ => by simp
  | a :: l, h => by
    have ih := flatMap_length_le f c l (fun b hb => h b (by simp [hb]))
    have ha := h a (by simp)
    rw [List.flatMap_cons, List.length_append, List.length_cons, Nat.succ_mul]
    omega
theorem allL_take (tops : List Nat) (i : Nat) (h : i < tops.length) : allL (tops.take (i + 1)) = (allL (tops.take i)).flatMap (ext tops[i]) := by
  rw [List.take_add_one, List.getElem?_eq_getElem h, ← allL_snoc]
  rfl
theorem allL_le (tops : List Nat) (h3 : tops.length ≤ 3) (ht : ∀ t ∈ tops, t ≤ 3) : ∀ i, i ≤ 3 → (allL (tops.take i)).length ≤ 4 ^ i
  | 0, _ => by simp [allL]
  | i + 1, hi => by
    have ih := allL_le tops h3 ht i (by omega)
    by_cases h : i < tops.length
    · rw [allL_take _ _ h]
      have := flatMap_length_le (ext tops[i]) 4 (allL (tops.take i)) (fun a _ => by rw [ext_length]; have := ht _ (List.getElem_mem h); omega)
      rw [Nat.pow_succ]
      omega
    · rw [List.take_of_length_le (by omega)] at ih ⊢
      rw [Nat.pow_succ]
      omega
theorem take_flatMap {α β : Type} (f : α → List β) (l : List α) (k : Nat) (h : k < l.length) : (l.take (k + 1)).flatMap f = (l.take k).flatMap f ++ f l[k] := by
  have e : l.take (k + 1) = l.take k ++ [l[k]] := by rw [List.take_add_one, List.getElem?_eq_getElem h]; rfl
  rw [e, List.flatMap_append]
  simp
theorem txtL_append (d : List Nat) (v : Nat) : txtL (d ++ [v]) = txtL d ++ ⟨#[UInt8.ofNat (48 + v)]⟩ := by
  simp [txtL]
  rfl
theorem txtL_size (d : List Nat) : (txtL d).size = d.length := by simp [txtL, ByteArray.size]
theorem txtL_get (d : List Nat) (i : Nat) (h : i < d.length) (h' : i < (txtL d).size) : (txtL d)[i] = UInt8.ofNat (48 + d[i]) := by
  simp [txtL, ByteArray.getElem_eq_getElem_data]
theorem allL_mem (tops : List Nat) (ht : ∀ t ∈ tops, t ≤ 3) : ∀ d ∈ allL tops, d.length = tops.length ∧ ∀ x ∈ d, x ≤ 3 := by
  suffices h : ∀ i, i ≤ tops.length → ∀ d ∈ allL (tops.take i), d.length = i ∧ ∀ x ∈ d, x ≤ 3 by
    have := h tops.length (Nat.le_refl _)
    rwa [List.take_length] at this
  intro i
  induction i with
  | zero => intro _ d hd; simp [allL] at hd; subst hd; simp
  | succ i ih =>
    intro hi d hd
    rw [allL_take _ _ (by omega)] at hd
    obtain ⟨d', h', he⟩ := List.mem_flatMap.1 hd
    obtain ⟨h1, h2⟩ := ih (by omega) d' h'
    simp only [ext, List.mem_map, List.mem_range] at he
    obtain ⟨v, hv, rfl⟩ := he
    refine ⟨by simp [h1], ?_⟩
    intro x hx
    rcases List.mem_append.1 hx with h | h
    · exact h2 x h
    · have := ht _ (List.getElem_mem (show i < tops.length by omega))
      simp at h; omega
end Go.Proofs.YtkbmolodljenjaaDoor

namespace Go.Proofs.YtkbmolodljenjaaDoor
open Go.RowKit

theorem strs_at {w : World} {base : Nat} {v : Value} {l : List (List Nat)} (h : w.ownsRow base 9 1 v l.length (strs l)) (hl : 0 < l.length) : ∃ g cap, v = .slice (some ⟨g, 0, none⟩) l.length cap ∧ base ≤ g ∧ g < w.heap.size ∧ l.length ≤ cap ∧ ∀ k (hk : k < l.length), w.cell? ⟨g, k, none⟩ = some (.string (txtL l[k])) := by
  have e : strs l = l.flatMap (fun d => [Value.string (txtL d)]) := by
    unfold strs; rw [List.map_eq_flatMap]
  rw [e] at h
  obtain ⟨ao, cap, rfl⟩ := owned_slice' h
  obtain ⟨g, rfl, h2, h3, h4, h5⟩ := row_at (z := 1) (fun _ => rfl) h hl
  exact ⟨g, cap, rfl, h2, h3, h4, fun k hk => by have := h5 k hk 0 (by omega); simpa using this⟩

theorem news2 (w : World) (o : Obj) (v : Value) (t : TypeId) : ∀ j u, [v][j]? = some u → ((w.alloc o).alloc (.cells #[v] t)).drew.cell? ((⟨w.heap.size + 1, 0, none⟩ : Addr).add j) = some u := by
  intro j u h
  have := cell_one_new (w.alloc o) v t j u h
  rw [World.size_alloc] at this
  exact this

section
variable {w : World}
set_option maxRecDepth 100000 in
set_option maxHeartbeats 3200000 in
theorem all_any (ao aor : Option Addr) (cap nr capr base : Nat) (vs : List V3) (h3 : vs.length ≤ 3) (ht : ∀ v ∈ vs, v.top ≤ 3)
    (hv : w.ownsRow base 97 3 (.slice ao vs.length cap) vs.length (vs.flatMap V3.cells)) :
    Calls Tryd.prog 51 #[.agg #[.slice ao vs.length cap, .slice aor nr capr]] w fun e w' => (∃ v, e = .returned v ∧ w'.ownsRow w.heap.size 9 1 v (allL (vs.map V3.top)).length (strs (allL (vs.map V3.top)))) ∧ Below w.heap.size w w' := by
  have hA := heap_alloc_new w (.cells #[.slice ao vs.length cap, .slice aor nr capr] 53)
  have hBel : Below w.heap.size w (w.alloc (.cells #[.slice ao vs.length cap, .slice aor nr capr] 53)) := (Below.refl _ _).alloc (Nat.le_refl _) _
  have hsz : (w.alloc (.cells #[.slice ao vs.length cap, .slice aor nr capr] 53)).heap.size = w.heap.size + 1 := by simp
  obtain ⟨n0, n1, nf⟩ := cell2 hA
  have HV : Put (w.ownsRow base 97 3 (.slice ao vs.length cap) vs.length (vs.flatMap V3.cells)) := ⟨hv⟩
  obtain ⟨i0, hi, hz0, hz1, hz2⟩ := info_parts info9
  clear hv hA nf n1
  go_enter Tryd.func51, Tryd.ntmps51
  go_wp2_with fail
  generalize w.alloc (.cells #[.slice ao vs.length cap, .slice aor nr capr] 53) = w1 at *
  have hB0 : Below w1.heap.size w1 (w1.alloc (.cells #[.string ⟨#[]⟩] 9)) := (Below.refl _ _).alloc (Nat.le_refl _) _
  go_loopg [3, 4] vs.length (fun gk lv iv wr => ∃ i : Nat, iv = .int .i64 i ∧ i + gk = vs.length ∧ wr.ownsRow w1.heap.size 9 1 lv (allL ((vs.map V3.top).take i)).length (strs (allL ((vs.map V3.top).take i))) ∧ Below w1.heap.size w1 wr)
  case atStart =>
    refine ⟨0, rfl, by omega, ?_, hB0⟩
    rw [← hsz]
    exact own_one w1 w1.heap.size (Nat.le_refl _) (.string ⟨#[]⟩) 9
  case round =>
    obtain ⟨i, rfl, hik, hrow, hBr⟩ := hrel
    by_cases hlt : i < vs.length
    · have hlt' : (i : Int) < (vs.length : Int) := by omega
      have i0' : (0 : Int) ≤ (i : Int) := by omega
      obtain ⟨g', rfl⟩ : ∃ g', gk = g' + 1 := ⟨gk - 1, by omega⟩
      have cN := (hBr.cell (p := ⟨w.heap.size, 0, none⟩) (by show w.heap.size < w1.heap.size; omega)).trans n0
      obtain ⟨gv, rfl, hgv1, hgv2, hgv3, hcv⟩ := row_at V3.len HV.out (by omega)
      have c0 := hcv i hlt 0 (by omega)
      simp only [V3.cells, V3.vf, List.getElem?_cons_zero, Nat.add_zero] at c0
      have htp := ht _ (List.getElem_mem hlt)
      have hL16 := allL_le (vs.map V3.top) (by simpa using h3) (by simpa using ht) i (by omega)
      have hmem := allL_mem ((vs.map V3.top).take i) (fun t h => by obtain ⟨v, hv, rfl⟩ := List.mem_map.1 (List.mem_of_mem_take h); exact ht v hv)
      have hmem2 : ∀ d ∈ allL ((vs.map V3.top).take i), d.length ≤ 3 := fun d hd => by
        have := (hmem d hd).1
        rw [List.length_take, List.length_map] at this
        omega
      clear hmem
      have hstep := allL_take (vs.map V3.top) i (by simpa using hlt)
      rw [List.getElem_map] at hstep
      generalize vs[i].top = tp at c0 htp hstep
      have HSTEP : Put (_ = _) := ⟨hstep⟩
      clear hstep hcv
      generalize allL (List.take i (List.map V3.top vs)) = L at hrow hL16 HSTEP hmem2
      have hL : L.length ≤ 16 := Nat.le_trans hL16 (by
        have : i ≤ 2 := by omega
        calc 4 ^ i ≤ 4 ^ 2 := Nat.pow_le_pow_right (by decide) this
          _ = 16 := rfl)
      clear hL16
      obtain ⟨aol, capl, rfl⟩ := owned_slice' hrow
      have HROW : Put (_) := ⟨hrow⟩
      have hsr := hBr.size
      clear hrow
      go_wp2_with fail
      rename World => wi
      go_loopg [5, 6] L.length (fun gk nv kv wk => ∃ k : Nat, kv = .int .i64 k ∧ k + gk = L.length ∧ wk.ownsRow wi.heap.size 9 1 nv ((L.take k).flatMap (ext tp)).length (strs ((L.take k).flatMap (ext tp))) ∧ Below wi.heap.size wi wk)
      case atStart => exact ⟨0, rfl, by omega, World.ownsRow_nil _ _ _ _, Below.refl _ _⟩
      case round =>
        obtain ⟨k, rfl, hkk, hrowk, hBk⟩ := hrel
        by_cases hk : k < L.length
        · have hk' : (k : Int) < (L.length : Int) := by omega
          have k0' : (0 : Int) ≤ (k : Int) := by omega
          obtain ⟨g2, rfl⟩ : ∃ g2, gk = g2 + 1 := ⟨gk - 1, by omega⟩
          obtain ⟨gl, capl', hle, hgl1, hgl2, hgl3, hcl⟩ := strs_at HROW.out (by omega)
          obtain ⟨rfl, rfl⟩ : aol = some ⟨gl, 0, none⟩ ∧ capl = capl' := by simpa using hle
          have cK := hcl k hk
          have hM0 := flatMap_length_le (ext tp) (tp + 1) (L.take k) (fun a _ => by rw [ext_length]; exact Nat.le_refl _)
          have hM : ((L.take k).flatMap (ext tp)).length ≤ 60 := by
            rw [List.length_take] at hM0
            have : min k L.length * (tp + 1) ≤ 15 * 4 := Nat.mul_le_mul (by omega) (by omega)
            omega
          have HT : Put (_ = _) := ⟨take_flatMap (ext tp) L k hk⟩
          have hdk := hmem2 _ (List.getElem_mem hk)
          generalize L[k] = dk at cK HT hdk
          generalize (L.take k).flatMap (ext tp) = M0 at hrowk hM HT
          clear hcl hle hM0
          go_wp2_with fail
          rename World => wk
          go_loopg [5, 7] (tp + 1) (fun gk nv vv wv => ∃ v : Nat, vv = .int .i64 v ∧ v + gk = tp + 1 ∧ wv.ownsRow wi.heap.size 9 1 nv (M0 ++ (List.range v).map (fun u => dk ++ [u])).length (strs (M0 ++ (List.range v).map (fun u => dk ++ [u]))) ∧ Below wi.heap.size wi wv)
          case atStart => exact ⟨0, rfl, by omega, by simpa using hrowk, hBk⟩
          case round =>
            obtain ⟨v, rfl, hvk, hrowv, hBv⟩ := hrel
            have hBw : Below w.heap.size w wr := hBel.trans ((hBr.mono (by omega)).trans (hBv.mono (by omega)))
            have cN' := (hBv.cell (p := ⟨w.heap.size, 0, none⟩) (by show w.heap.size < wi.heap.size; omega)).trans cN
            have c0' := (hBw.cell (p := ⟨gv, i * 3, none⟩) hgv2).trans c0
            have cK' := (hBv.cell (p := ⟨gl, k, none⟩) hgl2).trans cK
            by_cases hv : v ≤ tp
            · have hv' : (v : Int) ≤ (tp : Int) := by omega
              obtain ⟨g3, rfl⟩ : ∃ g3, gk = g3 + 1 := ⟨gk - 1, by omega⟩
              obtain ⟨B1, hB1⟩ : ∃ b : ByteArray, b = ⟨#[UInt8.ofNat (48 + v)]⟩ := ⟨_, rfl⟩
              have hb8 : IntKind.u8.wrap (48 + (v : Int)) = 48 + (v : Int) := by simp [IntKind.wrap, IntKind.signed, IntKind.bits]; omega
              have hi8 : IntKind.i64.wrap (48 + (v : Int)) = 48 + (v : Int) := by simp [IntKind.wrap, IntKind.signed, IntKind.bits]; omega
              have hcv1 : (convert 132 9 (.slice (some ⟨wr.heap.size, 0, none⟩) 1 1)).run Tryd.prog (wr.alloc (.cells #[.int .u8 (48 + (v : Int))] 5)).drew = .ok (.string B1) (wr.alloc (.cells #[.int .u8 (48 + (v : Int))] 5)).drew := by
                rw [hB1]
                exact run_convert_bytes_back (P := Tryd.prog) _ 132 9 5 ⟨wr.heap.size, 0, none⟩ 1 [UInt8.ofNat (48 + v)] Tryd.underlying132 Tryd.underlying5 Tryd.underlying9 (by
                  intro j hj
                  obtain rfl : j = 0 := by simpa using hj
                  have h1 := (Boxed.new wr 5 (.int .u8 (48 + (v : Int)))).cell
                  have h2 : ((([UInt8.ofNat (48 + v)] : List UInt8)[0]).toNat : Int) = 48 + (v : Int) := by simp; omega
                  rw [h2]
                  exact h1)
              have hcat : ¬ 9223372036854775807 < (txtL dk).size + B1.size := by
                have : B1.size = 1 := by rw [hB1]; rfl
                rw [txtL_size]; omega
              have HB1 : Put (_ = _) := ⟨hB1⟩
              clear hB1
              have hMv : (M0 ++ (List.range v).map (fun u => dk ++ [u])).length ≤ 64 := by simp; omega
              have HMV : Put (strs (M0 ++ (List.range (v + 1)).map (fun u => dk ++ [u])) = strs (M0 ++ (List.range v).map (fun u => dk ++ [u])) ++ [.string (txtL dk ++ B1)] ∧ (M0 ++ (List.range (v + 1)).map (fun u => dk ++ [u])).length = (M0 ++ (List.range v).map (fun u => dk ++ [u])).length + 1) := ⟨by
                rw [HB1.out, ← txtL_append]; simp [List.range_succ, strs], by simp [List.range_succ]; omega⟩
              generalize M0 ++ (List.range v).map (fun u => dk ++ [u]) = Mv at hrowv hMv HMV
              have cKa : ∀ o, (wr.alloc o).cell? ⟨gl, k, none⟩ = some (.string (txtL dk)) := fun o => (World.cell?_alloc_some wr _ o (by rw [cK']; rfl)).trans cK'
              have cKd : ∀ o, (wr.alloc o).drew.cell? ⟨gl, k, none⟩ = some (.string (txtL dk)) := fun o => cKa o
              have hsv := hBv.size
              go_wp2_with fail
              go_region_law (refine step_append_lies _ ?q1 (.tmp 32) (.tmp 43) 29 ?q2 wi.heap.size 9 i0 _ 1 16 Tryd.underlying29 hi hz0 hz1 hz2 rfl Nat.one_pos u5 Mv.length (strs Mv) ?q3 (((hrowv.alloc _).alloc _).drew) ⟨wr.heap.size + 1, 0, none⟩ 1 1 [.string (txtL dk ++ B1)] ?q4 rfl ?q5 ?q6 Nat.one_pos ?q7 ?q8 ?q9 (wr.heap.size + 2) ?q10 ?_; (case q1 => rfl); (case q2 => rfl); (case q3 => rfl); (case q4 => rfl); (case q5 => exact news2 wr _ _ _); (case q6 => simp [Value.oneCell']); (case q7 => unfold maxLen; omega); (case q8 => omega); (case q9 => simp; omega); (case q10 => simp); intro g5 cap5 w5 hown' hgrow _ _)
              all_goals
                have hB5 : Below wi.heap.size wi w5 := (((hBv.alloc hsv _).alloc (by simp; omega) _).drew).grown hgrow (by simp; omega) (fun k e => (hrowv.lt k e).1)
                have hr5 : w5.ownsRow wi.heap.size 9 1 (.slice (some ⟨g5, 0, none⟩) (Mv.length + 1) cap5) (M0 ++ (List.range (v + 1)).map (fun u => dk ++ [u])).length (strs (M0 ++ (List.range (v + 1)).map (fun u => dk ++ [u]))) := by
                  rw [HMV.out.1, HMV.out.2]; exact hown'
                clear hown' hgrow hrowv hBv cKa cKd hcv1 hcat
                go_wp2
                go_roundg g3
                case measure => exact Nat.lt_succ_self _
                case rel => exact ⟨v + 1, by go_num, by omega, hr5, hB5⟩
            · obtain rfl : v = tp + 1 := by omega
              have hv' : ¬ (((tp + 1 : Nat) : Int) ≤ (tp : Int)) := by omega
              have hrn : wr.ownsRow wi.heap.size 9 1 u5 ((L.take (k + 1)).flatMap (ext tp)).length (strs ((L.take (k + 1)).flatMap (ext tp))) := by
                rw [HT.out]; exact hrowv
              clear hrowv
              go_wp2
              go_roundg g2
              case measure => exact Nat.lt_succ_self _
              case rel => exact ⟨k + 1, by go_num, by omega, hrn, hBv⟩
        · obtain rfl : k = L.length := by omega
          have hk' : ¬ ((L.length : Int) < (L.length : Int)) := by omega
          have hrn : wr.ownsRow w1.heap.size 9 1 u5 (allL ((vs.map V3.top).take (i + 1))).length (strs (allL ((vs.map V3.top).take (i + 1)))) := by
            rw [HSTEP.out]
            rw [List.take_length] at hrowk
            exact own_base hrowk hsr
          have hBn : Below w1.heap.size w1 wr := hBr.trans (hBk.mono hsr)
          clear hrowk hBk
          go_wp2
          go_roundg g'
          case measure => exact Nat.lt_succ_self _
          case rel => exact ⟨i + 1, by go_num, by omega, hrn, hBn⟩
    · obtain rfl : i = vs.length := by omega
      have hlt' : ¬ ((vs.length : Int) < (vs.length : Int)) := by omega
      have cN := (hBr.cell (p := ⟨w.heap.size, 0, none⟩) (by show w.heap.size < w1.heap.size; omega)).trans n0
      rw [List.take_of_length_le (by simp)] at hrow
      obtain ⟨aol, capl, rfl⟩ := owned_slice' hrow
      have hrn := own_base hrow (show w.heap.size ≤ w1.heap.size by omega)
      have hBn := hBel.trans (hBr.mono (by omega))
      clear hrow
      go_wp2
      go_ret
      exact ⟨⟨_, rfl, hrn⟩, hBn⟩
end
end Go.Proofs.YtkbmolodljenjaaDoor

/- The reference's first states. Our own text. -/
namespace Go.Proofs.YtkbmolodljenjaaDoor
open Go.RowKit

def isFP : List (List Nat) → List Nat → Bool
  | [], _ => true
  | _ :: _, [] => false
  | l :: vl, x :: d => l.contains x && isFP vl d
theorem txtL_toNat (d : List Nat) (i : Nat) (h : i < d.length) (h' : i < (txtL d).size) (hd : ∀ x ∈ d, x ≤ 3) : (txtL d)[i].toNat = 48 + d[i] := by
  rw [txtL_get d i h h']
  have := hd _ (List.getElem_mem h)
  simp; omega
theorem contains_app (a : List Nat) (y x : Nat) : (a ++ [y]).contains x = (a.contains x || y == x) := by
  by_cases hx : y = x
  · subst hx; simp
  · have h1 : (y == x) = false := by simpa using hx
    have h2 : ¬ x = y := fun h => hx h.symm
    simp [h1, h2]
theorem contains_snoc (l : List Nat) (k : Nat) (h : k < l.length) (x : Nat) : (l.take (k + 1)).contains x = ((l.take k).contains x || l[k] == x) := by
  have e : l.take (k + 1) = l.take k ++ [l[k]] := by rw [List.take_add_one, List.getElem?_eq_getElem h]; rfl
  rw [e, contains_app]

section
variable {w : World}
set_option maxRecDepth 100000 in
set_option maxHeartbeats 3200000 in
theorem isFirst_any (ao aor : Option Addr) (cap nr capr base : Nat) (vs : List V3) (d : List Nat) (h3 : vs.length ≤ 3) (hdl : d.length = vs.length) (hd : ∀ x ∈ d, x ≤ 3)
    (hv : w.ownsRow base 97 3 (.slice ao vs.length cap) vs.length (vs.flatMap V3.cells)) (hOv : ∀ v ∈ vs, V3.Ok w base v) :
    Calls Tryd.prog 52 #[.agg #[.slice ao vs.length cap, .slice aor nr capr], .string (txtL d)] w fun e w' => e = .returned (.bool (isFP (vs.map V3.l) d)) ∧ Below w.heap.size w w' := by
  have hA := heap_alloc_new w (.cells #[.slice ao vs.length cap, .slice aor nr capr] 53)
  have hBel : Below w.heap.size w (w.alloc (.cells #[.slice ao vs.length cap, .slice aor nr capr] 53)) := (Below.refl _ _).alloc (Nat.le_refl _) _
  obtain ⟨n0, n1, nf⟩ := cell2 hA
  have HV : Put (w.ownsRow base 97 3 (.slice ao vs.length cap) vs.length (vs.flatMap V3.cells)) := ⟨hv⟩
  have HOV : Put (∀ v ∈ vs, V3.Ok w base v) := ⟨hOv⟩
  have hss := txtL_size d
  have HG : Put (∀ (i : Nat) (h : i < d.length) (h' : i < (txtL d).size), (txtL d)[i].toNat = 48 + d[i]) := ⟨fun i h h' => txtL_toNat d i h h' hd⟩
  generalize txtL d = s at hss HG
  generalize hR : isFP (vs.map V3.l) d = R
  have HR : Put (_ = R) := ⟨hR⟩
  clear hv hA nf n1 hOv hR
  go_enter Tryd.func52, Tryd.ntmps52
  go_wp2_with fail
  have hsz : (w.alloc (.cells #[.slice ao vs.length cap, .slice aor nr capr] 53)).heap.size = w.heap.size + 1 := by simp
  generalize w.alloc (.cells #[.slice ao vs.length cap, .slice aor nr capr] 53) = w1 at *
  go_loopg [5] vs.length (fun gk iv wr => ∃ i m : Nat, iv = .int .i64 i ∧ i + gk = vs.length ∧ wr = w1.drewN m ∧ isFP ((vs.map V3.l).drop i) (d.drop i) = R)
  case atStart => exact ⟨0, 0, rfl, by omega, rfl, HR.out⟩
  case round =>
    clear HR
    obtain ⟨i, m, rfl, hik, rfl, hRi⟩ := hrel
    by_cases hlt : i < vs.length
    · have hlt' : (i : Int) < (vs.length : Int) := by omega
      have i0 : (0 : Int) ≤ (i : Int) := by omega
      have hid : i < d.length := by omega
      have his : i < s.size := by omega
      have hbyte := HG.out i hid his
      obtain ⟨gv, rfl, hgv1, hgv2, hgv3, hcv⟩ := row_at V3.len HV.out (by omega)
      have c1 := hcv i hlt 1 (by omega)
      rw [← hBel.cell (p := ⟨gv, _, none⟩) hgv2] at c1
      have hok := HOV.out _ (List.getElem_mem hlt)
      rw [drop_map _ _ _ hlt, List.drop_eq_getElem_cons hid] at hRi
      have hx3 := hd _ (List.getElem_mem hid)
      obtain ⟨v, hvd⟩ : ∃ v, v = vs[i] := ⟨_, rfl⟩
      rw [← hvd] at c1 hok hRi
      generalize d[i] = x at *
      simp only [V3.cells, V3.vf, List.getElem?_cons_zero, List.getElem?_cons_succ] at c1
      obtain ⟨hrow, hl5, hat⟩ := hok
      clear hcv hvd
      obtain ⟨g', rfl⟩ : ∃ g', gk = g' + 1 := ⟨gk - 1, by omega⟩
      have HRi : Put (_ = R) := ⟨hRi⟩
      have HRow : Put (w.ownsRow base 3 1 v.vf v.l.length (ints v.l)) := ⟨hrow⟩
      clear hRi hrow
      go_wp2_with fail
      go_loopg [6, 7] v.l.length (fun gk ov kv wr => ∃ k m : Nat, kv = .int .i64 k ∧ k + gk = v.l.length ∧ wr = w1.drewN m ∧ ov = .bool ((v.l.take k).contains x))
      case atStart => exact ⟨0, m, rfl, by omega, rfl, by simp⟩
      case round =>
        obtain ⟨k, m', rfl, hkk, rfl, rfl⟩ := hrel
        by_cases hk : k < v.l.length
        · have hk' : (k : Int) < (v.l.length : Int) := by omega
          have k0 : (0 : Int) ≤ (k : Int) := by omega
          obtain ⟨gf, hao, hgf1, hgf2, hgf3, hcf⟩ := ints_at HRow.out (by omega)
          have hck := hcf k hk
          rw [← hBel.cell (p := ⟨gf, k, none⟩) hgf2] at hck
          rw [hao] at c1
          have hsn := contains_snoc v.l k hk x
          generalize v.l[k] = y at *
          obtain ⟨g2, rfl⟩ : ∃ g2, gk = g2 + 1 := ⟨gk - 1, by omega⟩
          by_cases hyx : y = x
          · have hcmp : ((y : Int) == 48 + (x : Int) - 48) = true := by simp; omega
            have hn' : ((v.l.take (k + 1)).contains x) = true := by rw [hsn, hyx]; simp
            have HSN : Put (_ = _) := ⟨hn'⟩
            clear hsn hn' hyx
            go_wp2_with fail
            go_quiet (fail)
            go_wp2
            go_roundg g2
            case measure => exact Nat.lt_succ_self _
            case rel => exact ⟨k + 1, _, by go_num, by omega, rfl, by rw [HSN.out]⟩
          · have hcmp : ((y : Int) == 48 + (x : Int) - 48) = false := by simp; omega
            have hn' : ((v.l.take (k + 1)).contains x) = ((v.l.take k).contains x) := by
              rw [hsn]
              have : (y == x) = false := by simpa using hyx
              rw [this]; simp
            have HSN : Put (_ = _) := ⟨hn'⟩
            clear hsn hn' hyx
            go_wp2_with fail
            go_quiet (fail)
            go_wp2
            go_roundg g2
            case measure => exact Nat.lt_succ_self _
            case rel => exact ⟨k + 1, _, by go_num, by omega, rfl, by rw [HSN.out]⟩
        · obtain rfl : k = v.l.length := by omega
          have hk' : ¬ ((v.l.length : Int) < (v.l.length : Int)) := by omega
          have HRj : Put ((v.l.contains x && isFP ((vs.map V3.l).drop (i + 1)) (d.drop (i + 1))) = R) := ⟨HRi.out⟩
          rw [List.take_length]
          cases hcx : v.l.contains x with
          | true =>
            have hRn : isFP ((vs.map V3.l).drop (i + 1)) (d.drop (i + 1)) = R := by have := HRj.out; rw [hcx] at this; simpa using this
            have HRn : Put (_ = R) := ⟨hRn⟩
            clear hRn HRj HRi hcx
            go_wp2
            go_roundg g'
            case measure => exact Nat.lt_succ_self _
            case rel => exact ⟨i + 1, _, by go_num, by omega, rfl, HRn.out⟩
          | false =>
            have hRn : false = R := by have := HRj.out; rw [hcx] at this; simpa using this
            subst hRn
            clear HRj HRi hcx
            go_wp2
            go_ret
            exact ⟨rfl, below_drewN hBel _⟩
    · obtain rfl : i = vs.length := by omega
      have hlt' : ¬ ((vs.length : Int) < (vs.length : Int)) := by omega
      rw [List.drop_of_length_le (by simp)] at hRi
      have hRn : true = R := by rw [← hRi]; rfl
      subst hRn
      clear hRi
      go_wp2
      go_ret
      exact ⟨rfl, below_drewN hBel _⟩
end
end Go.Proofs.YtkbmolodljenjaaDoor

namespace Go.Proofs.YtkbmolodljenjaaDoor
open Go.RowKit

end Go.Proofs.YtkbmolodljenjaaDoor
namespace Go.RowKit
open Go.Proofs.YtkbmolodljenjaaDoor
theorem Below.okV {w w' : World} (h : Below w.heap.size w w') {base : Nat} {v : V3} (ho : V3.Ok w base v) : V3.Ok w' base v := ⟨h.ownsRow' ho.1, ho.2⟩
end Go.RowKit
namespace Go.Proofs.YtkbmolodljenjaaDoor
open Go.RowKit
theorem filter_snoc (p : List Nat → Bool) (l : List (List Nat)) (k : Nat) (h : k < l.length) : (l.take (k + 1)).filter p = (l.take k).filter p ++ (if p l[k] then [l[k]] else []) := by
  have e : l.take (k + 1) = l.take k ++ [l[k]] := by rw [List.take_add_one, List.getElem?_eq_getElem h]; rfl
  rw [e, List.filter_append]
  congr 1
  generalize l[k] = d
  cases hp : p d <;> simp [hp]
theorem filter_le (p : List Nat → Bool) (l : List (List Nat)) (k : Nat) : ((l.take k).filter p).length ≤ l.length :=
  Nat.le_trans (List.length_filter_le _ _) (by rw [List.length_take]; omega)
theorem allL_64 (tops : List Nat) (h3 : tops.length ≤ 3) (ht : ∀ t ∈ tops, t ≤ 3) : (allL tops).length ≤ 64 := by
  have := allL_le tops h3 ht 3 (Nat.le_refl _)
  rwa [List.take_of_length_le h3] at this

section
variable {w : World}
set_option maxRecDepth 100000 in
set_option maxHeartbeats 3200000 in
theorem firsts22_any (ao aor : Option Addr) (cap nr capr base : Nat) (vs : List V3) (h3 : vs.length ≤ 3) (ht : ∀ v ∈ vs, v.top ≤ 3)
    (hv : w.ownsRow base 97 3 (.slice ao vs.length cap) vs.length (vs.flatMap V3.cells)) (hOv : ∀ v ∈ vs, V3.Ok w base v) :
    Calls Tryd.prog 29 #[.agg #[.slice ao vs.length cap, .slice aor nr capr]] w fun e w' => (∃ v, e = .returned v ∧ w'.ownsRow w.heap.size 9 1 v ((allL (vs.map V3.top)).filter (isFP (vs.map V3.l))).length (strs ((allL (vs.map V3.top)).filter (isFP (vs.map V3.l))))) ∧ Below w.heap.size w w' := by
  have hA := heap_alloc_new w (.cells #[.slice ao vs.length cap, .slice aor nr capr] 53)
  have hBel : Below w.heap.size w (w.alloc (.cells #[.slice ao vs.length cap, .slice aor nr capr] 53)) := (Below.refl _ _).alloc (Nat.le_refl _) _
  have hsz : (w.alloc (.cells #[.slice ao vs.length cap, .slice aor nr capr] 53)).heap.size = w.heap.size + 1 := by simp
  obtain ⟨n0, n1, nf⟩ := cell2 hA
  have HV : Put (w.ownsRow base 97 3 (.slice ao vs.length cap) vs.length (vs.flatMap V3.cells)) := ⟨hv⟩
  have HOV : Put (∀ v ∈ vs, V3.Ok w base v) := ⟨hOv⟩
  obtain ⟨i0, hi, hz0, hz1, hz2⟩ := info_parts info9
  have h64 := allL_64 (vs.map V3.top) (by simpa using h3) (by simpa using ht)
  have HM : Put (∀ d ∈ allL (vs.map V3.top), d.length = vs.length ∧ ∀ x ∈ d, x ≤ 3) := ⟨by
    have := allL_mem (vs.map V3.top) (by simpa using ht)
    simpa using this⟩
  clear hv hA nf hOv
  go_enter Tryd.func29, Tryd.ntmps29
  go_wp2_with fail
  generalize w.alloc (.cells #[.slice ao vs.length cap, .slice aor nr capr] 53) = w1 at *
  refine (all_any ao aor cap nr capr base vs h3 ht (hBel.ownsRow' HV.out)).mono ?_
  rintro e w2 ⟨⟨va, rfl, hra⟩, hb2⟩
  generalize hAe : allL (vs.map V3.top) = A at hra h64 HM
  have HAE : Put (_ = A) := ⟨hAe⟩
  clear hAe
  obtain ⟨aoa, capa, rfl⟩ := owned_slice' hra
  have HRA : Put (_) := ⟨hra⟩
  clear hra
  have m0 := (hb2.cell (p := ⟨w.heap.size, 0, none⟩) (by show w.heap.size < w1.heap.size; omega)).trans n0
  have m1 := (hb2.cell (p := ⟨w.heap.size, 1, none⟩) (by show w.heap.size < w1.heap.size; omega)).trans n1
  have hs2 := hb2.size
  go_wp2_with fail
  go_loopg [3, 5] A.length (fun gk lv iv wr => ∃ i : Nat, iv = .int .i64 i ∧ i + gk = A.length ∧ wr.ownsRow w2.heap.size 9 1 lv ((A.take i).filter (isFP (vs.map V3.l))).length (strs ((A.take i).filter (isFP (vs.map V3.l)))) ∧ Below w2.heap.size w2 wr)
  case atStart => exact ⟨0, rfl, by omega, World.ownsRow_nil _ _ _ _, Below.refl _ _⟩
  case round =>
    obtain ⟨i, rfl, hik, hrow, hBr⟩ := hrel
    have hsr := hBr.size
    have hBw : Below w.heap.size w wr := hBel.trans ((hb2.mono (by omega)).trans (hBr.mono (by omega)))
    have m0' := (hBr.cell (p := ⟨w.heap.size, 0, none⟩) (by show w.heap.size < w2.heap.size; omega)).trans m0
    have m1' := (hBr.cell (p := ⟨w.heap.size, 1, none⟩) (by show w.heap.size < w2.heap.size; omega)).trans m1
    by_cases hlt : i < A.length
    · have hlt' : (i : Int) < (A.length : Int) := by omega
      have i0' : (0 : Int) ≤ (i : Int) := by omega
      obtain ⟨g', rfl⟩ : ∃ g', gk = g' + 1 := ⟨gk - 1, by omega⟩
      obtain ⟨ga, capa', hle, hga1, hga2, hga3, hca⟩ := strs_at HRA.out (by omega)
      obtain ⟨rfl, rfl⟩ : aoa = some ⟨ga, 0, none⟩ ∧ capa = capa' := by simpa using hle
      have cA := (hBr.cell (p := ⟨ga, i, none⟩) hga2).trans (hca i hlt)
      have hdi := HM.out _ (List.getElem_mem hlt)
      have hfs := filter_snoc (isFP (vs.map V3.l)) A i hlt
      have hfl := filter_le (isFP (vs.map V3.l)) A i
      generalize A[i] = d at cA hdi hfs
      have HF : Put (_ = _) := ⟨hfs⟩
      have hcall := isFirst_any (w := wr.drew) ao aor cap nr capr base vs d h3 hdi.1 hdi.2 (hBw.ownsRow' HV.out) (fun v hv => hBw.okV (HOV.out v hv))
      generalize (A.take i).filter (isFP (vs.map V3.l)) = M at hrow hfl HF
      generalize isFP (vs.map V3.l) d = bb at hcall HF
      clear hfs hca hle hdi
      go_wp2_with fail
      go_region_law ((go_simp; go_at_call 52; refine hcall.mono ?_; rintro e w3 ⟨rfl, hb3⟩))
      all_goals
        have hb3' : Below wr.heap.size wr w3 := ⟨hb3.os, hb3.tape, hb3.output, hb3.size, hb3.block⟩
        have hB3 : Below w2.heap.size w2 w3 := hBr.trans (hb3'.mono hsr)
        have hrow3 := hb3'.ownsRow' hrow
        have cA3 := (hb3'.cell (p := ⟨ga, i, none⟩) (by show ga < wr.heap.size; omega)).trans cA
        have hs3 := hB3.size
        clear hb3 hb3' hcall hrow cA m0' m1' hBr hBw
        cases bb with
        | false =>
          have hrn : w3.ownsRow w2.heap.size 9 1 u3 ((A.take (i + 1)).filter (isFP (vs.map V3.l))).length (strs ((A.take (i + 1)).filter (isFP (vs.map V3.l)))) := by
            rw [HF.out]; simpa using hrow3
          clear hrow3
          go_wp2
          go_roundg g'
          case measure => exact Nat.lt_succ_self _
          case rel => exact ⟨i + 1, by go_num, by omega, hrn, hB3⟩
        | true =>
          go_wp2_with (at_builtin; refine wpList_append_own _ rfl _ _ 29 rfl w2.heap.size 9 i0 _ 1 16 Tryd.underlying29 hi hz0 hz1 hz2 rfl Nat.one_pos u3 M.length (strs M) rfl (hrow3.alloc _) ⟨w3.heap.size, 0, none⟩ 1 1 [.string (txtL d)] rfl rfl (cell_one_new _ _ _) (by simp [Value.oneCell']) (by unfold maxLen; omega) (by omega) (by simp; omega) ?_)
          intro v' w5 hown' hgrow _
          obtain ⟨g5, cap5, rfl⟩ := ownsRow_succ hown'
          have hB5 : Below w2.heap.size w2 w5 := (hB3.alloc hs3 _).grown hgrow (by simp; omega) (fun k e => (hrow3.lt k e).1)
          have hrn : w5.ownsRow w2.heap.size 9 1 (.slice (some ⟨g5, 0, none⟩) (M.length + 1) cap5) ((A.take (i + 1)).filter (isFP (vs.map V3.l))).length (strs ((A.take (i + 1)).filter (isFP (vs.map V3.l)))) := by
            rw [HF.out]; simp only [if_true, strs_append, List.length_append]; exact hown'
          clear hown' hgrow hrow3
          go_wp2
          go_roundg g'
          case measure => exact Nat.lt_succ_self _
          case rel => exact ⟨i + 1, by go_num, by omega, hrn, hB5⟩
    · obtain rfl : i = A.length := by omega
      have hlt' : ¬ ((A.length : Int) < (A.length : Int)) := by omega
      rw [List.take_length] at hrow
      obtain ⟨aol, capl, rfl⟩ := owned_slice' hrow
      have hrn := own_base hrow (show w.heap.size ≤ w2.heap.size by omega)
      clear hrow
      go_wp2
      go_ret
      exact ⟨⟨_, rfl, by rw [HAE.out]; exact hrn⟩, hBw⟩
end
end Go.Proofs.YtkbmolodljenjaaDoor

/- The reference: what a term is worth, whether a condition holds, whether a rule may and makes. Our own text. -/
namespace Go.Proofs.YtkbmolodljenjaaDoor
open Go.RowKit

def wor (t0 t1 : Int) (d : List Nat) : Int := if t0 < 0 then t1 else ((d.getD t0.toNat 0 : Nat) : Int)
def soC (c : C7) (d : List Nat) : Bool := if c.op = 61 then wor c.a0 c.a1 d == wor c.b0 c.b1 d else if c.op = 35 then wor c.a0 c.a1 d != wor c.b0 c.b1 d else decide (wor c.a0 c.a1 d < wor c.b0 c.b1 d)
def mayC (l : List C7) (d : List Nat) : Bool := l.all (soC · d)

section
variable {w : World}
set_option maxRecDepth 100000 in
set_option maxHeartbeats 800000 in
theorem worth_any (t0 t1 t2 : Int) (d : List Nat) (hd : ∀ x ∈ d, x ≤ 3) (ht : t0 < (d.length : Int)) :
    Calls Tryd.prog 74 #[.agg #[.int .i64 t0, .int .i64 t1, .int .i64 t2], .string (txtL d)] w fun e w' => e = .returned (.int .i64 (wor t0 t1 d)) ∧ Below w.heap.size w w' := by
  by_cases h : t0 < 0
  · have hw : wor t0 t1 d = t1 := by unfold wor; rw [if_pos h]
    rw [hw]
    clear hw
    go_enter Tryd.func74, Tryd.ntmps74
    go_wp2
    go_ret
    exact ⟨rfl, (Below.refl _ _).alloc (Nat.le_refl _) _⟩
  · obtain ⟨k, rfl⟩ : ∃ k : Nat, t0 = (k : Int) := ⟨t0.toNat, by omega⟩
    have hk : k < d.length := by omega
    have hks : k < (txtL d).size := by rw [txtL_size]; exact hk
    have hx := hd _ (List.getElem_mem hk)
    have hw : wor k t1 d = ((d[k] : Nat) : Int) := by unfold wor; rw [if_neg h]; simp [List.getElem?_eq_getElem hk]
    rw [hw]
    have hb := txtL_toNat d k hk hks hd
    have h0 : (0 : Int) ≤ (k : Int) := by omega
    have hks' : (k : Int) < ((txtL d).size : Int) := by omega
    generalize txtL d = s at *
    generalize d[k] = x at *
    have e8 : IntKind.u8.wrap (48 + (x : Int) - 48) = (x : Int) := by simp [IntKind.wrap, IntKind.signed, IntKind.bits]; omega
    clear hw
    go_enter Tryd.func74, Tryd.ntmps74
    go_wp2_with fail
    go_ret
    exact ⟨rfl, (Below.refl _ _).alloc (Nat.le_refl _) _⟩
/-- A condition as it is handed on. -/
def C7.agg (c : C7) : Value := .agg #[.int .i64 c.a0, .int .i64 c.a1, .int .i64 c.a2, .int .i64 c.b0, .int .i64 c.b1, .int .i64 c.b2, .int .u8 c.op]
set_option maxRecDepth 100000 in
set_option maxHeartbeats 800000 in
theorem so_any (c : C7) (d : List Nat) (hd : ∀ x ∈ d, x ≤ 3) (ha : c.a0 < (d.length : Int)) (hb : c.b0 < (d.length : Int)) :
    Calls Tryd.prog 73 #[c.agg, .string (txtL d)] w fun e w' => e = .returned (.bool (soC c d)) ∧ Below w.heap.size w w' := by
  obtain ⟨a0, a1, a2, b0, b1, b2, op⟩ := c
  unfold C7.agg soC
  simp only at ha hb ⊢
  have HA : ∀ w, Calls Tryd.prog 74 #[.agg #[.int .i64 a0, .int .i64 a1, .int .i64 a2], .string (txtL d)] w fun e w' => e = .returned (.int .i64 (wor a0 a1 d)) ∧ Below w.heap.size w w' := fun w => worth_any a0 a1 a2 d hd ha
  have HB : ∀ w, Calls Tryd.prog 74 #[.agg #[.int .i64 b0, .int .i64 b1, .int .i64 b2], .string (txtL d)] w fun e w' => e = .returned (.int .i64 (wor b0 b1 d)) ∧ Below w.heap.size w w' := fun w => worth_any b0 b1 b2 d hd hb
  generalize wor a0 a1 d = x at *
  generalize wor b0 b1 d = y at *
  generalize txtL d = s at *
  generalize hR : (if op = 61 then x == y else if op = 35 then x != y else decide (x < y)) = R
  have HR : Put (_ = R) := ⟨hR⟩
  clear hR
  have hA := heap_alloc_new w (.cells #[.int .i64 a0, .int .i64 a1, .int .i64 a2, .int .i64 b0, .int .i64 b1, .int .i64 b2, .int .u8 op] 110)
  have hBel : Below w.heap.size w (w.alloc (.cells #[.int .i64 a0, .int .i64 a1, .int .i64 a2, .int .i64 b0, .int .i64 b1, .int .i64 b2, .int .u8 op] 110)) := (Below.refl _ _).alloc (Nat.le_refl _) _
  have hsz : (w.alloc (.cells #[.int .i64 a0, .int .i64 a1, .int .i64 a2, .int .i64 b0, .int .i64 b1, .int .i64 b2, .int .u8 op] 110)).heap.size = w.heap.size + 1 := by simp
  go_enter Tryd.func73, Tryd.ntmps73
  go_wp2_with fail
  generalize w.alloc (.cells #[.int .i64 a0, .int .i64 a1, .int .i64 a2, .int .i64 b0, .int .i64 b1, .int .i64 b2, .int .u8 op] 110) = w1 at *
  refine (HA w1).mono ?_
  rintro e w2 ⟨rfl, hb2⟩
  have hA2 := (hb2.block _ (lt_of_block hA)).trans hA
  obtain ⟨⟨q0, q1, q2, q3, q4, q5, q6⟩, qf⟩ := blk7 hA2
  clear q0 q1 q2 qf
  go_wp2_with fail
  refine (HB w2).mono ?_
  rintro e w3 ⟨rfl, hb3⟩
  have hA3 := (hb3.block _ (lt_of_block hA2)).trans hA2
  obtain ⟨⟨p0, p1, p2, p3, p4, p5, p6⟩, pf⟩ := blk7 hA3
  have hB3 : Below w.heap.size w w3 := hBel.trans ((hb2.mono (by omega)).trans (hb3.mono (Nat.le_trans (by omega) hb2.size)))
  clear p0 p1 p2 p3 p4 p5 pf q3 q4 q5 q6 hA hA2 hA3 HA HB hb2 hb3 hBel hsz
  by_cases h61 : op = 61
  · have hR := HR.out
    rw [if_pos h61] at hR
    subst h61 hR
    clear HR
    go_wp2
    go_ret
    exact ⟨rfl, hB3⟩
  · have n61 : (op == 61) = false := by simpa using h61
    have hR := HR.out
    rw [if_neg h61] at hR
    clear HR
    by_cases h35 : op = 35
    · rw [if_pos h35] at hR
      subst h35 hR
      go_wp2
      go_ret
      exact ⟨rfl, hB3⟩
    · have n35 : (op == 35) = false := by simpa using h35
      rw [if_neg h35] at hR
      subst hR
      go_wp2
      go_ret
      exact ⟨rfl, hB3⟩
end
end Go.Proofs.YtkbmolodljenjaaDoor

namespace Go.Proofs.YtkbmolodljenjaaDoor
open Go.RowKit

theorem mayC_cons (c : C7) (l : List C7) (d : List Nat) : mayC (c :: l) d = (soC c d && mayC l d) := rfl
section
variable {w : World}
set_option maxRecDepth 100000 in
set_option maxHeartbeats 1600000 in
theorem may_any (base : Nat) (r : R2) (d : List Nat) (hd : ∀ x ∈ d, x ≤ 3) (hl : r.cl.length ≤ 9223372036854775807) (hg : ∀ c ∈ r.cl, c.a0 < (d.length : Int) ∧ c.b0 < (d.length : Int)) (hr : R2.Ok w base r) :
    Calls Tryd.prog 55 #[.agg #[r.vi, r.vd], .string (txtL d)] w fun e w' => e = .returned (.bool (mayC r.cl d)) ∧ Below w.heap.size w w' := by
  obtain ⟨cl, dl, ao, cap, ao', cap'⟩ := r
  simp only [R2.vi, R2.vd] at *
  have HR : Put (w.ownsRow base 110 7 (.slice ao cl.length cap) cl.length (cl.flatMap C7.cells)) := ⟨hr.1⟩
  have HG : Put (_) := ⟨hg⟩
  have HD : Put (_) := ⟨hd⟩
  generalize hP : mayC cl d = P
  have HP : Put (_ = P) := ⟨hP⟩
  have hA := heap_alloc_new w (.cells #[.slice ao cl.length cap, .slice ao' dl.length cap'] 104)
  have hBel : Below w.heap.size w (w.alloc (.cells #[.slice ao cl.length cap, .slice ao' dl.length cap'] 104)) := (Below.refl _ _).alloc (Nat.le_refl _) _
  have hsz : (w.alloc (.cells #[.slice ao cl.length cap, .slice ao' dl.length cap'] 104)).heap.size = w.heap.size + 1 := by simp
  obtain ⟨n0, n1, nf⟩ := cell2 hA
  clear hr hg hd hP hA n1 nf
  go_enter Tryd.func55, Tryd.ntmps55
  go_wp2_with fail
  generalize w.alloc (.cells #[.slice ao cl.length cap, .slice ao' dl.length cap'] 104) = w1 at *
  go_loopg [5] cl.length (fun gk iv wr => ∃ i : Nat, iv = .int .i64 i ∧ i + gk = cl.length ∧ Below w1.heap.size w1 wr ∧ mayC (cl.drop i) d = P)
  case atStart => exact ⟨0, rfl, by omega, Below.refl _ _, HP.out⟩
  case round =>
    clear HP
    obtain ⟨i, rfl, hik, hBr, hPi⟩ := hrel
    have c0 := (hBr.cell (p := ⟨w.heap.size, 0, none⟩) (by show w.heap.size < w1.heap.size; omega)).trans n0
    have hsr := hBr.size
    have hBw : Below w.heap.size w wr := hBel.trans (hBr.mono (by omega))
    by_cases hlt : i < cl.length
    · have hlt' : (i : Int) < (cl.length : Int) := by omega
      have i0 : (0 : Int) ≤ (i : Int) := by omega
      obtain ⟨g', rfl⟩ : ∃ g', gk = g' + 1 := ⟨gk - 1, by omega⟩
      obtain ⟨gc, rfl, hgc1, hgc2, hgc3, hcc⟩ := row_at C7.len HR.out (by omega)
      have q0 := (hBw.cell (p := ⟨gc, i * 7 + 0, none⟩) hgc2).trans (hcc i hlt 0 (by omega))
      have q1 := (hBw.cell (p := ⟨gc, i * 7 + 1, none⟩) hgc2).trans (hcc i hlt 1 (by omega))
      have q2 := (hBw.cell (p := ⟨gc, i * 7 + 2, none⟩) hgc2).trans (hcc i hlt 2 (by omega))
      have q3 := (hBw.cell (p := ⟨gc, i * 7 + 3, none⟩) hgc2).trans (hcc i hlt 3 (by omega))
      have q4 := (hBw.cell (p := ⟨gc, i * 7 + 4, none⟩) hgc2).trans (hcc i hlt 4 (by omega))
      have q5 := (hBw.cell (p := ⟨gc, i * 7 + 5, none⟩) hgc2).trans (hcc i hlt 5 (by omega))
      have q6 := (hBw.cell (p := ⟨gc, i * 7 + 6, none⟩) hgc2).trans (hcc i hlt 6 (by omega))
      have hgi := HG.out _ (List.getElem_mem hlt)
      rw [List.drop_eq_getElem_cons hlt, mayC_cons] at hPi
      generalize cl[i] = c at q0 q1 q2 q3 q4 q5 q6 hgi hPi
      simp only [C7.cells, List.getElem?_cons_zero, List.getElem?_cons_succ, Nat.add_zero] at q0 q1 q2 q3 q4 q5 q6
      have hcall : ∀ w, Calls Tryd.prog 73 #[c.agg, .string (txtL d)] w fun e w' => e = .returned (.bool (soC c d)) ∧ Below w.heap.size w w' := fun w => so_any c d HD.out hgi.1 hgi.2
      unfold C7.agg at hcall
      have HPi : Put (_ = P) := ⟨hPi⟩
      generalize soC c d = bb at hcall HPi
      clear hcc hPi hgi
      generalize txtL d = s at *
      go_wp2_with fail
      refine (hcall wr).mono ?_
      rintro e w3 ⟨rfl, hb3⟩
      have hB3 : Below w1.heap.size w1 w3 := hBr.trans (hb3.mono hsr)
      clear hcall q0 q1 q2 q3 q4 q5 q6 hb3
      cases bb with
      | true =>
        have HPn : Put (mayC (cl.drop (i + 1)) d = P) := ⟨by have := HPi.out; simpa using this⟩
        clear HPi
        go_wp2
        go_roundg g'
        case measure => exact Nat.lt_succ_self _
        case rel => exact ⟨i + 1, by go_num, by omega, hB3, HPn.out⟩
      | false =>
        have hPn : false = P := by have := HPi.out; simpa using this
        subst hPn
        clear HPi
        go_wp2
        go_ret
        exact ⟨rfl, hBel.trans (hB3.mono (by omega))⟩
    · obtain rfl : i = cl.length := by omega
      have hlt' : ¬ ((cl.length : Int) < (cl.length : Int)) := by omega
      rw [List.drop_length] at hPi
      have hPn : true = P := by rw [← hPi]; rfl
      subst hPn
      clear hPi
      go_wp2
      go_ret
      exact ⟨rfl, hBw⟩
end
end Go.Proofs.YtkbmolodljenjaaDoor
