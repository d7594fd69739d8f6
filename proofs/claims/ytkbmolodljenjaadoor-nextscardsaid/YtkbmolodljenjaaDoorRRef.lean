/- The reference's Check, First and Next, walked. Our own text. -/
import Derived.Test.YtkbmolodljenjaaDoorRGood
import Derived.Test.YtkbmolodljenjaaDoorNState
namespace Go.Proofs.YtkbmolodljenjaaDoor
open Go.RowKit

def rCheck (s : ByteArray) : Nat × Int := if 120 < s.size then (1, 0) else match qRead s with
  | (none, q) => (2, (q.pos : Int))
  | (some x, _) => wrongP x.1 x.2
theorem rCheck_ok {s : ByteArray} (h : (rCheck s).1 = 0) : s.size ≤ 120 ∧ ∃ va ra q, qRead s = (some (va, ra), q) ∧ (wrongP va ra).1 = 0 := by
  unfold rCheck at h
  split at h
  · simp at h
  · next hs =>
    split at h
    · simp at h
    · next x q hq => exact ⟨by omega, x.1, x.2, q, hq, h⟩

set_option maxRecDepth 100000 in
set_option maxHeartbeats 1600000 in
theorem rcheck_any (s : ByteArray) (w : World) (_hs : s.size ≤ maxLen) :
    Calls Tryd.prog 9 #[.string s] w fun e w' => e = .returned (.tuple #[.int .i64 ((rCheck s).1 : Nat), .int .i64 (rCheck s).2]) ∧ Below w.heap.size w w' := by
  by_cases h : 120 < s.size
  · have hr : rCheck s = (1, 0) := by unfold rCheck; rw [if_pos h]
    rw [hr]
    have h' : (120 : Int) < s.size := by omega
    clear hr
    go_enter Tryd.func9, Tryd.ntmps9
    go_wp2
    go_ret2
    exact ⟨rfl, Below.refl _ _⟩
  · have hle : s.size ≤ 120 := by omega
    have h' : ¬ (120 : Int) < s.size := by omega
    obtain ⟨P, hP⟩ : ∃ P, rCheck s = P := ⟨_, rfl⟩
    obtain ⟨r, q', hq⟩ : ∃ r q', qRead s = (r, q') := ⟨_, _, rfl⟩
    have HN : Put (∀ p, r = none → q' = .error p → P = (2, (p : Int))) := ⟨fun p h1 h2 => by
      subst h1 h2; rw [← hP]; unfold rCheck; rw [if_neg h, hq]; rfl⟩
    have HS : Put (∀ x, r = some x → P = wrongP x.1 x.2) := ⟨fun x h1 => by
      subst h1; rw [← hP]; unfold rCheck; rw [if_neg h, hq]⟩
    rw [hP]
    clear hP h
    go_enter Tryd.func9, Tryd.ntmps9
    go_wp2_with fail
    refine (rread_any hle hq).mono ?_
    rintro e w1 ⟨⟨ao, aor, cap, capr, vs, rs, bad, rfl, hv, hrr, hOv, hOr, h3, h8, hfin⟩, hb1⟩
    rcases hfin with ⟨p, h1, h2, rfl⟩ | ⟨h1, rfl, _⟩
    · have hP := HN.out p h1 h2
      subst hP
      have h0 : ¬ ((p : Int) < 0) := by omega
      have h0' : (0 : Int) ≤ (p : Int) := by omega
      clear hv hrr hOv hOr hq HN HS
      go_wp2
      go_ret2
      exact ⟨rfl, hb1.alloc hb1.size _⟩
    · have hP := HS.out _ h1
      subst hP
      clear HN HS hq
      have hl : Below w1.heap.size w1 (w1.alloc (Obj.cells #[Value.slice ao vs.length cap, Value.slice aor rs.length capr] 53)) := (Below.refl _ _).alloc (Nat.le_refl _) _
      have HV : Put _ := ⟨hl.ownsRow' hv⟩
      have HRR : Put _ := ⟨hl.ownsRow' hrr⟩
      have HOV : Put (∀ v ∈ vs, V3.Ok (w1.alloc (Obj.cells #[Value.slice ao vs.length cap, Value.slice aor rs.length capr] 53)) w.heap.size v) := ⟨fun v h => ⟨hl.ownsRow' (hOv v h).1, (hOv v h).2⟩⟩
      have HOR : Put (∀ x ∈ rs, R2.Ok (w1.alloc (Obj.cells #[Value.slice ao vs.length cap, Value.slice aor rs.length capr] 53)) w.heap.size x) := ⟨fun x h => ⟨hl.ownsRow' (hOr x h).1, hl.ownsRow' (hOr x h).2⟩⟩
      have HB : Put (Below w.heap.size w w1) := ⟨hb1⟩
      have hsz := hb1.size
      have HL : Put (Below w1.heap.size w1 (w1.alloc (Obj.cells #[Value.slice ao vs.length cap, Value.slice aor rs.length capr] 53))) := ⟨hl⟩
      clear hv hrr hOv hOr hb1 hl
      go_wp2_with fail
      refine (wrong_any ao aor cap capr w.heap.size vs rs (by simp; omega) h3 h8 HV.out HRR.out HOV.out HOR.out).mono ?_
      rintro e w2 ⟨rfl, hb2⟩
      go_wp2
      go_ret2
      exact ⟨rfl, (HB.out.trans (HL.out.mono hsz)).trans (hb2.mono (by simp; omega))⟩

/-- What First answers, of the text alone. -/
def refF (s : ByteArray) : List (List Nat) := match qRead s with
  | (some (va, _), _) => (allL (va.map (fun v => v.1))).filter (isFP (va.map (fun v => v.2.1)))
  | _ => []
set_option maxRecDepth 100000 in
set_option maxHeartbeats 1600000 in
theorem rfirst_any (s : ByteArray) (w : World) (hs : s.size ≤ maxLen) :
    Calls Tryd.prog 13 #[.string s] w fun e w' => (∃ v, e = .returned (.tuple #[v, .int .i64 ((rCheck s).1 : Nat), .int .i64 (rCheck s).2]) ∧ w'.ownsRow w.heap.size 9 1 v (if (rCheck s).1 = 0 then refF s else []).length (strs (if (rCheck s).1 = 0 then refF s else []))) ∧ Below w.heap.size w w' := by
  have hck := rcheck_any s w hs
  by_cases h0 : (rCheck s).1 = 0
  · obtain ⟨hle, va, ra, q', hq, hw⟩ := rCheck_ok h0
    have hp0 : (rCheck s).2 = 0 := by
      unfold rCheck
      rw [if_neg (by omega), hq]
      obtain ⟨e1, e2⟩ := wrong_none hw
      show (wrongP va ra).2 = 0
      unfold wrongP
      rw [e1, e2]; rfl
    rw [h0, hp0] at hck ⊢
    rw [if_pos rfl]
    have hrf : refF s = (allL (va.map (fun v => v.1))).filter (isFP (va.map (fun v => v.2.1))) := by unfold refF; rw [hq]
    have HRF : Put (_ = _) := ⟨hrf⟩
    clear hrf
    go_enter Tryd.func13, Tryd.ntmps13
    go_wp2_with fail
    refine hck.mono ?_
    rintro e w1 ⟨rfl, hb1⟩
    clear hck
    go_wp2_with fail
    refine (rread_any hle hq).mono ?_
    rintro e w2 ⟨⟨ao, aor, cap, capr, vs, rs, bad, rfl, hv, hrr, hOv, hOr, h3, h8, hfin⟩, hb2⟩
    rcases hfin with ⟨p, h1, h2, rfl⟩ | ⟨h1, rfl, htied⟩
    · cases h1
    · obtain ⟨rfl, rfl⟩ : va = vs.map V3.ast ∧ ra = rs.map R2.ast := by simpa using h1
      obtain ⟨_, _, htop, _⟩ := good_model hq hw htied
      clear hrr hOr h1 hq hw
      have hb12 := hb1.trans (hb2.mono hb1.size)
      have HV : Put (_) := ⟨hv⟩
      have HOV : Put (_) := ⟨hOv⟩
      clear hv hOv
      go_wp2_with fail
      have hla : Below w2.heap.size w2 (w2.alloc (Obj.cells #[Value.slice ao vs.length cap, Value.slice aor rs.length capr] 53)) := (Below.refl _ _).alloc (Nat.le_refl _) _
      refine (firsts22_any ao aor cap rs.length capr w1.heap.size vs h3 (fun v hv => (htop v hv).1.2) (hla.ownsRow' HV.out) (fun v hv => hla.okV (HOV.out v hv))).mono ?_
      rintro e w3 ⟨⟨v, rfl, hrow⟩, hb3⟩
      have hB3 : Below w.heap.size w w3 := (hb12.trans (hla.mono hb12.size)).trans (hb3.mono (Nat.le_trans hb12.size hla.size))
      have hrow' := own_base hrow (Nat.le_trans hb12.size hla.size)
      obtain ⟨aol, capl, rfl⟩ := owned_slice' hrow'
      clear hrow hb3 hla
      go_wp2
      refine bodyPost_ret (v := .tuple #[.slice aol _ capl, .int .i64 0, .int .i64 0]) (by simp [results, Tryd.results13, go_sem]; rfl) rfl ?_
      have e1 : (vs.map V3.ast).map (fun v => v.1) = vs.map V3.top := by simp [V3.ast]
      have e2 : (vs.map V3.ast).map (fun v => v.2.1) = vs.map V3.l := by simp [V3.ast]
      exact ⟨⟨_, rfl, by rw [HRF.out, e1, e2]; exact hrow'⟩, hB3⟩
  · rw [if_neg h0]
    have hne : (((rCheck s).1 : Int) == 0) = false := by simp; exact h0
    generalize (rCheck s).1 = a at *
    generalize (rCheck s).2 = b at *
    go_enter Tryd.func13, Tryd.ntmps13
    go_wp2_with fail
    refine hck.mono ?_
    rintro e w1 ⟨rfl, hb1⟩
    clear hck
    go_wp2
    refine bodyPost_ret (v := .tuple #[.slice none 0 0, .int .i64 a, .int .i64 b]) (by simp [results, Tryd.results13, go_sem]) rfl ?_
    exact ⟨⟨_, rfl, World.ownsRow_nil _ _ _ _⟩, hb1⟩

/-- A state's text is the text of its digits. -/
theorem okT_txt {s : ByteArray} {tops : List Nat} (h : okT s tops) : ∃ d : List Nat, s = txtL d ∧ d.length = tops.length ∧ ∀ k (h1 : k < d.length) (h2 : k < tops.length), d[k] ≤ tops[k] := by
  obtain ⟨h1, h2⟩ := h
  refine ⟨s.data.toList.map (fun b => b.toNat - 48), ?_, by rw [List.length_map, Array.length_toList]; exact h1, fun k hk1 hk2 => ?_⟩
  · cases s with
    | mk data =>
      unfold txtL
      congr 1
      rw [List.map_map]
      apply Array.ext'
      simp only
      symm
      refine (List.map_congr_left (fun b hb => ?_)).trans (List.map_id' _)
      obtain ⟨k, hk, rfl⟩ := List.mem_iff_getElem.1 hb
      have hk' : k < data.size := by simpa using hk
      have := h2 k hk' (by have : data.size = tops.length := h1; omega)
      have h3 : 48 ≤ data[k].toNat := this.1
      simp only [Function.comp, Array.getElem_toList]
      have e : 48 + (data[k].toNat - 48) = data[k].toNat := by omega
      rw [e]; simp
  · have hk' : k < s.size := by
      have hk3 := hk1
      rw [List.length_map, Array.length_toList] at hk3
      exact hk3
    have := h2 k hk' hk2
    simp only [List.getElem_map, Array.getElem_toList]
    have h3 : s.data[k].toNat ≤ 48 + tops[k] := this.2
    omega
set_option maxRecDepth 100000 in
set_option maxHeartbeats 1600000 in
theorem rnext_any (s st : ByteArray) (w : World) (hs : s.size ≤ maxLen) (hst : st.size ≤ maxLen) :
    Calls Tryd.prog 17 #[.string s, .string st] w fun e w' =>
      ((((rCheck s).1 ≠ 0 ∧ e = .returned (.tuple #[.slice none 0 0, .int .i64 ((rCheck s).1 : Nat), .int .i64 (rCheck s).2]))
        ∨ ((rCheck s).1 = 0 ∧ ∃ (va : List VA) (ra : List RA) (q' : Q), qRead s = (some (va, ra), q') ∧
          ((¬ okT st (va.map (fun v => v.1)) ∧ e = .returned (.tuple #[.slice none 0 0, .int .i64 8, .int .i64 0]))
            ∨ (∃ (d : List Nat) (rs : List R2) (v : Value), okT st (va.map (fun v => v.1)) ∧ st = txtL d ∧ d.length = va.length ∧ (∀ k (h1 : k < d.length) (h2 : k < (va.map (fun v => v.1)).length), d[k] ≤ (va.map (fun v => v.1))[k]) ∧ ra = rs.map R2.ast ∧ (∀ r ∈ rs, RuleOk s va.length r) ∧
              e = .returned (.tuple #[v, .int .i64 0, .int .i64 0]) ∧ w'.ownsRow w.heap.size 9 1 v ((allL (va.map (fun v => v.1))).filter (fun e => folF (va.map (fun v => v.1)) d e rs true)).length (strs ((allL (va.map (fun v => v.1))).filter (fun e => folF (va.map (fun v => v.1)) d e rs true))))))))
      ∧ Below w.heap.size w w' := by
  have hck := rcheck_any s w hs
  by_cases h0 : (rCheck s).1 = 0
  · obtain ⟨hle, va, ra, q', hq, hw⟩ := rCheck_ok h0
    have hp0 : (rCheck s).2 = 0 := by
      unfold rCheck
      rw [if_neg (by omega), hq]
      obtain ⟨e1, e2⟩ := wrong_none hw
      show (wrongP va ra).2 = 0
      unfold wrongP
      rw [e1, e2]; rfl
    rw [h0, hp0] at hck
    have H0 : Put ((rCheck s).1 = 0) := ⟨h0⟩
    have HQ : Put (_ = _) := ⟨hq⟩
    go_enter Tryd.func17, Tryd.ntmps17
    go_wp2_with fail
    refine hck.mono ?_
    rintro e w1 ⟨rfl, hb1⟩
    clear hck
    go_wp2_with fail
    refine (rread_any hle hq).mono ?_
    rintro e w2 ⟨⟨ao, aor, cap, capr, vs, rs, bad, rfl, hv, hrr, hOv, hOr, h3, h8, hfin⟩, hb2⟩
    rcases hfin with ⟨p, h1, h2, rfl⟩ | ⟨h1, rfl, htied⟩
    · cases h1
    · obtain ⟨rfl, rfl⟩ : va = vs.map V3.ast ∧ ra = rs.map R2.ast := by simpa using h1
      obtain ⟨_, _, htop, hok⟩ := good_model hq hw htied
      clear h1 hq hw h0
      have hb12 := hb1.trans (hb2.mono hb1.size)
      have hla : Below w2.heap.size w2 (w2.alloc (Obj.cells #[Value.slice ao vs.length cap, Value.slice aor rs.length capr] 53)) := (Below.refl _ _).alloc (Nat.le_refl _) _
      have hA := heap_alloc_new w2 (.cells #[.slice ao vs.length cap, .slice aor rs.length capr] 53)
      have HV : Put (_) := ⟨hla.ownsRow' hv⟩
      have HRR : Put (_) := ⟨hla.ownsRow' hrr⟩
      have HOR : Put (_) := ⟨fun v (hv : v ∈ rs) => hla.okR (hOr v hv)⟩
      have HLA : Put (Below w.heap.size w (w2.alloc (Obj.cells #[Value.slice ao vs.length cap, Value.slice aor rs.length capr] 53))) := ⟨hb12.trans (hla.mono hb12.size)⟩
      have HT : Put (_) := ⟨htop⟩
      have HOK : Put (_) := ⟨hok⟩
      have hszw : w2.heap.size < (w2.alloc (Obj.cells #[Value.slice ao vs.length cap, Value.slice aor rs.length capr] 53)).heap.size := by simp
      clear hv hrr hOv hOr hla htop hok htied hb1 hb2 hb12
      go_wp2_with fail
      generalize w2.alloc (Obj.cells #[Value.slice ao vs.length cap, Value.slice aor rs.length capr] 53) = w3 at *
      refine (rstate_any ao aor cap rs.length capr w1.heap.size vs st h3 hst HV.out).mono ?_
      rintro e w4 ⟨⟨y, b, rfl, hb⟩, hb4⟩
      have e1 : (vs.map V3.ast).map (fun v => v.1) = vs.map V3.top := by simp [V3.ast]
      have HB4 : Put (Below w.heap.size w w4) := ⟨HLA.out.trans (hb4.mono HLA.out.size)⟩
      cases b with
      | false =>
        have hno : ¬ okT st (vs.map V3.top) := fun h => by have := hb.2 h; cases this
        have HNO : Put (_) := ⟨hno⟩
        clear hno hb
        go_wp2
        refine bodyPost_ret (v := .tuple #[.slice none 0 0, .int .i64 8, .int .i64 0]) (by simp [results, Tryd.results17, go_sem]) rfl ?_
        exact ⟨.inr ⟨H0.out, _, _, _, HQ.out, .inl ⟨by rw [e1]; exact HNO.out, rfl⟩⟩, HB4.out⟩
      | true =>
        have hok := hb.1 rfl
        obtain ⟨d, rfl, hdl, hdt⟩ := okT_txt hok
        have HD : Put (_ ∧ _) := ⟨hok, hdt⟩
        clear hb hok hdt
        rw [List.length_map] at hdl
        have hA4 := (hb4.block _ (lt_of_block hA)).trans hA
        obtain ⟨n0, n1, _⟩ := cell2 hA4
        have hd3 : ∀ x ∈ d, x ≤ 3 := by
          intro x hx
          obtain ⟨k, hk, rfl⟩ := List.mem_iff_getElem.1 hx
          have := HD.out.2 k hk (by simp; omega)
          have h2 := (HT.out _ (List.getElem_mem (show k < vs.length by omega))).1.2
          simp at this
          omega
        have hcall := nexts26_any (w := w4) ao aor cap capr w1.heap.size vs rs d h3 h8 (fun v hv => (HT.out v hv).1.2) hdl hd3 (fun x hx => ⟨fun c hc => ⟨((HOK.out x hx).conds c hc).1.1, ((HOK.out x hx).conds c hc).2.1⟩, fun c hc => ⟨((HOK.out x hx).chgs c hc).2.2.1.1, ((HOK.out x hx).chgs c hc).2.2.1.2.1, ((HOK.out x hx).chgs c hc).2.2.1.2.2, ((HOK.out x hx).chgs c hc).2.2.2.1, ((HOK.out x hx).chgs c hc).2.2.2.2⟩⟩) (hb4.ownsRow' HV.out) (hb4.ownsRow' HRR.out) (fun x hx => hb4.okR (HOR.out x hx))
        clear hA hA4
        have HDL : Put (_) := ⟨hdl⟩
        clear hdl
        generalize hSt : txtL d = sd at *
        have HST : Put (_ = sd) := ⟨hSt⟩
        clear hSt
        go_wp2_with fail
        refine hcall.mono ?_
        rintro e w5 ⟨⟨v, rfl, hrow⟩, hb5⟩
        have hrow' := own_base hrow (HB4.out.size)
        obtain ⟨aol, capl, rfl⟩ := owned_slice' hrow'
        have HB5 : Put (Below w.heap.size w w5) := ⟨HB4.out.trans (hb5.mono HB4.out.size)⟩
        clear hrow hcall hb5 hb4 n0 n1
        have HROW : Put (_) := ⟨hrow'⟩
        clear hrow'
        go_wp2
        refine bodyPost_ret (v := .tuple #[.slice aol _ capl, .int .i64 0, .int .i64 0]) (by simp [results, Tryd.results17, go_sem]; rfl) rfl ?_
        refine ⟨.inr ⟨H0.out, _, _, _, HQ.out, .inr ⟨d, rs, _, by rw [e1, HST.out]; exact HD.out.1, rfl, by rw [List.length_map]; exact HDL.out, ?_, rfl, by rw [List.length_map]; exact HOK.out, rfl, by rw [e1]; exact HROW.out⟩⟩, HB5.out⟩
        rw [e1]; exact HD.out.2
  · have hne : (((rCheck s).1 : Int) == 0) = false := by simp; exact h0
    have H0 : Put ((rCheck s).1 ≠ 0) := ⟨h0⟩
    generalize (rCheck s).1 = a at *
    generalize (rCheck s).2 = b at *
    go_enter Tryd.func17, Tryd.ntmps17
    go_wp2_with fail
    refine hck.mono ?_
    rintro e w1 ⟨rfl, hb1⟩
    clear hck h0
    go_wp2
    refine bodyPost_ret (v := .tuple #[.slice none 0 0, .int .i64 a, .int .i64 b]) (by simp [results, Tryd.results17, go_sem]) rfl ?_
    exact ⟨.inl ⟨H0.out, rfl⟩, hb1⟩
end Go.Proofs.YtkbmolodljenjaaDoor
