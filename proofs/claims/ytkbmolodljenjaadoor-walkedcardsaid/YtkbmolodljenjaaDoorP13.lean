import Derived.Test.YtkbmolodljenjaaDoorP12
import Derived.Deep.RegionHeld3
import Derived.Test.YtkbmolodljenjaaDoorP9
import Derived.Test.YtkbmolodljenjaaDoorP1
import Derived.SizedLaws
import Derived.SliceStrings
import Derived.Carry
/- The reference's Check, First and Next, walked. Our own text. -/
namespace Go.Proofs.YtkbmolodljenjaaDoor
open Go.RowKit

def rCheck (s : ByteArray) : Nat × Int := if 120 < s.size then (1, 0) else match qRead s with
  | (none, q) => (2, (q.pos : Int))
  | (some x, _) => wrongP x.1 x.2
theorem rCheck_ok {s : ByteArray} (h : (rCheck s).1 = 0) : s.size ≤ 120 ∧ ∃ va ra q, qRead s = (some (va, ra), q) ∧ (wrongP va ra).1 = 0 := by
  unfold rCheck at h
  split at h
  · simp at h
  · next hs =>
    split at h
    · simp at h
    · next x q hq => exact ⟨by omega, x.1, x.2, q, hq, h⟩

set_option maxRecDepth 100000 in
set_option maxHeartbeats 1600000 in
theorem rcheck_any (s : ByteArray) (w : World) (_hs : s.size ≤ maxLen) :
    Calls Tryd.prog 9 #[.string s] w fun e w' => e = .returned (.tuple #[.int .i64 ((rCheck s).1 : Nat), .int .i64 (rCheck s).2]) ∧ Below w.heap.size w w' := by
  by_cases h : 120 < s.size
  · have hr : rCheck s = (1, 0) := by unfold rCheck; rw [if_pos h]
    rw [hr]
    have h' : (120 : Int) < s.size := by omega
    clear hr
    go_enter Tryd.func9, Tryd.ntmps9
    go_wp2
    go_ret2
    exact ⟨rfl, Below.refl _ _⟩
  · have hle : s.size ≤ 120 := by omega
    have h' : ¬ (120 : Int) < s.size := by omega
    obtain ⟨P, hP⟩ : ∃ P, rCheck s = P := ⟨_, rfl⟩
    obtain ⟨r, q', hq⟩ : ∃ r q', qRead s = (r, q') := ⟨_, _, rfl⟩
    have HN : Put (∀ p, r = none → q' = .error p → P = (2, (p : Int))) := ⟨fun p h1 h2 => by
      subst h1 h2; rw [← hP]; unfold rCheck; rw [if_neg h, hq]; rfl⟩
    have HS : Put (∀ x, r = some x → P = wrongP x.1 x.2) := ⟨fun x h1 => by
      subst h1; rw [← hP]; unfold rCheck; rw [if_neg h, hq]⟩
    rw [hP]
    clear hP h
    go_enter Tryd.func9, Tryd.ntmps9
    go_wp2_with fail
    refine (rread_any hle hq).mono ?_
    rintro e w1 ⟨⟨ao, aor, cap, capr, vs, rs, bad, rfl, hv, hrr, hOv, hOr, h3, h8, hfin⟩, hb1⟩
    rcases hfin with ⟨p, h1, h2, rfl⟩ | ⟨h1, rfl, _⟩
    · have hP := HN.out p h1 h2
      subst hP
      have h0 : ¬ ((p : Int) < 0) := by omega
      have h0' : (0 : Int) ≤ (p : Int) := by omega
      clear hv hrr hOv hOr hq HN HS
      go_wp2
      go_ret2
      exact ⟨rfl, hb1.alloc hb1.size _⟩
    · have hP := HS.out _ h1
      subst hP
      clear HN HS hq
      have hl : Below w1.heap.size w1 (w1.alloc (Obj.cells #[Value.slice ao vs.length cap, Value.slice aor rs.length capr] 53)) := (Below.refl _ _).alloc (Nat.le_refl _) _
      have HV : Put _ := ⟨hl.ownsRow' hv⟩
      have HRR : Put _ := ⟨hl.ownsRow' hrr⟩
      have HOV : Put (∀ v ∈ vs, V3.Ok (w1.alloc (Obj.cells #[Value.slice ao vs.length cap, Value.slice aor rs.length capr] 53)) w.heap.size v) := ⟨fun v h => ⟨hl.ownsRow' (hOv v h).1, (hOv v h).2⟩⟩
      have HOR : Put (∀ x ∈ rs, R2.Ok (w1.alloc (Obj.cells #[Value.slice ao vs.length cap, Value.slice aor rs.length capr] 53)) w.heap.size x) := ⟨fun x h => ⟨hl.ownsRow' (hOr x h).1, hl.ownsRow' (hOr x h).2⟩⟩
      have HB : Put (Below w.heap.size w w1) := ⟨hb1⟩
      have hsz := hb1.size
      have HL : Put (Below w1.heap.size w1 (w1.alloc (Obj.cells #[Value.slice ao vs.length cap, Value.slice aor rs.length capr] 53))) := ⟨hl⟩
      clear hv hrr hOv hOr hb1 hl
      go_wp2_with fail
      refine (wrong_any ao aor cap capr w.heap.size vs rs (by simp; omega) h3 h8 HV.out HRR.out HOV.out HOR.out).mono ?_
      rintro e w2 ⟨rfl, hb2⟩
      go_wp2
      go_ret2
      exact ⟨rfl, (HB.out.trans (HL.out.mono hsz)).trans (hb2.mono (by simp; omega))⟩

/-- What First answers, of the text alone. -/
def refF (s : ByteArray) : List (List Nat) := match qRead s with
  | (some (va, _), _) => (allL (va.map (fun v => v.1))).filter (isFP (va.map (fun v => v.2.1)))
  | _ => []
set_option maxRecDepth 100000 in
set_option maxHeartbeats 1600000 in
theorem rfirst_any (s : ByteArray) (w : World) (hs : s.size ≤ maxLen) :
    Calls Tryd.prog 13 #[.string s] w fun e w' => (∃ v, e = .returned (.tuple #[v, .int .i64 ((rCheck s).1 : Nat), .int .i64 (rCheck s).2]) ∧ w'.ownsRow w.heap.size 9 1 v (if (rCheck s).1 = 0 then refF s else []).length (strs (if (rCheck s).1 = 0 then refF s else []))) ∧ Below w.heap.size w w' := by
  have hck := rcheck_any s w hs
  by_cases h0 : (rCheck s).1 = 0
  · obtain ⟨hle, va, ra, q', hq, hw⟩ := rCheck_ok h0
    have hp0 : (rCheck s).2 = 0 := by
      unfold rCheck
      rw [if_neg (by omega), hq]
      obtain ⟨e1, e2⟩ := wrong_none hw
      show (wrongP va ra).2 = 0
      unfold wrongP
      rw [e1, e2]; rfl
    rw [h0, hp0] at hck ⊢
    rw [if_pos rfl]
    have hrf : refF s = (allL (va.map (fun v => v.1))).filter (isFP (va.map (fun v => v.2.1))) := by unfold refF; rw [hq]
    have HRF : Put (_ = _) := ⟨hrf⟩
    clear hrf
    go_enter Tryd.func13, Tryd.ntmps13
    go_wp2_with fail
    refine hck.mono ?_
    rintro e w1 ⟨rfl, hb1⟩
    clear hck
    go_wp2_with fail
    refine (rread_any hle hq).mono ?_
    rintro e w2 ⟨⟨ao, aor, cap, capr, vs, rs, bad, rfl, hv, hrr, hOv, hOr, h3, h8, hfin⟩, hb2⟩
    rcases hfin with ⟨p, h1, h2, rfl⟩ | ⟨h1, rfl, htied⟩
    · cases h1
    · obtain ⟨rfl, rfl⟩ : va = vs.map V3.ast ∧ ra = rs.map R2.ast := by simpa using h1
      obtain ⟨_, _, htop, _⟩ := good_model hq hw htied
      clear hrr hOr h1 hq hw
      have hb12 := hb1.trans (hb2.mono hb1.size)
      have HV : Put (_) := ⟨hv⟩
      have HOV : Put (_) := ⟨hOv⟩
      clear hv hOv
      go_wp2_with fail
      have hla : Below w2.heap.size w2 (w2.alloc (Obj.cells #[Value.slice ao vs.length cap, Value.slice aor rs.length capr] 53)) := (Below.refl _ _).alloc (Nat.le_refl _) _
      refine (firsts22_any ao aor cap rs.length capr w1.heap.size vs h3 (fun v hv => (htop v hv).1.2) (hla.ownsRow' HV.out) (fun v hv => hla.okV (HOV.out v hv))).mono ?_
      rintro e w3 ⟨⟨v, rfl, hrow⟩, hb3⟩
      have hB3 : Below w.heap.size w w3 := (hb12.trans (hla.mono hb12.size)).trans (hb3.mono (Nat.le_trans hb12.size hla.size))
      have hrow' := own_base hrow (Nat.le_trans hb12.size hla.size)
      obtain ⟨aol, capl, rfl⟩ := owned_slice' hrow'
      clear hrow hb3 hla
      go_wp2
      refine bodyPost_ret (v := .tuple #[.slice aol _ capl, .int .i64 0, .int .i64 0]) (by simp [results, Tryd.results13, go_sem]; rfl) rfl ?_
      have e1 : (vs.map V3.ast).map (fun v => v.1) = vs.map V3.top := by simp [V3.ast]
      have e2 : (vs.map V3.ast).map (fun v => v.2.1) = vs.map V3.l := by simp [V3.ast]
      exact ⟨⟨_, rfl, by rw [HRF.out, e1, e2]; exact hrow'⟩, hB3⟩
  · rw [if_neg h0]
    have hne : (((rCheck s).1 : Int) == 0) = false := by simp; exact h0
    generalize (rCheck s).1 = a at *
    generalize (rCheck s).2 = b at *
    go_enter Tryd.func13, Tryd.ntmps13
    go_wp2_with fail
    refine hck.mono ?_
    rintro e w1 ⟨rfl, hb1⟩
    clear hck
    go_wp2
    refine bodyPost_ret (v := .tuple #[.slice none 0 0, .int .i64 a, .int .i64 b]) (by simp [results, Tryd.results13, go_sem]) rfl ?_
    exact ⟨⟨_, rfl, World.ownsRow_nil _ _ _ _⟩, hb1⟩

/-- A state's text is the text of its digits. -/
theorem okT_txt {s : ByteArray} {tops : List Nat} (h : okT s tops) : ∃ d : List Nat, s = txtL d ∧ d.length = tops.length ∧ ∀ k (h1 : k < d.length) (h2 : k < tops.length), d[k] ≤ tops[k] := by
  obtain ⟨h1, h2⟩ := h
  refine ⟨s.data.toList.map (fun b => b.toNat - 48), ?_, by rw [List.length_map, Array.length_toList]; exact h1, fun k hk1 hk2 => ?_⟩
  · cases s with
    | mk data =>
      unfold txtL
      congr 1
      rw [List.map_map]
      apply Array.ext'
      simp only
      symm
      refine (List.map_congr_left (fun b hb => ?_)).trans (List.map_id' _)
      obtain ⟨k, hk, rfl⟩ := List.mem_iff_getElem.1 hb
      have hk' : k < data.size := by simpa using hk
      have := h2 k hk' (by have : data.size = tops.length := h1; omega)
      have h3 : 48 ≤ data[k].toNat := this.1
      simp only [Function.comp, Array.getElem_toList]
      have e : 48 + (data[k].toNat - 48) = data[k].toNat := by omega
      rw [e]; simp
  · have hk' : k < s.size := by
      have hk3 := hk1
      rw [List.length_map, Array.length_toList] at hk3
      exact hk3
    have := h2 k hk' hk2
    simp only [List.getElem_map, Array.getElem_toList]
    have h3 : s.data[k].toNat ≤ 48 + tops[k] := this.2
    omega
set_option maxRecDepth 100000 in
set_option maxHeartbeats 1600000 in
theorem rnext_any (s st : ByteArray) (w : World) (hs : s.size ≤ maxLen) (hst : st.size ≤ maxLen) :
    Calls Tryd.prog 17 #[.string s, .string st] w fun e w' =>
      ((((rCheck s).1 ≠ 0 ∧ e = .returned (.tuple #[.slice none 0 0, .int .i64 ((rCheck s).1 : Nat), .int .i64 (rCheck s).2]))
        ∨ ((rCheck s).1 = 0 ∧ ∃ (va : List VA) (ra : List RA) (q' : Q), qRead s = (some (va, ra), q') ∧
          ((¬ okT st (va.map (fun v => v.1)) ∧ e = .returned (.tuple #[.slice none 0 0, .int .i64 8, .int .i64 0]))
            ∨ (∃ (d : List Nat) (rs : List R2) (v : Value), okT st (va.map (fun v => v.1)) ∧ st = txtL d ∧ d.length = va.length ∧ (∀ k (h1 : k < d.length) (h2 : k < (va.map (fun v => v.1)).length), d[k] ≤ (va.map (fun v => v.1))[k]) ∧ ra = rs.map R2.ast ∧ (∀ r ∈ rs, RuleOk s va.length r) ∧
              e = .returned (.tuple #[v, .int .i64 0, .int .i64 0]) ∧ w'.ownsRow w.heap.size 9 1 v ((allL (va.map (fun v => v.1))).filter (fun e => folF (va.map (fun v => v.1)) d e rs true)).length (strs ((allL (va.map (fun v => v.1))).filter (fun e => folF (va.map (fun v => v.1)) d e rs true))))))))
      ∧ Below w.heap.size w w' := by
  have hck := rcheck_any s w hs
  by_cases h0 : (rCheck s).1 = 0
  · obtain ⟨hle, va, ra, q', hq, hw⟩ := rCheck_ok h0
    have hp0 : (rCheck s).2 = 0 := by
      unfold rCheck
      rw [if_neg (by omega), hq]
      obtain ⟨e1, e2⟩ := wrong_none hw
      show (wrongP va ra).2 = 0
      unfold wrongP
      rw [e1, e2]; rfl
    rw [h0, hp0] at hck
    have H0 : Put ((rCheck s).1 = 0) := ⟨h0⟩
    have HQ : Put (_ = _) := ⟨hq⟩
    go_enter Tryd.func17, Tryd.ntmps17
    go_wp2_with fail
    refine hck.mono ?_
    rintro e w1 ⟨rfl, hb1⟩
    clear hck
    go_wp2_with fail
    refine (rread_any hle hq).mono ?_
    rintro e w2 ⟨⟨ao, aor, cap, capr, vs, rs, bad, rfl, hv, hrr, hOv, hOr, h3, h8, hfin⟩, hb2⟩
    rcases hfin with ⟨p, h1, h2, rfl⟩ | ⟨h1, rfl, htied⟩
    · cases h1
    · obtain ⟨rfl, rfl⟩ : va = vs.map V3.ast ∧ ra = rs.map R2.ast := by simpa using h1
      obtain ⟨_, _, htop, hok⟩ := good_model hq hw htied
      clear h1 hq hw h0
      have hb12 := hb1.trans (hb2.mono hb1.size)
      have hla : Below w2.heap.size w2 (w2.alloc (Obj.cells #[Value.slice ao vs.length cap, Value.slice aor rs.length capr] 53)) := (Below.refl _ _).alloc (Nat.le_refl _) _
      have hA := heap_alloc_new w2 (.cells #[.slice ao vs.length cap, .slice aor rs.length capr] 53)
      have HV : Put (_) := ⟨hla.ownsRow' hv⟩
      have HRR : Put (_) := ⟨hla.ownsRow' hrr⟩
      have HOR : Put (_) := ⟨fun v (hv : v ∈ rs) => hla.okR (hOr v hv)⟩
      have HLA : Put (Below w.heap.size w (w2.alloc (Obj.cells #[Value.slice ao vs.length cap, Value.slice aor rs.length capr] 53))) := ⟨hb12.trans (hla.mono hb12.size)⟩
      have HT : Put (_) := ⟨htop⟩
      have HOK : Put (_) := ⟨hok⟩
      have hszw : w2.heap.size < (w2.alloc (Obj.cells #[Value.slice ao vs.length cap, Value.slice aor rs.length capr] 53)).heap.size := by simp
      clear hv hrr hOv hOr hla htop hok htied hb1 hb2 hb12
      go_wp2_with fail
      generalize w2.alloc (Obj.cells #[Value.slice ao vs.length cap, Value.slice aor rs.length capr] 53) = w3 at *
      refine (rstate_any ao aor cap rs.length capr w1.heap.size vs st h3 hst HV.out).mono ?_
      rintro e w4 ⟨⟨y, b, rfl, hb⟩, hb4⟩
      have e1 : (vs.map V3.ast).map (fun v => v.1) = vs.map V3.top := by simp [V3.ast]
      have HB4 : Put (Below w.heap.size w w4) := ⟨HLA.out.trans (hb4.mono HLA.out.size)⟩
      cases b with
      | false =>
        have hno : ¬ okT st (vs.map V3.top) := fun h => by have := hb.2 h; cases this
        have HNO : Put (_) := ⟨hno⟩
        clear hno hb
        go_wp2
        refine bodyPost_ret (v := .tuple #[.slice none 0 0, .int .i64 8, .int .i64 0]) (by simp [results, Tryd.results17, go_sem]) rfl ?_
        exact ⟨.inr ⟨H0.out, _, _, _, HQ.out, .inl ⟨by rw [e1]; exact HNO.out, rfl⟩⟩, HB4.out⟩
      | true =>
        have hok := hb.1 rfl
        obtain ⟨d, rfl, hdl, hdt⟩ := okT_txt hok
        have HD : Put (_ ∧ _) := ⟨hok, hdt⟩
        clear hb hok hdt
        rw [List.length_map] at hdl
        have hA4 := (hb4.block _ (lt_of_block hA)).trans hA
        obtain ⟨n0, n1, _⟩ := cell2 hA4
        have hd3 : ∀ x ∈ d, x ≤ 3 := by
          intro x hx
          obtain ⟨k, hk, rfl⟩ := List.mem_iff_getElem.1 hx
          have := HD.out.2 k hk (by simp; omega)
          have h2 := (HT.out _ (List.getElem_mem (show k < vs.length by omega))).1.2
          simp at this
          omega
        have hcall := nexts26_any (w := w4) ao aor cap capr w1.heap.size vs rs d h3 h8 (fun v hv => (HT.out v hv).1.2) hdl hd3 (fun x hx => ⟨fun c hc => ⟨((HOK.out x hx).conds c hc).1.1, ((HOK.out x hx).conds c hc).2.1⟩, fun c hc => ⟨((HOK.out x hx).chgs c hc).2.2.1.1, ((HOK.out x hx).chgs c hc).2.2.1.2.1, ((HOK.out x hx).chgs c hc).2.2.1.2.2, ((HOK.out x hx).chgs c hc).2.2.2.1, ((HOK.out x hx).chgs c hc).2.2.2.2⟩⟩) (hb4.ownsRow' HV.out) (hb4.ownsRow' HRR.out) (fun x hx => hb4.okR (HOR.out x hx))
        clear hA hA4
        have HDL : Put (_) := ⟨hdl⟩
        clear hdl
        generalize hSt : txtL d = sd at *
        have HST : Put (_ = sd) := ⟨hSt⟩
        clear hSt
        go_wp2_with fail
        refine hcall.mono ?_
        rintro e w5 ⟨⟨v, rfl, hrow⟩, hb5⟩
        have hrow' := own_base hrow (HB4.out.size)
        obtain ⟨aol, capl, rfl⟩ := owned_slice' hrow'
        have HB5 : Put (Below w.heap.size w w5) := ⟨HB4.out.trans (hb5.mono HB4.out.size)⟩
        clear hrow hcall hb5 hb4 n0 n1
        have HROW : Put (_) := ⟨hrow'⟩
        clear hrow'
        go_wp2
        refine bodyPost_ret (v := .tuple #[.slice aol _ capl, .int .i64 0, .int .i64 0]) (by simp [results, Tryd.results17, go_sem]; rfl) rfl ?_
        refine ⟨.inr ⟨H0.out, _, _, _, HQ.out, .inr ⟨d, rs, _, by rw [e1, HST.out]; exact HD.out.1, rfl, by rw [List.length_map]; exact HDL.out, ?_, rfl, by rw [List.length_map]; exact HOK.out, rfl, by rw [e1]; exact HROW.out⟩⟩, HB5.out⟩
        rw [e1]; exact HD.out.2
  · have hne : (((rCheck s).1 : Int) == 0) = false := by simp; exact h0
    have H0 : Put ((rCheck s).1 ≠ 0) := ⟨h0⟩
    generalize (rCheck s).1 = a at *
    generalize (rCheck s).2 = b at *
    go_enter Tryd.func17, Tryd.ntmps17
    go_wp2_with fail
    refine hck.mono ?_
    rintro e w1 ⟨rfl, hb1⟩
    clear hck h0
    go_wp2
    refine bodyPost_ret (v := .tuple #[.slice none 0 0, .int .i64 a, .int .i64 b]) (by simp [results, Tryd.results17, go_sem]) rfl ?_
    exact ⟨.inl ⟨H0.out, rfl⟩, hb1⟩
end Go.Proofs.YtkbmolodljenjaaDoor

/- The document's Bound: what is wrong with a lasso. Our own text. -/
namespace Go.Proofs.YtkbmolodljenjaaDoor
open Go.RowKit Go.Lib

/-- A list of texts that lies somewhere. -/
def Reads (w : World) (v : Value) (L : List ByteArray) : Prop :=
  ∃ (ao : Option Addr) (cap : Nat), v = .slice ao L.length cap ∧ (0 < L.length → ∃ b o, ao = some ⟨b, o, none⟩ ∧ b < w.heap.size ∧ ∀ i (h : i < L.length), w.cell? ⟨b, o + i, none⟩ = some (.string L[i]))
theorem Reads.below {w w' : World} {v : Value} {L : List ByteArray} (h : Reads w v L) (hb : Below w.heap.size w w') : Reads w' v L := by
  obtain ⟨ao, cap, rfl, hc⟩ := h
  refine ⟨ao, cap, rfl, fun hp => ?_⟩
  obtain ⟨b, o, rfl, hl, hcell⟩ := hc hp
  exact ⟨b, o, rfl, Nat.lt_of_lt_of_le hl hb.size, fun i hi => (hb.cell (p := ⟨b, o + i, none⟩) hl).trans (hcell i hi)⟩

/-- What is wrong with a lasso, if its states are those that are ok. -/
def BndR (ok : ByteArray → Prop) (L : List ByteArray) (loop : Int) (c : Nat) (p : Int) : Prop :=
  (7000 < L.length ∧ c = 1 ∧ p = 0) ∨
  (L.length ≤ 7000 ∧ ∃ (i : Nat) (hi : i < L.length), ¬ ok L[i] ∧ (∀ j (hj : j < i), ok (L[j]'(Nat.lt_trans hj hi))) ∧ c = 8 ∧ p = (i : Int)) ∨
  (L.length ≤ 7000 ∧ (∀ s ∈ L, ok s) ∧ ¬ (0 ≤ loop ∧ loop < (L.length : Int)) ∧ c = 9 ∧ p = 0) ∨
  (L.length ≤ 7000 ∧ (∀ s ∈ L, ok s) ∧ 0 ≤ loop ∧ loop < (L.length : Int) ∧ c = 0 ∧ p = 0)

section
variable {w : World}
set_option maxRecDepth 100000 in
set_option maxHeartbeats 1600000 in
theorem bound_any (ao aor : Option Addr) (cap nr capr base : Nat) (vs : List V3) (h3 : vs.length ≤ 3) (L : List ByteArray) (hL : ∀ s ∈ L, s.size ≤ maxLen) (hlen : L.length ≤ 9223372036854775807) (loop : Int) (v : Value) (hr : Reads w v L)
    (hv : w.ownsRow base 97 3 (.slice ao vs.length cap) vs.length (vs.flatMap V3.cells)) :
    Calls Tryd.prog 36 #[.agg #[.slice ao vs.length cap, .slice aor nr capr], .agg #[v, .int .i64 loop]] w fun e w' => (∃ (c : Nat) (p : Int), e = .returned (.tuple #[.int .i64 c, .int .i64 p]) ∧ BndR (fun s => okT s (vs.map V3.top)) L loop c p) ∧ Below w.heap.size w w' := by
  obtain ⟨aoL, capL, rfl, hcell⟩ := hr
  have HC : Put (_) := ⟨hcell⟩
  have HL : Put (_) := ⟨hL⟩
  have HV : Put (_) := ⟨hv⟩
  obtain ⟨w1, hw1⟩ : ∃ w1, w1 = (w.alloc (.cells #[.slice ao vs.length cap, .slice aor nr capr] 53)).alloc (.cells #[.slice aoL L.length capL, .int .i64 loop] 44) := ⟨_, rfl⟩
  have hB1 : Below w.heap.size w w1 := by rw [hw1]; exact ((Below.refl _ _).alloc (Nat.le_refl _) _).alloc (by simp) _
  have bx1 : w1.heap[w.heap.size]? = some (.cells #[.slice ao vs.length cap, .slice aor nr capr] 53 (0, 0)) := by
    rw [hw1]; exact (Below.heap_alloc _ _ _ (by simp)).trans (heap_alloc_new w _)
  have bx2 : w1.heap[w.heap.size + 1]? = some (.cells #[.slice aoL L.length capL, .int .i64 loop] 44 (0, 0)) := by
    rw [hw1]
    have := heap_alloc_new (w.alloc (.cells #[.slice ao vs.length cap, .slice aor nr capr] 53)) (.cells #[.slice aoL L.length capL, .int .i64 loop] 44)
    simpa using this
  have q0 := two_cell0 bx2
  have q1 := two_cell1 bx2
  have HX : Put (_ ∧ _ ∧ _) := ⟨hB1, bx1, bx2⟩
  have HW : Put (w1 = _) := ⟨hw1⟩
  clear hcell hL hv bx1 bx2 hB1
  by_cases h7 : 7000 < L.length
  · have h7' : (7000 : Int) < (L.length : Int) := by omega
    have FIN : Put (BndR (fun s => okT s (vs.map V3.top)) L loop 1 0) := ⟨.inl ⟨h7, rfl, rfl⟩⟩
    rw [hw1] at q0
    clear hw1
    go_enter Tryd.func36, Tryd.ntmps36
    go_wp2
    go_ret2
    exact ⟨⟨1, 0, rfl, FIN.out⟩, by rw [← HW.out]; exact HX.out.1⟩
  · have h7' : ¬ (7000 : Int) < (L.length : Int) := by omega
    have hw1' := hw1.symm
    clear hw1
    go_enter Tryd.func36, Tryd.ntmps36
    go_wp2_with fail
    go_loopg [6] L.length (fun gk iv wr => ∃ i : Nat, iv = .int .i64 i ∧ i + gk = L.length ∧ Below w1.heap.size w1 wr ∧ Put (∀ j (_ : j < i) (h : j < L.length), okT L[j] (vs.map V3.top)))
    case atStart => exact ⟨0, rfl, by omega, Below.refl _ _, ⟨fun j hj => absurd hj (Nat.not_lt_zero _)⟩⟩
    case round =>
      clear hw1' q0 q1
      obtain ⟨i, rfl, hik, hBr, HI⟩ := hrel
      have hsr := hBr.size
      have l1 := lt_of_block HX.out.2.1
      have l2 := lt_of_block HX.out.2.2
      have br1 := (hBr.block _ l1).trans HX.out.2.1
      have br2 := (hBr.block _ l2).trans HX.out.2.2
      have p0 := two_cell0 br1
      have p1 := two_cell1 br1
      have q0 := two_cell0 br2
      have q1 := two_cell1 br2
      have hBw : Below w.heap.size w wr := HX.out.1.trans (hBr.mono HX.out.1.size)
      by_cases hlt : i < L.length
      · have hlt' : (i : Int) < (L.length : Int) := by omega
        have k0 : (0 : Int) ≤ (i : Int) := by omega
        obtain ⟨g', rfl⟩ : ∃ g', gk = g' + 1 := ⟨gk - 1, by omega⟩
        obtain ⟨b, o, rfl, hbl, hcell⟩ := HC.out (by omega)
        have q := (hBw.cell (p := ⟨b, o + i, none⟩) hbl).trans (hcell i hlt)
        have HST : Put (∀ W, Below w.heap.size w W → Calls Tryd.prog 32 #[.agg #[.slice ao vs.length cap, .slice aor nr capr], .string L[i]] W _) := ⟨fun W hW => rstate_any ao aor cap nr capr base vs L[i] h3 (HL.out _ (List.getElem_mem hlt)) (hW.ownsRow' HV.out)⟩
        have hd : Below w.heap.size w wr.drew := hBw.drew
        have hbr : b < wr.heap.size := Nat.lt_of_lt_of_le hbl hBw.size
        have l1r := lt_of_block br1
        have l2r := lt_of_block br2
        clear br1 br2 hcell
        go_wp2_with fail
        go_region_held3 (fun w' => w'.cell? ⟨w.heap.size, 0, none⟩ = some (.slice ao vs.length cap) ∧ w'.cell? ⟨w.heap.size, 1, none⟩ = some (.slice aor nr capr) ∧ w'.cell? ⟨w.heap.size + 1, 0, none⟩ = some (.slice (some ⟨b, o, none⟩) L.length capL) ∧ w'.cell? ⟨b, o + i, none⟩ = some (.string L[i]))
          (first
            | exact ⟨p0, p1, q0, q⟩
            | exact ⟨(hb3.cell (p := ⟨w.heap.size, 0, none⟩) l1r).trans p0, (hb3.cell (p := ⟨w.heap.size, 1, none⟩) l1r).trans p1, (hb3.cell (p := ⟨w.heap.size + 1, 0, none⟩) l2r).trans q0, (hb3.cell (p := ⟨b, o + i, none⟩) hbr).trans q⟩
            | go_keep)
          (first
            | (go_at_call 32; refine (HST.out wr.drew hd).mono ?_; rintro e w3 ⟨⟨y, bb, rfl, hbb⟩, hb3'⟩; have hb3 : Below wr.heap.size wr w3 := ⟨hb3'.os, hb3'.tape, hb3'.output, hb3'.size, hb3'.block⟩))
        all_goals
          have hB3 : Below w1.heap.size w1 w3 := hBr.trans (hb3.mono hsr)
          have HBB : Put (_) := ⟨hbb⟩
          clear hbb hb3 hBr HST
          cases bb with
          | true =>
            have HI' : Put (∀ j (_ : j < i + 1) (h : j < L.length), okT L[j] (vs.map V3.top)) := ⟨fun j hj h => by
              by_cases e : j < i
              · exact HI.out j e h
              · obtain rfl : j = i := by omega
                exact HBB.out.1 rfl⟩
            clear HBB HI
            go_wp2
            go_roundg g'
            case measure => exact Nat.lt_succ_self _
            case rel => exact ⟨i + 1, by go_num, by omega, hB3, HI'⟩
          | false =>
            have FIN : Put (BndR (fun s => okT s (vs.map V3.top)) L loop 8 (i : Int)) := ⟨.inr (.inl ⟨by omega, i, hlt, (fun h => by have := HBB.out.2 h; cases this), fun j hj => HI.out j hj (by omega), rfl, rfl⟩)⟩
            have HB : Put (Below w.heap.size w w3) := ⟨HX.out.1.trans (hB3.mono HX.out.1.size)⟩
            clear HBB HI hB3
            go_wp2
            go_ret2
            exact ⟨⟨8, _, rfl, FIN.out⟩, HB.out⟩
      · obtain rfl : i = L.length := by omega
        have hlt' : ¬ ((L.length : Int) < (L.length : Int)) := by omega
        have hok : ∀ s ∈ L, okT s (vs.map V3.top) := fun s hs => by
          obtain ⟨k, hk, rfl⟩ := List.getElem_of_mem hs
          exact HI.out k hk hk
        have HB : Put (_) := ⟨hBw⟩
        by_cases hlo : loop < 0
        · have FIN : Put (BndR (fun s => okT s (vs.map V3.top)) L loop 9 0) := ⟨.inr (.inr (.inl ⟨by omega, hok, by omega, rfl, rfl⟩))⟩
          clear hok HI hBr hBw br1 br2
          go_wp2
          go_ret2
          exact ⟨⟨9, 0, rfl, FIN.out⟩, HB.out⟩
        · by_cases hhi : (L.length : Int) ≤ loop
          · have FIN : Put (BndR (fun s => okT s (vs.map V3.top)) L loop 9 0) := ⟨.inr (.inr (.inl ⟨by omega, hok, by omega, rfl, rfl⟩))⟩
            clear hok HI hBr hBw br1 br2
            go_wp2
            go_ret2
            exact ⟨⟨9, 0, rfl, FIN.out⟩, HB.out⟩
          · have FIN : Put (BndR (fun s => okT s (vs.map V3.top)) L loop 0 0) := ⟨.inr (.inr (.inr ⟨by omega, hok, by omega, by omega, rfl, rfl⟩))⟩
            clear hok HI hBr hBw br1 br2
            go_wp2
            go_ret2
            exact ⟨⟨0, 0, rfl, FIN.out⟩, HB.out⟩
end
end Go.Proofs.YtkbmolodljenjaaDoor

/- The law's own helpers: two lists of texts, spoiling one. Our own text. -/
namespace Go.Proofs.YtkbmolodljenjaaDoor
open Go.RowKit

def bys (l : List ByteArray) : List Value := l.map Value.string
theorem strs_bys (l : List (List Nat)) : strs l = bys (l.map txtL) := by simp [strs, bys]
theorem bys_at {w : World} {base : Nat} {v : Value} {l : List ByteArray} (h : w.ownsRow base 9 1 v l.length (bys l)) (hl : 0 < l.length) : ∃ g cap, v = .slice (some ⟨g, 0, none⟩) l.length cap ∧ base ≤ g ∧ g < w.heap.size ∧ l.length ≤ cap ∧ ∀ k (hk : k < l.length), w.cell? ⟨g, k, none⟩ = some (.string l[k]) := by
  have e : bys l = l.flatMap (fun d => [Value.string d]) := by
    unfold bys; rw [List.map_eq_flatMap]
  rw [e] at h
  obtain ⟨ao, cap, rfl⟩ := owned_slice' h
  obtain ⟨g, rfl, h2, h3, h4, h5⟩ := row_at (z := 1) (fun _ => rfl) h hl
  exact ⟨g, cap, rfl, h2, h3, h4, fun k hk => by have := h5 k hk 0 (by omega); simpa using this⟩

section
variable {w : World}
set_option maxRecDepth 100000 in
set_option maxHeartbeats 1600000 in
theorem same_any (b1 b2 : Nat) (va vb : Value) (l : List ByteArray) (hl : l.length ≤ 9223372036854775807) (ha : w.ownsRow b1 9 1 va l.length (bys l)) (hb : w.ownsRow b2 9 1 vb l.length (bys l)) :
    Calls Tryd.prog 14 #[va, vb] w fun e w' => e = .returned (.bool true) ∧ Below w.heap.size w w' := by
  obtain ⟨aoa, capa, rfl⟩ := owned_slice' ha
  obtain ⟨aob, capb, rfl⟩ := owned_slice' hb
  have HA : Put (_) := ⟨ha⟩
  have HB : Put (_) := ⟨hb⟩
  clear ha hb
  go_enter Tryd.func14, Tryd.ntmps14
  go_wp2_with fail
  go_loopg [5] l.length (fun gk iv wr => ∃ i m : Nat, iv = .int .i64 i ∧ i + gk = l.length ∧ wr = w.drewN m)
  case atStart => exact ⟨0, 0, rfl, by omega, rfl⟩
  case round =>
    obtain ⟨i, m, rfl, hik, rfl⟩ := hrel
    by_cases hlt : i < l.length
    · have hlt' : (i : Int) < (l.length : Int) := by omega
      have i0 : (0 : Int) ≤ (i : Int) := by omega
      obtain ⟨g', rfl⟩ : ∃ g', gk = g' + 1 := ⟨gk - 1, by omega⟩
      obtain ⟨ga, ca, hea, _, _, _, hca⟩ := bys_at HA.out (by omega)
      obtain ⟨gb, cb, heb, _, _, _, hcb⟩ := bys_at HB.out (by omega)
      obtain ⟨rfl, rfl⟩ : aoa = some ⟨ga, 0, none⟩ ∧ capa = ca := by simpa using hea
      obtain ⟨rfl, rfl⟩ : aob = some ⟨gb, 0, none⟩ ∧ capb = cb := by simpa using heb
      have c1 := hca i hlt
      have c2 := hcb i hlt
      generalize l[i] = s at c1 c2
      clear hca hcb hea heb
      go_wp2_with fail
      go_quiet (fail)
      go_wp2
      go_roundg g'
      case measure => exact Nat.lt_succ_self _
      case rel => exact ⟨i + 1, _, by go_num, by omega, rfl⟩
    · obtain rfl : i = l.length := by omega
      have hlt' : ¬ ((l.length : Int) < (l.length : Int)) := by omega
      go_wp2
      go_ret
      exact ⟨rfl, below_drewN (Below.refl _ _) _⟩
end
end Go.Proofs.YtkbmolodljenjaaDoor

namespace Go.Proofs.YtkbmolodljenjaaDoor
open Go.RowKit

/-- All blocks but that of a value's row are as they were. -/
def ExV (v : Value) (w w' : World) : Prop := ∃ g, (v.ownBlock = none ∨ v.ownBlock = some g) ∧ Ex g w w' ∧ (v.ownBlock = none → Below w.heap.size w w')
section
variable {w : World}
set_option maxRecDepth 100000 in
set_option maxHeartbeats 1600000 in
theorem spoil_any (b1 : Nat) (va : Value) (l : List Value) (hl : l.length ≤ 9223372036854775807) (ha : w.ownsRow b1 9 1 va l.length l) :
    Calls Tryd.prog 15 #[va] w fun e w' => (∃ v, e = .returned v) ∧ ExV va w w' := by
  rcases ha.2 with ⟨rfl, h0⟩ | ⟨g, cap, cur, rfl, hb, hg, hcap, r⟩
  · clear h0 ha hl
    go_enter Tryd.func15, Tryd.ntmps15
    go_wp2_with fail
    go_loopg [2] 0 (fun gk iv wr => iv = .int .i64 0 ∧ wr = w)
    case atStart => exact ⟨rfl, rfl⟩
    case round =>
      obtain ⟨rfl, rfl⟩ := hrel
      go_wp2
      go_end0
      exact ⟨⟨_, rfl⟩, 0, .inl rfl, Ex.refl _ _, fun _ => Below.refl _ _⟩
  · obtain ⟨_, hcs, _⟩ := r
    clear ha
    generalize l.length = n at *
    go_enter Tryd.func15, Tryd.ntmps15
    go_wp2_with fail
    go_loopg [2] n (fun gk iv wr => ∃ (i : Nat) (cs : Array Value), iv = .int .i64 i ∧ i + gk = n ∧ wr.heap[g]? = some (.cells cs 9 (0, 0)) ∧ cs.size = cap ∧ Ex g w wr)
    case atStart => exact ⟨0, cur, rfl, by omega, hg, by omega, Ex.refl _ _⟩
    case round =>
      obtain ⟨i, cs, rfl, hik, hgr, hcsz, hX⟩ := hrel
      by_cases hlt : i < n
      · have hlt' : (i : Int) < (n : Int) := by omega
        have i0 : (0 : Int) ≤ (i : Int) := by omega
        obtain ⟨g', rfl⟩ : ∃ g', gk = g' + 1 := ⟨gk - 1, by omega⟩
        have hics : i < cs.size := by omega
        have c1 : wr.cell? ⟨g, i, none⟩ = some cs[i] := by simp [World.cell?, hgr, Array.getElem?_eq_getElem hics]
        have f1 : wr.frozen? ⟨g, i, none⟩ = false := by simp [World.frozen?, hgr]
        have HN : Put (_ ∧ _) := ⟨heap_setCell_same wr g i cs 9 (.string ⟨#[]⟩) hgr, hX.setCell (p := ⟨g, i, none⟩) (.inl rfl) (.string ⟨#[]⟩)⟩
        clear hgr hX
        go_wp2
        go_roundg g'
        case measure => exact Nat.lt_succ_self _
        case rel => exact ⟨i + 1, _, by go_num, by omega, HN.out.1, by simpa using hcsz, HN.out.2⟩
      · have hlt' : ¬ ((i : Int) < (n : Int)) := by omega
        go_wp2
        go_end0
        exact ⟨⟨_, rfl⟩, g, .inr rfl, hX, fun h => by simp [Value.ownBlock] at h⟩
end
end Go.Proofs.YtkbmolodljenjaaDoor

/- The law's own helpers, of lists that are handed in: copied, sameTexts. Our own text. -/
namespace Go.Proofs.YtkbmolodljenjaaDoor
open Go.RowKit Go.Lib

theorem Reads.cell {w : World} {ao : Option Addr} {n cap : Nat} {L : List ByteArray} (h : Reads w (.slice ao n cap) L) : n = L.length ∧ (0 < L.length → ∃ b o, ao = some ⟨b, o, none⟩ ∧ b < w.heap.size ∧ ∀ i (h : i < L.length), w.cell? ⟨b, o + i, none⟩ = some (.string L[i])) := by
  obtain ⟨ao', cap', e, hc⟩ := h
  obtain ⟨rfl, rfl, rfl⟩ : ao = ao' ∧ n = L.length ∧ cap = cap' := by simpa using e
  exact ⟨rfl, hc⟩
theorem Reads.of_owns {w : World} {b : Nat} {v : Value} {L : List ByteArray} (h : w.ownsRow b 9 1 v L.length (bys L)) : Reads w v L := by
  obtain ⟨ao, cap, rfl⟩ := owned_slice' h
  refine ⟨ao, cap, rfl, fun hl => ?_⟩
  obtain ⟨g, cap', e, _, hg, _, hc⟩ := bys_at h hl
  obtain ⟨rfl, rfl⟩ : ao = some ⟨g, 0, none⟩ ∧ cap = cap' := by simpa using e
  exact ⟨g, 0, rfl, hg, fun i hi => by have := hc i hi; simpa using this⟩
theorem bys_snoc (L : List ByteArray) (i : Nat) (h : i < L.length) : bys (L.take (i + 1)) = bys (L.take i) ++ [.string L[i]] := by
  have e : L.take (i + 1) = L.take i ++ [L[i]] := by rw [List.take_add_one, List.getElem?_eq_getElem h]; rfl
  rw [e]; unfold bys; rw [List.map_append]; rfl

section
variable {w : World}
set_option maxRecDepth 100000 in
set_option maxHeartbeats 1600000 in
theorem sameR_any (va vb : Value) (l : List ByteArray) (hl : l.length ≤ 9223372036854775807) (ha : Reads w va l) (hb : Reads w vb l) :
    Calls Tryd.prog 14 #[va, vb] w fun e w' => e = .returned (.bool true) ∧ Below w.heap.size w w' := by
  obtain ⟨aoa, capa, rfl, ha⟩ := ha
  obtain ⟨aob, capb, rfl, hb⟩ := hb
  have HA : Put (_) := ⟨ha⟩
  have HB : Put (_) := ⟨hb⟩
  clear ha hb
  go_enter Tryd.func14, Tryd.ntmps14
  go_wp2_with fail
  go_loopg [5] l.length (fun gk iv wr => ∃ i m : Nat, iv = .int .i64 i ∧ i + gk = l.length ∧ wr = w.drewN m)
  case atStart => exact ⟨0, 0, rfl, by omega, rfl⟩
  case round =>
    obtain ⟨i, m, rfl, hik, rfl⟩ := hrel
    by_cases hlt : i < l.length
    · have hlt' : (i : Int) < (l.length : Int) := by omega
      have i0 : (0 : Int) ≤ (i : Int) := by omega
      obtain ⟨g', rfl⟩ : ∃ g', gk = g' + 1 := ⟨gk - 1, by omega⟩
      obtain ⟨ba, oa, rfl, _, hca⟩ := HA.out (by omega)
      obtain ⟨bb, ob, rfl, _, hcb⟩ := HB.out (by omega)
      have c1 := hca i hlt
      have c2 := hcb i hlt
      generalize l[i] = s at c1 c2
      clear hca hcb
      go_wp2_with fail
      go_quiet (fail)
      go_wp2
      go_roundg g'
      case measure => exact Nat.lt_succ_self _
      case rel => exact ⟨i + 1, _, by go_num, by omega, rfl⟩
    · obtain rfl : i = l.length := by omega
      have hlt' : ¬ ((l.length : Int) < (l.length : Int)) := by omega
      go_wp2
      go_ret
      exact ⟨rfl, below_drewN (Below.refl _ _) _⟩

set_option maxRecDepth 100000 in
set_option maxHeartbeats 1600000 in
theorem copied_any (va : Value) (L : List ByteArray) (hl : L.length * 16 ≤ 140737488355328) (ha : Reads w va L) :
    Calls Tryd.prog 18 #[va] w fun e w' => (∃ v, e = .returned v ∧ w'.ownsRow w.heap.size 9 1 v L.length (bys L)) ∧ Below w.heap.size w w' := by
  obtain ⟨ao, cap, rfl, hc⟩ := ha
  have HC : Put (_) := ⟨hc⟩
  obtain ⟨i0, hi, hz0, hz1, hz2⟩ := info_parts info9
  clear hc
  go_enter Tryd.func18, Tryd.ntmps18
  go_wp2_with fail
  go_loopg [3, 4] L.length (fun gk lv iv wr => ∃ i : Nat, iv = .int .i64 i ∧ i + gk = L.length ∧ wr.ownsRow w.heap.size 9 1 lv i (bys (L.take i)) ∧ Below w.heap.size w wr)
  case atStart => exact ⟨0, rfl, by omega, World.ownsRow_nil _ _ _ _, Below.refl _ _⟩
  case round =>
    obtain ⟨i, rfl, hik, hrow, hBr⟩ := hrel
    have hsr := hBr.size
    by_cases hlt : i < L.length
    · have hlt' : (i : Int) < (L.length : Int) := by omega
      have k0 : (0 : Int) ≤ (i : Int) := by omega
      obtain ⟨g', rfl⟩ : ∃ g', gk = g' + 1 := ⟨gk - 1, by omega⟩
      obtain ⟨b, o, rfl, hbl, hcell⟩ := HC.out (by omega)
      have ci := (hBr.cell (p := ⟨b, o + i, none⟩) hbl).trans (hcell i hlt)
      have HS : Put (_ = _) := ⟨bys_snoc L i hlt⟩
      have hbl4 : (bys (L.take i)).length = i := by simp [bys]; omega
      generalize bys (L.take i) = M at *
      generalize L[i] = t at *
      clear hcell
      go_wp2_with (at_builtin; refine wpList_append_own _ rfl _ _ 29 rfl w.heap.size 9 i0 _ 1 16 Tryd.underlying29 hi hz0 hz1 hz2 rfl Nat.one_pos u3 i M rfl (hrow.alloc _) ⟨wr.heap.size, 0, none⟩ 1 1 [.string t] rfl rfl (cell_one_new _ _ _) (by simp [Value.oneCell']) (by unfold maxLen; omega) (by omega) (by simp; omega) ?_)
      intro v' w5 hown' hgrow _
      obtain ⟨g5, cap5, rfl⟩ := ownsRow_succ hown'
      have hB5 : Below w.heap.size w w5 := (hBr.alloc hsr _).grown hgrow (by simp; omega) (fun k e => (hrow.lt k e).1)
      have hrn : w5.ownsRow w.heap.size 9 1 (.slice (some ⟨g5, 0, none⟩) (i + 1) cap5) (i + 1) (bys (L.take (i + 1))) := by rw [HS.out]; exact hown'
      clear hown' hgrow hrow hBr ci
      go_wp2
      go_roundg g'
      case measure => exact Nat.lt_succ_self _
      case rel => exact ⟨i + 1, by go_num, by omega, hrn, hB5⟩
    · obtain rfl : i = L.length := by omega
      have hlt' : ¬ ((L.length : Int) < (L.length : Int)) := by omega
      rw [List.take_length] at hrow
      obtain ⟨aol, capl, rfl⟩ := owned_slice' hrow
      have HROW : Put (_) := ⟨hrow⟩
      clear hrow
      go_wp2
      go_ret
      exact ⟨⟨_, rfl, HROW.out⟩, hBr⟩
end
end Go.Proofs.YtkbmolodljenjaaDoor

/- A list of texts that is handed in. Our own text. -/
namespace Go.Proofs.YtkbmolodljenjaaDoor
open Go.ChangeShapes Go.WideShapes Go.ChangeAt Go.RowKit

theorem laidOut : laidOutB Tryd.prog = true := by kernel_rfl
theorem cells_str : Tryd.prog.cellsOf 9 = 1 := by kernel_rfl
theorem bytes_str : Tryd.prog.bytesOf 9 = 16 := by kernel_rfl
theorem lt_of_cell {w : World} {a : Addr} {v : Value} (h : w.cell? a = some v) : a.block < w.heap.size := by
  rcases Nat.lt_or_ge a.block w.heap.size with h' | h'
  · exact h'
  · simp [World.cell?, Array.getElem?_eq_none h'] at h
theorem open_texts {H : Type} {enc : TypeId × Value → H} {W : World} {a0 : Option Addr} {len cap fuel : Nat} {x : DataW H × List MemPlace}
    (hf : DataW.trod enc Tryd.prog W 0 (fun _ => true) true fuel 29 [.slice a0 len cap] = some x) :
    ∃ L : List ByteArray, L.length = len ∧ Reads W (.slice a0 len cap) L ∧ (∀ s ∈ L, s.size ≤ maxLen) ∧ (len = 0 ∨ ∃ spare, x.1 = .slice (Go.ChangeShapes.strs L) spare) := by
  rcases open_strings Tryd.underlying29 Tryd.underlying9 cells_str hf with ⟨hcs, hx⟩ | ⟨a, len', cap', ss, hcs, _, hl, hm, hz, hx, hcell, hws⟩
  · simp at hcs
    obtain ⟨rfl, rfl, rfl⟩ := hcs
    exact ⟨[], rfl, ⟨none, 0, rfl, fun h => absurd h (by simp)⟩, fun s hs => by simp at hs, .inl rfl⟩
  · simp at hcs
    obtain ⟨rfl, rfl, rfl⟩ := hcs
    subst hx
    simp only [if_true] at hz
    obtain ⟨b, off, spot⟩ := a
    have hlen : (ss.take len).length = len := by simp; omega
    refine ⟨ss.take len, hlen, ⟨_, cap, by rw [hlen], fun h0 => ?_⟩, fun s hs => hws s (List.mem_of_mem_take hs), .inr ⟨_, rfl⟩⟩
    rw [hlen] at h0
    have hspot : spot = none := by simpa [Addr.add] using World.cell?_spot (hcell 0 (by omega))
    subst hspot
    refine ⟨b, off, rfl, lt_of_cell (hcell 0 (by omega)), fun i hi => ?_⟩
    rw [hlen] at hi
    have := hcell i (by omega)
    rw [add_plain] at this
    rw [this]
    have hi2 : i < ss.length := by omega
    simp [List.getD, hi2]
end Go.Proofs.YtkbmolodljenjaaDoor
