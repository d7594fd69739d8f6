/- The reference: whether a rule makes a state of another. Our own text. -/
import Derived.Test.YtkbmolodljenjaaDoorNNext
namespace Go.Proofs.YtkbmolodljenjaaDoor
open Go.RowKit

def wantR (d : List Nat) (top v : Nat) : List D7 → Bool × Int → Bool × Int
  | [], p => p
  | x :: l, p => wantR d top v l (if x.v = (v : Int) then (x.any, (wor x.t0 x.t1 d + x.more) % ((top : Int) + 1)) else p)
def makesF (dl : List D7) (d : List Nat) : Nat → List Nat → List Nat → List Nat → Bool
  | _, [], _, _ => true
  | v, top :: tops, x :: xs, y :: ys => ((wantR d top v dl (false, (x : Int))).1 || (wantR d top v dl (false, (x : Int))).2 == (y : Int)) && makesF dl d (v + 1) tops xs ys
  | _, _ :: _, _, _ => false
/-- A change that a good model has, of n variables. -/
def D7.Good (n : Nat) (x : D7) : Prop := x.t0 < (n : Int) ∧ 0 ≤ x.t1 ∧ x.t1 ≤ 3 ∧ 0 ≤ x.more ∧ x.more ≤ 3
theorem wor_le {t0 t1 : Int} {d : List Nat} (hd : ∀ x ∈ d, x ≤ 3) (h0 : 0 ≤ t1) (h3 : t1 ≤ 3) : 0 ≤ wor t0 t1 d ∧ wor t0 t1 d ≤ 3 := by
  unfold wor
  split
  · exact ⟨h0, h3⟩
  · have : d.getD t0.toNat 0 ≤ 3 := by
      by_cases h : t0.toNat < d.length
      · have := hd _ (List.getElem_mem h)
        simpa [List.getElem?_eq_getElem h] using this
      · simp [List.getElem?_eq_none (Nat.le_of_not_lt h)]
    omega

section
variable {w : World}
set_option maxRecDepth 100000 in
set_option maxHeartbeats 3200000 in
theorem makes_any (ao aor : Option Addr) (cap nr capr base : Nat) (vs : List V3) (r : R2) (d e : List Nat) (h3 : vs.length ≤ 3) (ht : ∀ v ∈ vs, v.top ≤ 3) (hdl : d.length = vs.length) (hel : e.length = vs.length) (hd : ∀ x ∈ d, x ≤ 3) (he : ∀ x ∈ e, x ≤ 3)
    (hl : r.dl.length ≤ 9223372036854775807) (hg : ∀ x ∈ r.dl, D7.Good d.length x)
    (hv : w.ownsRow base 97 3 (.slice ao vs.length cap) vs.length (vs.flatMap V3.cells)) (hr : R2.Ok w base r) :
    Calls Tryd.prog 56 #[.agg #[.slice ao vs.length cap, .slice aor nr capr], .agg #[r.vi, r.vd], .string (txtL d), .string (txtL e)] w fun z w' => z = .returned (.bool (makesF r.dl d 0 (vs.map V3.top) d e)) ∧ Below w.heap.size w w' := by
  obtain ⟨cl, dl, ai, ci, ad, cd⟩ := r
  simp only [R2.vi, R2.vd] at *
  have HR : Put (w.ownsRow base 128 7 (.slice ad dl.length cd) dl.length (dl.flatMap D7.cells)) := ⟨hr.2⟩
  have HV : Put (w.ownsRow base 97 3 (.slice ao vs.length cap) vs.length (vs.flatMap V3.cells)) := ⟨hv⟩
  have HG : Put (_) := ⟨hg⟩
  have HT : Put (_) := ⟨ht⟩
  have HD : Put (_) := ⟨hd⟩
  have HE : Put (_) := ⟨he⟩
  generalize hP : makesF dl d 0 (vs.map V3.top) d e = P
  have HP : Put (_ = P) := ⟨hP⟩
  have hA := heap_alloc_new w (.cells #[.slice ao vs.length cap, .slice aor nr capr] 53)
  have hA2 := heap_alloc_new (w.alloc (.cells #[.slice ao vs.length cap, .slice aor nr capr] 53)) (.cells #[.slice ai cl.length ci, .slice ad dl.length cd] 104)
  have hA1 := (Below.heap_alloc _ (.cells #[.slice ai cl.length ci, .slice ad dl.length cd] 104) _ (lt_of_block hA)).trans hA
  have hBel : Below w.heap.size w ((w.alloc (.cells #[.slice ao vs.length cap, .slice aor nr capr] 53)).alloc (.cells #[.slice ai cl.length ci, .slice ad dl.length cd] 104)) := ((Below.refl _ _).alloc (Nat.le_refl _) _).alloc (by simp) _
  have hsz : ((w.alloc (.cells #[.slice ao vs.length cap, .slice aor nr capr] 53)).alloc (.cells #[.slice ai cl.length ci, .slice ad dl.length cd] 104)).heap.size = w.heap.size + 2 := by simp
  rw [World.size_alloc] at hA2
  obtain ⟨n0, n1, nf⟩ := cell2 hA1
  obtain ⟨x0, x1, xf⟩ := cell2 hA2
  have hds : (txtL d).size = d.length := txtL_size d
  have hes : (txtL e).size = e.length := txtL_size e
  have HGD : Put (∀ (i : Nat) (h : i < d.length) (h' : i < (txtL d).size), (txtL d)[i].toNat = 48 + d[i]) := ⟨fun i h h' => txtL_toNat d i h h' hd⟩
  have HGE : Put (∀ (i : Nat) (h : i < e.length) (h' : i < (txtL e).size), (txtL e)[i].toNat = 48 + e[i]) := ⟨fun i h h' => txtL_toNat e i h h' he⟩
  have HWO : Put (∀ (x : D7), x.t0 < (d.length : Int) → ∀ w, Calls Tryd.prog 74 #[.agg #[.int .i64 x.t0, .int .i64 x.t1, .int .i64 x.t2], .string (txtL d)] w fun e w' => e = .returned (.int .i64 (wor x.t0 x.t1 d)) ∧ Below w.heap.size w w') := ⟨fun x h w => worth_any x.t0 x.t1 x.t2 d hd h⟩
  generalize txtL d = sd at *
  generalize txtL e = se at *
  clear hr hg hd he ht hP hA hA1 hA2 n1 nf x0 xf hv
  go_enter Tryd.func56, Tryd.ntmps56
  go_wp2_with fail
  generalize (w.alloc (.cells #[.slice ao vs.length cap, .slice aor nr capr] 53)).alloc (.cells #[.slice ai cl.length ci, .slice ad dl.length cd] 104) = w1 at *
  go_loopg [9] vs.length (fun gk iv wr => ∃ i : Nat, iv = .int .i64 i ∧ i + gk = vs.length ∧ Below w1.heap.size w1 wr ∧ makesF dl d i ((vs.map V3.top).drop i) (d.drop i) (e.drop i) = P)
  case atStart => exact ⟨0, rfl, by omega, Below.refl _ _, HP.out⟩
  case round =>
    clear HP
    obtain ⟨i, rfl, hik, hBr, hPi⟩ := hrel
    have c0 := (hBr.cell (p := ⟨w.heap.size, 0, none⟩) (by show w.heap.size < w1.heap.size; omega)).trans n0
    have y1 := (hBr.cell (p := ⟨w.heap.size + 1, 1, none⟩) (by show w.heap.size + 1 < w1.heap.size; omega)).trans x1
    have hsr := hBr.size
    have hBw : Below w.heap.size w wr := hBel.trans (hBr.mono (by omega))
    by_cases hlt : i < vs.length
    · have hlt' : (i : Int) < (vs.length : Int) := by omega
      have i0 : (0 : Int) ≤ (i : Int) := by omega
      have hid : i < d.length := by omega
      have hie : i < e.length := by omega
      have his : i < sd.size := by omega
      have hise : i < se.size := by omega
      have hbd := HGD.out i hid his
      have hbe := HGE.out i hie hise
      have hx3 := HD.out _ (List.getElem_mem hid)
      have he3 := HE.out _ (List.getElem_mem hie)
      have htp := HT.out _ (List.getElem_mem hlt)
      obtain ⟨g', rfl⟩ : ∃ g', gk = g' + 1 := ⟨gk - 1, by omega⟩
      obtain ⟨gv, rfl, hgv1, hgv2, hgv3, hcv⟩ := row_at V3.len HV.out (by omega)
      have v0 := hcv i hlt 0 (by omega)
      simp only [V3.cells, V3.vf, List.getElem?_cons_zero, Nat.add_zero] at v0
      rw [drop_map _ _ _ hlt, List.drop_eq_getElem_cons hid, List.drop_eq_getElem_cons hie] at hPi
      generalize vs[i].top = tp at v0 htp hPi
      generalize d[i] = x at *
      generalize e[i] = y at *
      have hPi' : (((wantR d tp i dl (false, (x : Int))).1 || (wantR d tp i dl (false, (x : Int))).2 == (y : Int)) && makesF dl d (i + 1) ((vs.map V3.top).drop (i + 1)) (d.drop (i + 1)) (e.drop (i + 1))) = P := hPi
      generalize hFW : wantR d tp i dl (false, (x : Int)) = FW at hPi'
      have HFW : Put (_ = FW) := ⟨hFW⟩
      have HPi : Put (_ = P) := ⟨hPi'⟩
      clear hcv hPi hPi' hFW
      go_wp2_with fail
      generalize wr = wi at *
      go_loopg [10, 11, 12] dl.length (fun gk wv fv kv wr => ∃ (k : Nat) (fr : Bool) (wa : Int), kv = .int .i64 k ∧ fv = .bool fr ∧ wv = .int .i64 wa ∧ k + gk = dl.length ∧ Below wi.heap.size wi wr ∧ wantR d tp i (dl.drop k) (fr, wa) = FW ∧ 0 ≤ wa ∧ wa ≤ 3)
      case atStart =>
        have e48 : (48 : Int) + (x : Int) - 48 = (x : Int) := by omega
        exact ⟨0, false, _, rfl, rfl, rfl, by omega, Below.refl _ _, by rw [e48]; exact HFW.out, by omega, by omega⟩
      case round =>
        clear HFW
        obtain ⟨k, fr, wa, rfl, rfl, rfl, hkk, hBk, hFk, hw0, hw3⟩ := hrel
        have hBq : Below w.heap.size w wr := hBw.trans (hBk.mono (by omega))
        have hsk := hBk.size
        have c0' := (hBk.cell (p := ⟨w.heap.size, 0, none⟩) (by show w.heap.size < wi.heap.size; omega)).trans c0
        have y1' := (hBk.cell (p := ⟨w.heap.size + 1, 1, none⟩) (by show w.heap.size + 1 < wi.heap.size; omega)).trans y1
        have v0' := (hBq.cell (p := ⟨gv, i * 3, none⟩) hgv2).trans v0
        by_cases hk : k < dl.length
        · have hk' : (k : Int) < (dl.length : Int) := by omega
          have k0 : (0 : Int) ≤ (k : Int) := by omega
          obtain ⟨g2, rfl⟩ : ∃ g2, gk = g2 + 1 := ⟨gk - 1, by omega⟩
          obtain ⟨gd, rfl, hgd1, hgd2, hgd3, hcd⟩ := row_at D7.len HR.out (by omega)
          have q0 := (hBq.cell (p := ⟨gd, k * 7 + 0, none⟩) hgd2).trans (hcd k hk 0 (by omega))
          have q2 := (hBq.cell (p := ⟨gd, k * 7 + 2, none⟩) hgd2).trans (hcd k hk 2 (by omega))
          have q3 := (hBq.cell (p := ⟨gd, k * 7 + 3, none⟩) hgd2).trans (hcd k hk 3 (by omega))
          have q4 := (hBq.cell (p := ⟨gd, k * 7 + 4, none⟩) hgd2).trans (hcd k hk 4 (by omega))
          have q5 := (hBq.cell (p := ⟨gd, k * 7 + 5, none⟩) hgd2).trans (hcd k hk 5 (by omega))
          have q6 := (hBq.cell (p := ⟨gd, k * 7 + 6, none⟩) hgd2).trans (hcd k hk 6 (by omega))
          have hgk := HG.out _ (List.getElem_mem hk)
          have hFk' : wantR d tp i (dl[k] :: dl.drop (k + 1)) (fr, wa) = FW := by rw [← List.drop_eq_getElem_cons hk]; exact hFk
          clear hFk
          generalize dl[k] = c at q0 q2 q3 q4 q5 q6 hgk hFk'
          simp only [D7.cells, List.getElem?_cons_zero, List.getElem?_cons_succ, Nat.add_zero] at q0 q2 q3 q4 q5 q6
          simp only [wantR] at hFk'
          obtain ⟨hg1, hg2, hg3, hg4, hg5⟩ := hgk
          have hwl := wor_le (t0 := c.t0) HD.out hg2 hg3
          have hcall := HWO.out c hg1
          generalize wor c.t0 c.t1 d = wo at hcall hwl hFk'
          by_cases hcv : c.v = (i : Int)
          · rw [if_pos hcv] at hFk'
            have hcv' : (c.v == (i : Int)) = true := by simpa using hcv
            have HF : Put (_ = FW) := ⟨hFk'⟩
            have hne : (((tp : Int) + 1) == 0) = false := by simp; omega
            have hm0 : 0 ≤ (wo + c.more) % ((tp : Int) + 1) := Int.emod_nonneg _ (by omega)
            have hm3 : (wo + c.more) % ((tp : Int) + 1) ≤ 3 := by have := Int.emod_lt_of_pos (wo + c.more) (show (0 : Int) < (tp : Int) + 1 by omega); omega
            have hmt : Int.tmod (wo + c.more) ((tp : Int) + 1) = (wo + c.more) % ((tp : Int) + 1) := Int.tmod_eq_emod_of_nonneg (by omega)
            have HMT : Put (_ = _) := ⟨hmt⟩
            have hne' : ¬ ((tp : Int) + 1 = 0) := by omega
            have hw1 : IntKind.i64.wrap ((tp : Int) + 1) = (tp : Int) + 1 := by simp [IntKind.wrap, IntKind.signed, IntKind.bits]; omega
            have hw2 : IntKind.i64.wrap (wo + c.more) = wo + c.more := by simp [IntKind.wrap, IntKind.signed, IntKind.bits]; omega
            have z1 : w.heap.size < wr.heap.size := by omega
            have z2 : w.heap.size + 1 < wr.heap.size := by omega
            have z3 : gd < wr.heap.size := by omega
            have z4 : gv < wr.heap.size := by omega
            clear hFk' hcd hcv hmt
            go_wp2_with fail
            go_region_held3 (fun w' => ∀ b o, b < wr.heap.size → w'.cell? ⟨b, o, none⟩ = wr.cell? ⟨b, o, none⟩)
              (first
                | exact fun b o hb => (hbel.cell (p := ⟨b, o, none⟩) hb)
                | exact fun _ _ _ => rfl
                | go_keep)
              ((go_at_call 74; refine (hcall _).mono ?_; rintro e w5 ⟨rfl, hbel⟩))
            have hbel' : Below wr.heap.size wr w5 := ⟨hbel.os, hbel.tape, hbel.output, hbel.size, hbel.block⟩
            have hB5 : Below wi.heap.size wi w5 := hBk.trans (hbel'.mono hsk)
            clear hbel hbel' hcall q0 q2 q3 q4 q5 q6 hBk
            go_wp2
            go_roundg g2
            case measure => exact Nat.lt_succ_self _
            case rel => exact ⟨k + 1, c.any, _, by go_num, rfl, rfl, by omega, hB5, by rw [HMT.out]; exact HF.out, by rw [HMT.out]; exact hm0, by rw [HMT.out]; exact hm3⟩
          · rw [if_neg hcv] at hFk'
            have hcv' : (c.v == (i : Int)) = false := by simpa using hcv
            have HF : Put (_ = FW) := ⟨hFk'⟩
            clear hFk' hcd hcv hcall
            go_wp2
            go_roundg g2
            case measure => exact Nat.lt_succ_self _
            case rel => exact ⟨k + 1, fr, wa, by go_num, rfl, rfl, by omega, hBk, HF.out, hw0, hw3⟩
        · obtain rfl : k = dl.length := by omega
          have hk' : ¬ ((dl.length : Int) < (dl.length : Int)) := by omega
          rw [List.drop_length] at hFk
          have hFk' : (fr, wa) = FW := hFk
          subst hFk'
          have hPj := HPi.out
          simp only at hPj
          have hBn : Below w1.heap.size w1 wr := hBr.trans (hBk.mono hsr)
          clear hFk HPi
          cases fr with
          | true =>
            have HPj : Put (_ = P) := ⟨(by simpa using hPj : makesF dl d (i + 1) ((vs.map V3.top).drop (i + 1)) (d.drop (i + 1)) (e.drop (i + 1)) = P)⟩
            clear hPj
            go_wp2
            go_roundg g'
            case measure => exact Nat.lt_succ_self _
            case rel => exact ⟨i + 1, by go_num, by omega, hBn, HPj.out⟩
          | false =>
            by_cases hwy : wa = (y : Int)
            · have hb : (wa == (y : Int)) = true := by simpa using hwy
              rw [hb] at hPj
              have HPj : Put (_ = P) := ⟨(by simpa using hPj : makesF dl d (i + 1) ((vs.map V3.top).drop (i + 1)) (d.drop (i + 1)) (e.drop (i + 1)) = P)⟩
              have hcm : (wa == 48 + (y : Int) - 48) = true := by simp; omega
              clear hPj hb hwy
              go_wp2
              go_roundg g'
              case measure => exact Nat.lt_succ_self _
              case rel => exact ⟨i + 1, by go_num, by omega, hBn, HPj.out⟩
            · have hb : (wa == (y : Int)) = false := by simpa using hwy
              rw [hb] at hPj
              have hPj' : false = P := by simpa using hPj
              subst hPj'
              have hcm : (wa == 48 + (y : Int) - 48) = false := by simp; omega
              clear hPj hb hwy
              go_wp2
              go_ret
              exact ⟨rfl, hBq⟩
    · obtain rfl : i = vs.length := by omega
      have hlt' : ¬ ((vs.length : Int) < (vs.length : Int)) := by omega
      rw [List.drop_of_length_le (by simp)] at hPi
      have hPn : true = P := by rw [← hPi]; simp [makesF]
      subst hPn
      clear hPi
      go_wp2
      go_ret
      exact ⟨rfl, hBw⟩
end
end Go.Proofs.YtkbmolodljenjaaDoor

namespace Go.Proofs.YtkbmolodljenjaaDoor
open Go.RowKit

def folF (tops : List Nat) (d e : List Nat) : List R2 → Bool → Bool
  | [], stuck => stuck && ((txtL d).toList == (txtL e).toList)
  | r :: rs, stuck => if mayC r.cl d then (makesF r.dl d 0 tops d e || folF tops d e rs false) else folF tops d e rs stuck
/-- A rule that a good model has, of n variables. -/
def R2.Good (n : Nat) (r : R2) : Prop := (∀ c ∈ r.cl, c.a0 < (n : Int) ∧ c.b0 < (n : Int)) ∧ ∀ x ∈ r.dl, D7.Good n x
end Go.Proofs.YtkbmolodljenjaaDoor
namespace Go.RowKit
open Go.Proofs.YtkbmolodljenjaaDoor
theorem Below.okR {w w' : World} (h : Below w.heap.size w w') {base : Nat} {v : R2} (ho : R2.Ok w base v) : R2.Ok w' base v := ⟨h.ownsRow' ho.1, h.ownsRow' ho.2⟩
end Go.RowKit
namespace Go.Proofs.YtkbmolodljenjaaDoor
open Go.RowKit

section
variable {w : World}
set_option maxRecDepth 100000 in
set_option maxHeartbeats 3200000 in
theorem follows_any (ao aor : Option Addr) (cap capr base : Nat) (vs : List V3) (rs : List R2) (d e : List Nat) (h3 : vs.length ≤ 3) (h8 : rs.length ≤ 200) (ht : ∀ v ∈ vs, v.top ≤ 3) (hdl : d.length = vs.length) (hel : e.length = vs.length) (hd : ∀ x ∈ d, x ≤ 3) (he : ∀ x ∈ e, x ≤ 3)
    (hg : ∀ x ∈ rs, R2.Good vs.length x)
    (hv : w.ownsRow base 97 3 (.slice ao vs.length cap) vs.length (vs.flatMap V3.cells)) (hr : w.ownsRow base 104 2 (.slice aor rs.length capr) rs.length (rs.flatMap R2.cells)) (hOr : ∀ x ∈ rs, R2.Ok w base x) :
    Calls Tryd.prog 38 #[.agg #[.slice ao vs.length cap, .slice aor rs.length capr], .string (txtL d), .string (txtL e)] w fun z w' => z = .returned (.bool (folF (vs.map V3.top) d e rs true)) ∧ Below w.heap.size w w' := by
  have HR : Put (w.ownsRow base 104 2 (.slice aor rs.length capr) rs.length (rs.flatMap R2.cells)) := ⟨hr⟩
  have HOR : Put (∀ x ∈ rs, R2.Ok w base x) := ⟨hOr⟩
  have HM : Put (∀ x ∈ rs, ∀ w', Below w.heap.size w w' → Calls Tryd.prog 55 #[.agg #[x.vi, x.vd], .string (txtL d)] w' fun z w'' => z = .returned (.bool (mayC x.cl d)) ∧ Below w'.heap.size w' w'') := ⟨fun x hx w' hb => may_any base x d hd (own_len (hOr x hx).1) (by rw [hdl]; exact (hg x hx).1) (hb.okR (hOr x hx))⟩
  have HK : Put (∀ x ∈ rs, ∀ w', Below w.heap.size w w' → Calls Tryd.prog 56 #[.agg #[.slice ao vs.length cap, .slice aor rs.length capr], .agg #[x.vi, x.vd], .string (txtL d), .string (txtL e)] w' fun z w'' => z = .returned (.bool (makesF x.dl d 0 (vs.map V3.top) d e)) ∧ Below w'.heap.size w' w'') := ⟨fun x hx w' hb => makes_any ao aor cap rs.length capr base vs x d e h3 ht hdl hel hd he (own_len (hOr x hx).2) (by rw [hdl]; exact (hg x hx).2) (hb.ownsRow' hv) (hb.okR (hOr x hx))⟩
  generalize hP : folF (vs.map V3.top) d e rs true = P
  have HP : Put (_ = P) := ⟨hP⟩
  have hA := heap_alloc_new w (.cells #[.slice ao vs.length cap, .slice aor rs.length capr] 53)
  have hBel : Below w.heap.size w (w.alloc (.cells #[.slice ao vs.length cap, .slice aor rs.length capr] 53)) := (Below.refl _ _).alloc (Nat.le_refl _) _
  have hsz : (w.alloc (.cells #[.slice ao vs.length cap, .slice aor rs.length capr] 53)).heap.size = w.heap.size + 1 := by simp
  obtain ⟨n0, n1, nf⟩ := cell2 hA
  have HE : Put (∀ stuck, folF (vs.map V3.top) d e [] stuck = (stuck && ((txtL d).toList == (txtL e).toList))) := ⟨fun _ => rfl⟩
  have HS : Put (∀ r l stuck, folF (vs.map V3.top) d e (r :: l) stuck = if mayC r.cl d then (makesF r.dl d 0 (vs.map V3.top) d e || folF (vs.map V3.top) d e l false) else folF (vs.map V3.top) d e l stuck) := ⟨fun _ _ _ => rfl⟩
  generalize txtL d = sd at *
  generalize txtL e = se at *
  clear hr hg hd he ht hP hA nf hv hOr
  go_enter Tryd.func38, Tryd.ntmps38
  go_wp2_with fail
  generalize w.alloc (.cells #[.slice ao vs.length cap, .slice aor rs.length capr] 53) = w1 at *
  go_loopg [7, 8] rs.length (fun gk sv iv wr => ∃ (i : Nat) (st : Bool), iv = .int .i64 i ∧ sv = .bool st ∧ i + gk = rs.length ∧ Below w1.heap.size w1 wr ∧ folF (vs.map V3.top) d e (rs.drop i) st = P)
  case atStart => exact ⟨0, true, rfl, rfl, by omega, Below.refl _ _, HP.out⟩
  case round =>
    clear HP
    obtain ⟨i, st, rfl, rfl, hik, hBr, hPi⟩ := hrel
    have c0 := (hBr.cell (p := ⟨w.heap.size, 0, none⟩) (by show w.heap.size < w1.heap.size; omega)).trans n0
    have c1 := (hBr.cell (p := ⟨w.heap.size, 1, none⟩) (by show w.heap.size < w1.heap.size; omega)).trans n1
    have hsr := hBr.size
    have hBw : Below w.heap.size w wr := hBel.trans (hBr.mono (by omega))
    by_cases hlt : i < rs.length
    · have hlt' : (i : Int) < (rs.length : Int) := by omega
      have i0 : (0 : Int) ≤ (i : Int) := by omega
      obtain ⟨g', rfl⟩ : ∃ g', gk = g' + 1 := ⟨gk - 1, by omega⟩
      obtain ⟨gr, rfl, hgr1, hgr2, hgr3, hcr⟩ := row_at R2.len HR.out (by omega)
      have q0 := (hBw.cell (p := ⟨gr, i * 2 + 0, none⟩) hgr2).trans (hcr i hlt 0 (by omega))
      have q1 := (hBw.cell (p := ⟨gr, i * 2 + 1, none⟩) hgr2).trans (hcr i hlt 1 (by omega))
      have hmem := List.getElem_mem hlt
      rw [List.drop_eq_getElem_cons hlt, HS.out] at hPi
      have hmay := HM.out _ hmem
      have hmak := HK.out _ hmem
      generalize rs[i] = x at q0 q1 hPi hmay hmak
      simp only [R2.cells, R2.vi, R2.vd, List.getElem?_cons_zero, List.getElem?_cons_succ, Nat.add_zero] at q0 q1 hmay hmak
      generalize mayC x.cl d = bm at hmay hPi
      generalize makesF x.dl d 0 (vs.map V3.top) d e = bk at hmak hPi
      clear hcr hmem
      go_wp2_with fail
      refine (hmay wr hBw).mono ?_
      rintro z w3 ⟨rfl, hb3⟩
      have hB3 : Below w1.heap.size w1 w3 := hBr.trans (hb3.mono hsr)
      have hBw3 : Below w.heap.size w w3 := hBw.trans (hb3.mono (by omega))
      have hs3 := hB3.size
      cases bm with
      | false =>
        have HPi : Put (folF (vs.map V3.top) d e (rs.drop (i + 1)) st = P) := ⟨by simpa using hPi⟩
        clear hPi hmay hmak q0 q1 hb3
        go_wp2
        go_roundg g'
        case measure => exact Nat.lt_succ_self _
        case rel => exact ⟨i + 1, st, by go_num, rfl, by omega, hB3, HPi.out⟩
      | true =>
        have HPi : Put ((bk || folF (vs.map V3.top) d e (rs.drop (i + 1)) false) = P) := ⟨by simpa using hPi⟩
        have q0' := (hb3.cell (p := ⟨gr, i * 2, none⟩) (by show gr < wr.heap.size; omega)).trans q0
        have q1' := (hb3.cell (p := ⟨gr, i * 2 + 1, none⟩) (by show gr < wr.heap.size; omega)).trans q1
        have d0 := (hb3.cell (p := ⟨w.heap.size, 0, none⟩) (by show w.heap.size < wr.heap.size; omega)).trans c0
        have d1 := (hb3.cell (p := ⟨w.heap.size, 1, none⟩) (by show w.heap.size < wr.heap.size; omega)).trans c1
        have hmak3 := hmak w3.drew ⟨hBw3.os, hBw3.tape, hBw3.output, hBw3.size, hBw3.block⟩
        clear hPi hmay hmak q0 q1 hb3 c0 c1
        go_wp2_with fail
        have z1 : w.heap.size < w3.heap.size := by omega
        have z2 : gr < w3.heap.size := by omega
        go_region_held3 (fun w' => ∀ b o, b < w3.heap.size → w'.cell? ⟨b, o, none⟩ = w3.cell? ⟨b, o, none⟩)
          (first
            | exact fun b o hb => (hbel.cell (p := ⟨b, o, none⟩) hb)
            | exact fun _ _ _ => rfl
            | go_keep)
          ((go_at_call 56; refine hmak3.mono ?_; rintro z w5 ⟨rfl, hbel⟩))
        have hbel' : Below w3.heap.size w3 w5 := ⟨hbel.os, hbel.tape, hbel.output, hbel.size, hbel.block⟩
        have hB5 : Below w1.heap.size w1 w5 := hB3.trans (hbel'.mono hs3)
        clear hbel hbel' hmak3 q0' q1' d0 d1
        cases bk with
        | true =>
          have hP' : true = P := by have := HPi.out; simpa using this
          subst hP'
          clear HPi
          go_wp2
          go_ret
          exact ⟨rfl, hBel.trans (hB5.mono (by omega))⟩
        | false =>
          have HPj : Put (folF (vs.map V3.top) d e (rs.drop (i + 1)) false = P) := ⟨by have := HPi.out; simpa using this⟩
          clear HPi
          go_wp2
          go_roundg g'
          case measure => exact Nat.lt_succ_self _
          case rel => exact ⟨i + 1, false, by go_num, rfl, by omega, hB5, HPj.out⟩
    · obtain rfl : i = rs.length := by omega
      have hlt' : ¬ ((rs.length : Int) < (rs.length : Int)) := by omega
      rw [List.drop_length, HE.out] at hPi
      cases st with
      | false =>
        have hP' : false = P := by simpa using hPi
        subst hP'
        clear hPi
        go_wp2
        go_ret
        exact ⟨rfl, hBw⟩
      | true =>
        have hP' : (sd.toList == se.toList) = P := by simpa using hPi
        subst hP'
        clear hPi
        go_wp2
        go_ret
        exact ⟨rfl, hBw⟩
end
end Go.Proofs.YtkbmolodljenjaaDoor
