import Derived.Test.YtkbmolodljenjaaDoorP9
/- The reference: whether a rule makes a state of another. Our own text. -/
namespace Go.Proofs.YtkbmolodljenjaaDoor
open Go.RowKit

def wantR (d : List Nat) (top v : Nat) : List D7 → Bool × Int → Bool × Int
  | [], p => p
  | x :: l, p => wantR d top v l (if x.v = (v : Int) then (x.any, (wor x.t0 x.t1 d + x.more) % ((top : Int) + 1)) else p)
def makesF (dl : List D7) (d : List Nat) : Nat → List Nat → List Nat → List Nat → Bool
  | _, [], _, _ => true
  | v, top :: tops, x :: xs, y :: ys => ((wantR d top v dl (false, (x : Int))).1 || (wantR d top v dl (false, (x : Int))).2 == (y : Int)) && makesF dl d (v + 1) tops xs ys
  | _, _ :: _, _, _ => false
/-- A change that a good model has, of n variables. -/
def D7.Good (n : Nat) (x : D7) : Prop := x.t0 < (n : Int) ∧ 0 ≤ x.t1 ∧ x.t1 ≤ 3 ∧ 0 ≤ x.more ∧ x.more ≤ 3
theorem wor_le {t0 t1 : Int} {d : List Nat} (hd : ∀ x ∈ d, x ≤ 3) (h0 : 0 ≤ t1) (h3 : t1 ≤ 3) : 0 ≤ wor t0 t1 d ∧ wor t0 t1 d ≤ 3 := by
  unfold wor
  split
  · exact ⟨h0, h3⟩
  · have : d.getD t0.toNat 0 ≤ 3 := by
      by_cases h : t0.toNat < d.length
      · have := hd _ (List.getElem_mem h)
        simpa [List.getElem?_eq_getElem h] using this
      · simp [List.getElem?_eq_none (Nat.le_of_not_lt h)]
    omega

section
variable {w : World}
set_option maxRecDepth 100000 in
set_option maxHeartbeats 3200000 in
theorem makes_any (ao aor : Option Addr) (cap nr capr base : Nat) (vs : List V3) (r : R2) (d e : List Nat) (h3 : vs.length ≤ 3) (ht : ∀ v ∈ vs, v.top ≤ 3) (hdl : d.length = vs.length) (hel : e.length = vs.length) (hd : ∀ x ∈ d, x ≤ 3) (he : ∀ x ∈ e, x ≤ 3)
    (hl : r.dl.length ≤ 9223372036854775807) (hg : ∀ x ∈ r.dl, D7.Good d.length x)
    (hv : w.ownsRow base 97 3 (.slice ao vs.length cap) vs.length (vs.flatMap V3.cells)) (hr : R2.Ok w base r) :
    Calls Tryd.prog 56 #[.agg #[.slice ao vs.length cap, .slice aor nr capr], .agg #[r.vi, r.vd], .string (txtL d), .string (txtL e)] w fun z w' => z = .returned (.bool (makesF r.dl d 0 (vs.map V3.top) d e)) ∧ Below w.heap.size w w' := by
  obtain ⟨cl, dl, ai, ci, ad, cd⟩ := r
  simp only [R2.vi, R2.vd] at *
  have HR : Put (w.ownsRow base 128 7 (.slice ad dl.length cd) dl.length (dl.flatMap D7.cells)) := ⟨hr.2⟩
  have HV : Put (w.ownsRow base 97 3 (.slice ao vs.length cap) vs.length (vs.flatMap V3.cells)) := ⟨hv⟩
  have HG : Put (_) := ⟨hg⟩
  have HT : Put (_) := ⟨ht⟩
  have HD : Put (_) := ⟨hd⟩
  have HE : Put (_) := ⟨he⟩
  generalize hP : makesF dl d 0 (vs.map V3.top) d e = P
  have HP : Put (_ = P) := ⟨hP⟩
  have hA := heap_alloc_new w (.cells #[.slice ao vs.length cap, .slice aor nr capr] 53)
  have hA2 := heap_alloc_new (w.alloc (.cells #[.slice ao vs.length cap, .slice aor nr capr] 53)) (.cells #[.slice ai cl.length ci, .slice ad dl.length cd] 104)
  have hA1 := (Below.heap_alloc _ (.cells #[.slice ai cl.length ci, .slice ad dl.length cd] 104) _ (lt_of_block hA)).trans hA
  have hBel : Below w.heap.size w ((w.alloc (.cells #[.slice ao vs.length cap, .slice aor nr capr] 53)).alloc (.cells #[.slice ai cl.length ci, .slice ad dl.length cd] 104)) := ((Below.refl _ _).alloc (Nat.le_refl _) _).alloc (by simp) _
  have hsz : ((w.alloc (.cells #[.slice ao vs.length cap, .slice aor nr capr] 53)).alloc (.cells #[.slice ai cl.length ci, .slice ad dl.length cd] 104)).heap.size = w.heap.size + 2 := by simp
  rw [World.size_alloc] at hA2
  obtain ⟨n0, n1, nf⟩ := cell2 hA1
  obtain ⟨x0, x1, xf⟩ := cell2 hA2
  have hds : (txtL d).size = d.length := txtL_size d
  have hes : (txtL e).size = e.length := txtL_size e
  have HGD : Put (∀ (i : Nat) (h : i < d.length) (h' : i < (txtL d).size), (txtL d)[i].toNat = 48 + d[i]) := ⟨fun i h h' => txtL_toNat d i h h' hd⟩
  have HGE : Put (∀ (i : Nat) (h : i < e.length) (h' : i < (txtL e).size), (txtL e)[i].toNat = 48 + e[i]) := ⟨fun i h h' => txtL_toNat e i h h' he⟩
  have HWO : Put (∀ (x : D7), x.t0 < (d.length : Int) → ∀ w, Calls Tryd.prog 74 #[.agg #[.int .i64 x.t0, .int .i64 x.t1, .int .i64 x.t2], .string (txtL d)] w fun e w' => e = .returned (.int .i64 (wor x.t0 x.t1 d)) ∧ Below w.heap.size w w') := ⟨fun x h w => worth_any x.t0 x.t1 x.t2 d hd h⟩
  generalize txtL d = sd at *
  generalize txtL e = se at *
  clear hr hg hd he ht hP hA hA1 hA2 n1 nf x0 xf hv
  go_enter Tryd.func56, Tryd.ntmps56
  go_wp2_with fail
  generalize (w.alloc (.cells #[.slice ao vs.length cap, .slice aor nr capr] 53)).alloc (.cells #[.slice ai cl.length ci, .slice ad dl.length cd] 104) = w1 at *
  go_loopg [9] vs.length (fun gk iv wr => ∃ i : Nat, iv = .int .i64 i ∧ i + gk = vs.length ∧ Below w1.heap.size w1 wr ∧ makesF dl d i ((vs.map V3.top).drop i) (d.drop i) (e.drop i) = P)
  case atStart => exact ⟨0, rfl, by omega, Below.refl _ _, HP.out⟩
  case round =>
    clear HP
    obtain ⟨i, rfl, hik, hBr, hPi⟩ := hrel
    have c0 := (hBr.cell (p := ⟨w.heap.size, 0, none⟩) (by show w.heap.size < w1.heap.size; omega)).trans n0
    have y1 := (hBr.cell (p := ⟨w.heap.size + 1, 1, none⟩) (by show w.heap.size + 1 < w1.heap.size; omega)).trans x1
    have hsr := hBr.size
    have hBw : Below w.heap.size w wr := hBel.trans (hBr.mono (by omega))
    by_cases hlt : i < vs.length
    · have hlt' : (i : Int) < (vs.length : Int) := by omega
      have i0 : (0 : Int) ≤ (i : Int) := by omega
      have hid : i < d.length := by omega
      have hie : i < e.length := by omega
      have his : i < sd.size := by omega
      have hise : i < se.size := by omega
      have hbd := HGD.out i hid his
      have hbe := HGE.out i hie hise
      have hx3 := HD.out _ (List.getElem_mem hid)
      have he3 := HE.out _ (List.getElem_mem hie)
      have htp := HT.out _ (List.getElem_mem hlt)
      obtain ⟨g', rfl⟩ : ∃ g', gk = g' + 1 := ⟨gk - 1, by omega⟩
      obtain ⟨gv, rfl, hgv1, hgv2, hgv3, hcv⟩ := row_at V3.len HV.out (by omega)
      have v0 := hcv i hlt 0 (by omega)
      simp only [V3.cells, V3.vf, List.getElem?_cons_zero, Nat.add_zero] at v0
      rw [drop_map _ _ _ hlt, List.drop_eq_getElem_cons hid, List.drop_eq_getElem_cons hie] at hPi
      generalize vs[i].top = tp at v0 htp hPi
      generalize d[i] = x at *
      generalize e[i] = y at *
      have hPi' : (((wantR d tp i dl (false, (x : Int))).1 || (wantR d tp i dl (false, (x : Int))).2 == (y : Int)) && makesF dl d (i + 1) ((vs.map V3.top).drop (i + 1)) (d.drop (i + 1)) (e.drop (i + 1))) = P := hPi
      generalize hFW : wantR d tp i dl (false, (x : Int)) = FW at hPi'
      have HFW : Put (_ = FW) := ⟨hFW⟩
      have HPi : Put (_ = P) := ⟨hPi'⟩
      clear hcv hPi hPi' hFW
      go_wp2_with fail
      generalize wr = wi at *
      go_loopg [10, 11, 12] dl.length (fun gk wv fv kv wr => ∃ (k : Nat) (fr : Bool) (wa : Int), kv = .int .i64 k ∧ fv = .bool fr ∧ wv = .int .i64 wa ∧ k + gk = dl.length ∧ Below wi.heap.size wi wr ∧ wantR d tp i (dl.drop k) (fr, wa) = FW ∧ 0 ≤ wa ∧ wa ≤ 3)
      case atStart =>
        have e48 : (48 : Int) + (x : Int) - 48 = (x : Int) := by omega
        exact ⟨0, false, _, rfl, rfl, rfl, by omega, Below.refl _ _, by rw [e48]; exact HFW.out, by omega, by omega⟩
      case round =>
        clear HFW
        obtain ⟨k, fr, wa, rfl, rfl, rfl, hkk, hBk, hFk, hw0, hw3⟩ := hrel
        have hBq : Below w.heap.size w wr := hBw.trans (hBk.mono (by omega))
        have hsk := hBk.size
        have c0' := (hBk.cell (p := ⟨w.heap.size, 0, none⟩) (by show w.heap.size < wi.heap.size; omega)).trans c0
        have y1' := (hBk.cell (p := ⟨w.heap.size + 1, 1, none⟩) (by show w.heap.size + 1 < wi.heap.size; omega)).trans y1
        have v0' := (hBq.cell (p := ⟨gv, i * 3, none⟩) hgv2).trans v0
        by_cases hk : k < dl.length
        · have hk' : (k : Int) < (dl.length : Int) := by omega
          have k0 : (0 : Int) ≤ (k : Int) := by omega
          obtain ⟨g2, rfl⟩ : ∃ g2, gk = g2 + 1 := ⟨gk - 1, by omega⟩
          obtain ⟨gd, rfl, hgd1, hgd2, hgd3, hcd⟩ := row_at D7.len HR.out (by omega)
          have q0 := (hBq.cell (p := ⟨gd, k * 7 + 0, none⟩) hgd2).trans (hcd k hk 0 (by omega))
          have q2 := (hBq.cell (p := ⟨gd, k * 7 + 2, none⟩) hgd2).trans (hcd k hk 2 (by omega))
          have q3 := (hBq.cell (p := ⟨gd, k * 7 + 3, none⟩) hgd2).trans (hcd k hk 3 (by omega))
          have q4 := (hBq.cell (p := ⟨gd, k * 7 + 4, none⟩) hgd2).trans (hcd k hk 4 (by omega))
          have q5 := (hBq.cell (p := ⟨gd, k * 7 + 5, none⟩) hgd2).trans (hcd k hk 5 (by omega))
          have q6 := (hBq.cell (p := ⟨gd, k * 7 + 6, none⟩) hgd2).trans (hcd k hk 6 (by omega))
          have hgk := HG.out _ (List.getElem_mem hk)
          have hFk' : wantR d tp i (dl[k] :: dl.drop (k + 1)) (fr, wa) = FW := by rw [← List.drop_eq_getElem_cons hk]; exact hFk
          clear hFk
          generalize dl[k] = c at q0 q2 q3 q4 q5 q6 hgk hFk'
          simp only [D7.cells, List.getElem?_cons_zero, List.getElem?_cons_succ, Nat.add_zero] at q0 q2 q3 q4 q5 q6
          simp only [wantR] at hFk'
          obtain ⟨hg1, hg2, hg3, hg4, hg5⟩ := hgk
          have hwl := wor_le (t0 := c.t0) HD.out hg2 hg3
          have hcall := HWO.out c hg1
          generalize wor c.t0 c.t1 d = wo at hcall hwl hFk'
          by_cases hcv : c.v = (i : Int)
          · rw [if_pos hcv] at hFk'
            have hcv' : (c.v == (i : Int)) = true := by simpa using hcv
            have HF : Put (_ = FW) := ⟨hFk'⟩
            have hne : (((tp : Int) + 1) == 0) = false := by simp; omega
            have hm0 : 0 ≤ (wo + c.more) % ((tp : Int) + 1) := Int.emod_nonneg _ (by omega)
            have hm3 : (wo + c.more) % ((tp : Int) + 1) ≤ 3 := by have := Int.emod_lt_of_pos (wo + c.more) (show (0 : Int) < (tp : Int) + 1 by omega); omega
            have hmt : Int.tmod (wo + c.more) ((tp : Int) + 1) = (wo + c.more) % ((tp : Int) + 1) := Int.tmod_eq_emod_of_nonneg (by omega)
            have HMT : Put (_ = _) := ⟨hmt⟩
            have hne' : ¬ ((tp : Int) + 1 = 0) := by omega
            have hw1 : IntKind.i64.wrap ((tp : Int) + 1) = (tp : Int) + 1 := by simp [IntKind.wrap, IntKind.signed, IntKind.bits]; omega
            have hw2 : IntKind.i64.wrap (wo + c.more) = wo + c.more := by simp [IntKind.wrap, IntKind.signed, IntKind.bits]; omega
            have z1 : w.heap.size < wr.heap.size := by omega
            have z2 : w.heap.size + 1 < wr.heap.size := by omega
            have z3 : gd < wr.heap.size := by omega
            have z4 : gv < wr.heap.size := by omega
            clear hFk' hcd hcv hmt
            go_wp2_with fail
            go_region_held3 (fun w' => ∀ b o, b < wr.heap.size → w'.cell? ⟨b, o, none⟩ = wr.cell? ⟨b, o, none⟩)
              (first
                | exact fun b o hb => (hbel.cell (p := ⟨b, o, none⟩) hb)
                | exact fun _ _ _ => rfl
                | go_keep)
              ((go_at_call 74; refine (hcall _).mono ?_; rintro e w5 ⟨rfl, hbel⟩))
            have hbel' : Below wr.heap.size wr w5 := ⟨hbel.os, hbel.tape, hbel.output, hbel.size, hbel.block⟩
            have hB5 : Below wi.heap.size wi w5 := hBk.trans (hbel'.mono hsk)
            clear hbel hbel' hcall q0 q2 q3 q4 q5 q6 hBk
            go_wp2
            go_roundg g2
            case measure => exact Nat.lt_succ_self _
            case rel => exact ⟨k + 1, c.any, _, by go_num, rfl, rfl, by omega, hB5, by rw [HMT.out]; exact HF.out, by rw [HMT.out]; exact hm0, by rw [HMT.out]; exact hm3⟩
          · rw [if_neg hcv] at hFk'
            have hcv' : (c.v == (i : Int)) = false := by simpa using hcv
            have HF : Put (_ = FW) := ⟨hFk'⟩
            clear hFk' hcd hcv hcall
            go_wp2
            go_roundg g2
            case measure => exact Nat.lt_succ_self _
            case rel => exact ⟨k + 1, fr, wa, by go_num, rfl, rfl, by omega, hBk, HF.out, hw0, hw3⟩
        · obtain rfl : k = dl.length := by omega
          have hk' : ¬ ((dl.length : Int) < (dl.length : Int)) := by omega
          rw [List.drop_length] at hFk
          have hFk' : (fr, wa) = FW := hFk
          subst hFk'
          have hPj := HPi.out
          simp only at hPj
          have hBn : Below w1.heap.size w1 wr := hBr.trans (hBk.mono hsr)
          clear hFk HPi
          cases fr with
          | true =>
            have HPj : Put (_ = P) := ⟨(by simpa using hPj : makesF dl d (i + 1) ((vs.map V3.top).drop (i + 1)) (d.drop (i + 1)) (e.drop (i + 1)) = P)⟩
            clear hPj
            go_wp2
            go_roundg g'
            case measure => exact Nat.lt_succ_self _
            case rel => exact ⟨i + 1, by go_num, by omega, hBn, HPj.out⟩
          | false =>
            by_cases hwy : wa = (y : Int)
            · have hb : (wa == (y : Int)) = true := by simpa using hwy
              rw [hb] at hPj
              have HPj : Put (_ = P) := ⟨(by simpa using hPj : makesF dl d (i + 1) ((vs.map V3.top).drop (i + 1)) (d.drop (i + 1)) (e.drop (i + 1)) = P)⟩
              have hcm : (wa == 48 + (y : Int) - 48) = true := by simp; omega
              clear hPj hb hwy
              go_wp2
              go_roundg g'
              case measure => exact Nat.lt_succ_self _
              case rel => exact ⟨i + 1, by go_num, by omega, hBn, HPj.out⟩
            · have hb : (wa == (y : Int)) = false := by simpa using hwy
              rw [hb] at hPj
              have hPj' : false = P := by simpa using hPj
              subst hPj'
              have hcm : (wa == 48 + (y : Int) - 48) = false := by simp; omega
              clear hPj hb hwy
              go_wp2
              go_ret
              exact ⟨rfl, hBq⟩
    · obtain rfl : i = vs.length := by omega
      have hlt' : ¬ ((vs.length : Int) < (vs.length : Int)) := by omega
      rw [List.drop_of_length_le (by simp)] at hPi
      have hPn : true = P := by rw [← hPi]; simp [makesF]
      subst hPn
      clear hPi
      go_wp2
      go_ret
      exact ⟨rfl, hBw⟩
end
end Go.Proofs.YtkbmolodljenjaaDoor

namespace Go.Proofs.YtkbmolodljenjaaDoor
open Go.RowKit

def folF (tops : List Nat) (d e : List Nat) : List R2 → Bool → Bool
  | [], stuck => stuck && ((txtL d).toList == (txtL e).toList)
  | r :: rs, stuck => if mayC r.cl d then (makesF r.dl d 0 tops d e || folF tops d e rs false) else folF tops d e rs stuck
/-- A rule that a good model has, of n variables. -/
def R2.Good (n : Nat) (r : R2) : Prop := (∀ c ∈ r.cl, c.a0 < (n : Int) ∧ c.b0 < (n : Int)) ∧ ∀ x ∈ r.dl, D7.Good n x
end Go.Proofs.YtkbmolodljenjaaDoor
namespace Go.RowKit
open Go.Proofs.YtkbmolodljenjaaDoor
theorem Below.okR {w w' : World} (h : Below w.heap.size w w') {base : Nat} {v : R2} (ho : R2.Ok w base v) : R2.Ok w' base v := ⟨h.ownsRow' ho.1, h.ownsRow' ho.2⟩
end Go.RowKit
namespace Go.Proofs.YtkbmolodljenjaaDoor
open Go.RowKit

section
variable {w : World}
set_option maxRecDepth 100000 in
set_option maxHeartbeats 3200000 in
theorem follows_any (ao aor : Option Addr) (cap capr base : Nat) (vs : List V3) (rs : List R2) (d e : List Nat) (h3 : vs.length ≤ 3) (h8 : rs.length ≤ 200) (ht : ∀ v ∈ vs, v.top ≤ 3) (hdl : d.length = vs.length) (hel : e.length = vs.length) (hd : ∀ x ∈ d, x ≤ 3) (he : ∀ x ∈ e, x ≤ 3)
    (hg : ∀ x ∈ rs, R2.Good vs.length x)
    (hv : w.ownsRow base 97 3 (.slice ao vs.length cap) vs.length (vs.flatMap V3.cells)) (hr : w.ownsRow base 104 2 (.slice aor rs.length capr) rs.length (rs.flatMap R2.cells)) (hOr : ∀ x ∈ rs, R2.Ok w base x) :
    Calls Tryd.prog 38 #[.agg #[.slice ao vs.length cap, .slice aor rs.length capr], .string (txtL d), .string (txtL e)] w fun z w' => z = .returned (.bool (folF (vs.map V3.top) d e rs true)) ∧ Below w.heap.size w w' := by
  have HR : Put (w.ownsRow base 104 2 (.slice aor rs.length capr) rs.length (rs.flatMap R2.cells)) := ⟨hr⟩
  have HOR : Put (∀ x ∈ rs, R2.Ok w base x) := ⟨hOr⟩
  have HM : Put (∀ x ∈ rs, ∀ w', Below w.heap.size w w' → Calls Tryd.prog 55 #[.agg #[x.vi, x.vd], .string (txtL d)] w' fun z w'' => z = .returned (.bool (mayC x.cl d)) ∧ Below w'.heap.size w' w'') := ⟨fun x hx w' hb => may_any base x d hd (own_len (hOr x hx).1) (by rw [hdl]; exact (hg x hx).1) (hb.okR (hOr x hx))⟩
  have HK : Put (∀ x ∈ rs, ∀ w', Below w.heap.size w w' → Calls Tryd.prog 56 #[.agg #[.slice ao vs.length cap, .slice aor rs.length capr], .agg #[x.vi, x.vd], .string (txtL d), .string (txtL e)] w' fun z w'' => z = .returned (.bool (makesF x.dl d 0 (vs.map V3.top) d e)) ∧ Below w'.heap.size w' w'') := ⟨fun x hx w' hb => makes_any ao aor cap rs.length capr base vs x d e h3 ht hdl hel hd he (own_len (hOr x hx).2) (by rw [hdl]; exact (hg x hx).2) (hb.ownsRow' hv) (hb.okR (hOr x hx))⟩
  generalize hP : folF (vs.map V3.top) d e rs true = P
  have HP : Put (_ = P) := ⟨hP⟩
  have hA := heap_alloc_new w (.cells #[.slice ao vs.length cap, .slice aor rs.length capr] 53)
  have hBel : Below w.heap.size w (w.alloc (.cells #[.slice ao vs.length cap, .slice aor rs.length capr] 53)) := (Below.refl _ _).alloc (Nat.le_refl _) _
  have hsz : (w.alloc (.cells #[.slice ao vs.length cap, .slice aor rs.length capr] 53)).heap.size = w.heap.size + 1 := by simp
  obtain ⟨n0, n1, nf⟩ := cell2 hA
  have HE : Put (∀ stuck, folF (vs.map V3.top) d e [] stuck = (stuck && ((txtL d).toList == (txtL e).toList))) := ⟨fun _ => rfl⟩
  have HS : Put (∀ r l stuck, folF (vs.map V3.top) d e (r :: l) stuck = if mayC r.cl d then (makesF r.dl d 0 (vs.map V3.top) d e || folF (vs.map V3.top) d e l false) else folF (vs.map V3.top) d e l stuck) := ⟨fun _ _ _ => rfl⟩
  generalize txtL d = sd at *
  generalize txtL e = se at *
  clear hr hg hd he ht hP hA nf hv hOr
  go_enter Tryd.func38, Tryd.ntmps38
  go_wp2_with fail
  generalize w.alloc (.cells #[.slice ao vs.length cap, .slice aor rs.length capr] 53) = w1 at *
  go_loopg [7, 8] rs.length (fun gk sv iv wr => ∃ (i : Nat) (st : Bool), iv = .int .i64 i ∧ sv = .bool st ∧ i + gk = rs.length ∧ Below w1.heap.size w1 wr ∧ folF (vs.map V3.top) d e (rs.drop i) st = P)
  case atStart => exact ⟨0, true, rfl, rfl, by omega, Below.refl _ _, HP.out⟩
  case round =>
    clear HP
    obtain ⟨i, st, rfl, rfl, hik, hBr, hPi⟩ := hrel
    have c0 := (hBr.cell (p := ⟨w.heap.size, 0, none⟩) (by show w.heap.size < w1.heap.size; omega)).trans n0
    have c1 := (hBr.cell (p := ⟨w.heap.size, 1, none⟩) (by show w.heap.size < w1.heap.size; omega)).trans n1
    have hsr := hBr.size
    have hBw : Below w.heap.size w wr := hBel.trans (hBr.mono (by omega))
    by_cases hlt : i < rs.length
    · have hlt' : (i : Int) < (rs.length : Int) := by omega
      have i0 : (0 : Int) ≤ (i : Int) := by omega
      obtain ⟨g', rfl⟩ : ∃ g', gk = g' + 1 := ⟨gk - 1, by omega⟩
      obtain ⟨gr, rfl, hgr1, hgr2, hgr3, hcr⟩ := row_at R2.len HR.out (by omega)
      have q0 := (hBw.cell (p := ⟨gr, i * 2 + 0, none⟩) hgr2).trans (hcr i hlt 0 (by omega))
      have q1 := (hBw.cell (p := ⟨gr, i * 2 + 1, none⟩) hgr2).trans (hcr i hlt 1 (by omega))
      have hmem := List.getElem_mem hlt
      rw [List.drop_eq_getElem_cons hlt, HS.out] at hPi
      have hmay := HM.out _ hmem
      have hmak := HK.out _ hmem
      generalize rs[i] = x at q0 q1 hPi hmay hmak
      simp only [R2.cells, R2.vi, R2.vd, List.getElem?_cons_zero, List.getElem?_cons_succ, Nat.add_zero] at q0 q1 hmay hmak
      generalize mayC x.cl d = bm at hmay hPi
      generalize makesF x.dl d 0 (vs.map V3.top) d e = bk at hmak hPi
      clear hcr hmem
      go_wp2_with fail
      refine (hmay wr hBw).mono ?_
      rintro z w3 ⟨rfl, hb3⟩
      have hB3 : Below w1.heap.size w1 w3 := hBr.trans (hb3.mono hsr)
      have hBw3 : Below w.heap.size w w3 := hBw.trans (hb3.mono (by omega))
      have hs3 := hB3.size
      cases bm with
      | false =>
        have HPi : Put (folF (vs.map V3.top) d e (rs.drop (i + 1)) st = P) := ⟨by simpa using hPi⟩
        clear hPi hmay hmak q0 q1 hb3
        go_wp2
        go_roundg g'
        case measure => exact Nat.lt_succ_self _
        case rel => exact ⟨i + 1, st, by go_num, rfl, by omega, hB3, HPi.out⟩
      | true =>
        have HPi : Put ((bk || folF (vs.map V3.top) d e (rs.drop (i + 1)) false) = P) := ⟨by simpa using hPi⟩
        have q0' := (hb3.cell (p := ⟨gr, i * 2, none⟩) (by show gr < wr.heap.size; omega)).trans q0
        have q1' := (hb3.cell (p := ⟨gr, i * 2 + 1, none⟩) (by show gr < wr.heap.size; omega)).trans q1
        have d0 := (hb3.cell (p := ⟨w.heap.size, 0, none⟩) (by show w.heap.size < wr.heap.size; omega)).trans c0
        have d1 := (hb3.cell (p := ⟨w.heap.size, 1, none⟩) (by show w.heap.size < wr.heap.size; omega)).trans c1
        have hmak3 := hmak w3.drew ⟨hBw3.os, hBw3.tape, hBw3.output, hBw3.size, hBw3.block⟩
        clear hPi hmay hmak q0 q1 hb3 c0 c1
        go_wp2_with fail
        have z1 : w.heap.size < w3.heap.size := by omega
        have z2 : gr < w3.heap.size := by omega
        go_region_held3 (fun w' => ∀ b o, b < w3.heap.size → w'.cell? ⟨b, o, none⟩ = w3.cell? ⟨b, o, none⟩)
          (first
            | exact fun b o hb => (hbel.cell (p := ⟨b, o, none⟩) hb)
            | exact fun _ _ _ => rfl
            | go_keep)
          ((go_at_call 56; refine hmak3.mono ?_; rintro z w5 ⟨rfl, hbel⟩))
        have hbel' : Below w3.heap.size w3 w5 := ⟨hbel.os, hbel.tape, hbel.output, hbel.size, hbel.block⟩
        have hB5 : Below w1.heap.size w1 w5 := hB3.trans (hbel'.mono hs3)
        clear hbel hbel' hmak3 q0' q1' d0 d1
        cases bk with
        | true =>
          have hP' : true = P := by have := HPi.out; simpa using this
          subst hP'
          clear HPi
          go_wp2
          go_ret
          exact ⟨rfl, hBel.trans (hB5.mono (by omega))⟩
        | false =>
          have HPj : Put (folF (vs.map V3.top) d e (rs.drop (i + 1)) false = P) := ⟨by have := HPi.out; simpa using this⟩
          clear HPi
          go_wp2
          go_roundg g'
          case measure => exact Nat.lt_succ_self _
          case rel => exact ⟨i + 1, false, by go_num, rfl, by omega, hB5, HPj.out⟩
    · obtain rfl : i = rs.length := by omega
      have hlt' : ¬ ((rs.length : Int) < (rs.length : Int)) := by omega
      rw [List.drop_length, HE.out] at hPi
      cases st with
      | false =>
        have hP' : false = P := by simpa using hPi
        subst hP'
        clear hPi
        go_wp2
        go_ret
        exact ⟨rfl, hBw⟩
      | true =>
        have hP' : (sd.toList == se.toList) = P := by simpa using hPi
        subst hP'
        clear hPi
        go_wp2
        go_ret
        exact ⟨rfl, hBw⟩
end
end Go.Proofs.YtkbmolodljenjaaDoor

/- First states: the two lists are the same. Pure. Our own text. -/
namespace Go.Proofs.YtkbmolodljenjaaDoor

theorem isFP_iff : ∀ (ls : List (List Nat)) (d : List Nat), d.length = ls.length → (isFP ls d = true ↔ ∀ k (h : k < ls.length) (h' : k < d.length), ls[k].contains d[k] = true)
  | [], _, _ => by simp [isFP]
  | _ :: _, [], h => by simp at h
  | l :: ls, x :: d, h => by
    have ih := isFP_iff ls d (by simpa using h)
    show (l.contains x && isFP ls d) = true ↔ _
    rw [Bool.and_eq_true, ih]
    constructor
    · rintro ⟨h1, h2⟩ k hk hk'
      cases k with
      | zero => exact h1
      | succ k => exact h2 k (by simpa using hk) (by simpa using hk')
    · intro h
      exact ⟨h 0 (by simp) (by simp), fun k hk hk' => h (k + 1) (by simpa using hk) (by simpa using hk')⟩
theorem valid_iff (tops : List Nat) (h3 : tops.length ≤ 3) (x : Nat) : valid tops x = true ↔ (∀ k (h : k < tops.length), dig x k ≤ tops[k]) ∧ ∀ k, tops.length ≤ k → k < 3 → dig x k = 0 := by
  unfold valid
  rw [List.all_eq_true]
  constructor
  · intro h
    refine ⟨fun k hk => ?_, fun k hk h3 => ?_⟩
    · have := h k (by simp; omega)
      simpa [List.getElem?_eq_getElem hk] using this
    · have := h k (by simp; omega)
      simpa [List.getElem?_eq_none hk] using this
  · rintro ⟨h1, h2⟩ k hk
    simp at hk
    by_cases hl : k < tops.length
    · simp [List.getElem?_eq_getElem hl, h1 k hl]
    · simp [List.getElem?_eq_none (Nat.le_of_not_lt hl), h2 k (by omega) hk]
theorem digs_get (n x k : Nat) (h : k < (digs n x).length) : (digs n x)[k] = dig x k := by simp [digs]

theorem firsts_same (tops : List Nat) (ls : List (List Nat)) (f : Nat → Nat) (h1 : 1 ≤ tops.length) (h3 : tops.length ≤ 3) (ht : ∀ t ∈ tops, 1 ≤ t ∧ t ≤ 3) (hl : ls.length = tops.length)
    (hf : ∀ k (h : k < ls.length), ∀ v, v < 4 → ((f k).testBit v = true ↔ v ∈ ls[k])) (hle : ∀ k (h : k < ls.length) (h' : k < tops.length), ∀ v ∈ ls[k], v ≤ tops[k]) :
    (mem (frs f tops.length)).map (fun i => digs tops.length i.val) = (allL tops).filter (isFP ls) := by
  apply lists_same tops h1 h3 ht
  intro x hx
  rw [Bool.eq_iff_iff, Bool.and_eq_true, frs_bit f tops.length x h3 hx, valid_iff tops h3 x, isFP_iff ls _ (by simp [digs, hl])]
  constructor
  · rintro ⟨a, b⟩
    refine ⟨⟨fun k hk => ?_, b⟩, fun k hk hk' => ?_⟩
    · exact hle k (by omega) hk _ ((hf k (by omega) _ (dig_lt _ _)).1 (a k hk))
    · rw [digs_get, List.contains_iff_mem]
      exact (hf k hk _ (dig_lt _ _)).1 (a k (by omega))
  · rintro ⟨⟨a, b⟩, c⟩
    refine ⟨fun j hj => ?_, b⟩
    have := c j (by omega) (by simp [digs]; exact hj)
    rw [digs_get, List.contains_iff_mem] at this
    exact (hf j (by omega) _ (dig_lt _ _)).2 this
end Go.Proofs.YtkbmolodljenjaaDoor

namespace Go.Proofs.YtkbmolodljenjaaDoor

theorem pow_bit (x y : Nat) : (2 ^ x).testBit y = true ↔ x = y := by rw [Nat.testBit_two_pow]; simp

/-- Changes, one behind the other, of different variables. -/
def chF (ds : List (Nat × Nat)) (m : Nat) : Nat := ds.foldl (fun made d => spr made d.1 d.2) m
theorem chF_bit : ∀ (ds : List (Nat × Nat)) (m y : Nat), y < 64 → (∀ d ∈ ds, d.1 < 3) → (ds.map Prod.fst).Nodup →
    ((chF ds m).testBit y = true ↔ (∀ d ∈ ds, d.2.testBit (dig y d.1) = true) ∧ ∃ x, x < 64 ∧ m.testBit x = true ∧ ∀ j, j < 3 → j ∉ ds.map Prod.fst → dig x j = dig y j)
  | [], m, y, hy, _, _ => by
    show m.testBit y = true ↔ _
    constructor
    · intro h; exact ⟨by simp, y, hy, h, fun _ _ _ => rfl⟩
    · rintro ⟨_, x, hx, h, hd⟩
      have : x = y := dig_ext hx hy (fun j hj => hd j hj (by simp))
      rw [← this]; exact h
  | d :: ds, m, y, hy, h3, hn => by
    have hd3 := h3 d (by simp)
    have hn' : d.1 ∉ ds.map Prod.fst ∧ (ds.map Prod.fst).Nodup := by simpa using hn
    have ih := chF_bit ds (spr m d.1 d.2) y hy (fun e he => h3 e (by simp [he])) hn'.2
    show (chF ds (spr m d.1 d.2)).testBit y = true ↔ _
    rw [ih]
    constructor
    · rintro ⟨h1, x, hx, hs, hd⟩
      obtain ⟨h4, z, hz, hm, hdz⟩ := (spr_bit hd3 hx).1 hs
      refine ⟨fun e he => ?_, z, hz, hm, fun j hj hnj => ?_⟩
      · rcases List.mem_cons.1 he with rfl | he
        · rw [← hd _ hd3 hn'.1]; exact h4
        · exact h1 e he
      · have hne : j ≠ d.1 := fun e => hnj (by simp [e])
        have hnj' : j ∉ ds.map Prod.fst := fun e => hnj (by rw [List.map_cons]; exact List.mem_cons_of_mem _ e)
        rw [hdz j hj hne]; exact hd j hj hnj'
    · rintro ⟨h1, z, hz, hm, hd⟩
      refine ⟨fun e he => h1 e (by simp [he]), stW z d.1 (dig y d.1), stW_lt hz hd3 (dig_lt _ _), ?_, fun j hj hnj => ?_⟩
      · refine (spr_bit hd3 (stW_lt hz hd3 (dig_lt _ _))).2 ⟨?_, z, hz, hm, fun j hj hne => ?_⟩
        · rw [dig_stW hz hd3 (dig_lt _ _) hd3, if_pos rfl]; exact h1 d (by simp)
        · rw [dig_stW hz hd3 (dig_lt _ _) hj, if_neg hne]
      · rw [dig_stW hz hd3 (dig_lt _ _) hj]
        by_cases e : j = d.1
        · rw [if_pos e, e]
        · rw [if_neg e]
          refine hd j hj (fun h => ?_)
          rw [List.map_cons, List.mem_cons] at h
          rcases h with h | h
          · exact e h
          · exact hnj h
/-- They leave something. -/
theorem chF_some : ∀ (ds : List (Nat × Nat)) (m : Nat), (∀ d ∈ ds, d.1 < 3) → (∀ d ∈ ds, ∃ v, v < 4 ∧ d.2.testBit v = true) → (∃ x, x < 64 ∧ m.testBit x = true) → ∃ y, y < 64 ∧ (chF ds m).testBit y = true
  | [], _, _, _, h => h
  | d :: ds, m, h3, hv, ⟨x, hx, hm⟩ => by
    obtain ⟨v, hv4, hvb⟩ := hv d (by simp)
    have hd3 := h3 d (by simp)
    refine chF_some ds (spr m d.1 d.2) (fun e he => h3 e (by simp [he])) (fun e he => hv e (by simp [he])) ⟨stW x d.1 v, stW_lt hx hd3 hv4, ?_⟩
    refine (spr_bit hd3 (stW_lt hx hd3 hv4)).2 ⟨by rw [dig_stW hx hd3 hv4 hd3, if_pos rfl]; exact hvb, x, hx, hm, fun j hj hne => by rw [dig_stW hx hd3 hv4 hj, if_neg hne]⟩
theorem chF_lt : ∀ (ds : List (Nat × Nat)) (m : Nat), (∀ d ∈ ds, d.1 < 3) → m < 2 ^ 64 → chF ds m < 2 ^ 64
  | [], _, _, h => h
  | d :: ds, m, h3, _ => chF_lt ds (spr m d.1 d.2) (fun e he => h3 e (by simp [he])) (spr_lt (h3 d (by simp)))

/-! What the text says, of a state's number. -/
def tmV (t : Tm) (x : Nat) : Nat := if t.1 < 0 then t.2.1.toNat else dig x t.1.toNat
def cmpP (op : Nat) (a b : Nat) : Bool := if op = 61 then a == b else if op = 35 then a != b else decide (a < b)
def cdP (s : ByteArray) (c : Tm × Tm) (x : Nat) : Bool := cmpP (byteAt s (c.1.2.2.toNat + 1)) (tmV c.1 x) (tmV c.2 x)
def toP (s : ByteArray) (d : Chg) (count x : Nat) : Nat := match d.2.2.1 with
  | true => 2 ^ count - 1
  | false => 2 ^ ((tmV d.2.2.2 x + (moreAt s false d.2.2.2.2.2).toNat) % count)
def dsP (s : ByteArray) (G : Nat → Nat) (l : List Chg) (x : Nat) : List (Nat × Nat) := l.map (fun d => (d.1.toNat, toP s d (G d.1.toNat + 1) x))
def ruP (s : ByteArray) (G : Nat → Nat) (r : RA) (x : Nat) : Nat := if r.1.all (fun c => cdP s c x) then chF (dsP s G r.2 x) (2 ^ x) else 0
/-- A term of a good model of n variables. -/
def TmOk (n : Nat) (t : Tm) : Prop := t.1 < (n : Int) ∧ 0 ≤ t.2.1 ∧ t.2.1 ≤ 3
theorem wor_tmV {n x : Nat} {t : Tm} (h : TmOk n t) : wor t.1 t.2.1 (digs n x) = (tmV t x : Int) := by
  obtain ⟨h1, h2, _⟩ := h
  unfold wor tmV
  by_cases h0 : t.1 < 0
  · rw [if_pos h0, if_pos h0]; omega
  · rw [if_neg h0, if_neg h0]
    have hk : t.1.toNat < (digs n x).length := by rw [digs_length]; omega
    rw [List.getD_eq_getElem?_getD, List.getElem?_eq_getElem hk]
    simp [digs_get]
theorem cmpP_same {op A B : Int} {o a b : Nat} (ho : op = (o : Int)) (ha : A = (a : Int)) (hb : B = (b : Int)) : (if op = 61 then A == B else if op = 35 then A != B else decide (A < B)) = cmpP o a b := by
  subst ho ha hb
  unfold cmpP
  by_cases h1 : o = 61
  · rw [if_pos (by omega), if_pos h1, Bool.eq_iff_iff]; simp; omega
  · rw [if_neg (by omega), if_neg h1]
    by_cases h2 : o = 35
    · rw [if_pos (by omega), if_pos h2, Bool.eq_iff_iff]; simp; omega
    · rw [if_neg (by omega), if_neg h2, Bool.eq_iff_iff]; simp
theorem so_same {s : ByteArray} {n x : Nat} {c : C7} (ht : C7.Tied s c) (ha : TmOk n c.ast.1) (hb : TmOk n c.ast.2) : soC c (digs n x) = cdP s c.ast x :=
  cmpP_same ht (wor_tmV (x := x) ha) (wor_tmV (x := x) hb)

/-! Makes. -/
theorem wantR_none (d : List Nat) (top v : Nat) : ∀ (dl : List D7) (p : Bool × Int), (∀ c ∈ dl, c.v ≠ (v : Int)) → wantR d top v dl p = p
  | [], _, _ => rfl
  | c :: dl, p, h => by
    unfold wantR
    rw [if_neg (h c (by simp))]
    exact wantR_none d top v dl p (fun e he => h e (by simp [he]))
theorem wantR_mem (d : List Nat) (top v : Nat) : ∀ (dl : List D7) (p : Bool × Int) (c : D7), (dl.map D7.v).Nodup → c ∈ dl → c.v = (v : Int) → wantR d top v dl p = (c.any, (wor c.t0 c.t1 d + c.more) % ((top : Int) + 1))
  | [], _, _, _, h, _ => by simp at h
  | e :: dl, p, c, hn, hc, hv => by
    have hn' : e.v ∉ dl.map D7.v ∧ (dl.map D7.v).Nodup := by simpa using hn
    unfold wantR
    rcases List.mem_cons.1 hc with rfl | hc
    · rw [if_pos hv]
      exact wantR_none d top v dl _ (fun e he hev => hn'.1 (by rw [hv, ← hev]; exact List.mem_map_of_mem he))
    · exact wantR_mem d top v dl _ c hn'.2 hc hv
theorem makesF_iff (dl : List D7) (d0 : List Nat) : ∀ (tops d e : List Nat) (i : Nat), d.length = tops.length → e.length = tops.length →
    (makesF dl d0 i tops d e = true ↔ ∀ k (h : k < tops.length) (h1 : k < d.length) (h2 : k < e.length), (wantR d0 tops[k] (i + k) dl (false, (d[k] : Int))).1 = true ∨ (wantR d0 tops[k] (i + k) dl (false, (d[k] : Int))).2 = (e[k] : Int))
  | [], _, _, _, _, _ => by simp [makesF]
  | _ :: _, [], _, _, h, _ => by simp at h
  | _ :: _, _ :: _, [], _, _, h => by simp at h
  | t :: tops, x :: d, y :: e, i, h1, h2 => by
    have ih := makesF_iff dl d0 tops d e (i + 1) (by simpa using h1) (by simpa using h2)
    unfold makesF
    rw [Bool.and_eq_true, ih, Bool.or_eq_true, beq_iff_eq]
    constructor
    · rintro ⟨ha, hb⟩ k hk hk1 hk2
      cases k with
      | zero => exact ha
      | succ k =>
        have := hb k (by simpa using hk) (by simpa using hk1) (by simpa using hk2)
        have e1 : i + 1 + k = i + (k + 1) := by omega
        rw [e1] at this
        exact this
    · intro h
      refine ⟨h 0 (by simp) (by simp) (by simp), fun k hk hk1 hk2 => ?_⟩
      have := h (k + 1) (by simpa using hk) (by simpa using hk1) (by simpa using hk2)
      have e1 : i + 1 + k = i + (k + 1) := by omega
      rw [e1]
      exact this
/-- A rule of a good model of n variables, tied to its text. -/
structure RuleOk (s : ByteArray) (n : Nat) (r : R2) : Prop where
  tied : R2.Tied s r
  conds : ∀ c ∈ r.cl, TmOk n c.ast.1 ∧ TmOk n c.ast.2
  chgs : ∀ c ∈ r.dl, 0 ≤ c.v ∧ c.v < (n : Int) ∧ TmOk n (c.t0, c.t1, c.t2) ∧ 0 ≤ c.more ∧ c.more ≤ 3
  once : (r.dl.map D7.v).Nodup
theorem toP_bit {s : ByteArray} {n x : Nat} {c : D7} (ht : D7.Tied s c) (hm : 0 ≤ c.more) (hk : TmOk n (c.t0, c.t1, c.t2)) (top v : Nat) : (toP s c.ast (top + 1) x).testBit v = true ↔ (if c.any = true then v ≤ top else (wor c.t0 c.t1 (digs n x) + c.more) % ((top : Int) + 1) = (v : Int)) := by
  have e1 := wor_tmV (x := x) hk
  simp only at e1
  obtain ⟨cv, cat, t0, t1, t2, more, any⟩ := c
  simp only [D7.Tied] at ht
  simp only [D7.ast, toP] at *
  cases any with
  | true =>
    simp only [if_true]
    rw [Nat.testBit_two_pow_sub_one]
    simp; omega
  | false =>
    rw [pow_bit, e1]
    simp only [Bool.false_eq_true, if_false]
    rw [← ht]
    constructor
    · intro h; rw [← h]
      have : more = (more.toNat : Int) := by omega
      rw [this]; simp
    · intro h
      have h5 : more = (more.toNat : Int) := by omega
      rw [h5] at h
      have : (((tmV (t0, t1, t2) x + more.toNat) % (top + 1) : Nat) : Int) = (v : Int) := by rw [← h]; simp
      omega
theorem rule_bit {s : ByteArray} {tops : List Nat} {G : Nat → Nat} {r : R2} (h3 : tops.length ≤ 3) (hG : ∀ k (h : k < tops.length), G k = tops[k]) (ho : RuleOk s tops.length r) {x y : Nat} (hx : x < 64) (hy : y < 64) (hvx : valid tops x = true) :
    (chF (dsP s G (r.dl.map D7.ast) x) (2 ^ x)).testBit y = true ↔ valid tops y = true ∧ makesF r.dl (digs tops.length x) 0 tops (digs tops.length x) (digs tops.length y) = true := by
  obtain ⟨hx1, hx2⟩ := (valid_iff tops h3 x).1 hvx
  have hkeys : (dsP s G (r.dl.map D7.ast) x).map Prod.fst = (r.dl.map D7.v).map Int.toNat := by simp [dsP, D7.ast, Function.comp_def]
  have hnd : ((dsP s G (r.dl.map D7.ast) x).map Prod.fst).Nodup := by
    rw [hkeys, List.map_map]
    have h1 := ho.once
    have h2 := ho.chgs
    rw [List.nodup_iff_pairwise_ne, List.pairwise_map] at *
    refine h1.imp_of_mem (fun {a b} ha hb hne e => hne ?_)
    have := (h2 a ha).1
    have := (h2 b hb).1
    simp only [Function.comp] at e
    omega
  have hk3 : ∀ d ∈ dsP s G (r.dl.map D7.ast) x, d.1 < 3 := by
    intro d hd
    simp [dsP] at hd
    obtain ⟨c, hc, rfl⟩ := hd
    have := (ho.chgs c hc).2.1
    have := (ho.chgs c hc).1
    show c.v.toNat < 3
    omega
  have hmem : ∀ j : Nat, (j ∈ (dsP s G (r.dl.map D7.ast) x).map Prod.fst ↔ ∃ c ∈ r.dl, c.v = (j : Int)) := by
    intro j
    rw [hkeys, List.map_map, List.mem_map]
    constructor
    · rintro ⟨c, hc, h⟩
      have := (ho.chgs c hc).1
      exact ⟨c, hc, by simp only [Function.comp] at h; omega⟩
    · rintro ⟨c, hc, h⟩
      exact ⟨c, hc, by simp only [Function.comp]; omega⟩
  have hset : (∀ d ∈ dsP s G (r.dl.map D7.ast) x, d.2.testBit (dig y d.1) = true) ↔ ∀ c ∈ r.dl, ∀ k (h : k < tops.length), c.v = (k : Int) → (if c.any = true then dig y k ≤ tops[k] else (wor c.t0 c.t1 (digs tops.length x) + c.more) % ((tops[k] : Int) + 1) = (dig y k : Int)) := by
    constructor
    · intro h c hc k hk hv
      have := h (c.v.toNat, toP s c.ast (G c.v.toNat + 1) x) (by simp [dsP]; exact ⟨c, hc, rfl, rfl⟩)
      have e : c.v.toNat = k := by omega
      simp only [e] at this
      rw [hG k hk] at this
      exact (toP_bit (ho.tied.2 c hc) (ho.chgs c hc).2.2.2.1 (ho.chgs c hc).2.2.1 _ _).1 this
    · intro h d hd
      simp [dsP] at hd
      obtain ⟨c, hc, rfl⟩ := hd
      have h1 := (ho.chgs c hc).1
      have h2 := (ho.chgs c hc).2.1
      have hk : c.v.toNat < tops.length := by omega
      have := h c hc c.v.toNat hk (by omega)
      show (toP s c.ast (G c.v.toNat + 1) x).testBit (dig y c.v.toNat) = true
      rw [hG _ hk]
      exact (toP_bit (ho.tied.2 c hc) (ho.chgs c hc).2.2.2.1 (ho.chgs c hc).2.2.1 _ _).2 this
  rw [chF_bit _ _ _ hy hk3 hnd, hset, valid_iff tops h3 y, makesF_iff _ _ _ _ _ _ (by simp [digs]) (by simp [digs])]
  have hone : (∃ z, z < 64 ∧ (2 ^ x).testBit z = true ∧ ∀ j, j < 3 → j ∉ (dsP s G (r.dl.map D7.ast) x).map Prod.fst → dig z j = dig y j) ↔ ∀ j : Nat, j < 3 → (¬ ∃ c ∈ r.dl, c.v = (j : Int)) → dig x j = dig y j := by
    constructor
    · rintro ⟨z, _, hz, hd⟩ j hj hn
      have : x = z := (pow_bit x z).1 hz
      subst this
      exact hd j hj (fun h => hn ((hmem j).1 h))
    · intro h
      exact ⟨x, hx, (pow_bit x x).2 rfl, fun j hj hn => h j hj (fun h => hn ((hmem j).2 h))⟩
  rw [hone]
  constructor
  · rintro ⟨ha, hb⟩
    refine ⟨⟨fun k hk => ?_, fun k hk hk3 => ?_⟩, fun k hk h1 h2 => ?_⟩
    · by_cases hc : ∃ c ∈ r.dl, c.v = (k : Int)
      · obtain ⟨c, hcm, hcv⟩ := hc
        have := ha c hcm k hk hcv
        by_cases hany : c.any = true
        · rw [if_pos hany] at this; exact this
        · rw [if_neg hany] at this
          have := Int.emod_lt_of_pos (wor c.t0 c.t1 (digs tops.length x) + c.more) (show (0 : Int) < (tops[k] : Int) + 1 by omega)
          omega
      · rw [← hb k (by omega) hc]; exact hx1 k hk
    · rw [← hb k hk3 (fun ⟨c, hcm, hcv⟩ => by have := (ho.chgs c hcm).2.1; omega)]
      exact hx2 k hk hk3
    · rw [digs_get, digs_get, Nat.zero_add]
      by_cases hc : ∃ c ∈ r.dl, c.v = (k : Int)
      · obtain ⟨c, hcm, hcv⟩ := hc
        have := ha c hcm k hk hcv
        rw [wantR_mem _ _ _ _ _ c ho.once hcm hcv]
        by_cases hany : c.any = true
        · exact .inl hany
        · rw [if_neg hany] at this; exact .inr this
      · rw [wantR_none _ _ _ _ _ (fun c hcm hcv => hc ⟨c, hcm, hcv⟩)]
        right
        show ((dig x k : Nat) : Int) = (dig y k : Int)
        rw [hb k (by omega) hc]
  · rintro ⟨⟨hv1, hv2⟩, hm⟩
    have hm' : ∀ k (hk : k < tops.length), (wantR (digs tops.length x) tops[k] k r.dl (false, (dig x k : Int))).1 = true ∨ (wantR (digs tops.length x) tops[k] k r.dl (false, (dig x k : Int))).2 = (dig y k : Int) := by
      intro k hk
      have := hm k hk (by simp [digs]; exact hk) (by simp [digs]; exact hk)
      rw [digs_get, digs_get, Nat.zero_add] at this
      exact this
    refine ⟨fun c hcm k hk hcv => ?_, fun j hj hn => ?_⟩
    · have := hm' k hk
      rw [wantR_mem _ _ _ _ _ c ho.once hcm hcv] at this
      by_cases hany : c.any = true
      · rw [if_pos hany]; exact hv1 k hk
      · rw [if_neg hany]
        rcases this with h | h
        · exact absurd h hany
        · exact h
    · by_cases hjl : j < tops.length
      · have := hm' j hjl
        rw [wantR_none _ _ _ _ _ (fun c hcm hcv => hn ⟨c, hcm, hcv⟩)] at this
        rcases this with h | h
        · simp at h
        · have h' : ((dig x j : Nat) : Int) = (dig y j : Int) := h
          omega
      · rw [hx2 j (by omega) hj, hv2 j (by omega) hj]
end Go.Proofs.YtkbmolodljenjaaDoor
