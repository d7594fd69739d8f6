import Derived.Test.YtgoebckimmofoaaGreatDoorA14
import Derived.Test.YtgoebckimmofoaaGreatDoorA22
/- The code's Formula. Our own text. -/
namespace Go.Proofs.YtgoebckimmofoaaGreatDoor
open Go.RowKit Go.Lib
theorem soft_S : soft 81 = true := by decide
def g0 : G := fun _ _ => false
def cRes (f : ByteArray) (n : Nat) : Bool × C := fRun f (2 * f.size + 1) 0 (C0 n g0)
/-- What the code's readFormula answers. -/
def pForm (f : ByteArray) (n : Nat) : Nat × Int :=
  if 60 < f.size then (1, 0)
  else if (cRes f n).1 = false then (2, ((cRes f n).2.t.at_ : Int))
  else if 0 < (cRes f n).2.deep then (6, ((cRes f n).2.deep : Int))
  else if (cRes f n).2.t.flt ≠ 0 then ((cRes f n).2.t.flt, ((cRes f n).2.t.plc : Int))
  else if 4 < (cRes f n).2.ps.length then (7, 0) else (0, 0)
theorem pForm_same (m f : ByteArray) : pForm f (nvM m) = if 60 < f.size then (1, 0) else fErr m (qForm f) := by
  unfold pForm
  by_cases h60 : 60 < f.size
  · rw [if_pos h60, if_pos h60]
  rw [if_neg h60, if_neg h60]
  have h := read_same f (nvM m) g0
  unfold fErr
  cases hq : (qForm f).2.q with
  | error p =>
    rw [hq] at h
    obtain ⟨cf, h1, h2⟩ := h
    have e : cRes f (nvM m) = (false, cf) := h1
    rw [e]
    simp [h2]
  | ok i =>
    rw [hq] at h
    obtain ⟨cf, h1, h2, h3, h4, h5, h6, h7, h8, _⟩ := h
    have e : cRes f (nvM m) = (true, cf) := h1
    rw [e]
    simp only [Bool.true_eq_false, if_false]
    rcases h4 with ⟨h4, h4'⟩ | ⟨h4, h4'⟩
    · rw [if_neg (show ¬ 0 < cf.deep by omega), if_neg (show ¬ (0 : Int) ≤ (qForm f).2.deep by omega)]
      unfold fl at h6
      unfold nmO at h6
      by_cases hf : cf.t.flt = 0
      · rw [if_pos hf] at h6
        rw [if_neg (show ¬ cf.t.flt ≠ 0 by simpa using hf)]
        split at h6
        · cases h6
        · next hn => rw [if_neg hn, h5]
      · rw [if_neg hf] at h6
        rw [if_pos (show cf.t.flt ≠ 0 from hf)]
        split at h6
        · next hn =>
          simp only [Option.some.injEq, Prod.mk.injEq] at h6
          rw [if_pos hn, h6.1, h6.2]
        · cases h6
    · rw [if_pos h4', if_pos (show (0 : Int) ≤ (qForm f).2.deep by omega), h4]
/-- What readFormula leaves. -/
def RFPost (f : ByteArray) (n : Nat) (w : World) (e : Ending) (w' : World) : Prop :=
  Below w.heap.size w w' ∧
  (((pForm f n).1 ≠ 0 ∧ e = .returned (.tuple #[.agg #[.nilFunc, .slice none 0 0], .int .i64 ((pForm f n).1 : Nat), .int .i64 (pForm f n).2])) ∨
   ((pForm f n).1 = 0 ∧ ∃ (fw : Nat) (cw : Array Value) (ap : Option Addr) (cp : Nat) (pvs : List PtV), e = .returned (.tuple #[.agg #[.func (.func fw) #[] cw, .slice ap pvs.length cp], .int .i64 0, .int .i64 0]) ∧ FnP w' (.func (.func fw) #[] cw) (cRes f n).2.g ∧ w'.ownsRow w.heap.size 160 3 (.slice ap pvs.length cp) pvs.length (pvs.flatMap PtV.cells) ∧ All2 (PartOk w') pvs (cRes f n).2.ps))
theorem C0.bds (f : ByteArray) (n : Nat) : Bds f (C0 n g0) := ⟨Nat.zero_le _, Nat.le_refl _, Nat.le_refl _⟩
theorem FC.zero (f : ByteArray) (M n : Nat) (w : World) (hM : ∃ cs mty, w.heap[M]? = some (.cells cs mty (0, 0)) ∧ cs[6]? = some (.int .i64 (n : Nat))) :
    FCc w.heap.size M f (C0 n g0) .nilFunc (w.alloc (.cells (rblk f M ⟨0, n, 0, 0, 0, 0⟩ (frest .nilFunc 0 0 0 0 ⟨none, 0, none, 0⟩)) 204)) := by
  obtain ⟨cs, mty, h1, h2⟩ := hM
  exact ⟨[], none, 0, ⟨[], none, 0, ⟨⟨heap_alloc_new w _, ⟨cs, mty, (Below.heap_alloc _ _ _ (lt_of_block h1)).trans h1, h2⟩, lt_of_block h1⟩, World.ownsRow_nil _ _ _ _, World.ownsRow_nil _ _ _ _⟩, All2.nil⟩, All2.nil⟩
section
variable {B M : Nat} {s : ByteArray} {t : T} {wh : Value} {opn deep : Nat} {ps : List Pt} {st : List (Nat × G)} {w w' : World}
theorem FC.more (h : FC B M s t wh opn deep ps st w) : w.cell? ⟨B, 3, none⟩ = some (.int .i64 t.flt) ∧ w.cell? ⟨B, 4, none⟩ = some (.int .i64 t.plc) ∧ ∃ ap cp pvs, w.cell? ⟨B, 6, none⟩ = some (.slice ap pvs.length cp) ∧ w.ownsRow (B + 1) 160 3 (.slice ap pvs.length cp) pvs.length (pvs.flatMap PtV.cells) ∧ All2 (PartOk w) pvs ps := by
  obtain ⟨wvs, aw, cw, ⟨pvs, ap, cp, hfr, hpo⟩, hall⟩ := h
  exact ⟨hfr.g.c3, hfr.g.c4, ap, cp, pvs, hfr.c6, hfr.p, hpo⟩
end
/-- readModel of a good model, and the machine's block. -/
theorem greadb {s : ByteArray} {va : List VA} {ra : List RA} {q' : Q} (h0 : (rCheck s).1 = 0) (hs : s.size ≤ 120) (hq : qRead s = (some (va, ra), q')) (w : World) :
    Calls Tryz.prog 28 #[.string s] w fun e w' => ∃ M f ao cap N vals, e = .returned (.tuple #[.pointer (some ⟨M, 0, none⟩), .int .i64 0, .int .i64 0]) ∧ GR s va ra w w' M f ao cap N vals ∧ ∃ cs mty, w'.heap[M]? = some (.cells cs mty (0, 0)) ∧ cs[6]? = some (.int .i64 (va.length : Nat)) := by
  have hc := check_same s
  have hc1 : (pCheck s).1 = 0 := by rw [← hc] at h0; exact h0
  have hc2 : ((pCheck s).2 : Int) = 0 := by
    have := (rcheck_good h0).2.1
    rw [← hc] at this; exact this
  have hsz : s.size ≤ maxLen := by unfold maxLen; omega
  refine (readModel_any s (fun h => GP.ghost va ra h) (fun _ => .inl ⟨rfl, [], rfl, by decide, rfl, leftV0 hq⟩) w hsz).mono ?_
  rintro e w1 ⟨hb, (⟨h1, _⟩ | ⟨_, B, M, N, t, x, vs, rl, rfl, hS, hP, he, hM⟩)⟩
  · exact absurd hc1 h1
  · obtain ⟨rfl, rfl⟩ := hP.all hs he
    have hn : t.n = va.length := by have := hS.vl; simpa using this.symm
    obtain ⟨vals, hrow, hmean⟩ := hS.rw.r
    obtain ⟨ao, cap, hvr⟩ := owned_slice' hrow
    rw [hvr] at hrow
    exact ⟨M, fN x, ao, cap, N, vals, by rw [hc2], ⟨hM, hS.rb.ltM, mc_of hS.gf hn hS.rb.m, fN_lt hS.gf, fun k hk => (hS.gf.three k hk).2.2, by rw [hS.rb.m7, hvr], own_base hrow (by have := hS.rb.lo; omega), hmean, hS.l8, hb⟩, _, _, hS.rb.m, by simp [mblk, hn]⟩
set_option maxRecDepth 100000 in
set_option maxHeartbeats 1600000 in
theorem readFormula_any (f : ByteArray) (hsz : f.size ≤ maxLen) (M n : Nat) (w : World) (hM : ∃ cs mty, w.heap[M]? = some (.cells cs mty (0, 0)) ∧ cs[6]? = some (.int .i64 (n : Nat))) :
    Calls Tryz.prog 64 #[.pointer (some ⟨M, 0, none⟩), .string f] w (RFPost f n w) := by
  unfold maxLen at hsz
  have hbR : Below w.heap.size w (w.alloc (.cells #[.nilFunc, .slice none 0 0] 81)) := (Below.refl _ _).alloc (Nat.le_refl _) _
  by_cases hl : 60 < f.size
  · have HE : Put (pForm f n = (1, 0)) := ⟨by unfold pForm; rw [if_pos hl]⟩
    have hl' : (60 : Int) < (f.size : Int) := by omega
    have HB : Put (_) := ⟨hbR⟩
    clear hM hbR
    go_enter Tryz.func64, Tryz.ntmps64
    go_wp2
    refine bodyPost_ret (v := .tuple #[.agg #[.nilFunc, .slice none 0 0], .int .i64 1, .int .i64 0]) (by simp [results, Tryz.results64, go_sem]) rfl ?_
    exact ⟨HB.out, .inl ⟨by rw [HE.out]; decide, by rw [HE.out]; rfl⟩⟩
  · have hl' : ¬ (60 : Int) < (f.size : Int) := by omega
    have hM1 : ∃ cs mty, (w.alloc (.cells #[.nilFunc, .slice none 0 0] 81)).heap[M]? = some (.cells cs mty (0, 0)) ∧ cs[6]? = some (.int .i64 (n : Nat)) := by
      obtain ⟨cs, mty, h1, h2⟩ := hM
      exact ⟨cs, mty, (Below.heap_alloc _ _ _ (lt_of_block h1)).trans h1, h2⟩
    have h0 := FC.zero f M n _ hM1
    rw [World.size_alloc] at h0
    have HFO : Put (Calls Tryz.prog 101 #[.pointer (some ⟨w.heap.size + 1, 0, none⟩)] ((w.alloc (.cells #[.nilFunc, .slice none 0 0] 81)).alloc (.cells #[.string f, .int .i64 0, .pointer (some ⟨M, 0, none⟩), .int .i64 0, .int .i64 0, .nilFunc, .slice none 0 0, .slice none 0 0, .int .i64 0, .int .i64 0] 204)) (FormPost2 (w.heap.size + 1) M f (cRes f n) ((w.alloc (.cells #[.nilFunc, .slice none 0 0] 81)).alloc (.cells #[.string f, .int .i64 0, .pointer (some ⟨M, 0, none⟩), .int .i64 0, .int .i64 0, .nilFunc, .slice none 0 0, .slice none 0 0, .int .i64 0, .int .i64 0] 204)))) := ⟨formula_any (R := cRes f n) (by omega) (C0.bds f n) rfl h0 (by unfold Mz C0; simp)⟩
    have HB0 : Put (Below w.heap.size w ((w.alloc (.cells #[.nilFunc, .slice none 0 0] 81)).alloc (.cells #[.string f, .int .i64 0, .pointer (some ⟨M, 0, none⟩), .int .i64 0, .int .i64 0, .nilFunc, .slice none 0 0, .slice none 0 0, .int .i64 0, .int .i64 0] 204))) := ⟨hbR.alloc hbR.size _⟩
    have HRB : Put (((w.alloc (.cells #[.nilFunc, .slice none 0 0] 81)).alloc (.cells #[.string f, .int .i64 0, .pointer (some ⟨M, 0, none⟩), .int .i64 0, .int .i64 0, .nilFunc, .slice none 0 0, .slice none 0 0, .int .i64 0, .int .i64 0] 204)).heap[w.heap.size]? = some (.cells #[.nilFunc, .slice none 0 0] 81 (0, 0))) := ⟨(Below.heap_alloc _ _ _ (by simp)).trans (heap_alloc_new w _)⟩
    clear h0 hM hM1 hbR
    go_enter Tryz.func64, Tryz.ntmps64
    go_wp2_with fail
    refine HFO.out.mono ?_
    rintro e w1 (⟨c, rfl, hR, hc, hr⟩ | ⟨c, wh, rfl, hR, hc, hr, hfn⟩)
    · have HE : Put (pForm f n = (2, (c.t.at_ : Int))) := ⟨by unfold pForm; rw [if_neg hl, hR]; rfl⟩
      have k1 := hc.cells.1
      have hbk := (hr.b.block w.heap.size (Nat.lt_succ_self _)).trans HRB.out
      have HB1 : Put (Below w.heap.size w w1) := ⟨HB0.out.trans (hr.b.mono (Nat.le_succ _))⟩
      have q0 := two_cell0 hbk
      have q1 := two_cell1 hbk
      have qf := two_free hbk
      have qf0 := qf 0
      have qf1 := qf 1
      have lb := lt_of_block hbk
      clear hc hr hR HFO qf
      go_wp2_with fail
      go_region
      all_goals
        go_wp2
        refine bodyPost_ret (v := .tuple #[.agg #[.nilFunc, .slice none 0 0], .int .i64 2, .int .i64 (c.t.at_ : Nat)]) (by simp [results, Tryz.results64, go_sem, q0, q1]) rfl ?_
        exact ⟨((HB1.out.drew).setCell (p := ⟨w.heap.size, 0, none⟩) (Nat.le_refl _) _).setCell (p := ⟨w.heap.size, 1, none⟩) (Nat.le_refl _) _, .inl ⟨by rw [HE.out]; show (2 : Nat) ≠ 0; decide, by rw [HE.out]; rfl⟩⟩
    · obtain ⟨k1, k8, k9, k5, kfr⟩ := hc.cells
      obtain ⟨k3, k4, ap, cp, pvs, k6, hrow, hpo⟩ := FC.more hc
      have hpl := hpo.length
      have hbk := (hr.b.block w.heap.size (Nat.lt_succ_self _)).trans HRB.out
      have HB1 : Put (Below w.heap.size w w1) := ⟨HB0.out.trans (hr.b.mono (Nat.le_succ _))⟩
      have q0 := two_cell0 hbk
      have q1 := two_cell1 hbk
      have qf := two_free hbk
      have qf0 := qf 0
      have qf1 := qf 1
      have lb := lt_of_block hbk
      obtain ⟨fw, cw, rfl, _⟩ := hfn.form
      have HEQ : Put (pForm f n = if 0 < c.deep then (6, (c.deep : Int)) else if c.t.flt ≠ 0 then (c.t.flt, (c.t.plc : Int)) else if 4 < c.ps.length then (7, 0) else (0, 0)) := ⟨by unfold pForm; rw [if_neg hl, hR]; rfl⟩
      have HCR : Put ((cRes f n).2 = c) := ⟨by rw [hR]⟩
      have HFN : Put (_ ∧ _ ∧ _) := ⟨hfn, hrow, hpo⟩
      have HBK : Put (_) := ⟨hbk⟩
      have hB1 : w.heap.size + 1 < w1.heap.size := hc.lt
      clear hc hr hR HFO qf kfr hfn hrow hpo hbk
      by_cases hd : 0 < c.deep
      · have HE : Put (pForm f n = (6, (c.deep : Int))) := ⟨by rw [HEQ.out, if_pos hd]⟩
        have hd' : (0 : Int) < (c.deep : Int) := by omega
        clear HEQ hd k3 k4 k6
        go_wp2_with fail
        go_region
        all_goals
          go_wp2
          refine bodyPost_ret (v := .tuple #[.agg #[.nilFunc, .slice none 0 0], .int .i64 6, .int .i64 (c.deep : Nat)]) (by simp [results, Tryz.results64, go_sem, q0, q1]) rfl ?_
          exact ⟨((HB1.out.drew).setCell (p := ⟨w.heap.size, 0, none⟩) (Nat.le_refl _) _).setCell (p := ⟨w.heap.size, 1, none⟩) (Nat.le_refl _) _, .inl ⟨by rw [HE.out]; show (6 : Nat) ≠ 0; decide, by rw [HE.out]; rfl⟩⟩
      · have hd' : ¬ (0 : Int) < (c.deep : Int) := by omega
        by_cases hf0 : c.t.flt = 0
        · by_cases h4 : 4 < c.ps.length
          · have HE : Put (pForm f n = (7, 0)) := ⟨by rw [HEQ.out, if_neg hd, if_neg (show ¬ c.t.flt ≠ 0 by simpa using hf0), if_pos h4]⟩
            have h4' : (4 : Int) < (pvs.length : Int) := by omega
            rw [hf0] at k3
            clear HEQ hd k4
            go_wp2
            refine bodyPost_ret (v := .tuple #[.agg #[.nilFunc, .slice none 0 0], .int .i64 7, .int .i64 0]) (by simp [results, Tryz.results64, go_sem, q0, q1]) rfl ?_
            exact ⟨(HB1.out.setCell (p := ⟨w.heap.size, 0, none⟩) (Nat.le_refl _) _).setCell (p := ⟨w.heap.size, 1, none⟩) (Nat.le_refl _) _, .inl ⟨by rw [HE.out]; decide, by rw [HE.out]; rfl⟩⟩
          · have HE : Put (pForm f n = (0, 0)) := ⟨by rw [HEQ.out, if_neg hd, if_neg (show ¬ c.t.flt ≠ 0 by simpa using hf0), if_neg h4]⟩
            have h4' : ¬ (4 : Int) < (pvs.length : Int) := by omega
            rw [hf0] at k3
            clear HEQ hd k4
            go_wp2
            refine bodyPost_ret (v := .tuple #[.agg #[.func (.func fw) #[] cw, .slice ap c.ps.length cp], .int .i64 0, .int .i64 0]) (by simp [results, Tryz.results64, go_sem, q0, q1]) rfl ?_
            have hb2 := heap_setCell_same w1 w.heap.size 0 #[.nilFunc, .slice none 0 0] 81 (.func (.func fw) #[] cw) HBK.out
            have kp : KP w1 ((w1.setCell ⟨w.heap.size, 0, none⟩ (.func (.func fw) #[] cw)).setCell ⟨w.heap.size, 1, none⟩ (.slice ap c.ps.length cp)) :=
              (KP.softSet (p := ⟨w.heap.size, 0, none⟩) HBK.out soft_S _).trans (KP.softSet (p := ⟨w.heap.size, 1, none⟩) hb2 soft_S _)
            refine ⟨(HB1.out.setCell (p := ⟨w.heap.size, 0, none⟩) (Nat.le_refl _) _).setCell (p := ⟨w.heap.size, 1, none⟩) (Nat.le_refl _) _, .inr ⟨by rw [HE.out], fw, cw, ap, cp, pvs, by rw [hpl], ?_, ?_, ?_⟩⟩
            · rw [HCR.out]; exact HFN.out.1.kp kp
            · have r1 := own_base HFN.out.2.1 (show w.heap.size ≤ w.heap.size + 1 + 1 by omega)
              have hne : ∀ k, (Value.slice ap pvs.length cp).ownBlock = some k → k ≠ w.heap.size := fun k hk => by have := (HFN.out.2.1.lt k hk).1; omega
              exact ownsRow_setCell_other (ownsRow_setCell_other r1 (a := ⟨w.heap.size, 0, none⟩) (fun e => hne _ e rfl) _) (a := ⟨w.heap.size, 1, none⟩) (fun e => hne _ e rfl) _
            · rw [HCR.out]; exact HFN.out.2.2.mono (fun _ _ h => h.kp kp)
        · have HE : Put (pForm f n = (c.t.flt, (c.t.plc : Int))) := ⟨by rw [HEQ.out, if_neg hd, if_pos (show c.t.flt ≠ 0 from hf0)]⟩
          have hf0' : ((c.t.flt : Int) == 0) = false := by simp; omega
          have hf1 : ¬ (c.t.flt : Int) = 0 := by omega
          have HNE : Put (c.t.flt ≠ 0) := ⟨hf0⟩
          clear HEQ hd k6 hf0
          generalize c.t.flt = cfl at *
          generalize c.t.plc = cpl at *
          go_wp2_with fail
          go_region
          all_goals
            go_wp2
            refine bodyPost_ret (v := .tuple #[.agg #[.nilFunc, .slice none 0 0], .int .i64 (cfl : Nat), .int .i64 (cpl : Nat)]) (by simp [results, Tryz.results64, go_sem, q0, q1]) rfl ?_
            exact ⟨((HB1.out.drew).setCell (p := ⟨w.heap.size, 0, none⟩) (Nat.le_refl _) _).setCell (p := ⟨w.heap.size, 1, none⟩) (Nat.le_refl _) _, .inl ⟨by rw [HE.out]; exact HNE.out, by rw [HE.out]⟩⟩
end Go.Proofs.YtgoebckimmofoaaGreatDoor

/- The code's Formula answers as the document asks. Our own text. -/
namespace Go.Proofs.YtgoebckimmofoaaGreatDoor
open Go.RowKit Go.Lib
theorem MC.blk {B n : Nat} {g f : Nat → Nat} {w w' : World} (e : w'.heap[B]? = w.heap[B]?) (h : MC B g f n w) : MC B g f n w' :=
  ⟨fun k hk => by have := h.1 k hk; rw [World.cell?_of_block (a := ⟨B, k * 2, none⟩) e, World.cell?_of_block (a := ⟨B, k * 2 + 1, none⟩) e]; exact this, by rw [World.cell?_of_block (a := ⟨B, 6, none⟩) e]; exact h.2⟩
/-- What readBoth leaves of a good formula. -/
structure RBG (m f : ByteArray) (w w' : World) (M : Nat) (va : List VA) (ra : List RA) (ff : Nat → Nat) (fw : Nat) (cw : Array Value) (ap : Option Addr) (cp : Nat) (pvs : List PtV) : Prop where
  q : ∃ q', qRead m = (some (va, ra), q')
  g : GoodA va ra
  lo : w.heap.size ≤ M
  hi : M < w'.heap.size
  mc : MC M (GvA va) ff va.length w'
  whole : FnP w' (.func (.func fw) #[] cw) (tr f (qForm f).1 []).1
  row : w'.ownsRow w.heap.size 160 3 (.slice ap pvs.length cp) pvs.length (pvs.flatMap PtV.cells)
  parts : All2 (PartOk w') pvs (tr f (qForm f).1 []).2
def RBPost (m f : ByteArray) (w : World) (e : Ending) (w' : World) : Prop :=
  Below w.heap.size w w' ∧
  (((rForm m f).1 ≠ 0 ∧ ∃ p, e = .returned (.tuple #[.pointer p, .agg #[.nilFunc, .slice none 0 0], .int .i64 ((rForm m f).1 : Nat), .int .i64 (rForm m f).2])) ∨
   ((rForm m f).1 = 0 ∧ ∃ M va ra ff fw cw ap cp pvs, e = .returned (.tuple #[.pointer (some ⟨M, 0, none⟩), .agg #[.func (.func fw) #[] cw, .slice ap pvs.length cp], .int .i64 0, .int .i64 0]) ∧ RBG m f w w' M va ra ff fw cw ap cp pvs))
set_option maxRecDepth 100000 in
set_option maxHeartbeats 1600000 in
theorem readBoth_any (m f : ByteArray) (w : World) (hm : m.size ≤ maxLen) (hf : f.size ≤ maxLen) : Calls Tryz.prog 39 #[.string m, .string f] w (RBPost m f w) := by
  by_cases h0 : (rCheck m).1 = 0
  · obtain ⟨hle, hp0, va, ra, q', hq, hw⟩ := rcheck_good h0
    have hnv : nvM m = va.length := by unfold nvM; rw [hq]
    have HR : Put (_) := ⟨greadb h0 hle hq (w.alloc (.cells #[.nilFunc, .slice none 0 0] 81))⟩
    have hrf : rForm m f = pForm f va.length := by
      rw [← hnv, pForm_same m f]
      unfold rForm
      rw [if_neg (by omega)]
    have HG : Put (GoodA va ra) := ⟨goodA hq hw⟩
    have HQ : Put (∃ q', qRead m = (some (va, ra), q')) := ⟨q', hq⟩
    have HRF : Put (_ = _) := ⟨hrf⟩
    have HSM : Put ((pForm f va.length).1 = 0 → (cRes f va.length).2.g = (tr f (qForm f).1 []).1 ∧ (cRes f va.length).2.ps = (tr f (qForm f).1 []).2) := ⟨fun hz => by
      rw [← hrf] at hz
      obtain ⟨_, _, ⟨i, hi⟩, _⟩ := rForm_ok hz
      have hrs := read_same f va.length g0
      rw [hi] at hrs
      obtain ⟨cf, h1, h2, h3, _⟩ := hrs
      have e : cRes f va.length = (true, cf) := h1
      rw [e]
      exact ⟨h2, h3⟩⟩
    clear hq hw hnv hrf h0 hp0
    go_enter Tryz.func39, Tryz.ntmps39
    go_wp2_with fail
    refine HR.out.mono ?_
    rintro e w1 ⟨M, ff, ao, cap, N, vals, rfl, hR, hblk⟩
    have hbR : Below w.heap.size w (w.alloc (.cells #[.nilFunc, .slice none 0 0] 81)) := (Below.refl _ _).alloc (Nat.le_refl _) _
    have hbk := heap_alloc_new w (.cells #[.nilFunc, .slice none 0 0] 81)
    have hbk1 := (hR.below.block _ (by simp)).trans hbk
    have HRF2 : Put (_) := ⟨readFormula_any f hf M va.length w1 hblk⟩
    have HGR : Put (_) := ⟨hR⟩
    have HB1 : Put (_) := ⟨hbR.trans (hR.below.mono hbR.size)⟩
    have HBK1 : Put (_) := ⟨hbk1⟩
    have HM : Put (w.heap.size ≤ M ∧ M < w1.heap.size) := ⟨by have := hR.lo; simp at this; omega, hR.hi⟩
    clear hR hblk HR hbR hbk hbk1
    unfold RFPost at HRF2
    go_wp2_with fail
    refine HRF2.out.mono ?_
    rintro e w2 ⟨hb2, hres⟩
    have hbk2 := (hb2.block _ (lt_of_block HBK1.out)).trans HBK1.out
    have HBK2 : Put (_) := ⟨hbk2⟩
    have HB2 : Put (Below w.heap.size w w2) := ⟨HB1.out.trans (hb2.mono HB1.out.size)⟩
    have HMC : Put (MC M (GvA va) ff va.length w2) := ⟨HGR.out.mc.below hb2 HM.out.2⟩
    have HMl : Put (M < w2.heap.size) := ⟨Nat.lt_of_lt_of_le HM.out.2 hb2.size⟩
    have HW1 : Put (w.heap.size ≤ w1.heap.size ∧ w.heap.size < w1.heap.size) := ⟨HB1.out.size, lt_of_block HBK1.out⟩
    have q0 := two_cell0 hbk2
    have q1 := two_cell1 hbk2
    have qf := two_free hbk2
    have qf0 := qf 0
    have qf1 := qf 1
    have lb := lt_of_block hbk2
    clear hb2 hbk2 qf HRF2 HBK1
    rcases hres with ⟨hne, rfl⟩ | ⟨hz, fw, cw, ap, cp, pvs, rfl, hfn, hrow, hpo⟩
    · have HE : Put ((rForm m f).1 = (pForm f va.length).1 ∧ (rForm m f).2 = (pForm f va.length).2 ∧ (pForm f va.length).1 ≠ 0) := ⟨by rw [HRF.out], by rw [HRF.out], hne⟩
      clear hne
      generalize (pForm f va.length).1 = a at *
      generalize (pForm f va.length).2 = b at *
      go_wp2_with fail
      go_region
      all_goals
        go_wp2
        refine bodyPost_ret (v := .tuple #[.pointer (some ⟨M, 0, none⟩), .agg #[.nilFunc, .slice none 0 0], .int .i64 (a : Nat), .int .i64 b]) (by simp [results, Tryz.results39, go_sem, q0, q1, lb]) rfl ?_
        have hbs : Below w.heap.size w ((w2.setCell ⟨w.heap.size, 0, none⟩ .nilFunc).setCell ⟨w.heap.size, 1, none⟩ (.slice none 0 0)) := (HB2.out.setCell (p := ⟨w.heap.size, 0, none⟩) (Nat.le_refl _) _).setCell (p := ⟨w.heap.size, 1, none⟩) (Nat.le_refl _) _
        exact ⟨(hbs.alloc hbs.size _).drew, .inl ⟨by rw [HE.out.1]; exact HE.out.2.2, _, by rw [HE.out.1, HE.out.2.1]⟩⟩
    · have hS := HSM.out hz
      have HFN : Put (_ ∧ _ ∧ _) := ⟨hfn, hrow, hpo⟩
      have HZ : Put ((rForm m f).1 = 0) := ⟨by rw [HRF.out]; exact hz⟩
      rw [hS.1, hS.2] at HFN
      have HM1 : Put (w.heap.size < M) := ⟨by have := HGR.out.lo; simp at this; omega⟩
      clear hS hfn hrow hpo hz
      go_wp2_with fail
      go_region
      all_goals
        go_wp2
        refine bodyPost_ret (v := .tuple #[.pointer (some ⟨M, 0, none⟩), .agg #[.func (.func fw) #[] cw, .slice ap pvs.length cp], .int .i64 0, .int .i64 0]) (by simp [results, Tryz.results39, go_sem, q0, q1, lb]) rfl ?_
        have hbk4 := heap_setCell_same w2 w.heap.size 0 #[.nilFunc, .slice none 0 0] 81 (.func (.func fw) #[] cw) HBK2.out
        have kp1 := (KP.softSet (p := ⟨w.heap.size, 0, none⟩) HBK2.out soft_S (.func (.func fw) #[] cw)).trans (KP.softSet (p := ⟨w.heap.size, 1, none⟩) hbk4 soft_S (.slice ap pvs.length cp))
        have hne : ∀ k, (Value.slice ap pvs.length cp).ownBlock = some k → k ≠ w.heap.size := fun k hk => by have := (HFN.out.2.1.lt k hk).1; have := HW1.out.2; omega
        have hrow3 := ownsRow_setCell_other (ownsRow_setCell_other HFN.out.2.1 (a := ⟨w.heap.size, 0, none⟩) (fun e => hne _ e rfl) (.func (.func fw) #[] cw)) (a := ⟨w.heap.size, 1, none⟩) (fun e => hne _ e rfl) (.slice ap pvs.length cp)
        have hbs : Below w.heap.size w ((w2.setCell ⟨w.heap.size, 0, none⟩ (.func (.func fw) #[] cw)).setCell ⟨w.heap.size, 1, none⟩ (.slice ap pvs.length cp)) := (HB2.out.setCell (p := ⟨w.heap.size, 0, none⟩) (Nat.le_refl _) _).setCell (p := ⟨w.heap.size, 1, none⟩) (Nat.le_refl _) _
        have hM4 : ((w2.setCell ⟨w.heap.size, 0, none⟩ (.func (.func fw) #[] cw)).setCell ⟨w.heap.size, 1, none⟩ (.slice ap pvs.length cp)).heap[M]? = w2.heap[M]? := by
          rw [heap_setCell_other _ _ _ _ (by show M ≠ w.heap.size; have := HM1.out; omega), heap_setCell_other _ _ _ _ (by show M ≠ w.heap.size; have := HM1.out; omega)]
        have hsz4 : ((w2.setCell ⟨w.heap.size, 0, none⟩ (.func (.func fw) #[] cw)).setCell ⟨w.heap.size, 1, none⟩ (.slice ap pvs.length cp)).heap.size = w2.heap.size := by simp
        generalize (w2.setCell ⟨w.heap.size, 0, none⟩ (.func (.func fw) #[] cw)).setCell ⟨w.heap.size, 1, none⟩ (.slice ap pvs.length cp) = w4 at *
        have ba : Below w4.heap.size w4 (w4.alloc (.cells #[.func (.func fw) #[] cw, .slice ap pvs.length cp] 81)).drew := ((Below.refl _ _).alloc (Nat.le_refl _) _).drew
        have kp := kp1.trans (KP.of_below ba)
        refine ⟨hbs.trans (ba.mono hbs.size), .inr ⟨HZ.out, M, va, ra, ff, fw, cw, ap, cp, pvs, rfl, HQ.out, HG.out, HM.out.1, Nat.lt_of_lt_of_le (by rw [hsz4]; exact HMl.out) ba.size, ?_, HFN.out.1.kp kp, ?_, HFN.out.2.2.mono (fun _ _ h => h.kp kp)⟩⟩
        · exact MC.blk ((ba.block _ (by rw [hsz4]; exact HMl.out)).trans hM4) HMC.out
        · exact own_base (ba.ownsRow' hrow3) HW1.out.1
  · have hrf : rForm m f = rCheck m := by unfold rForm; rw [if_pos h0]
    have HR : Put (_) := ⟨bread m (w.alloc (.cells #[.nilFunc, .slice none 0 0] 81)) hm⟩
    have HE : Put ((rForm m f).1 = (rCheck m).1 ∧ (rForm m f).2 = (rCheck m).2 ∧ ¬ (rCheck m).1 = 0) := ⟨by rw [hrf], by rw [hrf], h0⟩
    have hne : (((rCheck m).1 : Int) == 0) = false := by simp; exact h0
    have hne' : ¬ ((rCheck m).1 : Int) = 0 := by omega
    clear hrf h0
    generalize (rCheck m).1 = a at *
    generalize (rCheck m).2 = b at *
    go_enter Tryz.func39, Tryz.ntmps39
    go_wp2_with fail
    refine HR.out.mono ?_
    rintro e w1 ⟨⟨ao, rfl⟩, hb1⟩
    have hbR : Below w.heap.size w (w.alloc (.cells #[.nilFunc, .slice none 0 0] 81)) := (Below.refl _ _).alloc (Nat.le_refl _) _
    have hbk1 := (hb1.block _ (by simp)).trans (heap_alloc_new w (.cells #[.nilFunc, .slice none 0 0] 81))
    have HB1 : Put (Below w.heap.size w w1) := ⟨hbR.trans (hb1.mono hbR.size)⟩
    have q0 := two_cell0 hbk1
    have q1 := two_cell1 hbk1
    have qf := two_free hbk1
    have qf0 := qf 0
    have qf1 := qf 1
    have lb := lt_of_block hbk1
    clear hbR hb1 hbk1 HR qf
    go_wp2
    refine bodyPost_ret (v := .tuple #[.pointer ao, .agg #[.nilFunc, .slice none 0 0], .int .i64 (a : Nat), .int .i64 b]) (by simp [results, Tryz.results39, go_sem, q0, q1]) rfl ?_
    have hbs : Below w.heap.size w ((w1.setCell ⟨w.heap.size, 0, none⟩ .nilFunc).setCell ⟨w.heap.size, 1, none⟩ (.slice none 0 0)) := (HB1.out.setCell (p := ⟨w.heap.size, 0, none⟩) (Nat.le_refl _) _).setCell (p := ⟨w.heap.size, 1, none⟩) (Nat.le_refl _) _
    exact ⟨hbs, .inl ⟨by rw [HE.out.1]; exact HE.out.2.2, _, by rw [HE.out.1, HE.out.2.1]⟩⟩
set_option maxRecDepth 100000 in
set_option maxHeartbeats 1600000 in
/-- The code's Formula. -/
theorem formC (W : World) : FormC W := by
  intro m f w hm hf _
  have HR : Put (_) := ⟨readBoth_any m f w hm hf⟩
  unfold RBPost at HR
  go_enter Tryz.func20, Tryz.ntmps20
  go_wp2_with fail
  refine HR.out.mono ?_
  rintro e w1 ⟨hb1, (⟨_, p, rfl⟩ | ⟨hz, M, va, ra, ff, fw, cw, ap, cp, pvs, rfl, hG⟩)⟩
  · have HB1 : Put (_) := ⟨hb1⟩
    clear hb1 HR
    generalize ha : (rForm m f).1 = a
    generalize hb : (rForm m f).2 = b
    have HE : Put ((rForm m f).1 = a ∧ (rForm m f).2 = b) := ⟨ha, hb⟩
    clear ha hb
    go_wp2
    go_ret2
    rw [HE.out.1, HE.out.2]
    exact ⟨rfl, HB1.out.alloc HB1.out.size _⟩
  · have HB1 : Put (_) := ⟨hb1⟩
    have HZ : Put ((rForm m f).1 = 0 ∧ (rForm m f).2 = 0) := ⟨hz, (rForm_ok hz).2.2.2.2.2.2⟩
    clear hb1 HR hz hG
    go_wp2
    go_ret2
    rw [HZ.out.1, HZ.out.2]
    exact ⟨rfl, HB1.out.alloc HB1.out.size _⟩
end Go.Proofs.YtgoebckimmofoaaGreatDoor
