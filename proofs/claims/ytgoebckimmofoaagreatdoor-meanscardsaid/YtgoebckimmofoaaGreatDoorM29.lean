import Derived.Lib.TrailingZeros
import Derived.Test.YtgoebckimmofoaaGreatDoorRows
import Derived.WalkKit
import Derived.WalkSpells
import Derived.WalkLawsBesides
import Derived.Deep.QuietTactic
import Derived.BigQuiet
import Derived.RegionTactic
import Derived.Scope
import Derived.WalkMore
import Derived.Deep.LoopGhost
import Derived.Deep.AppendLies
import Derived.Deep.RegionHeld3
import Derived.Laws.Bits64b
import Derived.Laws.IdiomStrings
import Derived.Maps.AppendAt
import Derived.RangeFuncBox
import Derived.Deep.RegionLaw
import Derived.Deep.RegionHeld
import Derived.RangeFuncNested
import Derived.RangeFuncBound
import Derived.RangeFuncCalls
import Derived.RangeFuncLeaves
import Derived.Shelf.Abstract
import Derived.Shelf.RegionOpen
import Derived.OwnWalkIn
import Derived.TacticsInMore
import Derived.LoopNIn
import Derived.LoopIn
import Derived.Stop.RegionWithIn
import Derived.MapKept
import Derived.Lib.Bytealg
import Derived.Lib.IndexLaws
import Derived.Laws.EntriesVeiled
import Derived.Deep.DrawnRows
import Derived.Deep.OwnRows
import Derived.Test.YtgoebckimmofoaaGreatDoorM1
import Derived.Test.YtgoebckimmofoaaGreatDoorM4
import Derived.Test.YtgoebckimmofoaaGreatDoorM5
import Derived.Test.YtgoebckimmofoaaGreatDoorM7
import Derived.Test.YtgoebckimmofoaaGreatDoorM8
import Derived.Test.YtgoebckimmofoaaGreatDoorM9
import Derived.Test.YtgoebckimmofoaaGreatDoorM10
import Derived.Test.YtgoebckimmofoaaGreatDoorM11
import Derived.Test.YtgoebckimmofoaaGreatDoorM12
import Derived.Test.YtgoebckimmofoaaGreatDoorM16
import Derived.Test.YtgoebckimmofoaaGreatDoorM17
import Derived.Test.YtgoebckimmofoaaGreatDoorM18
import Derived.Test.YtgoebckimmofoaaGreatDoorM19
import Derived.Test.YtgoebckimmofoaaGreatDoorM20
import Derived.Test.YtgoebckimmofoaaGreatDoorM21
import Derived.Test.YtgoebckimmofoaaGreatDoorM23
import Derived.Test.YtgoebckimmofoaaGreatDoorM24
import Derived.Test.YtgoebckimmofoaaGreatDoorM26
import Derived.Test.YtgoebckimmofoaaGreatDoorM27
import Derived.Test.YtgoebckimmofoaaGreatDoorM28
import Derived.Test.YtgoebckimmofoaaGreatDoorM25
import Derived.Test.YtgoebckimmofoaaGreatDoorM6
import Derived.OrdersIn
import Derived.OrdersHeld
import Derived.Test.YtgoebckimmofoaaGreatDoorM2
/- The code's Formula. Our own text. -/
namespace Go.Proofs.YtgoebckimmofoaaGreatDoor
open Go.RowKit Go.Lib
theorem soft_S : soft 81 = true := by decide
def g0 : G := fun _ _ => false
def cRes (f : ByteArray) (n : Nat) : Bool × C := fRun f (2 * f.size + 1) 0 (C0 n g0)
/-- What the code's readFormula answers. -/
def pForm (f : ByteArray) (n : Nat) : Nat × Int :=
  if 60 < f.size then (1, 0)
  else if (cRes f n).1 = false then (2, ((cRes f n).2.t.at_ : Int))
  else if 0 < (cRes f n).2.deep then (6, ((cRes f n).2.deep : Int))
  else if (cRes f n).2.t.flt ≠ 0 then ((cRes f n).2.t.flt, ((cRes f n).2.t.plc : Int))
  else if 4 < (cRes f n).2.ps.length then (7, 0) else (0, 0)
theorem pForm_same (m f : ByteArray) : pForm f (nvM m) = if 60 < f.size then (1, 0) else fErr m (qForm f) := by
  unfold pForm
  by_cases h60 : 60 < f.size
  · rw [if_pos h60, if_pos h60]
  rw [if_neg h60, if_neg h60]
  have h := read_same f (nvM m) g0
  unfold fErr
  cases hq : (qForm f).2.q with
  | error p =>
    rw [hq] at h
    obtain ⟨cf, h1, h2⟩ := h
    have e : cRes f (nvM m) = (false, cf) := h1
    rw [e]
    simp [h2]
  | ok i =>
    rw [hq] at h
    obtain ⟨cf, h1, h2, h3, h4, h5, h6, h7, h8, _⟩ := h
    have e : cRes f (nvM m) = (true, cf) := h1
    rw [e]
    simp only [Bool.true_eq_false, if_false]
    rcases h4 with ⟨h4, h4'⟩ | ⟨h4, h4'⟩
    · rw [if_neg (show ¬ 0 < cf.deep by omega), if_neg (show ¬ (0 : Int) ≤ (qForm f).2.deep by omega)]
      unfold fl at h6
      unfold nmO at h6
      by_cases hf : cf.t.flt = 0
      · rw [if_pos hf] at h6
        rw [if_neg (show ¬ cf.t.flt ≠ 0 by simpa using hf)]
        split at h6
        · cases h6
        · next hn => rw [if_neg hn, h5]
      · rw [if_neg hf] at h6
        rw [if_pos (show cf.t.flt ≠ 0 from hf)]
        split at h6
        · next hn =>
          simp only [Option.some.injEq, Prod.mk.injEq] at h6
          rw [if_pos hn, h6.1, h6.2]
        · cases h6
    · rw [if_pos h4', if_pos (show (0 : Int) ≤ (qForm f).2.deep by omega), h4]
/-- What readFormula leaves. -/
def RFPost (f : ByteArray) (n : Nat) (w : World) (e : Ending) (w' : World) : Prop :=
  Below w.heap.size w w' ∧
  (((pForm f n).1 ≠ 0 ∧ e = .returned (.tuple #[.agg #[.nilFunc, .slice none 0 0], .int .i64 ((pForm f n).1 : Nat), .int .i64 (pForm f n).2])) ∨
   ((pForm f n).1 = 0 ∧ ∃ (fw : Nat) (cw : Array Value) (ap : Option Addr) (cp : Nat) (pvs : List PtV), e = .returned (.tuple #[.agg #[.func (.func fw) #[] cw, .slice ap pvs.length cp], .int .i64 0, .int .i64 0]) ∧ FnP w' (.func (.func fw) #[] cw) (cRes f n).2.g ∧ w'.ownsRow w.heap.size 160 3 (.slice ap pvs.length cp) pvs.length (pvs.flatMap PtV.cells) ∧ All2 (PartOk w') pvs (cRes f n).2.ps))
theorem C0.bds (f : ByteArray) (n : Nat) : Bds f (C0 n g0) := ⟨Nat.zero_le _, Nat.le_refl _, Nat.le_refl _⟩
theorem FC.zero (f : ByteArray) (M n : Nat) (w : World) (hM : ∃ cs mty, w.heap[M]? = some (.cells cs mty (0, 0)) ∧ cs[6]? = some (.int .i64 (n : Nat))) :
    FCc w.heap.size M f (C0 n g0) .nilFunc (w.alloc (.cells (rblk f M ⟨0, n, 0, 0, 0, 0⟩ (frest .nilFunc 0 0 0 0 ⟨none, 0, none, 0⟩)) 204)) := by
  obtain ⟨cs, mty, h1, h2⟩ := hM
  exact ⟨[], none, 0, ⟨[], none, 0, ⟨⟨heap_alloc_new w _, ⟨cs, mty, (Below.heap_alloc _ _ _ (lt_of_block h1)).trans h1, h2⟩, lt_of_block h1⟩, World.ownsRow_nil _ _ _ _, World.ownsRow_nil _ _ _ _⟩, All2.nil⟩, All2.nil⟩
section
variable {B M : Nat} {s : ByteArray} {t : T} {wh : Value} {opn deep : Nat} {ps : List Pt} {st : List (Nat × G)} {w w' : World}
theorem FC.more (h : FC B M s t wh opn deep ps st w) : w.cell? ⟨B, 3, none⟩ = some (.int .i64 t.flt) ∧ w.cell? ⟨B, 4, none⟩ = some (.int .i64 t.plc) ∧ ∃ ap cp pvs, w.cell? ⟨B, 6, none⟩ = some (.slice ap pvs.length cp) ∧ w.ownsRow (B + 1) 160 3 (.slice ap pvs.length cp) pvs.length (pvs.flatMap PtV.cells) ∧ All2 (PartOk w) pvs ps := by
  obtain ⟨wvs, aw, cw, ⟨pvs, ap, cp, hfr, hpo⟩, hall⟩ := h
  exact ⟨hfr.g.c3, hfr.g.c4, ap, cp, pvs, hfr.c6, hfr.p, hpo⟩
end
/-- readModel of a good model, and the machine's block. -/
theorem greadb {s : ByteArray} {va : List VA} {ra : List RA} {q' : Q} (h0 : (rCheck s).1 = 0) (hs : s.size ≤ 120) (hq : qRead s = (some (va, ra), q')) (w : World) :
    Calls Tryz.prog 28 #[.string s] w fun e w' => ∃ M f ao cap N vals, e = .returned (.tuple #[.pointer (some ⟨M, 0, none⟩), .int .i64 0, .int .i64 0]) ∧ GR s va ra w w' M f ao cap N vals ∧ ∃ cs mty, w'.heap[M]? = some (.cells cs mty (0, 0)) ∧ cs[6]? = some (.int .i64 (va.length : Nat)) := by
  have hc := check_same s
  have hc1 : (pCheck s).1 = 0 := by rw [← hc] at h0; exact h0
  have hc2 : ((pCheck s).2 : Int) = 0 := by
    have := (rcheck_good h0).2.1
    rw [← hc] at this; exact this
  have hsz : s.size ≤ maxLen := by unfold maxLen; omega
  refine (readModel_any s (fun h => GP.ghost va ra h) (fun _ => .inl ⟨rfl, [], rfl, by decide, rfl, leftV0 hq⟩) w hsz).mono ?_
  rintro e w1 ⟨hb, (⟨h1, _⟩ | ⟨_, B, M, N, t, x, vs, rl, rfl, hS, hP, he, hM⟩)⟩
  · exact absurd hc1 h1
  · obtain ⟨rfl, rfl⟩ := hP.all hs he
    have hn : t.n = va.length := by have := hS.vl; simpa using this.symm
    obtain ⟨vals, hrow, hmean⟩ := hS.rw.r
    obtain ⟨ao, cap, hvr⟩ := owned_slice' hrow
    rw [hvr] at hrow
    exact ⟨M, fN x, ao, cap, N, vals, by rw [hc2], ⟨hM, hS.rb.ltM, mc_of hS.gf hn hS.rb.m, fN_lt hS.gf, fun k hk => (hS.gf.three k hk).2.2, by rw [hS.rb.m7, hvr], own_base hrow (by have := hS.rb.lo; omega), hmean, hS.l8, hb⟩, _, _, hS.rb.m, by simp [mblk, hn]⟩
set_option maxRecDepth 100000 in
set_option maxHeartbeats 1600000 in
theorem readFormula_any (f : ByteArray) (hsz : f.size ≤ maxLen) (M n : Nat) (w : World) (hM : ∃ cs mty, w.heap[M]? = some (.cells cs mty (0, 0)) ∧ cs[6]? = some (.int .i64 (n : Nat))) :
    Calls Tryz.prog 64 #[.pointer (some ⟨M, 0, none⟩), .string f] w (RFPost f n w) := by
  unfold maxLen at hsz
  have hbR : Below w.heap.size w (w.alloc (.cells #[.nilFunc, .slice none 0 0] 81)) := (Below.refl _ _).alloc (Nat.le_refl _) _
  by_cases hl : 60 < f.size
  · have HE : Put (pForm f n = (1, 0)) := ⟨by unfold pForm; rw [if_pos hl]⟩
    have hl' : (60 : Int) < (f.size : Int) := by omega
    have HB : Put (_) := ⟨hbR⟩
    clear hM hbR
    go_enter Tryz.func64, Tryz.ntmps64
    go_wp2
    refine bodyPost_ret (v := .tuple #[.agg #[.nilFunc, .slice none 0 0], .int .i64 1, .int .i64 0]) (by simp [results, Tryz.results64, go_sem]) rfl ?_
    exact ⟨HB.out, .inl ⟨by rw [HE.out]; decide, by rw [HE.out]; rfl⟩⟩
  · have hl' : ¬ (60 : Int) < (f.size : Int) := by omega
    have hM1 : ∃ cs mty, (w.alloc (.cells #[.nilFunc, .slice none 0 0] 81)).heap[M]? = some (.cells cs mty (0, 0)) ∧ cs[6]? = some (.int .i64 (n : Nat)) := by
      obtain ⟨cs, mty, h1, h2⟩ := hM
      exact ⟨cs, mty, (Below.heap_alloc _ _ _ (lt_of_block h1)).trans h1, h2⟩
    have h0 := FC.zero f M n _ hM1
    rw [World.size_alloc] at h0
    have HFO : Put (Calls Tryz.prog 101 #[.pointer (some ⟨w.heap.size + 1, 0, none⟩)] ((w.alloc (.cells #[.nilFunc, .slice none 0 0] 81)).alloc (.cells #[.string f, .int .i64 0, .pointer (some ⟨M, 0, none⟩), .int .i64 0, .int .i64 0, .nilFunc, .slice none 0 0, .slice none 0 0, .int .i64 0, .int .i64 0] 204)) (FormPost2 (w.heap.size + 1) M f (cRes f n) ((w.alloc (.cells #[.nilFunc, .slice none 0 0] 81)).alloc (.cells #[.string f, .int .i64 0, .pointer (some ⟨M, 0, none⟩), .int .i64 0, .int .i64 0, .nilFunc, .slice none 0 0, .slice none 0 0, .int .i64 0, .int .i64 0] 204)))) := ⟨formula_any (R := cRes f n) (by omega) (C0.bds f n) rfl h0 (by unfold Mz C0; simp)⟩
    have HB0 : Put (Below w.heap.size w ((w.alloc (.cells #[.nilFunc, .slice none 0 0] 81)).alloc (.cells #[.string f, .int .i64 0, .pointer (some ⟨M, 0, none⟩), .int .i64 0, .int .i64 0, .nilFunc, .slice none 0 0, .slice none 0 0, .int .i64 0, .int .i64 0] 204))) := ⟨hbR.alloc hbR.size _⟩
    have HRB : Put (((w.alloc (.cells #[.nilFunc, .slice none 0 0] 81)).alloc (.cells #[.string f, .int .i64 0, .pointer (some ⟨M, 0, none⟩), .int .i64 0, .int .i64 0, .nilFunc, .slice none 0 0, .slice none 0 0, .int .i64 0, .int .i64 0] 204)).heap[w.heap.size]? = some (.cells #[.nilFunc, .slice none 0 0] 81 (0, 0))) := ⟨(Below.heap_alloc _ _ _ (by simp)).trans (heap_alloc_new w _)⟩
    clear h0 hM hM1 hbR
    go_enter Tryz.func64, Tryz.ntmps64
    go_wp2_with fail
    refine HFO.out.mono ?_
    rintro e w1 (⟨c, rfl, hR, hc, hr⟩ | ⟨c, wh, rfl, hR, hc, hr, hfn⟩)
    · have HE : Put (pForm f n = (2, (c.t.at_ : Int))) := ⟨by unfold pForm; rw [if_neg hl, hR]; rfl⟩
      have k1 := hc.cells.1
      have hbk := (hr.b.block w.heap.size (Nat.lt_succ_self _)).trans HRB.out
      have HB1 : Put (Below w.heap.size w w1) := ⟨HB0.out.trans (hr.b.mono (Nat.le_succ _))⟩
      have q0 := two_cell0 hbk
      have q1 := two_cell1 hbk
      have qf := two_free hbk
      have qf0 := qf 0
      have qf1 := qf 1
      have lb := lt_of_block hbk
      clear hc hr hR HFO qf
      go_wp2_with fail
      go_region
      all_goals
        go_wp2
        refine bodyPost_ret (v := .tuple #[.agg #[.nilFunc, .slice none 0 0], .int .i64 2, .int .i64 (c.t.at_ : Nat)]) (by simp [results, Tryz.results64, go_sem, q0, q1]) rfl ?_
        exact ⟨((HB1.out.drew).setCell (p := ⟨w.heap.size, 0, none⟩) (Nat.le_refl _) _).setCell (p := ⟨w.heap.size, 1, none⟩) (Nat.le_refl _) _, .inl ⟨by rw [HE.out]; show (2 : Nat) ≠ 0; decide, by rw [HE.out]; rfl⟩⟩
    · obtain ⟨k1, k8, k9, k5, kfr⟩ := hc.cells
      obtain ⟨k3, k4, ap, cp, pvs, k6, hrow, hpo⟩ := FC.more hc
      have hpl := hpo.length
      have hbk := (hr.b.block w.heap.size (Nat.lt_succ_self _)).trans HRB.out
      have HB1 : Put (Below w.heap.size w w1) := ⟨HB0.out.trans (hr.b.mono (Nat.le_succ _))⟩
      have q0 := two_cell0 hbk
      have q1 := two_cell1 hbk
      have qf := two_free hbk
      have qf0 := qf 0
      have qf1 := qf 1
      have lb := lt_of_block hbk
      obtain ⟨fw, cw, rfl, _⟩ := hfn.form
      have HEQ : Put (pForm f n = if 0 < c.deep then (6, (c.deep : Int)) else if c.t.flt ≠ 0 then (c.t.flt, (c.t.plc : Int)) else if 4 < c.ps.length then (7, 0) else (0, 0)) := ⟨by unfold pForm; rw [if_neg hl, hR]; rfl⟩
      have HCR : Put ((cRes f n).2 = c) := ⟨by rw [hR]⟩
      have HFN : Put (_ ∧ _ ∧ _) := ⟨hfn, hrow, hpo⟩
      have HBK : Put (_) := ⟨hbk⟩
      have hB1 : w.heap.size + 1 < w1.heap.size := hc.lt
      clear hc hr hR HFO qf kfr hfn hrow hpo hbk
      by_cases hd : 0 < c.deep
      · have HE : Put (pForm f n = (6, (c.deep : Int))) := ⟨by rw [HEQ.out, if_pos hd]⟩
        have hd' : (0 : Int) < (c.deep : Int) := by omega
        clear HEQ hd k3 k4 k6
        go_wp2_with fail
        go_region
        all_goals
          go_wp2
          refine bodyPost_ret (v := .tuple #[.agg #[.nilFunc, .slice none 0 0], .int .i64 6, .int .i64 (c.deep : Nat)]) (by simp [results, Tryz.results64, go_sem, q0, q1]) rfl ?_
          exact ⟨((HB1.out.drew).setCell (p := ⟨w.heap.size, 0, none⟩) (Nat.le_refl _) _).setCell (p := ⟨w.heap.size, 1, none⟩) (Nat.le_refl _) _, .inl ⟨by rw [HE.out]; show (6 : Nat) ≠ 0; decide, by rw [HE.out]; rfl⟩⟩
      · have hd' : ¬ (0 : Int) < (c.deep : Int) := by omega
        by_cases hf0 : c.t.flt = 0
        · by_cases h4 : 4 < c.ps.length
          · have HE : Put (pForm f n = (7, 0)) := ⟨by rw [HEQ.out, if_neg hd, if_neg (show ¬ c.t.flt ≠ 0 by simpa using hf0), if_pos h4]⟩
            have h4' : (4 : Int) < (pvs.length : Int) := by omega
            rw [hf0] at k3
            clear HEQ hd k4
            go_wp2
            refine bodyPost_ret (v := .tuple #[.agg #[.nilFunc, .slice none 0 0], .int .i64 7, .int .i64 0]) (by simp [results, Tryz.results64, go_sem, q0, q1]) rfl ?_
            exact ⟨(HB1.out.setCell (p := ⟨w.heap.size, 0, none⟩) (Nat.le_refl _) _).setCell (p := ⟨w.heap.size, 1, none⟩) (Nat.le_refl _) _, .inl ⟨by rw [HE.out]; decide, by rw [HE.out]; rfl⟩⟩
          · have HE : Put (pForm f n = (0, 0)) := ⟨by rw [HEQ.out, if_neg hd, if_neg (show ¬ c.t.flt ≠ 0 by simpa using hf0), if_neg h4]⟩
            have h4' : ¬ (4 : Int) < (pvs.length : Int) := by omega
            rw [hf0] at k3
            clear HEQ hd k4
            go_wp2
            refine bodyPost_ret (v := .tuple #[.agg #[.func (.func fw) #[] cw, .slice ap c.ps.length cp], .int .i64 0, .int .i64 0]) (by simp [results, Tryz.results64, go_sem, q0, q1]) rfl ?_
            have hb2 := heap_setCell_same w1 w.heap.size 0 #[.nilFunc, .slice none 0 0] 81 (.func (.func fw) #[] cw) HBK.out
            have kp : KP w1 ((w1.setCell ⟨w.heap.size, 0, none⟩ (.func (.func fw) #[] cw)).setCell ⟨w.heap.size, 1, none⟩ (.slice ap c.ps.length cp)) :=
              (KP.softSet (p := ⟨w.heap.size, 0, none⟩) HBK.out soft_S _).trans (KP.softSet (p := ⟨w.heap.size, 1, none⟩) hb2 soft_S _)
            refine ⟨(HB1.out.setCell (p := ⟨w.heap.size, 0, none⟩) (Nat.le_refl _) _).setCell (p := ⟨w.heap.size, 1, none⟩) (Nat.le_refl _) _, .inr ⟨by rw [HE.out], fw, cw, ap, cp, pvs, by rw [hpl], ?_, ?_, ?_⟩⟩
            · rw [HCR.out]; exact HFN.out.1.kp kp
            · have r1 := own_base HFN.out.2.1 (show w.heap.size ≤ w.heap.size + 1 + 1 by omega)
              have hne : ∀ k, (Value.slice ap pvs.length cp).ownBlock = some k → k ≠ w.heap.size := fun k hk => by have := (HFN.out.2.1.lt k hk).1; omega
              exact ownsRow_setCell_other (ownsRow_setCell_other r1 (a := ⟨w.heap.size, 0, none⟩) (fun e => hne _ e rfl) _) (a := ⟨w.heap.size, 1, none⟩) (fun e => hne _ e rfl) _
            · rw [HCR.out]; exact HFN.out.2.2.mono (fun _ _ h => h.kp kp)
        · have HE : Put (pForm f n = (c.t.flt, (c.t.plc : Int))) := ⟨by rw [HEQ.out, if_neg hd, if_pos (show c.t.flt ≠ 0 from hf0)]⟩
          have hf0' : ((c.t.flt : Int) == 0) = false := by simp; omega
          have hf1 : ¬ (c.t.flt : Int) = 0 := by omega
          have HNE : Put (c.t.flt ≠ 0) := ⟨hf0⟩
          clear HEQ hd k6 hf0
          generalize c.t.flt = cfl at *
          generalize c.t.plc = cpl at *
          go_wp2_with fail
          go_region
          all_goals
            go_wp2
            refine bodyPost_ret (v := .tuple #[.agg #[.nilFunc, .slice none 0 0], .int .i64 (cfl : Nat), .int .i64 (cpl : Nat)]) (by simp [results, Tryz.results64, go_sem, q0, q1]) rfl ?_
            exact ⟨((HB1.out.drew).setCell (p := ⟨w.heap.size, 0, none⟩) (Nat.le_refl _) _).setCell (p := ⟨w.heap.size, 1, none⟩) (Nat.le_refl _) _, .inl ⟨by rw [HE.out]; exact HNE.out, by rw [HE.out]⟩⟩
end Go.Proofs.YtgoebckimmofoaaGreatDoor

/- The code's Formula answers as the document asks. Our own text. -/
namespace Go.Proofs.YtgoebckimmofoaaGreatDoor
open Go.RowKit Go.Lib
theorem MC.blk {B n : Nat} {g f : Nat → Nat} {w w' : World} (e : w'.heap[B]? = w.heap[B]?) (h : MC B g f n w) : MC B g f n w' :=
  ⟨fun k hk => by have := h.1 k hk; rw [World.cell?_of_block (a := ⟨B, k * 2, none⟩) e, World.cell?_of_block (a := ⟨B, k * 2 + 1, none⟩) e]; exact this, by rw [World.cell?_of_block (a := ⟨B, 6, none⟩) e]; exact h.2⟩
/-- What readBoth leaves of a good formula. -/
structure RBG (m f : ByteArray) (w w' : World) (M : Nat) (va : List VA) (ra : List RA) (ff : Nat → Nat) (fw : Nat) (cw : Array Value) (ap : Option Addr) (cp : Nat) (pvs : List PtV) : Prop where
  q : ∃ q', qRead m = (some (va, ra), q')
  g : GoodA va ra
  lo : w.heap.size ≤ M
  hi : M < w'.heap.size
  mc : MC M (GvA va) ff va.length w'
  whole : FnP w' (.func (.func fw) #[] cw) (tr f (qForm f).1 []).1
  row : w'.ownsRow w.heap.size 160 3 (.slice ap pvs.length cp) pvs.length (pvs.flatMap PtV.cells)
  parts : All2 (PartOk w') pvs (tr f (qForm f).1 []).2
def RBPost (m f : ByteArray) (w : World) (e : Ending) (w' : World) : Prop :=
  Below w.heap.size w w' ∧
  (((rForm m f).1 ≠ 0 ∧ ∃ p, e = .returned (.tuple #[.pointer p, .agg #[.nilFunc, .slice none 0 0], .int .i64 ((rForm m f).1 : Nat), .int .i64 (rForm m f).2])) ∨
   ((rForm m f).1 = 0 ∧ ∃ M va ra ff fw cw ap cp pvs, e = .returned (.tuple #[.pointer (some ⟨M, 0, none⟩), .agg #[.func (.func fw) #[] cw, .slice ap pvs.length cp], .int .i64 0, .int .i64 0]) ∧ RBG m f w w' M va ra ff fw cw ap cp pvs))
set_option maxRecDepth 100000 in
set_option maxHeartbeats 1600000 in
theorem readBoth_any (m f : ByteArray) (w : World) (hm : m.size ≤ maxLen) (hf : f.size ≤ maxLen) : Calls Tryz.prog 39 #[.string m, .string f] w (RBPost m f w) := by
  by_cases h0 : (rCheck m).1 = 0
  · obtain ⟨hle, hp0, va, ra, q', hq, hw⟩ := rcheck_good h0
    have hnv : nvM m = va.length := by unfold nvM; rw [hq]
    have HR : Put (_) := ⟨greadb h0 hle hq (w.alloc (.cells #[.nilFunc, .slice none 0 0] 81))⟩
    have hrf : rForm m f = pForm f va.length := by
      rw [← hnv, pForm_same m f]
      unfold rForm
      rw [if_neg (by omega)]
    have HG : Put (GoodA va ra) := ⟨goodA hq hw⟩
    have HQ : Put (∃ q', qRead m = (some (va, ra), q')) := ⟨q', hq⟩
    have HRF : Put (_ = _) := ⟨hrf⟩
    have HSM : Put ((pForm f va.length).1 = 0 → (cRes f va.length).2.g = (tr f (qForm f).1 []).1 ∧ (cRes f va.length).2.ps = (tr f (qForm f).1 []).2) := ⟨fun hz => by
      rw [← hrf] at hz
      obtain ⟨_, _, ⟨i, hi⟩, _⟩ := rForm_ok hz
      have hrs := read_same f va.length g0
      rw [hi] at hrs
      obtain ⟨cf, h1, h2, h3, _⟩ := hrs
      have e : cRes f va.length = (true, cf) := h1
      rw [e]
      exact ⟨h2, h3⟩⟩
    clear hq hw hnv hrf h0 hp0
    go_enter Tryz.func39, Tryz.ntmps39
    go_wp2_with fail
    refine HR.out.mono ?_
    rintro e w1 ⟨M, ff, ao, cap, N, vals, rfl, hR, hblk⟩
    have hbR : Below w.heap.size w (w.alloc (.cells #[.nilFunc, .slice none 0 0] 81)) := (Below.refl _ _).alloc (Nat.le_refl _) _
    have hbk := heap_alloc_new w (.cells #[.nilFunc, .slice none 0 0] 81)
    have hbk1 := (hR.below.block _ (by simp)).trans hbk
    have HRF2 : Put (_) := ⟨readFormula_any f hf M va.length w1 hblk⟩
    have HGR : Put (_) := ⟨hR⟩
    have HB1 : Put (_) := ⟨hbR.trans (hR.below.mono hbR.size)⟩
    have HBK1 : Put (_) := ⟨hbk1⟩
    have HM : Put (w.heap.size ≤ M ∧ M < w1.heap.size) := ⟨by have := hR.lo; simp at this; omega, hR.hi⟩
    clear hR hblk HR hbR hbk hbk1
    unfold RFPost at HRF2
    go_wp2_with fail
    refine HRF2.out.mono ?_
    rintro e w2 ⟨hb2, hres⟩
    have hbk2 := (hb2.block _ (lt_of_block HBK1.out)).trans HBK1.out
    have HBK2 : Put (_) := ⟨hbk2⟩
    have HB2 : Put (Below w.heap.size w w2) := ⟨HB1.out.trans (hb2.mono HB1.out.size)⟩
    have HMC : Put (MC M (GvA va) ff va.length w2) := ⟨HGR.out.mc.below hb2 HM.out.2⟩
    have HMl : Put (M < w2.heap.size) := ⟨Nat.lt_of_lt_of_le HM.out.2 hb2.size⟩
    have HW1 : Put (w.heap.size ≤ w1.heap.size ∧ w.heap.size < w1.heap.size) := ⟨HB1.out.size, lt_of_block HBK1.out⟩
    have q0 := two_cell0 hbk2
    have q1 := two_cell1 hbk2
    have qf := two_free hbk2
    have qf0 := qf 0
    have qf1 := qf 1
    have lb := lt_of_block hbk2
    clear hb2 hbk2 qf HRF2 HBK1
    rcases hres with ⟨hne, rfl⟩ | ⟨hz, fw, cw, ap, cp, pvs, rfl, hfn, hrow, hpo⟩
    · have HE : Put ((rForm m f).1 = (pForm f va.length).1 ∧ (rForm m f).2 = (pForm f va.length).2 ∧ (pForm f va.length).1 ≠ 0) := ⟨by rw [HRF.out], by rw [HRF.out], hne⟩
      clear hne
      generalize (pForm f va.length).1 = a at *
      generalize (pForm f va.length).2 = b at *
      go_wp2_with fail
      go_region
      all_goals
        go_wp2
        refine bodyPost_ret (v := .tuple #[.pointer (some ⟨M, 0, none⟩), .agg #[.nilFunc, .slice none 0 0], .int .i64 (a : Nat), .int .i64 b]) (by simp [results, Tryz.results39, go_sem, q0, q1, lb]) rfl ?_
        have hbs : Below w.heap.size w ((w2.setCell ⟨w.heap.size, 0, none⟩ .nilFunc).setCell ⟨w.heap.size, 1, none⟩ (.slice none 0 0)) := (HB2.out.setCell (p := ⟨w.heap.size, 0, none⟩) (Nat.le_refl _) _).setCell (p := ⟨w.heap.size, 1, none⟩) (Nat.le_refl _) _
        exact ⟨(hbs.alloc hbs.size _).drew, .inl ⟨by rw [HE.out.1]; exact HE.out.2.2, _, by rw [HE.out.1, HE.out.2.1]⟩⟩
    · have hS := HSM.out hz
      have HFN : Put (_ ∧ _ ∧ _) := ⟨hfn, hrow, hpo⟩
      have HZ : Put ((rForm m f).1 = 0) := ⟨by rw [HRF.out]; exact hz⟩
      rw [hS.1, hS.2] at HFN
      have HM1 : Put (w.heap.size < M) := ⟨by have := HGR.out.lo; simp at this; omega⟩
      clear hS hfn hrow hpo hz
      go_wp2_with fail
      go_region
      all_goals
        go_wp2
        refine bodyPost_ret (v := .tuple #[.pointer (some ⟨M, 0, none⟩), .agg #[.func (.func fw) #[] cw, .slice ap pvs.length cp], .int .i64 0, .int .i64 0]) (by simp [results, Tryz.results39, go_sem, q0, q1, lb]) rfl ?_
        have hbk4 := heap_setCell_same w2 w.heap.size 0 #[.nilFunc, .slice none 0 0] 81 (.func (.func fw) #[] cw) HBK2.out
        have kp1 := (KP.softSet (p := ⟨w.heap.size, 0, none⟩) HBK2.out soft_S (.func (.func fw) #[] cw)).trans (KP.softSet (p := ⟨w.heap.size, 1, none⟩) hbk4 soft_S (.slice ap pvs.length cp))
        have hne : ∀ k, (Value.slice ap pvs.length cp).ownBlock = some k → k ≠ w.heap.size := fun k hk => by have := (HFN.out.2.1.lt k hk).1; have := HW1.out.2; omega
        have hrow3 := ownsRow_setCell_other (ownsRow_setCell_other HFN.out.2.1 (a := ⟨w.heap.size, 0, none⟩) (fun e => hne _ e rfl) (.func (.func fw) #[] cw)) (a := ⟨w.heap.size, 1, none⟩) (fun e => hne _ e rfl) (.slice ap pvs.length cp)
        have hbs : Below w.heap.size w ((w2.setCell ⟨w.heap.size, 0, none⟩ (.func (.func fw) #[] cw)).setCell ⟨w.heap.size, 1, none⟩ (.slice ap pvs.length cp)) := (HB2.out.setCell (p := ⟨w.heap.size, 0, none⟩) (Nat.le_refl _) _).setCell (p := ⟨w.heap.size, 1, none⟩) (Nat.le_refl _) _
        have hM4 : ((w2.setCell ⟨w.heap.size, 0, none⟩ (.func (.func fw) #[] cw)).setCell ⟨w.heap.size, 1, none⟩ (.slice ap pvs.length cp)).heap[M]? = w2.heap[M]? := by
          rw [heap_setCell_other _ _ _ _ (by show M ≠ w.heap.size; have := HM1.out; omega), heap_setCell_other _ _ _ _ (by show M ≠ w.heap.size; have := HM1.out; omega)]
        have hsz4 : ((w2.setCell ⟨w.heap.size, 0, none⟩ (.func (.func fw) #[] cw)).setCell ⟨w.heap.size, 1, none⟩ (.slice ap pvs.length cp)).heap.size = w2.heap.size := by simp
        generalize (w2.setCell ⟨w.heap.size, 0, none⟩ (.func (.func fw) #[] cw)).setCell ⟨w.heap.size, 1, none⟩ (.slice ap pvs.length cp) = w4 at *
        have ba : Below w4.heap.size w4 (w4.alloc (.cells #[.func (.func fw) #[] cw, .slice ap pvs.length cp] 81)).drew := ((Below.refl _ _).alloc (Nat.le_refl _) _).drew
        have kp := kp1.trans (KP.of_below ba)
        refine ⟨hbs.trans (ba.mono hbs.size), .inr ⟨HZ.out, M, va, ra, ff, fw, cw, ap, cp, pvs, rfl, HQ.out, HG.out, HM.out.1, Nat.lt_of_lt_of_le (by rw [hsz4]; exact HMl.out) ba.size, ?_, HFN.out.1.kp kp, ?_, HFN.out.2.2.mono (fun _ _ h => h.kp kp)⟩⟩
        · exact MC.blk ((ba.block _ (by rw [hsz4]; exact HMl.out)).trans hM4) HMC.out
        · exact own_base (ba.ownsRow' hrow3) HW1.out.1
  · have hrf : rForm m f = rCheck m := by unfold rForm; rw [if_pos h0]
    have HR : Put (_) := ⟨bread m (w.alloc (.cells #[.nilFunc, .slice none 0 0] 81)) hm⟩
    have HE : Put ((rForm m f).1 = (rCheck m).1 ∧ (rForm m f).2 = (rCheck m).2 ∧ ¬ (rCheck m).1 = 0) := ⟨by rw [hrf], by rw [hrf], h0⟩
    have hne : (((rCheck m).1 : Int) == 0) = false := by simp; exact h0
    have hne' : ¬ ((rCheck m).1 : Int) = 0 := by omega
    clear hrf h0
    generalize (rCheck m).1 = a at *
    generalize (rCheck m).2 = b at *
    go_enter Tryz.func39, Tryz.ntmps39
    go_wp2_with fail
    refine HR.out.mono ?_
    rintro e w1 ⟨⟨ao, rfl⟩, hb1⟩
    have hbR : Below w.heap.size w (w.alloc (.cells #[.nilFunc, .slice none 0 0] 81)) := (Below.refl _ _).alloc (Nat.le_refl _) _
    have hbk1 := (hb1.block _ (by simp)).trans (heap_alloc_new w (.cells #[.nilFunc, .slice none 0 0] 81))
    have HB1 : Put (Below w.heap.size w w1) := ⟨hbR.trans (hb1.mono hbR.size)⟩
    have q0 := two_cell0 hbk1
    have q1 := two_cell1 hbk1
    have qf := two_free hbk1
    have qf0 := qf 0
    have qf1 := qf 1
    have lb := lt_of_block hbk1
    clear hbR hb1 hbk1 HR qf
    go_wp2
    refine bodyPost_ret (v := .tuple #[.pointer ao, .agg #[.nilFunc, .slice none 0 0], .int .i64 (a : Nat), .int .i64 b]) (by simp [results, Tryz.results39, go_sem, q0, q1]) rfl ?_
    have hbs : Below w.heap.size w ((w1.setCell ⟨w.heap.size, 0, none⟩ .nilFunc).setCell ⟨w.heap.size, 1, none⟩ (.slice none 0 0)) := (HB1.out.setCell (p := ⟨w.heap.size, 0, none⟩) (Nat.le_refl _) _).setCell (p := ⟨w.heap.size, 1, none⟩) (Nat.le_refl _) _
    exact ⟨hbs, .inl ⟨by rw [HE.out.1]; exact HE.out.2.2, _, by rw [HE.out.1, HE.out.2.1]⟩⟩
end Go.Proofs.YtgoebckimmofoaaGreatDoor

/- The code: the states of a lasso's list, whatever slice holds them. Our own text. -/
namespace Go.Proofs.YtgoebckimmofoaaGreatDoor
open Go.RowKit Go.Lib
set_option maxRecDepth 100000 in
set_option maxHeartbeats 1600000 in
theorem lassoR_any (M n : Nat) (g f : Nat → Nat) (hn : n ≤ 3) (hg : ∀ k, g k ≤ 3) (L : List ByteArray) (hL : ∀ s ∈ L, s.size ≤ maxLen) (loop : Int) (v : Value) (W : World) (hm : MC M g f n W) (hM : M < W.heap.size) (hlen : L.length ≤ 9223372036854775807) (hrd : Reads W v L) :
    Calls Tryz.prog 42 #[.pointer (some ⟨M, 0, none⟩), .agg #[v, .int .i64 loop]] W (LassoPost L loop n g W) := by
  obtain ⟨aoL, capL, rfl, hrow⟩ := hrd
  have hbx := heap_alloc_new W (.cells #[.slice aoL L.length capL, .int .i64 loop] 43)
  have hB1 : Below W.heap.size W (W.alloc (.cells #[.slice aoL L.length capL, .int .i64 loop] 43)) := (Below.refl _ _).alloc (Nat.le_refl _) _
  have q0 := two_cell0 hbx
  have q1 := two_cell1 hbx
  have hsz1 : (W.alloc (.cells #[.slice aoL L.length capL, .int .i64 loop] 43)).heap.size = W.heap.size + 1 := by simp
  by_cases h7 : 7000 < L.length
  · have h7' : (7000 : Int) < (L.length : Int) := by omega
    have HB : Put (_) := ⟨hB1⟩
    clear hm hrow hbx hB1
    go_enter Tryz.func42, Tryz.ntmps42
    go_wp2
    refine bodyPost_ret (v := .tuple #[.slice none 0 0, .int .i64 1, .int .i64 0]) (by simp [results, Tryz.results42, go_sem]) rfl ?_
    exact ⟨HB.out, .inl ⟨h7, rfl⟩⟩
  · have h7' : ¬ (7000 : Int) < (L.length : Int) := by omega
    obtain ⟨j0, hi, hz0, hz1, hz2⟩ := info_parts info64s
    have HM : Put (_) := ⟨hm⟩
    have HROW : Put (_) := ⟨hrow⟩
    have HBX : Put (_ ∧ _) := ⟨hbx, hB1⟩
    have HL : Put (_) := ⟨hL⟩
    clear hm hrow hbx hB1 hL
    go_enter Tryz.func42, Tryz.ntmps42
    go_wp2_with (at_make; refine wpList_make_full _ rfl _ _ 100 rfl W.heap.size 69 j0 _ 1 Tryz.underlying100 hi hz0 hz1 .i64 .i64 _ _ L.length rfl rfl rfl rfl (by rw [hz2]; omega) (by unfold maxLen; omega) (by simp) ?_)
    intro w2 hown hgr
    rw [made_u8s] at hown
    have hB2 : Below W.heap.size W w2 := HBX.out.2.grown hgr (by simp) (fun k h => by cases h)
    have hbox2 : w2.heap[W.heap.size]? = some (.cells #[.slice aoL L.length capL, .int .i64 loop] 43 (0, 0)) := (hgr.block W.heap.size (by simp) (by simp)).trans HBX.out.1
    have q0' := two_cell0 hbox2
    have HO : Put (_) := ⟨hown⟩
    have HB2 : Put (_ ∧ _) := ⟨hB2, hbox2⟩
    clear hown hgr hB2 hbox2 HBX q0 q1
    clear hsz1
    go_wp2_with fail
    go_loopg [23] L.length (fun gk iv wr => ∃ (i : Nat) (xs : List Nat), iv = .int .i64 i ∧ i + gk = L.length ∧ xs.length = i ∧ Put (∀ k (hk : k < xs.length) (hk' : k < L.length), IsS L[k] n g xs[k]) ∧ Below W.heap.size W wr ∧ Put (wr.ownsRow W.heap.size 69 1 (.slice (some ⟨W.heap.size + 1, 0, none⟩) L.length L.length) L.length (u8s (xs ++ List.replicate gk 0))) ∧ Put (wr.heap[W.heap.size]? = some (.cells #[.slice aoL L.length capL, .int .i64 loop] 43 (0, 0))))
    case atStart => exact ⟨0, [], rfl, by omega, rfl, ⟨fun k hk => absurd hk (Nat.not_lt_zero _)⟩, HB2.out.1, ⟨by simpa using HO.out⟩, ⟨HB2.out.2⟩⟩
    case round =>
      clear HB2 HO
      obtain ⟨i, xs, rfl, hik, hxl, HI, hBr, HO, HX⟩ := hrel
      have hsr := hBr.size
      have hMr : M < wr.heap.size := Nat.lt_of_lt_of_le hM hsr
      by_cases hlt : i < L.length
      · have hlt' : (i : Int) < (L.length : Int) := by omega
        have k0 : (0 : Int) ≤ (i : Int) := by omega
        obtain ⟨g', rfl⟩ : ∃ g', gk = g' + 1 := ⟨gk - 1, by omega⟩
        obtain ⟨gL, oL, rfl, hgL2, hcL⟩ := HROW.out (by omega)
        have q := (hBr.cell (p := ⟨gL, oL + i, none⟩) hgL2).trans (hcL i hlt)
        have HST : Put (_) := ⟨state_any M n g f hn hg L[i] (HL.out _ (List.getElem_mem hlt)) wr (HM.out.below hBr hM) hMr⟩
        have hbw := lt_of_block HX.out
        rcases HO.out.2 with ⟨h, _⟩ | ⟨gO, capO, cur, eO, hgO, hgO', hcO, r⟩
        · cases h
        obtain ⟨rfl, rfl⟩ : W.heap.size + 1 = gO ∧ L.length = capO := by simpa using eO
        clear hcL eO
        go_wp2_with fail
        refine HST.out.mono ?_
        rintro e w3 ⟨hres, hb3⟩
        have hB3 : Below W.heap.size W w3 := hBr.trans (hb3.mono hsr)
        have HX3 : Put (_) := ⟨(hb3.block _ hbw).trans HX.out⟩
        have HO3 : Put (_) := ⟨hb3.ownsRow' HO.out⟩
        have hgO3 := (hb3.block _ (lt_of_block hgO')).trans hgO'
        clear hb3 hBr HST q
        rcases hres with ⟨x, hx, rfl⟩ | ⟨hno, z, rfl⟩
        · obtain ⟨_, hcs, _⟩ := r
          have hics : i < cur.size := by omega
          have c1 : w3.cell? ⟨W.heap.size + 1, i, none⟩ = some cur[i] := by simp [World.cell?, hgO3, Array.getElem?_eq_getElem hics]
          have f1 : w3.frozen? ⟨W.heap.size + 1, i, none⟩ = false := by simp [World.frozen?, hgO3]
          have HN : Put ((w3.setCell ⟨W.heap.size + 1, i, none⟩ (.int .u8 (x : Nat))).ownsRow W.heap.size 69 1 (.slice (some ⟨W.heap.size + 1, 0, none⟩) L.length L.length) L.length (u8s ((xs ++ [x]) ++ List.replicate g' 0))) := ⟨by
            have := (HO3.out.stored i (.int .u8 (x : Nat))).1
            rw [u8s_set] at this
            have e := fill_next xs g' x
            rw [hxl] at e
            rw [e] at this
            exact this⟩
          have HI' : Put (∀ k (hk : k < (xs ++ [x]).length) (hk' : k < L.length), IsS L[k] n g (xs ++ [x])[k]) := ⟨fun k hk hk' => by
            by_cases e : k < xs.length
            · rw [List.getElem_append_left e]; exact HI.out k e hk'
            · obtain rfl : k = i := by simp at hk; omega
              have : (xs ++ [x])[k]'hk = x := by simp [hxl]
              rw [this]; exact hx⟩
          have HX' : Put ((w3.setCell ⟨W.heap.size + 1, i, none⟩ (.int .u8 (x : Nat))).heap[W.heap.size]? = some (.cells #[.slice (some ⟨gL, oL, none⟩) L.length capL, .int .i64 loop] 43 (0, 0))) := ⟨(heap_setCell_other _ _ _ _ (by show W.heap.size ≠ W.heap.size + 1; omega)).trans HX3.out⟩
          have hB4 := hB3.setCell (p := ⟨W.heap.size + 1, i, none⟩) (by show W.heap.size ≤ W.heap.size + 1; omega) (.int .u8 (x : Nat))
          have hxl' : (xs ++ [x]).length = i + 1 := by simp [hxl]
          clear hB3 HX3 HO3 hgO3 hgO' HO HX HI hcs hx
          go_wp2
          go_roundg g'
          case measure => exact Nat.lt_succ_self _
          case rel => exact ⟨i + 1, xs ++ [x], by go_num, by omega, hxl', HI', hB4, HN, HX'⟩
        · have FIN : Put (LassoPost L loop n g W (.returned (.tuple #[.slice none 0 0, .int .i64 8, .int .i64 (i : Nat)])) w3) := ⟨hB3, .inr (.inl ⟨by omega, i, hlt, hno, fun j hj => (HI.out j (by omega) (by omega)).okS, rfl⟩)⟩
          clear hB3 HX3 HO3 hgO3 hgO' HO HX HI hno
          go_wp2
          refine bodyPost_ret (v := .tuple #[.slice none 0 0, .int .i64 8, .int .i64 (i : Nat)]) (by simp [results, Tryz.results42, go_sem]) rfl ?_
          exact FIN.out
      · obtain rfl : i = L.length := by omega
        have hlt' : ¬ ((L.length : Int) < (L.length : Int)) := by omega
        obtain rfl : gk = 0 := by omega
        have q1 := two_cell1 HX.out
        have hok : ∀ s ∈ L, OkS s n g := fun s hs => by
          obtain ⟨k, hk, rfl⟩ := List.getElem_of_mem hs
          exact (HI.out k (by omega) hk).okS
        by_cases hlo : loop < 0
        · have FIN : Put (LassoPost L loop n g W (.returned (.tuple #[.slice none 0 0, .int .i64 9, .int .i64 0])) wr) := ⟨hBr, .inr (.inr (.inl ⟨by omega, hok, by omega, rfl⟩))⟩
          clear HI HO HX hBr hok
          go_wp2
          refine bodyPost_ret (v := .tuple #[.slice none 0 0, .int .i64 9, .int .i64 0]) (by simp [results, Tryz.results42, go_sem]) rfl ?_
          exact FIN.out
        · by_cases hhi : (L.length : Int) ≤ loop
          · have FIN : Put (LassoPost L loop n g W (.returned (.tuple #[.slice none 0 0, .int .i64 9, .int .i64 0])) wr) := ⟨hBr, .inr (.inr (.inl ⟨by omega, hok, by omega, rfl⟩))⟩
            clear HI HO HX hBr hok
            go_wp2
            refine bodyPost_ret (v := .tuple #[.slice none 0 0, .int .i64 9, .int .i64 0]) (by simp [results, Tryz.results42, go_sem]) rfl ?_
            exact FIN.out
          · have FIN : Put (LassoPost L loop n g W (.returned (.tuple #[.slice (some ⟨W.heap.size + 1, 0, none⟩) L.length L.length, .int .i64 0, .int .i64 0])) wr) := ⟨hBr, .inr (.inr (.inr ⟨by omega, by omega, by omega, xs, _, hxl, fun k hk => HI.out k (by omega) hk, by have := HO.out; simp at this; rw [hxl]; exact this, rfl⟩))⟩
            clear HI HO HX hBr hok
            go_wp2
            refine bodyPost_ret (v := .tuple #[.slice (some ⟨W.heap.size + 1, 0, none⟩) L.length L.length, .int .i64 0, .int .i64 0]) (by simp [results, Tryz.results42, go_sem]) rfl ?_
            exact FIN.out
end Go.Proofs.YtgoebckimmofoaaGreatDoor

/- The code's Holds answers as the document asks. Our own text. -/
namespace Go.Proofs.YtgoebckimmofoaaGreatDoor
open Go.RowKit Go.Lib
theorem gv_tops {va : List VA} (k : Nat) (h : k < (topsA va).length) : GvA va k = (topsA va)[k] := by
  have h' : k < va.length := by simpa [topsA] using h
  unfold GvA Gv
  rw [getD_v2]
  simp [List.getD, h', v2, topsA]
theorem okS_tops {st : ByteArray} {va : List VA} : OkS st va.length (GvA va) ↔ okT st (topsA va) := by
  have hl : (topsA va).length = va.length := by simp [topsA]
  constructor
  · rintro ⟨h1, h2⟩
    exact ⟨by rw [hl]; exact h1, fun k hk hk' => by rw [← gv_tops k hk']; exact h2 k hk⟩
  · rintro ⟨h1, h2⟩
    rw [hl] at h1
    exact ⟨h1, fun k hk => by have hk' : k < (topsA va).length := by rw [hl]; omega
                              rw [gv_tops k hk']; exact h2 k hk hk'⟩
theorem isS_digs {t : ByteArray} {n x : Nat} {g : Nat → Nat} (h : IsS t n g x) : dgs t = digs n x := by
  apply List.ext_getElem
  · have : t.data.size = n := h.2.1
    simp [dgs, digs, this]
  · intro k h1 h2
    rw [digs_get]
    have hk : k < t.size := by
      have h3 := h1
      unfold dgs at h3
      rw [List.length_map, Array.length_toList] at h3
      exact h3
    have e : (dgs t)[k] = t.data[k].toNat - 48 := by simp [dgs]
    have h4 : t.data[k].toNat = 48 + dig x k := (h.2.2.1 k hk).1
    rw [e, h4]; omega
theorem cd_so {f st : ByteArray} {c : Tm × Tm} {n x : Nat} {g : Nat → Nat} (h : IsS st n g x) (hp : PC c) (hc : c.1.1 < (n : Int) ∧ c.2.1 < (n : Int)) : cdP f c x = soS f c st := by
  unfold soS
  rw [isS_digs h]
  exact (so_same (c := cC f c) (x := x) (n := n) rfl ⟨hc.1, hp.1.1, hp.1.2.1⟩ ⟨hc.2, hp.2.1, hp.2.2.1⟩).symm
theorem topsM_of {m : ByteArray} {va : List VA} {ra : List RA} {q' : Q} (h : qRead m = (some (va, ra), q')) : topsM m = topsA va := by unfold topsM; rw [h]
theorem nvM_of {m : ByteArray} {va : List VA} {ra : List RA} {q' : Q} (h : qRead m = (some (va, ra), q')) : nvM m = va.length := by unfold nvM; rw [h]
/-- What is marked and asked is what the document says. -/
theorem held_same {m f : ByteArray} {va : List VA} {ra : List RA} {q' : Q} {L : List ByteArray} {xs : List Nat} {loop : Nat} (hz : (rForm m f).1 = 0) (hq : qRead m = (some (va, ra), q')) (hx : xs.length = L.length) (hxs : ∀ i (hi : i < L.length), IsS L[i] va.length (GvA va) (xs[i]'(by omega))) (hl : loop < L.length) :
    holdP (tr f (qForm f).1 []).2 (tr f (qForm f).1 []).1 xs loop = at_ (plF f L loop (qForm f).1) 0 ∧ (tr f (qForm f).1 []).2.length ≤ 8 := by
  obtain ⟨_, _, ⟨i, hi⟩, hnm, _, hwg, _⟩ := rForm_ok hz
  rw [nvM_of hq] at hnm
  have hrs := read_same f va.length g0
  rw [hi] at hrs
  obtain ⟨cf, h1, h2, h3, h4, h5⟩ := hrs
  have h8 : (tr f (qForm f).1 []).2.length ≤ 8 := by rw [← h3]; omega
  refine ⟨hold_same f L xs loop va.length hx hl (fun c hp hc j hj => ?_) (qForm f).1 (qForm_ok f) (nm_of _ _ (qForm_ok f) hnm) h8, h8⟩
  have hj' : j < xs.length := by omega
  rw [List.getD_eq_getElem?_getD, List.getElem?_eq_getElem hj', Option.getD_some]
  exact cd_so (hxs j hj) hp hc
set_option maxRecDepth 100000 in
set_option maxHeartbeats 1600000 in
/-- The code's Holds. -/
theorem holdsC {W : World} (h0 : 0 < W.heap.size) (hT : Tab W) : HoldsC W := by
  intro m f L loop v w hm hf hL hlen hW hr
  have HRD : Put (Reads w v L) := ⟨hr⟩
  obtain ⟨aoL, capL, rfl, _⟩ := hr
  have HT : Put (0 < w.heap.size ∧ Tab w) := ⟨Nat.lt_of_lt_of_le h0 hW.size, hT.below hW h0⟩
  have hbx := heap_alloc_new w (.cells #[.slice aoL L.length capL, .int .i64 loop] 43)
  have hB1 : Below w.heap.size w (w.alloc (.cells #[.slice aoL L.length capL, .int .i64 loop] 43)) := (Below.refl _ _).alloc (Nat.le_refl _) _
  have HRB : Put (_) := ⟨readBoth_any m f (w.alloc (.cells #[.slice aoL L.length capL, .int .i64 loop] 43)) hm hf⟩
  unfold RBPost at HRB
  have HL : Put (_) := ⟨hL⟩
  have HBX : Put (_) := ⟨hbx⟩
  have HB1 : Put (_) := ⟨hB1⟩
  have hz0 : (w.alloc (.cells #[.slice aoL L.length capL, .int .i64 loop] 43)).heap.size = w.heap.size + 1 := by simp
  clear hL hbx hB1 hW hT h0
  rename_i hrd
  clear hrd
  go_enter Tryz.func23, Tryz.ntmps23
  go_wp2_with fail
  refine HRB.out.mono ?_
  generalize w.alloc (.cells #[.slice aoL L.length capL, .int .i64 loop] 43) = w0 at *
  rintro e w1 ⟨hb1, (⟨hne, p, rfl⟩ | ⟨hz, M, va, ra, ff, fw, cw, ap, cp, pvs, rfl, hG⟩)⟩
  · have HBF : Put (_) := ⟨HB1.out.trans (hb1.mono HB1.out.size)⟩
    have HE : Put (HoldD m f L loop false (rForm m f).1 (rForm m f).2) := ⟨.inl ⟨hne, rfl, rfl, rfl⟩⟩
    have hn' : ¬ ((rForm m f).1 : Int) = 0 := by omega
    clear hb1 HRB hne
    generalize (rForm m f).1 = a at *
    generalize (rForm m f).2 = b at *
    go_wp2
    refine bodyPost_ret (v := .tuple #[.bool false, .int .i64 (a : Nat), .int .i64 b]) (by simp [results, Tryz.results23, go_sem]) rfl ?_
    exact ⟨⟨false, a, b, rfl, HE.out⟩, HBF.out.alloc HBF.out.size _⟩
  · have HBF : Put (Below w.heap.size w w1) := ⟨HB1.out.trans (hb1.mono HB1.out.size)⟩
    have HG : Put (_) := ⟨hG⟩
    have HZ : Put (_) := ⟨hz⟩
    have hbS : Below w1.heap.size w1 (w1.alloc (.cells #[.func (.func fw) #[] cw, .slice ap pvs.length cp] 81)) := (Below.refl _ _).alloc (Nat.le_refl _) _
    have hS := heap_alloc_new w1 (.cells #[.func (.func fw) #[] cw, .slice ap pvs.length cp] 81)
    have hBF2 : Below w.heap.size w (w1.alloc (.cells #[.func (.func fw) #[] cw, .slice ap pvs.length cp] 81)) := HBF.out.trans (hbS.mono HBF.out.size)
    have hbox := (hbS.block _ (Nat.lt_of_lt_of_le (lt_of_block HBX.out) hb1.size)).trans ((hb1.block _ (lt_of_block HBX.out)).trans HBX.out)
    have HBX2 : Put (_) := ⟨hbox⟩
    have q0 := two_cell0 hbox
    have q1 := two_cell1 hbox
    have HLS : Put (_) := ⟨lassoR_any M va.length (GvA va) ff hG.g.l3 (Gv_le hG.g) L HL.out loop _ (w1.alloc (.cells #[.func (.func fw) #[] cw, .slice ap pvs.length cp] 81)) (hG.mc.below hbS hG.hi) (Nat.lt_of_lt_of_le hG.hi hbS.size) hlen (HRD.out.below hBF2)⟩
    have HSS : Put (_) := ⟨hS⟩
    have HBS : Put (_) := ⟨hbS⟩
    have HB2 : Put (_) := ⟨hBF2⟩
    have hzz : (w1.alloc (.cells #[.func (.func fw) #[] cw, .slice ap pvs.length cp] 81)).heap.size = w1.heap.size + 1 := by simp
    clear hb1 HRB hbS hS hBF2 hbox hG hz
    unfold LassoPost at HLS
    go_wp2_with fail
    refine HLS.out.mono ?_
    generalize w1.alloc (.cells #[.func (.func fw) #[] cw, .slice ap pvs.length cp] 81) = w2 at *
    rintro e w3 ⟨hb3, hres⟩
    have HB3 : Put (Below w.heap.size w w3) := ⟨HB2.out.trans (hb3.mono HB2.out.size)⟩
    obtain ⟨q', hq⟩ := HG.out.q
    have htp := topsM_of hq
    rcases hres with ⟨h7, rfl⟩ | ⟨h7, i, hi, hno, hok, rfl⟩ | ⟨h7, hok, hnl, rfl⟩ | ⟨h7, hl0, hl1, xs, v, hxl, hxs, hrow, rfl⟩
    · have FIN : Put (HoldD m f L loop false 1 0) := ⟨.inr ⟨HZ.out, .inl ⟨by omega, rfl, .inl ⟨h7, rfl, rfl⟩⟩⟩⟩
      clear hb3 q0 q1 HLS
      go_wp2
      refine bodyPost_ret (v := .tuple #[.bool false, .int .i64 1, .int .i64 0]) (by simp [results, Tryz.results23, go_sem]) rfl ?_
      exact ⟨⟨false, 1, 0, rfl, FIN.out⟩, HB3.out⟩
    · have FIN : Put (HoldD m f L loop false 8 (i : Int)) := ⟨.inr ⟨HZ.out, .inl ⟨by omega, rfl, .inr (.inl ⟨h7, i, hi, fun e => hno (okS_tops.2 (by rw [← htp]; exact e)), fun j hj => by rw [htp]; exact okS_tops.1 (hok j hj), rfl, rfl⟩)⟩⟩⟩
      clear hb3 q0 q1 HLS hno hok
      go_wp2
      refine bodyPost_ret (v := .tuple #[.bool false, .int .i64 8, .int .i64 (i : Nat)]) (by simp [results, Tryz.results23, go_sem]) rfl ?_
      exact ⟨⟨false, 8, _, rfl, FIN.out⟩, HB3.out⟩
    · have FIN : Put (HoldD m f L loop false 9 0) := ⟨.inr ⟨HZ.out, .inl ⟨by omega, rfl, .inr (.inr (.inl ⟨h7, fun s hs => by rw [htp]; exact okS_tops.1 (hok s hs), hnl, rfl, rfl⟩))⟩⟩⟩
      clear hb3 q0 q1 HLS hok
      go_wp2
      refine bodyPost_ret (v := .tuple #[.bool false, .int .i64 9, .int .i64 0]) (by simp [results, Tryz.results23, go_sem]) rfl ?_
      exact ⟨⟨false, 9, 0, rfl, FIN.out⟩, HB3.out⟩
    · obtain ⟨k, rfl⟩ : ∃ k : Nat, loop = (k : Int) := ⟨loop.toNat, by omega⟩
      have hk : k < L.length := by omega
      have hx64 : ∀ y ∈ xs, y < 64 := fun y hy => by
        obtain ⟨j, hj, rfl⟩ := List.getElem_of_mem hy
        exact (hxs j (by omega)).1
      have hsame := held_same (f := f) HZ.out hq hxl hxs hk
      have FIN : Put (HoldD m f L (k : Int) (holdP (tr f (qForm f).1 []).2 (tr f (qForm f).1 []).1 xs k) 0 0) := ⟨.inr ⟨HZ.out, .inr ⟨h7, fun s hs => by
        obtain ⟨j, hj, rfl⟩ := List.getElem_of_mem hs
        rw [htp]; exact okS_tops.1 (hxs j hj).okS, k, hk, rfl, rfl, rfl, hsame.1⟩⟩⟩
      have hb13 : Below w1.heap.size w1 w3 := HBS.out.trans (hb3.mono HBS.out.size)
      have HSH : Put (_) := ⟨sholds_any (w := w1) (W := w3) (S := w1.heap.size) (loop := k) xs v ((hb3.block _ (by omega)).trans HSS.out) HG.out.whole HG.out.parts (tr_in f _) hsame.2 (hb13.ownsRow' HG.out.row) (KP.of_below hb13) (by have := HB3.out.size; have := HT.out.1; omega) (HT.out.2.below HB3.out HT.out.1) hx64 (by omega) (by omega) hrow⟩
      obtain ⟨aov, capv, rfl⟩ := owned_slice' hrow
      have q3 := (hb3.cell (p := ⟨w.heap.size, 1, none⟩) (lt_of_block HBX2.out)).trans q1
      clear hb3 q0 q1 HLS hb13 hsame hx64 hxs hrow hxl
      go_wp2_with fail
      refine HSH.out.mono ?_
      rintro e w4 ⟨rfl, hb4⟩
      have HB4 : Put (Below w.heap.size w w4) := ⟨HB3.out.trans (hb4.mono HB3.out.size)⟩
      clear hb4 HSH
      generalize holdP (tr f (qForm f).1 []).2 (tr f (qForm f).1 []).1 xs k = bb at *
      go_wp2
      refine bodyPost_ret (v := .tuple #[.bool bb, .int .i64 0, .int .i64 0]) (by simp [results, Tryz.results23, go_sem]) rfl ?_
      exact ⟨⟨bb, 0, 0, rfl, FIN.out⟩, HB4.out⟩
end Go.Proofs.YtgoebckimmofoaaGreatDoor
