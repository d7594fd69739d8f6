/- The code's reader: a condition of a rule is kept. Our own text. -/
import Derived.Test.YtkbmolodljenjaaDoorKSt
namespace Go.Proofs.YtkbmolodljenjaaDoor
open Go.RowKit Go.Lib

theorem Tryd.infoC : (Tryd.prog.info? 144).map (fun i => (i.zero, i.size, i.bytes)) = some (some .nilFunc, 1, 8) := by kernel_rfl
theorem Tryd.infoD : (Tryd.prog.info? 167).map (fun i => (i.zero, i.size, i.bytes)) = some (some .nilFunc, 1, 8) := by kernel_rfl
theorem Tryd.infoR : (Tryd.prog.info? 120).map (fun i => (i.zero, i.size, i.bytes)) = some (some .nilFunc, 1, 8) := by kernel_rfl
theorem nil_oneCell : ∀ u ∈ [Value.nilFunc], u.oneCell' = true := by
  intro u hu; simp at hu; subst hu; rfl

section
variable {B M N : Nat} {s : ByteArray} {vs : List V2} {t : T} {x : Junk} {w0 w w5 : World} {cl : List (Tm × Tm)} {dl : List Chg} {rl : List RA} {v : Value} {ys : List Value} {g cap : Nat}
/-- A row of the reader has grown: what else stands. -/
theorem St.grown_fail (h : St B M N s vs t x cl dl rl w0 w) {e : TypeId} {vv : Value} {n : Nat} (ho : w.ownsRow N e 1 vv n ys) (o : Obj) (hg : (w.alloc o).grownBy w5 vv.ownBlock) (i : Nat) (u : Value) : Below M w0 (w5.setCell ⟨B, i, none⟩ u) := by
  have hM := h.rb.lo
  have hN := h.hN
  have h2 : Below M w0 (w.alloc o) := h.lo.alloc (by have := h.rb.ltM; omega) _
  exact (h2.grown hg (by have := h.rb.ltM; simp; omega) (ge_own (by omega) ho)).setCell (by show M ≤ B; omega) _
theorem St.cond_fail (h : St B M N s vs t x cl dl rl w0 w) (ho : w.ownsRow N 144 1 x.vc cl.length ys) (hg : (w.alloc (.cells #[v] 144)).grownBy w5 x.vc.ownBlock) (u : Value) : Fail B M s t w0 (w5.setCell ⟨B, 5, none⟩ u) := by
  have hM := h.rb.lo
  have hN := h.hN
  exact ⟨_, ((h.rb.alloc _).grown hg (ne_own hN ho) (ne_own (by omega) ho)).set5 u, h.grown_fail ho _ hg 5 u⟩
theorem St.cond_push (h : St B M N s vs t x cl dl rl w0 w) {c : Tm × Tm} (ha : cl.length < t.at_) (ho : w.ownsRow N 144 1 x.vc cl.length ys) (hm : All2 (fun v c => FnK 0 w v (fun y => .bool (cdP s c y))) ys cl) (hv : FnK 0 w v (fun y => .bool (cdP s c y)))
    (hg : (w.alloc (.cells #[v] 144)).grownBy w5 x.vc.ownBlock) (hr : w5.ownsRow N 144 1 (.slice (some ⟨g, 0, none⟩) (cl.length + 1) cap) (cl.length + 1) (ys ++ [v])) :
    St B M N s vs t { x with vc := .slice (some ⟨g, 0, none⟩) (cl.length + 1) cap } (cl ++ [c]) dl rl w0 (w5.setCell ⟨B, 5, none⟩ (.slice (some ⟨g, 0, none⟩) (cl.length + 1) cap)) := by
  have hM := h.rb.lo
  have hN := h.hN
  have hb5 := (h.rb.alloc (.cells #[v] 144)).grown hg (ne_own hN ho) (ne_own (by omega) ho)
  have kA : ∀ Z, Kp Z w (w.alloc (.cells #[v] 144)) := fun Z => Kp.alloc _ _ _
  have kG : Kp N (w.alloc (.cells #[v] 144)) w5 := Kp.grown (ho.alloc _) (.inr ⟨by decide, Nat.le_refl _⟩) hg
  have kS : ∀ Z, Kp Z w5 (w5.setCell ⟨B, 5, none⟩ (.slice (some ⟨g, 0, none⟩) (cl.length + 1) cap)) := fun Z => Kp.softSet (p := ⟨B, 5, none⟩) hb5.g.blk soft_R _
  have kN : Kp N w (w5.setCell ⟨B, 5, none⟩ (.slice (some ⟨g, 0, none⟩) (cl.length + 1) cap)) := ((kA N).trans kG).trans (kS N)
  have k0 := kN.mono (Nat.zero_le _)
  obtain ⟨⟨xs, r1, r2⟩, -, ⟨zs, d1, d2⟩⟩ := h.rw
  have FR := ownsRow_setCell_below ((r1.alloc (.cells #[v] 144)).kept hg (apart_of_types r1 ho (by decide))) (a := ⟨B, 5, none⟩) (Nat.lt_succ_self B) (.slice (some ⟨g, 0, none⟩) (cl.length + 1) cap)
  have FH := ownsRow_setCell_below ((d1.alloc (.cells #[v] 144)).kept hg (apart_of_types d1 ho (by decide))) (a := ⟨B, 5, none⟩) hN (.slice (some ⟨g, 0, none⟩) (cl.length + 1) cap)
  have FC := ownsRow_setCell_below hr (a := ⟨B, 5, none⟩) hN (.slice (some ⟨g, 0, none⟩) (cl.length + 1) cap)
  exact ⟨h.nr, h.l8, h.hN, Nat.le_trans h.hNw k0.size, (by simp; omega), h.ld, h.d3, hb5.set5 _,
    ⟨⟨xs, FR, r2.mono (fun _ _ h => h.kp kN)⟩, ⟨ys ++ [v], by rw [List.length_append]; exact FC, All2.snoc (R := fun v c => FnK 0 (w5.setCell ⟨B, 5, none⟩ (.slice (some ⟨g, 0, none⟩) (cl.length + 1) cap)) v (fun y => .bool (cdP s c y))) (b := c) (hv.kp k0) (hm.mono (fun _ _ h => h.kp k0))⟩, ⟨zs, FH, d2.mono (fun _ _ h => h.kp k0)⟩⟩,
    h.grown_fail ho _ hg 5 _, h.gf.same ⟨rfl, rfl, rfl, rfl, rfl, rfl⟩, h.vl⟩

theorem cond_parts {t' : T} (h : pCond s t = (true, t')) : t.at_ < t'.at_ := by
  unfold pCond at h
  split at h
  · cases h
  · next t1 e1 =>
    have s1 := pTerm_same e1
    split at h
    · cases h
    · next t2 e2 =>
      obtain ⟨rfl, _⟩ := pCmp_same e2
      split at h
      · cases h
      · next t3 e3 =>
        have s3 := (pTerm_same e3).1
        have : t1.adv.at_ = t1.at_ + 1 := rfl
        cases h; omega
set_option maxRecDepth 100000 in
set_option maxHeartbeats 1600000 in
theorem ruleCond_any {b : Bool} {t' : T} (hs : s.size ≤ 120) (hat : t.at_ ≤ s.size) (h : St B M N s vs t x cl dl rl w0 w) (hp : pCond s t = (b, t')) :
    Calls Tryd.prog 60 #[.pointer (some ⟨B, 0, none⟩)] w fun e w' => e = .returned (.bool b) ∧ Done b (Fail B M s t' w0 w') (∃ x', St B M N s vs t' x' (cl ++ [cdOf s t.at_]) dl rl w0 w') := by
  obtain ⟨i0, hi, hz0, hz1, hz2⟩ := info_parts Tryd.infoC
  have sm := pCond_same hp hat
  have hNw := h.hNw
  cases b with
  | false =>
    go_enter Tryd.func60, Tryd.ntmps60
    go_wp2_with fail
    refine (cond_no hs hat h.rb.g hp).mono ?_; rintro e w1 ⟨rfl, hg1, hx1⟩
    have hb1 : RB B M s t' x w1 := h.rb.up hg1 hx1 sm.2.1 sm.2.2.2.1
    have h1 := h.ex hb1 hx1 sm.1 sm.2.2.1 sm.2.1
    have c5 := hb1.c5
    obtain ⟨ys, ho, hm⟩ := h1.rw.c
    have HH : Put (_ ∧ _) := ⟨h1, ho⟩
    have hl := h1.lc
    have hsz := hx1.size
    clear h1 h hg1 hb1 hx1 hm
    go_wp2_with (at_builtin; refine wpList_append_own _ rfl _ _ 87 rfl N 144 i0 .nilFunc 1 8 Tryd.underlying87 hi hz0 hz1 hz2 rfl Nat.one_pos _ _ _ rfl (HH.out.2.alloc _) ⟨w1.heap.size, 0, none⟩ 1 1 [.nilFunc] rfl rfl (cell_one_new _ _ _) nil_oneCell (by unfold maxLen; omega) (by omega) (by simp; omega) ?_)
    intro v' w5 hown' hgrow _
    obtain ⟨g5, cap5, rfl⟩ := ownsRow_succ hown'
    have hb5 := (HH.out.1.rb.alloc (.cells #[.nilFunc] 144)).grown hgrow (ne_own HH.out.1.hN HH.out.2) (ne_own (by have := HH.out.1.rb.lo; have := HH.out.1.hN; omega) HH.out.2)
    have d5 := hb5.c5
    have f5 := hb5.free 5
    have FIN : Put (Fail B M s t' w0 (w5.setCell ⟨B, 5, none⟩ (.slice (some ⟨g5, 0, none⟩) (cl.length + 1) cap5))) := ⟨HH.out.1.cond_fail HH.out.2 hgrow _⟩
    clear hb5 hown' hgrow ho HH
    go_wp2
    go_ret
    exact ⟨rfl, FIN.out⟩
  | true =>
    have hlt := cond_parts hp
    go_enter Tryd.func60, Tryd.ntmps60
    go_wp2_with fail
    refine (cond_yes soft_R hs hat h.rb.g hp).mono ?_; rintro e w1 ⟨⟨f1, a1, rfl, hf1⟩, hg1, hx1⟩
    have hb1 : RB B M s t' x w1 := h.rb.up hg1 hx1 sm.2.1 sm.2.2.2.1
    have h1 := h.ex hb1 hx1 sm.1 sm.2.2.1 sm.2.1
    have c5 := hb1.c5
    obtain ⟨ys, ho, hm⟩ := h1.rw.c
    have HH : Put (_ ∧ _ ∧ _ ∧ _) := ⟨h1, ho, hm, hf1⟩
    have hl := h.lc
    have hsz := hx1.size
    clear h1 h hg1 hb1 hx1 hm hf1
    go_wp2_with (at_builtin; refine wpList_append_own _ rfl _ _ 87 rfl N 144 i0 .nilFunc 1 8 Tryd.underlying87 hi hz0 hz1 hz2 rfl Nat.one_pos _ _ _ rfl (HH.out.2.1.alloc _) ⟨w1.heap.size, 0, none⟩ 1 1 [.func f1 #[] a1] rfl rfl (cell_one_new _ _ _) (func_oneCell _ _ _) (by unfold maxLen; omega) (by omega) (by simp; omega) ?_)
    intro v' w5 hown' hgrow _
    obtain ⟨g5, cap5, rfl⟩ := ownsRow_succ hown'
    have hb5 := (HH.out.1.rb.alloc (.cells #[.func f1 #[] a1] 144)).grown hgrow (ne_own HH.out.1.hN HH.out.2.1) (ne_own (by have := HH.out.1.rb.lo; have := HH.out.1.hN; omega) HH.out.2.1)
    have d5 := hb5.c5
    have f5 := hb5.free 5
    have FIN : Put (∃ x', St B M N s vs t' x' (cl ++ [cdOf s t.at_]) dl rl w0 (w5.setCell ⟨B, 5, none⟩ (.slice (some ⟨g5, 0, none⟩) (cl.length + 1) cap5))) := ⟨_, HH.out.1.cond_push (by omega) HH.out.2.1 HH.out.2.2.1 HH.out.2.2.2 hgrow hown'⟩
    clear hb5 hown' hgrow ho HH
    go_wp2
    go_ret
    exact ⟨rfl, FIN.out⟩
end
end Go.Proofs.YtkbmolodljenjaaDoor
