import Derived.Test.YtgoebckimmofoaaGreatDoorA11
import Derived.Test.YtgoebckimmofoaaGreatDoorA9
import Derived.Test.YtgoebckimmofoaaGreatDoorA3
import Derived.Laws.EntriesVeiled
/- Brackets. Our own text. -/
namespace Go.Proofs.YtgoebckimmofoaaGreatDoor
open Go.RowKit Go.Lib
theorem WV.one (o : Nat) : ∀ u ∈ (⟨o, .nilFunc⟩ : WV).cells, u.oneCell' = true := by
  intro u hu
  simp only [WV.cells, List.mem_cons, List.not_mem_nil, or_false] at hu
  rcases hu with rfl | rfl <;> rfl
theorem not_bin40 : ¬ binS 40 := by unfold binS; omega
section
variable {B M : Nat} {s : ByteArray} {t t' : T} {wh : Value} {opn deep : Nat} {ps : List Pt} {st : List (Nat × G)} {w w' : World} {g : G}
/-- One more waits. -/
theorem FC.push {pvs : List PtV} {wvs : List WV} {j : FJ} {w5 : World} {gg cap : Nat} (h : FRv B M s t wh opn deep pvs wvs j w) (hpo : All2 (PartOk w) pvs ps) (hall : All2 (WaitOk w) wvs st.reverse) (x : WV) (e : Nat × G) (hx : WaitOk w x e)
    (hg : w.grownBy w5 (Value.slice j.aw wvs.length j.cw).ownBlock) (hr : w5.ownsRow (B + 1) 259 2 (.slice (some ⟨gg, 0, none⟩) (wvs.length + 1) cap) (wvs.length + 1) (wvs.flatMap WV.cells ++ x.cells)) :
    FC B M s t wh opn deep ps (e :: st) (w5.setCell ⟨B, 7, none⟩ (.slice (some ⟨gg, 0, none⟩) (wvs.length + 1) cap)) ∧ Fr B w (w5.setCell ⟨B, 7, none⟩ (.slice (some ⟨gg, 0, none⟩) (wvs.length + 1) cap)) := by
  obtain ⟨h1, h2⟩ := h.grownW (wvs' := wvs ++ [x]) (aw' := some ⟨gg, 0, none⟩) (cw' := cap) hg (by rw [List.length_append, List.flatMap_append]; simpa using hr)
  rw [List.length_append] at h1 h2
  refine ⟨⟨wvs ++ [x], _, _, ⟨pvs, _, _, h1, hpo.mono (fun _ _ h => h.kp h2.k)⟩, ?_⟩, h2⟩
  rw [List.reverse_cons]
  exact All2.snoc (R := WaitOk _) (hx.kp h2.k) (WaitOk.all hall h2.k)
theorem FC.cells (h : FC B M s t wh opn deep ps st w) : w.cell? ⟨B, 1, none⟩ = some (.int .i64 t.at_) ∧ w.cell? ⟨B, 8, none⟩ = some (.int .i64 opn) ∧ w.cell? ⟨B, 9, none⟩ = some (.int .i64 deep) ∧ w.cell? ⟨B, 5, none⟩ = some wh ∧ ∀ i, w.frozen? ⟨B, i, none⟩ = false := by
  obtain ⟨wvs, aw, cw, ⟨pvs, ap, cp, hfr, hpo⟩, hall⟩ := h
  exact ⟨hfr.g.c1, hfr.c8, hfr.c9, hfr.c5, hfr.free⟩
theorem FC.set8 (h : FC B M s t wh opn deep ps st w) (k : Nat) : FC B M s t wh k deep ps st (w.setCell ⟨B, 8, none⟩ (.int .i64 k)) ∧ Fr B w (w.setCell ⟨B, 8, none⟩ (.int .i64 k)) := by
  obtain ⟨wvs, aw, cw, ⟨pvs, ap, cp, hfr, hpo⟩, hall⟩ := h
  have hF := hfr.frSet 8 (.int .i64 k)
  exact ⟨⟨wvs, aw, cw, ⟨pvs, ap, cp, hfr.set8 k, hpo.mono (fun _ _ h => h.kp hF.k)⟩, WaitOk.all hall hF.k⟩, hF⟩
theorem FC.set9 (h : FC B M s t wh opn deep ps st w) (k : Nat) : FC B M s t wh opn k ps st (w.setCell ⟨B, 9, none⟩ (.int .i64 k)) ∧ Fr B w (w.setCell ⟨B, 9, none⟩ (.int .i64 k)) := by
  obtain ⟨wvs, aw, cw, ⟨pvs, ap, cp, hfr, hpo⟩, hall⟩ := h
  have hF := hfr.frSet 9 (.int .i64 k)
  exact ⟨⟨wvs, aw, cw, ⟨pvs, ap, cp, hfr.set9 k, hpo.mono (fun _ _ h => h.kp hF.k)⟩, WaitOk.all hall hF.k⟩, hF⟩
theorem FC.set5 (h : FC B M s t wh opn deep ps st w) (v : Value) : FC B M s t v opn deep ps st (w.setCell ⟨B, 5, none⟩ v) ∧ Fr B w (w.setCell ⟨B, 5, none⟩ v) := by
  obtain ⟨wvs, aw, cw, ⟨pvs, ap, cp, hfr, hpo⟩, hall⟩ := h
  have hF := hfr.frSet 5 v
  exact ⟨⟨wvs, aw, cw, ⟨pvs, ap, cp, hfr.set5 v, hpo.mono (fun _ _ h => h.kp hF.k)⟩, WaitOk.all hall hF.k⟩, hF⟩
set_option maxRecDepth 100000 in
set_option maxHeartbeats 1600000 in
theorem opens_no (hs : s.size ≤ 120) (hat : t.at_ ≤ s.size) (h : FC B M s t wh opn deep ps st w) (hn : num? s t.at_ 40 0 0 = none) :
    Calls Tryz.prog 138 #[.pointer (some ⟨B, 0, none⟩)] w fun e w' => e = .returned (.bool false) ∧ FC B M s t wh opn deep ps st w' ∧ Fr B w w' := by
  obtain ⟨rest, hg, hup⟩ := h.step
  have HT : Put (_) := ⟨take_no0 40 hs hat (by omega) hg hn⟩
  have HU : Put (_) := ⟨hup⟩
  clear h hg hup hn
  go_enter Tryz.func138, Tryz.ntmps138
  go_wp2_with fail
  refine HT.out.mono ?_
  rintro e w1 ⟨rfl, hg1, hx1⟩
  have FIN : Put (_ ∧ _) := ⟨HU.out _ _ hg1 hx1⟩
  clear hg1 hx1
  go_wp2
  go_ret
  exact ⟨rfl, FIN.out⟩
set_option maxRecDepth 100000 in
set_option maxHeartbeats 1600000 in
theorem opens_yes {k : Nat} (hs : s.size ≤ 120) (hl : st.length ≤ 60) (ho : opn ≤ 60) (h : FC B M s t wh opn deep ps st w) (hn : num? s t.at_ 40 0 0 = some k) :
    Calls Tryz.prog 138 #[.pointer (some ⟨B, 0, none⟩)] w fun e w' => e = .returned (.bool true) ∧ FC B M s t.adv wh (opn + 1) (if 10 < opn + 1 ∧ deep = 0 then t.at_ else deep) ps ((40, g) :: st) w' ∧ Fr B w w' := by
  obtain ⟨i0, hi, hz0, hz1, hz2⟩ := info_parts infoW
  have hlt := num_lt hn
  obtain ⟨D, hD⟩ : ∃ D, D = (if 10 < opn + 1 ∧ deep = 0 then t.at_ else deep) := ⟨_, rfl⟩
  rw [← hD]
  have HD : Put (_ = _) := ⟨hD⟩
  clear hD
  obtain ⟨rest, hg, hup⟩ := h.step
  have HT : Put (_) := ⟨take_yes0 40 k hs (by omega) hg hn⟩
  have HU : Put (_) := ⟨hup⟩
  clear h hg hup hn
  go_enter Tryz.func138, Tryz.ntmps138
  go_wp2_with fail
  refine HT.out.mono ?_
  rintro e w1 ⟨rfl, hg1, hx1⟩
  obtain ⟨hc1, hF1⟩ := HU.out _ _ hg1 hx1
  obtain ⟨wvs, aw, cw, ⟨pvs, ap, cp, hfr, hpo⟩, hall⟩ := hc1
  have hwl : wvs.length ≤ 60 := by have := hall.length; simp at this; omega
  have d7 := hfr.c7
  have hB := hfr.lt
  have HH : Put (_ ∧ _ ∧ _ ∧ _) := ⟨hfr, hpo, hall, hF1⟩
  clear hg1 hx1 HT HU hfr hpo hall hF1
  go_wp2_with (at_builtin; refine wpList_append_own _ rfl _ _ 202 rfl (B + 1) 259 i0 _ 2 16 Tryz.underlying202 hi hz0 hz1 hz2 rfl (Nat.succ_pos 1) (.slice aw wvs.length cw) wvs.length (wvs.flatMap WV.cells) rfl (HH.out.1.q.alloc _) ⟨w1.heap.size, 0, none⟩ 1 1 ((⟨40, .nilFunc⟩ : WV).cells) rfl rfl (news_here _ _ _) (WV.one 40) ?c3 ?c4 ?c5 ?_)
  case c3 => unfold maxLen; omega
  case c4 => omega
  case c5 => simp; omega
  intro v' w5 hown' hgrow _
  obtain ⟨g5, cap5, hv5⟩ := owned_form hown' (by omega)
  subst hv5
  have hal : Below w1.heap.size w1 (w1.alloc (.cells ((⟨40, .nilFunc⟩ : WV).cells).toArray 259)) := (Below.refl _ _).alloc (Nat.le_refl _) _
  have hfa := HH.out.1.below hal
  have g5' := hfa.g.grown hgrow (ne_own (Nat.lt_succ_self B) hfa.q) (ne_own (Nat.lt_trans hfa.g.lo (Nat.lt_succ_self B)) hfa.q)
  have k7 : w5.cell? ⟨B, 7, none⟩ = some (.slice aw wvs.length cw) := by simp [World.cell?, g5'.blk, rblk, frest]
  have f7 := g5'.free 7
  obtain ⟨hc6, hF6⟩ := FC.push (st := st) hfa (HH.out.2.1.mono (fun _ _ h => h.kp (KP.of_below hal))) (WaitOk.all HH.out.2.2.1 (KP.of_below hal)) ⟨40, .nilFunc⟩ (40, g) ⟨rfl, by show 40 < 256; omega, .inl rfl, fun h => absurd h not_bin40⟩ hgrow hown'
  have hF6' := (HH.out.2.2.2.trans (Fr.of_below hal (Nat.le_of_lt hB))).trans hF6
  obtain ⟨e1, e8, e9, -, efr⟩ := hc6.cells
  have fr8 := efr 8
  have fr9 := efr 9
  have H6 : Put (_ ∧ _) := ⟨hc6, hF6'⟩
  have he1 : ((t.adv.at_ : Nat) : Int) - 1 = (t.at_ : Int) := by show ((t.at_ + 1 : Nat) : Int) - 1 = _; omega
  have hat' : t.adv.at_ ≤ 120 := by show t.at_ + 1 ≤ 120; omega
  clear hal hfa g5' hc6 hF6 hF6' hown' hgrow efr HH d7
  generalize t.adv.at_ = ta at *
  obtain ⟨h7c, h7F⟩ := H6.out.1.set8 (opn + 1)
  obtain ⟨-, -, m9, -, mfr⟩ := h7c.cells
  have H7 : Put (_ ∧ _) := ⟨h7c, H6.out.2.trans h7F⟩
  have cst : ((opn + 1 : Nat) : Int) = (opn : Int) + 1 := by omega
  rw [cst] at H7
  clear h7c h7F H6 m9 mfr
  by_cases hd : 10 < opn + 1 ∧ deep = 0
  · have hd1 : (10 : Int) < (opn : Int) + 1 := by omega
    have hd2 : deep = 0 := hd.2
    have FIN : Put (_ ∧ _) := ⟨H7.out.1.set9 t.at_⟩
    have HE : Put (D = t.at_) := ⟨by rw [HD.out, if_pos hd]⟩
    subst hd2
    clear hd
    go_wp2
    go_ret
    rw [HE.out]
    exact ⟨rfl, FIN.out.1, H7.out.2.trans FIN.out.2⟩
  · have HE : Put (D = deep) := ⟨by rw [HD.out, if_neg hd]⟩
    by_cases h10 : 10 < opn + 1
    · have hd1 : (10 : Int) < (opn : Int) + 1 := by omega
      have hd2 : ((deep : Int) == 0) = false := by simp; omega
      clear hd h10
      go_wp2
      go_ret
      rw [HE.out]
      exact ⟨rfl, H7.out⟩
    · have hd1 : ¬ (10 : Int) < (opn : Int) + 1 := by omega
      clear hd h10
      go_wp2
      go_ret
      rw [HE.out]
      exact ⟨rfl, H7.out⟩
set_option maxRecDepth 100000 in
set_option maxHeartbeats 1600000 in
theorem closes_zero (h : FC B M s t wh 0 deep ps st w) :
    Calls Tryz.prog 143 #[.pointer (some ⟨B, 0, none⟩)] w fun e w' => e = .returned (.bool false) ∧ FC B M s t wh 0 deep ps st w' ∧ Fr B w w' := by
  obtain ⟨-, e8, -, -, -⟩ := h.cells
  have HH : Put (_) := ⟨h⟩
  clear h
  go_enter Tryz.func143, Tryz.ntmps143
  go_wp2
  go_ret
  exact ⟨rfl, HH.out, Fr.refl _ _⟩
set_option maxRecDepth 100000 in
set_option maxHeartbeats 1600000 in
theorem closes_no (hs : s.size ≤ 120) (hat : t.at_ ≤ s.size) (ho : opn ≠ 0) (h : FC B M s t wh opn deep ps st w) (hn : num? s t.at_ 41 0 0 = none) :
    Calls Tryz.prog 143 #[.pointer (some ⟨B, 0, none⟩)] w fun e w' => e = .returned (.bool false) ∧ FC B M s t wh opn deep ps st w' ∧ Fr B w w' := by
  obtain ⟨-, e8, -, -, -⟩ := h.cells
  obtain ⟨rest, hg, hup⟩ := h.step
  have HT : Put (_) := ⟨take_no0 41 hs hat (by omega) hg hn⟩
  have HU : Put (_) := ⟨hup⟩
  have ho' : ((opn : Int) == 0) = false := by simp; omega
  clear h hg hup hn ho
  go_enter Tryz.func143, Tryz.ntmps143
  go_wp2_with fail
  refine HT.out.mono ?_
  rintro e w1 ⟨rfl, hg1, hx1⟩
  have FIN : Put (_ ∧ _) := ⟨HU.out _ _ hg1 hx1⟩
  clear hg1 hx1
  go_wp2
  go_ret
  exact ⟨rfl, FIN.out⟩
set_option maxRecDepth 100000 in
set_option maxHeartbeats 1600000 in
theorem closes_yes {k : Nat} {e : Nat × G} (hs : s.size ≤ 120) (hl : st.length ≤ 60) (ho : opn ≠ 0) (ho60 : opn ≤ 60) (h : FC B M s t wh opn deep ps (e :: st) w) (hn : num? s t.at_ 41 0 0 = some k) :
    Calls Tryz.prog 143 #[.pointer (some ⟨B, 0, none⟩)] w fun e w' => e = .returned (.bool true) ∧ FC B M s t.adv wh (opn - 1) deep ps st w' ∧ Fr B w w' := by
  obtain ⟨-, e8, -, -, -⟩ := h.cells
  obtain ⟨rest, hg, hup⟩ := h.step
  have HT : Put (_) := ⟨take_yes0 41 k hs (by omega) hg hn⟩
  have HU : Put (_) := ⟨hup⟩
  have ho' : ((opn : Int) == 0) = false := by simp; omega
  clear h hg hup hn
  go_enter Tryz.func143, Tryz.ntmps143
  go_wp2_with fail
  refine HT.out.mono ?_
  rintro e' w1 ⟨rfl, hg1, hx1⟩
  obtain ⟨hc1, hF1⟩ := HU.out _ _ hg1 hx1
  obtain ⟨wvs, aw, cw, hfp, hall⟩ := hc1
  have hall' : All2 (WaitOk w1) wvs (st.reverse ++ [e]) := by simpa using hall
  obtain ⟨wvs', x, rfl, ha1, hx⟩ := all2_snoc hall'
  have hwl : wvs'.length = st.length := by have := ha1.length; simpa using this
  have d7 : w1.cell? ⟨B, 7, none⟩ = some (.slice aw (wvs'.length + 1) cw) := by
    obtain ⟨pvs, ap, cp, hfr, _⟩ := hfp
    have := hfr.c7
    rw [List.length_append] at this; exact this
  obtain ⟨gr, hgr⟩ : ∃ gr, aw = some ⟨gr, 0, none⟩ := by
    obtain ⟨pvs, ap, cp, hfr, _⟩ := hfp
    obtain ⟨g, h1, _⟩ := hfr.last
    exact ⟨g, h1⟩
  subst hgr
  obtain ⟨f7, hcw, hfp4, hfr4⟩ := hfp.popW
  have hc4 : FC B M s t.adv wh opn deep ps st _ := ⟨wvs', _, _, hfp4, WaitOk.all ha1 hfr4.k⟩
  obtain ⟨-, e8', -, -, efr⟩ := hc4.cells
  have fr8 := efr 8
  obtain ⟨hc5, hF5⟩ := hc4.set8 (opn - 1)
  have FIN : Put (_ ∧ _) := ⟨hc5, (hF1.trans hfr4).trans hF5⟩
  have cst : ((opn - 1 : Nat) : Int) = (opn : Int) - 1 := by omega
  rw [cst] at FIN
  have hn60 : wvs'.length ≤ 60 := by omega
  clear hfp hfp4 hfr4 hc4 hc5 hF5 efr hall hall' ha1 hx hF1 HU HT hg1 hx1 hwl
  generalize wvs'.length = n at *
  obtain ⟨L, hL⟩ : ∃ L, L = n + 1 := ⟨_, rfl⟩
  rw [← hL] at d7 hcw
  have i0 : (L : Int) - 1 = (n : Int) := by omega
  have i1 : (0 : Int) ≤ (n : Int) := by omega
  have i2 : (n : Int) ≤ (L : Int) := by omega
  have i3 : (n : Int) ≤ (cw : Int) := by omega
  have i4 : IntKind.i64.wrap (n : Int) = (n : Int) := by simp [IntKind.wrap, IntKind.signed, IntKind.bits]; omega
  clear hL
  go_wp2_with fail
  refine wp_region_held (S := fun _ => True) (by kernel_rfl) ?_
  have hS0 : (fun _ : World => True) { w1 with drawn := w1.drawn + 1 } := trivial
  refine wpAnyH_take (i := 0) (v := ?_) rfl (by kernel_rfl) (by kernel_rfl) (by kernel_rfl) (fun _ _ _ h => h) (Or.inl ⟨by rfl, ?_⟩) hS0 ?_
  rotate_left
  · intro w hSw; (try dsimp only at hSw); go_simp; try (with_reducible rfl)
  rotate_left
  (try simp only [Act.put, List.setIfInBounds_toArray])
  refine wpAnyH_take (i := 1) (v := ?_) rfl (by kernel_rfl) (by kernel_rfl) (by kernel_rfl) (fun _ _ _ h => h) (Or.inl ⟨by rfl, ?_⟩) hS0 ?_
  rotate_left
  · intro w hSw; (try dsimp only at hSw); go_simp; try (with_reducible rfl)
  rotate_left
  (try simp only [Act.put])
  refine wpAnyH_take (i := 2) (v := ?_) rfl (by kernel_rfl) (by kernel_rfl) (by kernel_rfl) (fun _ _ _ h => h) (Or.inl ⟨by rfl, ?_⟩) hS0 ?_
  rotate_left
  · intro w hSw; (try dsimp only at hSw); go_simp; try (with_reducible rfl)
  rotate_left
  (try simp only [Act.put])
  refine wpAnyH_take (i := 3) (v := ?_) rfl (by kernel_rfl) (by kernel_rfl) (by kernel_rfl) (fun _ _ _ h => h) (Or.inl ⟨by rfl, ?_⟩) hS0 ?_
  rotate_left
  · intro w hSw; (try dsimp only at hSw); go_simp; try (with_reducible rfl)
  rotate_left
  (try simp only [Act.put])
  refine wpAnyH_take (i := 5) (v := ?_) rfl (by kernel_rfl) (by kernel_rfl) (by kernel_rfl) (fun _ _ _ h => h) (Or.inl ⟨by rfl, ?_⟩) hS0 ?_
  rotate_left
  · intro w hSw; (try dsimp only at hSw); go_simp; try (with_reducible rfl)
  rotate_left
  (try simp only [Act.put])
  refine wpAnyH_take (i := 6) (v := ?_) rfl (by kernel_rfl) (by kernel_rfl) (by kernel_rfl) (fun _ _ _ h => h) (Or.inl ⟨by rfl, ?_⟩) hS0 ?_
  rotate_left
  · intro w hSw; (try dsimp only at hSw); go_simp; try (with_reducible rfl)
  rotate_left
  (try simp only [Act.put])
  refine wpAnyH_take (i := 7) (v := ?_) rfl (by kernel_rfl) (by kernel_rfl) (by kernel_rfl) (fun _ _ _ h => h) (Or.inl ⟨by rfl, ?_⟩) hS0 ?_
  rotate_left
  · intro w hSw; (try dsimp only at hSw); go_simp; try (with_reducible rfl)
  rotate_left
  (try simp only [Act.put])
  refine wpAnyH_ready (rs := [4, 8]) (by kernel_rfl) (by simp) ?_
  refine AllReadyH.cons rfl (fun K hK => ?_) ?_
  ·
    go_simp
    refine hK.out _ _ ?_ (fun _ => ?_)
    · exact trivial
    clear hK K
    (try simp only [Act.put, List.setIfInBounds_toArray, List.set_cons_zero, List.set_cons_succ])
    refine wpAnyH_ready (rs := [8]) (by kernel_rfl) (by simp) ?_
    refine AllReadyH.cons rfl (fun K hK => ?_) ?_
    ·
      go_simp
      refine hK.out _ _ ?_ (fun _ => ?_)
      · exact trivial
      clear hK K
      (try simp only [Act.put, List.setIfInBounds_toArray, List.set_cons_zero, List.set_cons_succ])
      refine wpAnyH_ready (rs := [9]) (by kernel_rfl) (by simp) ?_
      refine AllReadyH.cons rfl (fun K hK => ?_) ?_
      ·
        go_simp
        refine hK.out _ _ ?_ (fun _ => ?_)
        · exact trivial
        clear hK K
        (try simp only [Act.put, List.setIfInBounds_toArray, List.set_cons_zero, List.set_cons_succ])
        refine wpAnyH_ready (rs := [10]) (by kernel_rfl) (by simp) ?_
        refine AllReadyH.cons rfl (fun K hK => ?_) ?_
        ·
          go_simp
          refine hK.out _ _ ?_ (fun _ => ?_)
          · exact trivial
          clear hK K
          (try simp only [Act.put, List.setIfInBounds_toArray, List.set_cons_zero, List.set_cons_succ])
          refine wpAnyH_ready (rs := [11]) (by kernel_rfl) (by simp) ?_
          refine AllReadyH.cons rfl (fun K hK => ?_) ?_
          ·
            go_simp
            refine hK.out _ _ ?_ (fun _ => ?_)
            · exact trivial
            clear hK K
            (try simp only [Act.put, List.setIfInBounds_toArray, List.set_cons_zero, List.set_cons_succ])
            refine wpAnyH_ready (rs := [12]) (by kernel_rfl) (by simp) ?_
            refine AllReadyH.cons rfl (fun K hK => ?_) ?_
            ·
              go_simp
              refine hK.out _ _ ?_ (fun _ => ?_)
              · exact trivial
              clear hK K
              (try simp only [Act.put, List.setIfInBounds_toArray, List.set_cons_zero, List.set_cons_succ])
              refine wpAnyH_ready (rs := [13]) (by kernel_rfl) (by simp) ?_
              refine AllReadyH.cons rfl (fun K hK => ?_) ?_
              ·
                go_simp
                refine hK.out _ _ ?_ (fun _ => ?_)
                · exact trivial
                clear hK K
                (try simp only [Act.put, List.setIfInBounds_toArray, List.set_cons_zero, List.set_cons_succ])
                refine wpAnyH_ready (rs := [14]) (by kernel_rfl) (by simp) ?_
                refine AllReadyH.cons rfl (fun K hK => ?_) ?_
                ·
                  go_simp
                  refine hK.out _ _ ?_ (fun _ => ?_)
                  · exact trivial
                  clear hK K
                  (try simp only [Act.put, List.setIfInBounds_toArray, List.set_cons_zero, List.set_cons_succ])
                  refine wpAnyH_done (by kernel_rfl) ?_ _
                  go_wp2
                  go_ret
                  exact ⟨rfl, FIN.out.1.below ((Below.refl _ _).drew), FIN.out.2.trans (Fr.of_below ((Below.refl _ _).drew) (Nat.le_of_lt FIN.out.1.lt))⟩
                exact AllReadyH.nil
              exact AllReadyH.nil
            exact AllReadyH.nil
          exact AllReadyH.nil
        exact AllReadyH.nil
      exact AllReadyH.nil
    exact AllReadyH.nil
  refine AllReadyH.cons rfl (fun K hK => ?_) ?_
  ·
    go_simp
    refine hK.out _ _ ?_ (fun _ => ?_)
    · exact trivial
    clear hK K
    (try simp only [Act.put, List.setIfInBounds_toArray, List.set_cons_zero, List.set_cons_succ])
    refine wpAnyH_ready (rs := [4, 9]) (by kernel_rfl) (by simp) ?_
    refine AllReadyH.cons rfl (fun K hK => ?_) ?_
    ·
      go_simp
      refine hK.out _ _ ?_ (fun _ => ?_)
      · exact trivial
      clear hK K
      (try simp only [Act.put, List.setIfInBounds_toArray, List.set_cons_zero, List.set_cons_succ])
      refine wpAnyH_ready (rs := [9]) (by kernel_rfl) (by simp) ?_
      refine AllReadyH.cons rfl (fun K hK => ?_) ?_
      ·
        go_simp
        refine hK.out _ _ ?_ (fun _ => ?_)
        · exact trivial
        clear hK K
        (try simp only [Act.put, List.setIfInBounds_toArray, List.set_cons_zero, List.set_cons_succ])
        refine wpAnyH_ready (rs := [10]) (by kernel_rfl) (by simp) ?_
        refine AllReadyH.cons rfl (fun K hK => ?_) ?_
        ·
          go_simp
          refine hK.out _ _ ?_ (fun _ => ?_)
          · exact trivial
          clear hK K
          (try simp only [Act.put, List.setIfInBounds_toArray, List.set_cons_zero, List.set_cons_succ])
          refine wpAnyH_ready (rs := [11]) (by kernel_rfl) (by simp) ?_
          refine AllReadyH.cons rfl (fun K hK => ?_) ?_
          ·
            go_simp
            refine hK.out _ _ ?_ (fun _ => ?_)
            · exact trivial
            clear hK K
            (try simp only [Act.put, List.setIfInBounds_toArray, List.set_cons_zero, List.set_cons_succ])
            refine wpAnyH_ready (rs := [12]) (by kernel_rfl) (by simp) ?_
            refine AllReadyH.cons rfl (fun K hK => ?_) ?_
            ·
              go_simp
              refine hK.out _ _ ?_ (fun _ => ?_)
              · exact trivial
              clear hK K
              (try simp only [Act.put, List.setIfInBounds_toArray, List.set_cons_zero, List.set_cons_succ])
              refine wpAnyH_ready (rs := [13]) (by kernel_rfl) (by simp) ?_
              refine AllReadyH.cons rfl (fun K hK => ?_) ?_
              ·
                go_simp
                refine hK.out _ _ ?_ (fun _ => ?_)
                · exact trivial
                clear hK K
                (try simp only [Act.put, List.setIfInBounds_toArray, List.set_cons_zero, List.set_cons_succ])
                refine wpAnyH_ready (rs := [14]) (by kernel_rfl) (by simp) ?_
                refine AllReadyH.cons rfl (fun K hK => ?_) ?_
                ·
                  go_simp
                  refine hK.out _ _ ?_ (fun _ => ?_)
                  · exact trivial
                  clear hK K
                  (try simp only [Act.put, List.setIfInBounds_toArray, List.set_cons_zero, List.set_cons_succ])
                  refine wpAnyH_done (by kernel_rfl) ?_ _
                  go_wp2
                  go_ret
                  exact ⟨rfl, FIN.out.1.below ((Below.refl _ _).drew), FIN.out.2.trans (Fr.of_below ((Below.refl _ _).drew) (Nat.le_of_lt FIN.out.1.lt))⟩
                exact AllReadyH.nil
              exact AllReadyH.nil
            exact AllReadyH.nil
          exact AllReadyH.nil
        exact AllReadyH.nil
      exact AllReadyH.nil
    refine AllReadyH.cons rfl (fun K hK => ?_) ?_
    ·
      go_simp
      refine hK.out _ _ ?_ (fun _ => ?_)
      · exact trivial
      clear hK K
      (try simp only [Act.put, List.setIfInBounds_toArray, List.set_cons_zero, List.set_cons_succ])
      refine wpAnyH_ready (rs := [4, 10]) (by kernel_rfl) (by simp) ?_
      refine AllReadyH.cons rfl (fun K hK => ?_) ?_
      ·
        go_simp
        refine hK.out _ _ ?_ (fun _ => ?_)
        · exact trivial
        clear hK K
        (try simp only [Act.put, List.setIfInBounds_toArray, List.set_cons_zero, List.set_cons_succ])
        refine wpAnyH_ready (rs := [10]) (by kernel_rfl) (by simp) ?_
        refine AllReadyH.cons rfl (fun K hK => ?_) ?_
        ·
          go_simp
          refine hK.out _ _ ?_ (fun _ => ?_)
          · exact trivial
          clear hK K
          (try simp only [Act.put, List.setIfInBounds_toArray, List.set_cons_zero, List.set_cons_succ])
          refine wpAnyH_ready (rs := [11]) (by kernel_rfl) (by simp) ?_
          refine AllReadyH.cons rfl (fun K hK => ?_) ?_
          ·
            go_simp
            refine hK.out _ _ ?_ (fun _ => ?_)
            · exact trivial
            clear hK K
            (try simp only [Act.put, List.setIfInBounds_toArray, List.set_cons_zero, List.set_cons_succ])
            refine wpAnyH_ready (rs := [12]) (by kernel_rfl) (by simp) ?_
            refine AllReadyH.cons rfl (fun K hK => ?_) ?_
            ·
              go_simp
              refine hK.out _ _ ?_ (fun _ => ?_)
              · exact trivial
              clear hK K
              (try simp only [Act.put, List.setIfInBounds_toArray, List.set_cons_zero, List.set_cons_succ])
              refine wpAnyH_ready (rs := [13]) (by kernel_rfl) (by simp) ?_
              refine AllReadyH.cons rfl (fun K hK => ?_) ?_
              ·
                go_simp
                refine hK.out _ _ ?_ (fun _ => ?_)
                · exact trivial
                clear hK K
                (try simp only [Act.put, List.setIfInBounds_toArray, List.set_cons_zero, List.set_cons_succ])
                refine wpAnyH_ready (rs := [14]) (by kernel_rfl) (by simp) ?_
                refine AllReadyH.cons rfl (fun K hK => ?_) ?_
                ·
                  go_simp
                  refine hK.out _ _ ?_ (fun _ => ?_)
                  · exact trivial
                  clear hK K
                  (try simp only [Act.put, List.setIfInBounds_toArray, List.set_cons_zero, List.set_cons_succ])
                  refine wpAnyH_done (by kernel_rfl) ?_ _
                  go_wp2
                  go_ret
                  exact ⟨rfl, FIN.out.1.below ((Below.refl _ _).drew), FIN.out.2.trans (Fr.of_below ((Below.refl _ _).drew) (Nat.le_of_lt FIN.out.1.lt))⟩
                exact AllReadyH.nil
              exact AllReadyH.nil
            exact AllReadyH.nil
          exact AllReadyH.nil
        exact AllReadyH.nil
      refine AllReadyH.cons rfl (fun K hK => ?_) ?_
      ·
        go_simp
        refine hK.out _ _ ?_ (fun _ => ?_)
        · exact trivial
        clear hK K
        (try simp only [Act.put, List.setIfInBounds_toArray, List.set_cons_zero, List.set_cons_succ])
        refine wpAnyH_ready (rs := [4]) (by kernel_rfl) (by simp) ?_
        refine AllReadyH.cons rfl (fun K hK => ?_) ?_
        ·
          go_simp
          refine hK.out _ _ ?_ (fun _ => ?_)
          · exact trivial
          clear hK K
          (try simp only [Act.put, List.setIfInBounds_toArray, List.set_cons_zero, List.set_cons_succ])
          refine wpAnyH_ready (rs := [11]) (by kernel_rfl) (by simp) ?_
          refine AllReadyH.cons rfl (fun K hK => ?_) ?_
          ·
            go_simp
            refine hK.out _ _ ?_ (fun _ => ?_)
            · exact trivial
            clear hK K
            (try simp only [Act.put, List.setIfInBounds_toArray, List.set_cons_zero, List.set_cons_succ])
            refine wpAnyH_ready (rs := [12]) (by kernel_rfl) (by simp) ?_
            refine AllReadyH.cons rfl (fun K hK => ?_) ?_
            ·
              go_simp
              refine hK.out _ _ ?_ (fun _ => ?_)
              · exact trivial
              clear hK K
              (try simp only [Act.put, List.setIfInBounds_toArray, List.set_cons_zero, List.set_cons_succ])
              refine wpAnyH_ready (rs := [13]) (by kernel_rfl) (by simp) ?_
              refine AllReadyH.cons rfl (fun K hK => ?_) ?_
              ·
                go_simp
                refine hK.out _ _ ?_ (fun _ => ?_)
                · exact trivial
                clear hK K
                (try simp only [Act.put, List.setIfInBounds_toArray, List.set_cons_zero, List.set_cons_succ])
                refine wpAnyH_ready (rs := [14]) (by kernel_rfl) (by simp) ?_
                refine AllReadyH.cons rfl (fun K hK => ?_) ?_
                ·
                  go_simp
                  refine hK.out _ _ ?_ (fun _ => ?_)
                  · exact trivial
                  clear hK K
                  (try simp only [Act.put, List.setIfInBounds_toArray, List.set_cons_zero, List.set_cons_succ])
                  refine wpAnyH_done (by kernel_rfl) ?_ _
                  go_wp2
                  go_ret
                  exact ⟨rfl, FIN.out.1.below ((Below.refl _ _).drew), FIN.out.2.trans (Fr.of_below ((Below.refl _ _).drew) (Nat.le_of_lt FIN.out.1.lt))⟩
                exact AllReadyH.nil
              exact AllReadyH.nil
            exact AllReadyH.nil
          exact AllReadyH.nil
        exact AllReadyH.nil
      exact AllReadyH.nil
    exact AllReadyH.nil
  exact AllReadyH.nil
end
end Go.Proofs.YtgoebckimmofoaaGreatDoor

/- What a variable is changed to: read, and what it means. Our own text. -/
namespace Go.Proofs.YtgoebckimmofoaaGreatDoor
open Go.RowKit Go.Lib

theorem fn84_any (b c : Nat) (y : Int) (h1 : 1 ≤ c) (h4 : c ≤ 4) (W : World) (hb : W.heap[b]? = some (.cells #[.int .i64 c] 3 (0, 0))) : Calls Tryz.prog 152 #[.int .u8 y, .pointer (some ⟨b, 0, none⟩)] W fun e W' => e = .returned (.int .u8 (2 ^ c - 1 : Nat)) ∧ W' = W := by
  have cc := box_cell hb
  go_enter Tryz.func152, Tryz.ntmps152
  go_wp2_with fail
  refine (below8_any c h1 h4 W).mono ?_
  rintro e w' ⟨rfl, rfl⟩
  go_wp2
  go_ret
  exact ⟨rfl, rfl⟩
set_option maxRecDepth 100000 in
set_option maxHeartbeats 1600000 in
theorem fn86_any (b1 b2 b3 m c y : Nat) (hy : y < 64) (h1 : 1 ≤ c) (h4 : c ≤ 4) (hm : m ≤ 3) (v : Value) (L : Nat → Nat) (hL3 : L y ≤ 3) (w W : World) (hW : Kp 0 w W) (h0 : 0 < W.heap.size) (hT : Tab W) (hl : FnK 0 w v (fun x => .int .i64 (L x : Nat)))
    (x1 : W.heap[b1]? = some (.cells #[v] 265 (0, 0))) (x2 : W.heap[b2]? = some (.cells #[.int .i64 m] 3 (0, 0))) (x3 : W.heap[b3]? = some (.cells #[.int .i64 c] 3 (0, 0))) :
    Calls Tryz.prog 154 #[.int .u8 (y : Nat), .pointer (some ⟨b1, 0, none⟩), .pointer (some ⟨b2, 0, none⟩), .pointer (some ⟨b3, 0, none⟩)] W fun e W' => e = .returned (.int .u8 (2 ^ ((L y + m) % c) : Nat)) ∧ Below W.heap.size W W' := by
  obtain ⟨fl, cl, rfl, el, kl⟩ := hl
  have c1 := box_cell x1
  have c2 := box_cell x2
  have c3 := box_cell x3
  have HL : Put (∀ W2, Below W.heap.size W W2 → Calls Tryz.prog fl (#[.int .u8 (y : Nat)] ++ cl) W2 fun e W' => e = .returned (.int .i64 ((L y : Nat) : Int)) ∧ Below W2.heap.size W2 W') := ⟨fun W2 h2 => kl W2 (hW.trans (Kp.of_below h2)) (Nat.lt_of_lt_of_le h0 h2.size) (hT.below h2 h0) y hy⟩
  have l1 := lt_of_block x1
  have l2 := lt_of_block x2
  have l3 := lt_of_block x3
  generalize L y = a at *
  have hlt : (a + m) % c < 8 := Nat.lt_of_lt_of_le (Nat.mod_lt _ (by omega)) (by omega)
  have hmt : Int.tmod ((a : Int) + (m : Int)) (c : Int) = (((a + m) % c : Nat) : Int) := by
    rw [Int.tmod_eq_emod_of_nonneg (by omega)]; simp
  have HC : Put (∀ W2, Calls Tryz.prog 108 #[.int .u8 0, .int .i64 (Int.tmod ((a : Int) + (m : Int)) (c : Int))] W2 fun e W' => e = .returned (.int .u8 (2 ^ ((a + m) % c) : Nat)) ∧ W' = W2) := ⟨fun W2 => by rw [hmt]; have := with8_any 0 ((a + m) % c) (by decide) hlt W2; simpa using this⟩
  clear hmt
  have hne : ((c : Int) == 0) = false := by simp; omega
  have hne' : ¬ ((c : Int) = 0) := by omega
  have hc0 : ¬ (c = 0) := by omega
  have hw2 : IntKind.i64.wrap ((a : Int) + (m : Int)) = (a : Int) + (m : Int) := by simp [IntKind.wrap, IntKind.signed, IntKind.bits]; omega
  have hdr : Below W.heap.size W W.drew := ⟨rfl, rfl, rfl, Nat.le_refl _, fun _ _ => rfl⟩
  clear x1 x2 x3 kl hW hT
  generalize (a + m) % c = r at *
  go_enter Tryz.func154, Tryz.ntmps154
  go_wp2_with fail
  go_region_held3 (fun w' => ∀ b o, b < W.heap.size → w'.cell? ⟨b, o, none⟩ = W.cell? ⟨b, o, none⟩)
    (first
      | exact fun b o hb => (hbL'.cell (p := ⟨b, o, none⟩) hb)
      | exact fun _ _ _ => rfl
      | go_keep)
    (first
      | (with_reducible refine (HC.out wL).mono ?_; rintro e wC ⟨rfl, rfl⟩)
      | (refine (HL.out W.drew hdr).mono ?_; rintro e wL ⟨rfl, hbL⟩; have hbL' : Below W.heap.size W wL := hdr.trans hbL))
  all_goals
    go_wp2
    go_ret
    exact ⟨rfl, hbL'⟩


def pTo (s : ByteArray) (t : T) : Bool × T :=
  match num? s t.at_ 63 0 0 with
  | some _ => (true, t.adv)
  | none => match pTerm s t with
    | none => (false, t)
    | some t1 => match num? s t1.at_ 43 0 0 with
      | none => (true, t1)
      | some _ => match num? s t1.adv.at_ 48 0 3 with
        | none => (false, t1.adv)
        | some _ => (true, t1.adv.adv)
theorem pTo_same {s : ByteArray} {t t' : T} {b : Bool} (h : pTo s t = (b, t')) : t.at_ ≤ t'.at_ ∧ t'.n = t.n ∧ t'.nr = t.nr ∧ t'.chd = t.chd ∧ (t.at_ ≤ s.size → t'.at_ ≤ s.size) := by
  unfold pTo at h; split at h
  · next e => cases h; have := num_lt e; exact ⟨Nat.le_succ _, rfl, rfl, rfl, fun _ => this⟩
  · split at h
    · cases h; exact ⟨Nat.le_refl _, rfl, rfl, rfl, id⟩
    · next t1 e =>
      have l1 := pTerm_lt e
      have s1 := pTerm_same e
      split at h
      · cases h; exact ⟨by omega, s1.2.1, s1.2.2.1, s1.2.2.2, fun _ => l1⟩
      · next e2 =>
        have l2 := num_lt e2
        split at h
        · cases h; exact ⟨by show t.at_ ≤ t1.at_ + 1; omega, s1.2.1, s1.2.2.1, s1.2.2.2, fun _ => l2⟩
        · next e3 =>
          have l3 : t1.at_ + 1 < s.size := num_lt e3
          cases h; exact ⟨by show t.at_ ≤ t1.at_ + 1 + 1; omega, s1.2.1, s1.2.2.1, s1.2.2.2, fun _ => l3⟩


/-- The change that stands at a place. -/
def chOf (s : ByteArray) (p : Nat) : Chg := match num? s (p + 2) 63 0 0 with
  | some _ => (((byteAt s p - 97 : Nat) : Int), (p : Int), true, (0, 0, 0))
  | none => (((byteAt s p - 97 : Nat) : Int), (p : Int), false, tmOf s (p + 2))
theorem toP_any {s : ByteArray} {p k : Nat} (h : num? s (p + 2) 63 0 0 = some k) (c y : Nat) : toP s (chOf s p) c y = 2 ^ c - 1 := by
  unfold chOf; rw [h]; rfl
theorem toP_term {s : ByteArray} {p : Nat} {t t1 : T} (h : num? s (p + 2) 63 0 0 = none) (ht : t.at_ = p + 2) (h1 : pTerm s t = some t1) (c y : Nat) : toP s (chOf s p) c y = 2 ^ ((tmV (tmOf s t.at_) y + (moreAt s false (t.at_ : Int)).toNat) % c) := by
  have := tmOf_at h1
  unfold chOf; rw [h]; unfold toP; simp only; rw [← ht, this]
theorem more0 {s : ByteArray} {q : Nat} (h : num? s (q + 1) 43 0 0 = none) : (moreAt s false (q : Int)).toNat = 0 := by
  unfold moreAt
  simp only [Int.toNat_natCast]
  rw [if_neg]; rfl
  intro hb
  by_cases hl : q + 1 < s.size
  · rw [byteAt_lt hl] at hb; exact num_not h hl hb
  · rw [byteAt_ge hl] at hb; omega
theorem more1 {s : ByteArray} {q k d : Nat} (h : num? s (q + 1) 43 0 0 = some k) (h2 : num? s (q + 2) 48 0 3 = some d) : (moreAt s false (q : Int)).toNat = d := by
  unfold moreAt
  simp only [Int.toNat_natCast]
  have e1 := num_byte h
  have e2 := num_byte h2
  have := (num_le h).2
  rw [if_pos (by omega), e2]; simp

section
variable {B M : Nat} {s : ByteArray} {t : T} {x : Junk} {w : World}
set_option maxRecDepth 100000 in
set_option maxHeartbeats 1600000 in
theorem to_yes {t' : T} (c p : Nat) (h1 : 1 ≤ c) (h4 : c ≤ 4) (hs : s.size ≤ 120) (hat : t.at_ ≤ s.size) (ht : t.at_ = p + 2) (hb : RB B M s t x w) (hp : pTo s t = (true, t')) :
    Calls Tryz.prog 114 #[.pointer (some ⟨B, 0, none⟩), .int .i64 (c : Nat)] w fun e w' => (∃ f a, e = .returned (.tuple #[.func f #[] a, .bool true]) ∧ FnK 0 w' (.func f #[] a) (fun y => .int .u8 (toP s (chOf s p) c y : Nat))) ∧ RB B M s t' x w' ∧ Ex B w w' := by
  have hmf : ∀ (fn : Fn) (first cap : Array Value) (w : World), (Instr.makeFunc fn first cap).run Tryz.prog w = .ok (.func fn first cap) w := fun _ _ _ _ => rfl
  unfold pTo at hp
  have hbx := heap_alloc_new w (.cells #[.int .i64 c] 3)
  have hba := hb.alloc (.cells #[.int .i64 c] 3)
  have HBX : Put (_ ∧ _) := ⟨hbx, hba⟩
  have kp : ∀ {a b : World} {t : T} {x : Junk}, RB B M s t x a → Ex B a b → Kp 0 a b := fun h e => h.kp e.two 0
  have HKP : Put (∀ {a b : World} {t : T} {x : Junk}, RB B M s t x a → Ex B a b → Kp 0 a b) := ⟨fun h e => h.kp e.two 0⟩
  clear hbx kp
  cases g1 : num? s t.at_ 63 0 0 with
  | some k =>
    simp [g1] at hp; subst hp
    have HV : Put (∀ y, toP s (chOf s p) c y = 2 ^ c - 1) := ⟨fun y => toP_any (by rw [← ht]; exact g1) c y⟩
    go_enter Tryz.func114, Tryz.ntmps114
    go_wp2_with fail
    refine (take_yes 63 k hs (by omega) hba g1).mono ?_; rintro e w1 ⟨rfl, hb1, hx1⟩
    have hx1' := (((Ex.refl B w).alloc (.cells #[.int .i64 c] 3)).trans hx1)
    go_wp2
    go_ret2
    refine ⟨⟨_, _, rfl, ⟨152, #[.pointer (some ⟨w.heap.size, 0, none⟩)], rfl, enters_of Tryz.func152 (by kernel_rfl) rfl, fun W hW _ _ y _ => ?_⟩⟩, hb1, hx1'⟩
    have hbx1 := (HKP.out HBX.out.2 hx1).box HBX.out.1
    show Calls _ _ _ _ fun e W' => e = .returned (.int .u8 ((toP s (chOf s p) c y : Nat) : Int)) ∧ _
    rw [HV.out]
    refine (fn84_any w.heap.size c y h1 h4 W (hW.box hbx1)).mono ?_
    rintro e W' ⟨rfl, rfl⟩
    exact ⟨rfl, Below.refl _ _⟩
  | none =>
    have g1' : num? s (p + 2) 63 0 0 = none := by rw [← ht]; exact g1
    cases g2 : pTerm s t with
    | none => simp [g1, g2] at hp
    | some t1 =>
      have l1 := pTerm_lt g2
      have s1 := (pTerm_same g2).1
      cases g3 : num? s t1.at_ 43 0 0 with
      | none =>
        simp [g1, g2, g3] at hp; subst hp
        have HV : Put (∀ y, toP s (chOf s p) c y = 2 ^ ((tmV (tmOf s t.at_) y + 0) % c)) := ⟨fun y => by rw [toP_term g1' ht g2, more0 (by rw [← s1]; exact g3)]⟩
        go_enter Tryz.func114, Tryz.ntmps114
        go_wp2_with fail
        refine (take_no 63 hs hat (by omega) hba g1).mono ?_; rintro e w1 ⟨rfl, hb1, hx1⟩
        go_wp2_with fail
        refine (rterm_yes hs hat hb1 g2).mono ?_; rintro e w2 ⟨⟨f2, a2, rfl, hf2⟩, hb2, hx2⟩
        go_wp2_with fail
        refine (take_no 43 hs l1 (by omega) ((hb2.alloc _).alloc _) g3).mono ?_; rintro e w3 ⟨rfl, hb3, hx3⟩
        have hX := ((((((Ex.refl B w).alloc (.cells #[.int .i64 c] 3)).trans hx1).trans hx2).alloc (.cells #[.func f2 #[] a2] 265)).alloc (.cells #[.int .i64 0] 3)).trans hx3
        have kC : Kp 0 (w.alloc (.cells #[.int .i64 c] 3)) w2 := (HKP.out HBX.out.2 hx1).trans (HKP.out hb1 hx2)
        have kD : Kp 0 ((w2.alloc (.cells #[.func f2 #[] a2] 265)).alloc (.cells #[.int .i64 0] 3)) w3 := HKP.out ((hb2.alloc _).alloc _) hx3
        have kE : Kp 0 w2 w3 := ((Kp.alloc 0 w2 _).trans (Kp.alloc 0 _ _)).trans kD
        have y3 := (kC.trans kE).box HBX.out.1
        have y1 := ((Kp.alloc 0 _ _).trans kD).box (heap_alloc_new w2 (.cells #[.func f2 #[] a2] 265))
        have y2' := heap_alloc_new (w2.alloc (.cells #[.func f2 #[] a2] 265)) (.cells #[.int .i64 0] 3)
        rw [World.size_alloc] at y2'
        have y2 := kD.box y2'
        have HF : Put (_ ∧ _ ∧ _ ∧ _) := ⟨y1, y2, y3, hf2.kp kE⟩
        have HX : Put (Ex B w w3) := ⟨hX⟩
        clear hX kC kD kE y1 y2 y2' y3 hf2 hx1 hx2 hx3 hb1 hb2 hba
        go_wp2
        go_ret2
        refine ⟨⟨_, _, rfl, ⟨154, #[.pointer (some ⟨w2.heap.size, 0, none⟩), .pointer (some ⟨w2.heap.size + 1, 0, none⟩), .pointer (some ⟨w.heap.size, 0, none⟩)], rfl, enters_of Tryz.func154 (by kernel_rfl) rfl, fun W hW h0 hT y hy => ?_⟩⟩, hb3, HX.out⟩
        obtain ⟨y1, y2, y3, hf⟩ := HF.out
        show Calls _ _ _ _ fun e W' => e = .returned (.int .u8 ((toP s (chOf s p) c y : Nat) : Int)) ∧ _
        rw [HV.out]
        exact fn86_any w2.heap.size (w2.heap.size + 1) w.heap.size 0 c y hy h1 h4 (by omega) _ (tmV (tmOf s t.at_)) (tmV_le3 _ _ y) w3 W hW h0 hT hf (hW.box y1) (hW.box y2) (hW.box y3)
      | some k3 =>
        cases g4 : num? s t1.adv.at_ 48 0 3 with
        | none => simp [g1, g2, g3, g4] at hp
        | some kd =>
          simp [g1, g2, g3, g4] at hp; subst hp
          have e2 : t1.adv.at_ = t.at_ + 2 := by show t1.at_ + 1 = _; omega
          have HV : Put (∀ y, toP s (chOf s p) c y = 2 ^ ((tmV (tmOf s t.at_) y + kd) % c)) := ⟨fun y => by rw [toP_term g1' ht g2, more1 (by rw [← s1]; exact g3) (by rw [← e2]; exact g4)]⟩
          have hk3 := (num_le g4).2
          go_enter Tryz.func114, Tryz.ntmps114
          go_wp2_with fail
          refine (take_no 63 hs hat (by omega) hba g1).mono ?_; rintro e w1 ⟨rfl, hb1, hx1⟩
          go_wp2_with fail
          refine (rterm_yes hs hat hb1 g2).mono ?_; rintro e w2 ⟨⟨f2, a2, rfl, hf2⟩, hb2, hx2⟩
          go_wp2_with fail
          have Z := ((hb2.alloc (.cells #[.func f2 #[] a2] 265)).alloc (.cells #[.int .i64 0] 3))
          refine (take_yes 43 k3 hs (by omega) Z g3).mono ?_; rintro e w3 ⟨rfl, hb3, hx3⟩
          go_wp2_with fail
          refine (digit_yes 0 kd hs (by omega) hb3 g4).mono ?_; rintro e w4 ⟨rfl, hb4, hx4⟩
          have hx := hx3.trans hx4
          have hBlt := hb2.lt
          have hMlt := hb2.ltM
          have hblk : w4.heap[w2.heap.size + 1]? = some (.cells #[.int .i64 0] 3 (0, 0)) := by
            rw [hx.block _ (by simp) (by omega)]
            have := heap_alloc_new (w2.alloc (.cells #[.func f2 #[] a2] 265)) (.cells #[.int .i64 0] 3)
            simpa using this
          have k1 := cell_of_one hblk
          have k2 := free_of_one hblk
          have hblt := lt_of_block hblk
          have hle : w.heap.size < w2.heap.size := Nat.lt_of_lt_of_le (by simp) (Nat.le_trans hx1.size hx2.size)
          have HB4 : Put (RB B M s t1.adv.adv x w4) := ⟨hb4⟩
          have HX : Put (Ex B w w4) := ⟨((((((Ex.refl B w).alloc _).trans hx1).trans hx2).alloc _).alloc _).trans hx⟩
          have kC : Kp 0 (w.alloc (.cells #[.int .i64 c] 3)) w2 := (HKP.out HBX.out.2 hx1).trans (HKP.out hb1 hx2)
          have kD : Kp 0 ((w2.alloc (.cells #[.func f2 #[] a2] 265)).alloc (.cells #[.int .i64 0] 3)) w4 := HKP.out Z hx
          have kE : Kp 0 w2 w4 := ((Kp.alloc 0 w2 _).trans (Kp.alloc 0 _ _)).trans kD
          have y3 := (kC.trans kE).box HBX.out.1
          have y1 := ((Kp.alloc 0 _ _).trans kD).box (heap_alloc_new w2 (.cells #[.func f2 #[] a2] 265))
          have y2 := heap_setCell_same w4 (w2.heap.size + 1) 0 _ 3 (.int .i64 kd) hblk
          have y1' := (heap_setCell_other w4 ⟨w2.heap.size + 1, 0, none⟩ w2.heap.size (.int .i64 kd) (by show w2.heap.size ≠ w2.heap.size + 1; omega)).trans y1
          have y3' := (heap_setCell_other w4 ⟨w2.heap.size + 1, 0, none⟩ w.heap.size (.int .i64 kd) (by show w.heap.size ≠ w2.heap.size + 1; omega)).trans y3
          obtain ⟨fn2, cap2, e2', en2, hc2⟩ := hf2
          -- the term's own box lies below: the store to 'more' leaves it
          have kS : ∀ W, Kp 0 (w4.setCell ⟨w2.heap.size + 1, 0, none⟩ (.int .i64 kd)) W → Kp 0 w2 W := fun W hW => by
            refine ⟨Nat.le_trans kE.size (by simpa using hW.size), fun k cs ty fz hk gc g1 g2 => ?_⟩
            have hk4 := (kE.keep k cs ty fz hk gc g1 g2).trans hk
            have hlt := lt_of_block hk
            have hk5 := (heap_setCell_other w4 ⟨w2.heap.size + 1, 0, none⟩ k (.int .i64 kd) (by show k ≠ w2.heap.size + 1; omega)).trans hk4
            exact ((hW.keep k cs ty fz hk5 gc g1 g2).trans hk5).trans hk.symm
          have HF : Put (_ ∧ _ ∧ _ ∧ FnK 0 (w4.setCell ⟨w2.heap.size + 1, 0, none⟩ (.int .i64 kd)) (.func f2 #[] a2) (fun x => .int .i64 (tmV (tmOf s t.at_) x : Nat))) := ⟨y1', y2, y3', fn2, cap2, e2', en2, fun W hW => hc2 W (kS W hW)⟩
          clear hb1 hb2 hb3 hb4 hx1 hx2 hx3 hx4 hx hblk Z g1' g2 g3 g4 kC kD kE kS y1 y2 y3 y1' y3' hc2 en2 e2' hba
          go_wp2
          go_ret2
          refine ⟨⟨_, _, rfl, ⟨154, #[.pointer (some ⟨w2.heap.size, 0, none⟩), .pointer (some ⟨w2.heap.size + 1, 0, none⟩), .pointer (some ⟨w.heap.size, 0, none⟩)], rfl, enters_of Tryz.func154 (by kernel_rfl) rfl, fun W hW h0 hT y hy => ?_⟩⟩, HB4.out.set_other (by show w2.heap.size + 1 ≠ B; omega) (by show w2.heap.size + 1 ≠ M; omega) _, HX.out.setCell (.inr (by show w.heap.size ≤ w2.heap.size + 1; omega)) _⟩
          obtain ⟨y1, y2, y3, hf⟩ := HF.out
          show Calls _ _ _ _ fun e W' => e = .returned (.int .u8 ((toP s (chOf s p) c y : Nat) : Int)) ∧ _
          rw [HV.out]
          exact fn86_any w2.heap.size (w2.heap.size + 1) w.heap.size kd c y hy h1 h4 hk3 _ (tmV (tmOf s t.at_)) (tmV_le3 _ _ y) _ W hW h0 hT hf (hW.box y1) (hW.box y2) (hW.box y3)
def pToNil (s : ByteArray) (t : T) : Bool := (num? s t.at_ 63 0 0).isNone && (pTerm s t).isNone
theorem to_nil {t' : T} (c : Int) (hs : s.size ≤ 120) (hat : t.at_ ≤ s.size) (hb : RB B M s t x w) (hp : pTo s t = (false, t')) (hz : pToNil s t = true) :
    Calls Tryz.prog 114 #[.pointer (some ⟨B, 0, none⟩), .int .i64 c] w fun e w' => e = .returned (.tuple #[.nilFunc, .bool false]) ∧ RB B M s t' x w' ∧ Ex B w w' := by
  unfold pTo at hp
  cases g1 : num? s t.at_ 63 0 0 with
  | some k => simp [pToNil, g1] at hz
  | none =>
    cases g2 : pTerm s t with
    | some k => simp [pToNil, g2] at hz
    | none =>
      simp [g1, g2] at hp; subst hp
      go_enter Tryz.func114, Tryz.ntmps114
      go_wp2_with fail
      refine (take_no 63 hs hat (by omega) (hb.alloc _) g1).mono ?_; rintro e w1 ⟨rfl, hb1, hx1⟩
      go_wp2_with fail
      refine (rterm_no hs hat hb1 g2).mono ?_; rintro e w2 ⟨rfl, hb2, hx2⟩
      go_wp2
      go_ret2
      exact ⟨rfl, hb2.alloc _, ((((Ex.refl B w).alloc _).trans hx1).trans hx2).alloc _⟩
set_option maxRecDepth 100000 in
set_option maxHeartbeats 1600000 in
theorem to_func {t' : T} (c : Int) (hs : s.size ≤ 120) (hat : t.at_ ≤ s.size) (hb : RB B M s t x w) (hp : pTo s t = (false, t')) (hz : pToNil s t = false) :
    Calls Tryz.prog 114 #[.pointer (some ⟨B, 0, none⟩), .int .i64 c] w fun e w' => (∃ f a, e = .returned (.tuple #[.func f #[] a, .bool false])) ∧ RB B M s t' x w' ∧ Ex B w w' := by
  have hmf : ∀ (fn : Fn) (first cap : Array Value) (w : World), (Instr.makeFunc fn first cap).run Tryz.prog w = .ok (.func fn first cap) w := fun _ _ _ _ => rfl
  unfold pTo at hp
  cases g1 : num? s t.at_ 63 0 0 with
  | some k => simp [g1] at hp
  | none =>
    cases g2 : pTerm s t with
    | none => simp [pToNil, g1, g2] at hz
    | some t1 =>
      have l1 := pTerm_lt g2
      cases g3 : num? s t1.at_ 43 0 0 with
      | none => simp [g1, g2, g3] at hp
      | some k3 =>
        have l3 : t1.adv.at_ ≤ s.size := num_lt g3
        cases g4 : num? s t1.adv.at_ 48 0 3 with
        | some kd => simp [g1, g2, g3, g4] at hp
        | none =>
          simp [g1, g2, g3, g4] at hp; subst hp
          go_enter Tryz.func114, Tryz.ntmps114
          go_wp2_with fail
          refine (take_no 63 hs hat (by omega) (hb.alloc _) g1).mono ?_; rintro e w1 ⟨rfl, hb1, hx1⟩
          go_wp2_with fail
          refine (rterm_yes hs hat hb1 g2).mono ?_; rintro e w2 ⟨⟨f2, a2, rfl, -⟩, hb2, hx2⟩
          go_wp2_with fail
          have Z := ((hb2.alloc (.cells #[.func f2 #[] a2] 265)).alloc (.cells #[.int .i64 0] 3))
          refine (take_yes 43 k3 hs (by omega) Z g3).mono ?_; rintro e w3 ⟨rfl, hb3, hx3⟩
          go_wp2_with fail
          refine (digit_no 0 hs l3 (by omega) hb3 g4).mono ?_; rintro e w4 ⟨rfl, hb4, hx4⟩
          have hx := hx3.trans hx4
          have hBlt := hb2.lt
          have hMlt := hb2.ltM
          have hblk : w4.heap[w2.heap.size + 1]? = some (.cells #[.int .i64 0] 3 (0, 0)) := by
            rw [hx.block _ (by simp) (by omega)]
            have := heap_alloc_new (w2.alloc (.cells #[.func f2 #[] a2] 265)) (.cells #[.int .i64 0] 3)
            simpa using this
          have k1 := cell_of_one hblk
          have k2 := free_of_one hblk
          have hblt := lt_of_block hblk
          have HB4 : Put (RB B M s t1.adv x w4) := ⟨hb4⟩
          have HX : Put (Ex B w w4) := ⟨((((((Ex.refl B w).alloc _).trans hx1).trans hx2).alloc _).alloc _).trans hx⟩
          have hle : w.heap.size ≤ w2.heap.size := ((((Ex.refl B w).alloc (.cells #[.int .i64 c] 3)).trans hx1).trans hx2).size
          clear hb1 hb2 hb3 hb4 hx1 hx2 hx3 hx4 hx hblk Z g1 g2 g3 g4
          go_wp2
          go_ret2
          exact ⟨⟨_, _, rfl⟩, HB4.out.set_other (by show w2.heap.size + 1 ≠ B; omega) (by show w2.heap.size + 1 ≠ M; omega) _, HX.out.setCell (.inr (by show w.heap.size ≤ w2.heap.size + 1; omega)) _⟩
end
end Go.Proofs.YtgoebckimmofoaaGreatDoor
