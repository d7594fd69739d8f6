import Derived.Test.YtgoebckimmofoaaGreatDoorA9
import Derived.Test.YtgoebckimmofoaaGreatDoorA4
import Derived.Deep.RegionLaw
import Derived.Deep.RegionHeld
import Derived.Deep.AppendLies
import Derived.Deep.RegionHeld3
import Derived.Laws.EntriesVeiled
/- A part is kept. Our own text. -/
namespace Go.Proofs.YtgoebckimmofoaaGreatDoor
open Go.RowKit Go.Lib
theorem infoP : (Tryz.prog.info? 160).map (fun i => (i.zero, i.size, i.bytes)) = some (some (.agg #[.nilFunc, .bool false, .nilFunc]), 3, 24) := by kernel_rfl
theorem infoW : (Tryz.prog.info? 259).map (fun i => (i.zero, i.size, i.bytes)) = some (some (.agg #[.int .u8 0, .nilFunc]), 2, 16) := by kernel_rfl
theorem news_here (w : World) (cs : List Value) (t : TypeId) : ∀ j u, cs[j]? = some u → (w.alloc (.cells cs.toArray t)).cell? ((⟨w.heap.size, 0, none⟩ : Addr).add j) = some u := by
  have h := heap_alloc_new w (.cells cs.toArray t)
  have := World.news_of_block (cs := cs.toArray) (t := t) (fr := (0, 0)) h
  simpa using this
theorem PtV.one (p : PtV) : ∀ u ∈ p.cells, u.oneCell' = true := by
  intro u hu
  simp only [PtV.cells, List.mem_cons, List.not_mem_nil, or_false] at hu
  rcases hu with rfl | rfl | rfl <;> rfl
section
variable {B M : Nat} {s : ByteArray} {t : T} {wh : Value} {opn deep : Nat} {pvs : List PtV} {wvs : List WV} {j : FJ} {w : World}
/-- What keep leaves. -/
def KeepPost (B M : Nat) (s : ByteArray) (t : T) (wh : Value) (opn deep : Nat) (pvs : List PtV) (wvs : List WV) (j : FJ) (p : PtV) (w : World) (e : Ending) (w' : World) : Prop :=
  ∃ (b : Nat) (ap' : Option Addr) (cp' : Nat), e = .returned (.func (.func 218) #[] #[.pointer (some ⟨b, 0, none⟩)]) ∧ w.heap.size ≤ b ∧ w'.heap[b]? = some (.cells #[.int .i64 (pvs.length : Nat)] 3 (0, 0)) ∧ FRv B M s t wh opn deep (pvs ++ [p]) wvs { j with ap := ap', cp := cp' } w' ∧ Fr B w w' ∧ ∀ k, k < w.heap.size → k ≠ B → (Value.slice j.ap pvs.length j.cp).ownBlock ≠ some k → w'.heap[k]? = w.heap[k]?
set_option maxRecDepth 100000 in
set_option maxHeartbeats 1600000 in
theorem keep_any (hl : pvs.length ≤ 100) (h : FRv B M s t wh opn deep pvs wvs j w) (p : PtV) :
    Calls Tryz.prog 213 #[.pointer (some ⟨B, 5, none⟩), .agg #[.func (.func p.fh) #[] p.ch, .bool p.e, .func (.func p.fz) #[] p.cz]] w (KeepPost B M s t wh opn deep pvs wvs j p w) := by
  obtain ⟨i0, hi, hz0, hz1, hz2⟩ := info_parts infoP
  have hmf : ∀ (fn : Fn) (first cap : Array Value) (w : World), (Instr.makeFunc fn first cap).run Tryz.prog w = .ok (.func fn first cap) w := fun _ _ _ _ => rfl
  have m63 : pvs.length + 1 ≤ maxLen := by unfold maxLen; omega
  have m47 : (pvs.length + 1) * 24 ≤ 140737488355328 := by omega
  have hlt := h.lt
  have c6 := h.c6
  have HH : Put (_) := ⟨h⟩
  have hb2 : Below w.heap.size w ((w.alloc (.cells #[.func (.func p.fh) #[] p.ch, .bool p.e, .func (.func p.fz) #[] p.cz] 160)).alloc (.cells #[.int .i64 (pvs.length : Nat)] 3)) := ((Below.refl _ w).alloc (Nat.le_refl _) _).alloc (by simp) _
  have p2 := (Below.heap_alloc (w.alloc (.cells #[.func (.func p.fh) #[] p.ch, .bool p.e, .func (.func p.fz) #[] p.cz] 160)) (.cells #[.int .i64 (pvs.length : Nat)] 3) w.heap.size (by simp)).trans (heap_alloc_new w (.cells #[.func (.func p.fh) #[] p.ch, .bool p.e, .func (.func p.fz) #[] p.cz] 160))
  have n2 := heap_alloc_new (w.alloc (.cells #[.func (.func p.fh) #[] p.ch, .bool p.e, .func (.func p.fz) #[] p.cz] 160)) (.cells #[.int .i64 (pvs.length : Nat)] 3)
  have z2 : ((w.alloc (.cells #[.func (.func p.fh) #[] p.ch, .bool p.e, .func (.func p.fz) #[] p.cz] 160)).alloc (.cells #[.int .i64 (pvs.length : Nat)] 3)).heap.size = w.heap.size + 2 := by simp
  rw [World.size_alloc] at n2
  go_enter Tryz.func213, Tryz.ntmps213
  go_wp2_with fail
  generalize (w.alloc (.cells #[.func (.func p.fh) #[] p.ch, .bool p.e, .func (.func p.fz) #[] p.cz] 160)).alloc (.cells #[.int .i64 (pvs.length : Nat)] 3) = w2 at *
  have h2 := h.below hb2
  have HBL : Put (_) := ⟨hb2⟩
  have HB2 : Put (Fr B w w2) := ⟨Fr.of_below hb2 (Nat.le_of_lt hlt)⟩
  have P2 : Put (_) := ⟨p2⟩
  have N2 : Put (_) := ⟨n2⟩
  have d6 := h2.c6
  have e6 := (h2.alloc (.cells #[.func (.func p.fh) #[] p.ch, .bool p.e, .func (.func p.fz) #[] p.cz] 160)).c6
  have H3 : Put (FRv B M s t wh opn deep pvs wvs j (w2.alloc (.cells (PtV.cells p).toArray 160)).drew) := ⟨(show FRv B M s t wh opn deep pvs wvs j w2.drew from ⟨h2.g.drew, h2.p, h2.q⟩).alloc _⟩
  have hbase : B + 1 ≤ (w2.alloc (.cells (PtV.cells p).toArray 160)).drew.heap.size := H3.out.lt
  have HX : Put ((w2.alloc (.cells (PtV.cells p).toArray 160)).drew.heap[w.heap.size + 2]? = some (.cells (PtV.cells p).toArray 160 (0, 0))) := ⟨by have := heap_alloc_new w2 (.cells (PtV.cells p).toArray 160); rw [z2] at this; exact this⟩
  have HZ : Put ((w2.alloc (.cells (PtV.cells p).toArray 160)).drew.heap.size = w.heap.size + 3) := ⟨by show (w2.alloc (.cells (PtV.cells p).toArray 160)).heap.size = _; rw [World.size_alloc, z2]⟩
  have HS : Put (∀ W : World, W.heap[w.heap.size]? = some (.cells (PtV.cells p).toArray 160 (0, 0)) → W.cell? ⟨w.heap.size, 0, none⟩ = some (.func (.func p.fh) #[] p.ch) ∧ W.cell? ⟨w.heap.size, 1, none⟩ = some (.bool p.e) ∧ W.cell? ⟨w.heap.size, 2, none⟩ = some (.func (.func p.fz) #[] p.cz)) := ⟨fun W hW => by simp [World.cell?, hW, PtV.cells]⟩
  clear h h2 hb2 p2 n2 c6
  refine wp_region_held (S := fun w' => w'.cell? ⟨w.heap.size, 0, none⟩ = some (.func (.func p.fh) #[] p.ch) ∧ w'.cell? ⟨w.heap.size, 1, none⟩ = some (.bool p.e) ∧ w'.cell? ⟨w.heap.size, 2, none⟩ = some (.func (.func p.fz) #[] p.cz)) (by kernel_rfl) ?_
  have hS0 : (fun w' : World => w'.cell? ⟨w.heap.size, 0, none⟩ = some (.func (.func p.fh) #[] p.ch) ∧ w'.cell? ⟨w.heap.size, 1, none⟩ = some (.bool p.e) ∧ w'.cell? ⟨w.heap.size, 2, none⟩ = some (.func (.func p.fz) #[] p.cz)) { w2 with drawn := w2.drawn + 1 } := HS.out _ P2.out
  refine wpAnyH_take (i := 0) (v := ?_) rfl (by kernel_rfl) (by kernel_rfl) (by kernel_rfl) (fun _ _ _ h => h) (Or.inl ⟨by rfl, ?_⟩) hS0 ?_
  rotate_left
  · intro w hSw; (try dsimp only at hSw); go_simp; try (with_reducible rfl)
  rotate_left
  (try simp only [Act.put, List.setIfInBounds_toArray])
  refine wpAnyH_take (i := 1) (v := ?_) rfl (by kernel_rfl) (by kernel_rfl) (by kernel_rfl) (fun _ _ _ h => h) (Or.inl ⟨by rfl, ?_⟩) hS0 ?_
  rotate_left
  · intro w hSw; (try dsimp only at hSw); go_simp; try (with_reducible rfl)
  rotate_left
  (try simp only [Act.put])
  refine wpAnyH_take (i := 2) (v := ?_) rfl (by kernel_rfl) (by kernel_rfl) (by kernel_rfl) (fun _ _ _ h => h) (Or.inl ⟨by rfl, ?_⟩) hS0 ?_
  rotate_left
  · intro w hSw; (try dsimp only at hSw); go_simp; try (with_reducible rfl)
  rotate_left
  (try simp only [Act.put])
  refine wpAnyH_take (i := 3) (v := ?_) rfl (by kernel_rfl) (by kernel_rfl) (by kernel_rfl) (fun _ _ _ h => h) (Or.inl ⟨by rfl, ?_⟩) hS0 ?_
  rotate_left
  · intro w hSw; (try dsimp only at hSw); go_simp; try (with_reducible rfl)
  rotate_left
  (try simp only [Act.put])
  refine wpAnyH_take (i := 5) (v := ?_) rfl (by kernel_rfl) (by kernel_rfl) (by kernel_rfl) (fun _ _ _ h => h) (Or.inl ⟨by rfl, ?_⟩) hS0 ?_
  rotate_left
  · intro w hSw; (try dsimp only at hSw); go_simp; try (with_reducible rfl)
  rotate_left
  (try simp only [Act.put])
  refine wpAnyH_ready (rs := [4, 6]) (by kernel_rfl) (by simp) ?_
  refine AllReadyH.cons rfl (fun K hK => ?_) ?_
  ·
    go_simp
    refine hK.out _ _ ?_ (fun _ => ?_)
    · first | exact hS0 | exact HS.out _ P2.out | exact HS.out _ ((Below.heap_alloc w2 _ _ (by omega)).trans P2.out) | exact HS.out _ P1.out | exact HS.out _ ((heap_setCell_other _ _ _ _ (by show w.heap.size ≠ B; omega)).trans P1.out)
    clear hK K
    (try simp only [Act.put, List.setIfInBounds_toArray, List.set_cons_zero, List.set_cons_succ])
    refine wpAnyH_ready (rs := [6]) (by kernel_rfl) (by simp) ?_
    refine AllReadyH.cons rfl (fun K hK => ?_) ?_
    ·
      go_simp
      refine hK.out _ _ ?_ (fun _ => ?_)
      · first | exact hS0 | exact HS.out _ P2.out | exact HS.out _ ((Below.heap_alloc w2 _ _ (by omega)).trans P2.out) | exact HS.out _ P1.out | exact HS.out _ ((heap_setCell_other _ _ _ _ (by show w.heap.size ≠ B; omega)).trans P1.out)
      clear hK K
      (try simp only [Act.put, List.setIfInBounds_toArray, List.set_cons_zero, List.set_cons_succ])
      refine wpAnyH_ready (rs := [7]) (by kernel_rfl) (by simp) ?_
      refine AllReadyH.cons rfl (fun K hK => ?_) ?_
      ·
        (refine step_append_lies _ ?q1 (.tmp 15) (.tmp 17) 79 ?q2 (B + 1) 160 i0 _ 3 24 Tryz.underlying79 hi hz0 hz1 hz2 rfl (Nat.succ_pos 2) (.slice j.ap pvs.length j.cp) pvs.length (pvs.flatMap PtV.cells) ?q3 H3.out.p ⟨w.heap.size + 2, 0, none⟩ 1 1 (PtV.cells p) ?q4 rfl (World.news_of_block HX.out) (PtV.one _) Nat.one_pos m63 m47 hbase (w.heap.size + 3) HZ.out ?_; (case q1 => rfl); (case q2 => rfl); (case q3 => rfl); (case q4 => rfl); intro g cap w1 hown1 hgrow hat' hlt)
        obtain ⟨f1, f2⟩ := H3.out.grownP (pvs' := pvs ++ [p]) (ap' := some ⟨g, 0, none⟩) (cp' := cap) hgrow (by rw [List.length_append, List.flatMap_append]; simpa using hown1)
        have g1 := H3.out.g.grown hgrow (ne_own (Nat.lt_succ_self B) H3.out.p) (ne_own (Nat.lt_trans H3.out.g.lo (Nat.lt_succ_self B)) H3.out.p)
        have k6 : w1.cell? ⟨B, 6, none⟩ = some (.slice j.ap pvs.length j.cp) := by simp [World.cell?, g1.blk, rblk, frest]
        have f6 := g1.free 6
        have P1 : Put (w1.heap[w.heap.size]? = some (.cells (PtV.cells p).toArray 160 (0, 0))) := ⟨(hgrow.block _ (Nat.lt_of_lt_of_eq (by omega) HZ.out.symm) (fun e => by have := (HH.out.p.lt _ e.symm).2; omega)).trans ((Below.heap_alloc w2 _ _ (by omega)).trans P2.out)⟩
        have N1 : Put (w1.heap[w.heap.size + 1]? = some (.cells #[.int .i64 (pvs.length : Nat)] 3 (0, 0))) := ⟨(hgrow.block _ (Nat.lt_of_lt_of_eq (by omega) HZ.out.symm) (fun e => by have := (HH.out.p.lt _ e.symm).2; omega)).trans ((Below.heap_alloc w2 _ _ (by omega)).trans N2.out)⟩
        have FIN : Put (_ ∧ _) := ⟨f1, f2⟩
        have GR : Put (∀ k, k < w.heap.size → (Value.slice j.ap pvs.length j.cp).ownBlock ≠ some k → w1.heap[k]? = w.heap[k]?) := ⟨fun k hk hkr => (hgrow.block k (Nat.lt_of_lt_of_eq (by omega) HZ.out.symm) (fun e => hkr e.symm)).trans ((Below.heap_alloc w2 _ _ (by omega)).trans (HBL.out.block k hk))⟩
        clear g1 hown1 hgrow hat' f1 f2
        refine hK.out _ _ ?_ (fun _ => ?_)
        · first | exact hS0 | exact HS.out _ P2.out | exact HS.out _ ((Below.heap_alloc w2 _ _ (by omega)).trans P2.out) | exact HS.out _ P1.out | exact HS.out _ ((heap_setCell_other _ _ _ _ (by show w.heap.size ≠ B; omega)).trans P1.out)
        clear hK K
        (try simp only [Act.put, List.setIfInBounds_toArray])
        refine wpAnyH_ready (rs := [8]) (by kernel_rfl) (by simp) ?_
        refine AllReadyH.cons rfl (fun K hK => ?_) ?_
        ·
          go_simp
          refine hK.out _ _ ?_ (fun _ => ?_)
          · first | exact hS0 | exact HS.out _ P2.out | exact HS.out _ ((Below.heap_alloc w2 _ _ (by omega)).trans P2.out) | exact HS.out _ P1.out | exact HS.out _ ((heap_setCell_other _ _ _ _ (by show w.heap.size ≠ B; omega)).trans P1.out)
          clear hK K
          (try simp only [Act.put, List.setIfInBounds_toArray, List.set_cons_zero, List.set_cons_succ])
          refine wpAnyH_ready (rs := [9]) (by kernel_rfl) (by simp) ?_
          refine AllReadyH.cons rfl (fun K hK => ?_) ?_
          ·
            go_simp
            refine hK.out _ _ ?_ (fun _ => ?_)
            · first | exact hS0 | exact HS.out _ P2.out | exact HS.out _ ((Below.heap_alloc w2 _ _ (by omega)).trans P2.out) | exact HS.out _ P1.out | exact HS.out _ ((heap_setCell_other _ _ _ _ (by show w.heap.size ≠ B; omega)).trans P1.out)
            clear hK K
            (try simp only [Act.put, List.setIfInBounds_toArray, List.set_cons_zero, List.set_cons_succ])
            refine wpAnyH_ready (rs := [10]) (by kernel_rfl) (by simp) ?_
            refine AllReadyH.cons rfl (fun K hK => ?_) ?_
            ·
              go_simp
              refine hK.out _ _ ?_ (fun _ => ?_)
              · first | exact hS0 | exact HS.out _ P2.out | exact HS.out _ ((Below.heap_alloc w2 _ _ (by omega)).trans P2.out) | exact HS.out _ P1.out | exact HS.out _ ((heap_setCell_other _ _ _ _ (by show w.heap.size ≠ B; omega)).trans P1.out)
              clear hK K
              (try simp only [Act.put, List.setIfInBounds_toArray, List.set_cons_zero, List.set_cons_succ])
              refine wpAnyH_done (by kernel_rfl) ?_ _
              go_wp2
              go_ret
              refine ⟨w.heap.size + 1, some ⟨g, 0, none⟩, cap, rfl, by omega, ?_, ?_, ?_, ?_⟩
              · exact (heap_setCell_other _ _ _ _ (by show w.heap.size + 1 ≠ B; omega)).trans N1.out
              · have := FIN.out.1; rw [List.length_append] at this; exact this
              · have := FIN.out.2; rw [List.length_append] at this; exact (HB2.out.trans (Fr.of_below ((Below.refl _ w2).alloc (Nat.le_refl _) (.cells (PtV.cells p).toArray 160)).drew (by omega))).trans this
              · intro k hk hkB hkr; exact (heap_setCell_other _ _ _ _ (by exact hkB)).trans (GR.out k hk hkr)
            exact AllReadyH.nil
          exact AllReadyH.nil
        exact AllReadyH.nil
      exact AllReadyH.nil
    exact AllReadyH.nil
  refine AllReadyH.cons rfl (fun K hK => ?_) ?_
  ·
    go_simp
    refine hK.out _ _ ?_ (fun _ => ?_)
    · first | exact hS0 | exact HS.out _ P2.out | exact HS.out _ ((Below.heap_alloc w2 _ _ (by omega)).trans P2.out) | exact HS.out _ P1.out | exact HS.out _ ((heap_setCell_other _ _ _ _ (by show w.heap.size ≠ B; omega)).trans P1.out)
    clear hK K
    (try simp only [Act.put, List.setIfInBounds_toArray, List.set_cons_zero, List.set_cons_succ])
    refine wpAnyH_ready (rs := [4]) (by kernel_rfl) (by simp) ?_
    refine AllReadyH.cons rfl (fun K hK => ?_) ?_
    ·
      go_simp
      refine hK.out _ _ ?_ (fun _ => ?_)
      · first | exact hS0 | exact HS.out _ P2.out | exact HS.out _ ((Below.heap_alloc w2 _ _ (by omega)).trans P2.out) | exact HS.out _ P1.out | exact HS.out _ ((heap_setCell_other _ _ _ _ (by show w.heap.size ≠ B; omega)).trans P1.out)
      clear hK K
      (try simp only [Act.put, List.setIfInBounds_toArray, List.set_cons_zero, List.set_cons_succ])
      refine wpAnyH_ready (rs := [7]) (by kernel_rfl) (by simp) ?_
      refine AllReadyH.cons rfl (fun K hK => ?_) ?_
      ·
        (refine step_append_lies _ ?q1 (.tmp 15) (.tmp 17) 79 ?q2 (B + 1) 160 i0 _ 3 24 Tryz.underlying79 hi hz0 hz1 hz2 rfl (Nat.succ_pos 2) (.slice j.ap pvs.length j.cp) pvs.length (pvs.flatMap PtV.cells) ?q3 H3.out.p ⟨w.heap.size + 2, 0, none⟩ 1 1 (PtV.cells p) ?q4 rfl (World.news_of_block HX.out) (PtV.one _) Nat.one_pos m63 m47 hbase (w.heap.size + 3) HZ.out ?_; (case q1 => rfl); (case q2 => rfl); (case q3 => rfl); (case q4 => rfl); intro g cap w1 hown1 hgrow hat' hlt)
        obtain ⟨f1, f2⟩ := H3.out.grownP (pvs' := pvs ++ [p]) (ap' := some ⟨g, 0, none⟩) (cp' := cap) hgrow (by rw [List.length_append, List.flatMap_append]; simpa using hown1)
        have g1 := H3.out.g.grown hgrow (ne_own (Nat.lt_succ_self B) H3.out.p) (ne_own (Nat.lt_trans H3.out.g.lo (Nat.lt_succ_self B)) H3.out.p)
        have k6 : w1.cell? ⟨B, 6, none⟩ = some (.slice j.ap pvs.length j.cp) := by simp [World.cell?, g1.blk, rblk, frest]
        have f6 := g1.free 6
        have P1 : Put (w1.heap[w.heap.size]? = some (.cells (PtV.cells p).toArray 160 (0, 0))) := ⟨(hgrow.block _ (Nat.lt_of_lt_of_eq (by omega) HZ.out.symm) (fun e => by have := (HH.out.p.lt _ e.symm).2; omega)).trans ((Below.heap_alloc w2 _ _ (by omega)).trans P2.out)⟩
        have N1 : Put (w1.heap[w.heap.size + 1]? = some (.cells #[.int .i64 (pvs.length : Nat)] 3 (0, 0))) := ⟨(hgrow.block _ (Nat.lt_of_lt_of_eq (by omega) HZ.out.symm) (fun e => by have := (HH.out.p.lt _ e.symm).2; omega)).trans ((Below.heap_alloc w2 _ _ (by omega)).trans N2.out)⟩
        have FIN : Put (_ ∧ _) := ⟨f1, f2⟩
        have GR : Put (∀ k, k < w.heap.size → (Value.slice j.ap pvs.length j.cp).ownBlock ≠ some k → w1.heap[k]? = w.heap[k]?) := ⟨fun k hk hkr => (hgrow.block k (Nat.lt_of_lt_of_eq (by omega) HZ.out.symm) (fun e => hkr e.symm)).trans ((Below.heap_alloc w2 _ _ (by omega)).trans (HBL.out.block k hk))⟩
        clear g1 hown1 hgrow hat' f1 f2
        refine hK.out _ _ ?_ (fun _ => ?_)
        · first | exact hS0 | exact HS.out _ P2.out | exact HS.out _ ((Below.heap_alloc w2 _ _ (by omega)).trans P2.out) | exact HS.out _ P1.out | exact HS.out _ ((heap_setCell_other _ _ _ _ (by show w.heap.size ≠ B; omega)).trans P1.out)
        clear hK K
        (try simp only [Act.put, List.setIfInBounds_toArray])
        refine wpAnyH_ready (rs := [8]) (by kernel_rfl) (by simp) ?_
        refine AllReadyH.cons rfl (fun K hK => ?_) ?_
        ·
          go_simp
          refine hK.out _ _ ?_ (fun _ => ?_)
          · first | exact hS0 | exact HS.out _ P2.out | exact HS.out _ ((Below.heap_alloc w2 _ _ (by omega)).trans P2.out) | exact HS.out _ P1.out | exact HS.out _ ((heap_setCell_other _ _ _ _ (by show w.heap.size ≠ B; omega)).trans P1.out)
          clear hK K
          (try simp only [Act.put, List.setIfInBounds_toArray, List.set_cons_zero, List.set_cons_succ])
          refine wpAnyH_ready (rs := [9]) (by kernel_rfl) (by simp) ?_
          refine AllReadyH.cons rfl (fun K hK => ?_) ?_
          ·
            go_simp
            refine hK.out _ _ ?_ (fun _ => ?_)
            · first | exact hS0 | exact HS.out _ P2.out | exact HS.out _ ((Below.heap_alloc w2 _ _ (by omega)).trans P2.out) | exact HS.out _ P1.out | exact HS.out _ ((heap_setCell_other _ _ _ _ (by show w.heap.size ≠ B; omega)).trans P1.out)
            clear hK K
            (try simp only [Act.put, List.setIfInBounds_toArray, List.set_cons_zero, List.set_cons_succ])
            refine wpAnyH_ready (rs := [10]) (by kernel_rfl) (by simp) ?_
            refine AllReadyH.cons rfl (fun K hK => ?_) ?_
            ·
              go_simp
              refine hK.out _ _ ?_ (fun _ => ?_)
              · first | exact hS0 | exact HS.out _ P2.out | exact HS.out _ ((Below.heap_alloc w2 _ _ (by omega)).trans P2.out) | exact HS.out _ P1.out | exact HS.out _ ((heap_setCell_other _ _ _ _ (by show w.heap.size ≠ B; omega)).trans P1.out)
              clear hK K
              (try simp only [Act.put, List.setIfInBounds_toArray, List.set_cons_zero, List.set_cons_succ])
              refine wpAnyH_done (by kernel_rfl) ?_ _
              go_wp2
              go_ret
              refine ⟨w.heap.size + 1, some ⟨g, 0, none⟩, cap, rfl, by omega, ?_, ?_, ?_, ?_⟩
              · exact (heap_setCell_other _ _ _ _ (by show w.heap.size + 1 ≠ B; omega)).trans N1.out
              · have := FIN.out.1; rw [List.length_append] at this; exact this
              · have := FIN.out.2; rw [List.length_append] at this; exact (HB2.out.trans (Fr.of_below ((Below.refl _ w2).alloc (Nat.le_refl _) (.cells (PtV.cells p).toArray 160)).drew (by omega))).trans this
              · intro k hk hkB hkr; exact (heap_setCell_other _ _ _ _ (by exact hkB)).trans (GR.out k hk hkr)
            exact AllReadyH.nil
          exact AllReadyH.nil
        exact AllReadyH.nil
      exact AllReadyH.nil
    exact AllReadyH.nil
  exact AllReadyH.nil
end
end Go.Proofs.YtgoebckimmofoaaGreatDoor

/- What the signs make. Our own text. -/
namespace Go.Proofs.YtgoebckimmofoaaGreatDoor
open Go.RowKit Go.Lib

/-- The reader, and what its parts mean. -/
def FP (B M : Nat) (s : ByteArray) (t : T) (wh : Value) (opn deep : Nat) (ps : List Pt) (wvs : List WV) (aw : Option Addr) (cw : Nat) (w : World) : Prop :=
  ∃ (pvs : List PtV) (ap : Option Addr) (cp : Nat), FRv B M s t wh opn deep pvs wvs ⟨ap, cp, aw, cw⟩ w ∧ All2 (PartOk w) pvs ps
def MakePost (B M : Nat) (s : ByteArray) (t : T) (wh : Value) (opn deep : Nat) (r : G × List Pt) (wvs : List WV) (aw : Option Addr) (cw : Nat) (w : World) (e : Ending) (w' : World) : Prop :=
  ∃ (f : Nat) (a : Array Value), e = .returned (.func (.func f) #[] a) ∧ FnP w' (.func (.func f) #[] a) r.1 ∧ FP B M s t wh opn deep r.2 wvs aw cw w' ∧ Fr B w w'
section
variable {B M : Nat} {s : ByteArray} {t : T} {wh : Value} {opn deep : Nat} {ps : List Pt} {wvs : List WV} {aw : Option Addr} {cw : Nat} {w w' : World} {fl fr : Nat} {cl cr : Array Value} {f g : G}
theorem FP.below (h : FP B M s t wh opn deep ps wvs aw cw w) (hb : Below w.heap.size w w') : FP B M s t wh opn deep ps wvs aw cw w' := by
  obtain ⟨pvs, ap, cp, h1, h2⟩ := h
  exact ⟨pvs, ap, cp, h1.below hb, h2.mono (fun _ _ h => h.kp (KP.of_below hb))⟩
theorem FP.lt (h : FP B M s t wh opn deep ps wvs aw cw w) : B < w.heap.size := by
  obtain ⟨pvs, ap, cp, h1, h2⟩ := h
  exact h1.lt
theorem not_any (lv : Value) (hg : FnP w (.func (.func fr) #[] cr) g) (h : FP B M s t wh opn deep ps wvs aw cw w) :
    Calls Tryz.prog 194 #[.pointer (some ⟨B, 5, none⟩), lv, .func (.func fr) #[] cr] w (MakePost B M s t wh opn deep (fun x b => !g x b, ps) wvs aw cw w) := by
  have hmf : ∀ (fn : Fn) (first cap : Array Value) (w : World), (Instr.makeFunc fn first cap).run Tryz.prog w = .ok (.func fn first cap) w := fun _ _ _ _ => rfl
  have HH : Put (_ ∧ _) := ⟨hg, h⟩
  clear hg h
  go_enter Tryz.func194, Tryz.ntmps194
  go_wp2
  go_ret
  have hb : Below w.heap.size w (w.alloc (.cells #[.func (.func fr) #[] cr] 78)) := (Below.refl _ w).alloc (Nat.le_refl _) _
  refine ⟨_, _, rfl, ⟨_, _, rfl, enters_of Tryz.func210 (by kernel_rfl) rfl, fun W hW h0 hT x b hx hb => ?_⟩, HH.out.2.below hb, Fr.of_below hb (Nat.le_of_lt HH.out.2.lt)⟩
  exact not1_any w.heap.size x b hx hb W ((KP.alloc _ _).trans hW) h0 hT HH.out.1 (hW.box (heap_alloc_new w (.cells #[.func (.func fr) #[] cr] 78)))
theorem and_any (hf : FnP w (.func (.func fl) #[] cl) f) (hg : FnP w (.func (.func fr) #[] cr) g) (h : FP B M s t wh opn deep ps wvs aw cw w) :
    Calls Tryz.prog 195 #[.pointer (some ⟨B, 5, none⟩), .func (.func fl) #[] cl, .func (.func fr) #[] cr] w (MakePost B M s t wh opn deep (fun x b => f x b && g x b, ps) wvs aw cw w) := by
  have hmf : ∀ (fn : Fn) (first cap : Array Value) (w : World), (Instr.makeFunc fn first cap).run Tryz.prog w = .ok (.func fn first cap) w := fun _ _ _ _ => rfl
  have HH : Put (_ ∧ _ ∧ _) := ⟨hf, hg, h⟩
  clear hf hg h
  go_enter Tryz.func195, Tryz.ntmps195
  go_wp2
  go_ret
  have hb : Below w.heap.size w ((w.alloc (.cells #[.func (.func fl) #[] cl] 78)).alloc (.cells #[.func (.func fr) #[] cr] 78)) := ((Below.refl _ w).alloc (Nat.le_refl _) _).alloc (by simp) _
  refine ⟨_, _, rfl, ⟨_, _, rfl, enters_of Tryz.func211 (by kernel_rfl) rfl, fun W hW h0 hT x b hx hb => ?_⟩, HH.out.2.2.below hb, Fr.of_below hb (Nat.le_of_lt HH.out.2.2.lt)⟩
  have b1 := ((KP.alloc _ (.cells #[.func (.func fr) #[] cr] 78)).trans hW).box (heap_alloc_new w (.cells #[.func (.func fl) #[] cl] 78))
  have b2 := hW.box (heap_alloc_new (w.alloc (.cells #[.func (.func fl) #[] cl] 78)) (.cells #[.func (.func fr) #[] cr] 78))
  rw [World.size_alloc] at b2
  exact and1_any w.heap.size (w.heap.size + 1) x b hx hb W (((KP.alloc _ _).trans (KP.alloc _ _)).trans hW) h0 hT HH.out.1 HH.out.2.1 b1 b2
theorem or_any (hf : FnP w (.func (.func fl) #[] cl) f) (hg : FnP w (.func (.func fr) #[] cr) g) (h : FP B M s t wh opn deep ps wvs aw cw w) :
    Calls Tryz.prog 196 #[.pointer (some ⟨B, 5, none⟩), .func (.func fl) #[] cl, .func (.func fr) #[] cr] w (MakePost B M s t wh opn deep (fun x b => f x b || g x b, ps) wvs aw cw w) := by
  have hmf : ∀ (fn : Fn) (first cap : Array Value) (w : World), (Instr.makeFunc fn first cap).run Tryz.prog w = .ok (.func fn first cap) w := fun _ _ _ _ => rfl
  have HH : Put (_ ∧ _ ∧ _) := ⟨hf, hg, h⟩
  clear hf hg h
  go_enter Tryz.func196, Tryz.ntmps196
  go_wp2
  go_ret
  have hb : Below w.heap.size w ((w.alloc (.cells #[.func (.func fl) #[] cl] 78)).alloc (.cells #[.func (.func fr) #[] cr] 78)) := ((Below.refl _ w).alloc (Nat.le_refl _) _).alloc (by simp) _
  refine ⟨_, _, rfl, ⟨_, _, rfl, enters_of Tryz.func212 (by kernel_rfl) rfl, fun W hW h0 hT x b hx hb => ?_⟩, HH.out.2.2.below hb, Fr.of_below hb (Nat.le_of_lt HH.out.2.2.lt)⟩
  have b1 := ((KP.alloc _ (.cells #[.func (.func fr) #[] cr] 78)).trans hW).box (heap_alloc_new w (.cells #[.func (.func fl) #[] cl] 78))
  have b2 := hW.box (heap_alloc_new (w.alloc (.cells #[.func (.func fl) #[] cl] 78)) (.cells #[.func (.func fr) #[] cr] 78))
  rw [World.size_alloc] at b2
  exact or1_any w.heap.size (w.heap.size + 1) x b hx hb W (((KP.alloc _ _).trans (KP.alloc _ _)).trans hW) h0 hT HH.out.1 HH.out.2.1 b1 b2
theorem keep_fn {b n : Nat} {w' : World} (hn : n < 64) (hb : w'.heap[b]? = some (.cells #[.int .i64 (n : Nat)] 3 (0, 0))) : FnP w' (.func (.func 218) #[] #[.pointer (some ⟨b, 0, none⟩)]) (fun _ c => c.testBit n) :=
  ⟨_, _, rfl, enters_of Tryz.func218 (by kernel_rfl) rfl, fun W hW _ _ x c _ hc => keep1_any b n x c hn hc W (hW.box hb)⟩
set_option maxRecDepth 100000 in
set_option maxHeartbeats 1600000 in
theorem next_mk (lv : Value) (hl : ps.length < 60) (hg : FnP w (.func (.func fr) #[] cr) g) (h : FP B M s t wh opn deep ps wvs aw cw w) :
    Calls Tryz.prog 197 #[.pointer (some ⟨B, 5, none⟩), lv, .func (.func fr) #[] cr] w (MakePost B M s t wh opn deep (fun _ b => b.testBit ps.length, ps ++ [⟨fun _ _ x' b' => g x' b', false, fun _ _ => true⟩]) wvs aw cw w) := by
  have hmf : ∀ (fn : Fn) (first cap : Array Value) (w : World), (Instr.makeFunc fn first cap).run Tryz.prog w = .ok (.func fn first cap) w := fun _ _ _ _ => rfl
  have hb : Below w.heap.size w (w.alloc (.cells #[.func (.func fr) #[] cr] 78)) := (Below.refl _ w).alloc (Nat.le_refl _) _
  obtain ⟨pvs, ap, cp, h1, h2⟩ := h
  have hpl := h2.length
  have HK : Put (_) := ⟨keep_any (by omega) (h1.below hb) ⟨214, #[.pointer (some ⟨w.heap.size, 0, none⟩)], false, 172, #[]⟩⟩
  have HH : Put (_ ∧ _ ∧ _) := ⟨hg, h1, h2⟩
  have HB : Put (_) := ⟨hb⟩
  clear hg h1 h2 hb
  go_enter Tryz.func197, Tryz.ntmps197
  go_wp2_with fail
  refine HK.out.mono ?_
  rintro e w2 ⟨b, ap', cp', rfl, hbge, hbx, hfr, hF, _⟩
  have FIN : Put (MakePost B M s t wh opn deep (fun _ b => b.testBit ps.length, ps ++ [⟨fun _ _ x' b' => g x' b', false, fun _ _ => true⟩]) wvs aw cw w (.returned (.func (.func 218) #[] #[.pointer (some ⟨b, 0, none⟩)])) w2) := ⟨by
    have hk : KP w w2 := (KP.of_below HB.out).trans hF.k
    have bx := hF.k.box (heap_alloc_new w (.cells #[.func (.func fr) #[] cr] 78))
    refine ⟨_, _, rfl, ?_, ⟨_, ap', cp', hfr, All2.snoc (R := PartOk w2) ⟨?_, rfl⟩ (HH.out.2.2.mono (fun _ _ h => h.kp hk))⟩, (Fr.of_below HB.out (Nat.le_of_lt HH.out.2.1.lt)).trans hF⟩
    · rw [hpl] at hbx; exact keep_fn (by omega) hbx
    · refine ⟨_, _, rfl, enters_of Tryz.func214 (by kernel_rfl) rfl, fun W hW h0 hT x b x' b' _ _ hx' hb' => ?_⟩
      exact next1_any w.heap.size x' b' x b hx' hb' W (hk.trans hW) h0 hT HH.out.1 (hW.box bx)⟩
  clear hbx hfr hF HK
  go_wp2
  go_ret
  exact FIN.out
end
end Go.Proofs.YtgoebckimmofoaaGreatDoor

/- What is put off. Our own text. -/
namespace Go.Proofs.YtgoebckimmofoaaGreatDoor
open Go.RowKit Go.Lib
section
variable {w : World} {fl fr fi : Nat} {cl cr ci : Array Value} {f g q : G}
set_option maxRecDepth 100000 in
set_option maxHeartbeats 1600000 in
theorem put1_any (bg bf bi x b x' b' : Nat) (hx : x < 64) (hb : b < 256) (hx' : x' < 64) (hb' : b' < 256) (W : World) (hW : KP w W) (h0 : 0 < W.heap.size) (hT : Tab W) (hf : FnP w (.func (.func fl) #[] cl) f) (hg : FnP w (.func (.func fr) #[] cr) g) (hq : FnP w (.func (.func fi) #[] ci) q)
    (b1 : W.heap[bg]? = some (.cells #[.func (.func fr) #[] cr] 78 (0, 0))) (b2 : W.heap[bf]? = some (.cells #[.func (.func fl) #[] cl] 78 (0, 0))) (b3 : W.heap[bi]? = some (.cells #[.func (.func fi) #[] ci] 78 (0, 0))) :
    Calls Tryz.prog 220 #[.agg #[.int .u8 (x : Nat), .int .u8 (b : Nat)], .agg #[.int .u8 (x' : Nat), .int .u8 (b' : Nat)], .pointer (some ⟨bg, 0, none⟩), .pointer (some ⟨bf, 0, none⟩), .pointer (some ⟨bi, 0, none⟩)] W fun e W' => e = .returned (.bool (g x b || (f x b && q x' b'))) ∧ Below W.heap.size W W' := by
  have c1 := box_cell b1
  have l1 := lt_of_block b1
  have l2 := lt_of_block b2
  have l3 := lt_of_block b3
  have hA := (Below.heap_alloc (W.alloc (.cells #[.int .u8 (x : Nat), .int .u8 (b : Nat)] 157)) (.cells #[.int .u8 (x' : Nat), .int .u8 (b' : Nat)] 157) W.heap.size (by simp)).trans (heap_alloc_new W (.cells #[.int .u8 (x : Nat), .int .u8 (b : Nat)] 157))
  have hN := heap_alloc_new (W.alloc (.cells #[.int .u8 (x : Nat), .int .u8 (b : Nat)] 157)) (.cells #[.int .u8 (x' : Nat), .int .u8 (b' : Nat)] 157)
  rw [World.size_alloc] at hN
  have HA : Put (Below W.heap.size W ((W.alloc (.cells #[.int .u8 (x : Nat), .int .u8 (b : Nat)] 157)).alloc (.cells #[.int .u8 (x' : Nat), .int .u8 (b' : Nat)] 157))) := ⟨((Below.refl _ _).alloc (Nat.le_refl _) _).alloc (by simp) _⟩
  have HG : Put (_) := ⟨hg.at hW h0 hT hx hb _ HA.out⟩
  have HF : Put (_) := ⟨hf.at hW h0 hT hx hb⟩
  have HQ : Put (_) := ⟨hq.at hW h0 hT hx' hb'⟩
  obtain ⟨_, _, e, en⟩ := hf.form
  obtain ⟨rfl, rfl⟩ : _ ∧ _ := by simpa using e
  obtain ⟨_, _, e', en'⟩ := hg.form
  obtain ⟨rfl, rfl⟩ : _ ∧ _ := by simpa using e'
  obtain ⟨_, _, e'', en''⟩ := hq.form
  obtain ⟨rfl, rfl⟩ : _ ∧ _ := by simpa using e''
  have BX : Put (_ ∧ _ ∧ _ ∧ _) := ⟨b2, b3, hA, hN⟩
  clear hW hT hf hg hq b1 b2 b3 e e' e'' hA hN
  generalize f x b = r at *
  generalize g x b = r' at *
  generalize q x' b' = r'' at *
  cases r' with
  | true =>
    go_enter Tryz.func220, Tryz.ntmps220
    go_wp2_with fail
    refine HG.out.mono ?_
    rintro e w1 ⟨rfl, hb1⟩
    go_wp2
    go_ret
    exact ⟨rfl, HA.out.trans (hb1.mono HA.out.size)⟩
  | false =>
    cases r with
    | false =>
      go_enter Tryz.func220, Tryz.ntmps220
      go_wp2_with fail
      refine HG.out.mono ?_
      rintro e w1 ⟨rfl, hb1⟩
      have hB := HA.out.trans (hb1.mono HA.out.size)
      have c2 := box_cell ((hB.block _ l2).trans BX.out.1)
      have p1 := (hb1.block _ (by simp; omega)).trans BX.out.2.2.1
      have q0 := two_cell0 p1
      have q1 := two_cell1 p1
      have HB : Put (_) := ⟨hB⟩
      clear hb1 hB p1
      go_wp2_with fail
      refine (HF.out w1 HB.out).mono ?_
      rintro e w2 ⟨rfl, hb2⟩
      go_wp2
      go_ret
      exact ⟨rfl, HB.out.trans (hb2.mono HB.out.size)⟩
    | true =>
      go_enter Tryz.func220, Tryz.ntmps220
      go_wp2_with fail
      refine HG.out.mono ?_
      rintro e w1 ⟨rfl, hb1⟩
      have hB := HA.out.trans (hb1.mono HA.out.size)
      have c2 := box_cell ((hB.block _ l2).trans BX.out.1)
      have p1 := (hb1.block _ (by simp; omega)).trans BX.out.2.2.1
      have n1 := (hb1.block _ (by simp)).trans BX.out.2.2.2
      have q0 := two_cell0 p1
      have q1 := two_cell1 p1
      have HB : Put (_) := ⟨hB⟩
      have HN : Put (_) := ⟨n1⟩
      clear hb1 hB p1 n1
      go_wp2_with fail
      refine (HF.out w1 HB.out).mono ?_
      rintro e w2 ⟨rfl, hb2⟩
      have hB2 := HB.out.trans (hb2.mono HB.out.size)
      have c3 := box_cell ((hB2.block _ l3).trans BX.out.2.1)
      have p2 := (hb2.block _ (lt_of_block HN.out)).trans HN.out
      have u0 := two_cell0 p2
      have u1 := two_cell1 p2
      have HB2 : Put (_) := ⟨hB2⟩
      clear hb2 hB2 p2 c2 q0 q1
      go_wp2_with fail
      refine (HQ.out w2 HB2.out).mono ?_
      rintro e w3 ⟨rfl, hb3⟩
      go_wp2
      go_ret
      exact ⟨rfl, HB2.out.trans (hb3.mono HB2.out.size)⟩
end
section
variable {B M : Nat} {s : ByteArray} {t : T} {wh : Value} {opn deep : Nat} {ps : List Pt} {wvs : List WV} {aw : Option Addr} {cw : Nat} {w : World} {fl fr : Nat} {cl cr : Array Value} {f g : G}
/-- The four boxes. -/
def w4 (w : World) (fl : Nat) (cl : Array Value) (fr : Nat) (cr : Array Value) (e : Bool) : World :=
  (((w.alloc (.cells #[.func (.func fl) #[] cl] 78)).alloc (.cells #[.func (.func fr) #[] cr] 78)).alloc (.cells #[.bool e] 4)).alloc (.cells #[.nilFunc] 78)
theorem w4_facts (w : World) (fl : Nat) (cl : Array Value) (fr : Nat) (cr : Array Value) (e : Bool) : Below w.heap.size w (w4 w fl cl fr cr e) ∧ (w4 w fl cl fr cr e).heap[w.heap.size]? = some (.cells #[.func (.func fl) #[] cl] 78 (0, 0)) ∧ (w4 w fl cl fr cr e).heap[w.heap.size + 1]? = some (.cells #[.func (.func fr) #[] cr] 78 (0, 0)) ∧ (w4 w fl cl fr cr e).heap[w.heap.size + 1 + 1 + 1]? = some (.cells #[.nilFunc] 78 (0, 0)) ∧ (w4 w fl cl fr cr e).heap.size = w.heap.size + 4 := by
  have h1 := heap_alloc_new w (.cells #[.func (.func fl) #[] cl] 78)
  have h2 := heap_alloc_new (w.alloc (.cells #[.func (.func fl) #[] cl] 78)) (.cells #[.func (.func fr) #[] cr] 78)
  have h4 := heap_alloc_new ((((w.alloc (.cells #[.func (.func fl) #[] cl] 78)).alloc (.cells #[.func (.func fr) #[] cr] 78)).alloc (.cells #[.bool e] 4))) (.cells #[.nilFunc] 78)
  simp only [World.size_alloc] at h2 h4
  unfold w4
  refine ⟨((((Below.refl _ w).alloc (Nat.le_refl _) _).alloc (by simp) _).alloc (by simp; omega) _).alloc (by simp; omega) _, ?_, ?_, h4, by simp⟩
  · rw [Below.heap_alloc _ _ _ (by first | (simp; done) | (simp; omega)), Below.heap_alloc _ _ _ (by first | (simp; done) | (simp; omega)), Below.heap_alloc _ _ _ (by simp)]; exact h1
  · rw [Below.heap_alloc _ _ _ (by first | (simp; done) | (simp; omega)), Below.heap_alloc _ _ _ (by first | (simp; done) | (simp; omega))]; exact h2
set_option maxRecDepth 100000 in
set_option maxHeartbeats 1600000 in
theorem putOff_any (e : Bool) (hl : ps.length < 60) (hf : FnP w (.func (.func fl) #[] cl) f) (hg : FnP w (.func (.func fr) #[] cr) g) (h : FP B M s t wh opn deep ps wvs aw cw w) :
    Calls Tryz.prog 216 #[.pointer (some ⟨B, 5, none⟩), .func (.func fl) #[] cl, .func (.func fr) #[] cr, .bool e] w (MakePost B M s t wh opn deep (putOff f g e ps) wvs aw cw w) := by
  have hmf : ∀ (fn : Fn) (first cap : Array Value) (w : World), (Instr.makeFunc fn first cap).run Tryz.prog w = .ok (.func fn first cap) w := fun _ _ _ _ => rfl
  obtain ⟨hb4, x1, x2, x4, z4⟩ := w4_facts w fl cl fr cr e
  obtain ⟨pvs, ap, cp, h1, h2⟩ := h
  have hpl := h2.length
  have hlt := h1.lt
  have HK : Put (_) := ⟨keep_any (by omega) (h1.below hb4) ⟨220, #[.pointer (some ⟨w.heap.size + 1, 0, none⟩), .pointer (some ⟨w.heap.size, 0, none⟩), .pointer (some ⟨w.heap.size + 1 + 1 + 1, 0, none⟩)], e, 221, #[.pointer (some ⟨w.heap.size + 1 + 1 + 1, 0, none⟩), .pointer (some ⟨w.heap.size + 1 + 1, 0, none⟩), .pointer (some ⟨w.heap.size + 1, 0, none⟩), .pointer (some ⟨w.heap.size, 0, none⟩)]⟩⟩
  have HH : Put (_ ∧ _ ∧ _ ∧ _) := ⟨hf, hg, h1, h2⟩
  have HB : Put (_ ∧ _ ∧ _ ∧ _ ∧ _) := ⟨hb4, x1, x2, x4, z4⟩
  unfold w4 at HK
  clear hf hg h1 h2 hb4 x1 x2 x4
  go_enter Tryz.func216, Tryz.ntmps216
  go_wp2_with fail
  refine HK.out.mono ?_
  rintro e' w5 ⟨b, ap', cp', rfl, hbge, hbx, hfr, hF, hoth⟩
  have hrow : ∀ k, (Value.slice ap pvs.length cp).ownBlock = some k → k < w.heap.size := fun k hk => (HH.out.2.2.1.p.lt k hk).2
  have hbi : w5.heap[w.heap.size + 1 + 1 + 1]? = some (.cells #[.nilFunc] 78 (0, 0)) :=
    (hoth (w.heap.size + 1 + 1 + 1) (Nat.lt_of_lt_of_eq (by omega) z4.symm) (by omega) (fun e => by have := hrow _ e; omega)).trans HB.out.2.2.2.1
  have ci := box_cell hbi
  have fi : w5.frozen? ⟨w.heap.size + 1 + 1 + 1, 0, none⟩ = false := by simp [World.frozen?, hbi]
  have li := lt_of_block hbi
  have FIN : Put (MakePost B M s t wh opn deep (putOff f g e ps) wvs aw cw w (.returned (.func (.func 218) #[] #[.pointer (some ⟨b, 0, none⟩)])) (w5.setCell ⟨w.heap.size + 1 + 1 + 1, 0, none⟩ (.func (.func 218) #[] #[.pointer (some ⟨b, 0, none⟩)]))) := ⟨by
    have hfill : KP w5 (w5.setCell ⟨w.heap.size + 1 + 1 + 1, 0, none⟩ (.func (.func 218) #[] #[.pointer (some ⟨b, 0, none⟩)])) := KP.fill _ hbi
    have hk5 : KP w w5 := (KP.of_below HB.out.1).trans hF.k
    have hk6 := hk5.trans hfill
    have y1 := (hF.k.trans hfill).box HB.out.2.1
    have y2 := (hF.k.trans hfill).box HB.out.2.2.1
    have y3 : (w5.setCell ⟨w.heap.size + 1 + 1 + 1, 0, none⟩ (.func (.func 218) #[] #[.pointer (some ⟨b, 0, none⟩)])).heap[w.heap.size + 1 + 1 + 1]? = some (.cells #[.func (.func 218) #[] #[.pointer (some ⟨b, 0, none⟩)]] 78 (0, 0)) := heap_setCell_same w5 _ 0 #[.nilFunc] 78 _ hbi
    have yb := hfill.box hbx
    rw [hpl] at yb
    have kf := keep_fn (by omega) yb
    have hge : w.heap.size ≤ w.heap.size + 1 + 1 + 1 := by omega
    refine ⟨_, _, rfl, kf, ⟨_, ap', cp', ⟨hfr.g.set_other (by show w.heap.size + 1 + 1 + 1 ≠ B; omega) (by show w.heap.size + 1 + 1 + 1 ≠ M; have := hfr.g.lo; omega) _, ?_, ?_⟩, All2.snoc (R := PartOk _) ⟨?_, rfl⟩ (HH.out.2.2.2.mono (fun _ _ h => h.kp hk6))⟩, ⟨(HB.out.1.mono (Nat.le_of_lt hlt)).trans (hF.b.setCell (by show B ≤ w.heap.size + 1 + 1 + 1; omega) _), hk6⟩⟩
    · exact ownsRow_setCell_other hfr.p (a := ⟨w.heap.size + 1 + 1 + 1, 0, none⟩) (ne_block_of_type hfr.p hbi (by decide)) _
    · exact ownsRow_setCell_other hfr.q (a := ⟨w.heap.size + 1 + 1 + 1, 0, none⟩) (ne_block_of_type hfr.q hbi (by decide)) _
    · refine ⟨_, _, rfl, enters_of Tryz.func220 (by kernel_rfl) rfl, fun W hW h0 hT x b x' b' hx hb hx' hb' => ?_⟩
      exact put1_any (w.heap.size + 1) w.heap.size (w.heap.size + 1 + 1 + 1) x b x' b' hx hb hx' hb' W hW h0 hT (HH.out.1.kp hk6) (HH.out.2.1.kp hk6) kf (hW.box y2) (hW.box y1) (hW.box y3)⟩
  clear hbx hfr hF HK hoth hbi hrow
  go_wp2
  go_ret
  exact FIN.out
theorem until_mk (hl : ps.length < 60) (hf : FnP w (.func (.func fl) #[] cl) f) (hg : FnP w (.func (.func fr) #[] cr) g) (h : FP B M s t wh opn deep ps wvs aw cw w) :
    Calls Tryz.prog 200 #[.pointer (some ⟨B, 5, none⟩), .func (.func fl) #[] cl, .func (.func fr) #[] cr] w (MakePost B M s t wh opn deep (putOff f g false ps) wvs aw cw w) := by
  have HK : Put (_) := ⟨putOff_any false hl hf hg h⟩
  clear hf hg h
  go_enter Tryz.func200, Tryz.ntmps200
  go_wp2_with fail
  refine HK.out.mono ?_
  rintro e' w5 ⟨b, j', rfl, h1, h2, h3⟩
  go_wp2
  go_ret
  exact ⟨_, _, rfl, h1, h2, h3⟩
theorem unless_mk (hl : ps.length < 60) (hf : FnP w (.func (.func fl) #[] cl) f) (hg : FnP w (.func (.func fr) #[] cr) g) (h : FP B M s t wh opn deep ps wvs aw cw w) :
    Calls Tryz.prog 202 #[.pointer (some ⟨B, 5, none⟩), .func (.func fl) #[] cl, .func (.func fr) #[] cr] w (MakePost B M s t wh opn deep (putOff f g true ps) wvs aw cw w) := by
  have HK : Put (_) := ⟨putOff_any true hl hf hg h⟩
  clear hf hg h
  go_enter Tryz.func202, Tryz.ntmps202
  go_wp2_with fail
  refine HK.out.mono ?_
  rintro e' w5 ⟨b, j', rfl, h1, h2, h3⟩
  go_wp2
  go_ret
  exact ⟨_, _, rfl, h1, h2, h3⟩
theorem some_mk (lv : Value) (hl : ps.length < 60) (hg : FnP w (.func (.func fr) #[] cr) g) (h : FP B M s t wh opn deep ps wvs aw cw w) :
    Calls Tryz.prog 198 #[.pointer (some ⟨B, 5, none⟩), lv, .func (.func fr) #[] cr] w (MakePost B M s t wh opn deep (putOff (fun _ _ => true) g false ps) wvs aw cw w) := by
  have HK : Put (_) := ⟨until_mk hl (always_fn w) hg h⟩
  clear hg h
  go_enter Tryz.func198, Tryz.ntmps198
  go_wp2_with fail
  refine HK.out.mono ?_
  rintro e' w5 ⟨b, j', rfl, h1, h2, h3⟩
  go_wp2
  go_ret
  exact ⟨_, _, rfl, h1, h2, h3⟩
theorem all_mk (lv : Value) (hl : ps.length < 60) (hg : FnP w (.func (.func fr) #[] cr) g) (h : FP B M s t wh opn deep ps wvs aw cw w) :
    Calls Tryz.prog 199 #[.pointer (some ⟨B, 5, none⟩), lv, .func (.func fr) #[] cr] w (MakePost B M s t wh opn deep (putOff g (fun _ _ => false) true ps) wvs aw cw w) := by
  have HK : Put (_) := ⟨unless_mk hl hg (never_fn w) h⟩
  clear hg h
  go_enter Tryz.func199, Tryz.ntmps199
  go_wp2_with fail
  refine HK.out.mono ?_
  rintro e' w5 ⟨b, j', rfl, h1, h2, h3⟩
  go_wp2
  go_ret
  exact ⟨_, _, rfl, h1, h2, h3⟩
theorem release_mk (hl : ps.length < 60) (hf : FnP w (.func (.func fl) #[] cl) f) (hg : FnP w (.func (.func fr) #[] cr) g) (h : FP B M s t wh opn deep ps wvs aw cw w) :
    Calls Tryz.prog 201 #[.pointer (some ⟨B, 5, none⟩), .func (.func fl) #[] cl, .func (.func fr) #[] cr] w (MakePost B M s t wh opn deep (putOff g (fun x b => f x b && g x b) true ps) wvs aw cw w) := by
  have HK : Put (_) := ⟨and_any hf hg h⟩
  have HG : Put (_) := ⟨hg⟩
  clear hf hg h
  go_enter Tryz.func201, Tryz.ntmps201
  go_wp2_with fail
  refine HK.out.mono ?_
  rintro e' w5 ⟨b, j', rfl, h1, h2, h3⟩
  have HU : Put (_) := ⟨unless_mk hl (HG.out.kp h3.k) h1 h2⟩
  have HF : Put (_) := ⟨h3⟩
  clear h1 h2 h3 HK
  go_wp2_with fail
  refine HU.out.mono ?_
  rintro e' w6 ⟨b, j', rfl, h1, h2, h3⟩
  go_wp2
  go_ret
  exact ⟨_, _, rfl, h1, h2, HF.out.trans h3⟩
end
end Go.Proofs.YtgoebckimmofoaaGreatDoor
