/- The texts of a set of states. Our own text. -/
import Derived.Test.YtkbmolodljenjaaDoorMFirst
namespace Go.Proofs.YtkbmolodljenjaaDoor
open Go.RowKit Go.Shelf Go.Lib
attribute [local go_sem] Oper.semAt_some

/-- An append in a region that draws its order, inside a fence. -/
theorem step_append_in {F : Fence} {n : Nat} {P : Program} {ops : Array Oper} {o : Oper} {a : Act} {w : World} {K : Act → World → Prop} {Q : Exit → Act → World → Prop} {E : Prop}
    (hg : o.guard = none) (s x : Operand) (t : TypeId) (hop : o.op = Op.call { callee := Callee.builtin Builtin.append, args := #[s, x], argTypes := #[t, t] })
    (base : Nat) (e : TypeId) (i : TypeInfo) (z : Value) (size bytes : Nat) (h1 : P.underlying t = some (.slice e)) (h2 : P.info? e = some i) (h3 : i.zero = some z) (h4 : i.size = size) (h5 : i.bytes = bytes) (h6 : z.cells.size = size) (h7 : 0 < size)
    (v : Value) (k : Nat) (xs : List Value) (hs : a.eval s = v) (hown : w.ownsRow base e size v k xs) (ad : Addr) (m c : Nat) (news : List Value) (hx : a.eval x = .slice (some ad) m c) (hn : news.length = m * size)
    (hc : ∀ j u, news[j]? = some u → w.cell? (ad.add j) = some u) (h1c : ∀ u ∈ news, u.oneCell' = true) (b1 : k + m ≤ maxLen) (b2 : (k + m) * bytes ≤ 140737488355328) (b3 : base ≤ w.heap.size)
    (hK : ∀ v' w', w'.ownsRow base e size v' (k + m) (xs ++ news) → w.grownBy w' v.ownBlock → K (a.put o.dst v') w') :
    if Region.wanted o (yielded ops a.tmps) = true then Oper.wpIn F n P o a w K Q else E := by
  have hw : Region.wanted o (yielded ops a.tmps) = true := by simp [Region.wanted, hg]
  rw [if_pos hw]
  obtain ⟨v', w', hrun, r1, r2, r3⟩ := run_append_own (P := P) w base t o.type e i z size bytes h1 h2 h3 h4 h5 h6 h7 v k xs hown ad m c news hn hc h1c b1 b2 b3
  unfold Oper.wpIn
  refine ⟨?_, ?_⟩
  · simp [Oper.about, hop, resolve, Target.leads, Sem.run_pure]
  · rw [Oper.semAt_plain F _ _ (by rw [hop]; intro c hc'; cases hc')]
    simp [execOp, hop, resolve, invoke, builtin, hs, hx, hrun, Result.andThen]
    exact hK v' w' r1 r2

theorem keeps_of_below {W W' : World} (h : Below W.heap.size W W') : KeepsOthers W W' :=
  ⟨h.size, fun k _ hk _ => (h.block k (Array.getElem?_eq_some_iff.1 hk).1).trans hk⟩

end Go.Proofs.YtkbmolodljenjaaDoor
namespace Go.RowKit
open Go.Proofs.YtkbmolodljenjaaDoor
theorem Below.keepsRow {w w' : World} (h : Below w.heap.size w w') {base e z n : Nat} {v : Value} {xs : List Value} (ho : w.ownsRow base e z v n xs) : w'.ownsRow base e z v n xs := by
  refine ⟨ho.1, ?_⟩
  rcases ho.2 with hn | ⟨g, cap, cur, rfl, hb, hg, r⟩
  · exact .inl hn
  · exact .inr ⟨g, cap, cur, rfl, hb, by rw [h.block g (lt_of_block hg)]; exact hg, r⟩
end Go.RowKit
namespace Go.Proofs.YtkbmolodljenjaaDoor
open Go.RowKit Go.Shelf Go.Lib
attribute [local go_sem] Oper.semAt_some

set_option maxRecDepth 100000 in
set_option maxHeartbeats 4000000 in
theorem texts_any (B m n : Nat) (g f : Nat → Nat) (hm : m < 18446744073709551616) (h1 : 1 ≤ n) (hn : n ≤ 3) (w : World) (hM : MC B g f n w) (hB : B < w.heap.size) (hT : Tab w) :
    Calls Tryd.prog 26 #[.pointer (some ⟨B, 0, none⟩), .int .u64 m] w fun e w' => (∃ v, e = .returned v ∧ w'.ownsRow w.heap.size 9 1 v (mem m).length (strs ((mem m).map (fun i => digs n i.val)))) ∧ Below w.heap.size w w' := by
  have h0w : 0 < w.heap.size := by omega
  obtain ⟨i0, hi, hz0, hz1, hz2⟩ := info_parts info9
  refine (callsIn_wide (n := 6)).1 ?_
  refine callsIn_of_wp_marks Tryd.func26 rfl trivial ?_ rfl
  simp only [Tryd.ntmps26, List.size_toArray, List.length_cons, List.length_nil, Nat.reduceAdd, Nat.reduceSub, Array.replicate_succ, Array.replicate_zero, List.push_toArray, List.append_toArray, List.nil_append, List.cons_append]
  gi_wp2
  refine ⟨trivial, ?_⟩
  refine (callsIn_wide.2 (members35 m _)).mono ?_
  rintro e w' ⟨rfl, rfl⟩
  gi_wp2
  have bP := ((Boxed.new w 47 (.pointer (some ⟨B, 0, none⟩))).alloc (.cells #[.slice none 0 0] 29)).alloc (.cells #[.int .u64 m] 59)
  have bO := (Boxed.new (w.alloc (.cells #[.pointer (some ⟨B, 0, none⟩)] 47)) 29 (.slice none 0 0)).alloc (.cells #[.int .u64 m] 59)
  have bM := Boxed.new ((w.alloc (.cells #[.pointer (some ⟨B, 0, none⟩)] 47)).alloc (.cells #[.slice none 0 0] 29)) 59 (.int .u64 m)
  simp only [World.size_alloc] at bP bO bM
  have hB0 : Below w.heap.size w (((w.alloc (.cells #[.pointer (some ⟨B, 0, none⟩)] 47)).alloc (.cells #[.slice none 0 0] 29)).alloc (.cells #[.int .u64 m] 59)) := (((Below.refl _ w).alloc (Nat.le_refl _) _).alloc (by simp) _).alloc (by simp; omega) _
  have hsz : (((w.alloc (.cells #[.pointer (some ⟨B, 0, none⟩)] 47)).alloc (.cells #[.slice none 0 0] 29)).alloc (.cells #[.int .u64 m] 59)).heap.size = w.heap.size + 3 := by simp
  generalize ((w.alloc (.cells #[.pointer (some ⟨B, 0, none⟩)] 47)).alloc (.cells #[.slice none 0 0] 29)).alloc (.cells #[.int .u64 m] 59) = W0 at *
  refine wpIn_rangeFunc_ownH (α := Fin 64) rfl (by decide) (gf := 67) (lb := #[.pointer (some ⟨w.heap.size + 1 + 1, 0, none⟩)]) rfl trivial (enters_of Tryd.func67 (by kernel_rfl) rfl)
    (stops52 5 (by decide) (w.heap.size + 1 + 1) w.heap.size m hm h0w W0 (by omega) (by omega) bM.cell (hT.below hB0 h0w)) belowK_t (belowK_b (by omega)) (Below.refl _ _) (fun _ => rfl)
    (fun pre W => ((∃ v, Boxed W (w.heap.size + 1) 29 v ∧ W.ownsRow w.heap.size 9 1 v pre.length (strs (pre.map (fun i => digs n i.val))) ∧ True) ∧ Boxed W w.heap.size 47 (.pointer (some ⟨B, 0, none⟩))) ∧ Below w.heap.size w W)
    (fun _ _ _ => False)
    (OwnFrom.and (OwnFrom.and (Own.from (holdsRow_own w.heap.size (w.heap.size + 1) 29 9 1 (fun pre : List (Fin 64) => pre.length) (fun pre => strs (pre.map (fun i => digs n i.val))) (fun _ _ => True)) _) (Own.from (boxed_own _ _ _) _)) (ownFrom_below (Nat.le_refl _) (by omega)))
    (fun _ _ _ _ _ hs _ _ => hs)
    ⟨⟨⟨_, bO, World.ownsRow_nil _ _ _ _, trivial⟩, bP⟩, hB0⟩
    (fun x a' _ => a' = { tmps := #[.pointer (some ⟨B, 0, none⟩), .int .u64 m, .pointer (some ⟨w.heap.size, 0, none⟩), undef, .slice none 0 0, .pointer (some ⟨w.heap.size + 1, 0, none⟩), .int .i64 (x.val : Nat), .int .u64 m, .func (.func 67) #[] #[.pointer (some ⟨w.heap.size + 1 + 1, 0, none⟩)], .int .i64 (x.val : Nat), undef, undef, undef, undef, undef, undef, undef, undef], defers := [] })
    (fun _ _ _ _ _ _ hs _ _ => hs)
    ?assign ?body ?done ?stop
  case assign =>
    rintro l pre x W K hi hK
    gi_wp2
    exact hK _ _ (KeepsFrom.refl _ _) (Below.refl _ _) hi rfl
  case body =>
    rintro l pre x a' W hl ⟨r, hr⟩ ⟨⟨⟨v, bO1, hrow, -⟩, bP1⟩, hB1⟩ rfl hlt
    obtain ⟨ao, cap, rfl⟩ : ∃ ao cap, v = .slice ao pre.length cap := by
      rcases hrow.2 with ⟨rfl, h0⟩ | ⟨g, cap, cur, rfl, _⟩
      · exact ⟨none, 0, by rw [h0]⟩
      · exact ⟨_, cap, rfl⟩
    have cO := bO1.cell
    have cP := bP1.cell
    have hx := x.2
    have cN := (hM.below hB1 hB).2
    have hsW := hB1.size
    have hlO := bO1.lt
    have hxw : IntKind.u8.wrap (x.val : Int) = (x.val : Int) := by simp [IntKind.wrap, IntKind.signed, IntKind.bits]; omega
    have h36 : CallsIn (Fence.wide.inRound l) 3 Tryd.prog 48 #[.pointer (some ⟨B, 0, none⟩), .int .u8 (x.val : Nat)] W.drew fun e w' => e = .returned (.string (txtL (digs n x.val))) ∧ Below W.drew.heap.size W.drew w' := CallsIn.inRound l (callsIn_wide.2 (text_any B x.val n hx h1 hn W.drew cN))
    have HR : Put (strs ((pre ++ [x]).map (fun i => digs n i.val)) = strs (pre.map (fun i => digs n i.val)) ++ [.string (txtL (digs n x.val))]) := ⟨by simp [strs]⟩
    gi_wp2
    have HQ : Put (∀ (a1 : Act) (w2 w5 : World) (g5 cap5 : Nat), Below W.heap.size W w2 → Boxed (w5.setCell ⟨w.heap.size + 1, 0, none⟩ (.slice (some ⟨g5, 0, none⟩) (pre.length + 1) cap5)) (w.heap.size + 1) 29 (.slice (some ⟨g5, 0, none⟩) (pre.length + 1) cap5) →
        (w5.setCell ⟨w.heap.size + 1, 0, none⟩ (.slice (some ⟨g5, 0, none⟩) (pre.length + 1) cap5)).ownsRow w.heap.size 9 1 (.slice (some ⟨g5, 0, none⟩) (pre.length + 1) cap5) (pre.length + 1) (strs (pre.map (fun i => digs n i.val)) ++ [.string (txtL (digs n x.val))]) →
        Boxed (w5.setCell ⟨w.heap.size + 1, 0, none⟩ (.slice (some ⟨g5, 0, none⟩) (pre.length + 1) cap5)) w.heap.size 47 (.pointer (some ⟨B, 0, none⟩)) →
        KeepsOthers w2 (w5.setCell ⟨w.heap.size + 1, 0, none⟩ (.slice (some ⟨g5, 0, none⟩) (pre.length + 1) cap5)) → Below w.heap.size w2 (w5.setCell ⟨w.heap.size + 1, 0, none⟩ (.slice (some ⟨g5, 0, none⟩) (pre.length + 1) cap5)) →
        ownPostG W0.heap.size (Below w.heap.size) (fun pre W => ((∃ v, Boxed W (w.heap.size + 1) 29 v ∧ W.ownsRow w.heap.size 9 1 v pre.length (strs (pre.map (fun i => digs n i.val))) ∧ True) ∧ Boxed W w.heap.size 47 (.pointer (some ⟨B, 0, none⟩))) ∧ Below w.heap.size w W) (fun _ _ _ => False) (pre ++ [x]) W .normal a1 (w5.setCell ⟨w.heap.size + 1, 0, none⟩ (.slice (some ⟨g5, 0, none⟩) (pre.length + 1) cap5))) := by
      refine ⟨fun a1 w2 w5 g5 cap5 q1 q2 q3 q4 q5 q6 => ?_⟩
      have q7 : Below w.heap.size W (w5.setCell ⟨w.heap.size + 1, 0, none⟩ (.slice (some ⟨g5, 0, none⟩) (pre.length + 1) cap5)) := (q1.mono hsW).trans q6
      exact ⟨((keeps_of_below q1).trans q5).from _, q7, ⟨⟨_, q2, by rw [HR.out, List.length_append]; exact q3, trivial⟩, q4⟩, hB1.trans q7⟩
    have HB : Put (_ ∧ _ ∧ _) := ⟨bO1, bP1, hrow⟩
    clear bO1 bP1 hrow hB0 bP bO bM hr hl HR hM hT
    refine wpIn_region_any (by kernel_rfl) ?_
    change wpAnyIn _ _ _ _ _ _ _ _ _ (World.drew _)
    repeat' first
      | with_reducible exact AllReadyIn.nil
      | with_reducible refine AllReadyIn.cons rfl (fun K hK => ?_) ?_
      | refine wpAnyIn_ready (rs := [0, 1, 2]) (by decide +kernel) (by simp) ?_
      | refine wpAnyIn_ready (rs := [0, 2]) (by decide +kernel) (by simp) ?_
      | refine wpAnyIn_ready (rs := [0, 1, 3]) (by decide +kernel) (by simp) ?_
      | refine wpAnyIn_ready (rs := [0, 3]) (by decide +kernel) (by simp) ?_
      | refine wpAnyIn_ready (rs := [0, 1]) (by decide +kernel) (by simp) ?_
      | refine wpAnyIn_ready (rs := [0, 4]) (by decide +kernel) (by simp) ?_
      | refine wpAnyIn_ready (rs := [0, 5]) (by decide +kernel) (by simp) ?_
      | refine wpAnyIn_ready (rs := [0]) (by decide +kernel) (by simp) ?_
      | refine wpAnyIn_ready (rs := [1, 2]) (by decide +kernel) (by simp) ?_
      | refine wpAnyIn_ready (rs := [2]) (by decide +kernel) (by simp) ?_
      | refine wpAnyIn_ready (rs := [1, 3]) (by decide +kernel) (by simp) ?_
      | refine wpAnyIn_ready (rs := [3]) (by decide +kernel) (by simp) ?_
      | refine wpAnyIn_ready (rs := [1]) (by decide +kernel) (by simp) ?_
      | refine wpAnyIn_ready (rs := [4]) (by decide +kernel) (by simp) ?_
      | refine wpAnyIn_ready (rs := [5]) (by decide +kernel) (by simp) ?_
      | refine wpAnyIn_ready (rs := [6]) (by decide +kernel) (by simp) ?_
      | refine wpAnyIn_ready (rs := [7]) (by decide +kernel) (by simp) ?_
      | (go_simp
         refine hK _ _ ?_
         clear hK K)
      | (go_simp
         refine ⟨trivial, ?_⟩
         refine h36.mono ?_
         rintro e w2 ⟨rfl, hb2⟩
         have hb2' : Below W.heap.size W w2 := ⟨hb2.os, hb2.tape, hb2.output, hb2.size, hb2.block⟩
         obtain ⟨bO1, bP1, hrow⟩ := HB.out
         have bO2 : Boxed w2 (w.heap.size + 1) 29 (.slice ao pre.length cap) := (hb2'.block _ bO1.lt).trans bO1
         have bP2 : Boxed w2 w.heap.size 47 (.pointer (some ⟨B, 0, none⟩)) := (hb2'.block _ bP1.lt).trans bP1
         have hrow2 : w2.ownsRow w.heap.size 9 1 (.slice ao pre.length cap) pre.length (strs (pre.map (fun i => digs n i.val))) := hb2'.keepsRow hrow
         have hsz2 : w.heap.size ≤ w2.heap.size := Nat.le_trans hsW hb2'.size
         have cO2 := bO2.cell
         have cO3 := (bO2.alloc (.cells #[.string (txtL (digs n x.val))] 9)).cell
         have cP2 := bP2.cell
         clear bO1 bP1 hrow hb2
         refine hK _ _ ?_
         clear hK K)
      | (refine step_append_in (w := w2.alloc (.cells #[.string (txtL (digs n x.val))] 9)) rfl _ _ 29 rfl w.heap.size 9 i0 _ 1 16 Tryd.underlying29 hi hz0 hz1 hz2 rfl Nat.one_pos (.slice ao pre.length cap) pre.length (strs (pre.map (fun i => digs n i.val))) rfl (hrow2.alloc _) ⟨w2.heap.size, 0, none⟩ 1 1 [.string (txtL (digs n x.val))] rfl rfl (cell_one_new _ _ _) (by simp [Value.oneCell']) (by unfold maxLen; omega) (by omega) (by have := hsz2; simp; omega) ?_
         intro v' w5 hown' hgrow
         obtain ⟨g5, cap5, rfl⟩ := ownsRow_succ hown'
         obtain ⟨hv1, hv2, hr2, hk2, hb5⟩ := bO2.appended (by decide) hrow2 hsz2 (by omega) hown' hgrow
         have hv3 : Boxed (w5.setCell ⟨w.heap.size + 1, 0, none⟩ (.slice (some ⟨g5, 0, none⟩) (pre.length + 1) cap5)) w.heap.size 47 (.pointer (some ⟨B, 0, none⟩)) := ((bP2.alloc _).kept hgrow (bP2.not_row (by decide) hrow2)).other (by omega) _
         have hc1 := hv1.cell
         have hf1 := hv1.frozen
         have HF : Put (_ ∧ _ ∧ _ ∧ _ ∧ _) := ⟨hv2, hr2, hv3, hk2, hb5⟩
         clear hv1 hv2 hr2 hv3 hk2 hb5 hown' hgrow
         refine hK _ _ ?_
         clear hK K)
    all_goals
      refine wpAnyIn_done (by kernel_rfl) ?_ _
      obtain ⟨q2, q3, q4, q5, q6⟩ := HF.out
      exact HQ.out { tmps := #[], defers := [] } w2 w5 g5 cap5 hb2' q2 q3 q4 q5 q6
  case done =>
    rintro D zs W hD rfl ⟨⟨⟨v, bO1, hrow, -⟩, bP1⟩, hB1⟩ hK
    have cO := bO1.cell
    obtain ⟨ao, cap, rfl⟩ : ∃ ao cap, v = .slice ao (mem m).length cap := by
      rcases hrow.2 with ⟨rfl, h0⟩ | ⟨g, cap, cur, rfl, _⟩
      · exact ⟨none, 0, by rw [h0]⟩
      · exact ⟨_, cap, rfl⟩
    gi_wp2
    refine ⟨by simp, .inl ⟨_, _, rfl, run_takeDeferred hK, ?_⟩⟩
    exact ⟨_, results_tmp rfl _ _ _, ⟨_, rfl, ownsRow_putObj hrow _ hK rfl⟩, hB1.trans (belowK_b (w := w) (Nat.le_refl _) W D _ _ (by omega) hK rfl rfl)⟩
  case stop =>
    rintro D c pre W _ _ h _
    exact h.elim
end Go.Proofs.YtkbmolodljenjaaDoor
