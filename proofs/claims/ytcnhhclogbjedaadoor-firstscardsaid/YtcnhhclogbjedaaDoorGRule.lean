/- What a rule of a good model makes. Our own text. -/
import Derived.Test.YtcnhhclogbjedaaDoorGChange
namespace Go.Proofs.YtcnhhclogbjedaaDoor
open Go.RowKit Go.Lib

theorem vals_at {w : World} {base e : Nat} {ao : Option Addr} {cap : Nat} {l : List Value} (h : w.ownsRow base e 1 (.slice ao l.length cap) l.length l) (hl : 0 < l.length) : ∃ g, ao = some ⟨g, 0, none⟩ ∧ base ≤ g ∧ g < w.heap.size ∧ l.length ≤ cap ∧ ∀ k (hk : k < l.length), w.cell? ⟨g, k, none⟩ = some l[k] := by
  have e1 : l = l.flatMap (fun d => [d]) := by simp
  have h2 : w.ownsRow base e 1 (.slice ao l.length cap) l.length (l.flatMap (fun d => [d])) := by rw [← e1]; exact h
  obtain ⟨g, h1, h3, h4, h5, h6⟩ := row_at (z := 1) (fun _ => rfl) h2 hl
  exact ⟨g, h1, h3, h4, h5, fun k hk => by have := h6 k hk 0 (by omega); simpa using this⟩
theorem chF_snoc (ds : List (Nat × Nat)) (k : Nat) (h : k < ds.length) (m : Nat) : chF (ds.take (k + 1)) m = spr (chF (ds.take k) m) ds[k].1 ds[k].2 := by
  have e : ds.take (k + 1) = ds.take k ++ [ds[k]] := by rw [List.take_add_one, List.getElem?_eq_getElem h]; rfl
  rw [e]; unfold chF; rw [List.foldl_append]; rfl
set_option maxRecDepth 100000 in
set_option maxHeartbeats 1600000 in
theorem fn87_any (s : ByteArray) (G : Nat → Nat) (bc bd y : Nat) (hy : y < 64) (b1 b2 : Nat) (aoc aod : Option Addr) (capc capd : Nat) (xs ys : List Value) (cs : List (Tm × Tm)) (ds : List Chg) (w W : World) (hW : Kp 0 w W) (h0 : 0 < W.heap.size) (hT : Tab W) (h8 : xs.length ≤ 200) (h9 : ys.length ≤ 200)
    (hc : All2 (fun v c => FnK 0 w v (fun y => .bool (cdP s c y))) xs cs) (hd : All2 (fun v d => FnK2 w v (fun y m => .int .u64 (spr m d.1.toNat (toP s d (G d.1.toNat + 1) y) : Nat))) ys ds) (hd3 : ∀ d ∈ ds, d.1.toNat < 3)
    (rc : 0 < xs.length → W.ownsRow b1 149 1 (.slice aoc xs.length capc) xs.length xs) (rd : 0 < ys.length → W.ownsRow b2 150 1 (.slice aod ys.length capd) ys.length ys)
    (x1 : W.heap[bc]? = some (.cells #[.slice aoc xs.length capc] 72 (0, 0))) (x2 : W.heap[bd]? = some (.cells #[.slice aod ys.length capd] 73 (0, 0))) :
    Calls Tryd.prog 87 #[.int .u8 (y : Nat), .pointer (some ⟨bc, 0, none⟩), .pointer (some ⟨bd, 0, none⟩)] W fun e W' => e = .returned (.int .u64 (ruP s G (cs, ds) y : Nat)) ∧ Below W.heap.size W W' := by
  have c1 := box_cell x1
  have c2 := box_cell x2
  have l1 := lt_of_block x1
  have l2 := lt_of_block x2
  have HRC : Put (_) := ⟨rc⟩
  have HRD : Put (_) := ⟨rd⟩
  have HC : Put (_) := ⟨hc⟩
  have HD : Put (_) := ⟨hd⟩
  have hlc := hc.length
  have hld := hd.length
  generalize hP : ruP s G (cs, ds) y = P
  have hru : ruP s G (cs, ds) y = if cs.all (fun c => cdP s c y) then chF (dsP s G ds y) (2 ^ y) else 0 := rfl
  rw [hru] at hP
  have HP : Put (_ = P) := ⟨hP⟩
  have HD3 : Put (_) := ⟨hd3⟩
  clear hP hru rc rd x1 x2 hc hd hd3
  go_enter Tryd.func87, Tryd.ntmps87
  go_wp2_with fail
  go_loopg [12] xs.length (fun gk iv wr => ∃ i : Nat, iv = .int .i64 i ∧ i + gk = xs.length ∧ Below W.heap.size W wr ∧ (if (cs.drop i).all (fun c => cdP s c y) then chF (dsP s G ds y) (2 ^ y) else 0) = P)
  case atStart => exact ⟨0, rfl, by omega, Below.refl _ _, HP.out⟩
  case round =>
    clear HP
    obtain ⟨i, rfl, hik, hBr, hPi⟩ := hrel
    have hsr := hBr.size
    by_cases hlt : i < xs.length
    · have hlt' : (i : Int) < (xs.length : Int) := by omega
      have i0 : (0 : Int) ≤ (i : Int) := by omega
      obtain ⟨g', rfl⟩ : ∃ g', gk = g' + 1 := ⟨gk - 1, by omega⟩
      have hic : i < cs.length := by omega
      obtain ⟨g, rfl, hg1, hg2, hg3, hcell⟩ := vals_at (HRC.out (by omega)) (by omega)
      have q := (hBr.cell (p := ⟨g, i, none⟩) hg2).trans (hcell i hlt)
      obtain ⟨fn, caps, hv, hen, hcall⟩ := HC.out.get i hlt hic
      rw [hv] at q
      rw [List.drop_eq_getElem_cons hic, List.all_cons] at hPi
      have hcl : Calls Tryd.prog fn (#[.int .u8 (y : Nat)] ++ caps) wr fun e W' => e = .returned (.bool (cdP s cs[i] y)) ∧ Below wr.heap.size wr W' := hcall wr (hW.trans (Kp.of_below hBr)) (by omega) (hT.below hBr h0) y hy
      generalize cdP s cs[i] y = bb at hcl hPi
      have HPi : Put (_ = P) := ⟨hPi⟩
      clear hcell hv hcall hPi
      go_wp2_with fail
      refine hcl.mono ?_
      rintro e w3 ⟨rfl, hb3⟩
      have hB3 : Below W.heap.size W w3 := hBr.trans (hb3.mono hsr)
      clear hcl hb3 hBr
      cases bb with
      | true =>
        have HPj : Put ((if (cs.drop (i + 1)).all (fun c => cdP s c y) then chF (dsP s G ds y) (2 ^ y) else 0) = P) := ⟨HPi.out⟩
        clear HPi
        go_wp2
        go_roundg g'
        case measure => exact Nat.lt_succ_self _
        case rel => exact ⟨i + 1, by go_num, by omega, hB3, HPj.out⟩
      | false =>
        have hP0 : 0 = P := by have := HPi.out; simpa using this
        subst hP0
        clear HPi
        go_wp2
        go_ret
        exact ⟨rfl, hB3⟩
    · obtain rfl : i = xs.length := by omega
      have hlt' : ¬ ((xs.length : Int) < (xs.length : Int)) := by omega
      rw [hlc, List.drop_length] at hPi
      have HPi : Put (chF (dsP s G ds y) (2 ^ y) = P) := ⟨by simpa using hPi⟩
      clear hPi
      have d2 := (hBr.cell (p := ⟨bd, 0, none⟩) l2).trans c2
      go_wp2_with fail
      refine (with64_any 0 y (by decide) hy wr).mono ?_
      rintro e w3 ⟨rfl, rfl⟩
      go_wp2_with fail
      have hBk := hBr
      generalize w3 = wk at *
      go_loopg [7, 26] ys.length (fun gk mv iv wr => ∃ k : Nat, iv = .int .i64 k ∧ k + gk = ys.length ∧ mv = .int .u64 (chF ((dsP s G ds y).take k) (2 ^ y) : Nat) ∧ Below W.heap.size W wr)
      case atStart => exact ⟨0, rfl, by omega, by simp [chF], hBk⟩
      case round =>
        clear hBk hBr
        obtain ⟨k, rfl, hkk, rfl, hBr⟩ := hrel
        have hsr := hBr.size
        have hdl : (dsP s G ds y).length = ds.length := by simp [dsP]
        have h3d : ∀ e ∈ dsP s G ds y, e.1 < 3 := by
          intro e he
          unfold dsP at he
          obtain ⟨d, hd, rfl⟩ := List.mem_map.1 he
          exact HD3.out d hd
        have hlt : chF ((dsP s G ds y).take k) (2 ^ y) < 18446744073709551616 := by
          rw [← p64]
          exact chF_lt _ _ (fun e he => h3d e (List.mem_of_mem_take he)) (Nat.pow_lt_pow_right (by decide) hy)
        by_cases hk : k < ys.length
        · have hk' : (k : Int) < (ys.length : Int) := by omega
          have k0 : (0 : Int) ≤ (k : Int) := by omega
          obtain ⟨g', rfl⟩ : ∃ g', gk = g' + 1 := ⟨gk - 1, by omega⟩
          have hkd : k < ds.length := by omega
          obtain ⟨g, rfl, hg1, hg2, hg3, hcell⟩ := vals_at (HRD.out (by omega)) (by omega)
          have q := (hBr.cell (p := ⟨g, k, none⟩) hg2).trans (hcell k hk)
          obtain ⟨fn, caps, hv, hen, hcall⟩ := HD.out.get k hk hkd
          rw [hv] at q
          have hsn := chF_snoc (dsP s G ds y) k (by omega) (2 ^ y)
          have hdk : (dsP s G ds y)[k]'(by omega) = (ds[k].1.toNat, toP s ds[k] (G ds[k].1.toNat + 1) y) := by simp [dsP]
          rw [hdk] at hsn
          have hcl : Calls Tryd.prog fn (#[.int .u8 (y : Nat), .int .u64 (chF ((dsP s G ds y).take k) (2 ^ y) : Nat)] ++ caps) wr fun e W' => e = .returned (.int .u64 ((spr (chF ((dsP s G ds y).take k) (2 ^ y)) ds[k].1.toNat (toP s ds[k] (G ds[k].1.toNat + 1) y) : Nat) : Int)) ∧ Below wr.heap.size wr W' := hcall wr (hW.trans (Kp.of_below hBr)) (by omega) (hT.below hBr h0) y _ hy hlt
          rw [← hsn] at hcl
          clear hcell hv hcall hsn hdk
          go_wp2_with fail
          refine hcl.mono ?_
          rintro e w3 ⟨rfl, hb3⟩
          have hB3 : Below W.heap.size W w3 := hBr.trans (hb3.mono hsr)
          clear hcl hb3 hBr
          go_wp2
          go_roundg g'
          case measure => exact Nat.lt_succ_self _
          case rel => exact ⟨k + 1, by go_num, by omega, rfl, hB3⟩
        · obtain rfl : k = ys.length := by omega
          have hk' : ¬ ((ys.length : Int) < (ys.length : Int)) := by omega
          have hPk : chF ((dsP s G ds y).take ys.length) (2 ^ y) = P := by
            rw [List.take_of_length_le (by omega)]; exact HPi.out
          rw [hPk]
          clear hPk hlt
          go_wp2
          go_ret
          exact ⟨rfl, hBr⟩
end Go.Proofs.YtcnhhclogbjedaaDoor

namespace Go.Proofs.YtcnhhclogbjedaaDoor
open Go.RowKit Go.Lib
attribute [local go_sem ↓] Go.wp_at_zero Go.wp_at_succ

theorem FnK.up {N N' : Nat} {w w' : World} {v : Value} {R : Nat → Value} (h : FnK N w v R) (k : Kp N w w') (hn : N ≤ N') : FnK N' w' v R := by
  obtain ⟨fn, caps, h1, h2, h3⟩ := h
  exact ⟨fn, caps, h1, h2, fun W hW => h3 W (k.trans (hW.mono hn))⟩
/-- A row of function values that lies below N stays. -/
theorem Kp.row {N base e n : Nat} {w W : World} {v : Value} {xs : List Value} (h : Kp N w W) (he : e = 149 ∨ e = 150) (ho : w.ownsRow base e 1 v n xs) (hN : w.heap.size ≤ N) (h0 : ∃ f a, xs[0]? = some (.func f #[] a)) : W.ownsRow base e 1 v n xs := by
  refine ⟨ho.1, ?_⟩
  rcases ho.2 with hn | ⟨g, cap, cur, rfl, hb, hg, r1, r2, r3, r4⟩
  · exact .inl hn
  · refine .inr ⟨g, cap, cur, rfl, hb, (h.keep g cur e _ hg ?_ ?_ ?_ (fun _ => Nat.lt_of_lt_of_le (lt_of_block hg) hN)).trans hg, r1, r2, r3, r4⟩
    · rintro rfl
      obtain ⟨f, a, hx⟩ := h0
      rw [← r4, List.getElem?_take] at hx
      split at hx
      · simp at hx
      · cases hx
    · rcases he with rfl | rfl <;> decide
    · rcases he with rfl | rfl <;> decide

section
variable {B N : Nat} {s : ByteArray} {G : Nat → Nat} {t : T} {x : Junk} {w : World} {cl : List (Tm × Tm)} {dl : List Chg} {rl : List RA}
set_option maxRecDepth 100000 in
set_option maxHeartbeats 1600000 in
theorem gend (hN : B < N) (hNw : N ≤ w.heap.size) (hb : RB B s t x w) (hR : RW B N s G x cl dl rl w) (hnr : t.nr = rl.length) (h8 : rl.length ≤ 8) (hcl : cl.length ≤ 120) (hdl : dl.length ≤ 120) (hd3 : ∀ d ∈ dl, d.1.toNat < 3) :
    Calls Tryd.prog 47 #[.pointer (some ⟨B, 0, none⟩)] w fun e w' => e = .returned (.tuple #[]) ∧ ∃ x', x'.g0 = x.g0 ∧ x'.f0 = x.f0 ∧ x'.g1 = x.g1 ∧ x'.f1 = x.f1 ∧ x'.g2 = x.g2 ∧ x'.f2 = x.f2 ∧ RB B s { t with nr := t.nr + 1, chd := 0 } x' w' ∧ RW B w'.heap.size s G x' [] [] (rl ++ [(cl, dl)]) w' ∧ Below B w w' ∧ w.heap.size ≤ w'.heap.size := by
  obtain ⟨⟨xs, hr, hrm⟩, ⟨ys, hc, hcm⟩, ⟨zs, hh, hhm⟩⟩ := hR
  rw [← hnr] at hr
  obtain ⟨i0, hi, hz0, hz1, hz2⟩ := info_parts Tryd.info106
  have hB := hb.lt
  have c9 := hb.c9
  have c10 := hb.c10
  have c11 := hb.c11
  have o10 := owned_oneCell hc
  have o11 := owned_oneCell hh
  have hne := ownBlock_ne hr
  have k2 : ∀ o1 o2, ((w.alloc o1).alloc o2).cell? ⟨B, 9, none⟩ = some x.vr := fun _ _ => ((hb.alloc _).alloc _).c9
  have k3 : ∀ o1 o2 o3, (((w.alloc o1).alloc o2).alloc o3).cell? ⟨B, 9, none⟩ = some x.vr := fun _ _ _ => (((hb.alloc _).alloc _).alloc _).c9
  have k2' : ∀ o1 o2, ((w.alloc o1).alloc o2).drew.cell? ⟨B, 9, none⟩ = some x.vr := fun _ _ => ((hb.alloc _).alloc _).c9
  have k3' : ∀ o1 o2 o3, (((w.alloc o1).alloc o2).alloc o3).drew.cell? ⟨B, 9, none⟩ = some x.vr := fun _ _ _ => (((hb.alloc _).alloc _).alloc _).c9
  have m63 : t.nr + 1 ≤ maxLen := by unfold maxLen; omega
  have m47 : (t.nr + 1) * 8 ≤ 140737488355328 := by omega
  have HM : Put (_ ∧ _ ∧ _ ∧ _) := ⟨hrm, hcm, hhm, hd3⟩
  have HNR : Put (_ = _) := ⟨hnr⟩
  clear hrm hcm hhm hd3 hnr
  go_enter Tryd.func47, Tryd.ntmps47
  go_wp2_with fail
  go_region_law
    (first
      | (refine step_append_lies _ ?q1 (.tmp 7) (.tmp 17) 43 ?q2 (B + 1) 106 i0 _ 1 8 Tryd.underlying43 hi hz0 hz1 hz2 rfl Nat.one_pos x.vr t.nr xs ?q3 ((((hr.alloc _).alloc _).alloc _).drew) ⟨w.heap.size + 2, 0, none⟩ 1 1 [.func (.func 87) #[] #[.pointer (some ⟨w.heap.size, 0, none⟩), .pointer (some ⟨w.heap.size + 1, 0, none⟩)]] ?q4 rfl (news3 w _ _ _ _) (func_oneCell _ _ _) Nat.one_pos m63 m47 (base3 w _ _ _ B hB) (w.heap.size + 3) (size3 w _ _ _) ?_; (case q1 => rfl); (case q2 => rfl); (case q3 => rfl); (case q4 => rfl); intro g cap w1 hown1 hgrow hat' hlt; have hb1 : RB B s t x w1 := ((((hb.alloc _).alloc _).alloc _).drew).grown hgrow hne; have f9 := hb1.free 9; have d9 := hb1.c9)
      | (go_simp; go_at_call 72; refine (makeRule_any x.vc x.vh o10 o11 _).mono ?_; rintro e w' ⟨rfl, rfl⟩))
  all_goals
    have hb2 := hb1.set9 (.slice (some ⟨g, 0, none⟩) (t.nr + 1) cap) (t.nr + 1)
    have d10 := hb2.c10
    have d11 := hb2.c11
    have d12 := hb2.c12
    have f10 := hb2.free 10
    have f11 := hb2.free 11
    have f12 := hb2.free 12
    have hb4 := ((hb2.set10 (.slice none 0 0)).set11 (.slice none 0 0)).set12 0
    have hX4 : Ex B w1 ((((w1.setCell ⟨B, 9, none⟩ (.slice (some ⟨g, 0, none⟩) (t.nr + 1) cap)).setCell ⟨B, 10, none⟩ (.slice none 0 0)).setCell ⟨B, 11, none⟩ (.slice none 0 0)).setCell ⟨B, 12, none⟩ (.int .u8 0)) := ((((Ex.refl B w1).setCell (p := ⟨B, 9, none⟩) (.inl rfl) _).setCell (p := ⟨B, 10, none⟩) (.inl rfl) _).setCell (p := ⟨B, 11, none⟩) (.inl rfl) _).setCell (p := ⟨B, 12, none⟩) (.inl rfl) _
    have hrow4 := ownsRow_setCell_below (ownsRow_setCell_below (ownsRow_setCell_below (ownsRow_setCell_below hown1 (a := ⟨B, 9, none⟩) (Nat.lt_succ_self B) (.slice (some ⟨g, 0, none⟩) (t.nr + 1) cap)) (a := ⟨B, 10, none⟩) (Nat.lt_succ_self B) (.slice none 0 0)) (a := ⟨B, 11, none⟩) (Nat.lt_succ_self B) (.slice none 0 0)) (a := ⟨B, 12, none⟩) (Nat.lt_succ_self B) (.int .u8 0)
    have hc1 := (((((hc.alloc (.cells #[x.vc] 72)).alloc (.cells #[x.vh] 73)).alloc (.cells #[.func (.func 87) #[] #[.pointer (some ⟨w.heap.size, 0, none⟩), .pointer (some ⟨w.heap.size + 1, 0, none⟩)]] 106)).drew).kept hgrow (apart_of_types hc hr (by omega)))
    have hh1 := (((((hh.alloc (.cells #[x.vc] 72)).alloc (.cells #[x.vh] 73)).alloc (.cells #[.func (.func 87) #[] #[.pointer (some ⟨w.heap.size, 0, none⟩), .pointer (some ⟨w.heap.size + 1, 0, none⟩)]] 106)).drew).kept hgrow (apart_of_types hh hr (by omega)))
    have kAl : ∀ Z, Kp Z w ((((w.alloc (.cells #[x.vc] 72)).alloc (.cells #[x.vh] 73)).alloc (.cells #[.func (.func 87) #[] #[.pointer (some ⟨w.heap.size, 0, none⟩), .pointer (some ⟨w.heap.size + 1, 0, none⟩)]] 106)).drew) := fun Z => Kp.of_below ((((Below.refl _ _).alloc (Nat.le_refl _) _).alloc (by simp) _).alloc (by simp; omega) _).drew
    have kGr : ∀ Z, Kp Z ((((w.alloc (.cells #[x.vc] 72)).alloc (.cells #[x.vh] 73)).alloc (.cells #[.func (.func 87) #[] #[.pointer (some ⟨w.heap.size, 0, none⟩), .pointer (some ⟨w.heap.size + 1, 0, none⟩)]] 106)).drew) w1 := fun Z => Kp.grown ((((hr.alloc _).alloc _).alloc _).drew) (.inl rfl) hgrow
    have hBel : Below B w w1 := (((((Ex.refl B w).alloc _).alloc _).alloc _).drew.below (Nat.le_refl _) (by omega)).grown hgrow (base3' w _ _ _ B hB) (ownBlock_ge hr)
    have bx1 : ((((w.alloc (.cells #[x.vc] 72)).alloc (.cells #[x.vh] 73)).alloc (.cells #[.func (.func 87) #[] #[.pointer (some ⟨w.heap.size, 0, none⟩), .pointer (some ⟨w.heap.size + 1, 0, none⟩)]] 106)).drew).heap[w.heap.size]? = some (.cells #[x.vc] 72 (0, 0)) := by
      show ((((w.alloc (.cells #[x.vc] 72)).alloc (.cells #[x.vh] 73)).alloc (.cells #[.func (.func 87) #[] #[.pointer (some ⟨w.heap.size, 0, none⟩), .pointer (some ⟨w.heap.size + 1, 0, none⟩)]] 106))).heap[w.heap.size]? = _
      rw [Below.heap_alloc _ _ _ (by simp; omega), Below.heap_alloc _ _ _ (by simp)]; exact heap_alloc_new w _
    have bx2 : ((((w.alloc (.cells #[x.vc] 72)).alloc (.cells #[x.vh] 73)).alloc (.cells #[.func (.func 87) #[] #[.pointer (some ⟨w.heap.size, 0, none⟩), .pointer (some ⟨w.heap.size + 1, 0, none⟩)]] 106)).drew).heap[w.heap.size + 1]? = some (.cells #[x.vh] 73 (0, 0)) := by
      show ((((w.alloc (.cells #[x.vc] 72)).alloc (.cells #[x.vh] 73)).alloc (.cells #[.func (.func 87) #[] #[.pointer (some ⟨w.heap.size, 0, none⟩), .pointer (some ⟨w.heap.size + 1, 0, none⟩)]] 106))).heap[w.heap.size + 1]? = _
      rw [Below.heap_alloc _ _ _ (by simp)]
      have := heap_alloc_new (w.alloc (.cells #[x.vc] 72)) (.cells #[x.vh] 73)
      simpa using this
    have HF : Put (∃ x' : Junk, x'.g0 = x.g0 ∧ x'.f0 = x.f0 ∧ x'.g1 = x.g1 ∧ x'.f1 = x.f1 ∧ x'.g2 = x.g2 ∧ x'.f2 = x.f2 ∧ RB B s { t with nr := t.nr + 1, chd := 0 } x' ((((w1.setCell ⟨B, 9, none⟩ (.slice (some ⟨g, 0, none⟩) (t.nr + 1) cap)).setCell ⟨B, 10, none⟩ (.slice none 0 0)).setCell ⟨B, 11, none⟩ (.slice none 0 0)).setCell ⟨B, 12, none⟩ (.int .u8 0)) ∧ RW B ((((w1.setCell ⟨B, 9, none⟩ (.slice (some ⟨g, 0, none⟩) (t.nr + 1) cap)).setCell ⟨B, 10, none⟩ (.slice none 0 0)).setCell ⟨B, 11, none⟩ (.slice none 0 0)).setCell ⟨B, 12, none⟩ (.int .u8 0)).heap.size s G x' [] [] (rl ++ [(cl, dl)]) ((((w1.setCell ⟨B, 9, none⟩ (.slice (some ⟨g, 0, none⟩) (t.nr + 1) cap)).setCell ⟨B, 10, none⟩ (.slice none 0 0)).setCell ⟨B, 11, none⟩ (.slice none 0 0)).setCell ⟨B, 12, none⟩ (.int .u8 0)) ∧ Below B w ((((w1.setCell ⟨B, 9, none⟩ (.slice (some ⟨g, 0, none⟩) (t.nr + 1) cap)).setCell ⟨B, 10, none⟩ (.slice none 0 0)).setCell ⟨B, 11, none⟩ (.slice none 0 0)).setCell ⟨B, 12, none⟩ (.int .u8 0)) ∧ w.heap.size ≤ ((((w1.setCell ⟨B, 9, none⟩ (.slice (some ⟨g, 0, none⟩) (t.nr + 1) cap)).setCell ⟨B, 10, none⟩ (.slice none 0 0)).setCell ⟨B, 11, none⟩ (.slice none 0 0)).setCell ⟨B, 12, none⟩ (.int .u8 0)).heap.size) := by
      have hBel4 : Below B w ((((w1.setCell ⟨B, 9, none⟩ (.slice (some ⟨g, 0, none⟩) (t.nr + 1) cap)).setCell ⟨B, 10, none⟩ (.slice none 0 0)).setCell ⟨B, 11, none⟩ (.slice none 0 0)).setCell ⟨B, 12, none⟩ (.int .u8 0)) := (((hBel.setCell (Nat.le_refl _) _).setCell (Nat.le_refl _) _).setCell (Nat.le_refl _) _).setCell (Nat.le_refl _) _
      have hc4 := hX4.ownsRow hN hc1
      have hh4 := hX4.ownsRow hN hh1
      have kX : ∀ Z, Kp Z w1 ((((w1.setCell ⟨B, 9, none⟩ (.slice (some ⟨g, 0, none⟩) (t.nr + 1) cap)).setCell ⟨B, 10, none⟩ (.slice none 0 0)).setCell ⟨B, 11, none⟩ (.slice none 0 0)).setCell ⟨B, 12, none⟩ (.int .u8 0)) := fun Z => Kp.of_ex hX4 hb1
      generalize (((w1.setCell ⟨B, 9, none⟩ (.slice (some ⟨g, 0, none⟩) (t.nr + 1) cap)).setCell ⟨B, 10, none⟩ (.slice none 0 0)).setCell ⟨B, 11, none⟩ (.slice none 0 0)).setCell ⟨B, 12, none⟩ (.int .u8 0) = w4 at *
      obtain ⟨hrm, hcm, hhm, hd3⟩ := HM.out
      have kAll : ∀ Z, Kp Z w w4 := fun Z => ((kAl Z).trans (kGr Z)).trans (kX Z)
      have bx1' := ((kGr 0).trans (kX 0)).box bx1 (by decide) (by decide) (by decide) (by decide) (by rcases hc.2 with ⟨h, _⟩ | ⟨_, _, _, h, _⟩ <;> rw [h] <;> simp)
      have bx2' := ((kGr 0).trans (kX 0)).box bx2 (by decide) (by decide) (by decide) (by decide) (by rcases hh.2 with ⟨h, _⟩ | ⟨_, _, _, h, _⟩ <;> rw [h] <;> simp)
      refine ⟨{ x with vr := .slice (some ⟨g, 0, none⟩) (t.nr + 1) cap, vc := .slice none 0 0, vh := .slice none 0 0 }, rfl, rfl, rfl, rfl, rfl, rfl, hb4, ⟨⟨xs ++ [.func (.func 87) #[] #[.pointer (some ⟨w.heap.size, 0, none⟩), .pointer (some ⟨w.heap.size + 1, 0, none⟩)]], by rw [List.length_append, ← HNR.out]; exact hrow4, ?_⟩, ⟨[], World.ownsRow_nil _ _ _ _, .nil⟩, ⟨[], World.ownsRow_nil _ _ _ _, .nil⟩⟩, hBel4, (kAll 0).size⟩
      refine All2.snoc (R := fun v r => FnK w4.heap.size w4 v (fun y => .int .u64 (ruP s G r y : Nat))) (b := (cl, dl)) ?_ (hrm.mono (fun _ _ h => h.up (kAll N) (Nat.le_trans hNw (kAll N).size)))
      refine ⟨87, _, rfl, enters_of Tryd.func87 (by kernel_rfl) rfl, fun W hW h0 hT y hy => ?_⟩
      obtain ⟨aoc, capc, hvc⟩ := owned_slice' hc4
      obtain ⟨aod, capd, hvd⟩ := owned_slice' hh4
      have elc := hcm.length
      have eld := hhm.length
      rw [hvc] at bx1' hc4
      rw [hvd] at bx2' hh4
      rw [← elc] at bx1' hc4
      rw [← eld] at bx2' hh4
      have hW0 := hW.mono (Nat.zero_le _)
      refine fn87_any s G w.heap.size (w.heap.size + 1) y hy N N aoc aod capc capd ys zs cl dl w4 W hW0 h0 hT (by omega) (by omega) (hcm.mono (fun _ _ h => h.kp (kAll 0))) (hhm.mono (fun _ _ h => h.kp (kAll 0))) hd3 (fun hp => ?_) (fun hp => ?_) (hW0.box bx1' (by decide) (by decide) (by decide) (by decide)) (hW0.box bx2' (by decide) (by decide) (by decide) (by decide))
      · refine hW.row (.inl rfl) hc4 (Nat.le_refl _) ?_
        obtain ⟨fn, caps, hv, _⟩ := hcm.get 0 hp (by omega)
        exact ⟨.func fn, caps, by rw [List.getElem?_eq_getElem hp, hv]⟩
      · refine hW.row (.inr rfl) hh4 (Nat.le_refl _) ?_
        obtain ⟨fn, caps, hv, _⟩ := hhm.get 0 hp (by omega)
        exact ⟨.func fn, caps, by rw [List.getElem?_eq_getElem hp, hv]⟩
    clear hb1 hb2 hb4 hX4 hrow4 hc1 hh1 kAl kGr hBel bx1 bx2 hown1 hgrow k2 k3 k2' k3' c9 c10 c11 hr hc hh
    go_wp2
    go_end0
    exact ⟨rfl, HF.out⟩
end
end Go.Proofs.YtcnhhclogbjedaaDoor
