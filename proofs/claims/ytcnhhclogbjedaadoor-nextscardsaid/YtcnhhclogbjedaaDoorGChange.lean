/- A change of a good model, read and kept. Our own text. -/
import Derived.Test.YtcnhhclogbjedaaDoorGTo
import Derived.Test.YtcnhhclogbjedaaDoorChange
import Derived.Test.YtcnhhclogbjedaaDoorRGood
namespace Go.Proofs.YtcnhhclogbjedaaDoor
open Go.RowKit Go.Lib

set_option maxRecDepth 100000 in
set_option maxHeartbeats 1600000 in
theorem fn71_any (bn bt k y m : Nat) (hy : y < 64) (hk : k < 3) (hm : m < 18446744073709551616) (v : Value) (F : Nat → Nat) (hF : F y < 16) (w W : World) (hW : Kp 0 w W) (h0 : 0 < W.heap.size) (hT : Tab W) (hl : FnK 0 w v (fun x => .int .u8 (F x : Nat)))
    (x1 : W.heap[bn]? = some (.cells #[.int .i64 k] 3 (0, 0))) (x2 : W.heap[bt]? = some (.cells #[v] 137 (0, 0))) :
    Calls Tryd.prog 71 #[.int .u8 (y : Nat), .int .u64 (m : Nat), .pointer (some ⟨bn, 0, none⟩), .pointer (some ⟨bt, 0, none⟩)] W fun e W' => e = .returned (.int .u64 (spr m k (F y) : Nat)) ∧ Below W.heap.size W W' := by
  obtain ⟨fl, cl, rfl, el, kl⟩ := hl
  have c1 := box_cell x1
  have c2 := box_cell x2
  have HL : Put (∀ W2, Below W.heap.size W W2 → Calls Tryd.prog fl (#[.int .u8 (y : Nat)] ++ cl) W2 fun e W' => e = .returned (.int .u8 ((F y : Nat) : Int)) ∧ Below W2.heap.size W2 W') := ⟨fun W2 h2 => kl W2 (hW.trans (Kp.of_below h2)) (Nat.lt_of_lt_of_le h0 h2.size) (hT.below h2 h0) y hy⟩
  have l1 := lt_of_block x1
  have l2 := lt_of_block x2
  generalize F y = f at *
  have HC : Put (∀ W2, Below W.heap.size W W2 → Calls Tryd.prog 38 #[.int .u64 (m : Nat), .int .i64 (k : Nat), .int .u8 (f : Nat)] W2 fun e W' => e = .returned (.int .u64 (spr m k f : Nat)) ∧ Below W2.heap.size W2 W') := ⟨fun W2 h2 => spread_any m k f hm hk hF W2 (hT.below h2 h0) (Nat.lt_of_lt_of_le h0 h2.size)⟩
  have hdr : Below W.heap.size W W.drew := ⟨rfl, rfl, rfl, Nat.le_refl _, fun _ _ => rfl⟩
  clear x1 x2 kl hW hT
  generalize spr m k f = r at *
  go_enter Tryd.func71, Tryd.ntmps71
  go_wp2_with fail
  go_region_held3 (fun w' => ∀ b o, b < W.heap.size → w'.cell? ⟨b, o, none⟩ = W.cell? ⟨b, o, none⟩)
    (first
      | exact fun b o hb => (hbC'.cell (p := ⟨b, o, none⟩) hb)
      | exact fun b o hb => (hbL'.cell (p := ⟨b, o, none⟩) hb)
      | exact fun _ _ _ => rfl
      | go_keep)
    (first
      | (with_reducible refine (HC.out wL hbL').mono ?_; rintro e wC ⟨rfl, hbC⟩; have hbC' : Below W.heap.size W wC := hbL'.trans (hbC.mono hbL'.size))
      | (refine (HL.out W.drew hdr).mono ?_; rintro e wL ⟨rfl, hbL⟩; have hbL' : Below W.heap.size W wL := hdr.trans hbL))
  all_goals
    go_wp2
    go_ret
    exact ⟨rfl, hbC'⟩

theorem tmV_le {q q' : Q} {s : ByteArray} {a : Tm} (h : qTerm s q = (some a, q')) (y : Nat) : tmV a y ≤ 3 := by
  have := qTerm_rng h
  unfold tmV
  split
  · omega
  · have := dig_lt y a.1.toNat; omega
/-- A change's parts, and what it is changed to. -/
theorem gto {s : ByteArray} {i : Nat} {d : Chg} {q' : Q} (hs : s.size ≤ 120) (hq : qChange s (.ok i) = (some d, q')) :
    ∃ k k5 j : Nat, q' = .ok j ∧ d.1 = (k : Int) ∧ num? s i 97 0 2 = some k ∧ num? s (i + 1) 61 0 0 = some k5 ∧ j ≤ s.size ∧ i < j ∧
      ∀ (B : Nat) (t : T) (x : Junk) (w : World) (c : Nat), 1 ≤ c → c ≤ 4 → t.at_ = i + 2 → d.2.2.2.1 < (t.n : Int) → RB B s t x w →
        Calls Tryd.prog 70 #[.pointer (some ⟨B, 0, none⟩), .int .i64 c] w fun e w' => (∃ v, e = .returned (.tuple #[v, .bool true]) ∧ FnK 0 w' v (fun y => .int .u8 (toP s d c y : Nat)) ∧ ∃ f a, v = .func f #[] a) ∧ RB B s { t with at_ := j } x w' ∧ Ex B w w' := by
  obtain ⟨j, rfl, hij, hjs⟩ := qChange_ok hq
  unfold qChange at hq
  cases h1 : qNum s (.ok i) 97 2 with
  | none => rw [h1] at hq; simp at hq
  | some k =>
  rw [h1] at hq
  simp only [Q.adv] at hq
  cases h2 : qNum s (.ok (i + 1)) 61 0 with
  | none => rw [h2] at hq; simp at hq
  | some k5 =>
  rw [h2] at hq
  simp only at hq
  have l2 : i + 2 ≤ s.size := num_lt h2
  cases h3 : qNum s (.ok (i + 1 + 1)) 63 0 with
  | some k6 =>
    rw [h3] at hq
    simp only [Prod.mk.injEq, Option.some.injEq, Except.ok.injEq, Q.pos] at hq
    obtain ⟨rfl, rfl⟩ := hq
    refine ⟨k, k5, _, rfl, rfl, h1, h2, hjs, hij, fun B t x w c c1 c4 hat hn hb => ?_⟩
    have h3' : num? s t.at_ 63 0 0 = some k6 := by rw [hat]; exact h3
    refine (gto_any c k6 c1 c4 hs hb h3').mono ?_
    rintro e w' ⟨hv, hb', hx'⟩
    refine ⟨hv, ?_, hx'⟩
    have : t.adv = { t with at_ := i + 1 + 1 + 1 } := by unfold T.adv; rw [hat]
    rw [← this]; exact hb'
  | none =>
    rw [h3] at hq
    simp only at hq
    cases h4 : qTerm s (.ok (i + 1 + 1)) with
    | mk r4 q4 =>
    rw [h4] at hq
    cases r4 with
    | none => simp at hq
    | some a =>
    obtain ⟨i4, rfl⟩ := qTerm_some h4
    simp only at hq
    cases h5 : qNum s (.ok i4) 43 0 with
    | none =>
      rw [h5] at hq
      simp only [Prod.mk.injEq, Option.some.injEq, Q.pos, Except.ok.injEq] at hq
      obtain ⟨rfl, rfl⟩ := hq
      refine ⟨k, k5, _, rfl, rfl, h1, h2, hjs, hij, fun B t x w c c1 c4 hat hn hb => ?_⟩
      obtain ⟨j4, e4, _, e5⟩ := qTerm_at h4
      cases e4
      have h3' : num? s t.at_ 63 0 0 = none := by rw [hat]; exact h3
      have h4' : qTerm s (.ok t.at_) = (some a, .ok i4) := by rw [hat]; exact h4
      refine (gto_plain c c1 c4 hs (by omega) hb h3' h4' h5 hn (tmV_le h4)).mono ?_
      rintro e w' ⟨⟨v, he, hf, hfa⟩, hb', hx'⟩
      refine ⟨⟨v, he, ?_, hfa⟩, ?_, hx'⟩
      · have hm := more_none h4 h5
        have : (fun y => Value.int .u8 ((toP s ((k : Int), (i : Int), false, a) c y : Nat) : Int)) = (fun y => Value.int .u8 ((2 ^ ((tmV a y + 0) % c) : Nat) : Int)) := by
          funext y; unfold toP; simp only [hm]; rfl
        rw [this]; exact hf
      · have : t.adv = { t with at_ := i4 } := by unfold T.adv; rw [hat]; simp only [e5]
        rw [← this]; exact hb'
    | some k7 =>
      rw [h5] at hq
      simp only at hq
      cases h6 : qNum s (.ok (i4 + 1)) 48 3 with
      | none => rw [h6] at hq; simp at hq
      | some kd =>
        rw [h6] at hq
        simp only [Prod.mk.injEq, Option.some.injEq, Q.pos] at hq
        obtain ⟨rfl, hj⟩ := hq
        refine ⟨k, k5, j, rfl, rfl, h1, h2, hjs, hij, fun B t x w c c1 c4 hat hn hb => ?_⟩
        obtain ⟨j4, e4, _, e5⟩ := qTerm_at h4
        cases e4
        have h3' : num? s t.at_ 63 0 0 = none := by rw [hat]; exact h3
        have h4' : qTerm s (.ok t.at_) = (some a, .ok i4) := by rw [hat]; exact h4
        refine (gto_more c k7 kd c1 c4 hs (by omega) hb h3' h4' h5 h6 hn (tmV_le h4)).mono ?_
        rintro e w' ⟨⟨v, he, hf, hfa⟩, hb', hx'⟩
        refine ⟨⟨v, he, ?_, hfa⟩, ?_, hx'⟩
        · have hm := more_some h4 h5 h6
          have : (fun y => Value.int .u8 ((toP s ((k : Int), (i : Int), false, a) c y : Nat) : Int)) = (fun y => Value.int .u8 ((2 ^ ((tmV a y + kd) % c) : Nat) : Int)) := by
            funext y; unfold toP; simp only [hm]; rfl
          rw [this]; exact hf
        · have : t.adv.adv.adv = { t with at_ := j } := by
            simp at hj
            unfold T.adv; simp only; congr 1; omega
          rw [← this]; exact hb'
end Go.Proofs.YtcnhhclogbjedaaDoor

namespace Go.Proofs.YtcnhhclogbjedaaDoor
open Go.RowKit Go.Lib
attribute [local go_sem ↓] Go.wp_at_zero Go.wp_at_succ

theorem toP_lt (s : ByteArray) (d : Chg) (c : Nat) {y : Nat} (h1 : 1 ≤ c) (h4 : c ≤ 4) : toP s d c y < 16 := by
  unfold toP
  have hp : ∀ e, e ≤ 3 → 2 ^ e < 16 := fun e he => by
    have : e = 0 ∨ e = 1 ∨ e = 2 ∨ e = 3 := by omega
    rcases this with rfl | rfl | rfl | rfl <;> decide
  split
  · have : c = 1 ∨ c = 2 ∨ c = 3 ∨ c = 4 := by omega
    rcases this with rfl | rfl | rfl | rfl <;> decide
  · exact hp _ (by have := Nat.mod_lt (tmV d.2.2.2 y + (moreAt s false d.2.2.2.2.2).toNat) (show 0 < c by omega); omega)
def Junk.g (x : Junk) : Nat → Int
  | 0 => x.g0
  | 1 => x.g1
  | _ => x.g2
/-- A box that was empty is filled. -/
theorem Kp.fill {N b : Nat} {w : World} {t : TypeId} (v : Value) (h : w.heap[b]? = some (.cells #[Value.nilFunc] t (0, 0))) : Kp N w (w.setCell ⟨b, 0, none⟩ v) := by
  refine ⟨by simp, fun k cs t' fz hc hn _ _ _ => heap_setCell_other _ _ _ _ (fun e => ?_)⟩
  have e' : k = b := e
  subst e'
  rw [h] at hc
  simp at hc
  exact hn hc.1.symm
section
variable {B N : Nat} {s : ByteArray} {G : Nat → Nat} {t : T} {x : Junk} {w : World} {cl : List (Tm × Tm)} {dl : List Chg} {rl : List RA}
set_option maxRecDepth 100000 in
set_option maxHeartbeats 3200000 in
theorem gchange {d : Chg} {j k : Nat} (hs : s.size ≤ 120) (_hat : t.at_ ≤ s.size) (hN : B < N) (hNw : N ≤ w.heap.size) (hb : RB B s t x w) (hR : RW B N s G x cl dl rl w) (hdl : dl.length ≤ 120)
    (hq : qChange s (.ok t.at_) = (some d, .ok j)) (hdk : d.1 = (k : Int)) (hkn : k < t.n) (hdn : d.2.2.2.1 < (t.n : Int)) (hcd : t.chd < 8) (hT : t.chd.testBit k = false) (hG : x.g k = (G k : Int)) (hG3 : G k ≤ 3) :
    Calls Tryd.prog 46 #[.pointer (some ⟨B, 0, none⟩)] w fun e w' => e = .returned (.bool true) ∧ ∃ x', x'.vr = x.vr ∧ x'.vc = x.vc ∧ x'.g0 = x.g0 ∧ x'.f0 = x.f0 ∧ x'.g1 = x.g1 ∧ x'.f1 = x.f1 ∧ x'.g2 = x.g2 ∧ x'.f2 = x.f2 ∧ RB B s { t with at_ := j, chd := t.chd ||| 2 ^ k } x' w' ∧ RW B N s G x' cl (dl ++ [d]) rl w' ∧ Kp N w w' ∧ Below B w w' := by
  have hB := hb.lt
  obtain ⟨k', k5, j', hj', hk', h1, h2, hjs, hij, hto⟩ := gto hs hq
  cases hj'
  obtain rfl : k' = k := by omega
  have hk := num_le h1
  have hlt := num_lt h1
  have hna : t.named k' = t.adv := by unfold T.named; rw [if_neg (by omega)]
  have HNA : Put (_ = _) := ⟨hna⟩
  have HTO : Put (_) := ⟨hto⟩
  have hk0 : (0 : Int) ≤ (k' : Int) := by omega
  have hk3 : (k' : Int) < 3 := by omega
  have HRW : Put (_) := ⟨hR⟩
  have HB0 : Put (RB B s t x w) := ⟨hb⟩
  have HQ : Put (_ = _) := ⟨hdk⟩
  clear hna hto hq hk' hR hdk
  go_enter Tryd.func46, Tryd.ntmps46
  go_wp2_with fail
  refine (name_yes k' hs hb h1).mono ?_; rintro e w1 ⟨rfl, hb1, hx1⟩
  rw [HNA.out] at hb1
  go_wp2_with fail
  have hb2 := hb1.alloc (.cells #[.int .i64 k'] 3)
  have hx2 := hx1.alloc (.cells #[.int .i64 k'] 3)
  have hBN : B ≠ w1.heap.size := by have := hb1.lt; omega
  have hwN : w.heap.size ≤ w1.heap.size := hx1.size
  have hblk := heap_alloc_new w1 (.cells #[.int .i64 k'] 3)
  generalize w1.alloc (.cells #[.int .i64 k'] 3) = w2 at *
  generalize w1.heap.size = M0 at *
  have kN := cell_of_one hblk
  have c12 : w2.cell? ⟨B, 12, none⟩ = some (.int .u8 t.chd) := hb2.c12
  have hlt2 := hb2.lt
  clear hb1 hx1 hb
  go_quiet ((go_at_call 68; exact Calls.quiet_of_same (hasNames _ _ (by omega) (by omega) _)))
  have hb3 : RB B s t.adv x (w2.drewN nq) := hb2.drewN _
  have hX := hx2.drewN nq
  have hblk3 : (w2.drewN nq).heap[M0]? = some (.cells #[.int .i64 k'] 3 (0, 0)) := hblk
  clear hb2 hx2 hblk kN c12 hlt2
  generalize w2.drewN nq = w3 at *
  rw [hT]
  go_wp2_with fail
  clear hT
  have c12 : w3.cell? ⟨B, 12, none⟩ = some (.int .u8 t.chd) := hb3.c12
  have f12 := hb3.free 12
  have kN := cell_of_one hblk3
  have hlt3 := hb3.lt
  have hb4 : RB B s { t.adv with chd := t.chd ||| 2 ^ k' } x (w3.setCell ⟨B, 12, none⟩ (.int .u8 ((t.chd ||| 2 ^ k' : Nat) : Int))) := hb3.set12 _
  have hx4 := hX.setCell (p := ⟨B, 12, none⟩) (.inl rfl) (.int .u8 ((t.chd ||| 2 ^ k' : Nat) : Int))
  have hblk4 : (w3.setCell ⟨B, 12, none⟩ (.int .u8 ((t.chd ||| 2 ^ k' : Nat) : Int))).heap[M0]? = some (.cells #[.int .i64 k'] 3 (0, 0)) := (heap_setCell_other _ _ _ _ (fun e => hBN e.symm)).trans hblk3
  replace hb4 := hb4.drew
  replace hx4 := hx4.drew
  replace hblk4 : (w3.setCell ⟨B, 12, none⟩ (.int .u8 ((t.chd ||| 2 ^ k' : Nat) : Int))).drew.heap[M0]? = some (.cells #[.int .i64 k'] 3 (0, 0)) := hblk4
  clear hb3 hX hblk3
  go_region_law ((go_simp; go_at_call 69; refine (withNames t.chd k' hcd (by omega) _).mono ?_; rintro e w' ⟨rfl, rfl⟩))
  all_goals
    generalize (w3.setCell ⟨B, 12, none⟩ (.int .u8 ((t.chd ||| 2 ^ k' : Nat) : Int))).drew = w4 at *
    clear c12 f12 kN hlt3
    clear w3
    obtain ⟨t3, ht3⟩ : ∃ t3 : T, t3 = { t.adv with chd := t.chd ||| 2 ^ k' } := ⟨_, rfl⟩
    rw [← ht3] at hb4
    have e3 : t3.at_ = t.at_ + 1 := by rw [ht3]; rfl
    have en3 : t3.n = t.n := by rw [ht3]; rfl
    have h3 : num? s t3.at_ 61 0 0 = some k5 := by rw [e3]; exact h2
    have HT3 : Put (t3 = _) := ⟨ht3⟩
    clear ht3
    go_wp2_with fail
    refine (take_yes 61 k5 hs (by omega) hb4 h3).mono ?_; rintro e w5 ⟨rfl, hb5, hx5⟩
    go_wp2_with fail
    have hX := hx4.trans hx5
    have hblk5 : w5.heap[M0]? = some (.cells #[.int .i64 k'] 3 (0, 0)) := (hx5.block M0 (lt_of_block hblk4) (fun e => hBN e.symm)).trans hblk4
    clear hb4 hx4 hx5 hblk4
    have kN := cell_of_one hblk5
    have hgk : w5.cell? ⟨B, 2 + k' * 2, none⟩ = some (.int .i64 (G k' : Int)) := by
      rw [← hG]
      have hk3 : k' = 0 ∨ k' = 1 ∨ k' = 2 := by omega
      rcases hk3 with rfl | rfl | rfl
      · exact hb5.c2
      · exact hb5.c4
      · exact hb5.c6
    have hlt5 := hb5.lt
    have hN5 := lt_of_block hblk5
    have hBM : B ≠ w5.heap.size := by omega
    have hw1 : IntKind.i64.wrap ((G k' : Int) + 1) = (G k' : Int) + 1 := by simp [IntKind.wrap, IntKind.signed, IntKind.bits]; omega
    have HTO5 : Put (∀ w6, RB B s t3.adv x w6 → Calls Tryd.prog 70 #[.pointer (some ⟨B, 0, none⟩), .int .i64 ((G k' : Int) + 1)] w6 fun e w' => (∃ v, e = .returned (.tuple #[v, .bool true]) ∧ FnK 0 w' v (fun y => .int .u8 (toP s d (G k' + 1) y : Nat)) ∧ ∃ f a, v = .func f #[] a) ∧ RB B s { t3.adv with at_ := j } x w' ∧ Ex B w6 w') := ⟨fun w6 h6 => by
      have := HTO.out B t3.adv x w6 (G k' + 1) (by omega) (by omega) (by show t3.at_ + 1 = _; omega) (by show _ < (t3.n : Int); rw [en3]; exact hdn) h6
      simpa using this⟩
    go_region_law (first
      | (go_simp; go_at_call 70; refine (HTO5.out _ hb5.drew).mono ?_; rintro e w6 ⟨⟨v6, rfl, hf6, f6, a6, rfl⟩, hb6a, hx6a⟩)
      | (go_simp; go_at_call 70; refine (HTO5.out _ (hb5.alloc (.cells #[.nilFunc] 137)).drew).mono ?_; rintro e w6 ⟨⟨v6, rfl, hf6, f6, a6, rfl⟩, hb6b, hx6b⟩; have hm6 := (hx6b.block w5.heap.size (size_new w5 _) (fun e => hBM e.symm)).trans (heap_alloc_new w5 (.cells #[.nilFunc] 137)); have km := cell_of_one hm6; have fm := free_of_one hm6))
    all_goals
      first
        | (have hb7 := hb6a.alloc (.cells #[.func f6 #[] a6] 137)
           have hX7 := (hX.drew.trans hx6a).alloc (.cells #[.func f6 #[] a6] 137)
           have hbT := heap_alloc_new w6 (.cells #[.func f6 #[] a6] 137)
           have hbN := (Below.heap_alloc w6 (.cells #[.func f6 #[] a6] 137) M0 (lt_of_block ((hx6a.block M0 hN5 (fun e => hBN e.symm)).trans hblk5))).trans ((hx6a.block M0 hN5 (fun e => hBN e.symm)).trans hblk5)
           have hf7 := hf6.kp (Kp.alloc 0 w6 (.cells #[.func f6 #[] a6] 137))
           clear hb6a hx6a hf6
           generalize w6.alloc (.cells #[.func f6 #[] a6] 137) = w7 at *
           generalize w6.heap.size = M at *)
        | (have hb7 := hb6b.set_other (p := ⟨w5.heap.size, 0, none⟩) (fun e => hBM e.symm) (.func f6 #[] a6)
           have hX7 := ((hX.alloc (.cells #[.nilFunc] 137)).drew.trans hx6b).setCell (p := ⟨w5.heap.size, 0, none⟩) (.inr hX.size) (.func f6 #[] a6)
           have hbT := heap_setCell_same w6 w5.heap.size 0 _ 137 (.func f6 #[] a6) hm6
           have hbN5 : (w5.alloc (.cells #[.nilFunc] 137)).drew.heap[M0]? = some (.cells #[.int .i64 k'] 3 (0, 0)) := (Below.heap_alloc w5 (.cells #[.nilFunc] 137) M0 hN5).trans hblk5
           have hbN := (heap_setCell_other w6 ⟨w5.heap.size, 0, none⟩ M0 (.func f6 #[] a6) (by show M0 ≠ w5.heap.size; omega)).trans ((hx6b.block M0 (lt_of_block hbN5) (fun e => hBN e.symm)).trans hbN5)
           have hf7 := hf6.kp (Kp.fill (.func f6 #[] a6) hm6)
           clear hb6b hx6b hm6 km fm hf6 hbN5
           generalize w6.setCell ⟨w5.heap.size, 0, none⟩ (.func f6 #[] a6) = w7 at *
           generalize w5.heap.size = M at *)
      have B7 := hb7.lt
      have hR7 := HRW.out.ex hX7 hN HB0.out.block76
      obtain ⟨⟨xs, r1, r2⟩, ⟨ys, c1, c2⟩, ⟨zs, d1, d2⟩⟩ := hR7
      have hsz7 := hX7.size
      have HK : Put (Kp N w w7) := ⟨Kp.of_ex hX7 HB0.out⟩
      have et : ({ t3.adv with at_ := j } : T) = { t with at_ := j, chd := t.chd ||| 2 ^ k' } := by rw [HT3.out]; rfl
      rw [et] at hb7
      have HB7 : Put (RB B s { t with at_ := j, chd := t.chd ||| 2 ^ k' } x w7) := ⟨hb7⟩
      have HX : Put (Ex B w w7) := ⟨hX7⟩
      have HC : Put (w7.ownsRow N 149 1 x.vc cl.length ys ∧ _) := ⟨c1, c2⟩
      have HRR : Put (w7.ownsRow (B + 1) 106 1 x.vr rl.length xs ∧ _) := ⟨r1, r2⟩
      have HHH : Put (w7.ownsRow N 150 1 x.vh dl.length zs ∧ _) := ⟨d1, d2⟩
      have HM : Put (_ ∧ _ ∧ _) := ⟨hbN, hbT, hf7⟩
      have hmf : ∀ (fn : Fn) (first cap : Array Value) (w : World), (Instr.makeFunc fn first cap).run Tryd.prog w = .ok (.func fn first cap) w := fun _ _ _ _ => rfl
      obtain ⟨i0, hi, hz0, hz1, hz2⟩ := info_parts Tryd.info150
      have c11 : w7.cell? ⟨B, 11, none⟩ = some x.vh := hb7.c11
      clear hX7 hb7 r1 r2 c1 c2 d1 d2 hX hb5 hblk5 kN hgk hlt5 h1 h3 hbN hbT hf7 et
      go_wp2_with (at_builtin; refine wpList_append_own _ rfl _ _ 73 rfl N 150 i0 .nilFunc 1 8 Tryd.underlying73 hi hz0 hz1 hz2 rfl Nat.one_pos _ _ _ rfl (HHH.out.1.alloc _) ⟨w7.heap.size, 0, none⟩ 1 1 [.func (.func 71) #[] #[.pointer (some ⟨M0, 0, none⟩), .pointer (some ⟨M, 0, none⟩)]] rfl rfl (cell_one_new _ _ _) (func_oneCell _ _ _) (by unfold maxLen; omega) (by omega) (by simp; omega) ?_)
      intro v' W8 hown' hgrow _
      obtain ⟨g5, cap5, rfl⟩ := ownsRow_succ hown'
      have hb8 := (HB7.out.alloc (.cells #[.func (.func 71) #[] #[.pointer (some ⟨M0, 0, none⟩), .pointer (some ⟨M, 0, none⟩)]] 150)).grown hgrow (ne_own hN HHH.out.1)
      have d11 := hb8.c11
      have f11 := hb8.free 11
      have FB := hb8.set11 (.slice (some ⟨g5, 0, none⟩) (dl.length + 1) cap5)
      have kG : Kp N (w7.alloc (.cells #[.func (.func 71) #[] #[.pointer (some ⟨M0, 0, none⟩), .pointer (some ⟨M, 0, none⟩)]] 150)) W8 := Kp.grown (HHH.out.1.alloc _) (.inr ⟨.inr rfl, Nat.le_refl _⟩) hgrow
      have kS : ∀ Z, Kp Z W8 (W8.setCell ⟨B, 11, none⟩ (.slice (some ⟨g5, 0, none⟩) (dl.length + 1) cap5)) := fun Z => Kp.of_ex ((Ex.refl B W8).setCell (p := ⟨B, 11, none⟩) (.inl rfl) _) hb8
      have kAll : Kp N w7 (W8.setCell ⟨B, 11, none⟩ (.slice (some ⟨g5, 0, none⟩) (dl.length + 1) cap5)) := ((Kp.alloc N _ _).trans kG).trans (kS N)
      have k0 : Kp 0 w7 (W8.setCell ⟨B, 11, none⟩ (.slice (some ⟨g5, 0, none⟩) (dl.length + 1) cap5)) := kAll.mono (Nat.zero_le _)
      obtain ⟨hbN, hbT, hf7⟩ := HM.out
      have bxN := k0.box hbN (by decide) (by decide) (by decide) (by decide)
      have bxT := k0.box hbT (by decide) (by decide) (by decide) (by decide)
      have FR := ownsRow_setCell_below ((HRR.out.1.alloc _).kept hgrow (apart_of_types HRR.out.1 HHH.out.1 (by omega))) (a := ⟨B, 11, none⟩) (Nat.lt_succ_self B) (.slice (some ⟨g5, 0, none⟩) (dl.length + 1) cap5)
      have FH := ownsRow_setCell_below hown' (a := ⟨B, 11, none⟩) hN (.slice (some ⟨g5, 0, none⟩) (dl.length + 1) cap5)
      have FC := ownsRow_setCell_below ((HC.out.1.alloc _).kept hgrow (apart_of_types HC.out.1 HHH.out.1 (by omega))) (a := ⟨B, 11, none⟩) hN (.slice (some ⟨g5, 0, none⟩) (dl.length + 1) cap5)
      have FL : Below B w (W8.setCell ⟨B, 11, none⟩ (.slice (some ⟨g5, 0, none⟩) (dl.length + 1) cap5)) := (((HX.out.alloc _).below (Nat.le_refl _) (by omega)).grown hgrow (by simp; omega) (ge_own (by omega) HHH.out.1)).setCell (Nat.le_refl _) (.slice (some ⟨g5, 0, none⟩) (dl.length + 1) cap5)
      have hnew : FnK2 (W8.setCell ⟨B, 11, none⟩ (.slice (some ⟨g5, 0, none⟩) (dl.length + 1) cap5)) (.func (.func 71) #[] #[.pointer (some ⟨M0, 0, none⟩), .pointer (some ⟨M, 0, none⟩)]) (fun y m => .int .u64 (spr m d.1.toNat (toP s d (G d.1.toNat + 1) y) : Nat)) := by
        have ek : d.1.toNat = k' := by rw [HQ.out]; simp
        rw [ek]
        refine ⟨71, _, rfl, enters_of Tryd.func71 (by kernel_rfl) rfl, fun W hW h0 hT y m hy hm => ?_⟩
        exact fn71_any M0 M k' y m hy (by omega) hm _ (fun y => toP s d (G k' + 1) y) (toP_lt _ _ _ (by omega) (by omega)) _ W hW h0 hT (hf7.kp k0) (hW.box bxN (by decide) (by decide) (by decide) (by decide)) (hW.box bxT (by decide) (by decide) (by decide) (by decide))
      have FIN : Put (∃ x' : Junk, x'.vr = x.vr ∧ x'.vc = x.vc ∧ x'.g0 = x.g0 ∧ x'.f0 = x.f0 ∧ x'.g1 = x.g1 ∧ x'.f1 = x.f1 ∧ x'.g2 = x.g2 ∧ x'.f2 = x.f2 ∧ RB B s { t with at_ := j, chd := t.chd ||| 2 ^ k' } x' (W8.setCell ⟨B, 11, none⟩ (.slice (some ⟨g5, 0, none⟩) (dl.length + 1) cap5)) ∧ RW B N s G x' cl (dl ++ [d]) rl (W8.setCell ⟨B, 11, none⟩ (.slice (some ⟨g5, 0, none⟩) (dl.length + 1) cap5)) ∧ Kp N w (W8.setCell ⟨B, 11, none⟩ (.slice (some ⟨g5, 0, none⟩) (dl.length + 1) cap5)) ∧ Below B w (W8.setCell ⟨B, 11, none⟩ (.slice (some ⟨g5, 0, none⟩) (dl.length + 1) cap5))) :=
        ⟨{ x with vh := .slice (some ⟨g5, 0, none⟩) (dl.length + 1) cap5 }, rfl, rfl, rfl, rfl, rfl, rfl, rfl, rfl, FB,
          ⟨⟨xs, FR, HRR.out.2.mono (fun _ _ h => h.kp kAll)⟩, ⟨ys, FC, HC.out.2.mono (fun _ _ h => h.kp k0)⟩, ⟨zs ++ [_], by rw [List.length_append]; exact FH, All2.snoc (R := fun v d => FnK2 (W8.setCell ⟨B, 11, none⟩ (.slice (some ⟨g5, 0, none⟩) (dl.length + 1) cap5)) v (fun y m => .int .u64 (spr m d.1.toNat (toP s d (G d.1.toNat + 1) y) : Nat))) (b := d) hnew (HHH.out.2.mono (fun _ _ h => h.kp k0))⟩⟩,
          HK.out.trans kAll, FL⟩
      clear FB FR FH FC FL hb8 hown' hgrow hnew kG kS kAll k0 hbN hbT hf7 bxN bxT
      go_wp2
      go_ret
      exact ⟨rfl, FIN.out⟩
end
end Go.Proofs.YtcnhhclogbjedaaDoor
