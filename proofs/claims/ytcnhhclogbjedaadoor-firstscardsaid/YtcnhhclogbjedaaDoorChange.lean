/- The code's reader: a change. Our own text. -/
import Derived.Test.YtcnhhclogbjedaaDoorEnd
namespace Go.Proofs.YtcnhhclogbjedaaDoor
open Go.RowKit
attribute [local go_sem ↓] Go.wp_at_zero Go.wp_at_succ

def T.marked (t : T) (k : Nat) : T := { (if t.chd.testBit k then t.blame 5 else t) with chd := t.chd ||| 2 ^ k }
def pChange (s : ByteArray) (t : T) : Bool × T :=
  match num? s t.at_ 97 0 2 with
  | none => (false, t)
  | some k => match num? s ((t.named k).marked k).at_ 61 0 0 with
    | none => (false, (t.named k).marked k)
    | some _ => pTo s ((t.named k).marked k).adv
theorem marked_same (t : T) (k : Nat) : (t.marked k).at_ = t.at_ ∧ (t.marked k).n = t.n ∧ (t.marked k).nr = t.nr ∧ (t.marked k).chd = t.chd ||| 2 ^ k := by
  unfold T.marked; split
  · have := blame_same t 5; exact ⟨this.1, this.2.1, this.2.2.1, rfl⟩
  · exact ⟨rfl, rfl, rfl, rfl⟩
theorem RB.mark {B : Nat} {s : ByteArray} {t : T} {x : Junk} {w : World} {t1 : T} (k : Nat) (h : RB B s t1 x w) (e : t1 = if t.chd.testBit k then t.blame 5 else t) : RB B s (t.marked k) x (w.setCell ⟨B, 12, none⟩ (.int .u8 ((t.chd ||| 2 ^ k : Nat) : Int))) := by
  subst e; exact h.set12 _

theorem size_new (w : World) (o : Obj) : w.heap.size < (w.alloc o).drew.heap.size := by simp

section
variable {B : Nat} {s : ByteArray} {t : T} {x : Junk} {w : World}
set_option maxRecDepth 100000 in
set_option maxHeartbeats 1600000 in
theorem change_name {b : Bool} {t' : T} (hs : s.size ≤ 120) (hat : t.at_ ≤ s.size) (hcd : t.chd < 8) (hb : RB B s t x w) (hR : Rows3 B t x w) (hp : pChange s t = (b, t')) :
    Calls Tryd.prog 46 #[.pointer (some ⟨B, 0, none⟩)] w fun e w' => e = .returned (.bool b) ∧ Fin B s t' w w' := by
  unfold pChange at hp
  have hB := hb.lt
  cases h1 : num? s t.at_ 97 0 2 with
  | none =>
    simp [h1] at hp; obtain ⟨rfl, rfl⟩ := hp
    go_enter Tryd.func46, Tryd.ntmps46
    go_wp2_with fail
    refine (name_no hs hat hb h1).mono ?_; rintro e w1 ⟨rfl, hb1, hx1⟩
    go_wp2
    go_ret
    exact ⟨rfl, Fin.of_ex hR (hb1.alloc _) (hx1.alloc _) hB (Nat.le_refl _) rfl⟩
  | some k =>
    have hk := num_le h1
    have hlt := num_lt h1
    have sn := named_same t k
    have sm := marked_same (t.named k) k
    simp only [h1] at hp
    generalize ht1 : t.named k = t1 at *
    have hk0 : (0 : Int) ≤ (k : Int) := by omega
    have hk3 : (k : Int) < 3 := by omega
    go_enter Tryd.func46, Tryd.ntmps46
    go_wp2_with fail
    refine (name_yes k hs hb h1).mono ?_; rintro e w1 ⟨rfl, hb1, hx1⟩
    rw [ht1] at hb1
    go_wp2_with fail
    have hb2 := hb1.alloc (.cells #[.int .i64 k] 3)
    have hx2 := hx1.alloc (.cells #[.int .i64 k] 3)
    have hN : B ≠ w1.heap.size := by have := hb1.lt; omega
    have hwN : w.heap.size ≤ w1.heap.size := hx1.size
    have hblk := heap_alloc_new w1 (.cells #[.int .i64 k] 3)
    generalize w1.alloc (.cells #[.int .i64 k] 3) = w2 at *
    generalize w1.heap.size = N at *
    have kN := cell_of_one hblk
    have c12 := hb2.c12
    have hlt2 := hb2.lt
    clear hb1 hx1
    go_quiet ((go_at_call 68; exact Calls.quiet_of_same (hasNames _ _ (by omega) (by omega) _)))
    have hcd1 : t1.chd < 8 := by omega
    obtain ⟨t2, ht2⟩ : ∃ t2, t2 = if t1.chd.testBit k then t1.blame 5 else t1 := ⟨_, rfl⟩
    have st2 : t2.chd = t1.chd := by rw [ht2]; split; exact (blame_same _ _).2.2.2; rfl
    have sc := sn.2.2.2
    cases hT : t.chd.testBit k with
    | true =>
      go_wp2_with fail
      refine (blame_any 5 (by omega) (by omega) (hb2.drewN _)).mono ?_; rintro e w3 ⟨rfl, hb3, hx3⟩
      have e2 : t2 = t1.blame 5 := by rw [ht2, sc, hT]; rfl
      rw [← e2] at hb3
      go_wp2_with fail
      have hX := (hx2.drewN nq).trans hx3
      have hblk3 : w3.heap[N]? = some (.cells #[.int .i64 k] 3 (0, 0)) := (hx3.block N (lt_of_block hblk) (by omega)).trans hblk
      clear hb2 hx2 hx3 hblk kN c12 hlt2 e2 hT
      have c12 : w3.cell? ⟨B, 12, none⟩ = some (.int .u8 t.chd) := by rw [← sc, ← st2]; exact hb3.c12
      have f12 := hb3.free 12
      have kN := cell_of_one hblk3
      have hlt3 := hb3.lt
      have hb4 : RB B s (t1.marked k) x (w3.setCell ⟨B, 12, none⟩ (.int .u8 ((t.chd ||| 2 ^ k : Nat) : Int))) := by rw [← sc]; exact hb3.mark k ht2
      have hx4 := hX.setCell (p := ⟨B, 12, none⟩) (.inl rfl) (.int .u8 ((t.chd ||| 2 ^ k : Nat) : Int))
      have hblk4 : (w3.setCell ⟨B, 12, none⟩ (.int .u8 ((t.chd ||| 2 ^ k : Nat) : Int))).heap[N]? = some (.cells #[.int .i64 k] 3 (0, 0)) := (heap_setCell_other _ _ _ _ (fun e => hN e.symm)).trans hblk3
      replace hb4 := hb4.drew
      replace hx4 := hx4.drew
      replace hblk4 : (w3.setCell ⟨B, 12, none⟩ (.int .u8 ((t.chd ||| 2 ^ k : Nat) : Int))).drew.heap[N]? = some (.cells #[.int .i64 k] 3 (0, 0)) := hblk4
      clear hb3 hX hblk3 ht2 st2
      go_region_law ((go_simp; go_at_call 69; refine (withNames t.chd k hcd (by omega) _).mono ?_; rintro e w' ⟨rfl, rfl⟩))
      all_goals
        generalize (w3.setCell ⟨B, 12, none⟩ (.int .u8 ((t.chd ||| 2 ^ k : Nat) : Int))).drew = w4 at *
        clear c12 f12 kN hlt3
        clear w3
        generalize t1.marked k = t3 at *
        have hat3 : t3.at_ ≤ s.size := by omega
        cases h3 : num? s t3.at_ 61 0 0 with
        | none =>
          simp only [h3, Prod.mk.injEq] at hp
          obtain ⟨rfl, rfl⟩ := hp
          go_wp2_with fail
          refine (take_no 61 hs hat3 (by omega) hb4 h3).mono ?_; rintro e w5 ⟨rfl, hb5, hx5⟩
          go_wp2
          go_ret
          exact ⟨rfl, Fin.of_ex hR hb5 (hx4.trans hx5) hB (by omega) (by omega)⟩
        | some k5 =>
          simp only [h3] at hp
          have hat5 : t3.adv.at_ ≤ s.size := num_lt h3
          go_wp2_with fail
          refine (take_yes 61 k5 hs (by omega) hb4 h3).mono ?_; rintro e w5 ⟨rfl, hb5, hx5⟩
          go_wp2_with fail
          have hX := hx4.trans hx5
          have hblk5 : w5.heap[N]? = some (.cells #[.int .i64 k] 3 (0, 0)) := (hx5.block N (lt_of_block hblk4) (fun e => hN e.symm)).trans hblk4
          clear hb4 hx4 hx5 hblk4 w4
          have kN := cell_of_one hblk5
          obtain ⟨gk, hgk⟩ : ∃ g : Int, w5.cell? ⟨B, 2 + k * 2, none⟩ = some (.int .i64 g) := by
            have hk3 : k = 0 ∨ k = 1 ∨ k = 2 := by omega
            rcases hk3 with rfl | rfl | rfl
            · exact ⟨_, hb5.c2⟩
            · exact ⟨_, hb5.c4⟩
            · exact ⟨_, hb5.c6⟩
          have hlt5 := hb5.lt
          have hN5 := lt_of_block hblk5
          have st := pTo_same hp
          obtain ⟨⟨xs, hr⟩, ⟨kc, ys, hkc, hc⟩, ⟨j, zs, hj, hh⟩⟩ := hR
          have hBM : B ≠ w5.heap.size := by omega
          cases hz : pToNil s t3.adv with
          | true =>
            obtain ⟨rfl, rfl⟩ := pToNil_no hp hz
            go_region_law (first
              | (go_simp; go_at_call 70; refine (to_nil _ hs hat5 hb5.drew hp hz).mono ?_; rintro e w6 ⟨rfl, hb6a, hx6a⟩)
              | (go_simp; go_at_call 70; refine (to_nil _ hs hat5 (hb5.alloc (.cells #[.nilFunc] 137)).drew hp hz).mono ?_; rintro e w6 ⟨rfl, hb6b, hx6b⟩; have hm6 := (hx6b.block w5.heap.size (size_new w5 _) (fun e => hBM e.symm)).trans (heap_alloc_new w5 (.cells #[.nilFunc] 137)); have km := cell_of_one hm6; have fm := free_of_one hm6))
            all_goals
              first
                | (have hb7 := hb6a.alloc (.cells #[.nilFunc] 137)
                   have hX7 := (hX.drew.trans hx6a).alloc (.cells #[.nilFunc] 137)
                   clear hb6a hx6a
                   generalize w6.alloc (.cells #[.nilFunc] 137) = w7 at *
                   generalize w6.heap.size = M at *)
                | (have hb7 := hb6b.set_other (p := ⟨w5.heap.size, 0, none⟩) (fun e => hBM e.symm) (.nilFunc)
                   have hX7 := ((hX.alloc (.cells #[.nilFunc] 137)).drew.trans hx6b).setCell (p := ⟨w5.heap.size, 0, none⟩) (.inr hX.size) (.nilFunc)
                   clear hb6b hx6b hm6 km fm
                   generalize w6.setCell ⟨w5.heap.size, 0, none⟩ (.nilFunc) = w7 at *
                   generalize w5.heap.size = M at *)
              go_wp2
              go_ret
              exact ⟨rfl, Fin.of_ex ⟨⟨xs, hr⟩, ⟨kc, ys, hkc, hc⟩, ⟨j, zs, hj, hh⟩⟩ hb7 hX7 hB (by show t.at_ ≤ t3.at_ + 1; omega) (by show t3.nr = t.nr; omega)⟩
          | false =>
            go_region_law (first
              | (go_simp; go_at_call 70; refine (to_func _ hs hat5 hb5.drew hp hz).mono ?_; rintro e w6 ⟨⟨f6, a6, rfl⟩, hb6a, hx6a⟩)
              | (go_simp; go_at_call 70; refine (to_func _ hs hat5 (hb5.alloc (.cells #[.nilFunc] 137)).drew hp hz).mono ?_; rintro e w6 ⟨⟨f6, a6, rfl⟩, hb6b, hx6b⟩; have hm6 := (hx6b.block w5.heap.size (size_new w5 _) (fun e => hBM e.symm)).trans (heap_alloc_new w5 (.cells #[.nilFunc] 137)); have km := cell_of_one hm6; have fm := free_of_one hm6))
            all_goals
              first
                | (have hb7 := hb6a.alloc (.cells #[.func f6 #[] a6] 137)
                   have hX7 := (hX.drew.trans hx6a).alloc (.cells #[.func f6 #[] a6] 137)
                   clear hb6a hx6a
                   generalize w6.alloc (.cells #[.func f6 #[] a6] 137) = w7 at *
                   generalize w6.heap.size = M at *)
                | (have hb7 := hb6b.set_other (p := ⟨w5.heap.size, 0, none⟩) (fun e => hBM e.symm) (.func f6 #[] a6)
                   have hX7 := ((hX.alloc (.cells #[.nilFunc] 137)).drew.trans hx6b).setCell (p := ⟨w5.heap.size, 0, none⟩) (.inr hX.size) (.func f6 #[] a6)
                   clear hb6b hx6b hm6 km fm
                   generalize w6.setCell ⟨w5.heap.size, 0, none⟩ (.func f6 #[] a6) = w7 at *
                   generalize w5.heap.size = M at *)
              cases b with
              | false =>
                go_wp2
                go_ret
                exact ⟨rfl, Fin.of_ex ⟨⟨xs, hr⟩, ⟨kc, ys, hkc, hc⟩, ⟨j, zs, hj, hh⟩⟩ hb7 hX7 hB (by have : t3.adv.at_ = t3.at_ + 1 := rfl; omega) (by have : t3.adv.nr = t3.nr := rfl; omega)⟩
              | true =>
                have B7 := hb7.lt
                have HC : Hid (w7.ownsRow (B + 1) 149 1 x.vc kc ys) := hX7.ownsRow (Nat.lt_succ_self _) hc
                have HR : Hid (w7.ownsRow (B + 1) 106 1 x.vr t.nr xs) := hX7.ownsRow (Nat.lt_succ_self _) hr
                have HH : Hid (w7.ownsRow (B + 1) 150 1 x.vh j zs) := hX7.ownsRow (Nat.lt_succ_self _) hh
                have HX : Hid (Ex B w w7) := hX7
                have HB7 : Hid (RB B s t' x w7) := hb7
                have HA : Hid (t.at_ + 1 ≤ t'.at_ ∧ t'.nr = t.nr) := by
                  have e1 : t3.adv.at_ = t3.at_ + 1 := rfl
                  have e2 : t3.adv.nr = t3.nr := rfl
                  show _ ∧ _; omega
                have hmf : ∀ (fn : Fn) (first cap : Array Value) (w : World), (Instr.makeFunc fn first cap).run Tryd.prog w = .ok (.func fn first cap) w := fun _ _ _ _ => rfl
                obtain ⟨i0, hi, hz0, hz1, hz2⟩ := info_parts Tryd.info150
                clear hX7 hb7 hr hc hh hX hb5 hblk5 kN hgk hlt5 st hp hz sn sm h1 h3 hat3 hat5 hb
                have c11 : w7.cell? ⟨B, 11, none⟩ = some x.vh := HB7.out.c11
                go_wp2_with (at_builtin; refine wpList_append_own _ rfl _ _ 73 rfl (B + 1) 150 i0 .nilFunc 1 8 Tryd.underlying73 hi hz0 hz1 hz2 rfl Nat.one_pos _ _ _ rfl (HH.out.alloc _) ⟨w7.heap.size, 0, none⟩ 1 1 [.func (.func 71) #[] #[.pointer (some ⟨N, 0, none⟩), .pointer (some ⟨M, 0, none⟩)]] rfl rfl ?c1 ?c2 ?c3 ?c4 ?c5 ?_)
                case c1 => exact cell_one_new _ _ _
                case c2 => exact func_oneCell _ _ _
                case c3 => unfold maxLen; omega
                case c4 => omega
                case c5 => simp; omega
                intro v' W8 hown' hgrow _
                obtain ⟨g5, cap5, hv5⟩ := owned_form hown' (by omega)
                subst hv5
                have hb8 : RB B s t' x W8 := (HB7.out.alloc _).grown hgrow (ownBlock_ne HH.out)
                have d11 := hb8.c11
                have f11 := hb8.free 11
                have FB : Hid (RB B s t' { x with vh := .slice (some ⟨g5, 0, none⟩) (j + 1) cap5 } (W8.setCell ⟨B, 11, none⟩ (.slice (some ⟨g5, 0, none⟩) (j + 1) cap5))) := hb8.set11 (.slice (some ⟨g5, 0, none⟩) (j + 1) cap5)
                have FR := ownsRow_setCell_below ((HR.out.alloc _).kept hgrow (apart_of_types HR.out HH.out (by omega))) (a := ⟨B, 11, none⟩) (Nat.lt_succ_self B) (.slice (some ⟨g5, 0, none⟩) (j + 1) cap5)
                have FH := ownsRow_setCell_below hown' (a := ⟨B, 11, none⟩) (Nat.lt_succ_self B) (.slice (some ⟨g5, 0, none⟩) (j + 1) cap5)
                have FC := ownsRow_setCell_below ((HC.out.alloc _).kept hgrow (apart_of_types HC.out HH.out (by omega))) (a := ⟨B, 11, none⟩) (Nat.lt_succ_self B) (.slice (some ⟨g5, 0, none⟩) (j + 1) cap5)
                have FL : Below B w (W8.setCell ⟨B, 11, none⟩ (.slice (some ⟨g5, 0, none⟩) (j + 1) cap5)) := (((HX.out.alloc _).below (Nat.le_refl _) (by omega)).grown hgrow (by simp; omega) (ownBlock_ge HH.out)).setCell (Nat.le_refl _) (.slice (some ⟨g5, 0, none⟩) (j + 1) cap5)
                have hA := HA.out
                have FIN : Hid (Fin B s t' w (W8.setCell ⟨B, 11, none⟩ (.slice (some ⟨g5, 0, none⟩) (j + 1) cap5))) :=
                  ⟨_, FB.out, ⟨⟨_, by rw [hA.2]; exact FR⟩, ⟨kc, _, by omega, FC⟩, ⟨j + 1, _, by omega, FH⟩⟩, FL⟩
                clear FB FR FH FC FL hA hb8 hown' hgrow
                go_wp2
                go_ret
                exact ⟨rfl, FIN.out⟩
    | false =>
      have hb3 : RB B s t2 x (w2.drewN nq) := by
        have e2 : t2 = t1 := by rw [ht2, sc, hT]; rfl
        rw [e2]; exact hb2.drewN _
      have hX := hx2.drewN nq
      have hblk3 : (w2.drewN nq).heap[N]? = some (.cells #[.int .i64 k] 3 (0, 0)) := hblk
      clear hb2 hx2 hblk kN c12 hlt2
      generalize w2.drewN nq = w3 at *
      go_wp2_with fail
      clear hT
      have c12 : w3.cell? ⟨B, 12, none⟩ = some (.int .u8 t.chd) := by rw [← sc, ← st2]; exact hb3.c12
      have f12 := hb3.free 12
      have kN := cell_of_one hblk3
      have hlt3 := hb3.lt
      have hb4 : RB B s (t1.marked k) x (w3.setCell ⟨B, 12, none⟩ (.int .u8 ((t.chd ||| 2 ^ k : Nat) : Int))) := by rw [← sc]; exact hb3.mark k ht2
      have hx4 := hX.setCell (p := ⟨B, 12, none⟩) (.inl rfl) (.int .u8 ((t.chd ||| 2 ^ k : Nat) : Int))
      have hblk4 : (w3.setCell ⟨B, 12, none⟩ (.int .u8 ((t.chd ||| 2 ^ k : Nat) : Int))).heap[N]? = some (.cells #[.int .i64 k] 3 (0, 0)) := (heap_setCell_other _ _ _ _ (fun e => hN e.symm)).trans hblk3
      replace hb4 := hb4.drew
      replace hx4 := hx4.drew
      replace hblk4 : (w3.setCell ⟨B, 12, none⟩ (.int .u8 ((t.chd ||| 2 ^ k : Nat) : Int))).drew.heap[N]? = some (.cells #[.int .i64 k] 3 (0, 0)) := hblk4
      clear hb3 hX hblk3 ht2 st2
      go_region_law ((go_simp; go_at_call 69; refine (withNames t.chd k hcd (by omega) _).mono ?_; rintro e w' ⟨rfl, rfl⟩))
      all_goals
        generalize (w3.setCell ⟨B, 12, none⟩ (.int .u8 ((t.chd ||| 2 ^ k : Nat) : Int))).drew = w4 at *
        clear c12 f12 kN hlt3
        clear w3
        generalize t1.marked k = t3 at *
        have hat3 : t3.at_ ≤ s.size := by omega
        cases h3 : num? s t3.at_ 61 0 0 with
        | none =>
          simp only [h3, Prod.mk.injEq] at hp
          obtain ⟨rfl, rfl⟩ := hp
          go_wp2_with fail
          refine (take_no 61 hs hat3 (by omega) hb4 h3).mono ?_; rintro e w5 ⟨rfl, hb5, hx5⟩
          go_wp2
          go_ret
          exact ⟨rfl, Fin.of_ex hR hb5 (hx4.trans hx5) hB (by omega) (by omega)⟩
        | some k5 =>
          simp only [h3] at hp
          have hat5 : t3.adv.at_ ≤ s.size := num_lt h3
          go_wp2_with fail
          refine (take_yes 61 k5 hs (by omega) hb4 h3).mono ?_; rintro e w5 ⟨rfl, hb5, hx5⟩
          go_wp2_with fail
          have hX := hx4.trans hx5
          have hblk5 : w5.heap[N]? = some (.cells #[.int .i64 k] 3 (0, 0)) := (hx5.block N (lt_of_block hblk4) (fun e => hN e.symm)).trans hblk4
          clear hb4 hx4 hx5 hblk4 w4
          have kN := cell_of_one hblk5
          obtain ⟨gk, hgk⟩ : ∃ g : Int, w5.cell? ⟨B, 2 + k * 2, none⟩ = some (.int .i64 g) := by
            have hk3 : k = 0 ∨ k = 1 ∨ k = 2 := by omega
            rcases hk3 with rfl | rfl | rfl
            · exact ⟨_, hb5.c2⟩
            · exact ⟨_, hb5.c4⟩
            · exact ⟨_, hb5.c6⟩
          have hlt5 := hb5.lt
          have hN5 := lt_of_block hblk5
          have st := pTo_same hp
          obtain ⟨⟨xs, hr⟩, ⟨kc, ys, hkc, hc⟩, ⟨j, zs, hj, hh⟩⟩ := hR
          have hBM : B ≠ w5.heap.size := by omega
          cases hz : pToNil s t3.adv with
          | true =>
            obtain ⟨rfl, rfl⟩ := pToNil_no hp hz
            go_region_law (first
              | (go_simp; go_at_call 70; refine (to_nil _ hs hat5 hb5.drew hp hz).mono ?_; rintro e w6 ⟨rfl, hb6a, hx6a⟩)
              | (go_simp; go_at_call 70; refine (to_nil _ hs hat5 (hb5.alloc (.cells #[.nilFunc] 137)).drew hp hz).mono ?_; rintro e w6 ⟨rfl, hb6b, hx6b⟩; have hm6 := (hx6b.block w5.heap.size (size_new w5 _) (fun e => hBM e.symm)).trans (heap_alloc_new w5 (.cells #[.nilFunc] 137)); have km := cell_of_one hm6; have fm := free_of_one hm6))
            all_goals
              first
                | (have hb7 := hb6a.alloc (.cells #[.nilFunc] 137)
                   have hX7 := (hX.drew.trans hx6a).alloc (.cells #[.nilFunc] 137)
                   clear hb6a hx6a
                   generalize w6.alloc (.cells #[.nilFunc] 137) = w7 at *
                   generalize w6.heap.size = M at *)
                | (have hb7 := hb6b.set_other (p := ⟨w5.heap.size, 0, none⟩) (fun e => hBM e.symm) (.nilFunc)
                   have hX7 := ((hX.alloc (.cells #[.nilFunc] 137)).drew.trans hx6b).setCell (p := ⟨w5.heap.size, 0, none⟩) (.inr hX.size) (.nilFunc)
                   clear hb6b hx6b hm6 km fm
                   generalize w6.setCell ⟨w5.heap.size, 0, none⟩ (.nilFunc) = w7 at *
                   generalize w5.heap.size = M at *)
              go_wp2
              go_ret
              exact ⟨rfl, Fin.of_ex ⟨⟨xs, hr⟩, ⟨kc, ys, hkc, hc⟩, ⟨j, zs, hj, hh⟩⟩ hb7 hX7 hB (by show t.at_ ≤ t3.at_ + 1; omega) (by show t3.nr = t.nr; omega)⟩
          | false =>
            go_region_law (first
              | (go_simp; go_at_call 70; refine (to_func _ hs hat5 hb5.drew hp hz).mono ?_; rintro e w6 ⟨⟨f6, a6, rfl⟩, hb6a, hx6a⟩)
              | (go_simp; go_at_call 70; refine (to_func _ hs hat5 (hb5.alloc (.cells #[.nilFunc] 137)).drew hp hz).mono ?_; rintro e w6 ⟨⟨f6, a6, rfl⟩, hb6b, hx6b⟩; have hm6 := (hx6b.block w5.heap.size (size_new w5 _) (fun e => hBM e.symm)).trans (heap_alloc_new w5 (.cells #[.nilFunc] 137)); have km := cell_of_one hm6; have fm := free_of_one hm6))
            all_goals
              first
                | (have hb7 := hb6a.alloc (.cells #[.func f6 #[] a6] 137)
                   have hX7 := (hX.drew.trans hx6a).alloc (.cells #[.func f6 #[] a6] 137)
                   clear hb6a hx6a
                   generalize w6.alloc (.cells #[.func f6 #[] a6] 137) = w7 at *
                   generalize w6.heap.size = M at *)
                | (have hb7 := hb6b.set_other (p := ⟨w5.heap.size, 0, none⟩) (fun e => hBM e.symm) (.func f6 #[] a6)
                   have hX7 := ((hX.alloc (.cells #[.nilFunc] 137)).drew.trans hx6b).setCell (p := ⟨w5.heap.size, 0, none⟩) (.inr hX.size) (.func f6 #[] a6)
                   clear hb6b hx6b hm6 km fm
                   generalize w6.setCell ⟨w5.heap.size, 0, none⟩ (.func f6 #[] a6) = w7 at *
                   generalize w5.heap.size = M at *)
              cases b with
              | false =>
                go_wp2
                go_ret
                exact ⟨rfl, Fin.of_ex ⟨⟨xs, hr⟩, ⟨kc, ys, hkc, hc⟩, ⟨j, zs, hj, hh⟩⟩ hb7 hX7 hB (by have : t3.adv.at_ = t3.at_ + 1 := rfl; omega) (by have : t3.adv.nr = t3.nr := rfl; omega)⟩
              | true =>
                have B7 := hb7.lt
                have HC : Hid (w7.ownsRow (B + 1) 149 1 x.vc kc ys) := hX7.ownsRow (Nat.lt_succ_self _) hc
                have HR : Hid (w7.ownsRow (B + 1) 106 1 x.vr t.nr xs) := hX7.ownsRow (Nat.lt_succ_self _) hr
                have HH : Hid (w7.ownsRow (B + 1) 150 1 x.vh j zs) := hX7.ownsRow (Nat.lt_succ_self _) hh
                have HX : Hid (Ex B w w7) := hX7
                have HB7 : Hid (RB B s t' x w7) := hb7
                have HA : Hid (t.at_ + 1 ≤ t'.at_ ∧ t'.nr = t.nr) := by
                  have e1 : t3.adv.at_ = t3.at_ + 1 := rfl
                  have e2 : t3.adv.nr = t3.nr := rfl
                  show _ ∧ _; omega
                have hmf : ∀ (fn : Fn) (first cap : Array Value) (w : World), (Instr.makeFunc fn first cap).run Tryd.prog w = .ok (.func fn first cap) w := fun _ _ _ _ => rfl
                obtain ⟨i0, hi, hz0, hz1, hz2⟩ := info_parts Tryd.info150
                clear hX7 hb7 hr hc hh hX hb5 hblk5 kN hgk hlt5 st hp hz sn sm h1 h3 hat3 hat5 hb
                have c11 : w7.cell? ⟨B, 11, none⟩ = some x.vh := HB7.out.c11
                go_wp2_with (at_builtin; refine wpList_append_own _ rfl _ _ 73 rfl (B + 1) 150 i0 .nilFunc 1 8 Tryd.underlying73 hi hz0 hz1 hz2 rfl Nat.one_pos _ _ _ rfl (HH.out.alloc _) ⟨w7.heap.size, 0, none⟩ 1 1 [.func (.func 71) #[] #[.pointer (some ⟨N, 0, none⟩), .pointer (some ⟨M, 0, none⟩)]] rfl rfl ?c1 ?c2 ?c3 ?c4 ?c5 ?_)
                case c1 => exact cell_one_new _ _ _
                case c2 => exact func_oneCell _ _ _
                case c3 => unfold maxLen; omega
                case c4 => omega
                case c5 => simp; omega
                intro v' W8 hown' hgrow _
                obtain ⟨g5, cap5, hv5⟩ := owned_form hown' (by omega)
                subst hv5
                have hb8 : RB B s t' x W8 := (HB7.out.alloc _).grown hgrow (ownBlock_ne HH.out)
                have d11 := hb8.c11
                have f11 := hb8.free 11
                have FB : Hid (RB B s t' { x with vh := .slice (some ⟨g5, 0, none⟩) (j + 1) cap5 } (W8.setCell ⟨B, 11, none⟩ (.slice (some ⟨g5, 0, none⟩) (j + 1) cap5))) := hb8.set11 (.slice (some ⟨g5, 0, none⟩) (j + 1) cap5)
                have FR := ownsRow_setCell_below ((HR.out.alloc _).kept hgrow (apart_of_types HR.out HH.out (by omega))) (a := ⟨B, 11, none⟩) (Nat.lt_succ_self B) (.slice (some ⟨g5, 0, none⟩) (j + 1) cap5)
                have FH := ownsRow_setCell_below hown' (a := ⟨B, 11, none⟩) (Nat.lt_succ_self B) (.slice (some ⟨g5, 0, none⟩) (j + 1) cap5)
                have FC := ownsRow_setCell_below ((HC.out.alloc _).kept hgrow (apart_of_types HC.out HH.out (by omega))) (a := ⟨B, 11, none⟩) (Nat.lt_succ_self B) (.slice (some ⟨g5, 0, none⟩) (j + 1) cap5)
                have FL : Below B w (W8.setCell ⟨B, 11, none⟩ (.slice (some ⟨g5, 0, none⟩) (j + 1) cap5)) := (((HX.out.alloc _).below (Nat.le_refl _) (by omega)).grown hgrow (by simp; omega) (ownBlock_ge HH.out)).setCell (Nat.le_refl _) (.slice (some ⟨g5, 0, none⟩) (j + 1) cap5)
                have hA := HA.out
                have FIN : Hid (Fin B s t' w (W8.setCell ⟨B, 11, none⟩ (.slice (some ⟨g5, 0, none⟩) (j + 1) cap5))) :=
                  ⟨_, FB.out, ⟨⟨_, by rw [hA.2]; exact FR⟩, ⟨kc, _, by omega, FC⟩, ⟨j + 1, _, by omega, FH⟩⟩, FL⟩
                clear FB FR FH FC FL hA hb8 hown' hgrow
                go_wp2
                go_ret
                exact ⟨rfl, FIN.out⟩
end
end Go.Proofs.YtcnhhclogbjedaaDoor
