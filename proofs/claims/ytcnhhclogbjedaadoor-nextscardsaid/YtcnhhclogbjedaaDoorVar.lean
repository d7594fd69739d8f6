/- The code's reader: a variable. Our own text. -/
import Derived.Test.YtcnhhclogbjedaaDoorTerm
import Derived.Test.YtcnhhclogbjedaaDoorCond
import Derived.Test.YtcnhhclogbjedaaDoorJump
import Derived.RegionTactic
namespace Go.Proofs.YtcnhhclogbjedaaDoor
open Go.RowKit

def pFirst (s : ByteArray) (g : Nat) : Nat → Nat → T → T
  | 0, _, t => t
  | f + 1, v, t => match num? s t.at_ 48 (v + 1) 3 with
    | some v' => pFirst s g f v' (if g < v then t.blame 4 else t).adv
    | none => if g < v then t.blame 4 else t
def pVar (s : ByteArray) (t : T) : Bool × T :=
  match num? s t.at_ (97 + t.n) 0 0 with
  | none => (false, t)
  | some _ => match num? s t.adv.at_ 48 1 3 with
    | none => (false, t.adv)
    | some g => match num? s t.adv.adv.at_ 61 0 0 with
      | none => (false, t.adv.adv)
      | some _ => match num? s t.adv.adv.adv.at_ 48 0 3 with
        | none => (false, t.adv.adv.adv)
        | some v => (true, { pFirst s g 4 v t.adv.adv.adv.adv with n := t.n + 1 })

theorem pFirst_same (s : ByteArray) (g : Nat) : ∀ (m v : Nat) (t : T), t.at_ ≤ s.size → t.at_ ≤ (pFirst s g m v t).at_ ∧ (pFirst s g m v t).nr = t.nr ∧ (pFirst s g m v t).chd = t.chd ∧ (pFirst s g m v t).at_ ≤ s.size
  | 0, _, t, h => ⟨Nat.le_refl _, rfl, rfl, h⟩
  | m + 1, v, t, h => by
    have hbl : ∀ t : T, t.at_ ≤ s.size → (if g < v then t.blame 4 else t).at_ = t.at_ ∧ (if g < v then t.blame 4 else t).nr = t.nr ∧ (if g < v then t.blame 4 else t).chd = t.chd := by
      intro t _; split
      · have := blame_same t 4; exact ⟨this.1, this.2.2.1, this.2.2.2⟩
      · exact ⟨rfl, rfl, rfl⟩
    have h1 := hbl t h
    unfold pFirst
    cases e : num? s t.at_ 48 (v + 1) 3 with
    | none => simp only; exact ⟨by omega, h1.2.1, h1.2.2, by omega⟩
    | some v' =>
      have hl := num_lt e
      simp only
      generalize hq : (if g < v then t.blame 4 else t) = q at *
      have e1 : q.adv.at_ = q.at_ + 1 := rfl
      have e2 : q.adv.nr = q.nr := rfl
      have e3 : q.adv.chd = q.chd := rfl
      have := pFirst_same s g m v' q.adv (by omega)
      exact ⟨by omega, by omega, by omega, this.2.2.2⟩
theorem pVar_same {s : ByteArray} {t t' : T} {b : Bool} (h : pVar s t = (b, t')) (ht : t.at_ ≤ s.size) : t.at_ ≤ t'.at_ ∧ t'.nr = t.nr ∧ t'.chd = t.chd ∧ t'.at_ ≤ s.size ∧ (b = true → t.at_ < t'.at_ ∧ t'.n = t.n + 1) := by
  unfold pVar at h
  split at h
  · cases h; exact ⟨Nat.le_refl _, rfl, rfl, ht, fun h => by cases h⟩
  · next e1 =>
    have l1 : t.adv.at_ ≤ s.size := num_lt e1
    split at h
    · cases h; exact ⟨Nat.le_succ _, rfl, rfl, l1, fun h => by cases h⟩
    · next e2 =>
      have l2 : t.adv.adv.at_ ≤ s.size := num_lt e2
      split at h
      · cases h; exact ⟨by show t.at_ ≤ t.at_ + 1 + 1; omega, rfl, rfl, l2, fun h => by cases h⟩
      · next e3 =>
        have l3 : t.adv.adv.adv.at_ ≤ s.size := num_lt e3
        split at h
        · cases h; exact ⟨by show t.at_ ≤ t.at_ + 1 + 1 + 1; omega, rfl, rfl, l3, fun h => by cases h⟩
        · next _ g _ _ _ v e4 =>
          have l4 : t.adv.adv.adv.adv.at_ ≤ s.size := num_lt e4
          have := pFirst_same s g 4 v t.adv.adv.adv.adv l4
          have e : t.adv.adv.adv.adv.at_ = t.at_ + 1 + 1 + 1 + 1 := rfl
          cases h
          exact ⟨by show t.at_ ≤ (pFirst s g 4 v t.adv.adv.adv.adv).at_; omega, this.2.1, this.2.2.1, this.2.2.2, fun _ => ⟨by show t.at_ < (pFirst s g 4 v t.adv.adv.adv.adv).at_; omega, rfl⟩⟩

theorem frame_of (x : Array Value) (n : Nat) (h : x.size = n) : x = ((List.range n).map (fun i => x.getD i undef)).toArray := by
  apply Array.ext
  · simp [h]
  · intro i h1 h2
    simp [Array.getD, h1]
theorem frame73 (a : Act) (h : a.tmps.size = 73) (hd : a.defers = []) : ∃ u : Nat → Value, a = { tmps := #[u 0, u 1, u 2, u 3, u 4, u 5, u 6, u 7, u 8, u 9, u 10, u 11, u 12, u 13, u 14, u 15, u 16, u 17, u 18, u 19, u 20, u 21, u 22, u 23, u 24, u 25, u 26, u 27, u 28, u 29, u 30, u 31, u 32, u 33, u 34, u 35, u 36, u 37, u 38, u 39, u 40, u 41, u 42, u 43, u 44, u 45, u 46, u 47, u 48, u 49, u 50, u 51, u 52, u 53, u 54, u 55, u 56, u 57, u 58, u 59, u 60, u 61, u 62, u 63, u 64, u 65, u 66, u 67, u 68, u 69, u 70, u 71, u 72], defers := [] } := by
  obtain ⟨x, d⟩ := a
  refine ⟨fun i => x.getD i undef, ?_⟩
  simp only at h hd
  subst hd
  have := frame_of x 73 h
  exact congrArg (fun y => Act.mk y []) this
theorem frame73' (a : Act) (p0 p3 p4 : Value) (h : a.tmps.size = 73) (hd : a.defers = []) (h0 : a.tmps.getD 0 undef = p0) (h3 : a.tmps.getD 3 undef = p3) (h4 : a.tmps.getD 4 undef = p4) : ∃ u : Nat → Value, a = { tmps := #[p0, u 1, u 2, p3, p4, u 5, u 6, u 7, u 8, u 9, u 10, u 11, u 12, u 13, u 14, u 15, u 16, u 17, u 18, u 19, u 20, u 21, u 22, u 23, u 24, u 25, u 26, u 27, u 28, u 29, u 30, u 31, u 32, u 33, u 34, u 35, u 36, u 37, u 38, u 39, u 40, u 41, u 42, u 43, u 44, u 45, u 46, u 47, u 48, u 49, u 50, u 51, u 52, u 53, u 54, u 55, u 56, u 57, u 58, u 59, u 60, u 61, u 62, u 63, u 64, u 65, u 66, u 67, u 68, u 69, u 70, u 71, u 72], defers := [] } := by
  obtain ⟨x, d⟩ := a
  refine ⟨fun i => x.getD i undef, ?_⟩
  simp only at h hd h0 h3 h4
  subst hd h0 h3 h4
  have := frame_of x 73 h
  exact congrArg (fun y => Act.mk y []) this

/-- What holds at the labels of 'variable'. -/
def JV (B : Nat) (s : ByteArray) (w : World) (x : Junk) (nn nr at0 : Nat) (R : Bool × T) (l m : Nat) (a : Act) (w' : World) : Prop :=
  (l = 0 ∧ m = 0 ∧ (a.tmps.size = 73 ∧ a.defers = []) ∧ R.1 = false ∧ RB B s R.2 x w' ∧ Ex B w w') ∨
  (l = 1 ∧ ∃ (v g : Nat) (f : Int) (t : T), (a.tmps.size = 73 ∧ a.defers = [] ∧ a.tmps.getD 0 undef = .pointer (some ⟨B, 0, none⟩) ∧ a.tmps.getD 3 undef = .pointer (some ⟨w.heap.size, 0, none⟩) ∧ a.tmps.getD 4 undef = .int .i64 v) ∧ R = (true, { pFirst s g m v t with n := nn + 1 }) ∧ v ≤ 3 ∧ g ≤ 3 ∧ 4 ≤ v + m ∧ at0 ≤ t.at_ ∧ 1 ≤ t.at_ ∧ t.at_ ≤ s.size ∧ t.n = nn ∧ t.nr = nr ∧
    RB B s t x w' ∧ Ex B w w' ∧ w'.heap[w.heap.size]? = some (.cells #[.int .i64 g, .int .u8 f] 41 (0, 0)))

theorem take_no' {B : Nat} {s : ByteArray} {t : T} {x : Junk} {w : World} {c : Int} (k : Nat) (e : c = (k : Int)) (hs : s.size ≤ 120) (hat : t.at_ ≤ s.size) (hc : k ≤ 255) (hb : RB B s t x w) (hn : num? s t.at_ k 0 0 = none) :
    Calls Tryd.prog 44 #[.pointer (some ⟨B, 0, none⟩), .int .u8 c] w fun e w' => e = .returned (.bool false) ∧ RB B s t x w' ∧ Ex B w w' := by
  subst e; exact take_no k hs hat hc hb hn
theorem take_yes' {B : Nat} {s : ByteArray} {t : T} {x : Junk} {w : World} {c : Int} (k j : Nat) (e : c = (k : Int)) (hs : s.size ≤ 120) (hc : k ≤ 255) (hb : RB B s t x w) (hn : num? s t.at_ k 0 0 = some j) :
    Calls Tryd.prog 44 #[.pointer (some ⟨B, 0, none⟩), .int .u8 c] w fun e w' => e = .returned (.bool true) ∧ RB B s t.adv x w' ∧ Ex B w w' := by
  subst e; exact take_yes k j hs hc hb hn

theorem digit_no' {B : Nat} {s : ByteArray} {t : T} {x : Junk} {w : World} {c : Int} (lo : Nat) (e : c = (lo : Int)) (hs : s.size ≤ 120) (hat : t.at_ ≤ s.size) (hlo : lo ≤ 10) (hb : RB B s t x w) (hn : num? s t.at_ 48 lo 3 = none) :
    Calls Tryd.prog 60 #[.pointer (some ⟨B, 0, none⟩), .int .i64 c] w fun e w' => e = .returned (.tuple #[.int .i64 0, .bool false]) ∧ RB B s t x w' ∧ Ex B w w' := by
  subst e; exact digit_no lo hs hat hlo hb hn
theorem digit_yes' {B : Nat} {s : ByteArray} {t : T} {x : Junk} {w : World} {c : Int} (lo k : Nat) (e : c = (lo : Int)) (hs : s.size ≤ 120) (hlo : lo ≤ 10) (hb : RB B s t x w) (hn : num? s t.at_ 48 lo 3 = some k) :
    Calls Tryd.prog 60 #[.pointer (some ⟨B, 0, none⟩), .int .i64 c] w fun e w' => e = .returned (.tuple #[.int .i64 k, .bool true]) ∧ RB B s t.adv x w' ∧ Ex B w w' := by
  subst e; exact digit_yes lo k hs hlo hb hn
theorem Fin.drew {B : Nat} {s : ByteArray} {t : T} {w w' : World} (h : Fin B s t w w') : Fin B s t w w'.drew := by
  obtain ⟨x, h1, h2, h3⟩ := h
  exact ⟨x, h1.drew, h2.ex (Ex.refl B w').drew (Nat.le_refl _) rfl, h3.drew⟩
theorem RB.setv0 {B : Nat} {s : ByteArray} {t : T} {x : Junk} {w : World} (h : RB B s t x w) (g c : Int) : RB B s t { x with g0 := g, f0 := c } ((w.setCell ⟨B, 2, none⟩ (.int .i64 g)).setCell ⟨B, 3, none⟩ (.int .u8 c)) :=
  (h.set 2 (.int .i64 g) (t' := t) (x' := { x with g0 := g }) rfl).set 3 _ rfl
theorem RB.setv1 {B : Nat} {s : ByteArray} {t : T} {x : Junk} {w : World} (h : RB B s t x w) (g c : Int) : RB B s t { x with g1 := g, f1 := c } ((w.setCell ⟨B, 4, none⟩ (.int .i64 g)).setCell ⟨B, 5, none⟩ (.int .u8 c)) :=
  (h.set 4 (.int .i64 g) (t' := t) (x' := { x with g1 := g }) rfl).set 5 _ rfl
theorem RB.setv2 {B : Nat} {s : ByteArray} {t : T} {x : Junk} {w : World} (h : RB B s t x w) (g c : Int) : RB B s t { x with g2 := g, f2 := c } ((w.setCell ⟨B, 6, none⟩ (.int .i64 g)).setCell ⟨B, 7, none⟩ (.int .u8 c)) :=
  (h.set 6 (.int .i64 g) (t' := t) (x' := { x with g2 := g }) rfl).set 7 _ rfl
theorem var_fin {B : Nat} {s : ByteArray} {t t' : T} {x x' : Junk} {w w' : World} (hR : Rows3 B t x w) (hB : B < w.heap.size) (e1 : x'.vr = x.vr) (e2 : x'.vc = x.vc) (e3 : x'.vh = x.vh) (hb : RB B s t' x' w') (hx : Ex B w w') (ha : t.at_ ≤ t'.at_) (hr : t'.nr = t.nr) : Fin B s t' w w' := by
  obtain ⟨⟨xs, h1⟩, ⟨k, ys, hk, h2⟩, ⟨j, zs, hj, h3⟩⟩ := hR.ex hx ha hr
  exact ⟨x', hb, ⟨⟨xs, by rw [e1]; exact h1⟩, ⟨k, ys, hk, by rw [e2]; exact h2⟩, ⟨j, zs, hj, by rw [e3]; exact h3⟩⟩, hx.below (Nat.le_refl _) (by omega)⟩

section
variable {B : Nat} {s : ByteArray} {t : T} {x : Junk} {w : World}
theorem two_setCell0 {w : World} {b : Nat} {v u y : Value} {t : TypeId} (h : w.heap[b]? = some (.cells #[v, u] t (0, 0))) : (w.setCell ⟨b, 0, none⟩ y).heap[b]? = some (.cells #[y, u] t (0, 0)) := heap_setCell_same w b 0 #[v, u] t y h
theorem two_setCell1 {w : World} {b : Nat} {v u y : Value} {t : TypeId} (h : w.heap[b]? = some (.cells #[v, u] t (0, 0))) : (w.setCell ⟨b, 1, none⟩ y).heap[b]? = some (.cells #[v, y] t (0, 0)) := heap_setCell_same w b 1 #[v, u] t y h
theorem two_cell0 {w : World} {b : Nat} {v u : Value} {t : TypeId} (h : w.heap[b]? = some (.cells #[v, u] t (0, 0))) : w.cell? ⟨b, 0, none⟩ = some v := by simp [World.cell?, h]
theorem two_cell1 {w : World} {b : Nat} {v u : Value} {t : TypeId} (h : w.heap[b]? = some (.cells #[v, u] t (0, 0))) : w.cell? ⟨b, 1, none⟩ = some u := by simp [World.cell?, h]
theorem two_free {w : World} {b : Nat} {v u : Value} {t : TypeId} (h : w.heap[b]? = some (.cells #[v, u] t (0, 0))) (i : Nat) : w.frozen? ⟨b, i, none⟩ = false := by simp [World.frozen?, h]

set_option maxRecDepth 100000 in
set_option maxHeartbeats 1600000 in
theorem var_any {b : Bool} {t' : T} (hs : s.size ≤ 120) (hat : t.at_ ≤ s.size) (hn : t.n < 3) (hb : RB B s t x w) (hR : Rows3 B t x w) (hp : pVar s t = (b, t')) :
    Calls Tryd.prog 43 #[.pointer (some ⟨B, 0, none⟩)] w fun e w' => e = .returned (.bool b) ∧ Fin B s t' w w' := by
  have hB := hb.lt
  have c8 := hb.c8
  have SM := pVar_same hp hat
  go_enter Tryd.func43, Tryd.ntmps43
  go_wp2_with fail
  refine wp_scope_rest (JV B s w x t.n t.nr t.at_ (b, t')) ?hf ?pass ?first
  case hf =>
    rintro l m a w' (⟨rfl, _⟩ | ⟨rfl, _⟩)
    · rfl
    · rfl
  case pass =>
    rintro m ih l a w' (⟨rfl, rfl, ⟨fz, fd⟩, hr, hb', hx'⟩ | ⟨rfl, v, g, f, t1, ⟨fz, fd, f0, f3, f4⟩, hr, hv, hg, hm, ha0, hat0, hat1, hn1, hnr, hb', hx', hv'⟩)
    · obtain ⟨u, rfl⟩ := frame73 a fz fd
      clear fz fd ih
      show Code.wp Tryd.prog (.seq (.region _ _ _) .ret) _ _ _
      go_wp2
      rw [jumps_ret]
      have hbf : b = false := hr
      subst hbf
      go_ret
      exact ⟨rfl, Fin.of_ex hR hb' hx' hB SM.1 SM.2.1⟩
    · obtain ⟨u, rfl⟩ := frame73' a _ _ _ fz fd f0 f3 f4
      clear fz fd f0 f3 f4 ih
      show Code.wp Tryd.prog (.seq _ _) _ _ _
      have q0 := two_cell0 hv'
      have q1 := two_cell1 hv'
      have f1 := two_free hv' 1
      have hlt := lt_of_block hv'
      obtain ⟨m', rfl⟩ : ∃ m', m = m' + 1 := ⟨m - 1, by omega⟩
      obtain ⟨t2, ht2⟩ : ∃ t2, t2 = if g < v then t1.blame 4 else t1 := ⟨_, rfl⟩
      have st2 : t2.at_ = t1.at_ ∧ t2.n = t1.n ∧ t2.nr = t1.nr := by
        rw [ht2]; split
        · have := blame_same t1 4; exact ⟨this.1, this.2.1, this.2.2.1⟩
        · exact ⟨rfl, rfl, rfl⟩
      unfold pFirst at hr
      rw [← ht2] at hr
      clear SM
      by_cases hgv : g < v
      · have hgv' : (g : Int) < (v : Int) := by omega
        have e2 : t2 = t1.blame 4 := by rw [ht2, if_pos hgv]
        clear ht2 hgv
        go_wp2_with fail
        refine (blame_any 4 hat0 (by omega) hb').mono ?_; rintro e w2 ⟨rfl, hb2, hx2⟩
        rw [← e2] at hb2
        have hv2 := (hx2.block w.heap.size hlt (by omega)).trans hv'
        have hX := hx'.trans hx2
        clear q0 q1 f1 hlt hv' hb' hx' hx2 e2
        have q0 := two_cell0 hv2
        have q1 := two_cell1 hv2
        have f1 := two_free hv2 1
        have hlt := lt_of_block hv2
        go_wp2_with fail
        refine (withValues _ v hv _).mono ?_; rintro e w3 ⟨⟨c', rfl⟩, hw3⟩
        rw [hw3]
        clear hw3 w3
        have HB3 : Hid (RB B s t2 x (w2.setCell ⟨w.heap.size, 1, none⟩ (.int .u8 c'))) := hb2.set_other (by show w.heap.size ≠ B; omega) _
        have HX3 : Hid (Ex B w (w2.setCell ⟨w.heap.size, 1, none⟩ (.int .u8 c'))) := hX.setCell (.inr (Nat.le_refl _)) _
        have HV3 : Hid ((w2.setCell ⟨w.heap.size, 1, none⟩ (.int .u8 c')).heap[w.heap.size]? = some (.cells #[.int .i64 g, .int .u8 c'] 41 (0, 0))) := two_setCell1 hv2
        clear hb2 hX hv2
        cases hd : num? s t1.at_ 48 (v + 1) 3 with
        | some v' =>
          simp only [hd] at hr
          have hd2 : num? s t2.at_ 48 (v + 1) 3 = some v' := by rw [st2.1]; exact hd
          have hv' := num_le hd2
          have l2 := num_lt hd2
          go_wp2_with fail
          refine (digit_yes' (v + 1) v' (by omega) hs (by omega) HB3.out hd2).mono ?_; rintro e w4 ⟨rfl, hb4, hx4⟩
          have hv4 := (hx4.block w.heap.size (lt_of_block HV3.out) (by omega)).trans HV3.out
          have hx4' := HX3.out.trans hx4
          clear hx4 HB3 HX3 HV3 q0 q1 f1 hd hd2
          go_wp2
          go_step3
          show ∃ m'', m'' < m' + 1 ∧ JV B s w x t.n t.nr t.at_ (b, t') 1 m'' _ w4
          exact ⟨m', Nat.lt_succ_self _, .inr ⟨rfl, v', g, c', t2.adv, ⟨rfl, rfl, rfl, rfl, rfl⟩, hr, hv'.2, hg, by omega, by show t.at_ ≤ t2.at_ + 1; omega, by show 1 ≤ t2.at_ + 1; omega, by show t2.at_ + 1 ≤ s.size; omega, by show t2.n = t.n; omega, by show t2.nr = t.nr; omega, hb4, hx4', hv4⟩⟩
        | none =>
          simp only [hd, Prod.mk.injEq] at hr
          obtain ⟨rfl, hr⟩ := hr
          have hd2 : num? s t2.at_ 48 (v + 1) 3 = none := by rw [st2.1]; exact hd
          have hn2 : t2.n = t.n := by omega
          go_wp2_with fail
          refine (digit_no' (v + 1) (by omega) hs (by omega) (by omega) HB3.out hd2).mono ?_; rintro e w4 ⟨rfl, hb4, hx4⟩
          have hv4 := (hx4.block w.heap.size (lt_of_block HV3.out) (by omega)).trans HV3.out
          have hx4' := HX3.out.trans hx4
          clear hx4 HB3 HX3 HV3 q0 q1 f1 hd hd2 hlt
          have q0 := two_cell0 hv4
          have q1 := two_cell1 hv4
          have hlt := lt_of_block hv4
          have F : ∀ i, w4.frozen? ⟨B, i, none⟩ = false := fun i => hb4.free i
          have d8 := hb4.c8
          rw [hn2] at d8
          have hBlt := hb4.lt
          go_wp2_with fail
          have hcase : t.n = 0 ∨ t.n = 1 ∨ t.n = 2 := by omega
          rcases hcase with h0 | h0 | h0
          · rw [h0] at d8
            have e1 := hb4.c2
            have e2 := hb4.c3
            have HF : Hid (Fin B s t' w (((w4.setCell ⟨B, 2, none⟩ (.int .i64 g)).setCell ⟨B, 3, none⟩ (.int .u8 c')).setCell ⟨B, 8, none⟩ (.int .i64 1))) :=
              var_fin hR hB (x' := { x with g0 := g, f0 := c' }) rfl rfl rfl (by rw [hr, h0]; exact (hb4.setv0 g c').set8 1) (((hx4'.setCell (.inl rfl) _).setCell (.inl rfl) _).setCell (.inl rfl) _) (by rw [hr]; show t.at_ ≤ t2.at_; omega) (by rw [hr]; show t2.nr = t.nr; omega)
            clear hb4 hx4' hv4 hr
            go_region
            all_goals
              go_wp2
              rw [jumps_ret]
              go_ret
              exact ⟨rfl, HF.out.drew⟩
          · rw [h0] at d8
            have e1 := hb4.c4
            have e2 := hb4.c5
            have HF : Hid (Fin B s t' w (((w4.setCell ⟨B, 4, none⟩ (.int .i64 g)).setCell ⟨B, 5, none⟩ (.int .u8 c')).setCell ⟨B, 8, none⟩ (.int .i64 2))) :=
              var_fin hR hB (x' := { x with g1 := g, f1 := c' }) rfl rfl rfl (by rw [hr, h0]; exact (hb4.setv1 g c').set8 2) (((hx4'.setCell (.inl rfl) _).setCell (.inl rfl) _).setCell (.inl rfl) _) (by rw [hr]; show t.at_ ≤ t2.at_; omega) (by rw [hr]; show t2.nr = t.nr; omega)
            clear hb4 hx4' hv4 hr
            go_region
            all_goals
              go_wp2
              rw [jumps_ret]
              go_ret
              exact ⟨rfl, HF.out.drew⟩
          · rw [h0] at d8
            have e1 := hb4.c6
            have e2 := hb4.c7
            have HF : Hid (Fin B s t' w (((w4.setCell ⟨B, 6, none⟩ (.int .i64 g)).setCell ⟨B, 7, none⟩ (.int .u8 c')).setCell ⟨B, 8, none⟩ (.int .i64 3))) :=
              var_fin hR hB (x' := { x with g2 := g, f2 := c' }) rfl rfl rfl (by rw [hr, h0]; exact (hb4.setv2 g c').set8 3) (((hx4'.setCell (.inl rfl) _).setCell (.inl rfl) _).setCell (.inl rfl) _) (by rw [hr]; show t.at_ ≤ t2.at_; omega) (by rw [hr]; show t2.nr = t.nr; omega)
            clear hb4 hx4' hv4 hr
            go_region
            all_goals
              go_wp2
              rw [jumps_ret]
              go_ret
              exact ⟨rfl, HF.out.drew⟩
      · have hgv' : ¬ (g : Int) < (v : Int) := by omega
        have e2 : t2 = t1 := by rw [ht2, if_neg hgv]
        clear ht2 hgv
        have hb2 : RB B s t2 x w' := by rw [e2]; exact hb'
        have hX := hx'
        have hv2 := hv'
        clear hv' hb' hx' e2
        generalize w' = w2 at *
        go_wp2_with fail
        refine (withValues _ v hv _).mono ?_; rintro e w3 ⟨⟨c', rfl⟩, hw3⟩
        rw [hw3]
        clear hw3 w3
        have HB3 : Hid (RB B s t2 x (w2.setCell ⟨w.heap.size, 1, none⟩ (.int .u8 c'))) := hb2.set_other (by show w.heap.size ≠ B; omega) _
        have HX3 : Hid (Ex B w (w2.setCell ⟨w.heap.size, 1, none⟩ (.int .u8 c'))) := hX.setCell (.inr (Nat.le_refl _)) _
        have HV3 : Hid ((w2.setCell ⟨w.heap.size, 1, none⟩ (.int .u8 c')).heap[w.heap.size]? = some (.cells #[.int .i64 g, .int .u8 c'] 41 (0, 0))) := two_setCell1 hv2
        clear hb2 hX hv2
        cases hd : num? s t1.at_ 48 (v + 1) 3 with
        | some v' =>
          simp only [hd] at hr
          have hd2 : num? s t2.at_ 48 (v + 1) 3 = some v' := by rw [st2.1]; exact hd
          have hv' := num_le hd2
          have l2 := num_lt hd2
          go_wp2_with fail
          refine (digit_yes' (v + 1) v' (by omega) hs (by omega) HB3.out hd2).mono ?_; rintro e w4 ⟨rfl, hb4, hx4⟩
          have hv4 := (hx4.block w.heap.size (lt_of_block HV3.out) (by omega)).trans HV3.out
          have hx4' := HX3.out.trans hx4
          clear hx4 HB3 HX3 HV3 q0 q1 f1 hd hd2
          go_wp2
          go_step3
          show ∃ m'', m'' < m' + 1 ∧ JV B s w x t.n t.nr t.at_ (b, t') 1 m'' _ w4
          exact ⟨m', Nat.lt_succ_self _, .inr ⟨rfl, v', g, c', t2.adv, ⟨rfl, rfl, rfl, rfl, rfl⟩, hr, hv'.2, hg, by omega, by show t.at_ ≤ t2.at_ + 1; omega, by show 1 ≤ t2.at_ + 1; omega, by show t2.at_ + 1 ≤ s.size; omega, by show t2.n = t.n; omega, by show t2.nr = t.nr; omega, hb4, hx4', hv4⟩⟩
        | none =>
          simp only [hd, Prod.mk.injEq] at hr
          obtain ⟨rfl, hr⟩ := hr
          have hd2 : num? s t2.at_ 48 (v + 1) 3 = none := by rw [st2.1]; exact hd
          have hn2 : t2.n = t.n := by omega
          go_wp2_with fail
          refine (digit_no' (v + 1) (by omega) hs (by omega) (by omega) HB3.out hd2).mono ?_; rintro e w4 ⟨rfl, hb4, hx4⟩
          have hv4 := (hx4.block w.heap.size (lt_of_block HV3.out) (by omega)).trans HV3.out
          have hx4' := HX3.out.trans hx4
          clear hx4 HB3 HX3 HV3 q0 q1 f1 hd hd2 hlt
          have q0 := two_cell0 hv4
          have q1 := two_cell1 hv4
          have hlt := lt_of_block hv4
          have F : ∀ i, w4.frozen? ⟨B, i, none⟩ = false := fun i => hb4.free i
          have d8 := hb4.c8
          rw [hn2] at d8
          have hBlt := hb4.lt
          go_wp2_with fail
          have hcase : t.n = 0 ∨ t.n = 1 ∨ t.n = 2 := by omega
          rcases hcase with h0 | h0 | h0
          · rw [h0] at d8
            have e1 := hb4.c2
            have e2 := hb4.c3
            have HF : Hid (Fin B s t' w (((w4.setCell ⟨B, 2, none⟩ (.int .i64 g)).setCell ⟨B, 3, none⟩ (.int .u8 c')).setCell ⟨B, 8, none⟩ (.int .i64 1))) :=
              var_fin hR hB (x' := { x with g0 := g, f0 := c' }) rfl rfl rfl (by rw [hr, h0]; exact (hb4.setv0 g c').set8 1) (((hx4'.setCell (.inl rfl) _).setCell (.inl rfl) _).setCell (.inl rfl) _) (by rw [hr]; show t.at_ ≤ t2.at_; omega) (by rw [hr]; show t2.nr = t.nr; omega)
            clear hb4 hx4' hv4 hr
            go_region
            all_goals
              go_wp2
              rw [jumps_ret]
              go_ret
              exact ⟨rfl, HF.out.drew⟩
          · rw [h0] at d8
            have e1 := hb4.c4
            have e2 := hb4.c5
            have HF : Hid (Fin B s t' w (((w4.setCell ⟨B, 4, none⟩ (.int .i64 g)).setCell ⟨B, 5, none⟩ (.int .u8 c')).setCell ⟨B, 8, none⟩ (.int .i64 2))) :=
              var_fin hR hB (x' := { x with g1 := g, f1 := c' }) rfl rfl rfl (by rw [hr, h0]; exact (hb4.setv1 g c').set8 2) (((hx4'.setCell (.inl rfl) _).setCell (.inl rfl) _).setCell (.inl rfl) _) (by rw [hr]; show t.at_ ≤ t2.at_; omega) (by rw [hr]; show t2.nr = t.nr; omega)
            clear hb4 hx4' hv4 hr
            go_region
            all_goals
              go_wp2
              rw [jumps_ret]
              go_ret
              exact ⟨rfl, HF.out.drew⟩
          · rw [h0] at d8
            have e1 := hb4.c6
            have e2 := hb4.c7
            have HF : Hid (Fin B s t' w (((w4.setCell ⟨B, 6, none⟩ (.int .i64 g)).setCell ⟨B, 7, none⟩ (.int .u8 c')).setCell ⟨B, 8, none⟩ (.int .i64 3))) :=
              var_fin hR hB (x' := { x with g2 := g, f2 := c' }) rfl rfl rfl (by rw [hr, h0]; exact (hb4.setv2 g c').set8 3) (((hx4'.setCell (.inl rfl) _).setCell (.inl rfl) _).setCell (.inl rfl) _) (by rw [hr]; show t.at_ ≤ t2.at_; omega) (by rw [hr]; show t2.nr = t.nr; omega)
            clear hb4 hx4' hv4 hr
            go_region
            all_goals
              go_wp2
              rw [jumps_ret]
              go_ret
              exact ⟨rfl, HF.out.drew⟩
  case first =>
    intro ih
    clear SM
    unfold pVar at hp
    have hb0 := hb.alloc (.cells #[.int .i64 0, .int .u8 0] 41)
    have hx0 := (Ex.refl B w).alloc (.cells #[.int .i64 0, .int .u8 0] 41)
    have hv0 := heap_alloc_new w (.cells #[.int .i64 0, .int .u8 0] 41)
    cases h1 : num? s t.at_ (97 + t.n) 0 0 with
    | none =>
      simp only [h1, Prod.mk.injEq] at hp
      obtain ⟨rfl, rfl⟩ := hp
      go_wp2_with fail
      refine (take_no' (97 + t.n) (by omega) hs hat (by omega) hb0 h1).mono ?_; rintro e w1 ⟨rfl, hb1, hx1⟩
      go_wp2
      go_step3
      show ∃ m, JV B s w x t.n t.nr t.at_ (false, t) 0 m _ w1
      exact ⟨0, .inl ⟨rfl, rfl, ⟨rfl, rfl⟩, rfl, hb1, hx0.trans hx1⟩⟩
    | some k1 =>
      simp only [h1] at hp
      have l1 : t.adv.at_ ≤ s.size := num_lt h1
      have n1 : t.adv.at_ = t.at_ + 1 := rfl
      generalize ht1 : t.adv = t1 at *
      cases h2 : num? s t1.at_ 48 1 3 with
      | none =>
        simp only [h2, Prod.mk.injEq] at hp
        obtain ⟨rfl, rfl⟩ := hp
        go_wp2_with fail
        refine (take_yes' (97 + t.n) k1 (by omega) hs (by omega) hb0 h1).mono ?_; rintro e w1 ⟨rfl, hb1, hx1⟩
        rw [ht1] at hb1
        go_wp2_with fail
        refine (digit_no 1 hs l1 (by omega) hb1 h2).mono ?_; rintro e w2 ⟨rfl, hb2, hx2⟩
        have hX := (hx0.trans hx1).trans hx2
        have hv2 := ((hx1.trans hx2).block w.heap.size (lt_of_block hv0) (by omega)).trans hv0
        have q0 := two_cell0 hv2
        have q1 := two_free hv2 0
        have HB : Hid (RB B s t1 x (w2.setCell ⟨w.heap.size, 0, none⟩ (.int .i64 0))) := hb2.set_other (by show w.heap.size ≠ B; omega) _
        have HX : Hid (Ex B w (w2.setCell ⟨w.heap.size, 0, none⟩ (.int .i64 0))) := hX.setCell (.inr (Nat.le_refl _)) _
        clear hb1 hb2 hx1 hx2 hX hv2
        go_wp2
        go_step3
        show ∃ m, JV B s w x t.n t.nr t.at_ (false, t1) 0 m _ _
        exact ⟨0, .inl ⟨rfl, rfl, ⟨rfl, rfl⟩, rfl, HB.out, HX.out⟩⟩
      | some g =>
        simp only [h2] at hp
        have hg := (num_le h2).2
        have l2 : t1.adv.at_ ≤ s.size := num_lt h2
        have n2 : t1.adv.at_ = t1.at_ + 1 := rfl
        generalize ht2 : t1.adv = t2 at *
        have s2 : t2.n = t.n ∧ t2.nr = t.nr := by rw [← ht2, ← ht1]; exact ⟨rfl, rfl⟩
        go_wp2_with fail
        refine (take_yes' (97 + t.n) k1 (by omega) hs (by omega) hb0 h1).mono ?_; rintro e w1 ⟨rfl, hb1, hx1⟩
        rw [ht1] at hb1
        go_wp2_with fail
        refine (digit_yes 1 g hs (by omega) hb1 h2).mono ?_; rintro e w2 ⟨rfl, hb2, hx2⟩
        rw [ht2] at hb2
        have hX := (hx0.trans hx1).trans hx2
        have hv2 := ((hx1.trans hx2).block w.heap.size (lt_of_block hv0) (by omega)).trans hv0
        have q0 := two_cell0 hv2
        have q1 := two_free hv2 0
        have hb3 := hb2.set_other (p := ⟨w.heap.size, 0, none⟩) (by show w.heap.size ≠ B; omega) (.int .i64 (g : Int))
        have hx3 := hX.setCell (p := ⟨w.heap.size, 0, none⟩) (.inr (Nat.le_refl _)) (.int .i64 (g : Int))
        have hv3 := two_setCell0 (y := .int .i64 (g : Int)) hv2
        have HS : Hid (RB B s t2 x (w2.setCell ⟨w.heap.size, 0, none⟩ (.int .i64 (g : Int)))) := hb3
        clear hb1 hb2 hx1 hx2 hX hv2 hb3
        cases h3 : num? s t2.at_ 61 0 0 with
        | none =>
          simp only [h3, Prod.mk.injEq] at hp
          obtain ⟨rfl, rfl⟩ := hp
          go_wp2_with fail
          refine (take_no 61 hs l2 (by omega) HS.out h3).mono ?_; rintro e w4 ⟨rfl, hb4, hx4⟩
          go_wp2
          go_step3
          show ∃ m, JV B s w x t.n t.nr t.at_ (false, t2) 0 m _ _
          exact ⟨0, .inl ⟨rfl, rfl, ⟨rfl, rfl⟩, rfl, hb4, hx3.trans hx4⟩⟩
        | some k3 =>
          simp only [h3] at hp
          have l3 : t2.adv.at_ ≤ s.size := num_lt h3
          have n3 : t2.adv.at_ = t2.at_ + 1 := rfl
          have m3 : t2.adv.n = t2.n ∧ t2.adv.nr = t2.nr := ⟨rfl, rfl⟩
          cases h4 : num? s t2.adv.at_ 48 0 3 with
          | none =>
            simp only [h4, Prod.mk.injEq] at hp
            obtain ⟨rfl, rfl⟩ := hp
            go_wp2_with fail
            refine (take_yes 61 k3 hs (by omega) HS.out h3).mono ?_; rintro e w4 ⟨rfl, hb4, hx4⟩
            go_wp2_with fail
            refine (digit_no 0 hs l3 (by omega) hb4 h4).mono ?_; rintro e w5 ⟨rfl, hb5, hx5⟩
            go_wp2
            go_step3
            show ∃ m, JV B s w x t.n t.nr t.at_ (false, t2.adv) 0 m _ _
            exact ⟨0, .inl ⟨rfl, rfl, ⟨rfl, rfl⟩, rfl, hb5, (hx3.trans hx4).trans hx5⟩⟩
          | some v =>
            simp only [h4, Prod.mk.injEq] at hp
            obtain ⟨rfl, rfl⟩ := hp
            have hv := (num_le h4).2
            have l4 : t2.adv.adv.at_ ≤ s.size := num_lt h4
            go_wp2_with fail
            refine (take_yes 61 k3 hs (by omega) HS.out h3).mono ?_; rintro e w4 ⟨rfl, hb4, hx4⟩
            go_wp2_with fail
            refine (digit_yes 0 v hs (by omega) hb4 h4).mono ?_; rintro e w5 ⟨rfl, hb5, hx5⟩
            have hX := hx4.trans hx5
            have hv5 := (hX.block w.heap.size (lt_of_block hv3) (by omega)).trans hv3
            go_wp2
            apply wp_label
            rename_i hK
            refine hK _ _ (ih 1 _ _ ⟨4, .inr ⟨rfl, v, g, 0, t2.adv.adv, ⟨rfl, rfl, rfl, rfl, rfl⟩, rfl, hv, hg, by omega, by show t.at_ ≤ t2.at_ + 1 + 1; omega, by show 1 ≤ t2.at_ + 1 + 1; omega, l4, s2.1, s2.2, hb5, hx3.trans hX, hv5⟩⟩)
end
end Go.Proofs.YtcnhhclogbjedaaDoor
