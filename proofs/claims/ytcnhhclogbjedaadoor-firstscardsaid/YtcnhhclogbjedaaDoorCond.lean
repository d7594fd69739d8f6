/- The code's reader: a condition. Our own text. -/
import Derived.Test.YtcnhhclogbjedaaDoorTerm
namespace Go.Proofs.YtcnhhclogbjedaaDoor
open Go.RowKit

theorem Tryd.info149 : (Tryd.prog.info? 149).map (fun i => (i.zero, i.size, i.bytes)) = some (some .nilFunc, 1, 8) := by kernel_rfl
theorem Tryd.info150 : (Tryd.prog.info? 150).map (fun i => (i.zero, i.size, i.bytes)) = some (some .nilFunc, 1, 8) := by kernel_rfl
theorem Tryd.info106 : (Tryd.prog.info? 106).map (fun i => (i.zero, i.size, i.bytes)) = some (some .nilFunc, 1, 8) := by kernel_rfl

structure Rows3 (B : Nat) (t : T) (x : Junk) (w : World) : Prop where
  r : ∃ xs, w.ownsRow (B + 1) 106 1 x.vr t.nr xs
  c : ∃ k xs, k ≤ t.at_ ∧ w.ownsRow (B + 1) 149 1 x.vc k xs
  h : ∃ k xs, k ≤ t.at_ ∧ w.ownsRow (B + 1) 150 1 x.vh k xs
theorem Rows3.ex {B : Nat} {t t' : T} {x : Junk} {w w' : World} (h : Rows3 B t x w) (e : Ex B w w') (ha : t.at_ ≤ t'.at_) (hr : t'.nr = t.nr) : Rows3 B t' x w' := by
  obtain ⟨⟨xs, h1⟩, ⟨k, ys, hk, h2⟩, ⟨j, zs, hj, h3⟩⟩ := h
  exact ⟨⟨xs, by rw [hr]; exact e.ownsRow (by omega) h1⟩, ⟨k, ys, by omega, e.ownsRow (by omega) h2⟩, ⟨j, zs, by omega, e.ownsRow (by omega) h3⟩⟩
def Fin (B : Nat) (s : ByteArray) (t : T) (w w' : World) : Prop := ∃ x, RB B s t x w' ∧ Rows3 B t x w' ∧ Below B w w'
theorem Fin.of_ex {B : Nat} {s : ByteArray} {t t' : T} {x : Junk} {w w' : World} (h : Rows3 B t x w) (hb : RB B s t' x w') (e : Ex B w w') (hB : B < w.heap.size) (ha : t.at_ ≤ t'.at_) (hr : t'.nr = t.nr) : Fin B s t' w w' :=
  ⟨x, hb, h.ex e ha hr, e.below (Nat.le_refl _) (by omega)⟩

theorem blame_same (t : T) (f : Nat) : (t.blame f).at_ = t.at_ ∧ (t.blame f).n = t.n ∧ (t.blame f).nr = t.nr ∧ (t.blame f).chd = t.chd := by
  unfold T.blame; split <;> exact ⟨rfl, rfl, rfl, rfl⟩
theorem named_same (t : T) (k : Nat) : (t.named k).at_ = t.at_ + 1 ∧ (t.named k).n = t.n ∧ (t.named k).nr = t.nr ∧ (t.named k).chd = t.chd := by
  unfold T.named; split
  · exact blame_same _ _
  · exact ⟨rfl, rfl, rfl, rfl⟩
theorem pTerm_same {s : ByteArray} {t t' : T} (h : pTerm s t = some t') : t'.at_ = t.at_ + 1 ∧ t'.n = t.n ∧ t'.nr = t.nr ∧ t'.chd = t.chd := by
  unfold pTerm at h; split at h
  · cases h; exact ⟨rfl, rfl, rfl, rfl⟩
  · split at h
    · cases h; exact named_same _ _
    · cases h
theorem pTerm_lt {s : ByteArray} {t t' : T} (h : pTerm s t = some t') : t'.at_ ≤ s.size := by
  have := (pTerm_same h).1
  unfold pTerm at h; split at h
  · next e => have := num_lt e; omega
  · split at h
    · next e => have := num_lt e; omega
    · cases h
theorem pCmp_same {s : ByteArray} {t t' : T} (h : pCmp s t = some t') : t' = t.adv ∧ t.at_ < s.size := by
  unfold pCmp at h; split at h
  · next e => cases h; exact ⟨rfl, num_lt e⟩
  · split at h
    · next e => cases h; exact ⟨rfl, num_lt e⟩
    · split at h
      · next e => cases h; exact ⟨rfl, num_lt e⟩
      · cases h
def pCond (s : ByteArray) (t : T) : Bool × T :=
  match pTerm s t with
  | none => (false, t)
  | some t1 => match pCmp s t1 with
    | none => (false, t1)
    | some t2 => match pTerm s t2 with
      | none => (false, t2)
      | some t3 => (true, t3)

theorem cell_one_next (w : World) (o : Obj) (v : Value) (t : TypeId) : ∀ j u, [v][j]? = some u → ((w.alloc o).alloc (.cells #[v] t)).cell? ((⟨w.heap.size + 1, 0, none⟩ : Addr).add j) = some u := by
  have := cell_one_new (w.alloc o) v t
  simpa using this
theorem owned_form {w : World} {b e z n : Nat} {v : Value} {xs : List Value} (h : w.ownsRow b e z v n xs) (hn : 0 < n) : ∃ g cap, v = .slice (some ⟨g, 0, none⟩) n cap := by
  rcases h.2 with ⟨_, h0⟩ | ⟨g, cap, _, hv, _⟩
  · omega
  · exact ⟨g, cap, hv⟩
theorem func_oneCell (f : Fn) (a b : Array Value) : ∀ u ∈ [Value.func f a b], u.oneCell' = true := by
  intro u hu; simp at hu; subst hu; rfl
theorem ownBlock_ne {w : World} {B e z n : Nat} {v : Value} {xs : List Value} (h : w.ownsRow (B + 1) e z v n xs) : v.ownBlock ≠ some B := by
  intro e'; have := (h.lt B e').1; omega
theorem ownBlock_ge {w : World} {B e z n : Nat} {v : Value} {xs : List Value} (h : w.ownsRow (B + 1) e z v n xs) : ∀ k, v.ownBlock = some k → B ≤ k := by
  intro k hk; have := (h.lt k hk).1; omega

section
variable {B : Nat} {s : ByteArray} {t : T} {x : Junk} {w : World}
set_option maxHeartbeats 400000 in
theorem cond_any {b : Bool} {t' : T} (hs : s.size ≤ 120) (hat : t.at_ ≤ s.size) (hb : RB B s t x w) (hR : Rows3 B t x w) (hp : pCond s t = (b, t')) :
    Calls Tryd.prog 45 #[.pointer (some ⟨B, 0, none⟩)] w fun e w' => e = .returned (.bool b) ∧ Fin B s t' w w' := by
  unfold pCond at hp
  have hB := hb.lt
  cases h1 : pTerm s t with
  | none =>
    simp [h1] at hp; obtain ⟨rfl, rfl⟩ := hp
    go_enter Tryd.func45, Tryd.ntmps45
    go_wp2_with fail
    refine (term_no hs hat hb h1).mono ?_; rintro e w1 ⟨rfl, hb1, hx1⟩
    go_wp2
    go_ret
    exact ⟨rfl, Fin.of_ex hR (hb1.alloc _) (hx1.alloc _) hB (Nat.le_refl _) rfl⟩
  | some t1 =>
    have s1 := pTerm_same h1
    have l1 := pTerm_lt h1
    cases h2 : pCmp s t1 with
    | none =>
      simp [h1, h2] at hp; obtain ⟨rfl, rfl⟩ := hp
      go_enter Tryd.func45, Tryd.ntmps45
      go_wp2_with fail
      refine (term_yes hs hat hb h1).mono ?_; rintro e w1 ⟨⟨f1, a1, rfl⟩, hb1, hx1⟩
      go_wp2_with fail
      refine (cmp_no hs l1 (hb1.alloc _) h2).mono ?_; rintro e w2 ⟨⟨v2, rfl, hv2⟩, hb2, hx2⟩
      subst hv2
      go_wp2
      go_ret
      exact ⟨rfl, Fin.of_ex hR (hb2.alloc _) (((hx1.alloc _).trans hx2).alloc _) hB (by omega) (by omega)⟩
    | some t2 =>
      obtain ⟨rfl, l2⟩ := pCmp_same h2
      have l2' : t1.adv.at_ ≤ s.size := l2
      have s2 : t1.adv.at_ = t1.at_ + 1 ∧ t1.adv.nr = t1.nr := ⟨rfl, rfl⟩
      cases h3 : pTerm s t1.adv with
      | none =>
        simp [h1, h2, h3] at hp; obtain ⟨rfl, rfl⟩ := hp
        go_enter Tryd.func45, Tryd.ntmps45
        go_wp2_with fail
        refine (term_yes hs hat hb h1).mono ?_; rintro e w1 ⟨⟨f1, a1, rfl⟩, hb1, hx1⟩
        go_wp2_with fail
        refine (cmp_yes hs l1 (hb1.alloc _) h2).mono ?_; rintro e w2 ⟨⟨f2, a2, rfl⟩, hb2, hx2⟩
        go_wp2_with fail
        refine (term_no hs l2' (hb2.alloc _) h3).mono ?_; rintro e w3 ⟨rfl, hb3, hx3⟩
        go_wp2
        go_ret
        exact ⟨rfl, Fin.of_ex hR (hb3.alloc _) (((((hx1.alloc _).trans hx2).alloc _).trans hx3).alloc _) hB (by omega) (by omega)⟩
      | some t3 =>
        simp [h1, h2, h3] at hp; obtain ⟨rfl, rfl⟩ := hp
        have s3 := pTerm_same h3
        obtain ⟨⟨xs, hr⟩, ⟨k, ys, hk, hc⟩, ⟨j, zs, hj, hh⟩⟩ := hR
        have hmf : ∀ (fn : Fn) (first cap : Array Value) (w : World), (Instr.makeFunc fn first cap).run Tryd.prog w = .ok (.func fn first cap) w := fun _ _ _ _ => rfl
        obtain ⟨i0, hi, hz0, hz1, hz2⟩ := info_parts Tryd.info149
        go_enter Tryd.func45, Tryd.ntmps45
        go_wp2_with fail
        refine (term_yes hs hat hb h1).mono ?_; rintro e w1 ⟨⟨f1, a1, rfl⟩, hb1, hx1⟩
        go_wp2_with fail
        refine (cmp_yes hs l1 (hb1.alloc _) h2).mono ?_; rintro e w2 ⟨⟨f2, a2, rfl⟩, hb2, hx2⟩
        go_wp2_with fail
        refine (term_yes hs l2' (hb2.alloc _) h3).mono ?_; rintro e w3 ⟨⟨f3, a3, rfl⟩, hb3, hx3⟩
        have X := (((hx1.alloc (.cells #[.func f1 #[] a1] 127)).trans hx2).alloc (.cells #[.func f2 #[] a2] 130)).trans hx3
        have B3 := hb3.lt
        have HC : Hid (w3.ownsRow (B + 1) 149 1 x.vc k ys) := X.ownsRow (Nat.lt_succ_self _) hc
        have HR : Hid (w3.ownsRow (B + 1) 106 1 x.vr t.nr xs) := X.ownsRow (Nat.lt_succ_self _) hr
        have HH : Hid (w3.ownsRow (B + 1) 150 1 x.vh j zs) := X.ownsRow (Nat.lt_succ_self _) hh
        have HX : Hid (Ex B w w3) := X
        have HB3 : Hid (RB B s t3 x w3) := hb3
        have HA : Hid (t3.at_ = t.at_ + 3 ∧ t3.nr = t.nr) := by show _ ∧ _; omega
        clear hx1 hx2 hx3 hb1 hb2 s1 s2 s3 l1 l2 l2' h1 h2 h3 hc X hr hh hb hb3
        have c10 : w3.cell? ⟨B, 10, none⟩ = some x.vc := HB3.out.c10
        go_wp2_with (at_builtin; refine wpList_append_own _ rfl _ _ 72 rfl (B + 1) 149 i0 .nilFunc 1 8 Tryd.underlying72 hi hz0 hz1 hz2 rfl Nat.one_pos _ _ _ rfl ((HC.out.alloc _).alloc _) ⟨w3.heap.size + 1, 0, none⟩ 1 1 [.func (.func 66) #[] #[.pointer (some ⟨w2.heap.size, 0, none⟩), .pointer (some ⟨w1.heap.size, 0, none⟩), .pointer (some ⟨w3.heap.size, 0, none⟩)]] rfl rfl ?c1 ?c2 ?c3 ?c4 ?c5 ?_)
        case c1 => exact cell_one_next _ _ _ _
        case c2 => exact func_oneCell _ _ _
        case c3 => unfold maxLen; omega
        case c4 => omega
        case c5 => simp; omega
        intro v' w5 hown' hgrow _
        obtain ⟨g5, cap5, hv5⟩ := owned_form hown' (by omega)
        subst hv5
        have hb5 : RB B s t3 x w5 := ((HB3.out.alloc _).alloc _).grown hgrow (ownBlock_ne HC.out)
        have d10 := hb5.c10
        have f10 := hb5.free 10
        have FB : Hid (RB B s t3 { x with vc := .slice (some ⟨g5, 0, none⟩) (k + 1) cap5 } (w5.setCell ⟨B, 10, none⟩ (.slice (some ⟨g5, 0, none⟩) (k + 1) cap5))) := hb5.set10 (.slice (some ⟨g5, 0, none⟩) (k + 1) cap5)
        have FR := ownsRow_setCell_below (((HR.out.alloc _).alloc _).kept hgrow (apart_of_types HR.out HC.out (by omega))) (a := ⟨B, 10, none⟩) (Nat.lt_succ_self B) (.slice (some ⟨g5, 0, none⟩) (k + 1) cap5)
        have FH := ownsRow_setCell_below (((HH.out.alloc _).alloc _).kept hgrow (apart_of_types HH.out HC.out (by omega))) (a := ⟨B, 10, none⟩) (Nat.lt_succ_self B) (.slice (some ⟨g5, 0, none⟩) (k + 1) cap5)
        have FC := ownsRow_setCell_below hown' (a := ⟨B, 10, none⟩) (Nat.lt_succ_self B) (.slice (some ⟨g5, 0, none⟩) (k + 1) cap5)
        have FL : Below B w (w5.setCell ⟨B, 10, none⟩ (.slice (some ⟨g5, 0, none⟩) (k + 1) cap5)) := ((((HX.out.alloc _).alloc _).below (Nat.le_refl _) (by omega)).grown hgrow (by simp; omega) (ownBlock_ge HC.out)).setCell (Nat.le_refl _) (.slice (some ⟨g5, 0, none⟩) (k + 1) cap5)
        have hA := HA.out
        have FIN : Hid (Fin B s t3 w (w5.setCell ⟨B, 10, none⟩ (.slice (some ⟨g5, 0, none⟩) (k + 1) cap5))) :=
          ⟨_, FB.out, ⟨⟨_, by rw [hA.2]; exact FR⟩, ⟨k + 1, _, by omega, FC⟩, ⟨j, _, by omega, FH⟩⟩, FL⟩
        clear FB FR FH FC FL hA hb5 hown' hgrow
        go_wp2
        go_ret
        exact ⟨rfl, FIN.out⟩
end
end Go.Proofs.YtcnhhclogbjedaaDoor

namespace Go.Proofs.YtcnhhclogbjedaaDoor
open Go.RowKit

def pTo (s : ByteArray) (t : T) : Bool × T :=
  match num? s t.at_ 63 0 0 with
  | some _ => (true, t.adv)
  | none => match pTerm s t with
    | none => (false, t)
    | some t1 => match num? s t1.at_ 43 0 0 with
      | none => (true, t1)
      | some _ => match num? s t1.adv.at_ 48 0 3 with
        | none => (false, t1.adv)
        | some _ => (true, t1.adv.adv)
def pToNil (s : ByteArray) (t : T) : Bool := (num? s t.at_ 63 0 0).isNone && (pTerm s t).isNone
theorem pTo_same {s : ByteArray} {t t' : T} {b : Bool} (h : pTo s t = (b, t')) : t.at_ ≤ t'.at_ ∧ t'.n = t.n ∧ t'.nr = t.nr ∧ t'.chd = t.chd ∧ (t.at_ ≤ s.size → t'.at_ ≤ s.size) := by
  unfold pTo at h; split at h
  · next e => cases h; have := num_lt e; exact ⟨Nat.le_succ _, rfl, rfl, rfl, fun _ => this⟩
  · split at h
    · cases h; exact ⟨Nat.le_refl _, rfl, rfl, rfl, id⟩
    · next t1 e =>
      have l1 := pTerm_lt e
      have s1 := pTerm_same e
      split at h
      · cases h; exact ⟨by omega, s1.2.1, s1.2.2.1, s1.2.2.2, fun _ => l1⟩
      · next e2 =>
        have l2 := num_lt e2
        split at h
        · cases h; exact ⟨by show t.at_ ≤ t1.at_ + 1; omega, s1.2.1, s1.2.2.1, s1.2.2.2, fun _ => l2⟩
        · next e3 =>
          have l3 : t1.at_ + 1 < s.size := num_lt e3
          cases h; exact ⟨by show t.at_ ≤ t1.at_ + 1 + 1; omega, s1.2.1, s1.2.2.1, s1.2.2.2, fun _ => l3⟩

section
variable {B : Nat} {s : ByteArray} {t : T} {x : Junk} {w : World}
set_option maxHeartbeats 400000 in
theorem to_any {b : Bool} {t' : T} (c : Int) (hs : s.size ≤ 120) (hat : t.at_ ≤ s.size) (hb : RB B s t x w) (hp : pTo s t = (b, t')) :
    Calls Tryd.prog 70 #[.pointer (some ⟨B, 0, none⟩), .int .i64 c] w fun e w' => (∃ v, e = .returned (.tuple #[v, .bool b]) ∧ (v = .nilFunc ∧ pToNil s t = true ∨ (∃ f a, v = .func f #[] a) ∧ pToNil s t = false)) ∧ RB B s t' x w' ∧ Ex B w w' := by
  unfold pTo at hp
  have hmf : ∀ (fn : Fn) (first cap : Array Value) (w : World), (Instr.makeFunc fn first cap).run Tryd.prog w = .ok (.func fn first cap) w := fun _ _ _ _ => rfl
  cases h1 : num? s t.at_ 63 0 0 with
  | some k =>
    have hz : pToNil s t = false := by simp [pToNil, h1]
    simp [h1] at hp; obtain ⟨rfl, rfl⟩ := hp
    go_enter Tryd.func70, Tryd.ntmps70
    go_wp2_with fail
    refine (take_yes 63 k hs (by omega) (hb.alloc _) h1).mono ?_; rintro e w1 ⟨rfl, hb1, hx1⟩
    go_wp2
    go_ret2
    exact ⟨⟨_, rfl, .inr ⟨⟨_, _, rfl⟩, hz⟩⟩, hb1, ((Ex.refl B w).alloc _).trans hx1⟩
  | none =>
    cases h2 : pTerm s t with
    | none =>
      have hz : pToNil s t = true := by simp [pToNil, h1, h2]
      simp [h1, h2] at hp; obtain ⟨rfl, rfl⟩ := hp
      go_enter Tryd.func70, Tryd.ntmps70
      go_wp2_with fail
      refine (take_no 63 hs hat (by omega) (hb.alloc _) h1).mono ?_; rintro e w1 ⟨rfl, hb1, hx1⟩
      go_wp2_with fail
      refine (term_no hs hat hb1 h2).mono ?_; rintro e w2 ⟨rfl, hb2, hx2⟩
      go_wp2
      go_ret2
      exact ⟨⟨_, rfl, .inl ⟨rfl, hz⟩⟩, hb2.alloc _, ((((Ex.refl B w).alloc _).trans hx1).trans hx2).alloc _⟩
    | some t1 =>
      have l1 := pTerm_lt h2
      have hz : pToNil s t = false := by simp [pToNil, h2]
      cases h3 : num? s t1.at_ 43 0 0 with
      | none =>
        simp [h1, h2, h3] at hp; obtain ⟨rfl, rfl⟩ := hp
        go_enter Tryd.func70, Tryd.ntmps70
        go_wp2_with fail
        refine (take_no 63 hs hat (by omega) (hb.alloc _) h1).mono ?_; rintro e w1 ⟨rfl, hb1, hx1⟩
        go_wp2_with fail
        refine (term_yes hs hat hb1 h2).mono ?_; rintro e w2 ⟨⟨f2, a2, rfl⟩, hb2, hx2⟩
        go_wp2_with fail
        refine (take_no 43 hs l1 (by omega) ((hb2.alloc _).alloc _) h3).mono ?_; rintro e w3 ⟨rfl, hb3, hx3⟩
        go_wp2
        go_ret2
        exact ⟨⟨_, rfl, .inr ⟨⟨_, _, rfl⟩, hz⟩⟩, hb3, ((((((Ex.refl B w).alloc _).trans hx1).trans hx2).alloc _).alloc _).trans hx3⟩
      | some k3 =>
        have l3 : t1.adv.at_ ≤ s.size := num_lt h3
        cases h4 : num? s t1.adv.at_ 48 0 3 with
        | none =>
          simp [h1, h2, h3, h4] at hp; obtain ⟨rfl, rfl⟩ := hp
          go_enter Tryd.func70, Tryd.ntmps70
          go_wp2_with fail
          refine (take_no 63 hs hat (by omega) (hb.alloc _) h1).mono ?_; rintro e w1 ⟨rfl, hb1, hx1⟩
          go_wp2_with fail
          refine (term_yes hs hat hb1 h2).mono ?_; rintro e w2 ⟨⟨f2, a2, rfl⟩, hb2, hx2⟩
          go_wp2_with fail
          have Z := ((hb2.alloc (.cells #[.func f2 #[] a2] 127)).alloc (.cells #[.int .i64 0] 3))
          refine (take_yes 43 k3 hs (by omega) Z h3).mono ?_; rintro e w3 ⟨rfl, hb3, hx3⟩
          go_wp2_with fail
          refine (digit_no 0 hs l3 (by omega) hb3 h4).mono ?_; rintro e w4 ⟨rfl, hb4, hx4⟩
          have hx := hx3.trans hx4
          have hBlt := hb2.lt
          have hblk : w4.heap[w2.heap.size + 1]? = some (.cells #[.int .i64 0] 3 (0, 0)) := by
            rw [hx.block _ (by simp) (by omega)]
            have := heap_alloc_new (w2.alloc (.cells #[.func f2 #[] a2] 127)) (.cells #[.int .i64 0] 3)
            simpa using this
          have k1 := cell_of_one hblk
          have k2 := free_of_one hblk
          have hblt := lt_of_block hblk
          have HB4 : Hid (RB B s t1.adv x w4) := hb4
          have HX : Hid (Ex B w w4) := ((((((Ex.refl B w).alloc _).trans hx1).trans hx2).alloc _).alloc _).trans hx
          have hle : w.heap.size ≤ w2.heap.size := ((((Ex.refl B w).alloc (.cells #[.int .i64 c] 3)).trans hx1).trans hx2).size
          clear hb1 hb2 hb3 hb4 hx1 hx2 hx3 hx4 hx hblk Z h1 h2 h3 h4
          go_wp2
          go_ret2
          exact ⟨⟨_, rfl, .inr ⟨⟨_, _, rfl⟩, hz⟩⟩, HB4.out.set_other (by show w2.heap.size + 1 ≠ B; omega) _, HX.out.setCell (.inr (by show w.heap.size ≤ w2.heap.size + 1; omega)) _⟩
        | some k4 =>
          simp [h1, h2, h3, h4] at hp; obtain ⟨rfl, rfl⟩ := hp
          go_enter Tryd.func70, Tryd.ntmps70
          go_wp2_with fail
          refine (take_no 63 hs hat (by omega) (hb.alloc _) h1).mono ?_; rintro e w1 ⟨rfl, hb1, hx1⟩
          go_wp2_with fail
          refine (term_yes hs hat hb1 h2).mono ?_; rintro e w2 ⟨⟨f2, a2, rfl⟩, hb2, hx2⟩
          go_wp2_with fail
          have Z := ((hb2.alloc (.cells #[.func f2 #[] a2] 127)).alloc (.cells #[.int .i64 0] 3))
          refine (take_yes 43 k3 hs (by omega) Z h3).mono ?_; rintro e w3 ⟨rfl, hb3, hx3⟩
          go_wp2_with fail
          refine (digit_yes 0 k4 hs (by omega) hb3 h4).mono ?_; rintro e w4 ⟨rfl, hb4, hx4⟩
          have hx := hx3.trans hx4
          have hBlt := hb2.lt
          have hblk : w4.heap[w2.heap.size + 1]? = some (.cells #[.int .i64 0] 3 (0, 0)) := by
            rw [hx.block _ (by simp) (by omega)]
            have := heap_alloc_new (w2.alloc (.cells #[.func f2 #[] a2] 127)) (.cells #[.int .i64 0] 3)
            simpa using this
          have k1 := cell_of_one hblk
          have k2 := free_of_one hblk
          have hblt := lt_of_block hblk
          have HB4 : Hid (RB B s t1.adv.adv x w4) := hb4
          have HX : Hid (Ex B w w4) := ((((((Ex.refl B w).alloc _).trans hx1).trans hx2).alloc _).alloc _).trans hx
          have hle : w.heap.size ≤ w2.heap.size := ((((Ex.refl B w).alloc (.cells #[.int .i64 c] 3)).trans hx1).trans hx2).size
          clear hb1 hb2 hb3 hb4 hx1 hx2 hx3 hx4 hx hblk Z h1 h2 h3 h4
          go_wp2
          go_ret2
          exact ⟨⟨_, rfl, .inr ⟨⟨_, _, rfl⟩, hz⟩⟩, HB4.out.set_other (by show w2.heap.size + 1 ≠ B; omega) _, HX.out.setCell (.inr (by show w.heap.size ≤ w2.heap.size + 1; omega)) _⟩
theorem to_nil {b : Bool} {t' : T} (c : Int) (hs : s.size ≤ 120) (hat : t.at_ ≤ s.size) (hb : RB B s t x w) (hp : pTo s t = (b, t')) (hz : pToNil s t = true) :
    Calls Tryd.prog 70 #[.pointer (some ⟨B, 0, none⟩), .int .i64 c] w fun e w' => e = .returned (.tuple #[.nilFunc, .bool b]) ∧ RB B s t' x w' ∧ Ex B w w' := by
  refine (to_any c hs hat hb hp).mono ?_
  rintro e w' ⟨⟨v, rfl, hv⟩, h⟩
  rcases hv with ⟨rfl, _⟩ | ⟨_, h0⟩
  · exact ⟨rfl, h⟩
  · rw [hz] at h0; cases h0
theorem to_func {b : Bool} {t' : T} (c : Int) (hs : s.size ≤ 120) (hat : t.at_ ≤ s.size) (hb : RB B s t x w) (hp : pTo s t = (b, t')) (hz : pToNil s t = false) :
    Calls Tryd.prog 70 #[.pointer (some ⟨B, 0, none⟩), .int .i64 c] w fun e w' => (∃ f a, e = .returned (.tuple #[.func f #[] a, .bool b])) ∧ RB B s t' x w' ∧ Ex B w w' := by
  refine (to_any c hs hat hb hp).mono ?_
  rintro e w' ⟨⟨v, rfl, hv⟩, h⟩
  rcases hv with ⟨_, h0⟩ | ⟨⟨f, a, rfl⟩, _⟩
  · rw [hz] at h0; cases h0
  · exact ⟨⟨f, a, rfl⟩, h⟩
theorem pToNil_no {b : Bool} {t' : T} (hp : pTo s t = (b, t')) (hz : pToNil s t = true) : b = false ∧ t' = t := by
  unfold pToNil at hz
  cases h1 : num? s t.at_ 63 0 0 with
  | some k => simp [h1] at hz
  | none =>
    cases h2 : pTerm s t with
    | some k => simp [h2] at hz
    | none => simp [pTo, h1, h2] at hp; exact ⟨hp.1, hp.2.symm⟩
end

theorem makeRule_any (a b : Value) (ha : a.oneCell' = true) (hb : b.oneCell' = true) (w : World) :
    Calls Tryd.prog 72 #[a, b] w fun e w' => e = .returned (.func (.func 87) #[] #[.pointer (some ⟨w.heap.size, 0, none⟩), .pointer (some ⟨w.heap.size + 1, 0, none⟩)]) ∧ w' = (w.alloc (.cells #[a] 72)).alloc (.cells #[b] 73) := by
  have hmf : ∀ (fn : Fn) (first cap : Array Value) (w : World), (Instr.makeFunc fn first cap).run Tryd.prog w = .ok (.func fn first cap) w := fun _ _ _ _ => rfl
  go_enter Tryd.func72, Tryd.ntmps72
  go_wp2
  go_ret
  exact ⟨rfl, rfl⟩
end Go.Proofs.YtcnhhclogbjedaaDoor
