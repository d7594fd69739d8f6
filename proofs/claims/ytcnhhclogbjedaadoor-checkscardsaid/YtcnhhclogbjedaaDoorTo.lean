/- The code's reader: what a change makes. Our own text. -/
import Derived.Test.YtcnhhclogbjedaaDoorCond
namespace Go.Proofs.YtcnhhclogbjedaaDoor
open Go.RowKit

def pTo (s : ByteArray) (t : T) : Bool × T :=
  match num? s t.at_ 63 0 0 with
  | some _ => (true, t.adv)
  | none => match pTerm s t with
    | none => (false, t)
    | some t1 => match num? s t1.at_ 43 0 0 with
      | none => (true, t1)
      | some _ => match num? s t1.adv.at_ 48 0 3 with
        | none => (false, t1.adv)
        | some _ => (true, t1.adv.adv)
def pToNil (s : ByteArray) (t : T) : Bool := (num? s t.at_ 63 0 0).isNone && (pTerm s t).isNone
theorem pTo_same {s : ByteArray} {t t' : T} {b : Bool} (h : pTo s t = (b, t')) : t.at_ ≤ t'.at_ ∧ t'.n = t.n ∧ t'.nr = t.nr ∧ t'.chd = t.chd ∧ (t.at_ ≤ s.size → t'.at_ ≤ s.size) := by
  unfold pTo at h; split at h
  · next e => cases h; have := num_lt e; exact ⟨Nat.le_succ _, rfl, rfl, rfl, fun _ => this⟩
  · split at h
    · cases h; exact ⟨Nat.le_refl _, rfl, rfl, rfl, id⟩
    · next t1 e =>
      have l1 := pTerm_lt e
      have s1 := pTerm_same e
      split at h
      · cases h; exact ⟨by omega, s1.2.1, s1.2.2.1, s1.2.2.2, fun _ => l1⟩
      · next e2 =>
        have l2 := num_lt e2
        split at h
        · cases h; exact ⟨by show t.at_ ≤ t1.at_ + 1; omega, s1.2.1, s1.2.2.1, s1.2.2.2, fun _ => l2⟩
        · next e3 =>
          have l3 : t1.at_ + 1 < s.size := num_lt e3
          cases h; exact ⟨by show t.at_ ≤ t1.at_ + 1 + 1; omega, s1.2.1, s1.2.2.1, s1.2.2.2, fun _ => l3⟩

section
variable {B : Nat} {s : ByteArray} {t : T} {x : Junk} {w : World}
set_option maxHeartbeats 400000 in
theorem to_any {b : Bool} {t' : T} (c : Int) (hs : s.size ≤ 120) (hat : t.at_ ≤ s.size) (hb : RB B s t x w) (hp : pTo s t = (b, t')) :
    Calls Tryd.prog 70 #[.pointer (some ⟨B, 0, none⟩), .int .i64 c] w fun e w' => (∃ v, e = .returned (.tuple #[v, .bool b]) ∧ (v = .nilFunc ∧ pToNil s t = true ∨ (∃ f a, v = .func f #[] a) ∧ pToNil s t = false)) ∧ RB B s t' x w' ∧ Ex B w w' := by
  unfold pTo at hp
  have hmf : ∀ (fn : Fn) (first cap : Array Value) (w : World), (Instr.makeFunc fn first cap).run Tryd.prog w = .ok (.func fn first cap) w := fun _ _ _ _ => rfl
  cases h1 : num? s t.at_ 63 0 0 with
  | some k =>
    have hz : pToNil s t = false := by simp [pToNil, h1]
    simp [h1] at hp; obtain ⟨rfl, rfl⟩ := hp
    go_enter Tryd.func70, Tryd.ntmps70
    go_wp2_with fail
    refine (take_yes 63 k hs (by omega) (hb.alloc _) h1).mono ?_; rintro e w1 ⟨rfl, hb1, hx1⟩
    go_wp2
    go_ret2
    exact ⟨⟨_, rfl, .inr ⟨⟨_, _, rfl⟩, hz⟩⟩, hb1, ((Ex.refl B w).alloc _).trans hx1⟩
  | none =>
    cases h2 : pTerm s t with
    | none =>
      have hz : pToNil s t = true := by simp [pToNil, h1, h2]
      simp [h1, h2] at hp; obtain ⟨rfl, rfl⟩ := hp
      go_enter Tryd.func70, Tryd.ntmps70
      go_wp2_with fail
      refine (take_no 63 hs hat (by omega) (hb.alloc _) h1).mono ?_; rintro e w1 ⟨rfl, hb1, hx1⟩
      go_wp2_with fail
      refine (term_no hs hat hb1 h2).mono ?_; rintro e w2 ⟨rfl, hb2, hx2⟩
      go_wp2
      go_ret2
      exact ⟨⟨_, rfl, .inl ⟨rfl, hz⟩⟩, hb2.alloc _, ((((Ex.refl B w).alloc _).trans hx1).trans hx2).alloc _⟩
    | some t1 =>
      have l1 := pTerm_lt h2
      have hz : pToNil s t = false := by simp [pToNil, h2]
      cases h3 : num? s t1.at_ 43 0 0 with
      | none =>
        simp [h1, h2, h3] at hp; obtain ⟨rfl, rfl⟩ := hp
        go_enter Tryd.func70, Tryd.ntmps70
        go_wp2_with fail
        refine (take_no 63 hs hat (by omega) (hb.alloc _) h1).mono ?_; rintro e w1 ⟨rfl, hb1, hx1⟩
        go_wp2_with fail
        refine (term_yes hs hat hb1 h2).mono ?_; rintro e w2 ⟨⟨f2, a2, rfl⟩, hb2, hx2⟩
        go_wp2_with fail
        refine (take_no 43 hs l1 (by omega) ((hb2.alloc _).alloc _) h3).mono ?_; rintro e w3 ⟨rfl, hb3, hx3⟩
        go_wp2
        go_ret2
        exact ⟨⟨_, rfl, .inr ⟨⟨_, _, rfl⟩, hz⟩⟩, hb3, ((((((Ex.refl B w).alloc _).trans hx1).trans hx2).alloc _).alloc _).trans hx3⟩
      | some k3 =>
        have l3 : t1.adv.at_ ≤ s.size := num_lt h3
        cases h4 : num? s t1.adv.at_ 48 0 3 with
        | none =>
          simp [h1, h2, h3, h4] at hp; obtain ⟨rfl, rfl⟩ := hp
          go_enter Tryd.func70, Tryd.ntmps70
          go_wp2_with fail
          refine (take_no 63 hs hat (by omega) (hb.alloc _) h1).mono ?_; rintro e w1 ⟨rfl, hb1, hx1⟩
          go_wp2_with fail
          refine (term_yes hs hat hb1 h2).mono ?_; rintro e w2 ⟨⟨f2, a2, rfl⟩, hb2, hx2⟩
          go_wp2_with fail
          have Z := ((hb2.alloc (.cells #[.func f2 #[] a2] 127)).alloc (.cells #[.int .i64 0] 3))
          refine (take_yes 43 k3 hs (by omega) Z h3).mono ?_; rintro e w3 ⟨rfl, hb3, hx3⟩
          go_wp2_with fail
          refine (digit_no 0 hs l3 (by omega) hb3 h4).mono ?_; rintro e w4 ⟨rfl, hb4, hx4⟩
          have hx := hx3.trans hx4
          have hBlt := hb2.lt
          have hblk : w4.heap[w2.heap.size + 1]? = some (.cells #[.int .i64 0] 3 (0, 0)) := by
            rw [hx.block _ (by simp) (by omega)]
            have := heap_alloc_new (w2.alloc (.cells #[.func f2 #[] a2] 127)) (.cells #[.int .i64 0] 3)
            simpa using this
          have k1 := cell_of_one hblk
          have k2 := free_of_one hblk
          have hblt := lt_of_block hblk
          have HB4 : Hid (RB B s t1.adv x w4) := hb4
          have HX : Hid (Ex B w w4) := ((((((Ex.refl B w).alloc _).trans hx1).trans hx2).alloc _).alloc _).trans hx
          have hle : w.heap.size ≤ w2.heap.size := ((((Ex.refl B w).alloc (.cells #[.int .i64 c] 3)).trans hx1).trans hx2).size
          clear hb1 hb2 hb3 hb4 hx1 hx2 hx3 hx4 hx hblk Z h1 h2 h3 h4
          go_wp2
          go_ret2
          exact ⟨⟨_, rfl, .inr ⟨⟨_, _, rfl⟩, hz⟩⟩, HB4.out.set_other (by show w2.heap.size + 1 ≠ B; omega) _, HX.out.setCell (.inr (by show w.heap.size ≤ w2.heap.size + 1; omega)) _⟩
        | some k4 =>
          simp [h1, h2, h3, h4] at hp; obtain ⟨rfl, rfl⟩ := hp
          go_enter Tryd.func70, Tryd.ntmps70
          go_wp2_with fail
          refine (take_no 63 hs hat (by omega) (hb.alloc _) h1).mono ?_; rintro e w1 ⟨rfl, hb1, hx1⟩
          go_wp2_with fail
          refine (term_yes hs hat hb1 h2).mono ?_; rintro e w2 ⟨⟨f2, a2, rfl⟩, hb2, hx2⟩
          go_wp2_with fail
          have Z := ((hb2.alloc (.cells #[.func f2 #[] a2] 127)).alloc (.cells #[.int .i64 0] 3))
          refine (take_yes 43 k3 hs (by omega) Z h3).mono ?_; rintro e w3 ⟨rfl, hb3, hx3⟩
          go_wp2_with fail
          refine (digit_yes 0 k4 hs (by omega) hb3 h4).mono ?_; rintro e w4 ⟨rfl, hb4, hx4⟩
          have hx := hx3.trans hx4
          have hBlt := hb2.lt
          have hblk : w4.heap[w2.heap.size + 1]? = some (.cells #[.int .i64 0] 3 (0, 0)) := by
            rw [hx.block _ (by simp) (by omega)]
            have := heap_alloc_new (w2.alloc (.cells #[.func f2 #[] a2] 127)) (.cells #[.int .i64 0] 3)
            simpa using this
          have k1 := cell_of_one hblk
          have k2 := free_of_one hblk
          have hblt := lt_of_block hblk
          have HB4 : Hid (RB B s t1.adv.adv x w4) := hb4
          have HX : Hid (Ex B w w4) := ((((((Ex.refl B w).alloc _).trans hx1).trans hx2).alloc _).alloc _).trans hx
          have hle : w.heap.size ≤ w2.heap.size := ((((Ex.refl B w).alloc (.cells #[.int .i64 c] 3)).trans hx1).trans hx2).size
          clear hb1 hb2 hb3 hb4 hx1 hx2 hx3 hx4 hx hblk Z h1 h2 h3 h4
          go_wp2
          go_ret2
          exact ⟨⟨_, rfl, .inr ⟨⟨_, _, rfl⟩, hz⟩⟩, HB4.out.set_other (by show w2.heap.size + 1 ≠ B; omega) _, HX.out.setCell (.inr (by show w.heap.size ≤ w2.heap.size + 1; omega)) _⟩
theorem to_nil {b : Bool} {t' : T} (c : Int) (hs : s.size ≤ 120) (hat : t.at_ ≤ s.size) (hb : RB B s t x w) (hp : pTo s t = (b, t')) (hz : pToNil s t = true) :
    Calls Tryd.prog 70 #[.pointer (some ⟨B, 0, none⟩), .int .i64 c] w fun e w' => e = .returned (.tuple #[.nilFunc, .bool b]) ∧ RB B s t' x w' ∧ Ex B w w' := by
  refine (to_any c hs hat hb hp).mono ?_
  rintro e w' ⟨⟨v, rfl, hv⟩, h⟩
  rcases hv with ⟨rfl, _⟩ | ⟨_, h0⟩
  · exact ⟨rfl, h⟩
  · rw [hz] at h0; cases h0
theorem to_func {b : Bool} {t' : T} (c : Int) (hs : s.size ≤ 120) (hat : t.at_ ≤ s.size) (hb : RB B s t x w) (hp : pTo s t = (b, t')) (hz : pToNil s t = false) :
    Calls Tryd.prog 70 #[.pointer (some ⟨B, 0, none⟩), .int .i64 c] w fun e w' => (∃ f a, e = .returned (.tuple #[.func f #[] a, .bool b])) ∧ RB B s t' x w' ∧ Ex B w w' := by
  refine (to_any c hs hat hb hp).mono ?_
  rintro e w' ⟨⟨v, rfl, hv⟩, h⟩
  rcases hv with ⟨_, h0⟩ | ⟨⟨f, a, rfl⟩, _⟩
  · rw [hz] at h0; cases h0
  · exact ⟨⟨f, a, rfl⟩, h⟩
theorem pToNil_no {b : Bool} {t' : T} (hp : pTo s t = (b, t')) (hz : pToNil s t = true) : b = false ∧ t' = t := by
  unfold pToNil at hz
  cases h1 : num? s t.at_ 63 0 0 with
  | some k => simp [h1] at hz
  | none =>
    cases h2 : pTerm s t with
    | some k => simp [h2] at hz
    | none => simp [pTo, h1, h2] at hp; exact ⟨hp.1, hp.2.symm⟩
end

theorem makeRule_any (a b : Value) (ha : a.oneCell' = true) (hb : b.oneCell' = true) (w : World) :
    Calls Tryd.prog 72 #[a, b] w fun e w' => e = .returned (.func (.func 87) #[] #[.pointer (some ⟨w.heap.size, 0, none⟩), .pointer (some ⟨w.heap.size + 1, 0, none⟩)]) ∧ w' = (w.alloc (.cells #[a] 72)).alloc (.cells #[b] 73) := by
  have hmf : ∀ (fn : Fn) (first cap : Array Value) (w : World), (Instr.makeFunc fn first cap).run Tryd.prog w = .ok (.func fn first cap) w := fun _ _ _ _ => rfl
  go_enter Tryd.func72, Tryd.ntmps72
  go_wp2
  go_ret
  exact ⟨rfl, rfl⟩
end Go.Proofs.YtcnhhclogbjedaaDoor
