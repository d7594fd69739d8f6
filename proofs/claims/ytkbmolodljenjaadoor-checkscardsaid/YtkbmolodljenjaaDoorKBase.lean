/- What stays while texts are read, and what function values mean. Our own text. -/
import Derived.Test.YtkbmolodljenjaaDoorEqF
import Derived.Test.YtkbmolodljenjaaDoorMNext
import Derived.Test.YtkbmolodljenjaaDoorMSpread
namespace Go.Proofs.YtkbmolodljenjaaDoor
open Go.RowKit Go.Lib

/-- Types of blocks that may change whenever: readers, machines, what else is written. -/
def soft (t : TypeId) : Bool := [91, 84, 120].contains t
/-- Types of rows that grow from some block on. -/
def grows (t : TypeId) : Bool := [144, 167].contains t
/-- Blocks stay, but for these: of the growing rows the ones below N. -/
structure Kp (N : Nat) (w w' : World) : Prop where
  size : w.heap.size ≤ w'.heap.size
  keep : ∀ k cs (t : TypeId) fz, w.heap[k]? = some (.cells cs t fz) → cs ≠ #[Value.nilFunc] → soft t = false → (grows t = true → k < N) → w'.heap[k]? = w.heap[k]?
theorem Kp.refl (N : Nat) (w : World) : Kp N w w := ⟨Nat.le_refl _, fun _ _ _ _ _ _ _ _ => rfl⟩
theorem Kp.trans {N : Nat} {a b c : World} (h : Kp N a b) (k : Kp N b c) : Kp N a c :=
  ⟨Nat.le_trans h.size k.size, fun i cs t fz hc hn h1 h2 => (k.keep i cs t fz ((h.keep i cs t fz hc hn h1 h2).trans hc) hn h1 h2).trans (h.keep i cs t fz hc hn h1 h2)⟩
theorem Kp.mono {N M : Nat} {a b : World} (h : Kp N a b) (hm : M ≤ N) : Kp M a b :=
  ⟨h.size, fun i cs t fz hc hn h1 h2 => h.keep i cs t fz hc hn h1 (fun e => Nat.lt_of_lt_of_le (h2 e) hm)⟩
theorem Kp.of_below {N : Nat} {w w' : World} (h : Below w.heap.size w w') : Kp N w w' :=
  ⟨h.size, fun k _ _ _ hc _ _ _ => h.block k (lt_of_block hc)⟩
theorem Kp.of_ex {N B : Nat} {w w' : World} {cs : Array Value} {ty : TypeId} {fz : Nat × Nat} (h : Ex B w w') (hB : w.heap[B]? = some (.cells cs ty fz)) (hs : soft ty = true) : Kp N w w' :=
  ⟨h.size, fun k cs' t fz' hc _ h1 _ => h.block k (lt_of_block hc) (fun e => by subst e; rw [hB] at hc; simp at hc; obtain ⟨_, rfl, _⟩ := hc; rw [hs] at h1; cases h1)⟩
theorem Kp.alloc (N : Nat) (w : World) (o : Obj) : Kp N w (w.alloc o) := Kp.of_below ((Below.refl _ _).alloc (Nat.le_refl _) _)
/-- A row of function values that grows: it lies at or beyond N. -/
theorem Kp.grown {N : Nat} {w w' : World} {e size n base : Nat} {v : Value} {xs : List Value} (ho : w.ownsRow base e size v n xs) (he : soft e = true ∨ (grows e = true ∧ N ≤ base)) (g : w.grownBy w' v.ownBlock) : Kp N w w' := by
  refine ⟨g.size, fun k cs t fz hc _ h1 h2 => g.block k (lt_of_block hc) (fun e' => ?_)⟩
  rcases ho.2 with ⟨rfl, _⟩ | ⟨g', cap, cur, rfl, hb, hg, _⟩
  · simp [Value.ownBlock] at e'
  · obtain rfl : k = g' := by simpa [Value.ownBlock] using e'
    rw [hg] at hc
    simp at hc
    obtain ⟨_, rfl, _⟩ := hc
    rcases he with he | ⟨he, hN⟩
    · rw [he] at h1; cases h1
    · have := h2 he; omega
/-- A store into a block of a soft type. -/
theorem Kp.softSet {N : Nat} {w : World} {cs : Array Value} {ty : TypeId} {fz : Nat × Nat} {p : Addr} (hB : w.heap[p.block]? = some (.cells cs ty fz)) (hs : soft ty = true) (v : Value) : Kp N w (w.setCell p v) :=
  Kp.of_ex (B := p.block) ((Ex.refl p.block w).setCell (.inl rfl) v) hB hs

/-- A function value on a state. -/
def FnK (N : Nat) (w : World) (v : Value) (R : Nat → Value) : Prop :=
  ∃ (fn : Nat) (caps : Array Value), v = .func (.func fn) #[] caps ∧ (∀ args w, (callFunc fn args).run Tryd.prog w = .ok (.enter fn args) w) ∧
    ∀ W, Kp N w W → 0 < W.heap.size → Tab W → ∀ x, x < 64 → Calls Tryd.prog fn (#[.int .u8 (x : Nat)] ++ caps) W fun e W' => e = .returned (R x) ∧ Below W.heap.size W W'
theorem FnK.kp {N : Nat} {w w' : World} {v : Value} {R : Nat → Value} (h : FnK N w v R) (k : Kp N w w') : FnK N w' v R := by
  obtain ⟨fn, caps, h1, h2, h3⟩ := h
  exact ⟨fn, caps, h1, h2, fun W hW => h3 W (k.trans hW)⟩
theorem FnK.up {N N' : Nat} {w w' : World} {v : Value} {R : Nat → Value} (h : FnK N w v R) (k : Kp N w w') (hn : N ≤ N') : FnK N' w' v R := by
  obtain ⟨fn, caps, h1, h2, h3⟩ := h
  exact ⟨fn, caps, h1, h2, fun W hW => h3 W (k.trans (hW.mono hn))⟩
/-- One on a state and a set of states. -/
def FnK2 (w : World) (v : Value) (R : Nat → Nat → Value) : Prop :=
  ∃ (fn : Nat) (caps : Array Value), v = .func (.func fn) #[] caps ∧ (∀ args w, (callFunc fn args).run Tryd.prog w = .ok (.enter fn args) w) ∧
    ∀ W, Kp 0 w W → 0 < W.heap.size → Tab W → ∀ x m, x < 64 → m < 18446744073709551616 → Calls Tryd.prog fn (#[.int .u8 (x : Nat), .int .u64 (m : Nat)] ++ caps) W fun e W' => e = .returned (R x m) ∧ Below W.heap.size W W'
theorem FnK2.kp {w w' : World} {v : Value} {R : Nat → Nat → Value} (h : FnK2 w v R) (k : Kp 0 w w') : FnK2 w' v R := by
  obtain ⟨fn, caps, h1, h2, h3⟩ := h
  exact ⟨fn, caps, h1, h2, fun W hW => h3 W (k.trans hW)⟩
/-- A box of another type than those stays. -/
theorem Kp.box {N b : Nat} {w W : World} {v : Value} {t : TypeId} (h : Kp N w W) (hb : w.heap[b]? = some (.cells #[v] t (0, 0))) (h1 : soft t = false := by decide) (h2 : grows t = false := by decide) (hv : v ≠ .nilFunc := by simp) : W.heap[b]? = some (.cells #[v] t (0, 0)) :=
  (h.keep b _ t _ hb (by simpa using hv) h1 (fun e => by rw [h2] at e; cases e)).trans hb
theorem box_cell {b : Nat} {W : World} {v : Value} {t : TypeId} (h : W.heap[b]? = some (.cells #[v] t (0, 0))) : W.cell? ⟨b, 0, none⟩ = some v := by simp [World.cell?, h]
/-- A box that was empty is filled. -/
theorem Kp.fill {N b : Nat} {w : World} {t : TypeId} (v : Value) (h : w.heap[b]? = some (.cells #[Value.nilFunc] t (0, 0))) : Kp N w (w.setCell ⟨b, 0, none⟩ v) := by
  refine ⟨by simp, fun k cs t' fz hc hn _ _ => heap_setCell_other _ _ _ _ (fun e => ?_)⟩
  have e' : k = b := e
  subst e'
  rw [h] at hc
  simp at hc
  exact hn hc.1.symm
/-- A row of function values that lies below N stays. -/
theorem Kp.row {N base e n : Nat} {w W : World} {v : Value} {xs : List Value} (h : Kp N w W) (he : soft e = false) (ho : w.ownsRow base e 1 v n xs) (hN : w.heap.size ≤ N) (h0 : ∃ f a, xs[0]? = some (.func f #[] a)) : W.ownsRow base e 1 v n xs := by
  refine ⟨ho.1, ?_⟩
  rcases ho.2 with hn | ⟨g, cap, cur, rfl, hb, hg, r1, r2, r3, r4⟩
  · exact .inl hn
  · refine .inr ⟨g, cap, cur, rfl, hb, (h.keep g cur e _ hg ?_ he (fun _ => Nat.lt_of_lt_of_le (lt_of_block hg) hN)).trans hg, r1, r2, r3, r4⟩
    rintro rfl
    obtain ⟨f, a, hx⟩ := h0
    rw [← r4, List.getElem?_take] at hx
    split at hx
    · simp at hx
    · cases hx

/-- The term that stands at a place. -/
def tmOf (s : ByteArray) (p : Nat) : Tm := match num? s p 97 0 2 with
  | some k => ((k : Int), 0, (p : Int))
  | none => match num? s p 48 0 3 with
    | some k => (-1, (k : Int), (p : Int))
    | none => (0, 0, 0)
theorem num_disj' {s : ByteArray} {p k : Nat} (h : num? s p 97 0 2 = some k) : num? s p 48 0 3 = none := by
  unfold num? at *
  split
  · next hl => rw [dif_pos hl] at h; split at h
               · rw [if_neg (by omega)]
               · cases h
  · rfl
theorem num_disj {s : ByteArray} {p k : Nat} (h : num? s p 48 0 3 = some k) : num? s p 97 0 2 = none := by
  cases h2 : num? s p 97 0 2 with
  | none => rfl
  | some j => rw [num_disj' h2] at h; cases h
theorem tmV_digit {s : ByteArray} {p k : Nat} (h : num? s p 48 0 3 = some k) (y : Nat) : tmV (tmOf s p) y = k := by
  unfold tmOf; rw [num_disj h, h]; unfold tmV; rw [if_pos (by simp)]; simp
theorem tmV_name {s : ByteArray} {p k : Nat} (h : num? s p 97 0 2 = some k) (y : Nat) : tmV (tmOf s p) y = dig y k := by
  unfold tmOf; rw [h]; unfold tmV; rw [if_neg (by simp)]; simp
theorem tmV_le3 (s : ByteArray) (p y : Nat) : tmV (tmOf s p) y ≤ 3 := by
  have hd : ∀ a k, dig a k ≤ 3 := fun a k => by unfold dig; omega
  cases h : num? s p 48 0 3 with
  | some k => rw [tmV_digit h]; exact (num_le h).2
  | none =>
    cases h2 : num? s p 97 0 2 with
    | some k => rw [tmV_name h2]; exact hd _ _
    | none => unfold tmOf; rw [h2, h]; unfold tmV; split <;> first | exact Nat.zero_le _ | exact hd _ _

theorem term1_any (k b : Nat) (x : Int) (W : World) (hb : W.heap[b]? = some (.cells #[.int .i64 k] 3 (0, 0))) : Calls Tryd.prog 97 #[.int .u8 x, .pointer (some ⟨b, 0, none⟩)] W fun e W' => e = .returned (.int .i64 (k : Nat)) ∧ W' = W := by
  have c := box_cell hb
  go_enter Tryd.func97, Tryd.ntmps97
  go_wp2
  go_ret
  exact ⟨rfl, rfl⟩
theorem term2_any (k b x : Nat) (hx : x < 64) (hk : k < 3) (W : World) (hb : W.heap[b]? = some (.cells #[.int .i64 k] 3 (0, 0))) : Calls Tryd.prog 98 #[.int .u8 (x : Nat), .pointer (some ⟨b, 0, none⟩)] W fun e W' => e = .returned (.int .i64 (dig x k : Nat)) ∧ W' = W := by
  have c := box_cell hb
  go_enter Tryd.func98, Tryd.ntmps98
  go_wp2_with fail
  refine (value_any x k hx hk W).mono ?_
  rintro e w' ⟨rfl, rfl⟩
  go_wp2
  go_ret
  exact ⟨rfl, rfl⟩

def pTerm (s : ByteArray) (t : T) : Option T :=
  match num? s t.at_ 48 0 3 with
  | some _ => some t.adv
  | none => match num? s t.at_ 97 0 2 with
    | some k => some (t.named k)
    | none => none
section
variable {B M : Nat} {ty : TypeId} {rest : List Value} {s : ByteArray} {t : T} {w : World}
theorem term_no (hs : s.size ≤ 120) (hat : t.at_ ≤ s.size) (hb : RG B M ty rest s t w) (hn : pTerm s t = none) :
    Calls Tryd.prog 89 #[.pointer (some ⟨B, 0, none⟩)] w fun e w' => e = .returned (.tuple #[.nilFunc, .bool false]) ∧ RG B M ty rest s t w' ∧ Ex B w w' := by
  unfold pTerm at hn
  cases h1 : num? s t.at_ 48 0 3 with
  | some k => simp [h1] at hn
  | none =>
    cases h2 : num? s t.at_ 97 0 2 with
    | some k => simp [h1, h2] at hn
    | none =>
      clear hn
      have hmf : ∀ (fn : Fn) (first cap : Array Value) (w : World), (Instr.makeFunc fn first cap).run Tryd.prog w = .ok (.func fn first cap) w := fun _ _ _ _ => rfl
      go_enter Tryd.func89, Tryd.ntmps89
      go_wp2_with fail
      refine (digit_no0 0 hs hat (by omega) hb h1).mono ?_; rintro e w1 ⟨rfl, hb1, hx1⟩
      go_wp2_with fail
      refine (name_no0 hs hat (hb1.alloc _) h2).mono ?_; rintro e w2 ⟨rfl, hb2, hx2⟩
      go_wp2
      go_ret2
      exact ⟨rfl, hb2.alloc _, ((hx1.alloc _).trans hx2).alloc _⟩
set_option maxHeartbeats 800000 in
theorem term_yes {t' : T} (hs : s.size ≤ 120) (hat : t.at_ ≤ s.size) (hb : RG B M ty rest s t w) (hn : pTerm s t = some t') :
    Calls Tryd.prog 89 #[.pointer (some ⟨B, 0, none⟩)] w fun e w' => (∃ f a, e = .returned (.tuple #[.func f #[] a, .bool true]) ∧ FnK 0 w' (.func f #[] a) (fun x => .int .i64 (tmV (tmOf s t.at_) x : Nat))) ∧ RG B M ty rest s t' w' ∧ Ex B w w' := by
  unfold pTerm at hn
  have hmf : ∀ (fn : Fn) (first cap : Array Value) (w : World), (Instr.makeFunc fn first cap).run Tryd.prog w = .ok (.func fn first cap) w := fun _ _ _ _ => rfl
  cases h1 : num? s t.at_ 48 0 3 with
  | some k =>
    simp [h1] at hn; subst hn
    have HV : Put (∀ y, tmV (tmOf s t.at_) y = k) := ⟨tmV_digit h1⟩
    go_enter Tryd.func89, Tryd.ntmps89
    go_wp2_with fail
    refine (digit_yes0 0 k hs (by omega) hb h1).mono ?_; rintro e w1 ⟨rfl, hb1, hx1⟩
    go_wp2
    go_ret2
    refine ⟨⟨_, _, rfl, ⟨97, #[.pointer (some ⟨w1.heap.size, 0, none⟩)], rfl, enters_of Tryd.func97 (by kernel_rfl) rfl, fun W hW _ _ y hy => ?_⟩⟩, hb1.alloc _, hx1.alloc _⟩
    have hbx := hW.box (heap_alloc_new w1 (.cells #[.int .i64 k] 3))
    show Calls _ _ _ _ fun e W' => e = .returned (.int .i64 ((tmV (tmOf s t.at_) y : Nat) : Int)) ∧ _
    rw [HV.out]
    refine (term1_any k w1.heap.size _ W hbx).mono ?_
    rintro e W' ⟨rfl, rfl⟩
    exact ⟨rfl, Below.refl _ _⟩
  | none =>
    cases h2 : num? s t.at_ 97 0 2 with
    | some k =>
      simp [h1, h2] at hn; subst hn
      have hk2 := (num_le h2).2
      have HV : Put (∀ y, tmV (tmOf s t.at_) y = dig y k) := ⟨tmV_name h2⟩
      go_enter Tryd.func89, Tryd.ntmps89
      go_wp2_with fail
      refine (digit_no0 0 hs hat (by omega) hb h1).mono ?_; rintro e w1 ⟨rfl, hb1, hx1⟩
      go_wp2_with fail
      refine (name_yes0 k hs (hb1.alloc _) h2).mono ?_; rintro e w2 ⟨rfl, hb2, hx2⟩
      go_wp2
      go_ret2
      refine ⟨⟨_, _, rfl, ⟨98, #[.pointer (some ⟨w2.heap.size, 0, none⟩)], rfl, enters_of Tryd.func98 (by kernel_rfl) rfl, fun W hW _ _ y hy => ?_⟩⟩, hb2.alloc _, ((hx1.alloc _).trans hx2).alloc _⟩
      have hbx := hW.box (heap_alloc_new w2 (.cells #[.int .i64 k] 3))
      show Calls _ _ _ _ fun e W' => e = .returned (.int .i64 ((tmV (tmOf s t.at_) y : Nat) : Int)) ∧ _
      rw [HV.out]
      refine (term2_any k w2.heap.size y hy (by omega) W hbx).mono ?_
      rintro e W' ⟨rfl, rfl⟩
      exact ⟨rfl, Below.refl _ _⟩
    | none => simp [h1, h2] at hn
end
end Go.Proofs.YtkbmolodljenjaaDoor
