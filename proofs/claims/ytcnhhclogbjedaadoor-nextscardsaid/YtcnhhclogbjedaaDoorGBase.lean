/- What stays while a good model is read, and what its function values mean. Our own text. -/
import Derived.Test.YtcnhhclogbjedaaDoorEqN2
import Derived.Test.YtcnhhclogbjedaaDoorMSpread
import Derived.Test.YtcnhhclogbjedaaDoorEnd
namespace Go.Proofs.YtcnhhclogbjedaaDoor
open Go.RowKit Go.Lib

/-- Blocks stay, but for readers and rows of function values: of these the ones below N. -/
structure Kp (N : Nat) (w w' : World) : Prop where
  size : w.heap.size ≤ w'.heap.size
  keep : ∀ k cs (t : TypeId) fz, w.heap[k]? = some (.cells cs t fz) → cs ≠ #[Value.nilFunc] → t ≠ 76 ∧ t ≠ 45 → t ≠ 106 → (t = 149 ∨ t = 150 → k < N) → w'.heap[k]? = w.heap[k]?
theorem Kp.refl (N : Nat) (w : World) : Kp N w w := ⟨Nat.le_refl _, fun _ _ _ _ _ _ _ _ _ => rfl⟩
theorem Kp.trans {N : Nat} {a b c : World} (h : Kp N a b) (k : Kp N b c) : Kp N a c :=
  ⟨Nat.le_trans h.size k.size, fun i cs t fz hc hn h1 h2 h3 => (k.keep i cs t fz ((h.keep i cs t fz hc hn h1 h2 h3).trans hc) hn h1 h2 h3).trans (h.keep i cs t fz hc hn h1 h2 h3)⟩
theorem Kp.mono {N M : Nat} {a b : World} (h : Kp N a b) (hm : M ≤ N) : Kp M a b :=
  ⟨h.size, fun i cs t fz hc hn h1 h2 h3 => h.keep i cs t fz hc hn h1 h2 (fun e => Nat.lt_of_lt_of_le (h3 e) hm)⟩
theorem Kp.of_below {N : Nat} {w w' : World} (h : Below w.heap.size w w') : Kp N w w' :=
  ⟨h.size, fun k _ _ _ hc _ _ _ _ => h.block k (lt_of_block hc)⟩
theorem Kp.of_ex {N B : Nat} {w w' : World} {cs : Array Value} {fz : Nat × Nat} (h : Ex B w w') (hB : w.heap[B]? = some (.cells cs 76 fz)) : Kp N w w' :=
  ⟨h.size, fun k cs' t fz' hc _ h1 _ _ => h.block k (lt_of_block hc) (fun e => by subst e; rw [hB] at hc; simp at hc; exact h1.1 hc.2.1.symm)⟩
theorem Kp.alloc (N : Nat) (w : World) (o : Obj) : Kp N w (w.alloc o) := Kp.of_below ((Below.refl _ _).alloc (Nat.le_refl _) _)
/-- A row of function values that grows: it lies at or beyond N. -/
theorem Kp.grown {N : Nat} {w w' : World} {e size n base : Nat} {v : Value} {xs : List Value} (ho : w.ownsRow base e size v n xs) (he : e = 106 ∨ ((e = 149 ∨ e = 150) ∧ N ≤ base)) (g : w.grownBy w' v.ownBlock) : Kp N w w' := by
  refine ⟨g.size, fun k cs t fz hc _ h1 h2 h3 => g.block k (lt_of_block hc) (fun e' => ?_)⟩
  rcases ho.2 with ⟨rfl, _⟩ | ⟨g', cap, cur, rfl, hb, hg, _⟩
  · simp [Value.ownBlock] at e'
  · obtain rfl : k = g' := by simpa [Value.ownBlock] using e'
    rw [hg] at hc
    simp at hc
    obtain ⟨_, rfl, _⟩ := hc
    rcases he with rfl | ⟨he, hN⟩
    · exact h2 rfl
    · have := h3 he; omega

/-- A function value on a state. -/
def FnK (N : Nat) (w : World) (v : Value) (R : Nat → Value) : Prop :=
  ∃ (fn : Nat) (caps : Array Value), v = .func (.func fn) #[] caps ∧ (∀ args w, (callFunc fn args).run Tryd.prog w = .ok (.enter fn args) w) ∧
    ∀ W, Kp N w W → 0 < W.heap.size → Tab W → ∀ x, x < 64 → Calls Tryd.prog fn (#[.int .u8 (x : Nat)] ++ caps) W fun e W' => e = .returned (R x) ∧ Below W.heap.size W W'
theorem FnK.kp {N : Nat} {w w' : World} {v : Value} {R : Nat → Value} (h : FnK N w v R) (k : Kp N w w') : FnK N w' v R := by
  obtain ⟨fn, caps, h1, h2, h3⟩ := h
  exact ⟨fn, caps, h1, h2, fun W hW => h3 W (k.trans hW)⟩
/-- One on a state and a set of states. -/
def FnK2 (w : World) (v : Value) (R : Nat → Nat → Value) : Prop :=
  ∃ (fn : Nat) (caps : Array Value), v = .func (.func fn) #[] caps ∧ (∀ args w, (callFunc fn args).run Tryd.prog w = .ok (.enter fn args) w) ∧
    ∀ W, Kp 0 w W → 0 < W.heap.size → Tab W → ∀ x m, x < 64 → m < 18446744073709551616 → Calls Tryd.prog fn (#[.int .u8 (x : Nat), .int .u64 (m : Nat)] ++ caps) W fun e W' => e = .returned (R x m) ∧ Below W.heap.size W W'
theorem FnK2.kp {w w' : World} {v : Value} {R : Nat → Nat → Value} (h : FnK2 w v R) (k : Kp 0 w w') : FnK2 w' v R := by
  obtain ⟨fn, caps, h1, h2, h3⟩ := h
  exact ⟨fn, caps, h1, h2, fun W hW => h3 W (k.trans hW)⟩
/-- A box of another type than those stays. -/
theorem Kp.box {N b : Nat} {w W : World} {v : Value} {t : TypeId} (h : Kp N w W) (hb : w.heap[b]? = some (.cells #[v] t (0, 0))) (h1 : t ≠ 76 ∧ t ≠ 45) (h2 : t ≠ 106) (h3 : t ≠ 149) (h4 : t ≠ 150) (hv : v ≠ .nilFunc := by simp) : W.heap[b]? = some (.cells #[v] t (0, 0)) :=
  (h.keep b _ t _ hb (by simpa using hv) h1 h2 (fun e => by rcases e with e | e; exact absurd e h3; exact absurd e h4)).trans hb
theorem box_cell {b : Nat} {W : World} {v : Value} {t : TypeId} (h : W.heap[b]? = some (.cells #[v] t (0, 0))) : W.cell? ⟨b, 0, none⟩ = some v := by simp [World.cell?, h]

theorem fn78_any (k b : Nat) (x : Int) (W : World) (hb : W.heap[b]? = some (.cells #[.int .i64 k] 3 (0, 0))) : Calls Tryd.prog 78 #[.int .u8 x, .pointer (some ⟨b, 0, none⟩)] W fun e W' => e = .returned (.int .i64 (k : Nat)) ∧ W' = W := by
  have c := box_cell hb
  go_enter Tryd.func78, Tryd.ntmps78
  go_wp2
  go_ret
  exact ⟨rfl, rfl⟩
theorem fn79_any (k b x : Nat) (hx : x < 64) (hk : k < 3) (W : World) (hb : W.heap[b]? = some (.cells #[.int .i64 k] 3 (0, 0))) : Calls Tryd.prog 79 #[.int .u8 (x : Nat), .pointer (some ⟨b, 0, none⟩)] W fun e W' => e = .returned (.int .i64 (dig x k : Nat)) ∧ W' = W := by
  have c := box_cell hb
  go_enter Tryd.func79, Tryd.ntmps79
  go_wp2_with fail
  refine (value_any x k hx hk W).mono ?_
  rintro e w' ⟨rfl, rfl⟩
  go_wp2
  go_ret
  exact ⟨rfl, rfl⟩

section
variable {B : Nat} {s : ByteArray} {t : T} {x : Junk} {w : World}
theorem num_disj' {p k : Nat} (h : num? s p 97 0 2 = some k) : num? s p 48 0 3 = none := by
  unfold num? at *
  split
  · next hl => rw [dif_pos hl] at h; split at h
               · rw [if_neg (by omega)]
               · cases h
  · rfl
theorem RB.block76 (h : RB B s t x w) : ∃ cs fz, w.heap[B]? = some (.cells cs 76 fz) := ⟨_, _, h⟩
set_option maxRecDepth 100000 in
set_option maxHeartbeats 800000 in
theorem gterm {tm : Tm} {q' : Q} (hs : s.size ≤ 120) (hat : t.at_ ≤ s.size) (hb : RB B s t x w) (hq : qTerm s (.ok t.at_) = (some tm, q')) (hn : tm.1 < (t.n : Int)) :
    Calls Tryd.prog 64 #[.pointer (some ⟨B, 0, none⟩)] w fun e w' => (∃ v, e = .returned (.tuple #[v, .bool true]) ∧ FnK 0 w' v (fun x => .int .i64 (tmV tm x : Nat)) ∧ ∃ f a, v = .func f #[] a) ∧ RB B s t.adv x w' ∧ Ex B w w' := by
  have hmf : ∀ (fn : Fn) (first cap : Array Value) (w : World), (Instr.makeFunc fn first cap).run Tryd.prog w = .ok (.func fn first cap) w := fun _ _ _ _ => rfl
  unfold qTerm at hq
  cases h2 : num? s t.at_ 97 0 2 with
  | some k =>
    have h2' : qNum s (.ok t.at_) 97 2 = some k := h2
    rw [h2'] at hq
    simp only [Prod.mk.injEq, Option.some.injEq, Q.adv, Q.pos] at hq
    obtain ⟨rfl, rfl⟩ := hq
    have h1 := num_disj' h2
    have hk2 := (num_le h2).2
    have hna : t.named k = t.adv := by unfold T.named; rw [if_neg (by simp only at hn; omega)]
    have HN : Put (_ = _) := ⟨hna⟩
    clear hna
    go_enter Tryd.func64, Tryd.ntmps64
    go_wp2_with (first | (go_at_call 60; refine (digit_no 0 hs hat (by omega) hb h1).mono ?_; rintro e w1 ⟨rfl, hb1, hx1⟩) | (go_at_call 67; refine (name_yes k hs (hb1.alloc _) h2).mono ?_; rintro e w2 ⟨rfl, hb2, hx2⟩))
    go_ret2
    rw [HN.out] at hb2
    refine ⟨⟨_, rfl, ⟨79, #[.pointer (some ⟨w2.heap.size, 0, none⟩)], rfl, enters_of Tryd.func79 (by kernel_rfl) rfl, fun W hW _ _ y hy => ?_⟩, _, _, rfl⟩, hb2.alloc _, ((hx1.alloc _).trans hx2).alloc _⟩
    have hbx := hW.box (heap_alloc_new w2 (.cells #[.int .i64 k] 3)) (by decide) (by decide) (by decide) (by decide)
    refine (fn79_any k w2.heap.size y hy (by omega) W hbx).mono ?_
    rintro e W' ⟨rfl, rfl⟩
    refine ⟨?_, Below.refl _ _⟩
    have : tmV ((k : Int), 0, (t.at_ : Int)) y = dig y k := by unfold tmV; rw [if_neg (by simp)]; simp
    show Ending.returned (Value.int .i64 ((dig y k : Nat) : Int)) = Ending.returned (Value.int .i64 ((tmV ((k : Int), 0, (t.at_ : Int)) y : Nat) : Int))
    rw [this]
  | none =>
    have h2' : qNum s (.ok t.at_) 97 2 = none := h2
    rw [h2'] at hq
    simp only at hq
    cases h1 : num? s t.at_ 48 0 3 with
    | none =>
      have h1' : qNum s (.ok t.at_) 48 3 = none := h1
      rw [h1'] at hq
      simp at hq
    | some k =>
      have h1' : qNum s (.ok t.at_) 48 3 = some k := h1
      rw [h1'] at hq
      simp only [Prod.mk.injEq, Option.some.injEq, Q.adv, Q.pos] at hq
      obtain ⟨rfl, rfl⟩ := hq
      clear hn
      go_enter Tryd.func64, Tryd.ntmps64
      go_wp2_with (go_at_call 60; refine (digit_yes 0 k hs (by omega) hb h1).mono ?_; rintro e w1 ⟨rfl, hb1, hx1⟩)
      go_ret2
      refine ⟨⟨_, rfl, ⟨78, #[.pointer (some ⟨w1.heap.size, 0, none⟩)], rfl, enters_of Tryd.func78 (by kernel_rfl) rfl, fun W hW _ _ y hy => ?_⟩, _, _, rfl⟩, hb1.alloc _, hx1.alloc _⟩
      have hbx := hW.box (heap_alloc_new w1 (.cells #[.int .i64 k] 3)) (by decide) (by decide) (by decide) (by decide)
      refine (fn78_any k w1.heap.size _ W hbx).mono ?_
      rintro e W' ⟨rfl, rfl⟩
      refine ⟨?_, Below.refl _ _⟩
      have : tmV ((-1 : Int), (k : Int), (t.at_ : Int)) y = k := by unfold tmV; rw [if_pos (by simp)]; simp
      show Ending.returned (Value.int .i64 ((k : Nat) : Int)) = Ending.returned (Value.int .i64 ((tmV ((-1 : Int), (k : Int), (t.at_ : Int)) y : Nat) : Int))
      rw [this]
end
end Go.Proofs.YtcnhhclogbjedaaDoor
