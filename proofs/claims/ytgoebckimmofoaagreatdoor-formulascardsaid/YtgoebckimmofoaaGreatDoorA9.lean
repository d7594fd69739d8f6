import Derived.Test.YtgoebckimmofoaaGreatDoorA8
import Derived.Test.YtgoebckimmofoaaGreatDoorA1
/- Formulas as function values: what stays, what they mean. Our own text. -/
namespace Go.Proofs.YtgoebckimmofoaaGreatDoor
open Go.RowKit Go.Lib

/-- What may change while formulas are read and asked: blocks of soft types, and boxes that were empty. -/
def KP (w w' : World) : Prop := ∀ N, Kp N w w'
section
variable {w w' w2 W : World}
theorem KP.refl (w : World) : KP w w := fun _ => Kp.refl _ _
theorem KP.trans (h : KP w w') (k : KP w' w2) : KP w w2 := fun N => (h N).trans (k N)
theorem KP.size (h : KP w w') : w.heap.size ≤ w'.heap.size := (h 0).size
theorem KP.of_below (h : Below w.heap.size w w') : KP w w' := fun _ => Kp.of_below h
theorem KP.of_ex {B : Nat} {cs : Array Value} {ty : TypeId} {fz : Nat × Nat} (h : Ex B w w') (hB : w.heap[B]? = some (.cells cs ty fz)) (hs : soft ty = true) : KP w w' := fun _ => Kp.of_ex h hB hs
theorem KP.alloc (w : World) (o : Obj) : KP w (w.alloc o) := fun _ => Kp.alloc _ _ _
theorem KP.grown {e size n base : Nat} {v : Value} {xs : List Value} (ho : w.ownsRow base e size v n xs) (he : soft e = true) (g : w.grownBy w' v.ownBlock) : KP w w' := fun _ => Kp.grown ho (.inl he) g
theorem KP.softSet {cs : Array Value} {ty : TypeId} {fz : Nat × Nat} {p : Addr} (hB : w.heap[p.block]? = some (.cells cs ty fz)) (hs : soft ty = true) (v : Value) : KP w (w.setCell p v) := fun _ => Kp.softSet hB hs v
theorem KP.fill {b : Nat} {t : TypeId} (v : Value) (h : w.heap[b]? = some (.cells #[Value.nilFunc] t (0, 0))) : KP w (w.setCell ⟨b, 0, none⟩ v) := fun _ => Kp.fill v h
theorem KP.box {b : Nat} {v : Value} {t : TypeId} (h : KP w W) (hb : w.heap[b]? = some (.cells #[v] t (0, 0))) (h1 : soft t = false := by decide) (hv : v ≠ .nilFunc := by simp) : W.heap[b]? = some (.cells #[v] t (0, 0)) :=
  ((h (b + 1)).keep b _ t _ hb (by simpa using hv) h1 (fun _ => Nat.lt_succ_self _)).trans hb
end
/-- A function value on a place. -/
def FnP (w : World) (v : Value) (g : G) : Prop :=
  ∃ (fn : Nat) (caps : Array Value), v = .func (.func fn) #[] caps ∧ (∀ args w, (callFunc fn args).run Tryz.prog w = .ok (.enter fn args) w) ∧
    ∀ W, KP w W → 0 < W.heap.size → Tab W → ∀ x b, x < 64 → b < 256 → Calls Tryz.prog fn (#[.agg #[.int .u8 (x : Nat), .int .u8 (b : Nat)]] ++ caps) W fun e W' => e = .returned (.bool (g x b)) ∧ Below W.heap.size W W'
theorem FnP.kp {w w' : World} {v : Value} {g : G} (h : FnP w v g) (k : KP w w') : FnP w' v g := by
  obtain ⟨fn, caps, h1, h2, h3⟩ := h
  exact ⟨fn, caps, h1, h2, fun W hW => h3 W (k.trans hW)⟩
/-- One on a place and the next. -/
def FnP2 (w : World) (v : Value) (h : Nat → Nat → Nat → Nat → Bool) : Prop :=
  ∃ (fn : Nat) (caps : Array Value), v = .func (.func fn) #[] caps ∧ (∀ args w, (callFunc fn args).run Tryz.prog w = .ok (.enter fn args) w) ∧
    ∀ W, KP w W → 0 < W.heap.size → Tab W → ∀ x b x' b', x < 64 → b < 256 → x' < 64 → b' < 256 → Calls Tryz.prog fn (#[.agg #[.int .u8 (x : Nat), .int .u8 (b : Nat)], .agg #[.int .u8 (x' : Nat), .int .u8 (b' : Nat)]] ++ caps) W fun e W' => e = .returned (.bool (h x b x' b')) ∧ Below W.heap.size W W'
theorem FnP2.kp {w w' : World} {v : Value} {h : Nat → Nat → Nat → Nat → Bool} (k : FnP2 w v h) (kp : KP w w') : FnP2 w' v h := by
  obtain ⟨fn, caps, h1, h2, h3⟩ := k
  exact ⟨fn, caps, h1, h2, fun W hW => h3 W (kp.trans hW)⟩
/-- What it answers from here on. -/
theorem FnP.at {w W : World} {f : Nat} {a : Array Value} {g : G} (h : FnP w (.func (.func f) #[] a) g) (k : KP w W) (h0 : 0 < W.heap.size) (hT : Tab W) {x b : Nat} (hx : x < 64) (hb : b < 256) :
    ∀ W2, Below W.heap.size W W2 → Calls Tryz.prog f (#[.agg #[.int .u8 (x : Nat), .int .u8 (b : Nat)]] ++ a) W2 fun e W' => e = .returned (.bool (g x b)) ∧ Below W2.heap.size W2 W' := by
  obtain ⟨fn, caps, h1, _, h3⟩ := h
  simp only [Value.func.injEq, Fn.func.injEq, true_and] at h1
  obtain ⟨rfl, rfl⟩ := h1
  intro W2 h2
  exact h3 W2 (k.trans (KP.of_below h2)) (Nat.lt_of_lt_of_le h0 h2.size) (hT.below h2 h0) x b hx hb
theorem FnP.form {w : World} {v : Value} {g : G} (h : FnP w v g) : ∃ f a, v = .func (.func f) #[] a ∧ ∀ args w, (callFunc f args).run Tryz.prog w = .ok (.enter f args) w := by
  obtain ⟨fn, caps, h1, h2, _⟩ := h
  exact ⟨fn, caps, h1, h2⟩

theorem always_any (x b : Int) (w : World) : Calls Tryz.prog 172 #[.agg #[.int .u8 x, .int .u8 b]] w fun e w' => e = .returned (.bool true) ∧ Below w.heap.size w w' := by
  go_enter Tryz.func172, Tryz.ntmps172
  go_wp2
  go_ret
  exact ⟨rfl, (Below.refl _ _).alloc (Nat.le_refl _) _⟩
theorem never_any (x b : Int) (w : World) : Calls Tryz.prog 215 #[.agg #[.int .u8 x, .int .u8 b]] w fun e w' => e = .returned (.bool false) ∧ Below w.heap.size w w' := by
  go_enter Tryz.func215, Tryz.ntmps215
  go_wp2
  go_ret
  exact ⟨rfl, (Below.refl _ _).alloc (Nat.le_refl _) _⟩
theorem always_fn (w : World) : FnP w (.func (.func 172) #[] #[]) (fun _ _ => true) :=
  ⟨_, _, rfl, enters_of Tryz.func172 (by kernel_rfl) rfl, fun W _ _ _ x b _ _ => always_any x b W⟩
theorem never_fn (w : World) : FnP w (.func (.func 215) #[] #[]) (fun _ _ => false) :=
  ⟨_, _, rfl, enters_of Tryz.func215 (by kernel_rfl) rfl, fun W _ _ _ x b _ _ => never_any x b W⟩

section
variable {w : World} {fl fr : Nat} {cl cr : Array Value} {f g : G}
theorem not1_any (bl x b : Nat) (hx : x < 64) (hb : b < 256) (W : World) (hW : KP w W) (h0 : 0 < W.heap.size) (hT : Tab W) (hg : FnP w (.func (.func fr) #[] cr) g) (b1 : W.heap[bl]? = some (.cells #[.func (.func fr) #[] cr] 78 (0, 0))) :
    Calls Tryz.prog 210 #[.agg #[.int .u8 (x : Nat), .int .u8 (b : Nat)], .pointer (some ⟨bl, 0, none⟩)] W fun e W' => e = .returned (.bool (!g x b)) ∧ Below W.heap.size W W' := by
  have c1 := box_cell b1
  have l1 := lt_of_block b1
  have HA : Put (Below W.heap.size W (W.alloc (.cells #[.int .u8 (x : Nat), .int .u8 (b : Nat)] 157))) := ⟨(Below.refl _ _).alloc (Nat.le_refl _) _⟩
  have HG : Put (_) := ⟨hg.at hW h0 hT hx hb _ HA.out⟩
  obtain ⟨_, _, e, en⟩ := hg.form
  obtain ⟨rfl, rfl⟩ : _ ∧ _ := by simpa using e
  clear hW hT hg b1 e
  generalize g x b = r at *
  go_enter Tryz.func210, Tryz.ntmps210
  go_wp2_with fail
  refine HG.out.mono ?_
  rintro e w1 ⟨rfl, hb1⟩
  go_wp2
  go_ret
  exact ⟨rfl, HA.out.trans (hb1.mono HA.out.size)⟩
theorem and1_any (bl br x b : Nat) (hx : x < 64) (hb : b < 256) (W : World) (hW : KP w W) (h0 : 0 < W.heap.size) (hT : Tab W) (hf : FnP w (.func (.func fl) #[] cl) f) (hg : FnP w (.func (.func fr) #[] cr) g) (b1 : W.heap[bl]? = some (.cells #[.func (.func fl) #[] cl] 78 (0, 0))) (b2 : W.heap[br]? = some (.cells #[.func (.func fr) #[] cr] 78 (0, 0))) :
    Calls Tryz.prog 211 #[.agg #[.int .u8 (x : Nat), .int .u8 (b : Nat)], .pointer (some ⟨bl, 0, none⟩), .pointer (some ⟨br, 0, none⟩)] W fun e W' => e = .returned (.bool (f x b && g x b)) ∧ Below W.heap.size W W' := by
  have c1 := box_cell b1
  have l1 := lt_of_block b1
  have l2 := lt_of_block b2
  have hA := heap_alloc_new W (.cells #[.int .u8 (x : Nat), .int .u8 (b : Nat)] 157)
  have HA : Put (Below W.heap.size W (W.alloc (.cells #[.int .u8 (x : Nat), .int .u8 (b : Nat)] 157))) := ⟨(Below.refl _ _).alloc (Nat.le_refl _) _⟩
  have HF : Put (_) := ⟨hf.at hW h0 hT hx hb _ HA.out⟩
  have HG : Put (_) := ⟨hg.at hW h0 hT hx hb⟩
  obtain ⟨_, _, e, en⟩ := hf.form
  obtain ⟨rfl, rfl⟩ : _ ∧ _ := by simpa using e
  obtain ⟨_, _, e', en'⟩ := hg.form
  obtain ⟨rfl, rfl⟩ : _ ∧ _ := by simpa using e'
  have B2 : Put (_) := ⟨b2⟩
  have A2 : Put (_) := ⟨hA⟩
  clear hW hT hf hg b1 b2 e e' hA
  generalize f x b = r at *
  generalize g x b = r' at *
  cases r with
  | true =>
    go_enter Tryz.func211, Tryz.ntmps211
    go_wp2_with fail
    refine HF.out.mono ?_
    rintro e w1 ⟨rfl, hb1⟩
    have hB := HA.out.trans (hb1.mono HA.out.size)
    have c2 := box_cell ((hB.block _ l2).trans B2.out)
    have p1 := (hb1.block _ (by simp)).trans A2.out
    have q0 := two_cell0 p1
    have q1 := two_cell1 p1
    have HB : Put (_) := ⟨hB⟩
    clear hb1 hB p1
    go_wp2_with fail
    refine (HG.out w1 HB.out).mono ?_
    rintro e w2 ⟨rfl, hb2⟩
    go_wp2
    go_ret
    exact ⟨rfl, HB.out.trans (hb2.mono HB.out.size)⟩
  | false =>
    go_enter Tryz.func211, Tryz.ntmps211
    go_wp2_with fail
    refine HF.out.mono ?_
    rintro e w1 ⟨rfl, hb1⟩
    go_wp2
    go_ret
    exact ⟨rfl, HA.out.trans (hb1.mono HA.out.size)⟩
theorem or1_any (bl br x b : Nat) (hx : x < 64) (hb : b < 256) (W : World) (hW : KP w W) (h0 : 0 < W.heap.size) (hT : Tab W) (hf : FnP w (.func (.func fl) #[] cl) f) (hg : FnP w (.func (.func fr) #[] cr) g) (b1 : W.heap[bl]? = some (.cells #[.func (.func fl) #[] cl] 78 (0, 0))) (b2 : W.heap[br]? = some (.cells #[.func (.func fr) #[] cr] 78 (0, 0))) :
    Calls Tryz.prog 212 #[.agg #[.int .u8 (x : Nat), .int .u8 (b : Nat)], .pointer (some ⟨bl, 0, none⟩), .pointer (some ⟨br, 0, none⟩)] W fun e W' => e = .returned (.bool (f x b || g x b)) ∧ Below W.heap.size W W' := by
  have c1 := box_cell b1
  have l1 := lt_of_block b1
  have l2 := lt_of_block b2
  have hA := heap_alloc_new W (.cells #[.int .u8 (x : Nat), .int .u8 (b : Nat)] 157)
  have HA : Put (Below W.heap.size W (W.alloc (.cells #[.int .u8 (x : Nat), .int .u8 (b : Nat)] 157))) := ⟨(Below.refl _ _).alloc (Nat.le_refl _) _⟩
  have HF : Put (_) := ⟨hf.at hW h0 hT hx hb _ HA.out⟩
  have HG : Put (_) := ⟨hg.at hW h0 hT hx hb⟩
  obtain ⟨_, _, e, en⟩ := hf.form
  obtain ⟨rfl, rfl⟩ : _ ∧ _ := by simpa using e
  obtain ⟨_, _, e', en'⟩ := hg.form
  obtain ⟨rfl, rfl⟩ : _ ∧ _ := by simpa using e'
  have B2 : Put (_) := ⟨b2⟩
  have A2 : Put (_) := ⟨hA⟩
  clear hW hT hf hg b1 b2 e e' hA
  generalize f x b = r at *
  generalize g x b = r' at *
  cases r with
  | false =>
    go_enter Tryz.func212, Tryz.ntmps212
    go_wp2_with fail
    refine HF.out.mono ?_
    rintro e w1 ⟨rfl, hb1⟩
    have hB := HA.out.trans (hb1.mono HA.out.size)
    have c2 := box_cell ((hB.block _ l2).trans B2.out)
    have p1 := (hb1.block _ (by simp)).trans A2.out
    have q0 := two_cell0 p1
    have q1 := two_cell1 p1
    have HB : Put (_) := ⟨hB⟩
    clear hb1 hB p1
    go_wp2_with fail
    refine (HG.out w1 HB.out).mono ?_
    rintro e w2 ⟨rfl, hb2⟩
    go_wp2
    go_ret
    exact ⟨rfl, HB.out.trans (hb2.mono HB.out.size)⟩
  | true =>
    go_enter Tryz.func212, Tryz.ntmps212
    go_wp2_with fail
    refine HF.out.mono ?_
    rintro e w1 ⟨rfl, hb1⟩
    go_wp2
    go_ret
    exact ⟨rfl, HA.out.trans (hb1.mono HA.out.size)⟩
theorem next1_any (br x' b' : Nat) (x b : Int) (hx : x' < 64) (hb : b' < 256) (W : World) (hW : KP w W) (h0 : 0 < W.heap.size) (hT : Tab W) (hg : FnP w (.func (.func fr) #[] cr) g) (b1 : W.heap[br]? = some (.cells #[.func (.func fr) #[] cr] 78 (0, 0))) :
    Calls Tryz.prog 214 #[.agg #[.int .u8 x, .int .u8 b], .agg #[.int .u8 (x' : Nat), .int .u8 (b' : Nat)], .pointer (some ⟨br, 0, none⟩)] W fun e W' => e = .returned (.bool (g x' b')) ∧ Below W.heap.size W W' := by
  have c1 := box_cell b1
  have l1 := lt_of_block b1
  have HA : Put (Below W.heap.size W ((W.alloc (.cells #[.int .u8 x, .int .u8 b] 157)).alloc (.cells #[.int .u8 (x' : Nat), .int .u8 (b' : Nat)] 157))) := ⟨((Below.refl _ _).alloc (Nat.le_refl _) _).alloc (by simp) _⟩
  have HG : Put (_) := ⟨hg.at hW h0 hT hx hb _ HA.out⟩
  obtain ⟨_, _, e, en⟩ := hg.form
  obtain ⟨rfl, rfl⟩ : _ ∧ _ := by simpa using e
  clear hW hT hg b1 e
  generalize g x' b' = r at *
  go_enter Tryz.func214, Tryz.ntmps214
  go_wp2_with fail
  refine HG.out.mono ?_
  rintro e w1 ⟨rfl, hb1⟩
  go_wp2
  go_ret
  exact ⟨rfl, HA.out.trans (hb1.mono HA.out.size)⟩
theorem keep1_any (bn n x b : Nat) (hn : n < 64) (hb : b < 256) (W : World) (b1 : W.heap[bn]? = some (.cells #[.int .i64 n] 3 (0, 0))) :
    Calls Tryz.prog 218 #[.agg #[.int .u8 (x : Nat), .int .u8 (b : Nat)], .pointer (some ⟨bn, 0, none⟩)] W fun e W' => e = .returned (.bool (b.testBit n)) ∧ Below W.heap.size W W' := by
  have c1 := box_cell b1
  have l1 := lt_of_block b1
  have HP : Put (∀ w, Calls Tryz.prog 219 #[.int .u8 (b : Nat), .int .i64 n] w fun e w' => e = .returned (.bool (b.testBit n)) ∧ w' = w) := ⟨fun w => hasP_any b n hb hn w⟩
  generalize b.testBit n = r at *
  clear b1
  go_enter Tryz.func218, Tryz.ntmps218
  go_wp2_with fail
  refine (HP.out _).mono ?_
  rintro e w1 ⟨rfl, rfl⟩
  go_wp2
  go_ret
  exact ⟨rfl, (Below.refl _ _).alloc (Nat.le_refl _) _⟩
end
end Go.Proofs.YtgoebckimmofoaaGreatDoor

/- All blocks but two. Our own text. -/
namespace Go.Proofs.YtgoebckimmofoaaGreatDoor
open Go.RowKit Go.Lib

/-- All blocks but B and M are as they were; new ones may have come. -/
structure Ex2 (B M : Nat) (w w' : World) : Prop where
  os : w'.os = w.os
  tape : w'.tape = w.tape
  output : w'.output = w.output
  size : w.heap.size ≤ w'.heap.size
  block : ∀ k, k < w.heap.size → k ≠ B → k ≠ M → w'.heap[k]? = w.heap[k]?
theorem Ex.two {B M : Nat} {w w' : World} (h : Ex B w w') : Ex2 B M w w' := ⟨h.os, h.tape, h.output, h.size, fun k hk h1 _ => h.block k hk h1⟩
theorem Ex2.trans {B M : Nat} {a b c : World} (h : Ex2 B M a b) (k : Ex2 B M b c) : Ex2 B M a c :=
  ⟨k.os.trans h.os, k.tape.trans h.tape, k.output.trans h.output, Nat.le_trans h.size k.size, fun i hi hB hM => (k.block i (Nat.lt_of_lt_of_le hi h.size) hB hM).trans (h.block i hi hB hM)⟩
theorem Ex2.drew {B M : Nat} {a b : World} (h : Ex2 B M a b) : Ex2 B M a b.drew := ⟨h.os, h.tape, h.output, h.size, h.block⟩
theorem Ex2.setCell {B M : Nat} {a b : World} (h : Ex2 B M a b) {p : Addr} (hp : p.block = B ∨ p.block = M ∨ a.heap.size ≤ p.block) (v : Value) : Ex2 B M a (b.setCell p v) :=
  ⟨h.os, h.tape, h.output, by simpa using h.size, fun k hk hB hM => by rw [heap_setCell_other _ _ _ _ (by omega)]; exact h.block k hk hB hM⟩
theorem Ex2.below {B M : Nat} {w w' : World} (h : Ex2 B M w w') (hM : M < B) (hs : M ≤ w.heap.size) : Below M w w' :=
  ⟨h.os, h.tape, h.output, h.size, fun k hk => h.block k (by omega) (by omega) (by omega)⟩
theorem Ex2.ownsRow {B M base e size n : Nat} {v : Value} {xs : List Value} {w w' : World} (h : Ex2 B M w w') (hB : B < base) (hM : M < base) (ho : w.ownsRow base e size v n xs) : w'.ownsRow base e size v n xs := by
  refine ⟨ho.1, ?_⟩
  rcases ho.2 with hn | ⟨g, cap, cur, rfl, hb, hg, r⟩
  · exact .inl hn
  · exact .inr ⟨g, cap, cur, rfl, hb, by rw [h.block g (lt_of_block hg) (by omega) (by omega)]; exact hg, r⟩
end Go.Proofs.YtgoebckimmofoaaGreatDoor

/- The reader of models while it reads: what stands in its blocks and rows. Our own text. -/
namespace Go.Proofs.YtgoebckimmofoaaGreatDoor
open Go.RowKit Go.Lib

theorem Kp.of_ex2 {N B M : Nat} {w w' : World} {cs ds : Array Value} {ty tz : TypeId} {fz gz : Nat × Nat} (h : Ex2 B M w w') (hB : w.heap[B]? = some (.cells cs ty fz)) (hs : soft ty = true) (hM : w.heap[M]? = some (.cells ds tz gz)) (hz : soft tz = true) : Kp N w w' :=
  ⟨h.size, fun k cs' t fz' hc _ h1 _ => h.block k (lt_of_block hc)
    (fun e => by subst e; rw [hB] at hc; simp at hc; obtain ⟨_, rfl, _⟩ := hc; rw [hs] at h1; cases h1)
    (fun e => by subst e; rw [hM] at hc; simp at hc; obtain ⟨_, rfl, _⟩ := hc; rw [hz] at h1; cases h1)⟩

def mblk (t : T) (x : Junk) : Array Value :=
  #[.int .i64 x.g0, .int .u8 x.f0, .int .i64 x.g1, .int .u8 x.f1, .int .i64 x.g2, .int .u8 x.f2, .int .i64 t.n, x.vr]
/-- The reader of models in block B, its machine in block M. -/
structure RB (B M : Nat) (s : ByteArray) (t : T) (x : Junk) (w : World) : Prop where
  g : RG B M 120 [x.vc, x.vh, .int .u8 t.chd] s t w
  m : w.heap[M]? = some (.cells (mblk t x) 113 (0, 0))
section
variable {B M : Nat} {s : ByteArray} {t t' : T} {x : Junk} {w w' : World}
theorem RB.lt (h : RB B M s t x w) : B < w.heap.size := h.g.lt
theorem RB.lo (h : RB B M s t x w) : M < B := h.g.lo
theorem RB.ltM (h : RB B M s t x w) : M < w.heap.size := Nat.lt_trans h.g.lo h.g.lt
theorem RB.free (h : RB B M s t x w) (i : Nat) : w.frozen? ⟨B, i, none⟩ = false := h.g.free i
theorem RB.freeM (h : RB B M s t x w) (i : Nat) : w.frozen? ⟨M, i, none⟩ = false := by simp [World.frozen?, h.m]
theorem RB.c1 (h : RB B M s t x w) : w.cell? ⟨B, 1, none⟩ = some (.int .i64 t.at_) := h.g.c1
theorem RB.c2 (h : RB B M s t x w) : w.cell? ⟨B, 2, none⟩ = some (.pointer (some ⟨M, 0, none⟩)) := h.g.c2
theorem RB.c3 (h : RB B M s t x w) : w.cell? ⟨B, 3, none⟩ = some (.int .i64 t.flt) := h.g.c3
theorem RB.c4 (h : RB B M s t x w) : w.cell? ⟨B, 4, none⟩ = some (.int .i64 t.plc) := h.g.c4
theorem RB.c5 (h : RB B M s t x w) : w.cell? ⟨B, 5, none⟩ = some x.vc := by simp [World.cell?, h.g.blk, rblk]
theorem RB.c6 (h : RB B M s t x w) : w.cell? ⟨B, 6, none⟩ = some x.vh := by simp [World.cell?, h.g.blk, rblk]
theorem RB.c7 (h : RB B M s t x w) : w.cell? ⟨B, 7, none⟩ = some (.int .u8 t.chd) := by simp [World.cell?, h.g.blk, rblk]
theorem RB.m0 (h : RB B M s t x w) : w.cell? ⟨M, 0, none⟩ = some (.int .i64 x.g0) := by simp [World.cell?, h.m, mblk]
theorem RB.m1 (h : RB B M s t x w) : w.cell? ⟨M, 1, none⟩ = some (.int .u8 x.f0) := by simp [World.cell?, h.m, mblk]
theorem RB.m2 (h : RB B M s t x w) : w.cell? ⟨M, 2, none⟩ = some (.int .i64 x.g1) := by simp [World.cell?, h.m, mblk]
theorem RB.m3 (h : RB B M s t x w) : w.cell? ⟨M, 3, none⟩ = some (.int .u8 x.f1) := by simp [World.cell?, h.m, mblk]
theorem RB.m4 (h : RB B M s t x w) : w.cell? ⟨M, 4, none⟩ = some (.int .i64 x.g2) := by simp [World.cell?, h.m, mblk]
theorem RB.m5 (h : RB B M s t x w) : w.cell? ⟨M, 5, none⟩ = some (.int .u8 x.f2) := by simp [World.cell?, h.m, mblk]
theorem RB.m6 (h : RB B M s t x w) : w.cell? ⟨M, 6, none⟩ = some (.int .i64 t.n) := by simp [World.cell?, h.m, mblk]
theorem RB.m7 (h : RB B M s t x w) : w.cell? ⟨M, 7, none⟩ = some x.vr := by simp [World.cell?, h.m, mblk]
theorem RB.move (h : RB B M s t x w) (e1 : w'.heap[B]? = w.heap[B]?) (e2 : w'.heap[M]? = w.heap[M]?) : RB B M s t x w' := ⟨h.g.move e1 e2, e2.trans h.m⟩
theorem RB.drewN (h : RB B M s t x w) (n : Nat) : RB B M s t x (w.drewN n) := h.move rfl rfl
theorem RB.drew (h : RB B M s t x w) : RB B M s t x w.drew := h.move rfl rfl
theorem RB.alloc (h : RB B M s t x w) (o : Obj) : RB B M s t x (w.alloc o) := h.move (Below.heap_alloc _ _ _ h.lt) (Below.heap_alloc _ _ _ h.ltM)
theorem RB.set_other (h : RB B M s t x w) {p : Addr} (hp : p.block ≠ B) (hq : p.block ≠ M) (v : Value) : RB B M s t x (w.setCell p v) :=
  h.move (heap_setCell_other _ _ _ _ (fun e => hp e.symm)) (heap_setCell_other _ _ _ _ (fun e => hq e.symm))
theorem RB.grown {row : Option Nat} (h : RB B M s t x w) (g : w.grownBy w' row) (hr : row ≠ some B) (hq : row ≠ some M) : RB B M s t x w' :=
  h.move (g.block B h.lt (fun e => hr e.symm)) (g.block M h.ltM (fun e => hq e.symm))
/-- What a step of the reader alone leaves. -/
theorem RB.up (h : RB B M s t x w) (g : RG B M 120 [x.vc, x.vh, .int .u8 t.chd] s t' w') (e : Ex B w w') (hn : t'.n = t.n) (hc : t'.chd = t.chd) : RB B M s t' x w' :=
  ⟨by rw [hc]; exact g, by have := (e.block M h.ltM (Nat.ne_of_lt h.lo)).trans h.m; unfold mblk at *; rw [hn]; exact this⟩
theorem RB.set5 (h : RB B M s t x w) (v : Value) : RB B M s t { x with vc := v } (w.setCell ⟨B, 5, none⟩ v) :=
  ⟨h.g.set 5 v (by simp [rblk]) rfl, (heap_setCell_other _ _ _ _ (show M ≠ B from Nat.ne_of_lt h.lo)).trans h.m⟩
theorem RB.set6 (h : RB B M s t x w) (v : Value) : RB B M s t { x with vh := v } (w.setCell ⟨B, 6, none⟩ v) :=
  ⟨h.g.set 6 v (by simp [rblk]) rfl, (heap_setCell_other _ _ _ _ (show M ≠ B from Nat.ne_of_lt h.lo)).trans h.m⟩
theorem RB.set7 (h : RB B M s t x w) (k : Nat) : RB B M s { t with chd := k } x (w.setCell ⟨B, 7, none⟩ (.int .u8 k)) :=
  ⟨h.g.set 7 _ (by simp [rblk]) rfl, (heap_setCell_other _ _ _ _ (show M ≠ B from Nat.ne_of_lt h.lo)).trans h.m⟩
theorem RB.setM (h : RB B M s t x w) (i : Nat) (v : Value) {x' : Junk} {n : Nat} (e : (mblk t x).setIfInBounds i v = mblk { t with n := n } x') (hc : x'.vc = x.vc) (hh : x'.vh = x.vh) : RB B M s { t with n := n } x' (w.setCell ⟨M, i, none⟩ v) := by
  have hm := heap_setCell_same w M i (mblk t x) 113 v h.m
  rw [e] at hm
  refine ⟨⟨?_, ⟨_, _, hm, by simp [mblk]⟩, h.lo⟩, hm⟩
  rw [hc, hh]
  exact (heap_setCell_other _ _ _ _ (show B ≠ M from fun e => Nat.ne_of_lt h.lo e.symm)).trans h.g.blk
theorem RB.setn (h : RB B M s t x w) (k : Nat) : RB B M s { t with n := k } x (w.setCell ⟨M, 6, none⟩ (.int .i64 k)) := h.setM 6 _ rfl rfl rfl
theorem RB.setr (h : RB B M s t x w) (v : Value) : RB B M s t { x with vr := v } (w.setCell ⟨M, 7, none⟩ v) := h.setM (n := t.n) 7 v rfl rfl rfl
theorem RB.setnr (h : RB B M s t x w) (k : Nat) : RB B M s { t with nr := k } x w := ⟨⟨h.g.blk, h.g.cnt, h.g.lo⟩, h.m⟩
def Junk.setv (x : Junk) (k : Nat) (g f : Int) : Junk := match k with
  | 0 => { x with g0 := g, f0 := f }
  | 1 => { x with g1 := g, f1 := f }
  | _ => { x with g2 := g, f2 := f }
theorem RB.setv0 (h : RB B M s t x w) (g c : Int) : RB B M s t (x.setv 0 g c) ((w.setCell ⟨M, 0, none⟩ (.int .i64 g)).setCell ⟨M, 1, none⟩ (.int .u8 c)) :=
  (h.setM (n := t.n) (x' := { x with g0 := g }) 0 (.int .i64 g) rfl rfl rfl).setM (n := t.n) 1 _ rfl rfl rfl
theorem RB.setv1 (h : RB B M s t x w) (g c : Int) : RB B M s t (x.setv 1 g c) ((w.setCell ⟨M, 2, none⟩ (.int .i64 g)).setCell ⟨M, 3, none⟩ (.int .u8 c)) :=
  (h.setM (n := t.n) (x' := { x with g1 := g }) 2 (.int .i64 g) rfl rfl rfl).setM (n := t.n) 3 _ rfl rfl rfl
theorem RB.setv2 (h : RB B M s t x w) (g c : Int) : RB B M s t (x.setv 2 g c) ((w.setCell ⟨M, 4, none⟩ (.int .i64 g)).setCell ⟨M, 5, none⟩ (.int .u8 c)) :=
  (h.setM (n := t.n) (x' := { x with g2 := g }) 4 (.int .i64 g) rfl rfl rfl).setM (n := t.n) 5 _ rfl rfl rfl

/-! The reader's small steps, of this reader. -/
theorem take_no (c : Nat) (hs : s.size ≤ 120) (hat : t.at_ ≤ s.size) (hc : c ≤ 255) (hb : RB B M s t x w) (hn : num? s t.at_ c 0 0 = none) :
    Calls Tryz.prog 74 #[.pointer (some ⟨B, 0, none⟩), .int .u8 c] w fun e w' => e = .returned (.bool false) ∧ RB B M s t x w' ∧ Ex B w w' :=
  (take_no0 c hs hat hc hb.g hn).mono fun _ _ ⟨h1, h2, h3⟩ => ⟨h1, hb.up h2 h3 rfl rfl, h3⟩
theorem take_yes (c k : Nat) (hs : s.size ≤ 120) (hc : c ≤ 255) (hb : RB B M s t x w) (hn : num? s t.at_ c 0 0 = some k) :
    Calls Tryz.prog 74 #[.pointer (some ⟨B, 0, none⟩), .int .u8 c] w fun e w' => e = .returned (.bool true) ∧ RB B M s t.adv x w' ∧ Ex B w w' :=
  (take_yes0 c k hs hc hb.g hn).mono fun _ _ ⟨h1, h2, h3⟩ => ⟨h1, hb.up h2 h3 rfl rfl, h3⟩
theorem take_no' {c : Int} (k : Nat) (e : c = (k : Int)) (hs : s.size ≤ 120) (hat : t.at_ ≤ s.size) (hc : k ≤ 255) (hb : RB B M s t x w) (hn : num? s t.at_ k 0 0 = none) :
    Calls Tryz.prog 74 #[.pointer (some ⟨B, 0, none⟩), .int .u8 c] w fun e w' => e = .returned (.bool false) ∧ RB B M s t x w' ∧ Ex B w w' := by
  subst e; exact take_no k hs hat hc hb hn
theorem take_yes' {c : Int} (k j : Nat) (e : c = (k : Int)) (hs : s.size ≤ 120) (hc : k ≤ 255) (hb : RB B M s t x w) (hn : num? s t.at_ k 0 0 = some j) :
    Calls Tryz.prog 74 #[.pointer (some ⟨B, 0, none⟩), .int .u8 c] w fun e w' => e = .returned (.bool true) ∧ RB B M s t.adv x w' ∧ Ex B w w' := by
  subst e; exact take_yes k j hs hc hb hn
theorem digit_no (lo : Nat) (hs : s.size ≤ 120) (hat : t.at_ ≤ s.size) (hlo : lo ≤ 10) (hb : RB B M s t x w) (hn : num? s t.at_ 48 lo 3 = none) :
    Calls Tryz.prog 106 #[.pointer (some ⟨B, 0, none⟩), .int .i64 lo] w fun e w' => e = .returned (.tuple #[.int .i64 0, .bool false]) ∧ RB B M s t x w' ∧ Ex B w w' :=
  (digit_no0 lo hs hat hlo hb.g hn).mono fun _ _ ⟨h1, h2, h3⟩ => ⟨h1, hb.up h2 h3 rfl rfl, h3⟩
theorem digit_yes (lo k : Nat) (hs : s.size ≤ 120) (hlo : lo ≤ 10) (hb : RB B M s t x w) (hn : num? s t.at_ 48 lo 3 = some k) :
    Calls Tryz.prog 106 #[.pointer (some ⟨B, 0, none⟩), .int .i64 lo] w fun e w' => e = .returned (.tuple #[.int .i64 k, .bool true]) ∧ RB B M s t.adv x w' ∧ Ex B w w' :=
  (digit_yes0 lo k hs hlo hb.g hn).mono fun _ _ ⟨h1, h2, h3⟩ => ⟨h1, hb.up h2 h3 rfl rfl, h3⟩
theorem digit_no' {c : Int} (lo : Nat) (e : c = (lo : Int)) (hs : s.size ≤ 120) (hat : t.at_ ≤ s.size) (hlo : lo ≤ 10) (hb : RB B M s t x w) (hn : num? s t.at_ 48 lo 3 = none) :
    Calls Tryz.prog 106 #[.pointer (some ⟨B, 0, none⟩), .int .i64 c] w fun e w' => e = .returned (.tuple #[.int .i64 0, .bool false]) ∧ RB B M s t x w' ∧ Ex B w w' := by
  subst e; exact digit_no lo hs hat hlo hb hn
theorem digit_yes' {c : Int} (lo k : Nat) (e : c = (lo : Int)) (hs : s.size ≤ 120) (hlo : lo ≤ 10) (hb : RB B M s t x w) (hn : num? s t.at_ 48 lo 3 = some k) :
    Calls Tryz.prog 106 #[.pointer (some ⟨B, 0, none⟩), .int .i64 c] w fun e w' => e = .returned (.tuple #[.int .i64 k, .bool true]) ∧ RB B M s t.adv x w' ∧ Ex B w w' := by
  subst e; exact digit_yes lo k hs hlo hb hn
theorem blame_any (f : Nat) (hat : 1 ≤ t.at_) (hat2 : t.at_ ≤ 120) (hb : RB B M s t x w) :
    Calls Tryz.prog 107 #[.pointer (some ⟨B, 0, none⟩), .int .i64 f] w fun e w' => e = .returned (.tuple #[]) ∧ RB B M s (t.blame f) x w' ∧ Ex B w w' :=
  (blame_any0 f hat hat2 hb.g).mono fun _ _ ⟨h1, h2, h3⟩ => ⟨h1, hb.up h2 h3 (blame_same t f).2.1 (blame_same t f).2.2.2, h3⟩
theorem name_no (hs : s.size ≤ 120) (hat : t.at_ ≤ s.size) (hb : RB B M s t x w) (hn : num? s t.at_ 97 0 2 = none) :
    Calls Tryz.prog 111 #[.pointer (some ⟨B, 0, none⟩)] w fun e w' => e = .returned (.tuple #[.int .i64 0, .bool false]) ∧ RB B M s t x w' ∧ Ex B w w' :=
  (name_no0 hs hat hb.g hn).mono fun _ _ ⟨h1, h2, h3⟩ => ⟨h1, hb.up h2 h3 rfl rfl, h3⟩
theorem name_yes (k : Nat) (hs : s.size ≤ 120) (hb : RB B M s t x w) (hn : num? s t.at_ 97 0 2 = some k) :
    Calls Tryz.prog 111 #[.pointer (some ⟨B, 0, none⟩)] w fun e w' => e = .returned (.tuple #[.int .i64 k, .bool true]) ∧ RB B M s (t.named k) x w' ∧ Ex B w w' :=
  (name_yes0 k hs hb.g hn).mono fun _ _ ⟨h1, h2, h3⟩ => ⟨h1, hb.up h2 h3 (named_same t k).2.1 (named_same t k).2.2.2, h3⟩
theorem rterm_no (hs : s.size ≤ 120) (hat : t.at_ ≤ s.size) (hb : RB B M s t x w) (hn : pTerm s t = none) :
    Calls Tryz.prog 149 #[.pointer (some ⟨B, 0, none⟩)] w fun e w' => e = .returned (.tuple #[.nilFunc, .bool false]) ∧ RB B M s t x w' ∧ Ex B w w' :=
  (term_no hs hat hb.g hn).mono fun _ _ ⟨h1, h2, h3⟩ => ⟨h1, hb.up h2 h3 rfl rfl, h3⟩
theorem rterm_yes (hs : s.size ≤ 120) (hat : t.at_ ≤ s.size) (hb : RB B M s t x w) (hn : pTerm s t = some t') :
    Calls Tryz.prog 149 #[.pointer (some ⟨B, 0, none⟩)] w fun e w' => (∃ f a, e = .returned (.tuple #[.func f #[] a, .bool true]) ∧ FnK 0 w' (.func f #[] a) (fun x => .int .i64 (tmV (tmOf s t.at_) x : Nat))) ∧ RB B M s t' x w' ∧ Ex B w w' :=
  (term_yes hs hat hb.g hn).mono fun _ _ ⟨h1, h2, h3⟩ => ⟨h1, hb.up h2 h3 (pTerm_same hn).2.1 (pTerm_same hn).2.2.2, h3⟩
theorem ratEnd (hat : t.at_ ≤ s.size) (hb : RB B M s t x w) :
    Calls Tryz.prog 75 #[.pointer (some ⟨B, 0, none⟩)] w fun e w' => e = .returned (.bool (decide (t.at_ = s.size))) ∧ RB B M s t x w' ∧ Ex B w w' :=
  (atEnd_any hat hb.g).mono fun _ _ ⟨h1, h2, h3⟩ => ⟨h1, hb.up h2 h3 rfl rfl, h3⟩
end

/-- What the three rows of a reader mean. -/
structure RW (B N : Nat) (s : ByteArray) (G : Nat → Nat) (x : Junk) (cl : List (Tm × Tm)) (dl : List Chg) (rl : List RA) (w : World) : Prop where
  r : ∃ xs, w.ownsRow (B + 1) 149 1 x.vr rl.length xs ∧ All2 (fun v r => FnK N w v (fun y => .int .u64 (ruP s G r y : Nat))) xs rl
  c : ∃ xs, w.ownsRow N 217 1 x.vc cl.length xs ∧ All2 (fun v c => FnK 0 w v (fun y => .bool (cdP s c y))) xs cl
  h : ∃ xs, w.ownsRow N 270 1 x.vh dl.length xs ∧ All2 (fun v d => FnK2 w v (fun y m => .int .u64 (spr m d.1.toNat (toP s d (G d.1.toNat + 1) y) : Nat))) xs dl
section
variable {B M N : Nat} {s : ByteArray} {G : Nat → Nat} {t : T} {x : Junk} {w : World} {cl : List (Tm × Tm)} {dl : List Chg} {rl : List RA}
theorem ne_own {w : World} {B N e z n : Nat} {v : Value} {xs : List Value} (hN : B < N) (h : w.ownsRow N e z v n xs) : v.ownBlock ≠ some B := by
  intro e'; have := (h.lt B e').1; omega
theorem ge_own {w : World} {B N e z n : Nat} {v : Value} {xs : List Value} (hN : B ≤ N) (h : w.ownsRow N e z v n xs) : ∀ k, v.ownBlock = some k → B ≤ k := by
  intro k hk; have := (h.lt k hk).1; omega
theorem soft_R : soft 120 = true := by decide
theorem soft_M : soft 113 = true := by decide
theorem RB.kp {w' : World} (h : RB B M s t x w) (e : Ex2 B M w w') (Z : Nat) : Kp Z w w' := Kp.of_ex2 e h.g.blk soft_R h.m soft_M
theorem RW.ex {w' : World} (h : RW B N s G x cl dl rl w) (e : Ex2 B M w w') (hN : B < N) (hb : RB B M s t x w) : RW B N s G x cl dl rl w' := by
  obtain ⟨⟨xs, r1, r2⟩, ⟨ys, c1, c2⟩, ⟨zs, d1, d2⟩⟩ := h
  have hM := hb.lo
  have k : ∀ Z, Kp Z w w' := hb.kp e
  exact ⟨⟨xs, e.ownsRow (by omega) (by omega) r1, r2.mono (fun _ _ h => h.kp (k _))⟩, ⟨ys, e.ownsRow hN (by omega) c1, c2.mono (fun _ _ h => h.kp (k _))⟩, ⟨zs, e.ownsRow hN (by omega) d1, d2.mono (fun _ _ h => h.kp (k _))⟩⟩
theorem RW.same {x' : Junk} (h : RW B N s G x cl dl rl w) (e1 : x'.vr = x.vr) (e2 : x'.vc = x.vc) (e3 : x'.vh = x.vh) : RW B N s G x' cl dl rl w :=
  ⟨by rw [e1]; exact h.r, by rw [e2]; exact h.c, by rw [e3]; exact h.h⟩
end

def BitsL (f : Nat) (l : List Nat) : Prop := f < 16 ∧ ∀ v, v < 4 → f.testBit v = decide (v ∈ l)
theorem bits4_or : ∀ c : Nat, c < 16 → ∀ k : Nat, k < 4 → c ||| 2 ^ k < 16 ∧ ∀ j : Nat, j < 4 → (c ||| 2 ^ k).testBit j = (c.testBit j || decide (j = k)) := by decide
theorem BitsL.nil : BitsL 0 [] := ⟨by omega, fun v _ => by simp⟩
theorem BitsL.snoc {f : Nat} {l : List Nat} (h : BitsL f l) (v : Nat) (hv : v ≤ 3) : BitsL (f ||| 2 ^ v) (l ++ [v]) := by
  have := bits4_or f h.1 v (by omega)
  refine ⟨this.1, fun j hj => ?_⟩
  rw [this.2 j hj, h.2 j hj]
  simp
def Junk.g (x : Junk) : Nat → Int
  | 0 => x.g0
  | 1 => x.g1
  | _ => x.g2
def Junk.f (x : Junk) : Nat → Int
  | 0 => x.f0
  | 1 => x.f1
  | _ => x.f2
/-- A variable: its greatest value, its first ones. -/
abbrev V2 := Nat × List Nat
def Gv (vs : List V2) (k : Nat) : Nat := (vs.getD k (0, [])).1
/-- The first n variables stand in the machine's block. -/
structure GF (vs : List V2) (x : Junk) : Prop where
  v : ∀ k, k < vs.length → x.g k = (Gv vs k : Int) ∧ ∃ f : Nat, x.f k = (f : Int) ∧ BitsL f (vs.getD k (0, [])).2
  z : ∀ k, vs.length ≤ k → k < 3 → x.g k = 0 ∧ x.f k = 0
  t : ∀ e ∈ vs, e.1 ≤ 3
theorem Gv_out {vs : List V2} {k : Nat} (h : vs.length ≤ k) : vs.getD k (0, []) = (0, []) := by simp [List.getD, List.getElem?_eq_none h]
theorem GF.g {vs : List V2} {x : Junk} (h : GF vs x) {k : Nat} (hk : k < 3) : x.g k = (Gv vs k : Int) := by
  by_cases hl : k < vs.length
  · exact (h.v k hl).1
  · rw [(h.z k (by omega) hk).1]; unfold Gv; rw [Gv_out (by omega)]; rfl
theorem GF.le {vs : List V2} {x : Junk} (h : GF vs x) (k : Nat) : Gv vs k ≤ 3 := by
  unfold Gv
  by_cases hl : k < vs.length
  · have e' : vs.getD k (0, []) = vs[k] := by simp [List.getD, hl]
    rw [e']; exact h.t _ (List.getElem_mem hl)
  · rw [Gv_out (by omega)]; exact Nat.zero_le _
theorem GF.same {vs : List V2} {x x' : Junk} (h : GF vs x) (h0 : x'.g0 = x.g0 ∧ x'.f0 = x.f0 ∧ x'.g1 = x.g1 ∧ x'.f1 = x.f1 ∧ x'.g2 = x.g2 ∧ x'.f2 = x.f2) : GF vs x' := by
  obtain ⟨e0, e1, e2, e3, e4, e5⟩ := h0
  have eg : ∀ k, x'.g k = x.g k := fun k => by unfold Junk.g; split <;> assumption
  have ef : ∀ k, x'.f k = x.f k := fun k => by unfold Junk.f; split <;> assumption
  refine ⟨fun k hk => ?_, fun k h1 h2 => ?_, h.t⟩
  · rw [eg, ef]; exact h.v k hk
  · rw [eg, ef]; exact h.z k h1 h2
theorem GF.setv {vs : List V2} {x : Junk} {g f : Nat} {l : List Nat} (h : GF vs x) (hn : vs.length < 3) (hg : g ≤ 3) (hf : BitsL f l) : GF (vs ++ [(g, l)]) (x.setv vs.length g f) := by
  have old : ∀ k, k < vs.length → (vs ++ [(g, l)]).getD k (0, []) = vs.getD k (0, []) := fun k hk => by simp [List.getD, List.getElem?_append_left hk]
  have new : (vs ++ [(g, l)]).getD vs.length (0, []) = (g, l) := by simp [List.getD]
  refine ⟨fun k hk => ?_, fun k h1 h2 => ?_, fun e he => ?_⟩
  · by_cases hkn : k = vs.length
    · unfold Gv
      rw [hkn, new]
      have : vs.length = 0 ∨ vs.length = 1 ∨ vs.length = 2 := by omega
      rcases this with e | e | e <;> rw [e] <;> exact ⟨rfl, f, rfl, hf⟩
    · have hk' : k < vs.length := by simp at hk; omega
      unfold Gv
      rw [old k hk']
      have := h.v k hk'
      have hc : (k = 0 ∧ vs.length = 1) ∨ (k = 0 ∧ vs.length = 2) ∨ (k = 1 ∧ vs.length = 2) := by omega
      rcases hc with ⟨rfl, e⟩ | ⟨rfl, e⟩ | ⟨rfl, e⟩ <;> rw [e] <;> exact this
  · simp at h1
    have := h.z k (by omega) h2
    have hc : (k = 1 ∧ vs.length = 0) ∨ (k = 2 ∧ vs.length = 0) ∨ (k = 2 ∧ vs.length = 1) := by omega
    rcases hc with ⟨rfl, e⟩ | ⟨rfl, e⟩ | ⟨rfl, e⟩ <;> rw [e] <;> exact this
  · rcases List.mem_append.1 he with he | he
    · exact h.t e he
    · simp at he; subst he; exact hg
theorem setv_rows (x : Junk) (n : Nat) (g f : Int) : (x.setv n g f).vr = x.vr ∧ (x.setv n g f).vc = x.vc ∧ (x.setv n g f).vh = x.vh := by
  unfold Junk.setv; split <;> exact ⟨rfl, rfl, rfl⟩

/-- The reader while it reads: variables vs, of the rule that is read now the conditions cl and the changes dl, the rules rl. -/
structure St (B M N : Nat) (s : ByteArray) (vs : List V2) (t : T) (x : Junk) (cl : List (Tm × Tm)) (dl : List Chg) (rl : List RA) (w0 w : World) : Prop where
  nr : t.nr = rl.length
  l8 : rl.length ≤ 8
  hN : B < N
  hNw : N ≤ w.heap.size
  lc : cl.length ≤ t.at_
  ld : dl.length ≤ t.at_
  d3 : ∀ d ∈ dl, d.1.toNat < 3
  rb : RB B M s t x w
  rw : RW B N s (Gv vs) x cl dl rl w
  lo : Below M w0 w
  gf : GF vs x
  vl : vs.length = t.n
/-- One or the other, by how it ended. -/
def Done (b : Bool) (F S : Prop) : Prop := match b with
  | false => F
  | true => S
/-- It has failed: only where it stands matters. -/
def Fail (B M : Nat) (s : ByteArray) (t : T) (w0 w : World) : Prop := ∃ x, RB B M s t x w ∧ Below M w0 w
section
variable {B M N : Nat} {s : ByteArray} {vs : List V2} {t t' : T} {x : Junk} {w0 w w' : World} {cl : List (Tm × Tm)} {dl : List Chg} {rl : List RA}
/-- A step that touches the reader alone. -/
theorem St.ex (h : St B M N s vs t x cl dl rl w0 w) (hb : RB B M s t' x w') (hx : Ex B w w') (ha : t.at_ ≤ t'.at_) (hr : t'.nr = t.nr) (hn : t'.n = t.n) : St B M N s vs t' x cl dl rl w0 w' where
  nr := hr.trans h.nr
  l8 := h.l8
  hN := h.hN
  hNw := Nat.le_trans h.hNw hx.size
  lc := Nat.le_trans h.lc ha
  ld := Nat.le_trans h.ld ha
  d3 := h.d3
  rb := hb
  rw := h.rw.ex (M := M) hx.two h.hN h.rb
  lo := h.lo.trans ((hx.two (M := M)).below h.rb.lo (by have := h.rb.ltM; omega))
  gf := h.gf
  vl := h.vl.trans hn.symm
theorem St.fail (h : St B M N s vs t x cl dl rl w0 w) (hb : RB B M s t' x w') (hx : Ex B w w') : Fail B M s t' w0 w' :=
  ⟨x, hb, h.lo.trans ((hx.two (M := M)).below h.rb.lo (by have := h.rb.ltM; omega))⟩
theorem St.drewN (h : St B M N s vs t x cl dl rl w0 w) (n : Nat) : St B M N s vs t x cl dl rl w0 (w.drewN n) := h.ex (h.rb.drewN n) ((Ex.refl B w).drewN n) (Nat.le_refl _) rfl rfl
theorem St.drew (h : St B M N s vs t x cl dl rl w0 w) : St B M N s vs t x cl dl rl w0 w.drew := h.ex h.rb.drew (Ex.refl B w).drew (Nat.le_refl _) rfl rfl
end
end Go.Proofs.YtgoebckimmofoaaGreatDoor

/- The reader of formulas in memory. Our own text. -/
namespace Go.Proofs.YtgoebckimmofoaaGreatDoor
open Go.RowKit Go.Lib

/-- A part's cells: what it holds by, whether it is endless, where it is settled. -/
structure PtV where
  fh : Nat
  ch : Array Value
  e : Bool
  fz : Nat
  cz : Array Value
def PtV.cells (p : PtV) : List Value := [.func (.func p.fh) #[] p.ch, .bool p.e, .func (.func p.fz) #[] p.cz]
def PartOk (w : World) (p : PtV) (q : Pt) : Prop := FnP2 w (.func (.func p.fh) #[] p.ch) q.h ∧ p.e = q.e
/-- One that waits: its sign, and what stands left of it. -/
def binS (o : Nat) : Prop := o = 38 ∨ o = 124 ∨ o = 85 ∨ o = 82 ∨ o = 87
def unS (o : Nat) : Prop := o = 33 ∨ o = 88 ∨ o = 70 ∨ o = 71
structure WV where
  o : Nat
  v : Value
def WV.cells (p : WV) : List Value := [.int .u8 (p.o : Nat), p.v]
def FnOrNil (v : Value) : Prop := v = .nilFunc ∨ ∃ f a, v = .func (.func f) #[] a
def WaitOk (w : World) (p : WV) (e : Nat × G) : Prop := p.o = e.1 ∧ e.1 < 256 ∧ FnOrNil p.v ∧ (binS e.1 → FnP w p.v e.2)
theorem PartOk.kp {w w' : World} {p : PtV} {q : Pt} (h : PartOk w p q) (k : KP w w') : PartOk w' p q := ⟨h.1.kp k, h.2⟩
theorem WaitOk.kp {w w' : World} {p : WV} {e : Nat × G} (h : WaitOk w p e) (k : KP w w') : WaitOk w' p e := ⟨h.1, h.2.1, h.2.2.1, fun hb => (h.2.2.2 hb).kp k⟩
/-- Where the two rows lie. -/
structure FJ where
  ap : Option Addr
  cp : Nat
  aw : Option Addr
  cw : Nat
def frest (wh : Value) (np nw opn deep : Nat) (j : FJ) : List Value := [wh, .slice j.ap np j.cp, .slice j.aw nw j.cw, .int .i64 opn, .int .i64 deep]
/-- The reader of formulas in block B: its parts' values, what waits. -/
structure FRv (B M : Nat) (s : ByteArray) (t : T) (wh : Value) (opn deep : Nat) (pvs : List PtV) (wvs : List WV) (j : FJ) (w : World) : Prop where
  g : RG B M 204 (frest wh pvs.length wvs.length opn deep j) s t w
  p : w.ownsRow (B + 1) 160 3 (.slice j.ap pvs.length j.cp) pvs.length (pvs.flatMap PtV.cells)
  q : w.ownsRow (B + 1) 259 2 (.slice j.aw wvs.length j.cw) wvs.length (wvs.flatMap WV.cells)
/-- What changes lies at B or above, and what closures lean on stays. -/
structure Fr (B : Nat) (w w' : World) : Prop where
  b : Below B w w'
  k : KP w w'
theorem soft_FR : soft 204 = true := by decide
theorem soft_W : soft 259 = true := by decide
theorem soft_P : soft 160 = true := by decide
section
variable {B M : Nat} {s : ByteArray} {t t' : T} {wh : Value} {opn deep : Nat} {pvs : List PtV} {wvs : List WV} {j : FJ} {w w' w2 : World}
theorem Fr.refl (B : Nat) (w : World) : Fr B w w := ⟨Below.refl _ _, KP.refl _⟩
theorem Fr.trans (h : Fr B w w') (k : Fr B w' w2) : Fr B w w2 := ⟨h.b.trans k.b, h.k.trans k.k⟩
theorem Fr.of_below (h : Below w.heap.size w w') (hB : B ≤ w.heap.size) : Fr B w w' := ⟨h.mono hB, KP.of_below h⟩
theorem FRv.lt (h : FRv B M s t wh opn deep pvs wvs j w) : B < w.heap.size := h.g.lt
theorem FRv.c5 (h : FRv B M s t wh opn deep pvs wvs j w) : w.cell? ⟨B, 5, none⟩ = some wh := by simp [World.cell?, h.g.blk, rblk, frest]
theorem FRv.c6 (h : FRv B M s t wh opn deep pvs wvs j w) : w.cell? ⟨B, 6, none⟩ = some (.slice j.ap pvs.length j.cp) := by simp [World.cell?, h.g.blk, rblk, frest]
theorem FRv.c7 (h : FRv B M s t wh opn deep pvs wvs j w) : w.cell? ⟨B, 7, none⟩ = some (.slice j.aw wvs.length j.cw) := by simp [World.cell?, h.g.blk, rblk, frest]
theorem FRv.c8 (h : FRv B M s t wh opn deep pvs wvs j w) : w.cell? ⟨B, 8, none⟩ = some (.int .i64 opn) := by simp [World.cell?, h.g.blk, rblk, frest]
theorem FRv.c9 (h : FRv B M s t wh opn deep pvs wvs j w) : w.cell? ⟨B, 9, none⟩ = some (.int .i64 deep) := by simp [World.cell?, h.g.blk, rblk, frest]
theorem FRv.free (h : FRv B M s t wh opn deep pvs wvs j w) (i : Nat) : w.frozen? ⟨B, i, none⟩ = false := h.g.free i
theorem FRv.below (h : FRv B M s t wh opn deep pvs wvs j w) (hb : Below w.heap.size w w') : FRv B M s t wh opn deep pvs wvs j w' :=
  ⟨h.g.move (hb.block _ h.lt) (hb.block _ (Nat.lt_trans h.g.lo h.lt)), hb.ownsRow' h.p, hb.ownsRow' h.q⟩
theorem FRv.alloc (h : FRv B M s t wh opn deep pvs wvs j w) (o : Obj) : FRv B M s t wh opn deep pvs wvs j (w.alloc o) := h.below ((Below.refl _ _).alloc (Nat.le_refl _) _)
/-- What a step of the reader alone leaves. -/
theorem FRv.up (h : FRv B M s t wh opn deep pvs wvs j w) (g : RG B M 204 (frest wh pvs.length wvs.length opn deep j) s t' w') (e : Ex B w w') : FRv B M s t' wh opn deep pvs wvs j w' :=
  ⟨g, e.ownsRow (Nat.lt_succ_self _) h.p, e.ownsRow (Nat.lt_succ_self _) h.q⟩
theorem FRv.fr (h : FRv B M s t wh opn deep pvs wvs j w) (e : Ex B w w') : Fr B w w' := ⟨e.below (Nat.le_refl _) (Nat.le_of_lt h.lt), KP.of_ex e h.g.blk soft_FR⟩
/-- A store into the reader's own block. -/
theorem FRv.frSet (h : FRv B M s t wh opn deep pvs wvs j w) (i : Nat) (v : Value) : Fr B w (w.setCell ⟨B, i, none⟩ v) := h.fr ((Ex.refl B w).setCell (.inl rfl) v)
theorem FRv.set5 (h : FRv B M s t wh opn deep pvs wvs j w) (v : Value) : FRv B M s t v opn deep pvs wvs j (w.setCell ⟨B, 5, none⟩ v) :=
  ⟨h.g.set 5 v (by simp [rblk, frest]) rfl, ((Ex.refl B w).setCell (.inl rfl) v).ownsRow (Nat.lt_succ_self _) h.p, ((Ex.refl B w).setCell (.inl rfl) v).ownsRow (Nat.lt_succ_self _) h.q⟩
theorem FRv.set8 (h : FRv B M s t wh opn deep pvs wvs j w) (k : Nat) : FRv B M s t wh k deep pvs wvs j (w.setCell ⟨B, 8, none⟩ (.int .i64 k)) :=
  ⟨h.g.set 8 _ (by simp [rblk, frest]) rfl, ((Ex.refl B w).setCell (.inl rfl) _).ownsRow (Nat.lt_succ_self _) h.p, ((Ex.refl B w).setCell (.inl rfl) _).ownsRow (Nat.lt_succ_self _) h.q⟩
theorem FRv.set9 (h : FRv B M s t wh opn deep pvs wvs j w) (k : Nat) : FRv B M s t wh opn k pvs wvs j (w.setCell ⟨B, 9, none⟩ (.int .i64 k)) :=
  ⟨h.g.set 9 _ (by simp [rblk, frest]) rfl, ((Ex.refl B w).setCell (.inl rfl) _).ownsRow (Nat.lt_succ_self _) h.p, ((Ex.refl B w).setCell (.inl rfl) _).ownsRow (Nat.lt_succ_self _) h.q⟩
/-- The row of parts has grown, and the block knows. -/
theorem FRv.grownP {pvs' : List PtV} {ap' : Option Addr} {cp' : Nat} (h : FRv B M s t wh opn deep pvs wvs j w) (g : w.grownBy w' (Value.slice j.ap pvs.length j.cp).ownBlock) (ho : w'.ownsRow (B + 1) 160 3 (.slice ap' pvs'.length cp') pvs'.length (pvs'.flatMap PtV.cells)) :
    FRv B M s t wh opn deep pvs' wvs { j with ap := ap', cp := cp' } (w'.setCell ⟨B, 6, none⟩ (.slice ap' pvs'.length cp')) ∧ Fr B w (w'.setCell ⟨B, 6, none⟩ (.slice ap' pvs'.length cp')) := by
  have hB := ne_own (Nat.lt_succ_self B) h.p
  have hM := ne_own (Nat.lt_trans h.g.lo (Nat.lt_succ_self B)) h.p
  have g1 := h.g.grown g hB hM
  have ex : Ex B w' (w'.setCell ⟨B, 6, none⟩ (.slice ap' pvs'.length cp')) := (Ex.refl B w').setCell (.inl rfl) _
  have q1 : w'.ownsRow (B + 1) 259 2 (.slice j.aw wvs.length j.cw) wvs.length (wvs.flatMap WV.cells) := h.q.kept g (apart_of_types h.q h.p (by decide))
  refine ⟨⟨g1.set 6 _ (by simp [rblk, frest]) rfl, ex.ownsRow (Nat.lt_succ_self _) ho, ex.ownsRow (Nat.lt_succ_self _) q1⟩, ⟨?_, ?_⟩⟩
  · exact ((Below.refl B w).grown g (Nat.le_of_lt h.lt) (ge_own (Nat.le_succ _) h.p)).setCell (Nat.le_refl _) _
  · exact (KP.grown h.p soft_P g).trans (KP.of_ex ex g1.blk soft_FR)
/-- So the row of what waits. -/
theorem FRv.grownW {wvs' : List WV} {aw' : Option Addr} {cw' : Nat} (h : FRv B M s t wh opn deep pvs wvs j w) (g : w.grownBy w' (Value.slice j.aw wvs.length j.cw).ownBlock) (ho : w'.ownsRow (B + 1) 259 2 (.slice aw' wvs'.length cw') wvs'.length (wvs'.flatMap WV.cells)) :
    FRv B M s t wh opn deep pvs wvs' { j with aw := aw', cw := cw' } (w'.setCell ⟨B, 7, none⟩ (.slice aw' wvs'.length cw')) ∧ Fr B w (w'.setCell ⟨B, 7, none⟩ (.slice aw' wvs'.length cw')) := by
  have hB := ne_own (Nat.lt_succ_self B) h.q
  have hM := ne_own (Nat.lt_trans h.g.lo (Nat.lt_succ_self B)) h.q
  have g1 := h.g.grown g hB hM
  have ex : Ex B w' (w'.setCell ⟨B, 7, none⟩ (.slice aw' wvs'.length cw')) := (Ex.refl B w').setCell (.inl rfl) _
  have q1 : w'.ownsRow (B + 1) 160 3 (.slice j.ap pvs.length j.cp) pvs.length (pvs.flatMap PtV.cells) := h.p.kept g (apart_of_types h.p h.q (by decide))
  refine ⟨⟨g1.set 7 _ (by simp [rblk, frest]) rfl, ex.ownsRow (Nat.lt_succ_self _) q1, ex.ownsRow (Nat.lt_succ_self _) ho⟩, ⟨?_, ?_⟩⟩
  · exact ((Below.refl B w).grown g (Nat.le_of_lt h.lt) (ge_own (Nat.le_succ _) h.q)).setCell (Nat.le_refl _) _
  · exact (KP.grown h.q soft_W g).trans (KP.of_ex ex g1.blk soft_FR)
theorem wcells_len : ∀ (l : List WV), (l.flatMap WV.cells).length = l.length * 2
  | [] => rfl
  | x :: l => by
    rw [List.flatMap_cons, List.length_append, wcells_len l, List.length_cons]
    show 2 + l.length * 2 = _
    omega
/-- The innermost goes. -/
theorem FRv.pop {x : WV} (h : FRv B M s t wh opn deep pvs (wvs ++ [x]) j w) : FRv B M s t wh opn deep pvs wvs j (w.setCell ⟨B, 7, none⟩ (.slice j.aw wvs.length j.cw)) := by
  have ex : Ex B w (w.setCell ⟨B, 7, none⟩ (.slice j.aw wvs.length j.cw)) := (Ex.refl B w).setCell (.inl rfl) _
  refine ⟨h.g.set 7 _ (by simp [rblk, frest]) rfl, ex.ownsRow (Nat.lt_succ_self _) h.p, ex.ownsRow (Nat.lt_succ_self _) ?_⟩
  obtain ⟨h1, h2⟩ := h.q
  have hl : (wvs.flatMap WV.cells).length = wvs.length * 2 := wcells_len wvs
  refine ⟨hl, ?_⟩
  rcases h2 with ⟨_, h0⟩ | ⟨g, cap, cur, e, hb, hg, r1, r2, r3, r4⟩
  · simp at h0
  · simp only [Value.slice.injEq] at e
    obtain ⟨e1, _, e2⟩ := e
    refine .inr ⟨g, cap, cur, by rw [e1, e2], hb, hg, by rw [List.length_append] at r1; omega, r2, r3, ?_⟩
    have := congrArg (List.take (wvs.length * 2)) r4
    rw [List.take_take] at this
    rw [show min (wvs.length * 2) ((wvs ++ [x]).length * 2) = wvs.length * 2 by rw [List.length_append]; omega] at this
    rw [this, List.flatMap_append, List.take_append_of_le_length (by omega), List.take_of_length_le (by omega)]
/-- The innermost, in its cells. -/
theorem FRv.last {x : WV} (h : FRv B M s t wh opn deep pvs (wvs ++ [x]) j w) : ∃ g, j.aw = some ⟨g, 0, none⟩ ∧ w.cell? ⟨g, wvs.length * 2, none⟩ = some (.int .u8 (x.o : Nat)) ∧ w.cell? ⟨g, wvs.length * 2 + 1, none⟩ = some x.v ∧ wvs.length + 1 ≤ j.cw := by
  obtain ⟨h1, h2⟩ := h.q
  have hl : (wvs.flatMap WV.cells).length = wvs.length * 2 := wcells_len wvs
  rcases h2 with ⟨_, h0⟩ | ⟨g, cap, cur, e, hb, hg, r1, r2, r3, r4⟩
  · simp at h0
  · simp only [Value.slice.injEq] at e
    obtain ⟨e1, _, e2⟩ := e
    have key : ∀ i u, (((wvs ++ [x]).flatMap WV.cells))[i]? = some u → cur[i]? = some u := fun i u hu => by
      rw [← r4, List.getElem?_take] at hu
      split at hu
      · simpa using hu
      · cases hu
    have e3 : (wvs ++ [x]).flatMap WV.cells = wvs.flatMap WV.cells ++ [.int .u8 (x.o : Nat), x.v] := by rw [List.flatMap_append]; simp [WV.cells]
    refine ⟨g, e1, ?_, ?_, by rw [e2]; simpa using r1⟩
    · have := key (wvs.length * 2) (.int .u8 (x.o : Nat)) (by rw [e3, List.getElem?_append_right (by omega), hl]; simp)
      simp [World.cell?, hg, this]
    · have := key (wvs.length * 2 + 1) x.v (by rw [e3, List.getElem?_append_right (by omega), hl]; simp)
      simp [World.cell?, hg, this]
end
end Go.Proofs.YtgoebckimmofoaaGreatDoor

/- The code's reader: a condition of a rule is kept. Our own text. -/
namespace Go.Proofs.YtgoebckimmofoaaGreatDoor
open Go.RowKit Go.Lib

theorem Tryz.infoC : (Tryz.prog.info? 217).map (fun i => (i.zero, i.size, i.bytes)) = some (some .nilFunc, 1, 8) := by kernel_rfl
theorem Tryz.infoD : (Tryz.prog.info? 270).map (fun i => (i.zero, i.size, i.bytes)) = some (some .nilFunc, 1, 8) := by kernel_rfl
theorem Tryz.infoR : (Tryz.prog.info? 149).map (fun i => (i.zero, i.size, i.bytes)) = some (some .nilFunc, 1, 8) := by kernel_rfl
theorem nil_oneCell : ∀ u ∈ [Value.nilFunc], u.oneCell' = true := by
  intro u hu; simp at hu; subst hu; rfl

section
variable {B M N : Nat} {s : ByteArray} {vs : List V2} {t : T} {x : Junk} {w0 w w5 : World} {cl : List (Tm × Tm)} {dl : List Chg} {rl : List RA} {v : Value} {ys : List Value} {g cap : Nat}
/-- A row of the reader has grown: what else stands. -/
theorem St.grown_fail (h : St B M N s vs t x cl dl rl w0 w) {e : TypeId} {vv : Value} {n : Nat} (ho : w.ownsRow N e 1 vv n ys) (o : Obj) (hg : (w.alloc o).grownBy w5 vv.ownBlock) (i : Nat) (u : Value) : Below M w0 (w5.setCell ⟨B, i, none⟩ u) := by
  have hM := h.rb.lo
  have hN := h.hN
  have h2 : Below M w0 (w.alloc o) := h.lo.alloc (by have := h.rb.ltM; omega) _
  exact (h2.grown hg (by have := h.rb.ltM; simp; omega) (ge_own (by omega) ho)).setCell (by show M ≤ B; omega) _
theorem St.cond_fail (h : St B M N s vs t x cl dl rl w0 w) (ho : w.ownsRow N 217 1 x.vc cl.length ys) (hg : (w.alloc (.cells #[v] 217)).grownBy w5 x.vc.ownBlock) (u : Value) : Fail B M s t w0 (w5.setCell ⟨B, 5, none⟩ u) := by
  have hM := h.rb.lo
  have hN := h.hN
  exact ⟨_, ((h.rb.alloc _).grown hg (ne_own hN ho) (ne_own (by omega) ho)).set5 u, h.grown_fail ho _ hg 5 u⟩
theorem St.cond_push (h : St B M N s vs t x cl dl rl w0 w) {c : Tm × Tm} (ha : cl.length < t.at_) (ho : w.ownsRow N 217 1 x.vc cl.length ys) (hm : All2 (fun v c => FnK 0 w v (fun y => .bool (cdP s c y))) ys cl) (hv : FnK 0 w v (fun y => .bool (cdP s c y)))
    (hg : (w.alloc (.cells #[v] 217)).grownBy w5 x.vc.ownBlock) (hr : w5.ownsRow N 217 1 (.slice (some ⟨g, 0, none⟩) (cl.length + 1) cap) (cl.length + 1) (ys ++ [v])) :
    St B M N s vs t { x with vc := .slice (some ⟨g, 0, none⟩) (cl.length + 1) cap } (cl ++ [c]) dl rl w0 (w5.setCell ⟨B, 5, none⟩ (.slice (some ⟨g, 0, none⟩) (cl.length + 1) cap)) := by
  have hM := h.rb.lo
  have hN := h.hN
  have hb5 := (h.rb.alloc (.cells #[v] 217)).grown hg (ne_own hN ho) (ne_own (by omega) ho)
  have kA : ∀ Z, Kp Z w (w.alloc (.cells #[v] 217)) := fun Z => Kp.alloc _ _ _
  have kG : Kp N (w.alloc (.cells #[v] 217)) w5 := Kp.grown (ho.alloc _) (.inr ⟨by decide, Nat.le_refl _⟩) hg
  have kS : ∀ Z, Kp Z w5 (w5.setCell ⟨B, 5, none⟩ (.slice (some ⟨g, 0, none⟩) (cl.length + 1) cap)) := fun Z => Kp.softSet (p := ⟨B, 5, none⟩) hb5.g.blk soft_R _
  have kN : Kp N w (w5.setCell ⟨B, 5, none⟩ (.slice (some ⟨g, 0, none⟩) (cl.length + 1) cap)) := ((kA N).trans kG).trans (kS N)
  have k0 := kN.mono (Nat.zero_le _)
  obtain ⟨⟨xs, r1, r2⟩, -, ⟨zs, d1, d2⟩⟩ := h.rw
  have FR := ownsRow_setCell_below ((r1.alloc (.cells #[v] 217)).kept hg (apart_of_types r1 ho (by decide))) (a := ⟨B, 5, none⟩) (Nat.lt_succ_self B) (.slice (some ⟨g, 0, none⟩) (cl.length + 1) cap)
  have FH := ownsRow_setCell_below ((d1.alloc (.cells #[v] 217)).kept hg (apart_of_types d1 ho (by decide))) (a := ⟨B, 5, none⟩) hN (.slice (some ⟨g, 0, none⟩) (cl.length + 1) cap)
  have FC := ownsRow_setCell_below hr (a := ⟨B, 5, none⟩) hN (.slice (some ⟨g, 0, none⟩) (cl.length + 1) cap)
  exact ⟨h.nr, h.l8, h.hN, Nat.le_trans h.hNw k0.size, (by simp; omega), h.ld, h.d3, hb5.set5 _,
    ⟨⟨xs, FR, r2.mono (fun _ _ h => h.kp kN)⟩, ⟨ys ++ [v], by rw [List.length_append]; exact FC, All2.snoc (R := fun v c => FnK 0 (w5.setCell ⟨B, 5, none⟩ (.slice (some ⟨g, 0, none⟩) (cl.length + 1) cap)) v (fun y => .bool (cdP s c y))) (b := c) (hv.kp k0) (hm.mono (fun _ _ h => h.kp k0))⟩, ⟨zs, FH, d2.mono (fun _ _ h => h.kp k0)⟩⟩,
    h.grown_fail ho _ hg 5 _, h.gf.same ⟨rfl, rfl, rfl, rfl, rfl, rfl⟩, h.vl⟩

theorem cond_parts {t' : T} (h : pCond s t = (true, t')) : t.at_ < t'.at_ := by
  unfold pCond at h
  split at h
  · cases h
  · next t1 e1 =>
    have s1 := pTerm_same e1
    split at h
    · cases h
    · next t2 e2 =>
      obtain ⟨rfl, _⟩ := pCmp_same e2
      split at h
      · cases h
      · next t3 e3 =>
        have s3 := (pTerm_same e3).1
        have : t1.adv.at_ = t1.at_ + 1 := rfl
        cases h; omega
set_option maxRecDepth 100000 in
set_option maxHeartbeats 1600000 in
theorem ruleCond_any {b : Bool} {t' : T} (hs : s.size ≤ 120) (hat : t.at_ ≤ s.size) (h : St B M N s vs t x cl dl rl w0 w) (hp : pCond s t = (b, t')) :
    Calls Tryz.prog 76 #[.pointer (some ⟨B, 0, none⟩)] w fun e w' => e = .returned (.bool b) ∧ Done b (Fail B M s t' w0 w') (∃ x', St B M N s vs t' x' (cl ++ [cdOf s t.at_]) dl rl w0 w') := by
  obtain ⟨i0, hi, hz0, hz1, hz2⟩ := info_parts Tryz.infoC
  have sm := pCond_same hp hat
  have hNw := h.hNw
  cases b with
  | false =>
    go_enter Tryz.func76, Tryz.ntmps76
    go_wp2_with fail
    refine (cond_no hs hat h.rb.g hp).mono ?_; rintro e w1 ⟨rfl, hg1, hx1⟩
    have hb1 : RB B M s t' x w1 := h.rb.up hg1 hx1 sm.2.1 sm.2.2.2.1
    have h1 := h.ex hb1 hx1 sm.1 sm.2.2.1 sm.2.1
    have c5 := hb1.c5
    obtain ⟨ys, ho, hm⟩ := h1.rw.c
    have HH : Put (_ ∧ _) := ⟨h1, ho⟩
    have hl := h1.lc
    have hsz := hx1.size
    clear h1 h hg1 hb1 hx1 hm
    go_wp2_with (at_builtin; refine wpList_append_own _ rfl _ _ 116 rfl N 217 i0 .nilFunc 1 8 Tryz.underlying116 hi hz0 hz1 hz2 rfl Nat.one_pos _ _ _ rfl (HH.out.2.alloc _) ⟨w1.heap.size, 0, none⟩ 1 1 [.nilFunc] rfl rfl (cell_one_new _ _ _) nil_oneCell (by unfold maxLen; omega) (by omega) (by simp; omega) ?_)
    intro v' w5 hown' hgrow _
    obtain ⟨g5, cap5, rfl⟩ := ownsRow_succ hown'
    have hb5 := (HH.out.1.rb.alloc (.cells #[.nilFunc] 217)).grown hgrow (ne_own HH.out.1.hN HH.out.2) (ne_own (by have := HH.out.1.rb.lo; have := HH.out.1.hN; omega) HH.out.2)
    have d5 := hb5.c5
    have f5 := hb5.free 5
    have FIN : Put (Fail B M s t' w0 (w5.setCell ⟨B, 5, none⟩ (.slice (some ⟨g5, 0, none⟩) (cl.length + 1) cap5))) := ⟨HH.out.1.cond_fail HH.out.2 hgrow _⟩
    clear hb5 hown' hgrow ho HH
    go_wp2
    go_ret
    exact ⟨rfl, FIN.out⟩
  | true =>
    have hlt := cond_parts hp
    go_enter Tryz.func76, Tryz.ntmps76
    go_wp2_with fail
    refine (cond_yes soft_R hs hat h.rb.g hp).mono ?_; rintro e w1 ⟨⟨f1, a1, rfl, hf1⟩, hg1, hx1⟩
    have hb1 : RB B M s t' x w1 := h.rb.up hg1 hx1 sm.2.1 sm.2.2.2.1
    have h1 := h.ex hb1 hx1 sm.1 sm.2.2.1 sm.2.1
    have c5 := hb1.c5
    obtain ⟨ys, ho, hm⟩ := h1.rw.c
    have HH : Put (_ ∧ _ ∧ _ ∧ _) := ⟨h1, ho, hm, hf1⟩
    have hl := h.lc
    have hsz := hx1.size
    clear h1 h hg1 hb1 hx1 hm hf1
    go_wp2_with (at_builtin; refine wpList_append_own _ rfl _ _ 116 rfl N 217 i0 .nilFunc 1 8 Tryz.underlying116 hi hz0 hz1 hz2 rfl Nat.one_pos _ _ _ rfl (HH.out.2.1.alloc _) ⟨w1.heap.size, 0, none⟩ 1 1 [.func f1 #[] a1] rfl rfl (cell_one_new _ _ _) (func_oneCell _ _ _) (by unfold maxLen; omega) (by omega) (by simp; omega) ?_)
    intro v' w5 hown' hgrow _
    obtain ⟨g5, cap5, rfl⟩ := ownsRow_succ hown'
    have hb5 := (HH.out.1.rb.alloc (.cells #[.func f1 #[] a1] 217)).grown hgrow (ne_own HH.out.1.hN HH.out.2.1) (ne_own (by have := HH.out.1.rb.lo; have := HH.out.1.hN; omega) HH.out.2.1)
    have d5 := hb5.c5
    have f5 := hb5.free 5
    have FIN : Put (∃ x', St B M N s vs t' x' (cl ++ [cdOf s t.at_]) dl rl w0 (w5.setCell ⟨B, 5, none⟩ (.slice (some ⟨g5, 0, none⟩) (cl.length + 1) cap5))) := ⟨_, HH.out.1.cond_push (by omega) HH.out.2.1 HH.out.2.2.1 HH.out.2.2.2 hgrow hown'⟩
    clear hb5 hown' hgrow ho HH
    go_wp2
    go_ret
    exact ⟨rfl, FIN.out⟩
end
end Go.Proofs.YtgoebckimmofoaaGreatDoor
