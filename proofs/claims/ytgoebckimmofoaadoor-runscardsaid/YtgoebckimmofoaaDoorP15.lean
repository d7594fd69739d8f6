import Derived.Test.YtgoebckimmofoaaDoorP14
/- The reader of models while it reads: what stands in its blocks and rows. Our own text. -/
namespace Go.Proofs.YtgoebckimmofoaaDoor
open Go.RowKit Go.Lib

theorem Kp.of_ex2 {N B M : Nat} {w w' : World} {cs ds : Array Value} {ty tz : TypeId} {fz gz : Nat × Nat} (h : Ex2 B M w w') (hB : w.heap[B]? = some (.cells cs ty fz)) (hs : soft ty = true) (hM : w.heap[M]? = some (.cells ds tz gz)) (hz : soft tz = true) : Kp N w w' :=
  ⟨h.size, fun k cs' t fz' hc _ h1 _ => h.block k (lt_of_block hc)
    (fun e => by subst e; rw [hB] at hc; simp at hc; obtain ⟨_, rfl, _⟩ := hc; rw [hs] at h1; cases h1)
    (fun e => by subst e; rw [hM] at hc; simp at hc; obtain ⟨_, rfl, _⟩ := hc; rw [hz] at h1; cases h1)⟩

def mblk (t : T) (x : Junk) : Array Value :=
  #[.int .i64 x.g0, .int .u8 x.f0, .int .i64 x.g1, .int .u8 x.f1, .int .i64 x.g2, .int .u8 x.f2, .int .i64 t.n, x.vr]
/-- The reader of models in block B, its machine in block M. -/
structure RB (B M : Nat) (s : ByteArray) (t : T) (x : Junk) (w : World) : Prop where
  g : RG B M 81 [x.vc, x.vh, .int .u8 t.chd] s t w
  m : w.heap[M]? = some (.cells (mblk t x) 74 (0, 0))
section
variable {B M : Nat} {s : ByteArray} {t t' : T} {x : Junk} {w w' : World}
theorem RB.lt (h : RB B M s t x w) : B < w.heap.size := h.g.lt
theorem RB.lo (h : RB B M s t x w) : M < B := h.g.lo
theorem RB.ltM (h : RB B M s t x w) : M < w.heap.size := Nat.lt_trans h.g.lo h.g.lt
theorem RB.free (h : RB B M s t x w) (i : Nat) : w.frozen? ⟨B, i, none⟩ = false := h.g.free i
theorem RB.freeM (h : RB B M s t x w) (i : Nat) : w.frozen? ⟨M, i, none⟩ = false := by simp [World.frozen?, h.m]
theorem RB.c1 (h : RB B M s t x w) : w.cell? ⟨B, 1, none⟩ = some (.int .i64 t.at_) := h.g.c1
theorem RB.c2 (h : RB B M s t x w) : w.cell? ⟨B, 2, none⟩ = some (.pointer (some ⟨M, 0, none⟩)) := h.g.c2
theorem RB.c3 (h : RB B M s t x w) : w.cell? ⟨B, 3, none⟩ = some (.int .i64 t.flt) := h.g.c3
theorem RB.c4 (h : RB B M s t x w) : w.cell? ⟨B, 4, none⟩ = some (.int .i64 t.plc) := h.g.c4
theorem RB.c5 (h : RB B M s t x w) : w.cell? ⟨B, 5, none⟩ = some x.vc := by simp [World.cell?, h.g.blk, rblk]
theorem RB.c6 (h : RB B M s t x w) : w.cell? ⟨B, 6, none⟩ = some x.vh := by simp [World.cell?, h.g.blk, rblk]
theorem RB.c7 (h : RB B M s t x w) : w.cell? ⟨B, 7, none⟩ = some (.int .u8 t.chd) := by simp [World.cell?, h.g.blk, rblk]
theorem RB.m0 (h : RB B M s t x w) : w.cell? ⟨M, 0, none⟩ = some (.int .i64 x.g0) := by simp [World.cell?, h.m, mblk]
theorem RB.m1 (h : RB B M s t x w) : w.cell? ⟨M, 1, none⟩ = some (.int .u8 x.f0) := by simp [World.cell?, h.m, mblk]
theorem RB.m2 (h : RB B M s t x w) : w.cell? ⟨M, 2, none⟩ = some (.int .i64 x.g1) := by simp [World.cell?, h.m, mblk]
theorem RB.m3 (h : RB B M s t x w) : w.cell? ⟨M, 3, none⟩ = some (.int .u8 x.f1) := by simp [World.cell?, h.m, mblk]
theorem RB.m4 (h : RB B M s t x w) : w.cell? ⟨M, 4, none⟩ = some (.int .i64 x.g2) := by simp [World.cell?, h.m, mblk]
theorem RB.m5 (h : RB B M s t x w) : w.cell? ⟨M, 5, none⟩ = some (.int .u8 x.f2) := by simp [World.cell?, h.m, mblk]
theorem RB.m6 (h : RB B M s t x w) : w.cell? ⟨M, 6, none⟩ = some (.int .i64 t.n) := by simp [World.cell?, h.m, mblk]
theorem RB.m7 (h : RB B M s t x w) : w.cell? ⟨M, 7, none⟩ = some x.vr := by simp [World.cell?, h.m, mblk]
theorem RB.move (h : RB B M s t x w) (e1 : w'.heap[B]? = w.heap[B]?) (e2 : w'.heap[M]? = w.heap[M]?) : RB B M s t x w' := ⟨h.g.move e1 e2, e2.trans h.m⟩
theorem RB.drewN (h : RB B M s t x w) (n : Nat) : RB B M s t x (w.drewN n) := h.move rfl rfl
theorem RB.drew (h : RB B M s t x w) : RB B M s t x w.drew := h.move rfl rfl
theorem RB.alloc (h : RB B M s t x w) (o : Obj) : RB B M s t x (w.alloc o) := h.move (Below.heap_alloc _ _ _ h.lt) (Below.heap_alloc _ _ _ h.ltM)
theorem RB.set_other (h : RB B M s t x w) {p : Addr} (hp : p.block ≠ B) (hq : p.block ≠ M) (v : Value) : RB B M s t x (w.setCell p v) :=
  h.move (heap_setCell_other _ _ _ _ (fun e => hp e.symm)) (heap_setCell_other _ _ _ _ (fun e => hq e.symm))
theorem RB.grown {row : Option Nat} (h : RB B M s t x w) (g : w.grownBy w' row) (hr : row ≠ some B) (hq : row ≠ some M) : RB B M s t x w' :=
  h.move (g.block B h.lt (fun e => hr e.symm)) (g.block M h.ltM (fun e => hq e.symm))
/-- What a step of the reader alone leaves. -/
theorem RB.up (h : RB B M s t x w) (g : RG B M 81 [x.vc, x.vh, .int .u8 t.chd] s t' w') (e : Ex B w w') (hn : t'.n = t.n) (hc : t'.chd = t.chd) : RB B M s t' x w' :=
  ⟨by rw [hc]; exact g, by have := (e.block M h.ltM (Nat.ne_of_lt h.lo)).trans h.m; unfold mblk at *; rw [hn]; exact this⟩
theorem RB.set5 (h : RB B M s t x w) (v : Value) : RB B M s t { x with vc := v } (w.setCell ⟨B, 5, none⟩ v) :=
  ⟨h.g.set 5 v (by simp [rblk]) rfl, (heap_setCell_other _ _ _ _ (show M ≠ B from Nat.ne_of_lt h.lo)).trans h.m⟩
theorem RB.set6 (h : RB B M s t x w) (v : Value) : RB B M s t { x with vh := v } (w.setCell ⟨B, 6, none⟩ v) :=
  ⟨h.g.set 6 v (by simp [rblk]) rfl, (heap_setCell_other _ _ _ _ (show M ≠ B from Nat.ne_of_lt h.lo)).trans h.m⟩
theorem RB.set7 (h : RB B M s t x w) (k : Nat) : RB B M s { t with chd := k } x (w.setCell ⟨B, 7, none⟩ (.int .u8 k)) :=
  ⟨h.g.set 7 _ (by simp [rblk]) rfl, (heap_setCell_other _ _ _ _ (show M ≠ B from Nat.ne_of_lt h.lo)).trans h.m⟩
theorem RB.setM (h : RB B M s t x w) (i : Nat) (v : Value) {x' : Junk} {n : Nat} (e : (mblk t x).setIfInBounds i v = mblk { t with n := n } x') (hc : x'.vc = x.vc) (hh : x'.vh = x.vh) : RB B M s { t with n := n } x' (w.setCell ⟨M, i, none⟩ v) := by
  have hm := heap_setCell_same w M i (mblk t x) 74 v h.m
  rw [e] at hm
  refine ⟨⟨?_, ⟨_, _, hm, by simp [mblk]⟩, h.lo⟩, hm⟩
  rw [hc, hh]
  exact (heap_setCell_other _ _ _ _ (show B ≠ M from fun e => Nat.ne_of_lt h.lo e.symm)).trans h.g.blk
theorem RB.setn (h : RB B M s t x w) (k : Nat) : RB B M s { t with n := k } x (w.setCell ⟨M, 6, none⟩ (.int .i64 k)) := h.setM 6 _ rfl rfl rfl
theorem RB.setr (h : RB B M s t x w) (v : Value) : RB B M s t { x with vr := v } (w.setCell ⟨M, 7, none⟩ v) := h.setM (n := t.n) 7 v rfl rfl rfl
theorem RB.setnr (h : RB B M s t x w) (k : Nat) : RB B M s { t with nr := k } x w := ⟨⟨h.g.blk, h.g.cnt, h.g.lo⟩, h.m⟩
def Junk.setv (x : Junk) (k : Nat) (g f : Int) : Junk := match k with
  | 0 => { x with g0 := g, f0 := f }
  | 1 => { x with g1 := g, f1 := f }
  | _ => { x with g2 := g, f2 := f }
theorem RB.setv0 (h : RB B M s t x w) (g c : Int) : RB B M s t (x.setv 0 g c) ((w.setCell ⟨M, 0, none⟩ (.int .i64 g)).setCell ⟨M, 1, none⟩ (.int .u8 c)) :=
  (h.setM (n := t.n) (x' := { x with g0 := g }) 0 (.int .i64 g) rfl rfl rfl).setM (n := t.n) 1 _ rfl rfl rfl
theorem RB.setv1 (h : RB B M s t x w) (g c : Int) : RB B M s t (x.setv 1 g c) ((w.setCell ⟨M, 2, none⟩ (.int .i64 g)).setCell ⟨M, 3, none⟩ (.int .u8 c)) :=
  (h.setM (n := t.n) (x' := { x with g1 := g }) 2 (.int .i64 g) rfl rfl rfl).setM (n := t.n) 3 _ rfl rfl rfl
theorem RB.setv2 (h : RB B M s t x w) (g c : Int) : RB B M s t (x.setv 2 g c) ((w.setCell ⟨M, 4, none⟩ (.int .i64 g)).setCell ⟨M, 5, none⟩ (.int .u8 c)) :=
  (h.setM (n := t.n) (x' := { x with g2 := g }) 4 (.int .i64 g) rfl rfl rfl).setM (n := t.n) 5 _ rfl rfl rfl

/-! The reader's small steps, of this reader. -/
theorem take_no (c : Nat) (hs : s.size ≤ 120) (hat : t.at_ ≤ s.size) (hc : c ≤ 255) (hb : RB B M s t x w) (hn : num? s t.at_ c 0 0 = none) :
    Calls Tryd.prog 50 #[.pointer (some ⟨B, 0, none⟩), .int .u8 c] w fun e w' => e = .returned (.bool false) ∧ RB B M s t x w' ∧ Ex B w w' :=
  (take_no0 c hs hat hc hb.g hn).mono fun _ _ ⟨h1, h2, h3⟩ => ⟨h1, hb.up h2 h3 rfl rfl, h3⟩
theorem take_yes (c k : Nat) (hs : s.size ≤ 120) (hc : c ≤ 255) (hb : RB B M s t x w) (hn : num? s t.at_ c 0 0 = some k) :
    Calls Tryd.prog 50 #[.pointer (some ⟨B, 0, none⟩), .int .u8 c] w fun e w' => e = .returned (.bool true) ∧ RB B M s t.adv x w' ∧ Ex B w w' :=
  (take_yes0 c k hs hc hb.g hn).mono fun _ _ ⟨h1, h2, h3⟩ => ⟨h1, hb.up h2 h3 rfl rfl, h3⟩
theorem take_no' {c : Int} (k : Nat) (e : c = (k : Int)) (hs : s.size ≤ 120) (hat : t.at_ ≤ s.size) (hc : k ≤ 255) (hb : RB B M s t x w) (hn : num? s t.at_ k 0 0 = none) :
    Calls Tryd.prog 50 #[.pointer (some ⟨B, 0, none⟩), .int .u8 c] w fun e w' => e = .returned (.bool false) ∧ RB B M s t x w' ∧ Ex B w w' := by
  subst e; exact take_no k hs hat hc hb hn
theorem take_yes' {c : Int} (k j : Nat) (e : c = (k : Int)) (hs : s.size ≤ 120) (hc : k ≤ 255) (hb : RB B M s t x w) (hn : num? s t.at_ k 0 0 = some j) :
    Calls Tryd.prog 50 #[.pointer (some ⟨B, 0, none⟩), .int .u8 c] w fun e w' => e = .returned (.bool true) ∧ RB B M s t.adv x w' ∧ Ex B w w' := by
  subst e; exact take_yes k j hs hc hb hn
theorem digit_no (lo : Nat) (hs : s.size ≤ 120) (hat : t.at_ ≤ s.size) (hlo : lo ≤ 10) (hb : RB B M s t x w) (hn : num? s t.at_ 48 lo 3 = none) :
    Calls Tryd.prog 67 #[.pointer (some ⟨B, 0, none⟩), .int .i64 lo] w fun e w' => e = .returned (.tuple #[.int .i64 0, .bool false]) ∧ RB B M s t x w' ∧ Ex B w w' :=
  (digit_no0 lo hs hat hlo hb.g hn).mono fun _ _ ⟨h1, h2, h3⟩ => ⟨h1, hb.up h2 h3 rfl rfl, h3⟩
theorem digit_yes (lo k : Nat) (hs : s.size ≤ 120) (hlo : lo ≤ 10) (hb : RB B M s t x w) (hn : num? s t.at_ 48 lo 3 = some k) :
    Calls Tryd.prog 67 #[.pointer (some ⟨B, 0, none⟩), .int .i64 lo] w fun e w' => e = .returned (.tuple #[.int .i64 k, .bool true]) ∧ RB B M s t.adv x w' ∧ Ex B w w' :=
  (digit_yes0 lo k hs hlo hb.g hn).mono fun _ _ ⟨h1, h2, h3⟩ => ⟨h1, hb.up h2 h3 rfl rfl, h3⟩
theorem digit_no' {c : Int} (lo : Nat) (e : c = (lo : Int)) (hs : s.size ≤ 120) (hat : t.at_ ≤ s.size) (hlo : lo ≤ 10) (hb : RB B M s t x w) (hn : num? s t.at_ 48 lo 3 = none) :
    Calls Tryd.prog 67 #[.pointer (some ⟨B, 0, none⟩), .int .i64 c] w fun e w' => e = .returned (.tuple #[.int .i64 0, .bool false]) ∧ RB B M s t x w' ∧ Ex B w w' := by
  subst e; exact digit_no lo hs hat hlo hb hn
theorem digit_yes' {c : Int} (lo k : Nat) (e : c = (lo : Int)) (hs : s.size ≤ 120) (hlo : lo ≤ 10) (hb : RB B M s t x w) (hn : num? s t.at_ 48 lo 3 = some k) :
    Calls Tryd.prog 67 #[.pointer (some ⟨B, 0, none⟩), .int .i64 c] w fun e w' => e = .returned (.tuple #[.int .i64 k, .bool true]) ∧ RB B M s t.adv x w' ∧ Ex B w w' := by
  subst e; exact digit_yes lo k hs hlo hb hn
theorem blame_any (f : Nat) (hat : 1 ≤ t.at_) (hat2 : t.at_ ≤ 120) (hb : RB B M s t x w) :
    Calls Tryd.prog 68 #[.pointer (some ⟨B, 0, none⟩), .int .i64 f] w fun e w' => e = .returned (.tuple #[]) ∧ RB B M s (t.blame f) x w' ∧ Ex B w w' :=
  (blame_any0 f hat hat2 hb.g).mono fun _ _ ⟨h1, h2, h3⟩ => ⟨h1, hb.up h2 h3 (blame_same t f).2.1 (blame_same t f).2.2.2, h3⟩
theorem name_no (hs : s.size ≤ 120) (hat : t.at_ ≤ s.size) (hb : RB B M s t x w) (hn : num? s t.at_ 97 0 2 = none) :
    Calls Tryd.prog 72 #[.pointer (some ⟨B, 0, none⟩)] w fun e w' => e = .returned (.tuple #[.int .i64 0, .bool false]) ∧ RB B M s t x w' ∧ Ex B w w' :=
  (name_no0 hs hat hb.g hn).mono fun _ _ ⟨h1, h2, h3⟩ => ⟨h1, hb.up h2 h3 rfl rfl, h3⟩
theorem name_yes (k : Nat) (hs : s.size ≤ 120) (hb : RB B M s t x w) (hn : num? s t.at_ 97 0 2 = some k) :
    Calls Tryd.prog 72 #[.pointer (some ⟨B, 0, none⟩)] w fun e w' => e = .returned (.tuple #[.int .i64 k, .bool true]) ∧ RB B M s (t.named k) x w' ∧ Ex B w w' :=
  (name_yes0 k hs hb.g hn).mono fun _ _ ⟨h1, h2, h3⟩ => ⟨h1, hb.up h2 h3 (named_same t k).2.1 (named_same t k).2.2.2, h3⟩
theorem rterm_no (hs : s.size ≤ 120) (hat : t.at_ ≤ s.size) (hb : RB B M s t x w) (hn : pTerm s t = none) :
    Calls Tryd.prog 81 #[.pointer (some ⟨B, 0, none⟩)] w fun e w' => e = .returned (.tuple #[.nilFunc, .bool false]) ∧ RB B M s t x w' ∧ Ex B w w' :=
  (term_no hs hat hb.g hn).mono fun _ _ ⟨h1, h2, h3⟩ => ⟨h1, hb.up h2 h3 rfl rfl, h3⟩
theorem rterm_yes (hs : s.size ≤ 120) (hat : t.at_ ≤ s.size) (hb : RB B M s t x w) (hn : pTerm s t = some t') :
    Calls Tryd.prog 81 #[.pointer (some ⟨B, 0, none⟩)] w fun e w' => (∃ f a, e = .returned (.tuple #[.func f #[] a, .bool true]) ∧ FnK 0 w' (.func f #[] a) (fun x => .int .i64 (tmV (tmOf s t.at_) x : Nat))) ∧ RB B M s t' x w' ∧ Ex B w w' :=
  (term_yes hs hat hb.g hn).mono fun _ _ ⟨h1, h2, h3⟩ => ⟨h1, hb.up h2 h3 (pTerm_same hn).2.1 (pTerm_same hn).2.2.2, h3⟩
theorem ratEnd (hat : t.at_ ≤ s.size) (hb : RB B M s t x w) :
    Calls Tryd.prog 51 #[.pointer (some ⟨B, 0, none⟩)] w fun e w' => e = .returned (.bool (decide (t.at_ = s.size))) ∧ RB B M s t x w' ∧ Ex B w w' :=
  (atEnd_any hat hb.g).mono fun _ _ ⟨h1, h2, h3⟩ => ⟨h1, hb.up h2 h3 rfl rfl, h3⟩
end

/-- What the three rows of a reader mean. -/
structure RW (B N : Nat) (s : ByteArray) (G : Nat → Nat) (x : Junk) (cl : List (Tm × Tm)) (dl : List Chg) (rl : List RA) (w : World) : Prop where
  r : ∃ xs, w.ownsRow (B + 1) 116 1 x.vr rl.length xs ∧ All2 (fun v r => FnK N w v (fun y => .int .u64 (ruP s G r y : Nat))) xs rl
  c : ∃ xs, w.ownsRow N 137 1 x.vc cl.length xs ∧ All2 (fun v c => FnK 0 w v (fun y => .bool (cdP s c y))) xs cl
  h : ∃ xs, w.ownsRow N 160 1 x.vh dl.length xs ∧ All2 (fun v d => FnK2 w v (fun y m => .int .u64 (spr m d.1.toNat (toP s d (G d.1.toNat + 1) y) : Nat))) xs dl
section
variable {B M N : Nat} {s : ByteArray} {G : Nat → Nat} {t : T} {x : Junk} {w : World} {cl : List (Tm × Tm)} {dl : List Chg} {rl : List RA}
theorem ne_own {w : World} {B N e z n : Nat} {v : Value} {xs : List Value} (hN : B < N) (h : w.ownsRow N e z v n xs) : v.ownBlock ≠ some B := by
  intro e'; have := (h.lt B e').1; omega
theorem ge_own {w : World} {B N e z n : Nat} {v : Value} {xs : List Value} (hN : B ≤ N) (h : w.ownsRow N e z v n xs) : ∀ k, v.ownBlock = some k → B ≤ k := by
  intro k hk; have := (h.lt k hk).1; omega
theorem soft_R : soft 81 = true := by decide
theorem soft_M : soft 74 = true := by decide
theorem RB.kp {w' : World} (h : RB B M s t x w) (e : Ex2 B M w w') (Z : Nat) : Kp Z w w' := Kp.of_ex2 e h.g.blk soft_R h.m soft_M
theorem RW.ex {w' : World} (h : RW B N s G x cl dl rl w) (e : Ex2 B M w w') (hN : B < N) (hb : RB B M s t x w) : RW B N s G x cl dl rl w' := by
  obtain ⟨⟨xs, r1, r2⟩, ⟨ys, c1, c2⟩, ⟨zs, d1, d2⟩⟩ := h
  have hM := hb.lo
  have k : ∀ Z, Kp Z w w' := hb.kp e
  exact ⟨⟨xs, e.ownsRow (by omega) (by omega) r1, r2.mono (fun _ _ h => h.kp (k _))⟩, ⟨ys, e.ownsRow hN (by omega) c1, c2.mono (fun _ _ h => h.kp (k _))⟩, ⟨zs, e.ownsRow hN (by omega) d1, d2.mono (fun _ _ h => h.kp (k _))⟩⟩
theorem RW.same {x' : Junk} (h : RW B N s G x cl dl rl w) (e1 : x'.vr = x.vr) (e2 : x'.vc = x.vc) (e3 : x'.vh = x.vh) : RW B N s G x' cl dl rl w :=
  ⟨by rw [e1]; exact h.r, by rw [e2]; exact h.c, by rw [e3]; exact h.h⟩
end

def BitsL (f : Nat) (l : List Nat) : Prop := f < 16 ∧ ∀ v, v < 4 → f.testBit v = decide (v ∈ l)
theorem bits4_or : ∀ c : Nat, c < 16 → ∀ k : Nat, k < 4 → c ||| 2 ^ k < 16 ∧ ∀ j : Nat, j < 4 → (c ||| 2 ^ k).testBit j = (c.testBit j || decide (j = k)) := by decide
theorem BitsL.nil : BitsL 0 [] := ⟨by omega, fun v _ => by simp⟩
theorem BitsL.snoc {f : Nat} {l : List Nat} (h : BitsL f l) (v : Nat) (hv : v ≤ 3) : BitsL (f ||| 2 ^ v) (l ++ [v]) := by
  have := bits4_or f h.1 v (by omega)
  refine ⟨this.1, fun j hj => ?_⟩
  rw [this.2 j hj, h.2 j hj]
  simp
def Junk.g (x : Junk) : Nat → Int
  | 0 => x.g0
  | 1 => x.g1
  | _ => x.g2
def Junk.f (x : Junk) : Nat → Int
  | 0 => x.f0
  | 1 => x.f1
  | _ => x.f2
/-- A variable: its greatest value, its first ones. -/
abbrev V2 := Nat × List Nat
def Gv (vs : List V2) (k : Nat) : Nat := (vs.getD k (0, [])).1
/-- The first n variables stand in the machine's block. -/
structure GF (vs : List V2) (x : Junk) : Prop where
  v : ∀ k, k < vs.length → x.g k = (Gv vs k : Int) ∧ ∃ f : Nat, x.f k = (f : Int) ∧ BitsL f (vs.getD k (0, [])).2
  z : ∀ k, vs.length ≤ k → k < 3 → x.g k = 0 ∧ x.f k = 0
  t : ∀ e ∈ vs, e.1 ≤ 3
theorem Gv_out {vs : List V2} {k : Nat} (h : vs.length ≤ k) : vs.getD k (0, []) = (0, []) := by simp [List.getD, List.getElem?_eq_none h]
theorem GF.g {vs : List V2} {x : Junk} (h : GF vs x) {k : Nat} (hk : k < 3) : x.g k = (Gv vs k : Int) := by
  by_cases hl : k < vs.length
  · exact (h.v k hl).1
  · rw [(h.z k (by omega) hk).1]; unfold Gv; rw [Gv_out (by omega)]; rfl
theorem GF.le {vs : List V2} {x : Junk} (h : GF vs x) (k : Nat) : Gv vs k ≤ 3 := by
  unfold Gv
  by_cases hl : k < vs.length
  · have e' : vs.getD k (0, []) = vs[k] := by simp [List.getD, hl]
    rw [e']; exact h.t _ (List.getElem_mem hl)
  · rw [Gv_out (by omega)]; exact Nat.zero_le _
theorem GF.same {vs : List V2} {x x' : Junk} (h : GF vs x) (h0 : x'.g0 = x.g0 ∧ x'.f0 = x.f0 ∧ x'.g1 = x.g1 ∧ x'.f1 = x.f1 ∧ x'.g2 = x.g2 ∧ x'.f2 = x.f2) : GF vs x' := by
  obtain ⟨e0, e1, e2, e3, e4, e5⟩ := h0
  have eg : ∀ k, x'.g k = x.g k := fun k => by unfold Junk.g; split <;> assumption
  have ef : ∀ k, x'.f k = x.f k := fun k => by unfold Junk.f; split <;> assumption
  refine ⟨fun k hk => ?_, fun k h1 h2 => ?_, h.t⟩
  · rw [eg, ef]; exact h.v k hk
  · rw [eg, ef]; exact h.z k h1 h2
theorem GF.setv {vs : List V2} {x : Junk} {g f : Nat} {l : List Nat} (h : GF vs x) (hn : vs.length < 3) (hg : g ≤ 3) (hf : BitsL f l) : GF (vs ++ [(g, l)]) (x.setv vs.length g f) := by
  have old : ∀ k, k < vs.length → (vs ++ [(g, l)]).getD k (0, []) = vs.getD k (0, []) := fun k hk => by simp [List.getD, List.getElem?_append_left hk]
  have new : (vs ++ [(g, l)]).getD vs.length (0, []) = (g, l) := by simp [List.getD]
  refine ⟨fun k hk => ?_, fun k h1 h2 => ?_, fun e he => ?_⟩
  · by_cases hkn : k = vs.length
    · unfold Gv
      rw [hkn, new]
      have : vs.length = 0 ∨ vs.length = 1 ∨ vs.length = 2 := by omega
      rcases this with e | e | e <;> rw [e] <;> exact ⟨rfl, f, rfl, hf⟩
    · have hk' : k < vs.length := by simp at hk; omega
      unfold Gv
      rw [old k hk']
      have := h.v k hk'
      have hc : (k = 0 ∧ vs.length = 1) ∨ (k = 0 ∧ vs.length = 2) ∨ (k = 1 ∧ vs.length = 2) := by omega
      rcases hc with ⟨rfl, e⟩ | ⟨rfl, e⟩ | ⟨rfl, e⟩ <;> rw [e] <;> exact this
  · simp at h1
    have := h.z k (by omega) h2
    have hc : (k = 1 ∧ vs.length = 0) ∨ (k = 2 ∧ vs.length = 0) ∨ (k = 2 ∧ vs.length = 1) := by omega
    rcases hc with ⟨rfl, e⟩ | ⟨rfl, e⟩ | ⟨rfl, e⟩ <;> rw [e] <;> exact this
  · rcases List.mem_append.1 he with he | he
    · exact h.t e he
    · simp at he; subst he; exact hg
theorem setv_rows (x : Junk) (n : Nat) (g f : Int) : (x.setv n g f).vr = x.vr ∧ (x.setv n g f).vc = x.vc ∧ (x.setv n g f).vh = x.vh := by
  unfold Junk.setv; split <;> exact ⟨rfl, rfl, rfl⟩

/-- The reader while it reads: variables vs, of the rule that is read now the conditions cl and the changes dl, the rules rl. -/
structure St (B M N : Nat) (s : ByteArray) (vs : List V2) (t : T) (x : Junk) (cl : List (Tm × Tm)) (dl : List Chg) (rl : List RA) (w0 w : World) : Prop where
  nr : t.nr = rl.length
  l8 : rl.length ≤ 8
  hN : B < N
  hNw : N ≤ w.heap.size
  lc : cl.length ≤ t.at_
  ld : dl.length ≤ t.at_
  d3 : ∀ d ∈ dl, d.1.toNat < 3
  rb : RB B M s t x w
  rw : RW B N s (Gv vs) x cl dl rl w
  lo : Below M w0 w
  gf : GF vs x
  vl : vs.length = t.n
/-- One or the other, by how it ended. -/
def Done (b : Bool) (F S : Prop) : Prop := match b with
  | false => F
  | true => S
/-- It has failed: only where it stands matters. -/
def Fail (B M : Nat) (s : ByteArray) (t : T) (w0 w : World) : Prop := ∃ x, RB B M s t x w ∧ Below M w0 w
section
variable {B M N : Nat} {s : ByteArray} {vs : List V2} {t t' : T} {x : Junk} {w0 w w' : World} {cl : List (Tm × Tm)} {dl : List Chg} {rl : List RA}
/-- A step that touches the reader alone. -/
theorem St.ex (h : St B M N s vs t x cl dl rl w0 w) (hb : RB B M s t' x w') (hx : Ex B w w') (ha : t.at_ ≤ t'.at_) (hr : t'.nr = t.nr) (hn : t'.n = t.n) : St B M N s vs t' x cl dl rl w0 w' where
  nr := hr.trans h.nr
  l8 := h.l8
  hN := h.hN
  hNw := Nat.le_trans h.hNw hx.size
  lc := Nat.le_trans h.lc ha
  ld := Nat.le_trans h.ld ha
  d3 := h.d3
  rb := hb
  rw := h.rw.ex (M := M) hx.two h.hN h.rb
  lo := h.lo.trans ((hx.two (M := M)).below h.rb.lo (by have := h.rb.ltM; omega))
  gf := h.gf
  vl := h.vl.trans hn.symm
theorem St.fail (h : St B M N s vs t x cl dl rl w0 w) (hb : RB B M s t' x w') (hx : Ex B w w') : Fail B M s t' w0 w' :=
  ⟨x, hb, h.lo.trans ((hx.two (M := M)).below h.rb.lo (by have := h.rb.ltM; omega))⟩
theorem St.drewN (h : St B M N s vs t x cl dl rl w0 w) (n : Nat) : St B M N s vs t x cl dl rl w0 (w.drewN n) := h.ex (h.rb.drewN n) ((Ex.refl B w).drewN n) (Nat.le_refl _) rfl rfl
theorem St.drew (h : St B M N s vs t x cl dl rl w0 w) : St B M N s vs t x cl dl rl w0 w.drew := h.ex h.rb.drew (Ex.refl B w).drew (Nat.le_refl _) rfl rfl
end
end Go.Proofs.YtgoebckimmofoaaDoor

/- The code's reader: a condition of a rule is kept. Our own text. -/
namespace Go.Proofs.YtgoebckimmofoaaDoor
open Go.RowKit Go.Lib

theorem Tryd.infoC : (Tryd.prog.info? 137).map (fun i => (i.zero, i.size, i.bytes)) = some (some .nilFunc, 1, 8) := by kernel_rfl
theorem Tryd.infoD : (Tryd.prog.info? 160).map (fun i => (i.zero, i.size, i.bytes)) = some (some .nilFunc, 1, 8) := by kernel_rfl
theorem Tryd.infoR : (Tryd.prog.info? 116).map (fun i => (i.zero, i.size, i.bytes)) = some (some .nilFunc, 1, 8) := by kernel_rfl
theorem nil_oneCell : ∀ u ∈ [Value.nilFunc], u.oneCell' = true := by
  intro u hu; simp at hu; subst hu; rfl

section
variable {B M N : Nat} {s : ByteArray} {vs : List V2} {t : T} {x : Junk} {w0 w w5 : World} {cl : List (Tm × Tm)} {dl : List Chg} {rl : List RA} {v : Value} {ys : List Value} {g cap : Nat}
/-- A row of the reader has grown: what else stands. -/
theorem St.grown_fail (h : St B M N s vs t x cl dl rl w0 w) {e : TypeId} {vv : Value} {n : Nat} (ho : w.ownsRow N e 1 vv n ys) (o : Obj) (hg : (w.alloc o).grownBy w5 vv.ownBlock) (i : Nat) (u : Value) : Below M w0 (w5.setCell ⟨B, i, none⟩ u) := by
  have hM := h.rb.lo
  have hN := h.hN
  have h2 : Below M w0 (w.alloc o) := h.lo.alloc (by have := h.rb.ltM; omega) _
  exact (h2.grown hg (by have := h.rb.ltM; simp; omega) (ge_own (by omega) ho)).setCell (by show M ≤ B; omega) _
theorem St.cond_fail (h : St B M N s vs t x cl dl rl w0 w) (ho : w.ownsRow N 137 1 x.vc cl.length ys) (hg : (w.alloc (.cells #[v] 137)).grownBy w5 x.vc.ownBlock) (u : Value) : Fail B M s t w0 (w5.setCell ⟨B, 5, none⟩ u) := by
  have hM := h.rb.lo
  have hN := h.hN
  exact ⟨_, ((h.rb.alloc _).grown hg (ne_own hN ho) (ne_own (by omega) ho)).set5 u, h.grown_fail ho _ hg 5 u⟩
theorem St.cond_push (h : St B M N s vs t x cl dl rl w0 w) {c : Tm × Tm} (ha : cl.length < t.at_) (ho : w.ownsRow N 137 1 x.vc cl.length ys) (hm : All2 (fun v c => FnK 0 w v (fun y => .bool (cdP s c y))) ys cl) (hv : FnK 0 w v (fun y => .bool (cdP s c y)))
    (hg : (w.alloc (.cells #[v] 137)).grownBy w5 x.vc.ownBlock) (hr : w5.ownsRow N 137 1 (.slice (some ⟨g, 0, none⟩) (cl.length + 1) cap) (cl.length + 1) (ys ++ [v])) :
    St B M N s vs t { x with vc := .slice (some ⟨g, 0, none⟩) (cl.length + 1) cap } (cl ++ [c]) dl rl w0 (w5.setCell ⟨B, 5, none⟩ (.slice (some ⟨g, 0, none⟩) (cl.length + 1) cap)) := by
  have hM := h.rb.lo
  have hN := h.hN
  have hb5 := (h.rb.alloc (.cells #[v] 137)).grown hg (ne_own hN ho) (ne_own (by omega) ho)
  have kA : ∀ Z, Kp Z w (w.alloc (.cells #[v] 137)) := fun Z => Kp.alloc _ _ _
  have kG : Kp N (w.alloc (.cells #[v] 137)) w5 := Kp.grown (ho.alloc _) (.inr ⟨by decide, Nat.le_refl _⟩) hg
  have kS : ∀ Z, Kp Z w5 (w5.setCell ⟨B, 5, none⟩ (.slice (some ⟨g, 0, none⟩) (cl.length + 1) cap)) := fun Z => Kp.softSet (p := ⟨B, 5, none⟩) hb5.g.blk soft_R _
  have kN : Kp N w (w5.setCell ⟨B, 5, none⟩ (.slice (some ⟨g, 0, none⟩) (cl.length + 1) cap)) := ((kA N).trans kG).trans (kS N)
  have k0 := kN.mono (Nat.zero_le _)
  obtain ⟨⟨xs, r1, r2⟩, -, ⟨zs, d1, d2⟩⟩ := h.rw
  have FR := ownsRow_setCell_below ((r1.alloc (.cells #[v] 137)).kept hg (apart_of_types r1 ho (by decide))) (a := ⟨B, 5, none⟩) (Nat.lt_succ_self B) (.slice (some ⟨g, 0, none⟩) (cl.length + 1) cap)
  have FH := ownsRow_setCell_below ((d1.alloc (.cells #[v] 137)).kept hg (apart_of_types d1 ho (by decide))) (a := ⟨B, 5, none⟩) hN (.slice (some ⟨g, 0, none⟩) (cl.length + 1) cap)
  have FC := ownsRow_setCell_below hr (a := ⟨B, 5, none⟩) hN (.slice (some ⟨g, 0, none⟩) (cl.length + 1) cap)
  exact ⟨h.nr, h.l8, h.hN, Nat.le_trans h.hNw k0.size, (by simp; omega), h.ld, h.d3, hb5.set5 _,
    ⟨⟨xs, FR, r2.mono (fun _ _ h => h.kp kN)⟩, ⟨ys ++ [v], by rw [List.length_append]; exact FC, All2.snoc (R := fun v c => FnK 0 (w5.setCell ⟨B, 5, none⟩ (.slice (some ⟨g, 0, none⟩) (cl.length + 1) cap)) v (fun y => .bool (cdP s c y))) (b := c) (hv.kp k0) (hm.mono (fun _ _ h => h.kp k0))⟩, ⟨zs, FH, d2.mono (fun _ _ h => h.kp k0)⟩⟩,
    h.grown_fail ho _ hg 5 _, h.gf.same ⟨rfl, rfl, rfl, rfl, rfl, rfl⟩, h.vl⟩

theorem cond_parts {t' : T} (h : pCond s t = (true, t')) : t.at_ < t'.at_ := by
  unfold pCond at h
  split at h
  · cases h
  · next t1 e1 =>
    have s1 := pTerm_same e1
    split at h
    · cases h
    · next t2 e2 =>
      obtain ⟨rfl, _⟩ := pCmp_same e2
      split at h
      · cases h
      · next t3 e3 =>
        have s3 := (pTerm_same e3).1
        have : t1.adv.at_ = t1.at_ + 1 := rfl
        cases h; omega
set_option maxRecDepth 100000 in
set_option maxHeartbeats 1600000 in
theorem ruleCond_any {b : Bool} {t' : T} (hs : s.size ≤ 120) (hat : t.at_ ≤ s.size) (h : St B M N s vs t x cl dl rl w0 w) (hp : pCond s t = (b, t')) :
    Calls Tryd.prog 52 #[.pointer (some ⟨B, 0, none⟩)] w fun e w' => e = .returned (.bool b) ∧ Done b (Fail B M s t' w0 w') (∃ x', St B M N s vs t' x' (cl ++ [cdOf s t.at_]) dl rl w0 w') := by
  obtain ⟨i0, hi, hz0, hz1, hz2⟩ := info_parts Tryd.infoC
  have sm := pCond_same hp hat
  have hNw := h.hNw
  cases b with
  | false =>
    go_enter Tryd.func52, Tryd.ntmps52
    go_wp2_with fail
    refine (cond_no hs hat h.rb.g hp).mono ?_; rintro e w1 ⟨rfl, hg1, hx1⟩
    have hb1 : RB B M s t' x w1 := h.rb.up hg1 hx1 sm.2.1 sm.2.2.2.1
    have h1 := h.ex hb1 hx1 sm.1 sm.2.2.1 sm.2.1
    have c5 := hb1.c5
    obtain ⟨ys, ho, hm⟩ := h1.rw.c
    have HH : Put (_ ∧ _) := ⟨h1, ho⟩
    have hl := h1.lc
    have hsz := hx1.size
    clear h1 h hg1 hb1 hx1 hm
    go_wp2_with (at_builtin; refine wpList_append_own _ rfl _ _ 77 rfl N 137 i0 .nilFunc 1 8 Tryd.underlying77 hi hz0 hz1 hz2 rfl Nat.one_pos _ _ _ rfl (HH.out.2.alloc _) ⟨w1.heap.size, 0, none⟩ 1 1 [.nilFunc] rfl rfl (cell_one_new _ _ _) nil_oneCell (by unfold maxLen; omega) (by omega) (by simp; omega) ?_)
    intro v' w5 hown' hgrow _
    obtain ⟨g5, cap5, rfl⟩ := ownsRow_succ hown'
    have hb5 := (HH.out.1.rb.alloc (.cells #[.nilFunc] 137)).grown hgrow (ne_own HH.out.1.hN HH.out.2) (ne_own (by have := HH.out.1.rb.lo; have := HH.out.1.hN; omega) HH.out.2)
    have d5 := hb5.c5
    have f5 := hb5.free 5
    have FIN : Put (Fail B M s t' w0 (w5.setCell ⟨B, 5, none⟩ (.slice (some ⟨g5, 0, none⟩) (cl.length + 1) cap5))) := ⟨HH.out.1.cond_fail HH.out.2 hgrow _⟩
    clear hb5 hown' hgrow ho HH
    go_wp2
    go_ret
    exact ⟨rfl, FIN.out⟩
  | true =>
    have hlt := cond_parts hp
    go_enter Tryd.func52, Tryd.ntmps52
    go_wp2_with fail
    refine (cond_yes soft_R hs hat h.rb.g hp).mono ?_; rintro e w1 ⟨⟨f1, a1, rfl, hf1⟩, hg1, hx1⟩
    have hb1 : RB B M s t' x w1 := h.rb.up hg1 hx1 sm.2.1 sm.2.2.2.1
    have h1 := h.ex hb1 hx1 sm.1 sm.2.2.1 sm.2.1
    have c5 := hb1.c5
    obtain ⟨ys, ho, hm⟩ := h1.rw.c
    have HH : Put (_ ∧ _ ∧ _ ∧ _) := ⟨h1, ho, hm, hf1⟩
    have hl := h.lc
    have hsz := hx1.size
    clear h1 h hg1 hb1 hx1 hm hf1
    go_wp2_with (at_builtin; refine wpList_append_own _ rfl _ _ 77 rfl N 137 i0 .nilFunc 1 8 Tryd.underlying77 hi hz0 hz1 hz2 rfl Nat.one_pos _ _ _ rfl (HH.out.2.1.alloc _) ⟨w1.heap.size, 0, none⟩ 1 1 [.func f1 #[] a1] rfl rfl (cell_one_new _ _ _) (func_oneCell _ _ _) (by unfold maxLen; omega) (by omega) (by simp; omega) ?_)
    intro v' w5 hown' hgrow _
    obtain ⟨g5, cap5, rfl⟩ := ownsRow_succ hown'
    have hb5 := (HH.out.1.rb.alloc (.cells #[.func f1 #[] a1] 137)).grown hgrow (ne_own HH.out.1.hN HH.out.2.1) (ne_own (by have := HH.out.1.rb.lo; have := HH.out.1.hN; omega) HH.out.2.1)
    have d5 := hb5.c5
    have f5 := hb5.free 5
    have FIN : Put (∃ x', St B M N s vs t' x' (cl ++ [cdOf s t.at_]) dl rl w0 (w5.setCell ⟨B, 5, none⟩ (.slice (some ⟨g5, 0, none⟩) (cl.length + 1) cap5))) := ⟨_, HH.out.1.cond_push (by omega) HH.out.2.1 HH.out.2.2.1 HH.out.2.2.2 hgrow hown'⟩
    clear hb5 hown' hgrow ho HH
    go_wp2
    go_ret
    exact ⟨rfl, FIN.out⟩
end
end Go.Proofs.YtgoebckimmofoaaDoor
