import Derived.Lib.TrailingZeros
import Derived.Test.YtgoebckimmofoaaGreatDoorRows
import Derived.WalkKit
import Derived.WalkSpells
import Derived.WalkLawsBesides
import Derived.Deep.QuietTactic
import Derived.BigQuiet
import Derived.RegionTactic
import Derived.Scope
import Derived.WalkMore
import Derived.Deep.LoopGhost
import Derived.Deep.AppendLies
import Derived.Deep.RegionHeld3
import Derived.Laws.Bits64b
import Derived.Laws.IdiomStrings
import Derived.Maps.AppendAt
import Derived.RangeFuncBox
import Derived.Deep.RegionLaw
import Derived.Deep.RegionHeld
import Derived.RangeFuncNested
import Derived.RangeFuncBound
import Derived.RangeFuncCalls
import Derived.RangeFuncLeaves
import Derived.Shelf.Abstract
import Derived.Shelf.RegionOpen
import Derived.OwnWalkIn
import Derived.TacticsInMore
import Derived.LoopNIn
import Derived.LoopIn
import Derived.Stop.RegionWithIn
import Derived.MapKept
import Derived.Lib.Bytealg
import Derived.Lib.IndexLaws
import Derived.Laws.EntriesVeiled
import Derived.Deep.DrawnRows
import Derived.Test.YtgoebckimmofoaaGreatDoorB1
import Derived.Test.YtgoebckimmofoaaGreatDoorB2
import Derived.Test.YtgoebckimmofoaaGreatDoorB3
import Derived.Test.YtgoebckimmofoaaGreatDoorB4
import Derived.Test.YtgoebckimmofoaaGreatDoorB5
import Derived.Test.YtgoebckimmofoaaGreatDoorB7
import Derived.Test.YtgoebckimmofoaaGreatDoorB9
import Derived.Test.YtgoebckimmofoaaGreatDoorB11
import Derived.Test.YtgoebckimmofoaaGreatDoorB12
/- The code's reader: a change of a rule, read and kept. Our own text. -/
namespace Go.Proofs.YtgoebckimmofoaaGreatDoor
open Go.RowKit Go.Lib

set_option maxRecDepth 100000 in
set_option maxHeartbeats 1600000 in
theorem fn71_any (bn bt k y m : Nat) (hy : y < 64) (hk : k < 3) (hm : m < 18446744073709551616) (v : Value) (F : Nat → Nat) (hF : F y < 16) (w W : World) (hW : Kp 0 w W) (h0 : 0 < W.heap.size) (hT : Tab W) (hl : FnK 0 w v (fun x => .int .u8 (F x : Nat)))
    (x1 : W.heap[bn]? = some (.cells #[.int .i64 k] 3 (0, 0))) (x2 : W.heap[bt]? = some (.cells #[v] 223 (0, 0))) :
    Calls Tryz.prog 115 #[.int .u8 (y : Nat), .int .u64 (m : Nat), .pointer (some ⟨bn, 0, none⟩), .pointer (some ⟨bt, 0, none⟩)] W fun e W' => e = .returned (.int .u64 (spr m k (F y) : Nat)) ∧ Below W.heap.size W W' := by
  obtain ⟨fl, cl, rfl, el, kl⟩ := hl
  have c1 := box_cell x1
  have c2 := box_cell x2
  have HL : Put (∀ W2, Below W.heap.size W W2 → Calls Tryz.prog fl (#[.int .u8 (y : Nat)] ++ cl) W2 fun e W' => e = .returned (.int .u8 ((F y : Nat) : Int)) ∧ Below W2.heap.size W2 W') := ⟨fun W2 h2 => kl W2 (hW.trans (Kp.of_below h2)) (Nat.lt_of_lt_of_le h0 h2.size) (hT.below h2 h0) y hy⟩
  have l1 := lt_of_block x1
  have l2 := lt_of_block x2
  generalize F y = f at *
  have HC : Put (∀ W2, Below W.heap.size W W2 → Calls Tryz.prog 50 #[.int .u64 (m : Nat), .int .i64 (k : Nat), .int .u8 (f : Nat)] W2 fun e W' => e = .returned (.int .u64 (spr m k f : Nat)) ∧ Below W2.heap.size W2 W') := ⟨fun W2 h2 => spread_any m k f hm hk hF W2 (hT.below h2 h0) (Nat.lt_of_lt_of_le h0 h2.size)⟩
  have hdr : Below W.heap.size W W.drew := ⟨rfl, rfl, rfl, Nat.le_refl _, fun _ _ => rfl⟩
  clear x1 x2 kl hW hT
  generalize spr m k f = r at *
  go_enter Tryz.func115, Tryz.ntmps115
  go_wp2_with fail
  go_region_held3 (fun w' => ∀ b o, b < W.heap.size → w'.cell? ⟨b, o, none⟩ = W.cell? ⟨b, o, none⟩)
    (first
      | exact fun b o hb => (hbC'.cell (p := ⟨b, o, none⟩) hb)
      | exact fun b o hb => (hbL'.cell (p := ⟨b, o, none⟩) hb)
      | exact fun _ _ _ => rfl
      | go_keep)
    (first
      | (with_reducible refine (HC.out wL hbL').mono ?_; rintro e wC ⟨rfl, hbC⟩; have hbC' : Below W.heap.size W wC := hbL'.trans (hbC.mono hbL'.size))
      | (refine (HL.out W.drew hdr).mono ?_; rintro e wL ⟨rfl, hbL⟩; have hbL' : Below W.heap.size W wL := hdr.trans hbL))
  all_goals
    go_wp2
    go_ret
    exact ⟨rfl, hbC'⟩

theorem toP_lt (s : ByteArray) (d : Chg) (c : Nat) {y : Nat} (h1 : 1 ≤ c) (h4 : c ≤ 4) : toP s d c y < 16 := by
  unfold toP
  have hp : ∀ e, e ≤ 3 → 2 ^ e < 16 := fun e he => by
    have : e = 0 ∨ e = 1 ∨ e = 2 ∨ e = 3 := by omega
    rcases this with rfl | rfl | rfl | rfl <;> decide
  split
  · have : c = 1 ∨ c = 2 ∨ c = 3 ∨ c = 4 := by omega
    rcases this with rfl | rfl | rfl | rfl <;> decide
  · exact hp _ (by have := Nat.mod_lt (tmV d.2.2.2 y + (moreAt s false d.2.2.2.2.2).toNat) (show 0 < c by omega); omega)
def T.marked (t : T) (k : Nat) : T := { (if t.chd.testBit k then t.blame 5 else t) with chd := t.chd ||| 2 ^ k }
def pChange (s : ByteArray) (t : T) : Bool × T :=
  match num? s t.at_ 97 0 2 with
  | none => (false, t)
  | some k => match num? s ((t.named k).marked k).at_ 61 0 0 with
    | none => (false, (t.named k).marked k)
    | some _ => pTo s ((t.named k).marked k).adv
theorem marked_same (t : T) (k : Nat) : (t.marked k).at_ = t.at_ ∧ (t.marked k).n = t.n ∧ (t.marked k).nr = t.nr ∧ (t.marked k).chd = t.chd ||| 2 ^ k := by
  unfold T.marked; split
  · have := blame_same t 5; exact ⟨this.1, this.2.1, this.2.2.1, rfl⟩
  · exact ⟨rfl, rfl, rfl, rfl⟩
theorem size_new (w : World) (o : Obj) : w.heap.size < (w.alloc o).drew.heap.size := by simp
theorem or_lt8 : ∀ c : Nat, c < 8 → ∀ k : Nat, k < 3 → c ||| 2 ^ k < 8 := by decide
theorem pChange_same {s : ByteArray} {t t' : T} {b : Bool} (h : pChange s t = (b, t')) (ht : t.at_ ≤ s.size) (hc : t.chd < 8) : t.at_ ≤ t'.at_ ∧ t'.n = t.n ∧ t'.nr = t.nr ∧ t'.chd < 8 ∧ t'.at_ ≤ s.size ∧ (b = true → t.at_ < t'.at_) := by
  unfold pChange at h
  split at h
  · cases h; exact ⟨Nat.le_refl _, rfl, rfl, hc, ht, fun h => by cases h⟩
  · next k e1 =>
    have l1 := num_lt e1
    have k2 := (num_le e1).2
    have s1 := named_same t k
    have s2 := marked_same (t.named k) k
    have c2 := or_lt8 t.chd hc k (by omega)
    rw [← s1.2.2.2, ← s2.2.2.2] at c2
    generalize (t.named k).marked k = t2 at *
    split at h
    · cases h; exact ⟨by omega, s2.2.1.trans s1.2.1, s2.2.2.1.trans s1.2.2.1, c2, by omega, fun h => by cases h⟩
    · next e2 =>
      have l2 := num_lt e2
      have s3 := pTo_same h
      have n2 : t2.adv.at_ = t2.at_ + 1 := rfl
      have n3 : t2.adv.n = t2.n := rfl
      have n4 : t2.adv.nr = t2.nr := rfl
      have n5 : t2.adv.chd = t2.chd := rfl
      exact ⟨by omega, by omega, by omega, by omega, s3.2.2.2.2 (by omega), fun _ => by omega⟩


theorem oneNames (k : Nat) (hk : k ≤ 2) (w : World) : Calls Tryz.prog 151 #[.int .i64 k] w fun e w' => e = .returned (.int .u8 ((2 ^ k : Nat) : Int)) ∧ w' = w := by
  have h : k = 0 ∨ k = 1 ∨ k = 2 := by omega
  rcases h with rfl | rfl | rfl
  all_goals
    go_enter Tryz.func151, Tryz.ntmps151
    go_wp2
    go_ret
    exact ⟨rfl, rfl⟩
theorem hasNames (c k : Nat) (hc : c < 8) (hk : k ≤ 2) (w : World) : Calls Tryz.prog 112 #[.int .u8 c, .int .i64 k] w fun e w' => e = .returned (.bool (c.testBit k)) ∧ w' = w := by
  go_enter Tryz.func112, Tryz.ntmps112
  go_wp2_with fail
  refine (oneNames k hk _).mono ?_; rintro e w1 ⟨rfl, rfl⟩
  go_wp2
  go_ret
  have h : ∀ c : Nat, c < 8 → ∀ k : Nat, k < 3 → (bits BinOp.and IntKind.u8 (c : Int) (2 ^ k) != 0) = c.testBit k := by decide
  rw [← h c hc k (by omega)]
  exact ⟨rfl, rfl⟩
theorem withNames (c k : Nat) (hc : c < 8) (hk : k ≤ 2) (w : World) : Calls Tryz.prog 113 #[.int .u8 c, .int .i64 k] w fun e w' => e = .returned (.int .u8 ((c ||| 2 ^ k : Nat) : Int)) ∧ w' = w := by
  go_enter Tryz.func113, Tryz.ntmps113
  go_wp2_with fail
  refine (oneNames k hk _).mono ?_; rintro e w1 ⟨rfl, rfl⟩
  go_wp2
  go_ret
  have h : ∀ c : Nat, c < 8 → ∀ k : Nat, k < 3 → bits BinOp.or IntKind.u8 (c : Int) (2 ^ k) = ((c ||| 2 ^ k : Nat) : Int) := by decide
  rw [← h c hc k (by omega)]
  exact ⟨rfl, rfl⟩

theorem Done.map {b : Bool} {F S S' : Prop} (f : S → S') (h : Done b F S) : Done b F S' := by
  cases b with
  | false => exact h
  | true => exact f h
theorem to_fn {B M : Nat} {s : ByteArray} {t t' : T} {x : Junk} {w : World} {b : Bool} (c p : Nat) (h1 : 1 ≤ c) (h4 : c ≤ 4) (hs : s.size ≤ 120) (hat : t.at_ ≤ s.size) (ht : t.at_ = p + 2) (hb : RB B M s t x w) (hp : pTo s t = (b, t')) (hz : pToNil s t = false) :
    Calls Tryz.prog 114 #[.pointer (some ⟨B, 0, none⟩), .int .i64 (c : Nat)] w fun e w' => (∃ f a, e = .returned (.tuple #[.func f #[] a, .bool b]) ∧ Done b True (FnK 0 w' (.func f #[] a) (fun y => .int .u8 (toP s (chOf s p) c y : Nat)) ∧ True)) ∧ RB B M s t' x w' ∧ Ex B w w' := by
  cases b with
  | true => exact (to_yes c p h1 h4 hs hat ht hb hp).mono fun _ _ ⟨⟨f, a, e1, hf⟩, h2, h3⟩ => ⟨⟨_, _, e1, hf, trivial⟩, h2, h3⟩
  | false => exact (to_func _ hs hat hb hp hz).mono fun _ _ ⟨⟨f, a, e1⟩, h2, h3⟩ => ⟨⟨_, _, e1, trivial⟩, h2, h3⟩
theorem pToNil_no {s : ByteArray} {t t' : T} {b : Bool} (hp : pTo s t = (b, t')) (hz : pToNil s t = true) : b = false ∧ t' = t := by
  unfold pToNil at hz
  cases h1 : num? s t.at_ 63 0 0 with
  | some k => simp [h1] at hz
  | none =>
    cases h2 : pTerm s t with
    | some k => simp [h2] at hz
    | none => simp [pTo, h1, h2] at hp; exact ⟨hp.1, hp.2.symm⟩

section
variable {B M N : Nat} {s : ByteArray} {vs : List V2} {t : T} {x : Junk} {w0 w w5 : World} {cl : List (Tm × Tm)} {dl : List Chg} {rl : List RA} {v : Value} {zs : List Value} {g cap : Nat}
theorem RB.mark {t1 : T} (k : Nat) (h : RB B M s t1 x w) (e : t1 = if t.chd.testBit k then t.blame 5 else t) : RB B M s (t.marked k) x (w.setCell ⟨B, 7, none⟩ (.int .u8 ((t.chd ||| 2 ^ k : Nat) : Int))) := by
  subst e; exact h.set7 _
theorem St.change_push (h : St B M N s vs t x cl dl rl w0 w) {c : Chg} (ha : dl.length < t.at_) (hc3 : c.1.toNat < 3) (ho : w.ownsRow N 270 1 x.vh dl.length zs) (hm : All2 (fun v d => FnK2 w v (fun y m => .int .u64 (spr m d.1.toNat (toP s d (Gv vs d.1.toNat + 1) y) : Nat))) zs dl) (hv : FnK2 w v (fun y m => .int .u64 (spr m c.1.toNat (toP s c (Gv vs c.1.toNat + 1) y) : Nat)))
    (hg : (w.alloc (.cells #[v] 270)).grownBy w5 x.vh.ownBlock) (hr : w5.ownsRow N 270 1 (.slice (some ⟨g, 0, none⟩) (dl.length + 1) cap) (dl.length + 1) (zs ++ [v])) :
    St B M N s vs t { x with vh := .slice (some ⟨g, 0, none⟩) (dl.length + 1) cap } cl (dl ++ [c]) rl w0 (w5.setCell ⟨B, 6, none⟩ (.slice (some ⟨g, 0, none⟩) (dl.length + 1) cap)) := by
  have hM := h.rb.lo
  have hN := h.hN
  have hb5 := (h.rb.alloc (.cells #[v] 270)).grown hg (ne_own hN ho) (ne_own (by omega) ho)
  have kA : ∀ Z, Kp Z w (w.alloc (.cells #[v] 270)) := fun Z => Kp.alloc _ _ _
  have kG : Kp N (w.alloc (.cells #[v] 270)) w5 := Kp.grown (ho.alloc _) (.inr ⟨by decide, Nat.le_refl _⟩) hg
  have kS : ∀ Z, Kp Z w5 (w5.setCell ⟨B, 6, none⟩ (.slice (some ⟨g, 0, none⟩) (dl.length + 1) cap)) := fun Z => Kp.softSet (p := ⟨B, 6, none⟩) hb5.g.blk soft_R _
  have kN : Kp N w (w5.setCell ⟨B, 6, none⟩ (.slice (some ⟨g, 0, none⟩) (dl.length + 1) cap)) := ((kA N).trans kG).trans (kS N)
  have k0 := kN.mono (Nat.zero_le _)
  obtain ⟨⟨xs, r1, r2⟩, ⟨ys, c1, c2⟩, -⟩ := h.rw
  have FR := ownsRow_setCell_below ((r1.alloc (.cells #[v] 270)).kept hg (apart_of_types r1 ho (by decide))) (a := ⟨B, 6, none⟩) (Nat.lt_succ_self B) (.slice (some ⟨g, 0, none⟩) (dl.length + 1) cap)
  have FC := ownsRow_setCell_below ((c1.alloc (.cells #[v] 270)).kept hg (apart_of_types c1 ho (by decide))) (a := ⟨B, 6, none⟩) hN (.slice (some ⟨g, 0, none⟩) (dl.length + 1) cap)
  have FH := ownsRow_setCell_below hr (a := ⟨B, 6, none⟩) hN (.slice (some ⟨g, 0, none⟩) (dl.length + 1) cap)
  refine ⟨h.nr, h.l8, h.hN, Nat.le_trans h.hNw k0.size, h.lc, (by simp; omega), fun d hd => ?_, hb5.set6 _,
    ⟨⟨xs, FR, r2.mono (fun _ _ h => h.kp kN)⟩, ⟨ys, FC, c2.mono (fun _ _ h => h.kp k0)⟩, ⟨zs ++ [v], by rw [List.length_append]; exact FH, All2.snoc (R := fun v d => FnK2 (w5.setCell ⟨B, 6, none⟩ (.slice (some ⟨g, 0, none⟩) (dl.length + 1) cap)) v (fun y m => .int .u64 (spr m d.1.toNat (toP s d (Gv vs d.1.toNat + 1) y) : Nat))) (b := c) (hv.kp k0) (hm.mono (fun _ _ h => h.kp k0))⟩⟩,
    h.grown_fail ho _ hg 6 _, h.gf.same ⟨rfl, rfl, rfl, rfl, rfl, rfl⟩, h.vl⟩
  rcases List.mem_append.1 hd with hd | hd
  · exact h.d3 d hd
  · simp at hd; subst hd; exact hc3
theorem chOf_name {k : Nat} (h : num? s t.at_ 97 0 2 = some k) : (chOf s t.at_).1.toNat = k := by
  have := num_byte h
  unfold chOf
  split <;> simp <;> omega

set_option maxRecDepth 100000 in
set_option maxHeartbeats 3200000 in
theorem change_any {b : Bool} {t' : T} (hs : s.size ≤ 120) (hat : t.at_ ≤ s.size) (hcd : t.chd < 8) (h : St B M N s vs t x cl dl rl w0 w) (hp : pChange s t = (b, t')) :
    Calls Tryz.prog 77 #[.pointer (some ⟨B, 0, none⟩)] w fun e w' => e = .returned (.bool b) ∧ Done b (Fail B M s t' w0 w') (∃ x', St B M N s vs t' x' cl (dl ++ [chOf s t.at_]) rl w0 w') := by
  unfold pChange at hp
  have hb := h.rb
  have hB := hb.lt
  have HS : Put (_) := ⟨h⟩
  have hNw := h.hNw
  clear h
  cases h1 : num? s t.at_ 97 0 2 with
  | none =>
    simp [h1] at hp; obtain ⟨rfl, rfl⟩ := hp
    go_enter Tryz.func77, Tryz.ntmps77
    go_wp2_with fail
    refine (name_no hs hat hb h1).mono ?_; rintro e w1 ⟨rfl, hb1, hx1⟩
    go_wp2
    go_ret
    exact ⟨rfl, HS.out.fail (hb1.alloc _) (hx1.alloc _)⟩
  | some k =>
    have hk := num_le h1
    have hlt := num_lt h1
    have sn := named_same t k
    have sm := marked_same (t.named k) k
    have HQ : Put ((chOf s t.at_).1.toNat = k) := ⟨chOf_name h1⟩
    simp only [h1] at hp
    generalize ht1 : t.named k = t1 at *
    have hk0 : (0 : Int) ≤ (k : Int) := by omega
    have hk3 : (k : Int) < 3 := by omega
    go_enter Tryz.func77, Tryz.ntmps77
    go_wp2_with fail
    refine (name_yes k hs hb h1).mono ?_; rintro e w1 ⟨rfl, hb1, hx1⟩
    rw [ht1] at hb1
    go_wp2_with fail
    have hb2 := hb1.alloc (.cells #[.int .i64 k] 3)
    have hx2 := hx1.alloc (.cells #[.int .i64 k] 3)
    have hBN : B ≠ w1.heap.size := by have := hb1.lt; omega
    have hwN : w.heap.size ≤ w1.heap.size := hx1.size
    have hblk := heap_alloc_new w1 (.cells #[.int .i64 k] 3)
    generalize w1.alloc (.cells #[.int .i64 k] 3) = w2 at *
    generalize w1.heap.size = M0 at *
    have kN := cell_of_one hblk
    have c7 : w2.cell? ⟨B, 7, none⟩ = some (.int .u8 t.chd) := by rw [← sn.2.2.2]; exact hb2.c7
    have hlt2 := hb2.lt
    clear hb1 hx1 hb
    go_quiet ((go_at_call 112; exact Calls.quiet_of_same (hasNames _ _ (by omega) (by omega) _)))
    have hcd1 : t1.chd < 8 := by omega
    obtain ⟨t2, ht2⟩ : ∃ t2, t2 = if t1.chd.testBit k then t1.blame 5 else t1 := ⟨_, rfl⟩
    have st2 : t2.chd = t1.chd := by rw [ht2]; split; exact (blame_same _ _).2.2.2; rfl
    have sc := sn.2.2.2
    cases hT : t.chd.testBit k with
    | true =>
      go_wp2_with fail
      refine (blame_any 5 (by omega) (by omega) (hb2.drewN _)).mono ?_; rintro e w3 ⟨rfl, hb3, hx3⟩
      have e2 : t2 = t1.blame 5 := by rw [ht2, sc, hT]; rfl
      rw [← e2] at hb3
      go_wp2_with fail
      have hX := (hx2.drewN nq).trans hx3
      have hblk3 : w3.heap[M0]? = some (.cells #[.int .i64 k] 3 (0, 0)) := (hx3.block M0 (lt_of_block hblk) (by omega)).trans hblk
      clear hb2 hx2 hx3 hblk kN c7 hlt2 e2 hT
      have c7 : w3.cell? ⟨B, 7, none⟩ = some (.int .u8 t.chd) := by rw [← sc, ← st2]; exact hb3.c7
      have f7 := hb3.free 7
      have kN := cell_of_one hblk3
      have hlt3 := hb3.lt
      have hb4 : RB B M s (t1.marked k) x (w3.setCell ⟨B, 7, none⟩ (.int .u8 ((t.chd ||| 2 ^ k : Nat) : Int))) := by rw [← sc]; exact hb3.mark k ht2
      have hx4 := hX.setCell (p := ⟨B, 7, none⟩) (.inl rfl) (.int .u8 ((t.chd ||| 2 ^ k : Nat) : Int))
      have hblk4 : (w3.setCell ⟨B, 7, none⟩ (.int .u8 ((t.chd ||| 2 ^ k : Nat) : Int))).heap[M0]? = some (.cells #[.int .i64 k] 3 (0, 0)) := (heap_setCell_other _ _ _ _ (fun e => hBN e.symm)).trans hblk3
      replace hb4 := hb4.drew
      replace hx4 := hx4.drew
      replace hblk4 : (w3.setCell ⟨B, 7, none⟩ (.int .u8 ((t.chd ||| 2 ^ k : Nat) : Int))).drew.heap[M0]? = some (.cells #[.int .i64 k] 3 (0, 0)) := hblk4
      have HA : Put (_ ∧ _ ∧ _ ∧ _ ∧ _) := ⟨sn, sm, hp, hlt, h1⟩
      clear hb3 hX hblk3 ht2 st2 sn sm hp h1
      go_region_law ((go_simp; go_at_call 113; refine (withNames t.chd k hcd (by omega) _).mono ?_; rintro e w' ⟨rfl, rfl⟩))
      all_goals
        generalize (w3.setCell ⟨B, 7, none⟩ (.int .u8 ((t.chd ||| 2 ^ k : Nat) : Int))).drew = w4 at *
        clear c7 f7 kN hlt3 sc
        clear w3
        generalize t1.marked k = t3 at *
        have hat3 : t3.at_ ≤ s.size := by have := HA.out; omega
        cases h3 : num? s t3.at_ 61 0 0 with
        | none =>
          obtain ⟨-, -, hp, -, -⟩ := HA.out
          simp only [h3, Prod.mk.injEq] at hp
          obtain ⟨rfl, rfl⟩ := hp
          clear HA
          go_wp2_with fail
          refine (take_no 61 hs hat3 (by omega) hb4 h3).mono ?_; rintro e w5 ⟨rfl, hb5, hx5⟩
          have FIN : Put (Fail B M s t3 w0 w5) := ⟨HS.out.fail hb5 (hx4.trans hx5)⟩
          clear hb5 hb4 hx4 hx5 HS
          go_wp2
          go_ret
          exact ⟨rfl, FIN.out⟩
        | some k5 =>
          have hat5 : t3.adv.at_ ≤ s.size := num_lt h3
          go_wp2_with fail
          refine (take_yes 61 k5 hs (by omega) hb4 h3).mono ?_; rintro e w5 ⟨rfl, hb5, hx5⟩
          go_wp2_with fail
          have hX := hx4.trans hx5
          have hblk5 : w5.heap[M0]? = some (.cells #[.int .i64 k] 3 (0, 0)) := (hx5.block M0 (lt_of_block hblk4) (fun e => hBN e.symm)).trans hblk4
          clear hb4 hx4 hx5 hblk4 w4
          have kN := cell_of_one hblk5
          have c2 := hb5.c2
          have hgk : w5.cell? ⟨M, k * 2, none⟩ = some (.int .i64 (Gv vs k : Int)) := by
            rw [← HS.out.gf.g (show k < 3 by omega)]
            have hk3 : k = 0 ∨ k = 1 ∨ k = 2 := by omega
            rcases hk3 with rfl | rfl | rfl
            · exact hb5.m0
            · exact hb5.m2
            · exact hb5.m4
          have hG3 := HS.out.gf.le k
          have hlt5 := hb5.lt
          have hltM := hb5.ltM
          have hN5 := lt_of_block hblk5
          have hp' : pTo s t3.adv = (b, t') := by
            obtain ⟨-, -, hp, -, -⟩ := HA.out
            simp only [h3] at hp
            exact hp
          have hBM : B ≠ w5.heap.size := by omega
          have hMM : M ≠ w5.heap.size := by omega
          have hw1 : IntKind.i64.wrap ((Gv vs k : Int) + 1) = (Gv vs k : Int) + 1 := by simp [IntKind.wrap, IntKind.signed, IntKind.bits]; omega
          have HE3 : Put (t3.adv.at_ = t.at_ + 2 ∧ t'.nr = t.nr ∧ t'.n = t.n ∧ t.at_ + 2 ≤ t'.at_ ∧ t'.at_ ≤ s.size) := ⟨by
            have hA := HA.out
            have st := pTo_same hp'
            have e1 : t3.adv.at_ = t3.at_ + 1 := rfl
            have e2 : t3.adv.nr = t3.nr := rfl
            have e3 : t3.adv.n = t3.n := rfl
            omega⟩
          have HT5 : Put (_ ∧ _ ∧ _) := ⟨hb5, hX, hblk5⟩
          have hXs : w.heap.size ≤ w5.heap.size := hX.size
          have HSC : Put (∀ (tq : T) (W : World), RB B M s tq x W → W.heap[M0]? = some (.cells #[.int .i64 k] 3 (0, 0)) → W.cell? ⟨B, 2, none⟩ = some (.pointer (some ⟨M, 0, none⟩)) ∧ W.cell? ⟨M0, 0, none⟩ = some (.int .i64 k) ∧ W.cell? ⟨M, k * 2, none⟩ = some (.int .i64 (Gv vs k : Int))) := ⟨fun tq W hr hm => ⟨hr.c2, cell_of_one hm, by
            rw [← HS.out.gf.g (show k < 3 by omega)]
            have hk3 : k = 0 ∨ k = 1 ∨ k = 2 := by omega
            rcases hk3 with rfl | rfl | rfl
            · exact hr.m0
            · exact hr.m2
            · exact hr.m4⟩⟩
          have HTN : Put (pToNil s t3.adv = true → ∀ (c : Int) w6, RB B M s t3.adv x w6 → Calls Tryz.prog 114 #[.pointer (some ⟨B, 0, none⟩), .int .i64 c] w6 fun e w' => e = .returned (.tuple #[.nilFunc, .bool false]) ∧ RB B M s t' x w' ∧ Ex B w6 w') := ⟨fun hz c w6 h6 => by
            obtain ⟨rfl, rfl⟩ := pToNil_no hp' hz
            exact to_nil c hs hat5 h6 hp' hz⟩
          have HTF : Put (pToNil s t3.adv = false → ∀ w6, RB B M s t3.adv x w6 → Calls Tryz.prog 114 #[.pointer (some ⟨B, 0, none⟩), .int .i64 ((Gv vs k : Int) + 1)] w6 fun e w' => (∃ f a, e = .returned (.tuple #[.func f #[] a, .bool b]) ∧ Done b True (FnK 0 w' (.func f #[] a) (fun y => .int .u8 (toP s (chOf s t.at_) (Gv vs k + 1) y : Nat)) ∧ True)) ∧ RB B M s t' x w' ∧ Ex B w6 w') := ⟨fun hz w6 h6 => by
            have := to_fn (Gv vs k + 1) t.at_ (by omega) (by omega) hs hat5 (by have := HE3.out; omega) h6 hp' hz
            exact this⟩
          have HPZ : Put (pToNil s t3.adv = true → b = false) := ⟨fun hz => (pToNil_no hp' hz).1⟩
          clear HA hp' h3 hat3 hat5 hX hb5 hblk5 hcd hcd1 hG3 hNw hwN hat hk
          cases hz : pToNil s t3.adv with
          | true =>
            have hbf := HPZ.out hz
            subst hbf
            have HT0 : Put (_) := ⟨HTN.out hz⟩
            clear hz HTN HTF HPZ
            go_region_held3 (fun w' => w'.cell? ⟨B, 2, none⟩ = some (.pointer (some ⟨M, 0, none⟩)) ∧ w'.cell? ⟨M0, 0, none⟩ = some (.int .i64 k) ∧ w'.cell? ⟨M, k * 2, none⟩ = some (.int .i64 (Gv vs k : Int)))
              (first | exact ⟨c2, kN, hgk⟩ | exact s6a | exact s6c | exact s6b | exact HSC.out _ _ (hb6a.alloc _) ((Below.heap_alloc _ _ _ (lt_of_block hm0a)).trans hm0a) | exact HSC.out _ _ (hb6b.set_other (p := ⟨w5.heap.size, 0, none⟩) (fun e => hBM e.symm) (fun e => hMM e.symm) _) ((heap_setCell_other _ _ _ _ (by show M0 ≠ w5.heap.size; omega)).trans hm0b) | exact HSC.out _ _ ((HT5.out.1.drew).alloc _) ((Below.heap_alloc _ _ _ hN5).trans HT5.out.2.2) | go_keep)
              (first
              | (go_simp; go_at_call 114; refine (HT0.out _ _ HT5.out.1.drew).mono ?_; rintro e w6 ⟨rfl, hb6a, hx6a⟩; have hm0a := (hx6a.block M0 hN5 (fun e => hBN e.symm)).trans HT5.out.2.2; have s6a := HSC.out _ _ hb6a hm0a; have s6c := HSC.out _ _ (hb6a.alloc (.cells #[.nilFunc] 223)) ((Below.heap_alloc _ _ _ (lt_of_block hm0a)).trans hm0a))
              | (go_simp; go_at_call 114; refine (HT0.out _ _ (HT5.out.1.alloc (.cells #[.nilFunc] 223)).drew).mono ?_; rintro e w6 ⟨rfl, hb6b, hx6b⟩; have hm6 := (hx6b.block w5.heap.size (size_new w5 _) (fun e => hBM e.symm)).trans (heap_alloc_new w5 (.cells #[.nilFunc] 223)); have hm0b := (hx6b.block M0 (by simp; omega) (fun e => hBN e.symm)).trans ((Below.heap_alloc w5 (.cells #[.nilFunc] 223) M0 hN5).trans HT5.out.2.2); have s6b := HSC.out _ _ hb6b hm0b; have km := cell_of_one hm6; have fm := free_of_one hm6))
            all_goals
              first
                | (have FIN : Put (Fail B M s t' w0 (w6.alloc (.cells #[.nilFunc] 223))) := ⟨HS.out.fail (hb6a.alloc _) ((HT5.out.2.1.drew.trans hx6a).alloc _)⟩
                   clear hb6a hx6a)
                | (have FIN : Put (Fail B M s t' w0 (w6.setCell ⟨w5.heap.size, 0, none⟩ .nilFunc)) := ⟨HS.out.fail (hb6b.set_other (p := ⟨w5.heap.size, 0, none⟩) (fun e => hBM e.symm) (fun e => hMM e.symm) (.nilFunc)) (((HT5.out.2.1.alloc (.cells #[.nilFunc] 223)).drew.trans hx6b).setCell (p := ⟨w5.heap.size, 0, none⟩) (.inr hXs) (.nilFunc))⟩
                   clear hb6b hx6b hm6)
              clear HS HT5 HT0 HE3 HQ
              go_wp2
              go_ret
              exact ⟨rfl, FIN.out⟩
          | false =>
            have HT0 : Put (_) := ⟨HTF.out hz⟩
            clear hz HTN HTF HPZ
            go_region_held3 (fun w' => w'.cell? ⟨B, 2, none⟩ = some (.pointer (some ⟨M, 0, none⟩)) ∧ w'.cell? ⟨M0, 0, none⟩ = some (.int .i64 k) ∧ w'.cell? ⟨M, k * 2, none⟩ = some (.int .i64 (Gv vs k : Int)))
              (first | exact ⟨c2, kN, hgk⟩ | exact s6a | exact s6c | exact s6b | exact HSC.out _ _ (hb6a.alloc _) ((Below.heap_alloc _ _ _ (lt_of_block hm0a)).trans hm0a) | exact HSC.out _ _ (hb6b.set_other (p := ⟨w5.heap.size, 0, none⟩) (fun e => hBM e.symm) (fun e => hMM e.symm) _) ((heap_setCell_other _ _ _ _ (by show M0 ≠ w5.heap.size; omega)).trans hm0b) | exact HSC.out _ _ ((HT5.out.1.drew).alloc _) ((Below.heap_alloc _ _ _ hN5).trans HT5.out.2.2) | go_keep)
              (first
              | (go_simp; go_at_call 114; refine (HT0.out _ HT5.out.1.drew).mono ?_; rintro e w6 ⟨⟨f6, a6, rfl, hf6⟩, hb6a, hx6a⟩; have hm0a := (hx6a.block M0 hN5 (fun e => hBN e.symm)).trans HT5.out.2.2; have s6a := HSC.out _ _ hb6a hm0a; have s6c := HSC.out _ _ (hb6a.alloc (.cells #[.nilFunc] 223)) ((Below.heap_alloc _ _ _ (lt_of_block hm0a)).trans hm0a))
              | (go_simp; go_at_call 114; refine (HT0.out _ (HT5.out.1.alloc (.cells #[.nilFunc] 223)).drew).mono ?_; rintro e w6 ⟨⟨f6, a6, rfl, hf6⟩, hb6b, hx6b⟩; have hm6 := (hx6b.block w5.heap.size (size_new w5 _) (fun e => hBM e.symm)).trans (heap_alloc_new w5 (.cells #[.nilFunc] 223)); have hm0b := (hx6b.block M0 (by simp; omega) (fun e => hBN e.symm)).trans ((Below.heap_alloc w5 (.cells #[.nilFunc] 223) M0 hN5).trans HT5.out.2.2); have s6b := HSC.out _ _ hb6b hm0b; have km := cell_of_one hm6; have fm := free_of_one hm6))
            all_goals
              first
                | (have hb7 := hb6a.alloc (.cells #[.func f6 #[] a6] 223)
                   have hX7 := (HT5.out.2.1.drew.trans hx6a).alloc (.cells #[.func f6 #[] a6] 223)
                   have hbT := heap_alloc_new w6 (.cells #[.func f6 #[] a6] 223)
                   have hbN := (Below.heap_alloc w6 (.cells #[.func f6 #[] a6] 223) M0 (lt_of_block ((hx6a.block M0 hN5 (fun e => hBN e.symm)).trans HT5.out.2.2))).trans ((hx6a.block M0 hN5 (fun e => hBN e.symm)).trans HT5.out.2.2)
                   have HF7 : Put (Done b True (FnK 0 (w6.alloc (.cells #[.func f6 #[] a6] 223)) (.func f6 #[] a6) (fun y => .int .u8 (toP s (chOf s t.at_) (Gv vs k + 1) y : Nat)) ∧ True)) := ⟨Done.map (fun h => ⟨h.1.kp (Kp.alloc 0 w6 (.cells #[.func f6 #[] a6] 223)), h.2⟩) hf6⟩
                   clear hb6a hx6a hf6
                   generalize w6.alloc (.cells #[.func f6 #[] a6] 223) = w7 at *
                   generalize w6.heap.size = MT at *)
                | (have hb7 := hb6b.set_other (p := ⟨w5.heap.size, 0, none⟩) (fun e => hBM e.symm) (fun e => hMM e.symm) (.func f6 #[] a6)
                   have hX7 := ((HT5.out.2.1.alloc (.cells #[.nilFunc] 223)).drew.trans hx6b).setCell (p := ⟨w5.heap.size, 0, none⟩) (.inr hXs) (.func f6 #[] a6)
                   have hbT := heap_setCell_same w6 w5.heap.size 0 _ 223 (.func f6 #[] a6) hm6
                   have hbN5 : (w5.alloc (.cells #[.nilFunc] 223)).drew.heap[M0]? = some (.cells #[.int .i64 k] 3 (0, 0)) := (Below.heap_alloc w5 (.cells #[.nilFunc] 223) M0 hN5).trans HT5.out.2.2
                   have hbN := (heap_setCell_other w6 ⟨w5.heap.size, 0, none⟩ M0 (.func f6 #[] a6) (by show M0 ≠ w5.heap.size; omega)).trans ((hx6b.block M0 (lt_of_block hbN5) (fun e => hBN e.symm)).trans hbN5)
                   have HF7 : Put (Done b True (FnK 0 (w6.setCell ⟨w5.heap.size, 0, none⟩ (.func f6 #[] a6)) (.func f6 #[] a6) (fun y => .int .u8 (toP s (chOf s t.at_) (Gv vs k + 1) y : Nat)) ∧ True)) := ⟨Done.map (fun h => ⟨h.1.kp (Kp.fill (.func f6 #[] a6) hm6), h.2⟩) hf6⟩
                   clear hb6b hx6b hm6 km fm hf6 hbN5
                   generalize w6.setCell ⟨w5.heap.size, 0, none⟩ (.func f6 #[] a6) = w7 at *
                   generalize w5.heap.size = MT at *)
              have H7 : Put (_ ∧ _ ∧ _ ∧ _) := ⟨hb7, hX7, hbN, hbT⟩
              have c6 : w7.cell? ⟨B, 6, none⟩ = some x.vh := hb7.c6
              clear hb7 hX7 hbN hbT HT5 HT0 kN c2 hgk hlt5 hltM hN5 hBM hMM hw1 hXs
              cases b with
              | false =>
                have FIN : Put (Fail B M s t' w0 w7) := ⟨HS.out.fail H7.out.1 H7.out.2.1⟩
                clear H7 HF7 HS HE3 HQ
                go_wp2
                go_ret
                exact ⟨rfl, FIN.out⟩
              | true =>
                have hE := HE3.out
                have h7 := HS.out.ex H7.out.1 H7.out.2.1 (by omega) (by omega) (by omega)
                obtain ⟨zs, d1, d2⟩ := h7.rw.h
                have HH : Put (_ ∧ _ ∧ _) := ⟨h7, d1, d2⟩
                have hl := h7.ld
                have hNw7 := h7.hNw
                have HDL : Put (dl.length < t'.at_) := ⟨by have := HS.out.ld; omega⟩
                have hl2 : dl.length ≤ 120 := by omega
                have HM : Put (_ ∧ _ ∧ _) := ⟨H7.out.2.2.1, H7.out.2.2.2, HF7.out⟩
                have hmf : ∀ (fn : Fn) (first cap : Array Value) (w : World), (Instr.makeFunc fn first cap).run Tryz.prog w = .ok (.func fn first cap) w := fun _ _ _ _ => rfl
                obtain ⟨i0, hi, hz0, hz1, hz2⟩ := info_parts Tryz.infoD
                clear d1 d2 HF7 h7 H7 HS HE3 hE hl
                go_wp2_with (at_builtin; refine wpList_append_own _ rfl _ _ 117 rfl N 270 i0 .nilFunc 1 8 Tryz.underlying117 hi hz0 hz1 hz2 rfl Nat.one_pos _ _ _ rfl (HH.out.2.1.alloc _) ⟨w7.heap.size, 0, none⟩ 1 1 [.func (.func 115) #[] #[.pointer (some ⟨M0, 0, none⟩), .pointer (some ⟨MT, 0, none⟩)]] rfl rfl (cell_one_new _ _ _) (func_oneCell _ _ _) (by unfold maxLen; omega) (by omega) (by simp; omega) ?_)
                intro v' W8 hown' hgrow _
                obtain ⟨g5, cap5, rfl⟩ := ownsRow_succ hown'
                have hb8 := (HH.out.1.rb.alloc (.cells #[.func (.func 115) #[] #[.pointer (some ⟨M0, 0, none⟩), .pointer (some ⟨MT, 0, none⟩)]] 270)).grown hgrow (ne_own HH.out.1.hN HH.out.2.1) (ne_own (by have := HH.out.1.rb.lo; have := HH.out.1.hN; omega) HH.out.2.1)
                have d6 := hb8.c6
                have f6' := hb8.free 6
                have hG3 := HH.out.1.gf.le k
                have hnew : FnK2 w7 (.func (.func 115) #[] #[.pointer (some ⟨M0, 0, none⟩), .pointer (some ⟨MT, 0, none⟩)]) (fun y m => .int .u64 (spr m (chOf s t.at_).1.toNat (toP s (chOf s t.at_) (Gv vs (chOf s t.at_).1.toNat + 1) y) : Nat)) := by
                  rw [HQ.out]
                  refine ⟨115, _, rfl, enters_of Tryz.func115 (by kernel_rfl) rfl, fun W hW h0 hT y m hy hm => ?_⟩
                  exact fn71_any M0 MT k y m hy (by omega) hm _ (fun y => toP s (chOf s t.at_) (Gv vs k + 1) y) (toP_lt _ _ _ (by omega) (by omega)) _ W hW h0 hT HM.out.2.2.1 (hW.box HM.out.1) (hW.box HM.out.2.1)
                have FIN : Put (∃ x', St B M N s vs t' x' cl (dl ++ [chOf s t.at_]) rl w0 (W8.setCell ⟨B, 6, none⟩ (.slice (some ⟨g5, 0, none⟩) (dl.length + 1) cap5))) := ⟨_, HH.out.1.change_push HDL.out (by rw [HQ.out]; omega) HH.out.2.1 HH.out.2.2 hnew hgrow hown'⟩
                clear hb8 hown' hgrow hnew HM HH HQ HDL
                go_wp2
                go_ret
                exact ⟨rfl, FIN.out⟩
    | false =>
      have hb3 : RB B M s t2 x (w2.drewN nq) := by
        have e2 : t2 = t1 := by rw [ht2, sc, hT]; rfl
        rw [e2]; exact hb2.drewN _
      have hX := hx2.drewN nq
      have hblk3 : (w2.drewN nq).heap[M0]? = some (.cells #[.int .i64 k] 3 (0, 0)) := hblk
      clear hb2 hx2 hblk kN c7 hlt2
      generalize w2.drewN nq = w3 at *
      go_wp2_with fail
      clear hT
      have c7 : w3.cell? ⟨B, 7, none⟩ = some (.int .u8 t.chd) := by rw [← sc, ← st2]; exact hb3.c7
      have f7 := hb3.free 7
      have kN := cell_of_one hblk3
      have hlt3 := hb3.lt
      have hb4 : RB B M s (t1.marked k) x (w3.setCell ⟨B, 7, none⟩ (.int .u8 ((t.chd ||| 2 ^ k : Nat) : Int))) := by rw [← sc]; exact hb3.mark k ht2
      have hx4 := hX.setCell (p := ⟨B, 7, none⟩) (.inl rfl) (.int .u8 ((t.chd ||| 2 ^ k : Nat) : Int))
      have hblk4 : (w3.setCell ⟨B, 7, none⟩ (.int .u8 ((t.chd ||| 2 ^ k : Nat) : Int))).heap[M0]? = some (.cells #[.int .i64 k] 3 (0, 0)) := (heap_setCell_other _ _ _ _ (fun e => hBN e.symm)).trans hblk3
      replace hb4 := hb4.drew
      replace hx4 := hx4.drew
      replace hblk4 : (w3.setCell ⟨B, 7, none⟩ (.int .u8 ((t.chd ||| 2 ^ k : Nat) : Int))).drew.heap[M0]? = some (.cells #[.int .i64 k] 3 (0, 0)) := hblk4
      have HA : Put (_ ∧ _ ∧ _ ∧ _ ∧ _) := ⟨sn, sm, hp, hlt, h1⟩
      clear hb3 hX hblk3 ht2 st2 sn sm hp h1
      go_region_law ((go_simp; go_at_call 113; refine (withNames t.chd k hcd (by omega) _).mono ?_; rintro e w' ⟨rfl, rfl⟩))
      all_goals
        generalize (w3.setCell ⟨B, 7, none⟩ (.int .u8 ((t.chd ||| 2 ^ k : Nat) : Int))).drew = w4 at *
        clear c7 f7 kN hlt3 sc
        clear w3
        generalize t1.marked k = t3 at *
        have hat3 : t3.at_ ≤ s.size := by have := HA.out; omega
        cases h3 : num? s t3.at_ 61 0 0 with
        | none =>
          obtain ⟨-, -, hp, -, -⟩ := HA.out
          simp only [h3, Prod.mk.injEq] at hp
          obtain ⟨rfl, rfl⟩ := hp
          clear HA
          go_wp2_with fail
          refine (take_no 61 hs hat3 (by omega) hb4 h3).mono ?_; rintro e w5 ⟨rfl, hb5, hx5⟩
          have FIN : Put (Fail B M s t3 w0 w5) := ⟨HS.out.fail hb5 (hx4.trans hx5)⟩
          clear hb5 hb4 hx4 hx5 HS
          go_wp2
          go_ret
          exact ⟨rfl, FIN.out⟩
        | some k5 =>
          have hat5 : t3.adv.at_ ≤ s.size := num_lt h3
          go_wp2_with fail
          refine (take_yes 61 k5 hs (by omega) hb4 h3).mono ?_; rintro e w5 ⟨rfl, hb5, hx5⟩
          go_wp2_with fail
          have hX := hx4.trans hx5
          have hblk5 : w5.heap[M0]? = some (.cells #[.int .i64 k] 3 (0, 0)) := (hx5.block M0 (lt_of_block hblk4) (fun e => hBN e.symm)).trans hblk4
          clear hb4 hx4 hx5 hblk4 w4
          have kN := cell_of_one hblk5
          have c2 := hb5.c2
          have hgk : w5.cell? ⟨M, k * 2, none⟩ = some (.int .i64 (Gv vs k : Int)) := by
            rw [← HS.out.gf.g (show k < 3 by omega)]
            have hk3 : k = 0 ∨ k = 1 ∨ k = 2 := by omega
            rcases hk3 with rfl | rfl | rfl
            · exact hb5.m0
            · exact hb5.m2
            · exact hb5.m4
          have hG3 := HS.out.gf.le k
          have hlt5 := hb5.lt
          have hltM := hb5.ltM
          have hN5 := lt_of_block hblk5
          have hp' : pTo s t3.adv = (b, t') := by
            obtain ⟨-, -, hp, -, -⟩ := HA.out
            simp only [h3] at hp
            exact hp
          have hBM : B ≠ w5.heap.size := by omega
          have hMM : M ≠ w5.heap.size := by omega
          have hw1 : IntKind.i64.wrap ((Gv vs k : Int) + 1) = (Gv vs k : Int) + 1 := by simp [IntKind.wrap, IntKind.signed, IntKind.bits]; omega
          have HE3 : Put (t3.adv.at_ = t.at_ + 2 ∧ t'.nr = t.nr ∧ t'.n = t.n ∧ t.at_ + 2 ≤ t'.at_ ∧ t'.at_ ≤ s.size) := ⟨by
            have hA := HA.out
            have st := pTo_same hp'
            have e1 : t3.adv.at_ = t3.at_ + 1 := rfl
            have e2 : t3.adv.nr = t3.nr := rfl
            have e3 : t3.adv.n = t3.n := rfl
            omega⟩
          have HT5 : Put (_ ∧ _ ∧ _) := ⟨hb5, hX, hblk5⟩
          have hXs : w.heap.size ≤ w5.heap.size := hX.size
          have HSC : Put (∀ (tq : T) (W : World), RB B M s tq x W → W.heap[M0]? = some (.cells #[.int .i64 k] 3 (0, 0)) → W.cell? ⟨B, 2, none⟩ = some (.pointer (some ⟨M, 0, none⟩)) ∧ W.cell? ⟨M0, 0, none⟩ = some (.int .i64 k) ∧ W.cell? ⟨M, k * 2, none⟩ = some (.int .i64 (Gv vs k : Int))) := ⟨fun tq W hr hm => ⟨hr.c2, cell_of_one hm, by
            rw [← HS.out.gf.g (show k < 3 by omega)]
            have hk3 : k = 0 ∨ k = 1 ∨ k = 2 := by omega
            rcases hk3 with rfl | rfl | rfl
            · exact hr.m0
            · exact hr.m2
            · exact hr.m4⟩⟩
          have HTN : Put (pToNil s t3.adv = true → ∀ (c : Int) w6, RB B M s t3.adv x w6 → Calls Tryz.prog 114 #[.pointer (some ⟨B, 0, none⟩), .int .i64 c] w6 fun e w' => e = .returned (.tuple #[.nilFunc, .bool false]) ∧ RB B M s t' x w' ∧ Ex B w6 w') := ⟨fun hz c w6 h6 => by
            obtain ⟨rfl, rfl⟩ := pToNil_no hp' hz
            exact to_nil c hs hat5 h6 hp' hz⟩
          have HTF : Put (pToNil s t3.adv = false → ∀ w6, RB B M s t3.adv x w6 → Calls Tryz.prog 114 #[.pointer (some ⟨B, 0, none⟩), .int .i64 ((Gv vs k : Int) + 1)] w6 fun e w' => (∃ f a, e = .returned (.tuple #[.func f #[] a, .bool b]) ∧ Done b True (FnK 0 w' (.func f #[] a) (fun y => .int .u8 (toP s (chOf s t.at_) (Gv vs k + 1) y : Nat)) ∧ True)) ∧ RB B M s t' x w' ∧ Ex B w6 w') := ⟨fun hz w6 h6 => by
            have := to_fn (Gv vs k + 1) t.at_ (by omega) (by omega) hs hat5 (by have := HE3.out; omega) h6 hp' hz
            exact this⟩
          have HPZ : Put (pToNil s t3.adv = true → b = false) := ⟨fun hz => (pToNil_no hp' hz).1⟩
          clear HA hp' h3 hat3 hat5 hX hb5 hblk5 hcd hcd1 hG3 hNw hwN hat hk
          cases hz : pToNil s t3.adv with
          | true =>
            have hbf := HPZ.out hz
            subst hbf
            have HT0 : Put (_) := ⟨HTN.out hz⟩
            clear hz HTN HTF HPZ
            go_region_held3 (fun w' => w'.cell? ⟨B, 2, none⟩ = some (.pointer (some ⟨M, 0, none⟩)) ∧ w'.cell? ⟨M0, 0, none⟩ = some (.int .i64 k) ∧ w'.cell? ⟨M, k * 2, none⟩ = some (.int .i64 (Gv vs k : Int)))
              (first | exact ⟨c2, kN, hgk⟩ | exact s6a | exact s6c | exact s6b | exact HSC.out _ _ (hb6a.alloc _) ((Below.heap_alloc _ _ _ (lt_of_block hm0a)).trans hm0a) | exact HSC.out _ _ (hb6b.set_other (p := ⟨w5.heap.size, 0, none⟩) (fun e => hBM e.symm) (fun e => hMM e.symm) _) ((heap_setCell_other _ _ _ _ (by show M0 ≠ w5.heap.size; omega)).trans hm0b) | exact HSC.out _ _ ((HT5.out.1.drew).alloc _) ((Below.heap_alloc _ _ _ hN5).trans HT5.out.2.2) | go_keep)
              (first
              | (go_simp; go_at_call 114; refine (HT0.out _ _ HT5.out.1.drew).mono ?_; rintro e w6 ⟨rfl, hb6a, hx6a⟩; have hm0a := (hx6a.block M0 hN5 (fun e => hBN e.symm)).trans HT5.out.2.2; have s6a := HSC.out _ _ hb6a hm0a; have s6c := HSC.out _ _ (hb6a.alloc (.cells #[.nilFunc] 223)) ((Below.heap_alloc _ _ _ (lt_of_block hm0a)).trans hm0a))
              | (go_simp; go_at_call 114; refine (HT0.out _ _ (HT5.out.1.alloc (.cells #[.nilFunc] 223)).drew).mono ?_; rintro e w6 ⟨rfl, hb6b, hx6b⟩; have hm6 := (hx6b.block w5.heap.size (size_new w5 _) (fun e => hBM e.symm)).trans (heap_alloc_new w5 (.cells #[.nilFunc] 223)); have hm0b := (hx6b.block M0 (by simp; omega) (fun e => hBN e.symm)).trans ((Below.heap_alloc w5 (.cells #[.nilFunc] 223) M0 hN5).trans HT5.out.2.2); have s6b := HSC.out _ _ hb6b hm0b; have km := cell_of_one hm6; have fm := free_of_one hm6))
            all_goals
              first
                | (have FIN : Put (Fail B M s t' w0 (w6.alloc (.cells #[.nilFunc] 223))) := ⟨HS.out.fail (hb6a.alloc _) ((HT5.out.2.1.drew.trans hx6a).alloc _)⟩
                   clear hb6a hx6a)
                | (have FIN : Put (Fail B M s t' w0 (w6.setCell ⟨w5.heap.size, 0, none⟩ .nilFunc)) := ⟨HS.out.fail (hb6b.set_other (p := ⟨w5.heap.size, 0, none⟩) (fun e => hBM e.symm) (fun e => hMM e.symm) (.nilFunc)) (((HT5.out.2.1.alloc (.cells #[.nilFunc] 223)).drew.trans hx6b).setCell (p := ⟨w5.heap.size, 0, none⟩) (.inr hXs) (.nilFunc))⟩
                   clear hb6b hx6b hm6)
              clear HS HT5 HT0 HE3 HQ
              go_wp2
              go_ret
              exact ⟨rfl, FIN.out⟩
          | false =>
            have HT0 : Put (_) := ⟨HTF.out hz⟩
            clear hz HTN HTF HPZ
            go_region_held3 (fun w' => w'.cell? ⟨B, 2, none⟩ = some (.pointer (some ⟨M, 0, none⟩)) ∧ w'.cell? ⟨M0, 0, none⟩ = some (.int .i64 k) ∧ w'.cell? ⟨M, k * 2, none⟩ = some (.int .i64 (Gv vs k : Int)))
              (first | exact ⟨c2, kN, hgk⟩ | exact s6a | exact s6c | exact s6b | exact HSC.out _ _ (hb6a.alloc _) ((Below.heap_alloc _ _ _ (lt_of_block hm0a)).trans hm0a) | exact HSC.out _ _ (hb6b.set_other (p := ⟨w5.heap.size, 0, none⟩) (fun e => hBM e.symm) (fun e => hMM e.symm) _) ((heap_setCell_other _ _ _ _ (by show M0 ≠ w5.heap.size; omega)).trans hm0b) | exact HSC.out _ _ ((HT5.out.1.drew).alloc _) ((Below.heap_alloc _ _ _ hN5).trans HT5.out.2.2) | go_keep)
              (first
              | (go_simp; go_at_call 114; refine (HT0.out _ HT5.out.1.drew).mono ?_; rintro e w6 ⟨⟨f6, a6, rfl, hf6⟩, hb6a, hx6a⟩; have hm0a := (hx6a.block M0 hN5 (fun e => hBN e.symm)).trans HT5.out.2.2; have s6a := HSC.out _ _ hb6a hm0a; have s6c := HSC.out _ _ (hb6a.alloc (.cells #[.nilFunc] 223)) ((Below.heap_alloc _ _ _ (lt_of_block hm0a)).trans hm0a))
              | (go_simp; go_at_call 114; refine (HT0.out _ (HT5.out.1.alloc (.cells #[.nilFunc] 223)).drew).mono ?_; rintro e w6 ⟨⟨f6, a6, rfl, hf6⟩, hb6b, hx6b⟩; have hm6 := (hx6b.block w5.heap.size (size_new w5 _) (fun e => hBM e.symm)).trans (heap_alloc_new w5 (.cells #[.nilFunc] 223)); have hm0b := (hx6b.block M0 (by simp; omega) (fun e => hBN e.symm)).trans ((Below.heap_alloc w5 (.cells #[.nilFunc] 223) M0 hN5).trans HT5.out.2.2); have s6b := HSC.out _ _ hb6b hm0b; have km := cell_of_one hm6; have fm := free_of_one hm6))
            all_goals
              first
                | (have hb7 := hb6a.alloc (.cells #[.func f6 #[] a6] 223)
                   have hX7 := (HT5.out.2.1.drew.trans hx6a).alloc (.cells #[.func f6 #[] a6] 223)
                   have hbT := heap_alloc_new w6 (.cells #[.func f6 #[] a6] 223)
                   have hbN := (Below.heap_alloc w6 (.cells #[.func f6 #[] a6] 223) M0 (lt_of_block ((hx6a.block M0 hN5 (fun e => hBN e.symm)).trans HT5.out.2.2))).trans ((hx6a.block M0 hN5 (fun e => hBN e.symm)).trans HT5.out.2.2)
                   have HF7 : Put (Done b True (FnK 0 (w6.alloc (.cells #[.func f6 #[] a6] 223)) (.func f6 #[] a6) (fun y => .int .u8 (toP s (chOf s t.at_) (Gv vs k + 1) y : Nat)) ∧ True)) := ⟨Done.map (fun h => ⟨h.1.kp (Kp.alloc 0 w6 (.cells #[.func f6 #[] a6] 223)), h.2⟩) hf6⟩
                   clear hb6a hx6a hf6
                   generalize w6.alloc (.cells #[.func f6 #[] a6] 223) = w7 at *
                   generalize w6.heap.size = MT at *)
                | (have hb7 := hb6b.set_other (p := ⟨w5.heap.size, 0, none⟩) (fun e => hBM e.symm) (fun e => hMM e.symm) (.func f6 #[] a6)
                   have hX7 := ((HT5.out.2.1.alloc (.cells #[.nilFunc] 223)).drew.trans hx6b).setCell (p := ⟨w5.heap.size, 0, none⟩) (.inr hXs) (.func f6 #[] a6)
                   have hbT := heap_setCell_same w6 w5.heap.size 0 _ 223 (.func f6 #[] a6) hm6
                   have hbN5 : (w5.alloc (.cells #[.nilFunc] 223)).drew.heap[M0]? = some (.cells #[.int .i64 k] 3 (0, 0)) := (Below.heap_alloc w5 (.cells #[.nilFunc] 223) M0 hN5).trans HT5.out.2.2
                   have hbN := (heap_setCell_other w6 ⟨w5.heap.size, 0, none⟩ M0 (.func f6 #[] a6) (by show M0 ≠ w5.heap.size; omega)).trans ((hx6b.block M0 (lt_of_block hbN5) (fun e => hBN e.symm)).trans hbN5)
                   have HF7 : Put (Done b True (FnK 0 (w6.setCell ⟨w5.heap.size, 0, none⟩ (.func f6 #[] a6)) (.func f6 #[] a6) (fun y => .int .u8 (toP s (chOf s t.at_) (Gv vs k + 1) y : Nat)) ∧ True)) := ⟨Done.map (fun h => ⟨h.1.kp (Kp.fill (.func f6 #[] a6) hm6), h.2⟩) hf6⟩
                   clear hb6b hx6b hm6 km fm hf6 hbN5
                   generalize w6.setCell ⟨w5.heap.size, 0, none⟩ (.func f6 #[] a6) = w7 at *
                   generalize w5.heap.size = MT at *)
              have H7 : Put (_ ∧ _ ∧ _ ∧ _) := ⟨hb7, hX7, hbN, hbT⟩
              have c6 : w7.cell? ⟨B, 6, none⟩ = some x.vh := hb7.c6
              clear hb7 hX7 hbN hbT HT5 HT0 kN c2 hgk hlt5 hltM hN5 hBM hMM hw1 hXs
              cases b with
              | false =>
                have FIN : Put (Fail B M s t' w0 w7) := ⟨HS.out.fail H7.out.1 H7.out.2.1⟩
                clear H7 HF7 HS HE3 HQ
                go_wp2
                go_ret
                exact ⟨rfl, FIN.out⟩
              | true =>
                have hE := HE3.out
                have h7 := HS.out.ex H7.out.1 H7.out.2.1 (by omega) (by omega) (by omega)
                obtain ⟨zs, d1, d2⟩ := h7.rw.h
                have HH : Put (_ ∧ _ ∧ _) := ⟨h7, d1, d2⟩
                have hl := h7.ld
                have hNw7 := h7.hNw
                have HDL : Put (dl.length < t'.at_) := ⟨by have := HS.out.ld; omega⟩
                have hl2 : dl.length ≤ 120 := by omega
                have HM : Put (_ ∧ _ ∧ _) := ⟨H7.out.2.2.1, H7.out.2.2.2, HF7.out⟩
                have hmf : ∀ (fn : Fn) (first cap : Array Value) (w : World), (Instr.makeFunc fn first cap).run Tryz.prog w = .ok (.func fn first cap) w := fun _ _ _ _ => rfl
                obtain ⟨i0, hi, hz0, hz1, hz2⟩ := info_parts Tryz.infoD
                clear d1 d2 HF7 h7 H7 HS HE3 hE hl
                go_wp2_with (at_builtin; refine wpList_append_own _ rfl _ _ 117 rfl N 270 i0 .nilFunc 1 8 Tryz.underlying117 hi hz0 hz1 hz2 rfl Nat.one_pos _ _ _ rfl (HH.out.2.1.alloc _) ⟨w7.heap.size, 0, none⟩ 1 1 [.func (.func 115) #[] #[.pointer (some ⟨M0, 0, none⟩), .pointer (some ⟨MT, 0, none⟩)]] rfl rfl (cell_one_new _ _ _) (func_oneCell _ _ _) (by unfold maxLen; omega) (by omega) (by simp; omega) ?_)
                intro v' W8 hown' hgrow _
                obtain ⟨g5, cap5, rfl⟩ := ownsRow_succ hown'
                have hb8 := (HH.out.1.rb.alloc (.cells #[.func (.func 115) #[] #[.pointer (some ⟨M0, 0, none⟩), .pointer (some ⟨MT, 0, none⟩)]] 270)).grown hgrow (ne_own HH.out.1.hN HH.out.2.1) (ne_own (by have := HH.out.1.rb.lo; have := HH.out.1.hN; omega) HH.out.2.1)
                have d6 := hb8.c6
                have f6' := hb8.free 6
                have hG3 := HH.out.1.gf.le k
                have hnew : FnK2 w7 (.func (.func 115) #[] #[.pointer (some ⟨M0, 0, none⟩), .pointer (some ⟨MT, 0, none⟩)]) (fun y m => .int .u64 (spr m (chOf s t.at_).1.toNat (toP s (chOf s t.at_) (Gv vs (chOf s t.at_).1.toNat + 1) y) : Nat)) := by
                  rw [HQ.out]
                  refine ⟨115, _, rfl, enters_of Tryz.func115 (by kernel_rfl) rfl, fun W hW h0 hT y m hy hm => ?_⟩
                  exact fn71_any M0 MT k y m hy (by omega) hm _ (fun y => toP s (chOf s t.at_) (Gv vs k + 1) y) (toP_lt _ _ _ (by omega) (by omega)) _ W hW h0 hT HM.out.2.2.1 (hW.box HM.out.1) (hW.box HM.out.2.1)
                have FIN : Put (∃ x', St B M N s vs t' x' cl (dl ++ [chOf s t.at_]) rl w0 (W8.setCell ⟨B, 6, none⟩ (.slice (some ⟨g5, 0, none⟩) (dl.length + 1) cap5))) := ⟨_, HH.out.1.change_push HDL.out (by rw [HQ.out]; omega) HH.out.2.1 HH.out.2.2 hnew hgrow hown'⟩
                clear hb8 hown' hgrow hnew HM HH HQ HDL
                go_wp2
                go_ret
                exact ⟨rfl, FIN.out⟩
end
end Go.Proofs.YtgoebckimmofoaaGreatDoor
