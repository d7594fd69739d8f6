/- A condition of a good model, read: what it means. Our own text. -/
import Derived.Test.YtcnhhclogbjedaaDoorGBase
import Derived.Deep.RegionLaw
import Derived.Deep.RegionHeld3
namespace Go.Proofs.YtcnhhclogbjedaaDoor
open Go.RowKit Go.Lib

/-- A comparison. -/
def CmpV (v : Value) (op : Nat) : Prop :=
  ∃ fn : Nat, v = .func (.func fn) #[] #[] ∧ (∀ args w, (callFunc fn args).run Tryd.prog w = .ok (.enter fn args) w) ∧
    ∀ W (a b : Nat), Calls Tryd.prog fn #[.int .i64 (a : Nat), .int .i64 (b : Nat)] W fun e W' => e = .returned (.bool (cmpP op a b)) ∧ W' = W
theorem cmp80 : CmpV (.func (.func 80) #[] #[]) 61 := by
  refine ⟨80, rfl, enters_of Tryd.func80 (by kernel_rfl) rfl, fun W a b => ?_⟩
  have e : cmpP 61 a b = ((a : Int) == (b : Int)) := (cmpP_same (op := 61) rfl rfl rfl).symm
  rw [e]
  clear e
  go_enter Tryd.func80, Tryd.ntmps80
  go_wp2
  go_ret
  exact ⟨rfl, rfl⟩
theorem cmp81 : CmpV (.func (.func 81) #[] #[]) 35 := by
  refine ⟨81, rfl, enters_of Tryd.func81 (by kernel_rfl) rfl, fun W a b => ?_⟩
  have e : cmpP 35 a b = ((a : Int) != (b : Int)) := (cmpP_same (op := 35) rfl rfl rfl).symm
  rw [e]
  clear e
  go_enter Tryd.func81, Tryd.ntmps81
  go_wp2
  go_ret
  exact ⟨rfl, rfl⟩
theorem cmp82 : CmpV (.func (.func 82) #[] #[]) 60 := by
  refine ⟨82, rfl, enters_of Tryd.func82 (by kernel_rfl) rfl, fun W a b => ?_⟩
  have e : cmpP 60 a b = decide ((a : Int) < (b : Int)) := (cmpP_same (op := 60) rfl rfl rfl).symm
  rw [e]
  clear e
  go_enter Tryd.func82, Tryd.ntmps82
  go_wp2
  go_ret
  refine ⟨?_, rfl⟩
  show Ending.returned (Value.bool (decide (a < b))) = Ending.returned (Value.bool (decide ((a : Int) < (b : Int))))
  congr 2
  rw [Bool.eq_iff_iff]; simp

section
variable {B : Nat} {s : ByteArray} {t : T} {x : Junk} {w : World}
theorem gcmp (hs : s.size ≤ 120) (hat : t.at_ ≤ s.size) (hb : RB B s t x w) (hq : qOp s (.ok t.at_) = true) :
    Calls Tryd.prog 65 #[.pointer (some ⟨B, 0, none⟩)] w fun e w' => (∃ v, e = .returned (.tuple #[v, .bool true]) ∧ CmpV v (byteAt s t.at_) ∧ ∃ f a, v = .func f #[] a) ∧ RB B s t.adv x w' ∧ Ex B w w' := by
  cases h1 : num? s t.at_ 61 0 0 with
  | some k =>
    have hby : byteAt s t.at_ = 61 := by have := num_byte h1; have := (num_le h1).2; omega
    rw [hby]
    clear hby hq
    go_enter Tryd.func65, Tryd.ntmps65
    go_wp2_with (go_at_call 44; refine (take_yes 61 k hs (by omega) hb h1).mono ?_; rintro e w1 ⟨rfl, hb1, hx1⟩)
    go_ret2
    exact ⟨⟨_, rfl, cmp80, _, _, rfl⟩, hb1, hx1⟩
  | none =>
    cases h2 : num? s t.at_ 35 0 0 with
    | some k =>
      have hby : byteAt s t.at_ = 35 := by have := num_byte h2; have := (num_le h2).2; omega
      rw [hby]
      clear hby hq
      go_enter Tryd.func65, Tryd.ntmps65
      go_wp2_with fail
      refine (take_no 61 hs hat (by omega) hb h1).mono ?_; rintro e w1 ⟨rfl, hb1, hx1⟩
      go_wp2_with fail
      refine (take_yes 35 k hs (by omega) hb1 h2).mono ?_; rintro e w2 ⟨rfl, hb2, hx2⟩
      go_wp2
      go_ret2
      exact ⟨⟨_, rfl, cmp81, _, _, rfl⟩, hb2, hx1.trans hx2⟩
    | none =>
      cases h3 : num? s t.at_ 60 0 0 with
      | some k =>
        have hby : byteAt s t.at_ = 60 := by have := num_byte h3; have := (num_le h3).2; omega
        rw [hby]
        clear hby hq
        go_enter Tryd.func65, Tryd.ntmps65
        go_wp2_with fail
        refine (take_no 61 hs hat (by omega) hb h1).mono ?_; rintro e w1 ⟨rfl, hb1, hx1⟩
        go_wp2_with fail
        refine (take_no 35 hs hat (by omega) hb1 h2).mono ?_; rintro e w2 ⟨rfl, hb2, hx2⟩
        go_wp2_with fail
        refine (take_yes 60 k hs (by omega) hb2 h3).mono ?_; rintro e w3 ⟨rfl, hb3, hx3⟩
        go_wp2
        go_ret2
        exact ⟨⟨_, rfl, cmp82, _, _, rfl⟩, hb3, (hx1.trans hx2).trans hx3⟩
      | none =>
        have e1 : qNum s (.ok t.at_) 61 0 = none := h1
        have e2 : qNum s (.ok t.at_) 35 0 = none := h2
        have e3 : qNum s (.ok t.at_) 60 0 = none := h3
        unfold qOp at hq
        rw [e1, e2, e3] at hq
        simp at hq
end

set_option maxRecDepth 100000 in
set_option maxHeartbeats 1600000 in
theorem fn66_any (bc bl br op y : Nat) (hy : y < 64) (vc vl vr : Value) (L R : Nat → Nat) (w W : World) (hW : Kp 0 w W) (h0 : 0 < W.heap.size) (hT : Tab W) (hc : CmpV vc op) (hl : FnK 0 w vl (fun x => .int .i64 (L x : Nat))) (hr : FnK 0 w vr (fun x => .int .i64 (R x : Nat)))
    (b1 : W.heap[bc]? = some (.cells #[vc] 130 (0, 0))) (b2 : W.heap[bl]? = some (.cells #[vl] 127 (0, 0))) (b3 : W.heap[br]? = some (.cells #[vr] 127 (0, 0))) :
    Calls Tryd.prog 66 #[.int .u8 (y : Nat), .pointer (some ⟨bc, 0, none⟩), .pointer (some ⟨bl, 0, none⟩), .pointer (some ⟨br, 0, none⟩)] W fun e W' => e = .returned (.bool (cmpP op (L y) (R y))) ∧ Below W.heap.size W W' := by
  obtain ⟨fc, rfl, ec, kc⟩ := hc
  obtain ⟨fl, cl, rfl, el, kl⟩ := hl
  obtain ⟨fr, cr, rfl, er, kr⟩ := hr
  have c1 := box_cell b1
  have c2 := box_cell b2
  have c3 := box_cell b3
  have hL : ∀ W2, Below W.heap.size W W2 → Calls Tryd.prog fl (#[.int .u8 (y : Nat)] ++ cl) W2 fun e W' => e = .returned (.int .i64 ((L y : Nat) : Int)) ∧ Below W2.heap.size W2 W' := fun W2 h2 => kl W2 (hW.trans (Kp.of_below h2)) (Nat.lt_of_lt_of_le h0 h2.size) (hT.below h2 h0) y hy
  have hR : ∀ W2, Below W.heap.size W W2 → Calls Tryd.prog fr (#[.int .u8 (y : Nat)] ++ cr) W2 fun e W' => e = .returned (.int .i64 ((R y : Nat) : Int)) ∧ Below W2.heap.size W2 W' := fun W2 h2 => kr W2 (hW.trans (Kp.of_below h2)) (Nat.lt_of_lt_of_le h0 h2.size) (hT.below h2 h0) y hy
  have l1 := lt_of_block b1
  have l2 := lt_of_block b2
  have l3 := lt_of_block b3
  generalize L y = a at *
  generalize R y = b at *
  have hC : ∀ W2, Calls Tryd.prog fc #[.int .i64 (a : Nat), .int .i64 (b : Nat)] W2 fun e W' => e = .returned (.bool (cmpP op a b)) ∧ W' = W2 := fun W2 => kc W2 a b
  clear b1 b2 b3 kl kr kc hW
  have hdr : Below W.heap.size W W.drew := ⟨rfl, rfl, rfl, Nat.le_refl _, fun _ _ => rfl⟩
  have HL : Put (_) := ⟨hL⟩
  have HR : Put (_) := ⟨hR⟩
  have HC : Put (_) := ⟨hC⟩
  clear hL hR hC hT
  go_enter Tryd.func66, Tryd.ntmps66
  go_wp2_with fail
  go_region_held3 (fun w' => ∀ b o, b < W.heap.size → w'.cell? ⟨b, o, none⟩ = W.cell? ⟨b, o, none⟩)
    (first
      | exact fun b o hb => (hbR'.cell (p := ⟨b, o, none⟩) hb)
      | exact fun b o hb => (hbL'.cell (p := ⟨b, o, none⟩) hb)
      | exact fun _ _ _ => rfl
      | go_keep)
    (first
      | (with_reducible refine (HR.out wL hbL').mono ?_; rintro e wR ⟨rfl, hbR⟩; have hbR' : Below W.heap.size W wR := hbL'.trans (hbR.mono hbL'.size))
      | (with_reducible refine (HC.out wR).mono ?_; rintro e wC ⟨rfl, rfl⟩)
      | (refine (HL.out W.drew hdr).mono ?_; rintro e wL ⟨rfl, hbL⟩; have hbL' : Below W.heap.size W wL := hdr.trans hbL))
  all_goals
    go_wp2
    go_ret
    exact ⟨rfl, hbR'⟩
end Go.Proofs.YtcnhhclogbjedaaDoor

namespace Go.Proofs.YtcnhhclogbjedaaDoor
open Go.RowKit Go.Lib

/-- What the three rows of a reader mean. -/
structure RW (B N : Nat) (s : ByteArray) (G : Nat → Nat) (x : Junk) (cl : List (Tm × Tm)) (dl : List Chg) (rl : List RA) (w : World) : Prop where
  r : ∃ xs, w.ownsRow (B + 1) 106 1 x.vr rl.length xs ∧ All2 (fun v r => FnK N w v (fun y => .int .u64 (ruP s G r y : Nat))) xs rl
  c : ∃ xs, w.ownsRow N 149 1 x.vc cl.length xs ∧ All2 (fun v c => FnK 0 w v (fun y => .bool (cdP s c y))) xs cl
  h : ∃ xs, w.ownsRow N 150 1 x.vh dl.length xs ∧ All2 (fun v d => FnK2 w v (fun y m => .int .u64 (spr m d.1.toNat (toP s d (G d.1.toNat + 1) y) : Nat))) xs dl
section
variable {B N : Nat} {s : ByteArray} {G : Nat → Nat} {t : T} {x : Junk} {w : World} {cl : List (Tm × Tm)} {dl : List Chg} {rl : List RA}
theorem ne_own {w : World} {B N e z n : Nat} {v : Value} {xs : List Value} (hN : B < N) (h : w.ownsRow N e z v n xs) : v.ownBlock ≠ some B := by
  intro e'; have := (h.lt B e').1; omega
theorem ge_own {w : World} {B N e z n : Nat} {v : Value} {xs : List Value} (hN : B ≤ N) (h : w.ownsRow N e z v n xs) : ∀ k, v.ownBlock = some k → B ≤ k := by
  intro k hk; have := (h.lt k hk).1; omega
theorem RW.ex {w' : World} (h : RW B N s G x cl dl rl w) (e : Ex B w w') (hN : B < N) (hB : ∃ cs fz, w.heap[B]? = some (.cells cs 76 fz)) : RW B N s G x cl dl rl w' := by
  obtain ⟨cs, fz, hB⟩ := hB
  obtain ⟨⟨xs, r1, r2⟩, ⟨ys, c1, c2⟩, ⟨zs, d1, d2⟩⟩ := h
  have k : ∀ M, Kp M w w' := fun M => Kp.of_ex e hB
  exact ⟨⟨xs, e.ownsRow (by omega) r1, r2.mono (fun _ _ h => h.kp (k _))⟩, ⟨ys, e.ownsRow hN c1, c2.mono (fun _ _ h => h.kp (k _))⟩, ⟨zs, e.ownsRow hN d1, d2.mono (fun _ _ h => h.kp (k _))⟩⟩
set_option maxRecDepth 100000 in
set_option maxHeartbeats 1600000 in
theorem gcond {c : Tm × Tm} {q' : Q} (hs : s.size ≤ 120) (hat : t.at_ ≤ s.size) (hN : B < N) (hNw : N ≤ w.heap.size) (hb : RB B s t x w) (hR : RW B N s G x cl dl rl w) (hcl : cl.length ≤ 120) (hq : qCond s (.ok t.at_) = (some c, q')) (h1n : c.1.1 < (t.n : Int)) (h2n : c.2.1 < (t.n : Int)) :
    Calls Tryd.prog 45 #[.pointer (some ⟨B, 0, none⟩)] w fun e w' => e = .returned (.bool true) ∧ ∃ x', x'.vr = x.vr ∧ x'.vh = x.vh ∧ x'.g0 = x.g0 ∧ x'.f0 = x.f0 ∧ x'.g1 = x.g1 ∧ x'.f1 = x.f1 ∧ x'.g2 = x.g2 ∧ x'.f2 = x.f2 ∧ RB B s t.adv.adv.adv x' w' ∧ RW B N s G x' (cl ++ [c]) dl rl w' ∧ Kp N w w' ∧ Below B w w' := by
  have hB := hb.lt
  unfold qCond at hq
  cases ht1 : qTerm s (.ok t.at_) with
  | mk r1 q1 =>
  rw [ht1] at hq
  cases r1 with
  | none => simp at hq
  | some a =>
  obtain ⟨i1, rfl⟩ := qTerm_some ht1
  obtain ⟨j1, e1, ha2, rfl⟩ := qTerm_at ht1
  cases e1
  simp only at hq
  cases hop : qOp s (.ok (t.at_ + 1)) with
  | false => rw [hop] at hq; simp at hq
  | true =>
  rw [hop] at hq
  simp only [if_true, Q.adv] at hq
  cases ht2 : qTerm s (.ok (t.at_ + 1 + 1)) with
  | mk r2 q2 =>
  rw [ht2] at hq
  cases r2 with
  | none => simp at hq
  | some b =>
  simp only [Prod.mk.injEq, Option.some.injEq] at hq
  obtain ⟨rfl, rfl⟩ := hq
  have l1 : t.at_ + 1 ≤ s.size := (qTerm_ok ht1).2
  have hop2 := hop
  have l2 : t.at_ + 1 < s.size := by
    unfold qOp at hop2
    cases g1 : qNum s (.ok (t.at_ + 1)) 61 0 with
    | some k => exact num_lt g1
    | none =>
      cases g2 : qNum s (.ok (t.at_ + 1)) 35 0 with
      | some k => exact num_lt g2
      | none =>
        cases g3 : qNum s (.ok (t.at_ + 1)) 60 0 with
        | some k => exact num_lt g3
        | none => rw [g1, g2, g3] at hop2; simp at hop2
  have hmf : ∀ (fn : Fn) (first cap : Array Value) (w : World), (Instr.makeFunc fn first cap).run Tryd.prog w = .ok (.func fn first cap) w := fun _ _ _ _ => rfl
  obtain ⟨i0, hi, hz0, hz1, hz2⟩ := info_parts Tryd.info149
  have HA2 : Put (_ = _) := ⟨ha2⟩
  clear hop2 ha2
  go_enter Tryd.func45, Tryd.ntmps45
  go_wp2_with fail
  refine (gterm hs hat hb ht1 h1n).mono ?_; rintro e w1 ⟨⟨v1, rfl, hf1, f1, a1, rfl⟩, hb1, hx1⟩
  go_wp2_with fail
  refine (gcmp (t := t.adv) hs l1 (hb1.alloc _) hop).mono ?_; rintro e w2 ⟨⟨v2, rfl, hf2, f2, a2, rfl⟩, hb2, hx2⟩
  go_wp2_with fail
  refine (gterm (t := t.adv.adv) hs l2 (hb2.alloc _) ht2 h2n).mono ?_; rintro e w3 ⟨⟨v3, rfl, hf3, f3, a3, rfl⟩, hb3, hx3⟩
  have X1 := hx1.alloc (.cells #[.func f1 #[] a1] 127)
  have X2 := (X1.trans hx2).alloc (.cells #[.func f2 #[] a2] 130)
  have X := X2.trans hx3
  -- the boxes, and what they hold, in w3
  have k1 : Kp 0 w1 (w1.alloc (.cells #[.func f1 #[] a1] 127)) := Kp.alloc _ _ _
  have k2 : Kp 0 (w1.alloc (.cells #[.func f1 #[] a1] 127)) w2 := Kp.of_ex hx2 (hb1.alloc _)
  have k3 : Kp 0 w2 (w2.alloc (.cells #[.func f2 #[] a2] 130)) := Kp.alloc _ _ _
  have k4 : Kp 0 (w2.alloc (.cells #[.func f2 #[] a2] 130)) w3 := Kp.of_ex hx3 (hb2.alloc _)
  have bx1 : w3.heap[w1.heap.size]? = some (.cells #[.func f1 #[] a1] 127 (0, 0)) := ((k2.trans k3).trans k4).box (heap_alloc_new w1 _) (by decide) (by decide) (by decide) (by decide)
  have bx2 : w3.heap[w2.heap.size]? = some (.cells #[.func f2 #[] a2] 130 (0, 0)) := k4.box (heap_alloc_new w2 _) (by decide) (by decide) (by decide) (by decide)
  have g1 : FnK 0 w3 (.func f1 #[] a1) (fun x => .int .i64 (tmV a x : Nat)) := hf1.kp (((k1.trans k2).trans k3).trans k4)
  have hR3 := hR.ex X hN hb.block76
  obtain ⟨⟨xs, r1, r2⟩, ⟨ys, c1, c2⟩, ⟨zs, d1, d2⟩⟩ := hR3
  have hsz3 := X.size
  have HK : Put (Kp N w w3) := ⟨Kp.of_ex X hb⟩
  have HB3 : Put (RB B s t.adv.adv.adv x w3) := ⟨hb3⟩
  have HX : Put (Ex B w w3) := ⟨X⟩
  have HC : Put (w3.ownsRow N 149 1 x.vc cl.length ys ∧ _) := ⟨c1, c2⟩
  have HRR : Put (w3.ownsRow (B + 1) 106 1 x.vr rl.length xs ∧ _) := ⟨r1, r2⟩
  have HHH : Put (w3.ownsRow N 150 1 x.vh dl.length zs ∧ _) := ⟨d1, d2⟩
  have HM : Put (_ ∧ _ ∧ _ ∧ _ ∧ _) := ⟨bx1, bx2, g1, hf2, hf3⟩
  have c10 : w3.cell? ⟨B, 10, none⟩ = some x.vc := hb3.c10
  have B3 := hb3.lt
  clear hx1 hx2 hx3 hb1 hb2 hb3 l1 l2 ht1 ht2 hop X1 X2 X k1 k2 k3 k4 bx1 bx2 g1 hf1 hf2 hf3 hb hR r1 r2 c1 c2 d1 d2
  go_wp2_with (at_builtin; refine wpList_append_own _ rfl _ _ 72 rfl N 149 i0 .nilFunc 1 8 Tryd.underlying72 hi hz0 hz1 hz2 rfl Nat.one_pos _ _ _ rfl ((HC.out.1.alloc _).alloc _) ⟨w3.heap.size + 1, 0, none⟩ 1 1 [.func (.func 66) #[] #[.pointer (some ⟨w2.heap.size, 0, none⟩), .pointer (some ⟨w1.heap.size, 0, none⟩), .pointer (some ⟨w3.heap.size, 0, none⟩)]] rfl rfl ?c1 ?c2 ?c3 ?c4 ?c5 ?_)
  case c1 => exact cell_one_next _ _ _ _
  case c2 => exact func_oneCell _ _ _
  case c3 => unfold maxLen; omega
  case c4 => omega
  case c5 => simp; omega
  intro v' w5 hown' hgrow _
  obtain ⟨g5, cap5, rfl⟩ := ownsRow_succ hown'
  have hb5 : RB B s t.adv.adv.adv x w5 := ((HB3.out.alloc _).alloc _).grown hgrow (ne_own hN HC.out.1)
  have d10 := hb5.c10
  have f10 := hb5.free 10
  have FB := hb5.set10 (.slice (some ⟨g5, 0, none⟩) (cl.length + 1) cap5)
  -- all that follows, in w3's last form
  have kA : ∀ M, Kp M w3 ((w3.alloc (.cells #[.func f3 #[] a3] 127)).alloc (.cells #[.func (.func 66) #[] #[.pointer (some ⟨w2.heap.size, 0, none⟩), .pointer (some ⟨w1.heap.size, 0, none⟩), .pointer (some ⟨w3.heap.size, 0, none⟩)]] 149)) := fun M => (Kp.alloc _ _ _).trans (Kp.alloc _ _ _)
  have kG : Kp N ((w3.alloc (.cells #[.func f3 #[] a3] 127)).alloc (.cells #[.func (.func 66) #[] #[.pointer (some ⟨w2.heap.size, 0, none⟩), .pointer (some ⟨w1.heap.size, 0, none⟩), .pointer (some ⟨w3.heap.size, 0, none⟩)]] 149)) w5 := Kp.grown ((HC.out.1.alloc _).alloc _) (.inr ⟨.inl rfl, Nat.le_refl _⟩) hgrow
  have kS : ∀ M, Kp M w5 (w5.setCell ⟨B, 10, none⟩ (.slice (some ⟨g5, 0, none⟩) (cl.length + 1) cap5)) := fun M => Kp.of_ex ((Ex.refl B w5).setCell (p := ⟨B, 10, none⟩) (.inl rfl) _) hb5
  have kAll : Kp N w3 (w5.setCell ⟨B, 10, none⟩ (.slice (some ⟨g5, 0, none⟩) (cl.length + 1) cap5)) := ((kA N).trans kG).trans (kS N)
  obtain ⟨bx1, bx2, g1, g2, g3⟩ := HM.out
  have bx3 : (w3.alloc (.cells #[.func f3 #[] a3] 127)).heap[w3.heap.size]? = some (.cells #[.func f3 #[] a3] 127 (0, 0)) := heap_alloc_new w3 _
  have kB : Kp 0 (w3.alloc (.cells #[.func f3 #[] a3] 127)) (w5.setCell ⟨B, 10, none⟩ (.slice (some ⟨g5, 0, none⟩) (cl.length + 1) cap5)) := ((Kp.alloc 0 _ _).trans (kG.mono (Nat.zero_le _))).trans (kS 0)
  have bx3' := kB.box bx3 (by decide) (by decide) (by decide) (by decide)
  have bx1' := (kAll.mono (Nat.zero_le _)).box bx1 (by decide) (by decide) (by decide) (by decide)
  have bx2' := (kAll.mono (Nat.zero_le _)).box bx2 (by decide) (by decide) (by decide) (by decide)
  have FR := ownsRow_setCell_below (((HRR.out.1.alloc _).alloc _).kept hgrow (apart_of_types HRR.out.1 HC.out.1 (by omega))) (a := ⟨B, 10, none⟩) (Nat.lt_succ_self B) (.slice (some ⟨g5, 0, none⟩) (cl.length + 1) cap5)
  have FH := ownsRow_setCell_below (((HHH.out.1.alloc _).alloc _).kept hgrow (apart_of_types HHH.out.1 HC.out.1 (by omega))) (a := ⟨B, 10, none⟩) hN (.slice (some ⟨g5, 0, none⟩) (cl.length + 1) cap5)
  have FC := ownsRow_setCell_below hown' (a := ⟨B, 10, none⟩) hN (.slice (some ⟨g5, 0, none⟩) (cl.length + 1) cap5)
  have FL : Below B w (w5.setCell ⟨B, 10, none⟩ (.slice (some ⟨g5, 0, none⟩) (cl.length + 1) cap5)) := ((((HX.out.alloc _).alloc _).below (Nat.le_refl _) (by omega)).grown hgrow (by simp; omega) (ge_own (by omega) HC.out.1)).setCell (Nat.le_refl _) (.slice (some ⟨g5, 0, none⟩) (cl.length + 1) cap5)
  have hnew : FnK 0 (w5.setCell ⟨B, 10, none⟩ (.slice (some ⟨g5, 0, none⟩) (cl.length + 1) cap5)) (.func (.func 66) #[] #[.pointer (some ⟨w2.heap.size, 0, none⟩), .pointer (some ⟨w1.heap.size, 0, none⟩), .pointer (some ⟨w3.heap.size, 0, none⟩)]) (fun y => .bool (cdP s (a, b) y)) := by
    refine ⟨66, _, rfl, enters_of Tryd.func66 (by kernel_rfl) rfl, fun W hW h0 hT y hy => ?_⟩
    have hcd : cdP s (a, b) y = cmpP (byteAt s (t.at_ + 1)) (tmV a y) (tmV b y) := by
      unfold cdP
      have : a.2.2.toNat + 1 = t.at_ + 1 := by rw [HA2.out]; simp
      simp only [this]
    have := fn66_any w2.heap.size w1.heap.size w3.heap.size (byteAt s (t.at_ + 1)) y hy _ _ _ (tmV a) (tmV b) (w5.setCell ⟨B, 10, none⟩ (.slice (some ⟨g5, 0, none⟩) (cl.length + 1) cap5)) W hW h0 hT g2 (g1.kp (kAll.mono (Nat.zero_le _))) (g3.kp (kAll.mono (Nat.zero_le _))) (hW.box bx2' (by decide) (by decide) (by decide) (by decide)) (hW.box bx1' (by decide) (by decide) (by decide) (by decide)) (hW.box bx3' (by decide) (by decide) (by decide) (by decide))
    refine Calls.mono this ?_
    rintro e W' ⟨rfl, hb'⟩
    exact ⟨by rw [← hcd], hb'⟩
  have FIN : Put (∃ x' : Junk, x'.vr = x.vr ∧ x'.vh = x.vh ∧ x'.g0 = x.g0 ∧ x'.f0 = x.f0 ∧ x'.g1 = x.g1 ∧ x'.f1 = x.f1 ∧ x'.g2 = x.g2 ∧ x'.f2 = x.f2 ∧ RB B s t.adv.adv.adv x' (w5.setCell ⟨B, 10, none⟩ (.slice (some ⟨g5, 0, none⟩) (cl.length + 1) cap5)) ∧ RW B N s G x' (cl ++ [(a, b)]) dl rl (w5.setCell ⟨B, 10, none⟩ (.slice (some ⟨g5, 0, none⟩) (cl.length + 1) cap5)) ∧ Kp N w (w5.setCell ⟨B, 10, none⟩ (.slice (some ⟨g5, 0, none⟩) (cl.length + 1) cap5)) ∧ Below B w (w5.setCell ⟨B, 10, none⟩ (.slice (some ⟨g5, 0, none⟩) (cl.length + 1) cap5))) :=
    ⟨{ x with vc := .slice (some ⟨g5, 0, none⟩) (cl.length + 1) cap5 }, rfl, rfl, rfl, rfl, rfl, rfl, rfl, rfl, FB,
      ⟨⟨xs, FR, HRR.out.2.mono (fun _ _ h => h.kp kAll)⟩, ⟨ys ++ [_], by rw [List.length_append]; exact FC, All2.snoc (R := fun v c => FnK 0 (w5.setCell ⟨B, 10, none⟩ (.slice (some ⟨g5, 0, none⟩) (cl.length + 1) cap5)) v (fun y => .bool (cdP s c y))) (b := (a, b)) hnew (HC.out.2.mono (fun _ _ h => h.kp (kAll.mono (Nat.zero_le _))))⟩, ⟨zs, FH, HHH.out.2.mono (fun _ _ h => h.kp (kAll.mono (Nat.zero_le _)))⟩⟩,
      HK.out.trans kAll, FL⟩
  clear FB FR FH FC FL hb5 hown' hgrow hnew kA kG kS kAll kB bx1 bx2 bx3 bx1' bx2' bx3' g1 g2 g3
  go_wp2
  go_ret
  exact ⟨rfl, FIN.out⟩
end
end Go.Proofs.YtcnhhclogbjedaaDoor
