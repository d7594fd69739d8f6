/- What a variable is changed to, in a good model. Our own text. -/
import Derived.Test.YtcnhhclogbjedaaDoorGCond
import Derived.Test.YtcnhhclogbjedaaDoorCond
namespace Go.Proofs.YtcnhhclogbjedaaDoor
open Go.RowKit Go.Lib

theorem fn84_any (b c : Nat) (y : Int) (h1 : 1 ≤ c) (h4 : c ≤ 4) (W : World) (hb : W.heap[b]? = some (.cells #[.int .i64 c] 3 (0, 0))) : Calls Tryd.prog 84 #[.int .u8 y, .pointer (some ⟨b, 0, none⟩)] W fun e W' => e = .returned (.int .u8 (2 ^ c - 1 : Nat)) ∧ W' = W := by
  have cc := box_cell hb
  go_enter Tryd.func84, Tryd.ntmps84
  go_wp2_with fail
  refine (below8_any c h1 h4 W).mono ?_
  rintro e w' ⟨rfl, rfl⟩
  go_wp2
  go_ret
  exact ⟨rfl, rfl⟩
set_option maxRecDepth 100000 in
set_option maxHeartbeats 1600000 in
theorem fn86_any (b1 b2 b3 m c y : Nat) (hy : y < 64) (h1 : 1 ≤ c) (h4 : c ≤ 4) (hm : m ≤ 3) (v : Value) (L : Nat → Nat) (hL3 : L y ≤ 3) (w W : World) (hW : Kp 0 w W) (h0 : 0 < W.heap.size) (hT : Tab W) (hl : FnK 0 w v (fun x => .int .i64 (L x : Nat)))
    (x1 : W.heap[b1]? = some (.cells #[v] 127 (0, 0))) (x2 : W.heap[b2]? = some (.cells #[.int .i64 m] 3 (0, 0))) (x3 : W.heap[b3]? = some (.cells #[.int .i64 c] 3 (0, 0))) :
    Calls Tryd.prog 86 #[.int .u8 (y : Nat), .pointer (some ⟨b1, 0, none⟩), .pointer (some ⟨b2, 0, none⟩), .pointer (some ⟨b3, 0, none⟩)] W fun e W' => e = .returned (.int .u8 (2 ^ ((L y + m) % c) : Nat)) ∧ Below W.heap.size W W' := by
  obtain ⟨fl, cl, rfl, el, kl⟩ := hl
  have c1 := box_cell x1
  have c2 := box_cell x2
  have c3 := box_cell x3
  have HL : Put (∀ W2, Below W.heap.size W W2 → Calls Tryd.prog fl (#[.int .u8 (y : Nat)] ++ cl) W2 fun e W' => e = .returned (.int .i64 ((L y : Nat) : Int)) ∧ Below W2.heap.size W2 W') := ⟨fun W2 h2 => kl W2 (hW.trans (Kp.of_below h2)) (Nat.lt_of_lt_of_le h0 h2.size) (hT.below h2 h0) y hy⟩
  have l1 := lt_of_block x1
  have l2 := lt_of_block x2
  have l3 := lt_of_block x3
  generalize L y = a at *
  have hlt : (a + m) % c < 8 := Nat.lt_of_lt_of_le (Nat.mod_lt _ (by omega)) (by omega)
  have hmt : Int.tmod ((a : Int) + (m : Int)) (c : Int) = (((a + m) % c : Nat) : Int) := by
    rw [Int.tmod_eq_emod_of_nonneg (by omega)]; simp
  have HC : Put (∀ W2, Calls Tryd.prog 62 #[.int .u8 0, .int .i64 (Int.tmod ((a : Int) + (m : Int)) (c : Int))] W2 fun e W' => e = .returned (.int .u8 (2 ^ ((a + m) % c) : Nat)) ∧ W' = W2) := ⟨fun W2 => by rw [hmt]; have := with8_any 0 ((a + m) % c) (by decide) hlt W2; simpa using this⟩
  clear hmt
  have hne : ((c : Int) == 0) = false := by simp; omega
  have hne' : ¬ ((c : Int) = 0) := by omega
  have hc0 : ¬ (c = 0) := by omega
  have hw2 : IntKind.i64.wrap ((a : Int) + (m : Int)) = (a : Int) + (m : Int) := by simp [IntKind.wrap, IntKind.signed, IntKind.bits]; omega
  have hdr : Below W.heap.size W W.drew := ⟨rfl, rfl, rfl, Nat.le_refl _, fun _ _ => rfl⟩
  clear x1 x2 x3 kl hW hT
  generalize (a + m) % c = r at *
  go_enter Tryd.func86, Tryd.ntmps86
  go_wp2_with fail
  go_region_held3 (fun w' => ∀ b o, b < W.heap.size → w'.cell? ⟨b, o, none⟩ = W.cell? ⟨b, o, none⟩)
    (first
      | exact fun b o hb => (hbL'.cell (p := ⟨b, o, none⟩) hb)
      | exact fun _ _ _ => rfl
      | go_keep)
    (first
      | (with_reducible refine (HC.out wL).mono ?_; rintro e wC ⟨rfl, rfl⟩)
      | (refine (HL.out W.drew hdr).mono ?_; rintro e wL ⟨rfl, hbL⟩; have hbL' : Below W.heap.size W wL := hdr.trans hbL))
  all_goals
    go_wp2
    go_ret
    exact ⟨rfl, hbL'⟩

section
variable {B : Nat} {s : ByteArray} {t : T} {x : Junk} {w : World}
theorem gto_any (c k : Nat) (h1 : 1 ≤ c) (h4 : c ≤ 4) (hs : s.size ≤ 120) (hb : RB B s t x w) (hq : num? s t.at_ 63 0 0 = some k) :
    Calls Tryd.prog 70 #[.pointer (some ⟨B, 0, none⟩), .int .i64 c] w fun e w' => (∃ v, e = .returned (.tuple #[v, .bool true]) ∧ FnK 0 w' v (fun _ => .int .u8 (2 ^ c - 1 : Nat)) ∧ ∃ f a, v = .func f #[] a) ∧ RB B s t.adv x w' ∧ Ex B w w' := by
  have hmf : ∀ (fn : Fn) (first cap : Array Value) (w : World), (Instr.makeFunc fn first cap).run Tryd.prog w = .ok (.func fn first cap) w := fun _ _ _ _ => rfl
  have hbx := heap_alloc_new w (.cells #[.int .i64 c] 3)
  have hba := hb.alloc (.cells #[.int .i64 c] 3)
  have HBX : Put (_ ∧ _) := ⟨hbx, hba⟩
  clear hbx
  go_enter Tryd.func70, Tryd.ntmps70
  go_wp2_with fail
  refine (take_yes 63 k hs (by omega) hba hq).mono ?_; rintro e w1 ⟨rfl, hb1, hx1⟩
  have hx1' := (((Ex.refl B w).alloc (.cells #[.int .i64 c] 3)).trans hx1)
  go_wp2
  go_ret2
  refine ⟨⟨_, rfl, ⟨84, #[.pointer (some ⟨w.heap.size, 0, none⟩)], rfl, enters_of Tryd.func84 (by kernel_rfl) rfl, fun W hW _ _ y _ => ?_⟩, _, _, rfl⟩, hb1, hx1'⟩
  have hbx1 := (Kp.of_ex (N := 0) hx1 HBX.out.2).box HBX.out.1 (by decide) (by decide) (by decide) (by decide)
  refine (fn84_any w.heap.size c y h1 h4 W (hW.box hbx1 (by decide) (by decide) (by decide) (by decide))).mono ?_
  rintro e W' ⟨rfl, rfl⟩
  exact ⟨rfl, Below.refl _ _⟩
set_option maxHeartbeats 800000 in
theorem gto_plain {a : Tm} {q4 : Q} (c : Nat) (h1 : 1 ≤ c) (h4 : c ≤ 4) (hs : s.size ≤ 120) (hat : t.at_ ≤ s.size) (hb : RB B s t x w) (hn : num? s t.at_ 63 0 0 = none) (ht : qTerm s (.ok t.at_) = (some a, q4)) (h5 : qNum s q4 43 0 = none) (han : a.1 < (t.n : Int)) (ha3 : ∀ y, tmV a y ≤ 3) :
    Calls Tryd.prog 70 #[.pointer (some ⟨B, 0, none⟩), .int .i64 c] w fun e w' => (∃ v, e = .returned (.tuple #[v, .bool true]) ∧ FnK 0 w' v (fun y => .int .u8 (2 ^ ((tmV a y + 0) % c) : Nat)) ∧ ∃ f a, v = .func f #[] a) ∧ RB B s t.adv x w' ∧ Ex B w w' := by
  have hmf : ∀ (fn : Fn) (first cap : Array Value) (w : World), (Instr.makeFunc fn first cap).run Tryd.prog w = .ok (.func fn first cap) w := fun _ _ _ _ => rfl
  obtain ⟨i4, rfl⟩ := qTerm_some ht
  obtain ⟨j, e1, _, rfl⟩ := qTerm_at ht
  cases e1
  have l1 : t.adv.at_ ≤ s.size := (qTerm_ok ht).2
  have h3 : num? s t.adv.at_ 43 0 0 = none := h5
  have hbx := heap_alloc_new w (.cells #[.int .i64 c] 3)
  have hba := hb.alloc (.cells #[.int .i64 c] 3)
  have HBX : Put (_ ∧ _) := ⟨hbx, hba⟩
  clear hbx h5
  go_enter Tryd.func70, Tryd.ntmps70
  go_wp2_with fail
  refine (take_no 63 hs hat (by omega) hba hn).mono ?_; rintro e w1 ⟨rfl, hb1, hx1⟩
  go_wp2_with fail
  refine (gterm hs hat hb1 ht han).mono ?_; rintro e w2 ⟨⟨v2, rfl, hf2, f2, a2, rfl⟩, hb2, hx2⟩
  go_wp2_with fail
  refine (take_no 43 hs l1 (by omega) ((hb2.alloc _).alloc _) h3).mono ?_; rintro e w3 ⟨rfl, hb3, hx3⟩
  have hX := ((((((Ex.refl B w).alloc (.cells #[.int .i64 c] 3)).trans hx1).trans hx2).alloc (.cells #[.func f2 #[] a2] 127)).alloc (.cells #[.int .i64 0] 3)).trans hx3
  have kC : Kp 0 (w.alloc (.cells #[.int .i64 c] 3)) w2 := (Kp.of_ex hx1 HBX.out.2).trans (Kp.of_ex hx2 hb1)
  have kD : Kp 0 ((w2.alloc (.cells #[.func f2 #[] a2] 127)).alloc (.cells #[.int .i64 0] 3)) w3 := Kp.of_ex hx3 ((hb2.alloc _).alloc _)
  have kE : Kp 0 w2 w3 := ((Kp.alloc 0 w2 _).trans (Kp.alloc 0 _ _)).trans kD
  have y3 := (kC.trans kE).box HBX.out.1 (by decide) (by decide) (by decide) (by decide)
  have y1 := ((Kp.alloc 0 _ _).trans kD).box (heap_alloc_new w2 (.cells #[.func f2 #[] a2] 127)) (by decide) (by decide) (by decide) (by decide)
  have y2' := heap_alloc_new (w2.alloc (.cells #[.func f2 #[] a2] 127)) (.cells #[.int .i64 0] 3)
  rw [World.size_alloc] at y2'
  have y2 := kD.box y2' (by decide) (by decide) (by decide) (by decide)
  have HF : Put (_ ∧ _ ∧ _ ∧ _) := ⟨y1, y2, y3, hf2.kp kE⟩
  have HX : Put (Ex B w w3) := ⟨hX⟩
  clear hX kC kD kE y1 y2 y2' y3 hf2 hx1 hx2 hx3 hb1 hb2 hba
  go_wp2
  go_ret2
  refine ⟨⟨_, rfl, ⟨86, #[.pointer (some ⟨w2.heap.size, 0, none⟩), .pointer (some ⟨w2.heap.size + 1, 0, none⟩), .pointer (some ⟨w.heap.size, 0, none⟩)], rfl, enters_of Tryd.func86 (by kernel_rfl) rfl, fun W hW h0 hT y hy => ?_⟩, _, _, rfl⟩, hb3, HX.out⟩
  obtain ⟨y1, y2, y3, hf⟩ := HF.out
  exact fn86_any w2.heap.size (w2.heap.size + 1) w.heap.size 0 c y hy h1 h4 (by omega) _ (tmV a) (ha3 y) w3 W hW h0 hT hf (hW.box y1 (by decide) (by decide) (by decide) (by decide)) (hW.box y2 (by decide) (by decide) (by decide) (by decide)) (hW.box y3 (by decide) (by decide) (by decide) (by decide))
set_option maxHeartbeats 800000 in
theorem gto_more {a : Tm} {q4 : Q} (c k3 kd : Nat) (h1 : 1 ≤ c) (h4 : c ≤ 4) (hs : s.size ≤ 120) (hat : t.at_ ≤ s.size) (hb : RB B s t x w) (hn : num? s t.at_ 63 0 0 = none) (ht : qTerm s (.ok t.at_) = (some a, q4)) (h5 : qNum s q4 43 0 = some k3) (h6 : qNum s q4.adv 48 3 = some kd) (han : a.1 < (t.n : Int)) (ha3 : ∀ y, tmV a y ≤ 3) :
    Calls Tryd.prog 70 #[.pointer (some ⟨B, 0, none⟩), .int .i64 c] w fun e w' => (∃ v, e = .returned (.tuple #[v, .bool true]) ∧ FnK 0 w' v (fun y => .int .u8 (2 ^ ((tmV a y + kd) % c) : Nat)) ∧ ∃ f a, v = .func f #[] a) ∧ RB B s t.adv.adv.adv x w' ∧ Ex B w w' := by
  have hmf : ∀ (fn : Fn) (first cap : Array Value) (w : World), (Instr.makeFunc fn first cap).run Tryd.prog w = .ok (.func fn first cap) w := fun _ _ _ _ => rfl
  obtain ⟨i4, rfl⟩ := qTerm_some ht
  obtain ⟨j, e1, _, rfl⟩ := qTerm_at ht
  cases e1
  have h3 : num? s t.adv.at_ 43 0 0 = some k3 := h5
  have h7 : num? s t.adv.adv.at_ 48 0 3 = some kd := h6
  have hk3 := (num_le h7).2
  have hbx := heap_alloc_new w (.cells #[.int .i64 c] 3)
  have hba := hb.alloc (.cells #[.int .i64 c] 3)
  have HBX : Put (_ ∧ _) := ⟨hbx, hba⟩
  clear hbx h5 h6
  go_enter Tryd.func70, Tryd.ntmps70
  go_wp2_with fail
  refine (take_no 63 hs hat (by omega) hba hn).mono ?_; rintro e w1 ⟨rfl, hb1, hx1⟩
  go_wp2_with fail
  refine (gterm hs hat hb1 ht han).mono ?_; rintro e w2 ⟨⟨v2, rfl, hf2, f2, a2, rfl⟩, hb2, hx2⟩
  go_wp2_with fail
  have Z := ((hb2.alloc (.cells #[.func f2 #[] a2] 127)).alloc (.cells #[.int .i64 0] 3))
  refine (take_yes 43 k3 hs (by omega) Z h3).mono ?_; rintro e w3 ⟨rfl, hb3, hx3⟩
  go_wp2_with fail
  refine (digit_yes 0 kd hs (by omega) hb3 h7).mono ?_; rintro e w4 ⟨rfl, hb4, hx4⟩
  have hx := hx3.trans hx4
  have hBlt := hb2.lt
  have hblk : w4.heap[w2.heap.size + 1]? = some (.cells #[.int .i64 0] 3 (0, 0)) := by
    rw [hx.block _ (by simp) (by omega)]
    have := heap_alloc_new (w2.alloc (.cells #[.func f2 #[] a2] 127)) (.cells #[.int .i64 0] 3)
    simpa using this
  have k1 := cell_of_one hblk
  have k2 := free_of_one hblk
  have hblt := lt_of_block hblk
  have hle : w.heap.size < w2.heap.size := Nat.lt_of_lt_of_le (by simp) (Nat.le_trans hx1.size hx2.size)
  have HB4 : Put (RB B s t.adv.adv.adv x w4) := ⟨hb4⟩
  have HX : Put (Ex B w w4) := ⟨((((((Ex.refl B w).alloc _).trans hx1).trans hx2).alloc _).alloc _).trans hx⟩
  have kC : Kp 0 (w.alloc (.cells #[.int .i64 c] 3)) w2 := (Kp.of_ex hx1 HBX.out.2).trans (Kp.of_ex hx2 hb1)
  have kD : Kp 0 ((w2.alloc (.cells #[.func f2 #[] a2] 127)).alloc (.cells #[.int .i64 0] 3)) w4 := Kp.of_ex hx Z
  have kE : Kp 0 w2 w4 := ((Kp.alloc 0 w2 _).trans (Kp.alloc 0 _ _)).trans kD
  have y3 := (kC.trans kE).box HBX.out.1 (by decide) (by decide) (by decide) (by decide)
  have y1 := ((Kp.alloc 0 _ _).trans kD).box (heap_alloc_new w2 (.cells #[.func f2 #[] a2] 127)) (by decide) (by decide) (by decide) (by decide)
  have y2 := heap_setCell_same w4 (w2.heap.size + 1) 0 _ 3 (.int .i64 kd) hblk
  have y1' := (heap_setCell_other w4 ⟨w2.heap.size + 1, 0, none⟩ w2.heap.size (.int .i64 kd) (by show w2.heap.size ≠ w2.heap.size + 1; omega)).trans y1
  have y3' := (heap_setCell_other w4 ⟨w2.heap.size + 1, 0, none⟩ w.heap.size (.int .i64 kd) (by show w.heap.size ≠ w2.heap.size + 1; omega)).trans y3
  obtain ⟨fn2, cap2, e2, en2, hc2⟩ := hf2
  -- the term's own box lies below: the store to 'more' leaves it
  have kS : ∀ W, Kp 0 (w4.setCell ⟨w2.heap.size + 1, 0, none⟩ (.int .i64 kd)) W → Kp 0 w2 W := fun W hW => by
    refine ⟨Nat.le_trans kE.size (by simpa using hW.size), fun k cs ty fz hk gc g1 g2 g3 => ?_⟩
    have hk4 := (kE.keep k cs ty fz hk gc g1 g2 g3).trans hk
    have hlt := lt_of_block hk
    have hk5 := (heap_setCell_other w4 ⟨w2.heap.size + 1, 0, none⟩ k (.int .i64 kd) (by show k ≠ w2.heap.size + 1; omega)).trans hk4
    exact ((hW.keep k cs ty fz hk5 gc g1 g2 g3).trans hk5).trans hk.symm
  have HF : Put (_ ∧ _ ∧ _ ∧ FnK 0 (w4.setCell ⟨w2.heap.size + 1, 0, none⟩ (.int .i64 kd)) (.func f2 #[] a2) (fun x => .int .i64 (tmV a x : Nat))) := ⟨y1', y2, y3', fn2, cap2, e2, en2, fun W hW => hc2 W (kS W hW)⟩
  clear hb1 hb2 hb3 hb4 hx1 hx2 hx3 hx4 hx hblk Z ht h3 h7 kC kD kE kS y1 y2 y3 y1' y3' hc2 en2 e2 hba
  go_wp2
  go_ret2
  refine ⟨⟨_, rfl, ⟨86, #[.pointer (some ⟨w2.heap.size, 0, none⟩), .pointer (some ⟨w2.heap.size + 1, 0, none⟩), .pointer (some ⟨w.heap.size, 0, none⟩)], rfl, enters_of Tryd.func86 (by kernel_rfl) rfl, fun W hW h0 hT y hy => ?_⟩, _, _, rfl⟩, HB4.out.set_other (by show w2.heap.size + 1 ≠ B; omega) _, HX.out.setCell (.inr (by show w.heap.size ≤ w2.heap.size + 1; omega)) _⟩
  obtain ⟨y1, y2, y3, hf⟩ := HF.out
  exact fn86_any w2.heap.size (w2.heap.size + 1) w.heap.size kd c y hy h1 h4 hk3 _ (tmV a) (ha3 y) _ W hW h0 hT hf (hW.box y1 (by decide) (by decide) (by decide) (by decide)) (hW.box y2 (by decide) (by decide) (by decide) (by decide)) (hW.box y3 (by decide) (by decide) (by decide) (by decide))
end
end Go.Proofs.YtcnhhclogbjedaaDoor
