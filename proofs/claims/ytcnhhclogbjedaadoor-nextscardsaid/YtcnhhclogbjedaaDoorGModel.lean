/- The code's reader: a good model, whole. Our own text. -/
import Derived.Test.YtcnhhclogbjedaaDoorModel
import Derived.Test.YtcnhhclogbjedaaDoorGVar
import Derived.Test.YtcnhhclogbjedaaDoorGChange
import Derived.Test.YtcnhhclogbjedaaDoorGRule
import Derived.Test.YtcnhhclogbjedaaDoorRead
import Derived.Test.YtcnhhclogbjedaaDoorRRef
namespace Go.Proofs.YtcnhhclogbjedaaDoor
open Go.RowKit Go.Lib

def Junk.f (x : Junk) : Nat → Int
  | 0 => x.f0
  | 1 => x.f1
  | _ => x.f2
def Gv (va : List VA) (k : Nat) : Nat := (va.getD k (0, [], 0)).1
/-- The first n variables stand in the block. -/
def GF (va : List VA) (x : Junk) (n : Nat) : Prop := (∀ k, k < n → x.g k = (Gv va k : Int) ∧ ∃ f : Nat, x.f k = (f : Int) ∧ BitsL f (va.getD k (0, [], 0)).2.1) ∧ ∀ k, n ≤ k → k < 3 → x.g k = 0 ∧ x.f k = 0
theorem GF.same {va : List VA} {x x' : Junk} {n : Nat} (h : GF va x n) (h0 : x'.g0 = x.g0 ∧ x'.f0 = x.f0 ∧ x'.g1 = x.g1 ∧ x'.f1 = x.f1 ∧ x'.g2 = x.g2 ∧ x'.f2 = x.f2) : GF va x' n := by
  obtain ⟨e0, e1, e2, e3, e4, e5⟩ := h0
  have eg : ∀ k, x'.g k = x.g k := fun k => by unfold Junk.g; split <;> assumption
  have ef : ∀ k, x'.f k = x.f k := fun k => by unfold Junk.f; split <;> assumption
  refine ⟨fun k hk => ?_, fun k h1 h2 => ?_⟩
  · rw [eg, ef]; exact h.1 k hk
  · rw [eg, ef]; exact h.2 k h1 h2
theorem GF.setv {va : List VA} {x : Junk} {n g f : Nat} (h : GF va x n) (hn : n < 3) (hg : g = Gv va n) (hf : BitsL f (va.getD n (0, [], 0)).2.1) : GF va (x.setv n g f) (n + 1) := by
  refine ⟨fun k hk => ?_, fun k h1 h2 => ?_⟩
  · by_cases hkn : k = n
    · subst hkn
      have : k = 0 ∨ k = 1 ∨ k = 2 := by omega
      rcases this with rfl | rfl | rfl
      · exact ⟨by show (g : Int) = _; rw [hg], f, rfl, hf⟩
      · exact ⟨by show (g : Int) = _; rw [hg], f, rfl, hf⟩
      · exact ⟨by show (g : Int) = _; rw [hg], f, rfl, hf⟩
    · have := h.1 k (by omega)
      have hc : (k = 0 ∧ n = 1) ∨ (k = 0 ∧ n = 2) ∨ (k = 1 ∧ n = 2) := by omega
      rcases hc with ⟨rfl, rfl⟩ | ⟨rfl, rfl⟩ | ⟨rfl, rfl⟩ <;> exact this
  · have := h.2 k (by omega) h2
    have hc : (k = 1 ∧ n = 0) ∨ (k = 2 ∧ n = 0) ∨ (k = 2 ∧ n = 1) := by omega
    rcases hc with ⟨rfl, rfl⟩ | ⟨rfl, rfl⟩ | ⟨rfl, rfl⟩ <;> exact this
theorem setv_rows (x : Junk) (n : Nat) (g f : Int) : (x.setv n g f).vr = x.vr ∧ (x.setv n g f).vc = x.vc ∧ (x.setv n g f).vh = x.vh := by
  unfold Junk.setv; split <;> exact ⟨rfl, rfl, rfl⟩
theorem RW.same {B N : Nat} {s : ByteArray} {G : Nat → Nat} {x x' : Junk} {cl : List (Tm × Tm)} {dl : List Chg} {rl : List RA} {w : World} (h : RW B N s G x cl dl rl w) (e1 : x'.vr = x.vr) (e2 : x'.vc = x.vc) (e3 : x'.vh = x.vh) : RW B N s G x' cl dl rl w :=
  ⟨by rw [e1]; exact h.r, by rw [e2]; exact h.c, by rw [e3]; exact h.h⟩
theorem Bits.snoc {chd : Nat} {pre : List Chg} {d : Chg} {k : Nat} (h : Bits chd pre) (hk : k < 3) (hd : d.1 = (k : Int)) : Bits (chd ||| 2 ^ k) (pre ++ [d]) := by
  refine ⟨or_lt8 chd h.1 k hk, fun j hj => ?_⟩
  rw [bits_or chd h.1 k hk j hj, h.2 j hj, List.any_append]
  congr 1
  simp [hd]
  omega
theorem nodup_mid {dl e : List Chg} {d : Chg} (h : ((dl ++ d :: e).map Prod.fst).Nodup) : dl.any (fun c => decide (c.1 = d.1)) = false := by
  rw [List.any_eq_false]
  intro c hc
  simp only [decide_eq_true_eq]
  intro hcd
  rw [List.map_append, List.nodup_append] at h
  exact h.2.2 c.1 (List.mem_map.2 ⟨c, hc, rfl⟩) d.1 (by simp) hcd

/-- What goes on at every label. -/
structure JG0 (B N : Nat) (s : ByteArray) (va : List VA) (t : T) (x : Junk) (cl : List (Tm × Tm)) (dl : List Chg) (rl : List RA) (w w' : World) : Prop where
  f0 : t.flt = 0
  p0 : t.plc = 0
  nr : t.nr = rl.length
  l8 : rl.length ≤ 8
  hN : B < N
  hNw : N ≤ w'.heap.size
  lc : cl.length ≤ t.at_
  ld : dl.length ≤ t.at_
  rb : RB B s t x w'
  rw : RW B N s (Gv va) x cl dl rl w'
  lo : Below B w w'
  gf : GF va x t.n
def JGl (s : ByteArray) (va : List VA) (ra : List RA) (t : T) (cl : List (Tm × Tm)) (dl : List Chg) (rl : List RA) (l : Nat) : Prop :=
   (l = 1 ∧ t.n < 3 ∧ cl = [] ∧ dl = [] ∧ rl = [] ∧ t.chd = 0 ∧ ∃ acc : List VA, acc.length = t.n ∧ Put (LeftV s va ra acc t.at_)) ∨
   (l = 2 ∧ t.n = va.length ∧ cl = [] ∧ dl = [] ∧ t.chd = 0 ∧ Put (LeftR s ra rl t.at_)) ∨
   (l = 3 ∧ t.n = va.length ∧ rl.length < 8 ∧ Put (Bits t.chd dl) ∧ (∀ d ∈ dl, d.1.toNat < 3) ∧ Put (LeftD s ra rl cl dl t.at_)) ∨
   (l = 4 ∧ t.n = va.length ∧ rl.length < 8 ∧ dl = [] ∧ t.chd = 0 ∧ Put (LeftC s ra rl cl t.at_))
def JG (B : Nat) (s : ByteArray) (va : List VA) (ra : List RA) (w : World) (l m : Nat) (a : Act) (w' : World) : Prop :=
  (a.tmps.size = 55 ∧ a.defers = [] ∧ a.tmps.getD 0 undef = .pointer (some ⟨B, 0, none⟩)) ∧ ∃ (t : T) (x : Junk) (N : Nat) (cl : List (Tm × Tm)) (dl : List Chg) (rl : List RA),
    t.at_ ≤ s.size ∧ s.size + 1 ≤ t.at_ + m ∧ JG0 B N s va t x cl dl rl w w' ∧ JGl s va ra t cl dl rl l

section
variable {B N : Nat} {s : ByteArray} {va : List VA} {ra rl : List RA} {t t' : T} {x x' : Junk} {cl : List (Tm × Tm)} {dl : List Chg} {w w' w'' : World}
/-- A take between: the rows stay. -/
theorem JG0.ex (h : JG0 B N s va t x cl dl rl w w') (hb : RB B s t' x w'') (hx : Ex B w' w'') (e : t'.flt = t.flt ∧ t'.plc = t.plc ∧ t'.nr = t.nr ∧ t'.n = t.n) (ha : t.at_ ≤ t'.at_) : JG0 B N s va t' x cl dl rl w w'' where
  f0 := e.1.trans h.f0
  p0 := e.2.1.trans h.p0
  nr := e.2.2.1.trans h.nr
  l8 := h.l8
  hN := h.hN
  hNw := Nat.le_trans h.hNw hx.size
  lc := Nat.le_trans h.lc ha
  ld := Nat.le_trans h.ld ha
  rb := hb
  rw := h.rw.ex hx h.hN h.rb.block76
  lo := h.lo.trans (hx.below (Nat.le_refl _) (by have := h.rb.lt; omega))
  gf := by rw [e.2.2.2]; exact h.gf
theorem JG0.drewN (h : JG0 B N s va t x cl dl rl w w') (n : Nat) : JG0 B N s va t x cl dl rl w (w'.drewN n) := h.ex (h.rb.drewN n) ((Ex.refl B w').drewN n) ⟨rfl, rfl, rfl, rfl⟩ (Nat.le_refl _)
theorem JG0.var {j g : Nat} {l : List Nat} (h : JG0 B N s va t x cl dl rl w w') (hn : t.n < 3) (hv : GVPost B s t x j g l w' w'') (hj : t.at_ ≤ j) (hg : g = Gv va t.n) (hl : (va.getD t.n (0, [], 0)).2.1 = l) : ∃ x', JG0 B N s va { t with at_ := j, n := t.n + 1 } x' cl dl rl w w'' := by
  obtain ⟨f, hf, hb, hx⟩ := hv
  have e := setv_rows x t.n g f
  exact ⟨x.setv t.n g f, h.f0, h.p0, h.nr, h.l8, h.hN, Nat.le_trans h.hNw hx.size, Nat.le_trans h.lc hj, Nat.le_trans h.ld hj, hb, (h.rw.ex hx h.hN h.rb.block76).same e.1 e.2.1 e.2.2, h.lo.trans (hx.below (Nat.le_refl _) (by have := h.rb.lt; omega)), h.gf.setv hn hg (by rw [hl]; exact hf)⟩

set_option maxRecDepth 100000 in
set_option maxHeartbeats 3200000 in
theorem gmodel (hs : s.size ≤ 120) (hg : GoodA va ra) (hb : RB B s ⟨0, 0, 0, 0, 0, 0⟩ x w) (hN : B < w.heap.size) (hx : x.vr = .slice none 0 0 ∧ x.vc = .slice none 0 0 ∧ x.vh = .slice none 0 0) (hz : ∀ k, x.g k = 0 ∧ x.f k = 0) (hL : LeftV s va ra [] 0) :
    Calls Tryd.prog 27 #[.pointer (some ⟨B, 0, none⟩)] w fun e w' => e = .returned (.bool true) ∧ ∃ t' x' N, JG0 B N s va t' x' [] [] ra w w' ∧ t'.n = va.length := by
  have HG : Put (GoodA va ra) := ⟨hg⟩
  have HL : Put (LeftV s va ra [] 0) := ⟨hL⟩
  have J0 : JG0 B w.heap.size s va ⟨0, 0, 0, 0, 0, 0⟩ x [] [] [] w w := ⟨rfl, rfl, rfl, Nat.zero_le _, hN, Nat.le_refl _, Nat.zero_le _, Nat.zero_le _, hb, ⟨⟨[], by rw [hx.1]; exact World.ownsRow_nil _ _ _ _, All2.nil⟩, ⟨[], by rw [hx.2.1]; exact World.ownsRow_nil _ _ _ _, All2.nil⟩, ⟨[], by rw [hx.2.2]; exact World.ownsRow_nil _ _ _ _, All2.nil⟩⟩, Below.refl _ _, fun k hk => absurd hk (Nat.not_lt_zero _), fun k _ _ => hz k⟩
  clear hg hL hb hN hx hz
  go_enter Tryd.func27, Tryd.ntmps27
  go_wp2_with fail
  refine wp_scope_rest (JG B s va ra w) ?hf ?pass ?first
  case hf =>
    rintro l m a w' ⟨_, t1, x1, N1, cl, dl, rl, _, _, _, (⟨rfl, _⟩ | ⟨rfl, _⟩ | ⟨rfl, _⟩ | ⟨rfl, _⟩)⟩
    · rfl
    · rfl
    · rfl
    · rfl
  case first =>
    intro ih
    go_wp2
    apply wp_label
    rename_i hK
    exact hK _ _ (ih 1 _ _ ⟨s.size + 1, ⟨rfl, rfl, rfl⟩, ⟨0, 0, 0, 0, 0, 0⟩, x, w.heap.size, [], [], [], Nat.zero_le _, by show s.size + 1 ≤ 0 + (s.size + 1); omega, J0, .inl ⟨rfl, by show 0 < 3; omega, rfl, rfl, rfl, rfl, [], rfl, HL⟩⟩)
  case pass =>
    clear J0 HL
    rintro m ih l a w' ⟨⟨fz, fd, f0⟩, t1, x1, N1, cl, dl, rl, hat, hm, hJ, (⟨rfl, hn, rfl, rfl, rfl, hcd, acc, hacc, hL⟩ | ⟨rfl, hn, rfl, rfl, hcd, hL⟩ | ⟨rfl, hn, h8, hcd, hd3, hL⟩ | ⟨rfl, hn, h8, rfl, hcd, hL⟩)⟩
    all_goals obtain ⟨u, rfl⟩ := frame55 a _ fz fd f0
    all_goals clear fz fd f0
    all_goals
      obtain ⟨m', rfl⟩ : ∃ m', m = m' + 1 := ⟨m - 1, by omega⟩
      have hb1 := hJ.rb
      have hB1 := hb1.lt
      have HJ : Put (_) := ⟨hJ⟩
      clear hJ
    · show Code.wp Tryd.prog (.seq _ _) _ _ _
      obtain ⟨g, a0, j, l, hq, hin, hget, hij, hjs, hA, hZ⟩ := leftV hL.out (by omega)
      rw [hacc] at hq hget hA hZ
      have hV := gvar hs hn hb1 hq (HG.out.v _ hin).2
      have HJ2 : ∀ w1, GVPost B s t1 x1 j g l w' w1 → ∃ x', JG0 B N1 s va { t1 with at_ := j, n := t1.n + 1 } x' [] [] [] w w1 := fun w1 h => HJ.out.var hn h (by omega) (by unfold Gv; rw [hget]) (by rw [hget])
      have HJ2' : Put (_) := ⟨HJ2⟩
      have HV : Put (_) := ⟨hV⟩
      have HA : Put (_) := ⟨hA⟩
      have HZ : Put (_) := ⟨hZ⟩
      have hl2 : (acc ++ [(g, l, a0)]).length = t1.n + 1 := by simp [hacc]
      have HL2 : Put (_ = _) := ⟨hl2⟩
      clear HJ2 hV hA hZ hq hin hget hl2 HJ hb1
      by_cases hn3 : t1.n + 1 < 3
      · have hn3' : ((t1.n + 1 : Nat) : Int) < 3 := by omega
        cases h1 : num? s j 44 0 0 with
        | some k =>
          have hLn := (HA.out hn3).1 k h1
          have lt1 := num_lt h1
          go_wp2_with fail
          refine HV.out.mono ?_; rintro e w1 ⟨rfl, hP⟩
          obtain ⟨x2, hJ2⟩ := HJ2'.out w1 hP
          clear hP
          have c8 := hJ2.rb.c8
          have HJ3 : Put (_) := ⟨hJ2⟩
          have hb2 := hJ2.rb
          clear hJ2
          go_wp2_with fail
          refine (take_yes 44 k hs (by omega) hb2 h1).mono ?_; rintro e w2 ⟨rfl, hb3, hx3⟩
          clear c8
          go_wp2
          go_step3
          show ∃ m'', m'' < m' + 1 ∧ JG B s va ra w 1 m'' _ w2
          exact ⟨m', Nat.lt_succ_self _, ⟨rfl, rfl, rfl⟩, T.adv { t1 with at_ := j, n := t1.n + 1 }, x2, N1, [], [], [], lt1, by show s.size + 1 ≤ j + 1 + m'; omega, HJ3.out.ex hb3 hx3 ⟨rfl, rfl, rfl, rfl⟩ (Nat.le_succ _), .inl ⟨rfl, hn3, rfl, rfl, rfl, hcd, _, HL2.out, ⟨hLn⟩⟩⟩
        | none =>
          obtain ⟨hvl, hLn⟩ := (HA.out hn3).2 h1
          go_wp2_with fail
          refine HV.out.mono ?_; rintro e w1 ⟨rfl, hP⟩
          obtain ⟨x2, hJ2⟩ := HJ2'.out w1 hP
          clear hP
          have c8 := hJ2.rb.c8
          have HJ3 : Put (_) := ⟨hJ2⟩
          have hb2 := hJ2.rb
          clear hJ2
          go_wp2_with fail
          refine (take_no 44 hs hjs (by omega) hb2 h1).mono ?_; rintro e w2 ⟨rfl, hb3, hx3⟩
          clear c8
          go_wp2
          apply wp_label
          have HK : ∀ a : Act, (a.tmps.size = 55 ∧ a.defers = [] ∧ a.tmps.getD 0 undef = .pointer (some ⟨B, 0, none⟩)) → ∃ m'', m'' < m' + 1 ∧ JG B s va ra w 2 m'' a w2 := fun a h => ⟨m', Nat.lt_succ_self _, h, { t1 with at_ := j, n := t1.n + 1 }, x2, N1, [], [], [], hjs, by show s.size + 1 ≤ j + m'; omega, HJ3.out.ex hb3 hx3 ⟨rfl, rfl, rfl, rfl⟩ (Nat.le_refl _), .inr (.inl ⟨rfl, hvl.symm, rfl, rfl, hcd, ⟨hLn⟩⟩)⟩
          first | (rename_i hK; exact hK _ _ (ih 2 _ _ (HK _ ⟨rfl, rfl, rfl⟩))) | (rename_i hK _; exact hK _ _ (ih 2 _ _ (HK _ ⟨rfl, rfl, rfl⟩))) | (rename_i hK _ _; exact hK _ _ (ih 2 _ _ (HK _ ⟨rfl, rfl, rfl⟩)))
      · have hn3' : ¬ ((t1.n + 1 : Nat) : Int) < 3 := by omega
        obtain ⟨hvl, hLn⟩ := HZ.out hn3
        go_wp2_with fail
        refine HV.out.mono ?_; rintro e w1 ⟨rfl, hP⟩
        obtain ⟨x2, hJ2⟩ := HJ2'.out w1 hP
        clear hP
        have c8 := hJ2.rb.c8
        have HJ3 : Put (_) := ⟨hJ2⟩
        clear hJ2
        go_wp2
        apply wp_label
        have HK : ∀ a : Act, (a.tmps.size = 55 ∧ a.defers = [] ∧ a.tmps.getD 0 undef = .pointer (some ⟨B, 0, none⟩)) → ∃ m'', m'' < m' + 1 ∧ JG B s va ra w 2 m'' a w1 := fun a h => ⟨m', Nat.lt_succ_self _, h, { t1 with at_ := j, n := t1.n + 1 }, x2, N1, [], [], [], hjs, by show s.size + 1 ≤ j + m'; omega, HJ3.out, .inr (.inl ⟨rfl, hvl.symm, rfl, rfl, hcd, ⟨hLn⟩⟩)⟩
        first | (rename_i hK; exact hK _ _ (ih 2 _ _ (HK _ ⟨rfl, rfl, rfl⟩))) | (rename_i hK _; exact hK _ _ (ih 2 _ _ (HK _ ⟨rfl, rfl, rfl⟩))) | (rename_i hK _ _; exact hK _ _ (ih 2 _ _ (HK _ ⟨rfl, rfl, rfl⟩)))
    · show Code.wp Tryd.prog (.seq _ _) _ _ _
      obtain ⟨ao, cap, hvr⟩ : ∃ ao cap, x1.vr = .slice ao t1.nr cap := by obtain ⟨xs, h, _⟩ := HJ.out.rw.r; rw [HJ.out.nr]; exact owned_slice h
      have c0 := hb1.c0
      have c1 := hb1.c1
      have c9 := hb1.c9
      rw [hvr] at c9
      rcases leftR hs hat hL.out with ⟨he, hra⟩ | ⟨he, h8, k1, h1, hcase⟩
      · rw [he] at c1
        have HR : Put (_ = _) := ⟨hra⟩
        have HN : Put (_ = _) := ⟨hn⟩
        clear hb1 hvr ih hra he hn
        go_wp2
        go_quiet (fail)
        go_wp2
        rw [jumps_ret]
        go_ret
        exact ⟨rfl, t1, x1, N1, by rw [HR.out]; exact HJ.out.drewN _, HN.out⟩
      · have he' : ((t1.at_ : Int) == (s.size : Int)) = false := by simp; omega
        have hnr := HJ.out.nr
        have hl8 := HJ.out.l8
        have h8' : ((t1.nr : Int) == 8) = false := by simp; omega
        have l1 : t1.adv.at_ ≤ s.size := num_lt h1
        rcases hcase with ⟨k2, h2, hD⟩ | ⟨h2, hC⟩
        · have HD : Put (_) := ⟨hD⟩
          clear hD
          go_wp2
          go_quiet (fail)
          go_wp2_with fail
          refine (take_yes 59 k1 hs (by omega) (hb1.drewN _) h1).mono ?_; rintro e w2 ⟨rfl, hb2, hx2⟩
          go_wp2_with fail
          refine (take_yes 58 k2 hs (by omega) hb2 h2).mono ?_; rintro e w3 ⟨rfl, hb3, hx3⟩
          go_wp2
          go_step3
          show ∃ m'', m'' < m' + 1 ∧ JG B s va ra w 3 m'' _ _
          exact ⟨m', Nat.lt_succ_self _, ⟨rfl, rfl, rfl⟩, t1.adv.adv, x1, N1, [], [], rl, num_lt h2, by show s.size + 1 ≤ t1.at_ + 1 + 1 + m'; omega, HJ.out.ex hb3 ((((Ex.refl B w').drewN _).trans hx2).trans hx3) ⟨rfl, rfl, rfl, rfl⟩ (by show t1.at_ ≤ t1.at_ + 1 + 1; omega), .inr (.inr (.inl ⟨rfl, hn, by omega, ⟨by show Bits t1.chd []; rw [hcd]; exact bits0⟩, fun d hd => absurd hd List.not_mem_nil, HD⟩))⟩
        · have HC : Put (_) := ⟨hC⟩
          clear hC
          go_wp2
          go_quiet (fail)
          go_wp2_with fail
          refine (take_yes 59 k1 hs (by omega) (hb1.drewN _) h1).mono ?_; rintro e w2 ⟨rfl, hb2, hx2⟩
          go_wp2_with fail
          refine (take_no 58 hs l1 (by omega) hb2 h2).mono ?_; rintro e w3 ⟨rfl, hb3, hx3⟩
          go_wp2
          apply wp_label
          have HK : ∀ a : Act, (a.tmps.size = 55 ∧ a.defers = [] ∧ a.tmps.getD 0 undef = .pointer (some ⟨B, 0, none⟩)) → ∃ m'', m'' < m' + 1 ∧ JG B s va ra w 4 m'' a w3 := fun a h => ⟨m', Nat.lt_succ_self _, h, t1.adv, x1, N1, [], [], rl, l1, by show s.size + 1 ≤ t1.at_ + 1 + m'; omega, HJ.out.ex hb3 ((((Ex.refl B w').drewN _).trans hx2).trans hx3) ⟨rfl, rfl, rfl, rfl⟩ (by show t1.at_ ≤ t1.at_ + 1; omega), .inr (.inr (.inr ⟨rfl, hn, by omega, rfl, hcd, HC⟩))⟩
          first | (rename_i hK; exact hK _ _ (ih 4 _ _ (HK _ ⟨rfl, rfl, rfl⟩))) | (rename_i hK _; exact hK _ _ (ih 4 _ _ (HK _ ⟨rfl, rfl, rfl⟩))) | (rename_i hK _ _; exact hK _ _ (ih 4 _ _ (HK _ ⟨rfl, rfl, rfl⟩)))
    · show Code.wp Tryd.prog (.seq _ _) _ _ _
      obtain ⟨d, j, hq, hij, hjs, ⟨r, hr, e, hre⟩, hA, hZ⟩ := leftD hL.out
      have hdd := HG.out.d r hr d (by rw [hre]; simp)
      have hl3 := HG.out.l3
      obtain ⟨k, hk⟩ : ∃ k : Nat, d.1 = (k : Int) := ⟨d.1.toNat, by have := hdd.1; omega⟩
      have hkn : k < va.length := by have := hdd.2.1; rw [hk] at this; omega
      have hnd : t1.chd.testBit k = false := by
        rw [hcd.out.2 k (by omega), ← hk]
        exact nodup_mid (by rw [← hre]; exact HG.out.n r hr)
      have hgk := (HJ.out.gf.1 k (by rw [hn]; exact hkn)).1
      have hG3 : Gv va k ≤ 3 := by
        unfold Gv
        have e' : va.getD k (0, [], 0) = va[k] := by simp [List.getD, hkn]
        rw [e']; exact (HG.out.v _ (List.getElem_mem hkn)).1.2
      have hC := gchange hs hat HJ.out.hN HJ.out.hNw hb1 HJ.out.rw (by have := HJ.out.ld; omega) hq hk (by rw [hn]; exact hkn) (by rw [hn]; exact hdd.2.2) hcd.out.1 hnd hgk hG3
      have HC : Put (_) := ⟨hC⟩
      have HA : Put (_) := ⟨hA⟩
      have HZ : Put (_) := ⟨hZ⟩
      have HBB : Put (Bits (t1.chd ||| 2 ^ k) (dl ++ [d])) := ⟨hcd.out.snoc (by omega) hk⟩
      have HD3 : Put (∀ c ∈ dl ++ [d], c.1.toNat < 3) := ⟨by
        intro c hc
        rcases List.mem_append.1 hc with h | h
        · exact hd3 c h
        · simp only [List.mem_singleton] at h; subst h; rw [hk]; show ((k : Int)).toNat < 3; rw [Int.toNat_natCast]; omega⟩
      have HJ2 : ∀ w1 x', x'.vr = x1.vr ∧ x'.vc = x1.vc ∧ x'.g0 = x1.g0 ∧ x'.f0 = x1.f0 ∧ x'.g1 = x1.g1 ∧ x'.f1 = x1.f1 ∧ x'.g2 = x1.g2 ∧ x'.f2 = x1.f2 ∧ RB B s { t1 with at_ := j, chd := t1.chd ||| 2 ^ k } x' w1 ∧ RW B N1 s (Gv va) x' cl (dl ++ [d]) rl w1 ∧ Kp N1 w' w1 ∧ Below B w' w1 → JG0 B N1 s va { t1 with at_ := j, chd := t1.chd ||| 2 ^ k } x' cl (dl ++ [d]) rl w w1 :=
        fun w1 x' ⟨_, _, e0, e1, e2, e3, e4, e5, h1, h2, h3, h4⟩ => ⟨HJ.out.f0, HJ.out.p0, HJ.out.nr, HJ.out.l8, HJ.out.hN, Nat.le_trans HJ.out.hNw h3.size, Nat.le_trans HJ.out.lc (by show t1.at_ ≤ j; omega), by have := HJ.out.ld; simp; omega, h1, h2, HJ.out.lo.trans h4, HJ.out.gf.same ⟨e0, e1, e2, e3, e4, e5⟩⟩
      have HJ2' : Put (_) := ⟨HJ2⟩
      clear HJ2 hC hA hZ hq hd3 hdd hk hkn hnd hgk hG3 hre hr
      cases h1 : num? s j 44 0 0 with
      | some k' =>
        have HLn : Put (_) := ⟨HA.out k' h1⟩
        go_wp2_with fail
        refine HC.out.mono ?_; rintro e w1 ⟨rfl, x2, hP⟩
        have HJ3 : Put (_) := ⟨HJ2'.out w1 x2 hP⟩
        clear hP
        have hb2 := HJ3.out.rb
        go_wp2_with fail
        refine (take_yes 44 k' hs (by omega) hb2 h1).mono ?_; rintro e w2 ⟨rfl, hb3, hx3⟩
        go_wp2
        go_step3
        show ∃ m'', m'' < m' + 1 ∧ JG B s va ra w 3 m'' _ w2
        exact ⟨m', Nat.lt_succ_self _, ⟨rfl, rfl, rfl⟩, T.adv { t1 with at_ := j, chd := t1.chd ||| 2 ^ k }, x2, N1, cl, dl ++ [d], rl, num_lt h1, by show s.size + 1 ≤ j + 1 + m'; omega, HJ3.out.ex hb3 hx3 ⟨rfl, rfl, rfl, rfl⟩ (Nat.le_succ _), .inr (.inr (.inl ⟨rfl, hn, h8, HBB, HD3.out, HLn⟩))⟩
      | none =>
        have HLn : Put (_) := ⟨HZ.out h1⟩
        go_wp2_with fail
        refine HC.out.mono ?_; rintro e w1 ⟨rfl, x2, hP⟩
        have HJ3 : Put (_) := ⟨HJ2'.out w1 x2 hP⟩
        clear hP
        have hb2 := HJ3.out.rb
        go_wp2_with fail
        refine (take_no 44 hs hjs (by omega) hb2 h1).mono ?_; rintro e w2 ⟨rfl, hb3, hx3⟩
        have HJ4 : Put (_) := ⟨HJ3.out.ex hb3 hx3 ⟨rfl, rfl, rfl, rfl⟩ (Nat.le_refl _)⟩
        have hb4 := HJ4.out.rb
        clear hb2 hx3 HJ3
        go_wp2_with fail
        refine (gend HJ4.out.hN HJ4.out.hNw hb4 HJ4.out.rw HJ4.out.nr HJ4.out.l8 (by have := HJ4.out.lc; have e : T.at_ { t1 with at_ := j, chd := t1.chd ||| 2 ^ k } = j := rfl; omega) (by have := HJ4.out.ld; have e : T.at_ { t1 with at_ := j, chd := t1.chd ||| 2 ^ k } = j := rfl; omega) HD3.out).mono ?_; rintro e w3 ⟨rfl, x3, e0, e1, e2, e3, e4, e5, h5, h6, h7, h9⟩
        have HJ5 : Put (JG0 B w3.heap.size s va { t1 with at_ := j, nr := t1.nr + 1, chd := 0 } x3 [] [] (rl ++ [(cl, dl ++ [d])]) w w3) := ⟨⟨HJ4.out.f0, HJ4.out.p0, by have := HJ4.out.nr; simp; exact this, by simp; omega, by have := h5.lt; omega, Nat.le_refl _, Nat.zero_le _, Nat.zero_le _, h5, h6, HJ4.out.lo.trans h7, HJ4.out.gf.same ⟨e0, e1, e2, e3, e4, e5⟩⟩⟩
        clear h5 h6 h7 e0 e1 e2 e3 e4 e5
        go_wp2
        go_step3
        show ∃ m'', m'' < m' + 1 ∧ JG B s va ra w 2 m'' _ w3
        exact ⟨m', Nat.lt_succ_self _, ⟨rfl, rfl, rfl⟩, { t1 with at_ := j, nr := t1.nr + 1, chd := 0 }, x3, w3.heap.size, [], [], rl ++ [(cl, dl ++ [d])], hjs, by show s.size + 1 ≤ j + m'; omega, HJ5.out, .inr (.inl ⟨rfl, hn, rfl, rfl, rfl, HLn⟩)⟩
    · show Code.wp Tryd.prog (.seq _ _) _ _ _
      obtain ⟨c, hq, hjs, ⟨r, hr, hcr⟩, hA, hZ⟩ := leftC hL.out
      have hcc := HG.out.c r hr c hcr
      have hC := gcond hs hat HJ.out.hN HJ.out.hNw hb1 HJ.out.rw (by have := HJ.out.lc; omega) hq (by rw [hn]; exact hcc.1) (by rw [hn]; exact hcc.2)
      have HC : Put (_) := ⟨hC⟩
      have HA : Put (_) := ⟨hA⟩
      have HZ : Put (_) := ⟨hZ⟩
      have HJ2 : ∀ w1 x', x'.vr = x1.vr ∧ x'.vh = x1.vh ∧ x'.g0 = x1.g0 ∧ x'.f0 = x1.f0 ∧ x'.g1 = x1.g1 ∧ x'.f1 = x1.f1 ∧ x'.g2 = x1.g2 ∧ x'.f2 = x1.f2 ∧ RB B s t1.adv.adv.adv x' w1 ∧ RW B N1 s (Gv va) x' (cl ++ [c]) [] rl w1 ∧ Kp N1 w' w1 ∧ Below B w' w1 → JG0 B N1 s va t1.adv.adv.adv x' (cl ++ [c]) [] rl w w1 :=
        fun w1 x' ⟨_, _, e0, e1, e2, e3, e4, e5, h1, h2, h3, h4⟩ => ⟨HJ.out.f0, HJ.out.p0, HJ.out.nr, HJ.out.l8, HJ.out.hN, Nat.le_trans HJ.out.hNw h3.size, by have := HJ.out.lc; have e : t1.adv.adv.adv.at_ = t1.at_ + 1 + 1 + 1 := rfl; simp; omega, Nat.zero_le _, h1, h2, HJ.out.lo.trans h4, HJ.out.gf.same ⟨e0, e1, e2, e3, e4, e5⟩⟩
      have HJ2' : Put (_) := ⟨HJ2⟩
      clear HJ2 hC hA hZ hq hcc
      cases h1 : num? s (t1.at_ + 3) 38 0 0 with
      | some k' =>
        have HLn : Put (_) := ⟨HA.out k' h1⟩
        go_wp2_with fail
        refine HC.out.mono ?_; rintro e w1 ⟨rfl, x2, hP⟩
        have HJ3 : Put (_) := ⟨HJ2'.out w1 x2 hP⟩
        clear hP
        have hb2 := HJ3.out.rb
        go_wp2_with fail
        refine (take_yes 38 k' hs (by omega) hb2 h1).mono ?_; rintro e w2 ⟨rfl, hb3, hx3⟩
        go_wp2
        go_step3
        show ∃ m'', m'' < m' + 1 ∧ JG B s va ra w 4 m'' _ w2
        exact ⟨m', Nat.lt_succ_self _, ⟨rfl, rfl, rfl⟩, t1.adv.adv.adv.adv, x2, N1, cl ++ [c], [], rl, num_lt h1, by show s.size + 1 ≤ t1.at_ + 1 + 1 + 1 + 1 + m'; omega, HJ3.out.ex hb3 hx3 ⟨rfl, rfl, rfl, rfl⟩ (Nat.le_succ _), .inr (.inr (.inr ⟨rfl, hn, h8, rfl, hcd, HLn⟩))⟩
      | none =>
        obtain ⟨k2, h2, hLn⟩ := HZ.out h1
        have HLn : Put (_) := ⟨hLn⟩
        clear hLn
        go_wp2_with fail
        refine HC.out.mono ?_; rintro e w1 ⟨rfl, x2, hP⟩
        have HJ3 : Put (_) := ⟨HJ2'.out w1 x2 hP⟩
        clear hP
        have hb2 := HJ3.out.rb
        go_wp2_with fail
        refine (take_no 38 hs hjs (by omega) hb2 h1).mono ?_; rintro e w2 ⟨rfl, hb3, hx3⟩
        go_wp2_with fail
        refine (take_yes 58 k2 hs (by omega) hb3 h2).mono ?_; rintro e w3 ⟨rfl, hb4, hx4⟩
        go_wp2
        apply wp_label
        have HK : ∀ a : Act, (a.tmps.size = 55 ∧ a.defers = [] ∧ a.tmps.getD 0 undef = .pointer (some ⟨B, 0, none⟩)) → ∃ m'', m'' < m' + 1 ∧ JG B s va ra w 3 m'' a w3 := fun a h => ⟨m', Nat.lt_succ_self _, h, t1.adv.adv.adv.adv, x2, N1, cl ++ [c], [], rl, num_lt h2, by show s.size + 1 ≤ t1.at_ + 1 + 1 + 1 + 1 + m'; omega, HJ3.out.ex hb4 (hx3.trans hx4) ⟨rfl, rfl, rfl, rfl⟩ (Nat.le_succ _), .inr (.inr (.inl ⟨rfl, hn, h8, ⟨by show Bits t1.chd []; rw [hcd]; exact bits0⟩, fun d hd => absurd hd List.not_mem_nil, HLn⟩))⟩
        first | (rename_i hK; exact hK _ _ (ih 3 _ _ (HK _ ⟨rfl, rfl, rfl⟩))) | (rename_i hK _; exact hK _ _ (ih 3 _ _ (HK _ ⟨rfl, rfl, rfl⟩))) | (rename_i hK _ _; exact hK _ _ (ih 3 _ _ (HK _ ⟨rfl, rfl, rfl⟩)))
end
end Go.Proofs.YtcnhhclogbjedaaDoor

namespace Go.Proofs.YtcnhhclogbjedaaDoor
open Go.RowKit Go.Lib

/-- A machine as a value changes: of the reader's blocks nothing else. -/
theorem Kp.set45 {N b i : Nat} {w : World} {cs : Array Value} (v : Value) (h : w.heap[b]? = some (.cells cs 45 (0, 0))) : Kp N w (w.setCell ⟨b, i, none⟩ v) := by
  refine ⟨by simp, fun k cs' t' fz hc hn h1 _ _ => heap_setCell_other _ _ _ _ (fun e => ?_)⟩
  have e' : k = b := e
  subst e'
  rw [h] at hc
  simp at hc
  exact h1.2 hc.2.1.symm
theorem Kp.drew {N : Nat} {w w' : World} (h : Kp N w w') : Kp N w w'.drew := ⟨h.size, h.keep⟩
def mach8 (x : Junk) (n : Nat) (v : Value) : List Value := [.int .i64 x.g0, .int .u8 x.f0, .int .i64 x.g1, .int .u8 x.f1, .int .i64 x.g2, .int .u8 x.f2, .int .i64 n, v]
theorem kp_mach {N b : Nat} {w : World} {c0 c1 c2 c3 c4 c5 c6 c7 : Value} (y0 y1 y2 y3 y4 y5 y6 y7 : Value) (h : w.heap[b]? = some (.cells #[c0, c1, c2, c3, c4, c5, c6, c7] 45 (0, 0))) :
    Kp N w ((((((((w.setCell ⟨b, 0, none⟩ y0).setCell ⟨b, 1, none⟩ y1).setCell ⟨b, 2, none⟩ y2).setCell ⟨b, 3, none⟩ y3).setCell ⟨b, 4, none⟩ y4).setCell ⟨b, 5, none⟩ y5).setCell ⟨b, 6, none⟩ y6).setCell ⟨b, 7, none⟩ y7) := by
  have h0 := heap_setCell_same w b 0 _ 45 y0 h
  have h1 := heap_setCell_same _ b 1 _ 45 y1 h0
  have h2 := heap_setCell_same _ b 2 _ 45 y2 h1
  have h3 := heap_setCell_same _ b 3 _ 45 y3 h2
  have h4 := heap_setCell_same _ b 4 _ 45 y4 h3
  have h5 := heap_setCell_same _ b 5 _ 45 y5 h4
  have h6 := heap_setCell_same _ b 6 _ 45 y6 h5
  exact ((((((((Kp.set45 y0 h).trans (Kp.set45 y1 h0)).trans (Kp.set45 y2 h1)).trans (Kp.set45 y3 h2)).trans (Kp.set45 y4 h3)).trans (Kp.set45 y5 h4)).trans (Kp.set45 y6 h5)).trans (Kp.set45 y7 h6))
theorem own_mach {b base e z n : Nat} {w : World} {cs : Array Value} {v : Value} {xs : List Value} (ho : w.ownsRow base e z v n xs) (h : w.heap[b]? = some (.cells cs 45 (0, 0))) (he : e ≠ 45) (y0 y1 y2 y3 y4 y5 y6 y7 : Value) :
    ((((((((w.setCell ⟨b, 0, none⟩ y0).setCell ⟨b, 1, none⟩ y1).setCell ⟨b, 2, none⟩ y2).setCell ⟨b, 3, none⟩ y3).setCell ⟨b, 4, none⟩ y4).setCell ⟨b, 5, none⟩ y5).setCell ⟨b, 6, none⟩ y6).setCell ⟨b, 7, none⟩ y7).ownsRow base e z v n xs := by
  have hne := ne_block_of_type ho h he
  exact ownsRow_setCell_other (ownsRow_setCell_other (ownsRow_setCell_other (ownsRow_setCell_other (ownsRow_setCell_other (ownsRow_setCell_other (ownsRow_setCell_other (ownsRow_setCell_other ho (a := ⟨b, 0, none⟩) hne _) (a := ⟨b, 1, none⟩) hne _) (a := ⟨b, 2, none⟩) hne _) (a := ⟨b, 3, none⟩) hne _) (a := ⟨b, 4, none⟩) hne _) (a := ⟨b, 5, none⟩) hne _) (a := ⟨b, 6, none⟩) hne _) (a := ⟨b, 7, none⟩) hne _

/-- What readModel answers of a good model. -/
def GRPost (s : ByteArray) (va : List VA) (ra : List RA) (w : World) (e : Ending) (w' : World) : Prop :=
  (∃ (x : Junk) (ao : Option Addr) (cap N : Nat) (vals : List Value), e = .returned (.tuple #[.agg #[.int .i64 x.g0, .int .u8 x.f0, .int .i64 x.g1, .int .u8 x.f1, .int .i64 x.g2, .int .u8 x.f2, .int .i64 va.length, .slice ao ra.length cap], .int .i64 0, .int .i64 0]) ∧
    GF va x va.length ∧ w'.ownsRow w.heap.size 106 1 (.slice ao ra.length cap) ra.length vals ∧ All2 (fun v r => FnK N w' v (fun y => .int .u64 (ruP s (Gv va) r y : Nat))) vals ra ∧ ra.length ≤ 8) ∧ Below w.heap.size w w'

set_option maxRecDepth 100000 in
set_option maxHeartbeats 1600000 in
theorem gread {s : ByteArray} {va : List VA} {ra : List RA} {q' : Q} (hs : s.size ≤ 120) (hq : qRead s = (some (va, ra), q')) (hw : (wrongP va ra).1 = 0) (w : World) :
    Calls Tryd.prog 16 #[.string s] w (GRPost s va ra w) := by
  have hl' : ¬ (120 : Int) < (s.size : Int) := by omega
  have hg := goodA hq hw
  have hL := leftV0 hq
  have hb0 : RB (w.heap.size + 1) s T0 X0 ((w.alloc (.cells #[.int .i64 0, .int .u8 0, .int .i64 0, .int .u8 0, .int .i64 0, .int .u8 0, .int .i64 0, .slice none 0 0] 45)).alloc (.cells (blk s T0 X0) 76)) := by
    have := heap_alloc_new (w.alloc (.cells #[.int .i64 0, .int .u8 0, .int .i64 0, .int .u8 0, .int .i64 0, .int .u8 0, .int .i64 0, .slice none 0 0] 45)) (.cells (blk s T0 X0) 76)
    simpa [RB] using this
  have HM : Put (_) := ⟨gmodel (x := X0) hs hg hb0 (by simp) ⟨rfl, rfl, rfl⟩ (fun k => by unfold Junk.g Junk.f X0; refine ⟨?_, ?_⟩ <;> split <;> rfl) hL⟩
  clear hg hL hq hw hb0
  go_enter Tryd.func16, Tryd.ntmps16
  go_wp2_with fail
  refine HM.out.mono ?_
  rintro e w1 ⟨rfl, t', x1, N, hJ, hn⟩
  have hl1 := hJ.lo
  have hm : w1.heap[w.heap.size]? = some (.cells #[.int .i64 0, .int .u8 0, .int .i64 0, .int .u8 0, .int .i64 0, .int .u8 0, .int .i64 0, .slice none 0 0] 45 (0, 0)) := by
    rw [hl1.block _ (Nat.lt_succ_self _), Below.heap_alloc _ _ _ (by simp), heap_alloc_new]
  have hlb : Below w.heap.size w w1 := (((Below.refl w.heap.size w).alloc (Nat.le_refl _) _).alloc (by simp) _).trans (hl1.mono (Nat.le_succ _))
  obtain ⟨vals, hrow, hmean⟩ := hJ.rw.r
  obtain ⟨ao, cap, hvr⟩ : ∃ ao cap, x1.vr = .slice ao ra.length cap := owned_slice hrow
  have m0 : w1.cell? ⟨w.heap.size, 0, none⟩ = some (.int .i64 0) := by simp [World.cell?, hm]
  have m1 : w1.cell? ⟨w.heap.size, 1, none⟩ = some (.int .u8 0) := by simp [World.cell?, hm]
  have m2 : w1.cell? ⟨w.heap.size, 2, none⟩ = some (.int .i64 0) := by simp [World.cell?, hm]
  have m3 : w1.cell? ⟨w.heap.size, 3, none⟩ = some (.int .u8 0) := by simp [World.cell?, hm]
  have m4 : w1.cell? ⟨w.heap.size, 4, none⟩ = some (.int .i64 0) := by simp [World.cell?, hm]
  have m5 : w1.cell? ⟨w.heap.size, 5, none⟩ = some (.int .u8 0) := by simp [World.cell?, hm]
  have m6 : w1.cell? ⟨w.heap.size, 6, none⟩ = some (.int .i64 0) := by simp [World.cell?, hm]
  have m7 : w1.cell? ⟨w.heap.size, 7, none⟩ = some (.slice none 0 0) := by simp [World.cell?, hm]
  have mf : ∀ i, w1.frozen? ⟨w.heap.size, i, none⟩ = false := fun i => by simp [World.frozen?, hm]
  have hb1 := hJ.rb
  have c1 := hb1.c1
  have c2 := hb1.c2
  have c3 := hb1.c3
  have c4 := hb1.c4
  have c5 := hb1.c5
  have c6 := hb1.c6
  have c7 := hb1.c7
  have c8 := hb1.c8
  rw [hn] at c8
  have c9 := hb1.c9
  rw [hvr] at c9
  have c13 := hb1.c13
  have c14 := hb1.c14
  rw [hJ.f0] at c13
  rw [hJ.p0] at c14
  have HF : Put (GRPost s va ra w (.returned (.tuple #[.agg #[.int .i64 x1.g0, .int .u8 x1.f0, .int .i64 x1.g1, .int .u8 x1.f1, .int .i64 x1.g2, .int .u8 x1.f2, .int .i64 va.length, .slice ao ra.length cap], .int .i64 0, .int .i64 0])) ((((((((w1.setCell ⟨w.heap.size, 0, none⟩ (.int .i64 x1.g0)).setCell ⟨w.heap.size, 1, none⟩ (.int .u8 x1.f0)).setCell ⟨w.heap.size, 2, none⟩ (.int .i64 x1.g1)).setCell ⟨w.heap.size, 3, none⟩ (.int .u8 x1.f1)).setCell ⟨w.heap.size, 4, none⟩ (.int .i64 x1.g2)).setCell ⟨w.heap.size, 5, none⟩ (.int .u8 x1.f2)).setCell ⟨w.heap.size, 6, none⟩ (.int .i64 va.length)).setCell ⟨w.heap.size, 7, none⟩ (.slice ao ra.length cap)).drew) := by
    refine ⟨⟨⟨x1, ao, cap, N, vals, rfl, by rw [← hn]; exact hJ.gf, ?_, ?_, hJ.l8⟩, ((((((((hlb.setCell (Nat.le_refl _) _).setCell (Nat.le_refl _) _).setCell (Nat.le_refl _) _).setCell (Nat.le_refl _) _).setCell (Nat.le_refl _) _).setCell (Nat.le_refl _) _).setCell (Nat.le_refl _) _).setCell (Nat.le_refl _) _).drew⟩⟩
    · have := own_mach hrow hm (by decide) (.int .i64 x1.g0) (.int .u8 x1.f0) (.int .i64 x1.g1) (.int .u8 x1.f1) (.int .i64 x1.g2) (.int .u8 x1.f2) (.int .i64 va.length) (.slice ao ra.length cap)
      rw [hvr] at this
      exact (own_base this (by omega)).drew
    · exact hmean.mono (fun _ _ h => h.kp (kp_mach _ _ _ _ _ _ _ _ hm).drew)
  clear hm hb1 hJ hl1 hvr hrow hmean hlb HM hn
  go_wp2
  go_region
  all_goals
    go_wp2
    exact bodyPost_ret (v := .tuple #[.agg #[.int .i64 x1.g0, .int .u8 x1.f0, .int .i64 x1.g1, .int .u8 x1.f1, .int .i64 x1.g2, .int .u8 x1.f2, .int .i64 va.length, .slice ao ra.length cap], .int .i64 0, .int .i64 0]) (by simp [results, Tryd.results16, go_sem, m0, m1, m2, m3, m4, m5, m6, m7]) rfl HF.out
end Go.Proofs.YtcnhhclogbjedaaDoor
