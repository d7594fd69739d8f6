/- The code's reader, of a good model: a variable. Our own text. -/
import Derived.Test.YtcnhhclogbjedaaDoorVar
import Derived.Test.YtcnhhclogbjedaaDoorSame3
import Derived.Test.YtcnhhclogbjedaaDoorMSet
import Derived.Test.YtcnhhclogbjedaaDoorRGood
namespace Go.Proofs.YtcnhhclogbjedaaDoor
open Go.RowKit

def BitsL (f : Nat) (l : List Nat) : Prop := f < 16 ∧ ∀ v, v < 4 → f.testBit v = decide (v ∈ l)
theorem bits4_or : ∀ c : Nat, c < 16 → ∀ k : Nat, k < 4 → c ||| 2 ^ k < 16 ∧ ∀ j : Nat, j < 4 → (c ||| 2 ^ k).testBit j = (c.testBit j || decide (j = k)) := by decide
theorem BitsL.nil : BitsL 0 [] := ⟨by omega, fun v _ => by simp⟩
theorem BitsL.snoc {f : Nat} {l : List Nat} (h : BitsL f l) (v : Nat) (hv : v ≤ 3) : BitsL (f ||| 2 ^ v) (l ++ [v]) := by
  have := bits4_or f h.1 v (by omega)
  refine ⟨this.1, fun j hj => ?_⟩
  rw [this.2 j hj, h.2 j hj]
  simp
theorem qFirst_mem (s : ByteArray) : ∀ (f n j : Nat) (acc : List Nat) (x : Nat), x ∈ acc → x ∈ (qFirst s f n j acc).1
  | 0, _, _, _, _, h => h
  | f + 1, n, j, acc, x, h => by
    unfold qFirst
    cases num? s j 48 (n + 1) 3 with
    | none => exact h
    | some v => exact qFirst_mem s f v (j + 1) (acc ++ [v]) x (List.mem_append.2 (.inl h))
theorem qVar_parts {s : ByteArray} {k i j top a0 : Nat} {l : List Nat} (h : qVar s k (.ok i) = (some (top, l, a0), .ok j)) :
    ∃ k1 k3 v, num? s i (97 + k) 0 0 = some k1 ∧ num? s (i + 1) 48 1 3 = some top ∧ num? s (i + 2) 61 0 0 = some k3 ∧ num? s (i + 3) 48 0 3 = some v ∧ qFirst s 4 v (i + 4) [v] = (l, .ok j) := by
  unfold qVar at h
  cases h1 : num? s i (97 + k) 0 0 with
  | none => simp [qMust, qBet, qNum, Q.fail, h1] at h
  | some k1 =>
  cases h2 : num? s (i + 1) 49 0 2 with
  | none => simp [qMust, qBet, qNum, Q.fail, Q.adv, h1, h2] at h
  | some g =>
  cases h3 : num? s (i + 1 + 1) 61 0 0 with
  | none => simp [qMust, qBet, qNum, Q.fail, Q.adv, h1, h2, h3] at h
  | some k3 =>
  cases h4 : num? s (i + 1 + 1 + 1) 48 0 3 with
  | none => simp [qMust, qBet, qNum, Q.fail, Q.adv, h1, h2, h3, h4] at h
  | some v =>
    simp [qMust, qBet, qNum, Q.adv, h1, h2, h3, h4] at h
    obtain ⟨⟨rfl, hl, _⟩, hj⟩ := h
    refine ⟨k1, k3, v, rfl, ?_, rfl, rfl, ?_⟩
    · rw [num_top, h2]; rfl
    · exact Prod.ext hl hj

def Junk.setv (x : Junk) (k : Nat) (g f : Int) : Junk := match k with
  | 0 => { x with g0 := g, f0 := f }
  | 1 => { x with g1 := g, f1 := f }
  | _ => { x with g2 := g, f2 := f }

/-- What holds at the labels of 'variable'. -/
def JW (B : Nat) (s : ByteArray) (w : World) (x : Junk) (nn j g : Nat) (l0 : List Nat) (tt : T) (l m : Nat) (a : Act) (w' : World) : Prop :=
  l = 1 ∧ ∃ (v f : Nat) (acc : List Nat) (t : T), (a.tmps.size = 73 ∧ a.defers = [] ∧ a.tmps.getD 0 undef = .pointer (some ⟨B, 0, none⟩) ∧ a.tmps.getD 3 undef = .pointer (some ⟨w.heap.size, 0, none⟩) ∧ a.tmps.getD 4 undef = .int .i64 v) ∧ Put (qFirst s m v t.at_ (acc ++ [v]) = (l0, .ok j)) ∧ Put (BitsL f acc) ∧ v ≤ 3 ∧ 4 ≤ v + m ∧ t.at_ ≤ s.size ∧ t.n = nn ∧ Put ({ t with at_ := j } = tt) ∧
    RB B s t x w' ∧ Ex B w w' ∧ w'.heap[w.heap.size]? = some (.cells #[.int .i64 g, .int .u8 f] 41 (0, 0))

def GVPost (B : Nat) (s : ByteArray) (t : T) (x : Junk) (j g : Nat) (l0 : List Nat) (w w' : World) : Prop :=
  ∃ f : Nat, BitsL f l0 ∧ RB B s { t with at_ := j, n := t.n + 1 } (x.setv t.n g f) w' ∧ Ex B w w'
theorem GVPost.drew {B : Nat} {s : ByteArray} {t : T} {x : Junk} {j g : Nat} {l0 : List Nat} {w w' : World} (h : GVPost B s t x j g l0 w w') : GVPost B s t x j g l0 w w'.drew := by
  obtain ⟨f, h1, h2, h3⟩ := h
  exact ⟨f, h1, h2.drew, h3.drew⟩

section
variable {B : Nat} {s : ByteArray} {t : T} {x : Junk} {w : World}
set_option maxRecDepth 100000 in
set_option maxHeartbeats 1600000 in
theorem gvar {j g a0 : Nat} {l0 : List Nat} (hs : s.size ≤ 120) (hn : t.n < 3) (hb : RB B s t x w) (hq : qVar s t.n (.ok t.at_) = (some (g, l0, a0), .ok j)) (hl : ∀ y ∈ l0, y ≤ g) :
    Calls Tryd.prog 43 #[.pointer (some ⟨B, 0, none⟩)] w fun e w' => e = .returned (.bool true) ∧ GVPost B s t x j g l0 w w' := by
  have hB := hb.lt
  have c8 := hb.c8
  obtain ⟨k1, k3, v0, h1, h2, h3, h4, hF⟩ := qVar_parts hq
  have HF0 : Put (_ = _) := ⟨hF⟩
  have HL : Put (∀ y ∈ l0, y ≤ g) := ⟨hl⟩
  have hg := (num_le h2).2
  clear hq hF hl
  go_enter Tryd.func43, Tryd.ntmps43
  go_wp2_with fail
  refine wp_scope_rest (JW B s w x t.n j g l0 { t with at_ := j }) ?hf ?pass ?first
  case hf =>
    rintro l m a w' ⟨rfl, _⟩
    rfl
  case pass =>
    clear h1 h2 h3 h4 HF0 c8
    rintro m ih l a w' ⟨rfl, v, f, acc, t1, ⟨fz, fd, f0, f3, f4⟩, hr, hbits, hv, hm, hat1, hn1, htt, hb', hx', hv'⟩
    obtain ⟨u, rfl⟩ := frame73' a _ _ _ fz fd f0 f3 f4
    clear fz fd f0 f3 f4 ih
    show Code.wp Tryd.prog (.seq _ _) _ _ _
    have q0 := two_cell0 hv'
    have q1 := two_cell1 hv'
    have f1 := two_free hv' 1
    have hlt := lt_of_block hv'
    obtain ⟨m', rfl⟩ : ∃ m', m = m' + 1 := ⟨m - 1, by omega⟩
    have hvg : v ≤ g := HL.out v (by have := qFirst_mem s (m' + 1) v t1.at_ (acc ++ [v]) v (by simp); rw [hr.out] at this; exact this)
    have hgv' : ¬ (g : Int) < (v : Int) := by omega
    have hf16 : f < 256 := by have := hbits.out.1; omega
    have HFQ : Put (_) := ⟨hr.out⟩
    have hr' := hr.out
    unfold qFirst at hr'
    have HR' : Put (_) := ⟨hr'⟩
    clear hr hr' HFQ
    go_wp2_with fail
    refine (with8_any f v hf16 (by omega) _).mono ?_; rintro e w3 ⟨rfl, hw3⟩
    rw [hw3]
    clear hw3 w3
    have HBT : Put (BitsL (f ||| 2 ^ v) (acc ++ [v])) := ⟨hbits.out.snoc v hv⟩
    generalize f ||| 2 ^ v = c' at *
    have HB3 : Put (RB B s t1 x (w'.setCell ⟨w.heap.size, 1, none⟩ (.int .u8 c'))) := ⟨hb'.set_other (by show w.heap.size ≠ B; omega) _⟩
    have HX3 : Put (Ex B w (w'.setCell ⟨w.heap.size, 1, none⟩ (.int .u8 c'))) := ⟨hx'.setCell (.inr (Nat.le_refl _)) _⟩
    have HV3 : Put ((w'.setCell ⟨w.heap.size, 1, none⟩ (.int .u8 c')).heap[w.heap.size]? = some (.cells #[.int .i64 g, .int .u8 c'] 41 (0, 0))) := ⟨two_setCell1 hv'⟩
    clear hb' hx' hv' hbits
    cases hd : num? s t1.at_ 48 (v + 1) 3 with
    | some v' =>
      rw [hd] at HR'
      have hv'' := num_le hd
      have l2 := num_lt hd
      go_wp2_with fail
      refine (digit_yes' (v + 1) v' (by omega) hs (by omega) HB3.out hd).mono ?_; rintro e w4 ⟨rfl, hb4, hx4⟩
      have hv4 := (hx4.block w.heap.size (lt_of_block HV3.out) (by omega)).trans HV3.out
      have hx4' := HX3.out.trans hx4
      clear hx4 HB3 HX3 HV3 q0 q1 f1 hd
      go_wp2
      go_step3
      show ∃ m'', m'' < m' + 1 ∧ JW B s w x t.n j g l0 _ 1 m'' _ w4
      exact ⟨m', Nat.lt_succ_self _, rfl, v', c', acc ++ [v], t1.adv, ⟨rfl, rfl, rfl, rfl, rfl⟩, HR', HBT, hv''.2, by omega, by show t1.at_ + 1 ≤ s.size; omega, hn1, htt, hb4, hx4', hv4⟩
    | none =>
      rw [hd] at HR'
      have HLJ : Put (acc ++ [v] = l0 ∧ t1.at_ = j) := ⟨by have := HR'.out; simp only [Prod.mk.injEq, Except.ok.injEq] at this; exact this⟩
      have htt' : Put ({ t1 with at_ := j } = { t with at_ := j }) := htt
      have hti : Put ({ t1 with n := t1.n + 1 } = { t with at_ := j, n := t.n + 1 }) := ⟨by
        have e := htt'.out
        have e2 := HLJ.out.2
        subst e2
        have e3 : t1 = { t with at_ := t1.at_ } := e
        rw [e3]⟩
      clear HR' htt htt'
      go_wp2_with fail
      refine (digit_no' (v + 1) (by omega) hs (by omega) (by omega) HB3.out hd).mono ?_; rintro e w4 ⟨rfl, hb4, hx4⟩
      have hv4 := (hx4.block w.heap.size (lt_of_block HV3.out) (by omega)).trans HV3.out
      have hx4' := HX3.out.trans hx4
      clear hx4 HB3 HX3 HV3 q0 q1 f1 hd hlt
      have q0 := two_cell0 hv4
      have q1 := two_cell1 hv4
      have hlt := lt_of_block hv4
      have F : ∀ i, w4.frozen? ⟨B, i, none⟩ = false := fun i => hb4.free i
      have d8 := hb4.c8
      rw [hn1] at d8
      have hBlt := hb4.lt
      go_wp2_with fail
      have hcase : t.n = 0 ∨ t.n = 1 ∨ t.n = 2 := by omega
      rcases hcase with h0 | h0 | h0
      · rw [h0] at d8
        have e1 := hb4.c2
        have e2 := hb4.c3
        have HF : Put (GVPost B s t x j g l0 w (((w4.setCell ⟨B, 2, none⟩ (.int .i64 g)).setCell ⟨B, 3, none⟩ (.int .u8 c')).setCell ⟨B, 8, none⟩ (.int .i64 1))) :=
          ⟨c', by rw [← HLJ.out.1]; exact HBT.out, by rw [← hti.out, hn1, h0]; exact (hb4.setv0 g c').set8 1, ((hx4'.setCell (.inl rfl) _).setCell (.inl rfl) _).setCell (.inl rfl) _⟩
        clear hb4 hx4' hv4
        go_region
        all_goals
          go_wp2
          rw [jumps_ret]
          go_ret
          exact ⟨rfl, HF.out.drew⟩
      · rw [h0] at d8
        have e1 := hb4.c4
        have e2 := hb4.c5
        have HF : Put (GVPost B s t x j g l0 w (((w4.setCell ⟨B, 4, none⟩ (.int .i64 g)).setCell ⟨B, 5, none⟩ (.int .u8 c')).setCell ⟨B, 8, none⟩ (.int .i64 2))) :=
          ⟨c', by rw [← HLJ.out.1]; exact HBT.out, by rw [← hti.out, hn1, h0]; exact (hb4.setv1 g c').set8 2, ((hx4'.setCell (.inl rfl) _).setCell (.inl rfl) _).setCell (.inl rfl) _⟩
        clear hb4 hx4' hv4
        go_region
        all_goals
          go_wp2
          rw [jumps_ret]
          go_ret
          exact ⟨rfl, HF.out.drew⟩
      · rw [h0] at d8
        have e1 := hb4.c6
        have e2 := hb4.c7
        have HF : Put (GVPost B s t x j g l0 w (((w4.setCell ⟨B, 6, none⟩ (.int .i64 g)).setCell ⟨B, 7, none⟩ (.int .u8 c')).setCell ⟨B, 8, none⟩ (.int .i64 3))) :=
          ⟨c', by rw [← HLJ.out.1]; exact HBT.out, by rw [← hti.out, hn1, h0]; exact (hb4.setv2 g c').set8 3, ((hx4'.setCell (.inl rfl) _).setCell (.inl rfl) _).setCell (.inl rfl) _⟩
        clear hb4 hx4' hv4
        go_region
        all_goals
          go_wp2
          rw [jumps_ret]
          go_ret
          exact ⟨rfl, HF.out.drew⟩
  case first =>
    intro ih
    have hb0 := hb.alloc (.cells #[.int .i64 0, .int .u8 0] 41)
    have hx0 := (Ex.refl B w).alloc (.cells #[.int .i64 0, .int .u8 0] 41)
    have hv0 := heap_alloc_new w (.cells #[.int .i64 0, .int .u8 0] 41)
    have n1 : t.adv.at_ = t.at_ + 1 := rfl
    have l4 := num_lt h4
    have hv3 := (num_le h4).2
    go_wp2_with fail
    refine (take_yes' (97 + t.n) k1 (by omega) hs (by omega) hb0 h1).mono ?_; rintro e w1 ⟨rfl, hb1, hx1⟩
    go_wp2_with fail
    refine (digit_yes 1 g hs (by omega) hb1 h2).mono ?_; rintro e w2 ⟨rfl, hb2, hx2⟩
    have hX := (hx0.trans hx1).trans hx2
    have hv2 := ((hx1.trans hx2).block w.heap.size (lt_of_block hv0) (by omega)).trans hv0
    have q0 := two_cell0 hv2
    have q1 := two_free hv2 0
    have hb3 := hb2.set_other (p := ⟨w.heap.size, 0, none⟩) (by show w.heap.size ≠ B; omega) (.int .i64 (g : Int))
    have hx3 := hX.setCell (p := ⟨w.heap.size, 0, none⟩) (.inr (Nat.le_refl _)) (.int .i64 (g : Int))
    have hv3' := two_setCell0 (y := .int .i64 (g : Int)) hv2
    have HS : Put (RB B s t.adv.adv x (w2.setCell ⟨w.heap.size, 0, none⟩ (.int .i64 (g : Int)))) := ⟨hb3⟩
    clear hb1 hb2 hx1 hx2 hX hv2 hb3
    go_wp2_with fail
    refine (take_yes 61 k3 hs (by omega) HS.out h3).mono ?_; rintro e w4 ⟨rfl, hb4, hx4⟩
    go_wp2_with fail
    refine (digit_yes 0 v0 hs (by omega) hb4 h4).mono ?_; rintro e w5 ⟨rfl, hb5, hx5⟩
    have hX := hx4.trans hx5
    have hv5 := (hX.block w.heap.size (lt_of_block hv3') (by omega)).trans hv3'
    go_wp2
    apply wp_label
    rename_i hK
    refine hK _ _ (ih 1 _ _ ⟨4, rfl, v0, 0, [], t.adv.adv.adv.adv, ⟨rfl, rfl, rfl, rfl, rfl⟩, HF0, ⟨BitsL.nil⟩, hv3, by omega, by show t.at_ + 1 + 1 + 1 + 1 ≤ s.size; omega, rfl, ⟨rfl⟩, hb5, hx3.trans hX, hv5⟩)
end
end Go.Proofs.YtcnhhclogbjedaaDoor

namespace Go.Proofs.YtcnhhclogbjedaaDoor
open Go.RowKit

section
variable {s : ByteArray}
theorem qLoop1_pre : ∀ (f : Nat) (b : Bool) (q : Q) (acc l : List (Tm × Tm)) (q' : Q), qLoop1 s f b q acc = (some l, q') → ∃ r, l = acc ++ r
  | 0, false, _, _, _, _, h => by unfold qLoop1 at h; cases h; exact ⟨[], by simp⟩
  | _ + 1, false, _, _, _, _, h => by unfold qLoop1 at h; cases h; exact ⟨[], by simp⟩
  | 0, true, _, _, _, _, h => by unfold qLoop1 at h; cases h
  | f + 1, true, q, acc, l, q', h => by
    unfold qLoop1 at h
    split at h
    · cases h
    · next c q1 _ =>
      split at h
      · obtain ⟨r, e⟩ := qLoop1_pre f _ _ _ _ _ h; exact ⟨c :: r, by simp [e]⟩
      · obtain ⟨r, e⟩ := qLoop1_pre f _ _ _ _ _ h; exact ⟨c :: r, by simp [e]⟩
theorem qLoop2_pre : ∀ (f : Nat) (b : Bool) (q : Q) (acc l : List Chg) (q' : Q), qLoop2 s f b q acc = (some l, q') → ∃ r, l = acc ++ r
  | 0, false, _, _, _, _, h => by unfold qLoop2 at h; cases h; exact ⟨[], by simp⟩
  | _ + 1, false, _, _, _, _, h => by unfold qLoop2 at h; cases h; exact ⟨[], by simp⟩
  | 0, true, _, _, _, _, h => by unfold qLoop2 at h; cases h
  | f + 1, true, q, acc, l, q', h => by
    unfold qLoop2 at h
    split at h
    · cases h
    · next c q1 _ =>
      split at h
      · obtain ⟨r, e⟩ := qLoop2_pre f _ _ _ _ _ h; exact ⟨c :: r, by simp [e]⟩
      · obtain ⟨r, e⟩ := qLoop2_pre f _ _ _ _ _ h; exact ⟨c :: r, by simp [e]⟩
theorem qRules_pre : ∀ (f i : Nat) (acc l : List RA) (q' : Q), qRules s f i acc = (some l, q') → ∃ r, l = acc ++ r
  | 0, _, _, _, _, h => by unfold qRules at h; cases h
  | f + 1, i, acc, l, q', h => by
    unfold qRules at h
    split at h
    · split at h
      · cases h
      · split at h
        · cases h
        · split at h
          · cases h
          · next r _ _ => obtain ⟨r', e⟩ := qRules_pre f _ _ _ _ h; exact ⟨r :: r', by simp [e]⟩
    · cases h; exact ⟨[], by simp⟩
theorem qVars_pre : ∀ (f : Nat) (q : Q) (acc l : List VA) (q' : Q), qVars s f q acc = (some l, q') → ∃ r, l = acc ++ r
  | 0, _, _, _, _, h => by unfold qVars at h; cases h; exact ⟨[], by simp⟩
  | f + 1, q, acc, l, q', h => by
    unfold qVars at h
    split at h
    · cases h
    · next v _ _ =>
      split at h
      · split at h
        · obtain ⟨r, e⟩ := qVars_pre f _ _ _ _ h; exact ⟨v :: r, by simp [e]⟩
        · cases h; exact ⟨[v], rfl⟩
      · cases h; exact ⟨[v], rfl⟩

/-- What is left of the variables. -/
def LeftV (s : ByteArray) (va : List VA) (ra : List RA) (acc : List VA) (i : Nat) : Prop := ∃ f i0 q', f + acc.length = 3 ∧ qVars s f (.ok i) acc = (some va, .ok i0) ∧ qRules s 121 i0 [] = (some ra, q')
def LeftR (s : ByteArray) (ra acc : List RA) (i : Nat) : Prop := ∃ f q', qRules s f i acc = (some ra, q')
def LeftD (s : ByteArray) (ra acc : List RA) (cl : List (Tm × Tm)) (dl : List Chg) (i : Nat) : Prop := ∃ f ds j, qLoop2 s f true (.ok i) dl = (some ds, .ok j) ∧ LeftR s ra (acc ++ [(cl, ds)]) j
def LeftC (s : ByteArray) (ra acc : List RA) (cl : List (Tm × Tm)) (i : Nat) : Prop := ∃ f cs j k, qLoop1 s f true (.ok i) cl = (some cs, .ok j) ∧ num? s j 58 0 0 = some k ∧ LeftD s ra acc cs [] (j + 1)

theorem leftV {va : List VA} {ra : List RA} {acc : List VA} {i : Nat} (h : LeftV s va ra acc i) (hl : acc.length < 3) :
    ∃ (g a0 j : Nat) (l : List Nat), qVar s acc.length (.ok i) = (some (g, l, a0), .ok j) ∧ (g, l, a0) ∈ va ∧ va.getD acc.length (0, [], 0) = (g, l, a0) ∧ i < j ∧ j ≤ s.size ∧
      (acc.length + 1 < 3 → (∀ k, num? s j 44 0 0 = some k → LeftV s va ra (acc ++ [(g, l, a0)]) (j + 1)) ∧ (num? s j 44 0 0 = none → va.length = acc.length + 1 ∧ LeftR s ra [] j)) ∧
      (¬ acc.length + 1 < 3 → va.length = acc.length + 1 ∧ LeftR s ra [] j) := by
  obtain ⟨f, i0, q', hf, h, hr⟩ := h
  obtain ⟨f', rfl⟩ : ∃ f', f = f' + 1 := ⟨f - 1, by omega⟩
  have hpre := h
  unfold qVars at h
  split at h
  · cases h
  · next v q1 hv =>
    obtain ⟨g, l, a0⟩ := v
    obtain ⟨j, rfl, hj⟩ := qVar_some hv
    have hin : ∃ r, va = (acc ++ [(g, l, a0)]) ++ r := by
      split at h
      · split at h
        · exact qVars_pre _ _ _ _ _ h
        · cases h; exact ⟨[], by simp⟩
      · cases h; exact ⟨[], by simp⟩
    obtain ⟨r, hin⟩ := hin
    have hij : i < j := by
      obtain ⟨_, _, v, _, _, _, h4, hq⟩ := qVar_parts hv
      obtain ⟨j', e, hle, _⟩ := qFirst_ok s 4 v (i + 4) [v]
      rw [hq] at e
      cases e; omega
    refine ⟨g, a0, j, l, hv, by rw [hin]; simp, ?_, hij, hj, ?_, ?_⟩
    · rw [hin]; simp [List.getD]
    · intro h3
      rw [if_pos h3] at h
      refine ⟨fun k hk => ?_, fun hk => ?_⟩
      · have e : qNum s (.ok j) 44 0 = some k := hk
        rw [e] at h
        exact ⟨f', i0, q', by simp; omega, h, hr⟩
      · have e : qNum s (.ok j) 44 0 = none := hk
        rw [e] at h
        simp only [Prod.mk.injEq, Option.some.injEq, Except.ok.injEq] at h
        obtain ⟨rfl, rfl⟩ := h
        exact ⟨by simp, 121, q', hr⟩
    · intro h3
      rw [if_neg h3] at h
      simp only [Prod.mk.injEq, Option.some.injEq, Except.ok.injEq] at h
      obtain ⟨rfl, rfl⟩ := h
      exact ⟨by simp, 121, q', hr⟩

theorem leftR {ra acc : List RA} {i : Nat} (hs : s.size ≤ 120) (hi : i ≤ s.size) (h : LeftR s ra acc i) :
    (i = s.size ∧ ra = acc) ∨ (i < s.size ∧ acc.length ≠ 8 ∧ ∃ k, num? s i 59 0 0 = some k ∧ ((∃ k2, num? s (i + 1) 58 0 0 = some k2 ∧ LeftD s ra acc [] [] (i + 2)) ∨ (num? s (i + 1) 58 0 0 = none ∧ LeftC s ra acc [] (i + 1)))) := by
  obtain ⟨f, q', h⟩ := h
  cases f with
  | zero => unfold qRules at h; cases h
  | succ f =>
  unfold qRules at h
  by_cases hlt : i < s.size
  · rw [if_pos hlt] at h
    right
    refine ⟨hlt, ?_⟩
    by_cases h8 : acc.length = 8
    · rw [if_pos h8] at h; cases h
    rw [if_neg h8] at h
    refine ⟨h8, ?_⟩
    cases hk : num? s i 59 0 0 with
    | none => rw [hk] at h; cases h
    | some k =>
    rw [hk] at h
    simp only at h
    refine ⟨k, rfl, ?_⟩
    cases hr : qRule s (.ok (i + 1)) with
    | mk r q1 =>
    rw [hr] at h
    cases r with
    | none => cases h
    | some r =>
    simp only at h
    have hle : i + 1 ≤ s.size := hlt
    unfold qRule at hr
    cases h58 : num? s (i + 1) 58 0 0 with
    | some k2 =>
      left
      refine ⟨k2, rfl, ?_⟩
      have e : qNum s (.ok (i + 1)) 58 0 = some k2 := h58
      rw [e] at hr
      simp only [Option.isNone_some] at hr
      rw [show qLoop1 s 121 false (.ok (i + 1)) [] = (some [], .ok (i + 1)) from rfl] at hr
      simp only [e] at hr
      cases h2 : qLoop2 s 121 true (Q.adv (.ok (i + 1))) [] with
      | mk r2 q2 =>
      rw [h2] at hr
      cases r2 with
      | none => cases hr
      | some ds =>
      simp only [Prod.mk.injEq, Option.some.injEq] at hr
      obtain ⟨rfl, rfl⟩ := hr
      rcases qLoop2_ok 121 true (i + 1 + 1) [] (num_lt h58) (by omega) h2 with ⟨h', _⟩ | ⟨l, j, h', rfl, _, _⟩
      · cases h'
      · cases h'
        exact ⟨121, _, j, h2, f, q', h⟩
    | none =>
      right
      refine ⟨rfl, ?_⟩
      have e : qNum s (.ok (i + 1)) 58 0 = none := h58
      rw [e] at hr
      simp only [Option.isNone_none] at hr
      cases h1 : qLoop1 s 121 true (.ok (i + 1)) [] with
      | mk r1 q2 =>
      rw [h1] at hr
      cases r1 with
      | none => cases hr
      | some cs =>
      rcases qLoop1_ok 121 true (i + 1) [] hle (by omega) h1 with ⟨h', _⟩ | ⟨l, j, h', rfl, _, hj⟩
      · cases h'
      cases h'
      simp only at hr
      cases hk2 : qNum s (.ok j) 58 0 with
      | none => rw [hk2] at hr; cases hr
      | some k2 =>
      rw [hk2] at hr
      simp only at hr
      have hk2' : num? s j 58 0 0 = some k2 := hk2
      cases h2 : qLoop2 s 121 true (Q.adv (.ok j)) [] with
      | mk r2 q2 =>
      rw [h2] at hr
      cases r2 with
      | none => cases hr
      | some ds =>
      simp only [Prod.mk.injEq, Option.some.injEq] at hr
      obtain ⟨rfl, rfl⟩ := hr
      have hlj := num_lt hk2'
      rcases qLoop2_ok 121 true (j + 1) [] hlj (by omega) h2 with ⟨h', _⟩ | ⟨l2, j2, h', rfl, _, _⟩
      · cases h'
      · cases h'
        exact ⟨121, _, j, k2, h1, hk2', 121, _, j2, h2, f, q', h⟩
  · rw [if_neg hlt] at h
    cases h
    exact .inl ⟨by omega, rfl⟩

theorem leftC {ra acc : List RA} {cl : List (Tm × Tm)} {i : Nat} (h : LeftC s ra acc cl i) :
    ∃ c, qCond s (.ok i) = (some c, .ok (i + 3)) ∧ i + 3 ≤ s.size ∧ (∃ r ∈ ra, c ∈ r.1) ∧ (∀ k, num? s (i + 3) 38 0 0 = some k → LeftC s ra acc (cl ++ [c]) (i + 4)) ∧
      (num? s (i + 3) 38 0 0 = none → ∃ k, num? s (i + 3) 58 0 0 = some k ∧ LeftD s ra acc (cl ++ [c]) [] (i + 4)) := by
  obtain ⟨f, cs, j, k, h, hk, hD⟩ := h
  cases f with
  | zero => unfold qLoop1 at h; cases h
  | succ f =>
  have hin : ∃ r ∈ ra, r.1 = cs := by
    obtain ⟨f', ds, j', _, f'', q'', hr⟩ := hD
    obtain ⟨r, e⟩ := qRules_pre _ _ _ _ _ hr
    exact ⟨(cs, ds), by rw [e]; simp, rfl⟩
  unfold qLoop1 at h
  cases hc : qCond s (.ok i) with
  | mk r q1 =>
  rw [hc] at h
  cases r with
  | none => cases h
  | some c =>
  obtain ⟨rfl, hle⟩ := qCond_ok hc
  simp only at h
  have hcin : c ∈ cs := by
    split at h
    · obtain ⟨r, e⟩ := qLoop1_pre _ _ _ _ _ _ h; rw [e]; simp
    · obtain ⟨r, e⟩ := qLoop1_pre _ _ _ _ _ _ h; rw [e]; simp
  obtain ⟨r, hr1, hr2⟩ := hin
  refine ⟨c, rfl, hle, ⟨r, hr1, by rw [hr2]; exact hcin⟩, fun k' hk' => ?_, fun hk' => ?_⟩
  · have e : qNum s (.ok (i + 3)) 38 0 = some k' := hk'
    rw [e] at h
    exact ⟨f, cs, j, k, h, hk, hD⟩
  · have e : qNum s (.ok (i + 3)) 38 0 = none := hk'
    rw [e] at h
    have e2 : qLoop1 s f false (.ok (i + 3)) (cl ++ [c]) = (some (cl ++ [c]), .ok (i + 3)) := by cases f <;> rfl
    simp only [e2, Prod.mk.injEq, Option.some.injEq, Except.ok.injEq] at h
    obtain ⟨rfl, rfl⟩ := h
    exact ⟨k, hk, hD⟩

theorem leftD {ra acc : List RA} {cl : List (Tm × Tm)} {dl : List Chg} {i : Nat} (h : LeftD s ra acc cl dl i) :
    ∃ (d : Chg) (j : Nat), qChange s (.ok i) = (some d, .ok j) ∧ i < j ∧ j ≤ s.size ∧ (∃ r ∈ ra, ∃ e, r.2 = dl ++ d :: e) ∧ (∀ k, num? s j 44 0 0 = some k → LeftD s ra acc cl (dl ++ [d]) (j + 1)) ∧
      (num? s j 44 0 0 = none → LeftR s ra (acc ++ [(cl, dl ++ [d])]) j) := by
  obtain ⟨f, ds, j0, h, hR⟩ := h
  cases f with
  | zero => unfold qLoop2 at h; cases h
  | succ f =>
  have hin : ∃ r ∈ ra, r.2 = ds := by
    obtain ⟨f'', q'', hr⟩ := hR
    obtain ⟨r, e⟩ := qRules_pre _ _ _ _ _ hr
    exact ⟨(cl, ds), by rw [e]; simp, rfl⟩
  unfold qLoop2 at h
  cases hc : qChange s (.ok i) with
  | mk r q1 =>
  rw [hc] at h
  cases r with
  | none => cases h
  | some c =>
  obtain ⟨j, rfl, hij, hle⟩ := qChange_ok hc
  simp only at h
  have hcin : ∃ e, ds = dl ++ c :: e := by
    split at h
    · obtain ⟨r, e⟩ := qLoop2_pre _ _ _ _ _ _ h; exact ⟨r, by rw [e]; simp⟩
    · obtain ⟨r, e⟩ := qLoop2_pre _ _ _ _ _ _ h; exact ⟨r, by rw [e]; simp⟩
  obtain ⟨r, hr1, hr2⟩ := hin
  refine ⟨c, j, rfl, hij, hle, ⟨r, hr1, by rw [hr2]; exact hcin⟩, fun k' hk' => ?_, fun hk' => ?_⟩
  · have e : qNum s (.ok j) 44 0 = some k' := hk'
    rw [e] at h
    exact ⟨f, ds, j0, h, hR⟩
  · have e : qNum s (.ok j) 44 0 = none := hk'
    rw [e] at h
    have e2 : qLoop2 s f false (.ok j) (dl ++ [c]) = (some (dl ++ [c]), .ok j) := by cases f <;> rfl
    simp only [e2, Prod.mk.injEq, Option.some.injEq, Except.ok.injEq] at h
    obtain ⟨rfl, rfl⟩ := h
    exact hR

/-- A good model of these variables and rules. -/
structure GoodA (va : List VA) (ra : List RA) : Prop where
  v : ∀ v ∈ va, (1 ≤ v.1 ∧ v.1 ≤ 3) ∧ ∀ y ∈ v.2.1, y ≤ v.1
  l1 : 1 ≤ va.length
  l3 : va.length ≤ 3
  c : ∀ r ∈ ra, ∀ c ∈ r.1, c.1.1 < (va.length : Int) ∧ c.2.1 < (va.length : Int)
  d : ∀ r ∈ ra, ∀ c ∈ r.2, 0 ≤ c.1 ∧ c.1 < (va.length : Int) ∧ c.2.2.2.1 < (va.length : Int)
  n : ∀ r ∈ ra, (r.2.map Prod.fst).Nodup
theorem goodA {va : List VA} {ra : List RA} {q' : Q} (h : qRead s = (some (va, ra), q')) (hw : (wrongP va ra).1 = 0) : GoodA va ra := by
  obtain ⟨hv, h1, h3, hr⟩ := qRead_all h
  obtain ⟨w1, w2⟩ := wrong_none hw
  have a := wv_none w1
  have b := wr_none w2
  refine ⟨fun v hv' => ⟨⟨(hv v hv').1, (hv v hv').2.1⟩, a v hv'⟩, h1, h3, fun r hr' => wc_none (hr r hr').1 (b r hr').1, fun r hr' c hc => ?_, fun r hr' => (wd_none (b r hr').2).2⟩
  have p := (hr r hr').2 c hc
  have q := (wd_none (b r hr').2).1 c hc
  refine ⟨p.1, q.1, ?_⟩
  cases hb : c.2.2.1 with
  | true => rw [p.2.2.2.2.2.2 hb]; omega
  | false => exact q.2.1 hb
theorem qVars_notbad : ∀ (f i : Nat) (acc l : List VA) (p : Nat), qVars s f (.ok i) acc ≠ (some l, .error p)
  | 0, _, _, _, _, h => by unfold qVars at h; cases h
  | f + 1, i, acc, l, p, h => by
    unfold qVars at h
    split at h
    · cases h
    · next v q1 hv =>
      obtain ⟨j, rfl, _⟩ := qVar_some hv
      split at h
      · split at h
        · exact qVars_notbad f _ _ _ _ h
        · cases h
      · cases h
theorem leftV0 {va : List VA} {ra : List RA} {q' : Q} (h : qRead s = (some (va, ra), q')) : LeftV s va ra [] 0 := by
  unfold qRead at h
  cases hv : qVars s 3 (.ok 0) [] with
  | mk r q =>
  rw [hv] at h
  cases r with
  | none => cases h
  | some vs =>
  simp only at h
  cases hr : qRules s 121 q.pos [] with
  | mk r2 q2 =>
  rw [hr] at h
  cases r2 with
  | none => cases h
  | some rs =>
  simp only [Prod.mk.injEq, Option.some.injEq] at h
  obtain ⟨⟨rfl, rfl⟩, rfl⟩ := h
  cases q with
  | ok i => exact ⟨3, i, q2, rfl, hv, hr⟩
  | error p =>
    exfalso
    exact qVars_notbad 3 0 [] _ _ hv
end
end Go.Proofs.YtcnhhclogbjedaaDoor
