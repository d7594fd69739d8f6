/- The code's reader: the whole model. Our own text. -/
import Derived.Test.YtcnhhclogbjedaaDoorChange
import Derived.Test.YtcnhhclogbjedaaDoorVar
namespace Go.Proofs.YtcnhhclogbjedaaDoor
open Go.RowKit

def pRun (s : ByteArray) : Nat → Nat → T → Nat × Nat
  | 0, _, t => (2, t.at_)
  | f + 1, 1, t => match pVar s t with
    | (false, t') => (2, t'.at_)
    | (true, t') => if t'.n < 3 then (match num? s t'.at_ 44 0 0 with
        | some _ => pRun s f 1 t'.adv
        | none => pRun s f 2 t') else pRun s f 2 t'
  | f + 1, 2, t => if t.at_ = s.size then (t.flt, t.plc) else if t.nr = 8 then (2, t.at_) else match num? s t.at_ 59 0 0 with
    | none => (2, t.at_)
    | some _ => match num? s t.adv.at_ 58 0 0 with
      | some _ => pRun s f 3 t.adv.adv
      | none => pRun s f 4 t.adv
  | f + 1, 3, t => match pChange s t with
    | (false, t') => (2, t'.at_)
    | (true, t') => match num? s t'.at_ 44 0 0 with
      | some _ => pRun s f 3 t'.adv
      | none => pRun s f 2 { t' with nr := t'.nr + 1, chd := 0 }
  | f + 1, 4, t => match pCond s t with
    | (false, t') => (2, t'.at_)
    | (true, t') => match num? s t'.at_ 38 0 0 with
      | some _ => pRun s f 4 t'.adv
      | none => match num? s t'.at_ 58 0 0 with
        | none => (2, t'.at_)
        | some _ => pRun s f 3 t'.adv
  | _ + 1, _, t => (2, t.at_)

theorem pRun_2 (s : ByteArray) (f : Nat) (t : T) : pRun s (f + 1) 2 t = if t.at_ = s.size then (t.flt, t.plc) else if t.nr = 8 then (2, t.at_) else match num? s t.at_ 59 0 0 with
    | none => (2, t.at_)
    | some _ => match num? s t.adv.at_ 58 0 0 with
      | some _ => pRun s f 3 t.adv.adv
      | none => pRun s f 4 t.adv := by rw [pRun]
theorem pCond_same {s : ByteArray} {t t' : T} {b : Bool} (h : pCond s t = (b, t')) (ht : t.at_ ≤ s.size) : t.at_ ≤ t'.at_ ∧ t'.n = t.n ∧ t'.nr = t.nr ∧ t'.chd = t.chd ∧ t'.at_ ≤ s.size ∧ (b = true → t.at_ < t'.at_) := by
  unfold pCond at h
  split at h
  · cases h; exact ⟨Nat.le_refl _, rfl, rfl, rfl, ht, fun h => by cases h⟩
  · next t1 e1 =>
    have s1 := pTerm_same e1
    have l1 := pTerm_lt e1
    split at h
    · cases h; exact ⟨by omega, s1.2.1, s1.2.2.1, s1.2.2.2, l1, fun h => by cases h⟩
    · next t2 e2 =>
      obtain ⟨rfl, l2⟩ := pCmp_same e2
      have n2 : t1.adv.at_ = t1.at_ + 1 := rfl
      split at h
      · cases h; exact ⟨by omega, s1.2.1, s1.2.2.1, s1.2.2.2, by omega, fun h => by cases h⟩
      · next t3 e3 =>
        have s3 := pTerm_same e3
        have l3 := pTerm_lt e3
        cases h
        exact ⟨by omega, s3.2.1.trans s1.2.1, s3.2.2.1.trans s1.2.2.1, s3.2.2.2.trans s1.2.2.2, l3, fun _ => by omega⟩
theorem or_lt8 : ∀ c : Nat, c < 8 → ∀ k : Nat, k < 3 → c ||| 2 ^ k < 8 := by decide
theorem pChange_same {s : ByteArray} {t t' : T} {b : Bool} (h : pChange s t = (b, t')) (ht : t.at_ ≤ s.size) (hc : t.chd < 8) : t.at_ ≤ t'.at_ ∧ t'.n = t.n ∧ t'.nr = t.nr ∧ t'.chd < 8 ∧ t'.at_ ≤ s.size ∧ (b = true → t.at_ < t'.at_) := by
  unfold pChange at h
  split at h
  · cases h; exact ⟨Nat.le_refl _, rfl, rfl, hc, ht, fun h => by cases h⟩
  · next k e1 =>
    have l1 := num_lt e1
    have k2 := (num_le e1).2
    have s1 := named_same t k
    have s2 := marked_same (t.named k) k
    have c2 := or_lt8 t.chd hc k (by omega)
    rw [← s1.2.2.2, ← s2.2.2.2] at c2
    generalize (t.named k).marked k = t2 at *
    split at h
    · cases h; exact ⟨by omega, s2.2.1.trans s1.2.1, s2.2.2.1.trans s1.2.2.1, c2, by omega, fun h => by cases h⟩
    · next e2 =>
      have l2 := num_lt e2
      have s3 := pTo_same h
      have n2 : t2.adv.at_ = t2.at_ + 1 := rfl
      have n3 : t2.adv.n = t2.n := rfl
      have n4 : t2.adv.nr = t2.nr := rfl
      have n5 : t2.adv.chd = t2.chd := rfl
      exact ⟨by omega, by omega, by omega, by omega, s3.2.2.2.2 (by omega), fun _ => by omega⟩

theorem frame55 (a : Act) (p0 : Value) (h : a.tmps.size = 55) (hd : a.defers = []) (h0 : a.tmps.getD 0 undef = p0) : ∃ u : Nat → Value, a = { tmps := #[p0, u 1, u 2, u 3, u 4, u 5, u 6, u 7, u 8, u 9, u 10, u 11, u 12, u 13, u 14, u 15, u 16, u 17, u 18, u 19, u 20, u 21, u 22, u 23, u 24, u 25, u 26, u 27, u 28, u 29, u 30, u 31, u 32, u 33, u 34, u 35, u 36, u 37, u 38, u 39, u 40, u 41, u 42, u 43, u 44, u 45, u 46, u 47, u 48, u 49, u 50, u 51, u 52, u 53, u 54], defers := [] } := by
  obtain ⟨x, d⟩ := a
  refine ⟨fun i => x.getD i undef, ?_⟩
  simp only at h hd h0
  subst hd h0
  have := frame_of x 55 h
  exact congrArg (fun y => Act.mk y []) this
theorem owned_slice {w : World} {b e z n : Nat} {v : Value} {xs : List Value} (h : w.ownsRow b e z v n xs) : ∃ ao cap, v = .slice ao n cap := by
  rcases h.2 with ⟨rfl, rfl⟩ | ⟨g, cap, _, rfl, _⟩
  · exact ⟨none, 0, rfl⟩
  · exact ⟨_, _, rfl⟩

/-- What holds at the labels of 'model'. -/
def JM (B : Nat) (s : ByteArray) (w : World) (R : Nat × Nat) (l m : Nat) (a : Act) (w' : World) : Prop :=
  (a.tmps.size = 55 ∧ a.defers = [] ∧ a.tmps.getD 0 undef = .pointer (some ⟨B, 0, none⟩)) ∧ ∃ t : T, Fin B s t w w' ∧
  ((l = 0 ∧ m = 0 ∧ R = (2, t.at_)) ∨
   (t.at_ ≤ s.size ∧ s.size + 1 ≤ t.at_ + m ∧ t.chd < 8 ∧ R = pRun s m l t ∧
    ((l = 1 ∧ t.n < 3 ∧ t.nr ≤ 8) ∨ (l = 2 ∧ t.nr ≤ 8) ∨ (l = 3 ∧ t.nr < 8) ∨ (l = 4 ∧ t.nr < 8))))

section
variable {B : Nat} {s : ByteArray} {t : T} {x : Junk} {w : World}
theorem Fin.drewN {B : Nat} {s : ByteArray} {t : T} {w w' : World} (h : Fin B s t w w') (n : Nat) : Fin B s t w (w'.drewN n) := by
  obtain ⟨x, h1, h2, h3⟩ := h
  exact ⟨x, h1.drewN n, h2.ex ((Ex.refl B w').drewN n) (Nat.le_refl _) rfl, below_drewN h3 n⟩
theorem Fin.trans {B : Nat} {s : ByteArray} {t : T} {w w1 w2 : World} (h1 : Below B w w1) (h2 : Fin B s t w1 w2) : Fin B s t w w2 := by
  obtain ⟨x, a, b, c⟩ := h2; exact ⟨x, a, b, h1.trans c⟩
theorem Fin.thin {B : Nat} {s : ByteArray} {t t' : T} {x : Junk} {w w1 w2 : World} (h1 : Below B w w1) (hR : Rows3 B t x w1) (hb : RB B s t' x w2) (hx : Ex B w1 w2) (hB : B < w1.heap.size) (ha : t.at_ ≤ t'.at_) (hr : t'.nr = t.nr) : Fin B s t' w w2 :=
  Fin.trans h1 (Fin.of_ex hR hb hx hB ha hr)

set_option maxRecDepth 100000 in
set_option maxHeartbeats 1600000 in
theorem model_any {R : Nat × Nat} (hs : s.size ≤ 120) (hat : t.at_ ≤ s.size) (hn : t.n < 3) (hnr : t.nr ≤ 8) (hcd : t.chd < 8) (hb : RB B s t x w) (hR : Rows3 B t x w) (hp : R = pRun s (s.size + 1) 1 t) :
    Calls Tryd.prog 27 #[.pointer (some ⟨B, 0, none⟩)] w fun e w' => ∃ b t', e = .returned (.bool b) ∧ Fin B s t' w w' ∧ R = if b then (t'.flt, t'.plc) else (2, t'.at_) := by
  go_enter Tryd.func27, Tryd.ntmps27
  go_wp2_with fail
  refine wp_scope_rest (JM B s w R) ?hf ?pass ?first
  case hf =>
    rintro l m a w' ⟨_, t1, _, (⟨rfl, _⟩ | ⟨_, _, _, _, (⟨rfl, _⟩ | ⟨rfl, _⟩ | ⟨rfl, _⟩ | ⟨rfl, _⟩)⟩)⟩
    · rfl
    · rfl
    · rfl
    · rfl
    · rfl
  case first =>
    intro ih
    go_wp2
    apply wp_label
    rename_i hK
    exact hK _ _ (ih 1 _ _ ⟨s.size + 1, ⟨rfl, rfl, rfl⟩, t, ⟨x, hb, hR, Below.refl _ _⟩, .inr ⟨hat, by omega, hcd, hp, .inl ⟨rfl, hn, hnr⟩⟩⟩)
  case pass =>
    clear hp hR hb hat hn hnr hcd
    rintro m ih l a w' ⟨⟨fz, fd, f0⟩, t1, hF, (⟨rfl, rfl, hRr⟩ | ⟨hat, hm, hcd, hRr, (⟨rfl, hn, hnr⟩ | ⟨rfl, hnr⟩ | ⟨rfl, hnr⟩ | ⟨rfl, hnr⟩)⟩)⟩
    all_goals obtain ⟨u, rfl⟩ := frame55 a _ fz fd f0
    all_goals clear fz fd f0
    · show Code.wp Tryd.prog (.seq (.region _ _ _) .ret) _ _ _
      go_wp2
      rw [jumps_ret]
      go_ret
      exact ⟨false, t1, rfl, hF, hRr⟩
    all_goals
      obtain ⟨m', rfl⟩ : ∃ m', m = m' + 1 := ⟨m - 1, by omega⟩
      first | rw [pRun_2] at hRr | unfold pRun at hRr
      obtain ⟨x1, hb1, hR1, hl1⟩ := hF
      have hB1 := hb1.lt
    · show Code.wp Tryd.prog (.seq _ _) _ _ _
      cases hv : pVar s t1 with
      | mk b t2 =>
        have sv := pVar_same hv hat
        cases b with
        | false =>
          simp only [hv] at hRr
          go_wp2_with fail
          refine (var_any hs hat hn hb1 hR1 hv).mono ?_; rintro e w1 ⟨rfl, hF2⟩
          go_wp2
          go_step3
          show ∃ m'', m'' < m' + 1 ∧ JM B s w R 0 m'' _ w1
          exact ⟨0, Nat.succ_pos _, ⟨rfl, rfl, rfl⟩, t2, Fin.trans hl1 hF2, .inl ⟨rfl, rfl, hRr⟩⟩
        | true =>
          have s5 := sv.2.2.2.2 rfl
          simp only [hv] at hRr
          by_cases hn3 : t2.n < 3
          · rw [if_pos hn3] at hRr
            have hn3' : (t2.n : Int) < 3 := by omega
            cases h1 : num? s t2.at_ 44 0 0 with
            | some k =>
              simp only [h1] at hRr
              go_wp2_with fail
              refine (var_any hs hat hn hb1 hR1 hv).mono ?_; rintro e w1 ⟨rfl, x2, hb2, hR2, hl2⟩
              have c8 := hb2.c8
              go_wp2_with fail
              refine (take_yes 44 k hs (by omega) hb2 h1).mono ?_; rintro e w2 ⟨rfl, hb3, hx3⟩
              clear c8
              go_wp2
              go_step3
              show ∃ m'', m'' < m' + 1 ∧ JM B s w R 1 m'' _ w2
              exact ⟨m', Nat.lt_succ_self _, ⟨rfl, rfl, rfl⟩, t2.adv, Fin.thin (hl1.trans hl2) hR2 hb3 hx3 hb2.lt (Nat.le_succ _) rfl, .inr ⟨num_lt h1, by show s.size + 1 ≤ t2.at_ + 1 + m'; omega, by show t2.chd < 8; omega, hRr, .inl ⟨rfl, hn3, by show t2.nr ≤ 8; omega⟩⟩⟩
            | none =>
              simp only [h1] at hRr
              go_wp2_with fail
              refine (var_any hs hat hn hb1 hR1 hv).mono ?_; rintro e w1 ⟨rfl, x2, hb2, hR2, hl2⟩
              have c8 := hb2.c8
              go_wp2_with fail
              refine (take_no 44 hs sv.2.2.2.1 (by omega) hb2 h1).mono ?_; rintro e w2 ⟨rfl, hb3, hx3⟩
              clear c8
              go_wp2
              apply wp_label
              first | (rename_i hK; exact hK _ _ (ih 2 _ _ ⟨m', Nat.lt_succ_self _, ⟨rfl, rfl, rfl⟩, t2, Fin.thin (hl1.trans hl2) hR2 hb3 hx3 hb2.lt (Nat.le_refl _) rfl, .inr ⟨sv.2.2.2.1, by omega, by omega, hRr, .inr (.inl ⟨rfl, by omega⟩)⟩⟩)) | (rename_i hK _; exact hK _ _ (ih 2 _ _ ⟨m', Nat.lt_succ_self _, ⟨rfl, rfl, rfl⟩, t2, Fin.thin (hl1.trans hl2) hR2 hb3 hx3 hb2.lt (Nat.le_refl _) rfl, .inr ⟨sv.2.2.2.1, by omega, by omega, hRr, .inr (.inl ⟨rfl, by omega⟩)⟩⟩)) | (rename_i hK _ _; exact hK _ _ (ih 2 _ _ ⟨m', Nat.lt_succ_self _, ⟨rfl, rfl, rfl⟩, t2, Fin.thin (hl1.trans hl2) hR2 hb3 hx3 hb2.lt (Nat.le_refl _) rfl, .inr ⟨sv.2.2.2.1, by omega, by omega, hRr, .inr (.inl ⟨rfl, by omega⟩)⟩⟩))
          · rw [if_neg hn3] at hRr
            have hn3' : ¬ (t2.n : Int) < 3 := by omega
            go_wp2_with fail
            refine (var_any hs hat hn hb1 hR1 hv).mono ?_; rintro e w1 ⟨rfl, x2, hb2, hR2, hl2⟩
            have c8 := hb2.c8
            go_wp2
            apply wp_label
            first | (rename_i hK; exact hK _ _ (ih 2 _ _ ⟨m', Nat.lt_succ_self _, ⟨rfl, rfl, rfl⟩, t2, ⟨x2, hb2, hR2, hl1.trans hl2⟩, .inr ⟨sv.2.2.2.1, by omega, by omega, hRr, .inr (.inl ⟨rfl, by omega⟩)⟩⟩)) | (rename_i hK _; exact hK _ _ (ih 2 _ _ ⟨m', Nat.lt_succ_self _, ⟨rfl, rfl, rfl⟩, t2, ⟨x2, hb2, hR2, hl1.trans hl2⟩, .inr ⟨sv.2.2.2.1, by omega, by omega, hRr, .inr (.inl ⟨rfl, by omega⟩)⟩⟩)) | (rename_i hK _ _; exact hK _ _ (ih 2 _ _ ⟨m', Nat.lt_succ_self _, ⟨rfl, rfl, rfl⟩, t2, ⟨x2, hb2, hR2, hl1.trans hl2⟩, .inr ⟨sv.2.2.2.1, by omega, by omega, hRr, .inr (.inl ⟨rfl, by omega⟩)⟩⟩))
    · show Code.wp Tryd.prog (.seq _ _) _ _ _
      obtain ⟨ao, cap, hvr⟩ : ∃ ao cap, x1.vr = .slice ao t1.nr cap := by obtain ⟨xs, h⟩ := hR1.r; exact owned_slice h
      have c0 := hb1.c0
      have c1 := hb1.c1
      have c9 := hb1.c9
      rw [hvr] at c9
      by_cases he : t1.at_ = s.size
      · rw [if_pos he] at hRr
        rw [he] at c1
        have HF : Hid (Fin B s t1 w w') := ⟨x1, hb1, hR1, hl1⟩
        clear hb1 hR1 hl1 hvr ih
        go_wp2
        go_quiet (fail)
        go_wp2
        rw [jumps_ret]
        go_ret
        exact ⟨true, t1, rfl, HF.out.drewN _, hRr⟩
      · rw [if_neg he] at hRr
        have he' : ((t1.at_ : Int) == (s.size : Int)) = false := by simp; omega
        by_cases h8 : t1.nr = 8
        · rw [if_pos h8] at hRr
          rw [h8] at c9
          have HF : Hid (Fin B s t1 w w') := ⟨x1, hb1, hR1, hl1⟩
          clear hb1 hR1 hl1 hvr ih
          go_wp2
          go_quiet (fail)
          go_wp2
          go_step3
          show ∃ m'', m'' < m' + 1 ∧ JM B s w R 0 m'' _ _
          exact ⟨0, Nat.succ_pos _, ⟨rfl, rfl, rfl⟩, t1, HF.out.drewN _, .inl ⟨rfl, rfl, hRr⟩⟩
        · rw [if_neg h8] at hRr
          have h8' : ((t1.nr : Int) == 8) = false := by simp; omega
          cases h1 : num? s t1.at_ 59 0 0 with
          | none =>
            simp only [h1] at hRr
            go_wp2
            go_quiet (fail)
            go_wp2_with fail
            refine (take_no 59 hs hat (by omega) (hb1.drewN _) h1).mono ?_; rintro e w2 ⟨rfl, hb2, hx2⟩
            go_wp2
            go_step3
            show ∃ m'', m'' < m' + 1 ∧ JM B s w R 0 m'' _ _
            exact ⟨0, Nat.succ_pos _, ⟨rfl, rfl, rfl⟩, t1, Fin.thin hl1 hR1 hb2 (((Ex.refl B w').drewN _).trans hx2) hB1 (Nat.le_refl _) rfl, .inl ⟨rfl, rfl, hRr⟩⟩
          | some k1 =>
            simp only [h1] at hRr
            have l1 : t1.adv.at_ ≤ s.size := num_lt h1
            have n1 : t1.adv.at_ = t1.at_ + 1 := rfl
            cases h2 : num? s t1.adv.at_ 58 0 0 with
            | some k2 =>
              simp only [h2] at hRr
              go_wp2
              go_quiet (fail)
              go_wp2_with fail
              refine (take_yes 59 k1 hs (by omega) (hb1.drewN _) h1).mono ?_; rintro e w2 ⟨rfl, hb2, hx2⟩
              go_wp2_with fail
              refine (take_yes 58 k2 hs (by omega) hb2 h2).mono ?_; rintro e w3 ⟨rfl, hb3, hx3⟩
              go_wp2
              go_step3
              show ∃ m'', m'' < m' + 1 ∧ JM B s w R 3 m'' _ _
              exact ⟨m', Nat.lt_succ_self _, ⟨rfl, rfl, rfl⟩, t1.adv.adv, Fin.thin hl1 hR1 hb3 ((((Ex.refl B w').drewN _).trans hx2).trans hx3) hB1 (by show t1.at_ ≤ t1.at_ + 1 + 1; omega) rfl, .inr ⟨num_lt h2, by show s.size + 1 ≤ t1.at_ + 1 + 1 + m'; omega, hcd, hRr, .inr (.inr (.inl ⟨rfl, by show t1.nr < 8; omega⟩))⟩⟩
            | none =>
              simp only [h2] at hRr
              go_wp2
              go_quiet (fail)
              go_wp2_with fail
              refine (take_yes 59 k1 hs (by omega) (hb1.drewN _) h1).mono ?_; rintro e w2 ⟨rfl, hb2, hx2⟩
              go_wp2_with fail
              refine (take_no 58 hs l1 (by omega) hb2 h2).mono ?_; rintro e w3 ⟨rfl, hb3, hx3⟩
              go_wp2
              apply wp_label
              first | (rename_i hK; exact hK _ _ (ih 4 _ _ ⟨m', Nat.lt_succ_self _, ⟨rfl, rfl, rfl⟩, t1.adv, Fin.thin hl1 hR1 hb3 ((((Ex.refl B w').drewN _).trans hx2).trans hx3) hB1 (by omega) rfl, .inr ⟨l1, by omega, hcd, hRr, .inr (.inr (.inr ⟨rfl, by show t1.nr < 8; omega⟩))⟩⟩)) | (rename_i hK _; exact hK _ _ (ih 4 _ _ ⟨m', Nat.lt_succ_self _, ⟨rfl, rfl, rfl⟩, t1.adv, Fin.thin hl1 hR1 hb3 ((((Ex.refl B w').drewN _).trans hx2).trans hx3) hB1 (by omega) rfl, .inr ⟨l1, by omega, hcd, hRr, .inr (.inr (.inr ⟨rfl, by show t1.nr < 8; omega⟩))⟩⟩)) | (rename_i hK _ _; exact hK _ _ (ih 4 _ _ ⟨m', Nat.lt_succ_self _, ⟨rfl, rfl, rfl⟩, t1.adv, Fin.thin hl1 hR1 hb3 ((((Ex.refl B w').drewN _).trans hx2).trans hx3) hB1 (by omega) rfl, .inr ⟨l1, by omega, hcd, hRr, .inr (.inr (.inr ⟨rfl, by show t1.nr < 8; omega⟩))⟩⟩))
    · show Code.wp Tryd.prog (.seq _ _) _ _ _
      cases hv : pChange s t1 with
      | mk b t2 =>
        have sv := pChange_same hv hat hcd
        cases b with
        | false =>
          simp only [hv] at hRr
          go_wp2_with fail
          refine (change_name hs hat hcd hb1 hR1 hv).mono ?_; rintro e w1 ⟨rfl, hF2⟩
          go_wp2
          go_step3
          show ∃ m'', m'' < m' + 1 ∧ JM B s w R 0 m'' _ w1
          exact ⟨0, Nat.succ_pos _, ⟨rfl, rfl, rfl⟩, t2, Fin.trans hl1 hF2, .inl ⟨rfl, rfl, hRr⟩⟩
        | true =>
          have s5 := sv.2.2.2.2.2 rfl
          simp only [hv] at hRr
          cases h1 : num? s t2.at_ 44 0 0 with
          | some k =>
            simp only [h1] at hRr
            go_wp2_with fail
            refine (change_name hs hat hcd hb1 hR1 hv).mono ?_; rintro e w1 ⟨rfl, x2, hb2, hR2, hl2⟩
            go_wp2_with fail
            refine (take_yes 44 k hs (by omega) hb2 h1).mono ?_; rintro e w2 ⟨rfl, hb3, hx3⟩
            go_wp2
            go_step3
            show ∃ m'', m'' < m' + 1 ∧ JM B s w R 3 m'' _ w2
            exact ⟨m', Nat.lt_succ_self _, ⟨rfl, rfl, rfl⟩, t2.adv, Fin.thin (hl1.trans hl2) hR2 hb3 hx3 hb2.lt (Nat.le_succ _) rfl, .inr ⟨num_lt h1, by show s.size + 1 ≤ t2.at_ + 1 + m'; omega, sv.2.2.2.1, hRr, .inr (.inr (.inl ⟨rfl, by show t2.nr < 8; omega⟩))⟩⟩
          | none =>
            simp only [h1] at hRr
            go_wp2_with fail
            refine (change_name hs hat hcd hb1 hR1 hv).mono ?_; rintro e w1 ⟨rfl, x2, hb2, hR2, hl2⟩
            go_wp2_with fail
            refine (take_no 44 hs sv.2.2.2.2.1 (by omega) hb2 h1).mono ?_; rintro e w2 ⟨rfl, hb3, hx3⟩
            go_wp2_with fail
            refine (end_any (by omega) (by omega) hb3 (hR2.ex hx3 (Nat.le_refl _) rfl)).mono ?_; rintro e w3 ⟨rfl, hF3⟩
            go_wp2
            go_step3
            show ∃ m'', m'' < m' + 1 ∧ JM B s w R 2 m'' _ w3
            exact ⟨m', Nat.lt_succ_self _, ⟨rfl, rfl, rfl⟩, { t2 with nr := t2.nr + 1, chd := 0 }, Fin.trans ((hl1.trans hl2).trans (hx3.below (Nat.le_refl _) (by have := hb2.lt; omega))) hF3, .inr ⟨sv.2.2.2.2.1, by show s.size + 1 ≤ t2.at_ + m'; omega, by show 0 < 8; omega, hRr, .inr (.inl ⟨rfl, by show t2.nr + 1 ≤ 8; omega⟩)⟩⟩
    · show Code.wp Tryd.prog (.seq _ _) _ _ _
      cases hv : pCond s t1 with
      | mk b t2 =>
        have sv := pCond_same hv hat
        cases b with
        | false =>
          simp only [hv] at hRr
          go_wp2_with fail
          refine (cond_any hs hat hb1 hR1 hv).mono ?_; rintro e w1 ⟨rfl, hF2⟩
          go_wp2
          go_step3
          show ∃ m'', m'' < m' + 1 ∧ JM B s w R 0 m'' _ w1
          exact ⟨0, Nat.succ_pos _, ⟨rfl, rfl, rfl⟩, t2, Fin.trans hl1 hF2, .inl ⟨rfl, rfl, hRr⟩⟩
        | true =>
          have s5 := sv.2.2.2.2.2 rfl
          simp only [hv] at hRr
          cases h1 : num? s t2.at_ 38 0 0 with
          | some k =>
            simp only [h1] at hRr
            go_wp2_with fail
            refine (cond_any hs hat hb1 hR1 hv).mono ?_; rintro e w1 ⟨rfl, x2, hb2, hR2, hl2⟩
            go_wp2_with fail
            refine (take_yes 38 k hs (by omega) hb2 h1).mono ?_; rintro e w2 ⟨rfl, hb3, hx3⟩
            go_wp2
            go_step3
            show ∃ m'', m'' < m' + 1 ∧ JM B s w R 4 m'' _ w2
            exact ⟨m', Nat.lt_succ_self _, ⟨rfl, rfl, rfl⟩, t2.adv, Fin.thin (hl1.trans hl2) hR2 hb3 hx3 hb2.lt (Nat.le_succ _) rfl, .inr ⟨num_lt h1, by show s.size + 1 ≤ t2.at_ + 1 + m'; omega, by show t2.chd < 8; omega, hRr, .inr (.inr (.inr ⟨rfl, by show t2.nr < 8; omega⟩))⟩⟩
          | none =>
            simp only [h1] at hRr
            cases h2 : num? s t2.at_ 58 0 0 with
            | none =>
              simp only [h2] at hRr
              go_wp2_with fail
              refine (cond_any hs hat hb1 hR1 hv).mono ?_; rintro e w1 ⟨rfl, x2, hb2, hR2, hl2⟩
              go_wp2_with fail
              refine (take_no 38 hs sv.2.2.2.2.1 (by omega) hb2 h1).mono ?_; rintro e w2 ⟨rfl, hb3, hx3⟩
              go_wp2_with fail
              refine (take_no 58 hs sv.2.2.2.2.1 (by omega) hb3 h2).mono ?_; rintro e w3 ⟨rfl, hb4, hx4⟩
              go_wp2
              go_step3
              show ∃ m'', m'' < m' + 1 ∧ JM B s w R 0 m'' _ _
              exact ⟨0, Nat.succ_pos _, ⟨rfl, rfl, rfl⟩, t2, Fin.thin (hl1.trans hl2) hR2 hb4 (hx3.trans hx4) hb2.lt (Nat.le_refl _) rfl, .inl ⟨rfl, rfl, hRr⟩⟩
            | some k2 =>
              simp only [h2] at hRr
              go_wp2_with fail
              refine (cond_any hs hat hb1 hR1 hv).mono ?_; rintro e w1 ⟨rfl, x2, hb2, hR2, hl2⟩
              go_wp2_with fail
              refine (take_no 38 hs sv.2.2.2.2.1 (by omega) hb2 h1).mono ?_; rintro e w2 ⟨rfl, hb3, hx3⟩
              go_wp2_with fail
              refine (take_yes 58 k2 hs (by omega) hb3 h2).mono ?_; rintro e w3 ⟨rfl, hb4, hx4⟩
              go_wp2
              apply wp_label
              first | (rename_i hK; exact hK _ _ (ih 3 _ _ ⟨m', Nat.lt_succ_self _, ⟨rfl, rfl, rfl⟩, t2.adv, Fin.thin (hl1.trans hl2) hR2 hb4 (hx3.trans hx4) hb2.lt (Nat.le_succ _) rfl, .inr ⟨num_lt h2, by show s.size + 1 ≤ t2.at_ + 1 + m'; omega, by show t2.chd < 8; omega, hRr, .inr (.inr (.inl ⟨rfl, by show t2.nr < 8; omega⟩))⟩⟩)) | (rename_i hK _; exact hK _ _ (ih 3 _ _ ⟨m', Nat.lt_succ_self _, ⟨rfl, rfl, rfl⟩, t2.adv, Fin.thin (hl1.trans hl2) hR2 hb4 (hx3.trans hx4) hb2.lt (Nat.le_succ _) rfl, .inr ⟨num_lt h2, by show s.size + 1 ≤ t2.at_ + 1 + m'; omega, by show t2.chd < 8; omega, hRr, .inr (.inr (.inl ⟨rfl, by show t2.nr < 8; omega⟩))⟩⟩)) | (rename_i hK _ _; exact hK _ _ (ih 3 _ _ ⟨m', Nat.lt_succ_self _, ⟨rfl, rfl, rfl⟩, t2.adv, Fin.thin (hl1.trans hl2) hR2 hb4 (hx3.trans hx4) hb2.lt (Nat.le_succ _) rfl, .inr ⟨num_lt h2, by show s.size + 1 ≤ t2.at_ + 1 + m'; omega, by show t2.chd < 8; omega, hRr, .inr (.inr (.inl ⟨rfl, by show t2.nr < 8; omega⟩))⟩⟩))
end
end Go.Proofs.YtcnhhclogbjedaaDoor
