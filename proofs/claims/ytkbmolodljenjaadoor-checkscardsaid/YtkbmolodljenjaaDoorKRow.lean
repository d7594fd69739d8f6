/- The reader of models and its machine, in two blocks; what its rows mean. Our own text. -/
import Derived.Test.YtkbmolodljenjaaDoorKCond
namespace Go.Proofs.YtkbmolodljenjaaDoor
open Go.RowKit Go.Lib

theorem blame_same (t : T) (f : Nat) : (t.blame f).at_ = t.at_ ∧ (t.blame f).n = t.n ∧ (t.blame f).nr = t.nr ∧ (t.blame f).chd = t.chd := by
  unfold T.blame; split <;> exact ⟨rfl, rfl, rfl, rfl⟩
theorem named_same (t : T) (k : Nat) : (t.named k).at_ = t.at_ + 1 ∧ (t.named k).n = t.n ∧ (t.named k).nr = t.nr ∧ (t.named k).chd = t.chd := by
  unfold T.named; split
  · exact blame_same _ _
  · exact ⟨rfl, rfl, rfl, rfl⟩
theorem pTerm_same {s : ByteArray} {t t' : T} (h : pTerm s t = some t') : t'.at_ = t.at_ + 1 ∧ t'.n = t.n ∧ t'.nr = t.nr ∧ t'.chd = t.chd := by
  unfold pTerm at h; split at h
  · cases h; exact ⟨rfl, rfl, rfl, rfl⟩
  · split at h
    · cases h; exact named_same _ _
    · cases h
theorem pTerm_lt {s : ByteArray} {t t' : T} (h : pTerm s t = some t') : t'.at_ ≤ s.size := by
  have := (pTerm_same h).1
  unfold pTerm at h; split at h
  · next e => have := num_lt e; omega
  · split at h
    · next e => have := num_lt e; omega
    · cases h
def pCmp (s : ByteArray) (t : T) : Option T :=
  match num? s t.at_ 61 0 0 with
  | some _ => some t.adv
  | none => match num? s t.at_ 35 0 0 with
    | some _ => some t.adv
    | none => match num? s t.at_ 60 0 0 with
      | some _ => some t.adv
      | none => none
theorem pCmp_same {s : ByteArray} {t t' : T} (h : pCmp s t = some t') : t' = t.adv ∧ t.at_ < s.size := by
  unfold pCmp at h; split at h
  · next e => cases h; exact ⟨rfl, num_lt e⟩
  · split at h
    · next e => cases h; exact ⟨rfl, num_lt e⟩
    · split at h
      · next e => cases h; exact ⟨rfl, num_lt e⟩
      · cases h
def signs : ByteArray := ⟨#[61, 35, 60]⟩
theorem num_is {s : ByteArray} {p z k : Nat} (h : num? s p z 0 0 = some k) : ∃ h : p < s.size, s[p].toNat = z := by
  obtain ⟨h1, h2, h3, _⟩ := num_some h
  exact ⟨h1, by omega⟩
theorem num_not {s : ByteArray} {p z : Nat} (h : num? s p z 0 0 = none) (hp : p < s.size) : s[p].toNat ≠ z := by
  rcases num_ways h (Nat.le_of_lt hp) with h | ⟨_, h⟩ <;> omega
theorem u8_is {a : UInt8} {n : Nat} (hn : n < 256) (h : a.toNat = n) : a = UInt8.ofNat n := by
  apply UInt8.toNat_inj.1
  simp [h]; omega
theorem pCmp_some {s : ByteArray} {t t' : T} (h : pCmp s t = some t') : ∃ k, oneOf? s t.at_ signs.data.toList = some k ∧ (k = 61 ∨ k = 35 ∨ k = 60) ∧ k = byteAt s t.at_ := by
  have key : ∀ z, z < 256 → (UInt8.ofNat z) ∈ signs.data.toList → ∀ k, num? s t.at_ z 0 0 = some k → oneOf? s t.at_ signs.data.toList = some z ∧ z = byteAt s t.at_ := by
    intro z hz hm k hk
    obtain ⟨hl, he⟩ := num_is hk
    refine ⟨?_, ?_⟩
    · unfold oneOf?
      rw [dif_pos hl, if_pos (by rw [u8_is hz he]; exact hm), he]
    · rw [num_byte hk, (show k = 0 by have := (num_le hk).2; omega)]; omega
  unfold pCmp at h; split at h
  · next k e => exact ⟨61, (key 61 (by omega) (by decide) k e).1, .inl rfl, (key 61 (by omega) (by decide) k e).2⟩
  · split at h
    · next k e => exact ⟨35, (key 35 (by omega) (by decide) k e).1, .inr (.inl rfl), (key 35 (by omega) (by decide) k e).2⟩
    · split at h
      · next k e => exact ⟨60, (key 60 (by omega) (by decide) k e).1, .inr (.inr rfl), (key 60 (by omega) (by decide) k e).2⟩
      · cases h
theorem pCmp_none {s : ByteArray} {t : T} (h : pCmp s t = none) : oneOf? s t.at_ signs.data.toList = none := by
  unfold pCmp at h
  split at h
  · cases h
  · next e1 =>
    split at h
    · cases h
    · next e2 =>
      split at h
      · cases h
      · next e3 =>
        unfold oneOf?
        by_cases hl : t.at_ < s.size
        · rw [dif_pos hl, if_neg]
          intro hm
          have h1 := num_not e1 hl
          have h2 := num_not e2 hl
          have h3 := num_not e3 hl
          have : s[t.at_] = 61 ∨ s[t.at_] = 35 ∨ s[t.at_] = 60 := by simpa [signs] using hm
          rcases this with h | h | h
          · exact h1 (by rw [h]; rfl)
          · exact h2 (by rw [h]; rfl)
          · exact h3 (by rw [h]; rfl)
        · rw [dif_neg hl]
def pCond (s : ByteArray) (t : T) : Bool × T :=
  match pTerm s t with
  | none => (false, t)
  | some t1 => match pCmp s t1 with
    | none => (false, t1)
    | some t2 => match pTerm s t2 with
      | none => (false, t2)
      | some t3 => (true, t3)
theorem pCond_same {s : ByteArray} {t t' : T} {b : Bool} (h : pCond s t = (b, t')) (ht : t.at_ ≤ s.size) : t.at_ ≤ t'.at_ ∧ t'.n = t.n ∧ t'.nr = t.nr ∧ t'.chd = t.chd ∧ t'.at_ ≤ s.size ∧ (b = true → t.at_ < t'.at_) := by
  unfold pCond at h
  split at h
  · cases h; exact ⟨Nat.le_refl _, rfl, rfl, rfl, ht, fun h => by cases h⟩
  · next t1 e1 =>
    have s1 := pTerm_same e1
    have l1 := pTerm_lt e1
    split at h
    · cases h; exact ⟨by omega, s1.2.1, s1.2.2.1, s1.2.2.2, l1, fun h => by cases h⟩
    · next t2 e2 =>
      obtain ⟨rfl, l2⟩ := pCmp_same e2
      have n2 : t1.adv.at_ = t1.at_ + 1 := rfl
      split at h
      · cases h; exact ⟨by omega, s1.2.1, s1.2.2.1, s1.2.2.2, by omega, fun h => by cases h⟩
      · next t3 e3 =>
        have s3 := pTerm_same e3
        have l3 := pTerm_lt e3
        cases h
        exact ⟨by omega, s3.2.1.trans s1.2.1, s3.2.2.1.trans s1.2.2.1, s3.2.2.2.trans s1.2.2.2, l3, fun _ => by omega⟩
/-- The condition that stands at a place. -/
def cdOf (s : ByteArray) (p : Nat) : Tm × Tm := (tmOf s p, tmOf s (p + 2))
theorem tmOf_at {s : ByteArray} {t t' : T} (h : pTerm s t = some t') : (tmOf s t.at_).2.2 = (t.at_ : Int) := by
  unfold pTerm at h
  cases h1 : num? s t.at_ 48 0 3 with
  | some k => unfold tmOf; rw [num_disj h1, h1]
  | none =>
    cases h2 : num? s t.at_ 97 0 2 with
    | some k => unfold tmOf; rw [h2]
    | none => simp [h1, h2] at h

section
variable {B M : Nat} {ty : TypeId} {rest : List Value} {s : ByteArray} {t : T} {w : World}
set_option maxRecDepth 100000 in
set_option maxHeartbeats 1600000 in
theorem cond_no {t' : T} (hs : s.size ≤ 120) (hat : t.at_ ≤ s.size) (hb : RG B M ty rest s t w) (hp : pCond s t = (false, t')) :
    Calls Tryd.prog 79 #[.pointer (some ⟨B, 0, none⟩)] w fun e w' => e = .returned (.tuple #[.nilFunc, .bool false]) ∧ RG B M ty rest s t' w' ∧ Ex B w w' := by
  unfold pCond at hp
  cases h1 : pTerm s t with
  | none =>
    simp [h1] at hp; subst hp
    go_enter Tryd.func79, Tryd.ntmps79
    go_wp2_with fail
    refine (term_no hs hat hb h1).mono ?_; rintro e w1 ⟨rfl, hb1, hx1⟩
    go_wp2
    go_ret2
    exact ⟨rfl, hb1, hx1⟩
  | some t1 =>
    have l1 := pTerm_lt h1
    cases h2 : pCmp s t1 with
    | none =>
      simp [h1, h2] at hp; subst hp
      go_enter Tryd.func79, Tryd.ntmps79
      go_wp2_with fail
      refine (term_yes hs hat hb h1).mono ?_; rintro e w1 ⟨⟨f1, a1, rfl, hf1⟩, hb1, hx1⟩
      go_wp2_with fail
      refine (oneOf_no signs l1 hb1 (pCmp_none h2)).mono ?_; rintro e w2 ⟨rfl, hb2, hx2⟩
      go_wp2
      go_ret2
      exact ⟨rfl, hb2, hx1.trans hx2⟩
    | some t2 =>
      obtain ⟨k, hk, hkk, hby⟩ := pCmp_some h2
      obtain ⟨rfl, l2⟩ := pCmp_same h2
      cases h3 : pTerm s t1.adv with
      | none =>
        simp [h1, h2, h3] at hp; subst hp
        clear hkk hby
        go_enter Tryd.func79, Tryd.ntmps79
        go_wp2_with fail
        refine (term_yes hs hat hb h1).mono ?_; rintro e w1 ⟨⟨f1, a1, rfl, hf1⟩, hb1, hx1⟩
        go_wp2_with fail
        refine (oneOf_yes signs k hs hb1 hk).mono ?_; rintro e w2 ⟨rfl, hb2, hx2⟩
        go_wp2_with fail
        refine (term_no (t := t1.adv) hs l2 hb2 h3).mono ?_; rintro e w3 ⟨rfl, hb3, hx3⟩
        go_wp2
        go_ret2
        exact ⟨rfl, hb3, (hx1.trans hx2).trans hx3⟩
      | some t3 => simp [h1, h2, h3] at hp
set_option maxRecDepth 100000 in
set_option maxHeartbeats 1600000 in
theorem cond_yes {t' : T} (hty : soft ty = true) (hs : s.size ≤ 120) (hat : t.at_ ≤ s.size) (hb : RG B M ty rest s t w) (hp : pCond s t = (true, t')) :
    Calls Tryd.prog 79 #[.pointer (some ⟨B, 0, none⟩)] w fun e w' => (∃ f a, e = .returned (.tuple #[.func f #[] a, .bool true]) ∧ FnK 0 w' (.func f #[] a) (fun y => .bool (cdP s (cdOf s t.at_) y))) ∧ RG B M ty rest s t' w' ∧ Ex B w w' := by
  unfold pCond at hp
  cases h1 : pTerm s t with
  | none => simp [h1] at hp
  | some t1 =>
    have l1 := pTerm_lt h1
    have s1 := (pTerm_same h1).1
    have a1' := tmOf_at h1
    cases h2 : pCmp s t1 with
    | none => simp [h1, h2] at hp
    | some t2 =>
      obtain ⟨k, hk, hkk, hby⟩ := pCmp_some h2
      obtain ⟨rfl, l2⟩ := pCmp_same h2
      cases h3 : pTerm s t1.adv with
      | none => simp [h1, h2, h3] at hp
      | some t3 =>
        simp [h1, h2, h3] at hp; subst hp
        have HC : Put (∀ y, cdP s (cdOf s t.at_) y = cmpP k (tmV (tmOf s t.at_) y) (tmV (tmOf s t1.adv.at_) y)) := ⟨fun y => by
          unfold cdP cdOf
          have e2 : t1.adv.at_ = t.at_ + 2 := by show t1.at_ + 1 = _; omega
          simp only [a1', e2, hby, s1, Int.toNat_natCast]⟩
        clear hby a1' s1
        go_enter Tryd.func79, Tryd.ntmps79
        go_wp2_with fail
        refine (term_yes hs hat hb h1).mono ?_; rintro e w1 ⟨⟨f1, a1, rfl, hf1⟩, hb1, hx1⟩
        go_wp2_with fail
        refine (oneOf_yes signs k hs hb1 hk).mono ?_; rintro e w2 ⟨rfl, hb2, hx2⟩
        go_wp2_with fail
        refine (term_yes (t := t1.adv) hs l2 hb2 h3).mono ?_; rintro e w3 ⟨⟨f3, a3, rfl, hf3⟩, hb3, hx3⟩
        have hf1' := hf1.kp ((Kp.of_ex hx2 hb1.blk hty).trans (Kp.of_ex hx3 hb2.blk hty))
        have HH : Put (_ ∧ _ ∧ _) := ⟨hf1', hf3, (hx1.trans hx2).trans hx3⟩
        have HB : Put (_) := ⟨hb3⟩
        clear hf1 hf1' hf3 hx1 hx2 hx3 hb1 hb2 hb3 h1 h2 h3 hk
        go_wp2_with fail
        refine (compare_any k hkk _ _ _ _ _ _ w3 HH.out.1 HH.out.2.1).mono ?_; rintro e w4 ⟨⟨f4, a4, rfl, hf4⟩, hb4⟩
        have HF : Put (FnK 0 w4 (.func f4 #[] a4) (fun y => .bool (cdP s (cdOf s t.at_) y))) := ⟨by
          have : (fun y => Value.bool (cdP s (cdOf s t.at_) y)) = (fun y => Value.bool (cmpP k (tmV (tmOf s t.at_) y) (tmV (tmOf s t1.adv.at_) y))) := by funext y; rw [HC.out]
          rw [this]; exact hf4⟩
        have HX : Put (Ex B w w4) := ⟨HH.out.2.2.trans (Ex.of_below hb4)⟩
        have HG : Put (RG B M ty rest s t3 w4) := ⟨HB.out.move (hb4.block _ HB.out.lt) (hb4.block _ (Nat.lt_trans HB.out.lo HB.out.lt))⟩
        clear hf4 hb4 HB HH HC
        go_wp2
        go_ret2
        exact ⟨⟨_, _, rfl, HF.out⟩, HG.out, HX.out⟩
end
end Go.Proofs.YtkbmolodljenjaaDoor
