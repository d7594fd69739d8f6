import Derived.Lib.TrailingZeros
import Derived.Test.YtgoebckimmofoaaGreatDoorRows
import Derived.WalkKit
import Derived.WalkSpells
import Derived.WalkLawsBesides
import Derived.Deep.QuietTactic
import Derived.BigQuiet
import Derived.RegionTactic
import Derived.Scope
import Derived.WalkMore
import Derived.Deep.LoopGhost
import Derived.Deep.AppendLies
import Derived.Deep.RegionHeld3
import Derived.Laws.Bits64b
import Derived.Laws.IdiomStrings
import Derived.Maps.AppendAt
import Derived.RangeFuncBox
import Derived.Deep.RegionLaw
import Derived.Deep.RegionHeld
import Derived.RangeFuncNested
import Derived.RangeFuncBound
import Derived.RangeFuncCalls
import Derived.RangeFuncLeaves
import Derived.Shelf.Abstract
import Derived.Shelf.RegionOpen
import Derived.OwnWalkIn
import Derived.TacticsInMore
import Derived.LoopNIn
import Derived.LoopIn
import Derived.Stop.RegionWithIn
import Derived.MapKept
import Derived.Lib.Bytealg
import Derived.Lib.IndexLaws
import Derived.Laws.EntriesVeiled
import Derived.Deep.DrawnRows
import Derived.Test.YtgoebckimmofoaaGreatDoorM1
import Derived.Test.YtgoebckimmofoaaGreatDoorM2
import Derived.Test.YtgoebckimmofoaaGreatDoorM3
import Derived.Test.YtgoebckimmofoaaGreatDoorM4
import Derived.Test.YtgoebckimmofoaaGreatDoorM5
import Derived.Test.YtgoebckimmofoaaGreatDoorM7
import Derived.Test.YtgoebckimmofoaaGreatDoorM9
import Derived.Test.YtgoebckimmofoaaGreatDoorM11
import Derived.Test.YtgoebckimmofoaaGreatDoorM15
import Derived.Test.YtgoebckimmofoaaGreatDoorM6
import Derived.Test.YtgoebckimmofoaaGreatDoorM12
import Derived.Test.YtgoebckimmofoaaGreatDoorM13
import Derived.Test.YtgoebckimmofoaaGreatDoorM8
/- The code: readModel and Check. Our own text. -/
namespace Go.Proofs.YtgoebckimmofoaaGreatDoor
open Go.RowKit Go.Lib

def T0 : T := ⟨0, 0, 0, 0, 0, 0⟩
def X0 : Junk := ⟨0, 0, 0, 0, 0, 0, .slice none 0 0, .slice none 0 0, .slice none 0 0⟩
def pCheck (s : ByteArray) : Nat × Nat := if 120 < s.size then (1, 0) else pRun s (s.size + 1) 1 T0

theorem St.zero (s : ByteArray) (w : World) : St (w.heap.size + 1) w.heap.size (w.heap.size + 2) s [] T0 X0 [] [] [] w ((w.alloc (.cells (mblk T0 X0) 113)).alloc (.cells (rblk s w.heap.size T0 [.slice none 0 0, .slice none 0 0, .int .u8 0]) 120)) := by
  have hm := (Below.heap_alloc (w.alloc (.cells (mblk T0 X0) 113)) (.cells (rblk s w.heap.size T0 [.slice none 0 0, .slice none 0 0, .int .u8 0]) 120) w.heap.size (by simp)).trans (heap_alloc_new w (.cells (mblk T0 X0) 113))
  have hr := heap_alloc_new (w.alloc (.cells (mblk T0 X0) 113)) (.cells (rblk s w.heap.size T0 [.slice none 0 0, .slice none 0 0, .int .u8 0]) 120)
  rw [World.size_alloc] at hr
  refine ⟨rfl, by simp, by omega, by simp, Nat.le_refl _, Nat.le_refl _, fun d hd => (by cases hd), ⟨⟨hr, ⟨_, _, hm, rfl⟩, by omega⟩, hm⟩, ⟨⟨[], World.ownsRow_nil _ _ _ _, All2.nil⟩, ⟨[], World.ownsRow_nil _ _ _ _, All2.nil⟩, ⟨[], World.ownsRow_nil _ _ _ _, All2.nil⟩⟩, ((Below.refl _ _).alloc (Nat.le_refl _) _).alloc (by simp) _, ⟨fun k hk => absurd hk (Nat.not_lt_zero _), fun k _ h3 => ?_, fun e he => (by cases he)⟩, rfl⟩
  have : k = 0 ∨ k = 1 ∨ k = 2 := by omega
  rcases this with rfl | rfl | rfl <;> exact ⟨rfl, rfl⟩

/-- How readModel ends. -/
def RMPost (s : ByteArray) (P : Nat → T → List V2 → List (Tm × Tm) → List Chg → List RA → Prop) (w : World) (e : Ending) (w' : World) : Prop :=
  Below w.heap.size w w' ∧
  (((pCheck s).1 ≠ 0 ∧ ∃ ao, e = .returned (.tuple #[.pointer ao, .int .i64 (pCheck s).1, .int .i64 (pCheck s).2])) ∨
   ((pCheck s).1 = 0 ∧ ∃ (B M N : Nat) (t : T) (x : Junk) (vs : List V2) (rl : List RA), e = .returned (.tuple #[.pointer (some ⟨M, 0, none⟩), .int .i64 0, .int .i64 (pCheck s).2]) ∧ St B M N s vs t x [] [] rl w w' ∧ P 2 t vs [] [] rl ∧ t.at_ = s.size ∧ w.heap.size ≤ M))

set_option maxRecDepth 100000 in
set_option maxHeartbeats 1600000 in
theorem readModel_any {P : Nat → T → List V2 → List (Tm × Tm) → List Chg → List RA → Prop} (s : ByteArray) (hG : s.size ≤ 120 → Ghost s P) (hP : s.size ≤ 120 → P 1 T0 [] [] [] []) (w : World) (hsz : s.size ≤ maxLen) :
    Calls Tryz.prog 28 #[.string s] w (RMPost s P w) := by
  unfold maxLen at hsz
  by_cases hl : 120 < s.size
  · have hc : pCheck s = (1, 0) := by unfold pCheck; rw [if_pos hl]
    have HC : Put (_ = _) := ⟨hc⟩
    have hl' : (120 : Int) < (s.size : Int) := by omega
    clear hG hP hc
    go_enter Tryz.func28, Tryz.ntmps28
    go_wp2
    refine bodyPost_ret (v := .tuple #[.pointer none, .int .i64 1, .int .i64 0]) (by simp [results, Tryz.results28, go_sem]) rfl ?_
    exact ⟨Below.refl _ _, .inl ⟨by rw [HC.out]; decide, none, by rw [HC.out]; rfl⟩⟩
  · have hc : pCheck s = pRun s (s.size + 1) 1 T0 := by unfold pCheck; rw [if_neg hl]
    have hl' : ¬ (120 : Int) < (s.size : Int) := by omega
    obtain ⟨R, hR⟩ : ∃ R, R = pCheck s := ⟨_, rfl⟩
    have hRun : R = pRun s (s.size + 1) 1 T0 := by rw [hR, hc]
    have HC : Put (_ = _) := ⟨hR⟩
    have HM : Put (_) := ⟨model_any (by omega) (hG (by omega)) (Nat.zero_le _) (by show 0 < 3; omega) (by show 0 < 8; omega) (St.zero s w) (hP (by omega)) hRun⟩
    clear hG hP hc hR hRun
    go_enter Tryz.func28, Tryz.ntmps28
    go_wp2_with fail
    refine HM.out.mono ?_
    rintro e w1 ⟨b, rfl, hD⟩
    clear HM
    cases b with
    | false =>
      obtain ⟨t', ⟨x', hb, hbl⟩, hr⟩ : ∃ t', Fail (w.heap.size + 1) w.heap.size s t' w w1 ∧ R = (2, t'.at_) := hD
      have HR : Put (pCheck s = (2, t'.at_)) := ⟨HC.out.symm.trans hr⟩
      have c1 := hb.c1
      have HB : Put (_) := ⟨hbl⟩
      clear hb hbl hr
      go_wp2
      go_quiet (fail)
      go_wp2
      refine bodyPost_ret (v := .tuple #[.pointer none, .int .i64 2, .int .i64 t'.at_]) (by simp [results, Tryz.results28, go_sem]) rfl ?_
      exact ⟨below_drewN HB.out _, .inl ⟨by rw [HR.out]; show (2 : Nat) ≠ 0; decide, none, by rw [HR.out]; rfl⟩⟩
    | true =>
      obtain ⟨t', x', N, vs, rl, hS, hr, hP, he⟩ : ∃ t' x' N vs rl, St (w.heap.size + 1) w.heap.size N s vs t' x' [] [] rl w w1 ∧ R = (t'.flt, t'.plc) ∧ P 2 t' vs [] [] rl ∧ t'.at_ = s.size := hD
      have HR : Put (pCheck s = (t'.flt, t'.plc)) := ⟨HC.out.symm.trans hr⟩
      have c2 := hS.rb.c2
      have c3 := hS.rb.c3
      have c4 := hS.rb.c4
      have HS : Put (_ ∧ _ ∧ _) := ⟨hS, hP, he⟩
      clear hS hP he hr
      go_wp2
      go_quiet (fail)
      go_wp2
      refine bodyPost_ret (v := .tuple #[.pointer (some ⟨w.heap.size, 0, none⟩), .int .i64 t'.flt, .int .i64 t'.plc]) (by simp [results, Tryz.results28, go_sem]) rfl ?_
      refine ⟨below_drewN HS.out.1.lo _, ?_⟩
      by_cases hz : t'.flt = 0
      · refine .inr ⟨by rw [HR.out]; exact hz, w.heap.size + 1, w.heap.size, N, t', x', vs, rl, ?_, HS.out.1.drewN _, HS.out.2.1, HS.out.2.2, Nat.le_refl _⟩
        rw [HR.out, hz]; rfl
      · exact .inl ⟨by rw [HR.out]; exact hz, _, by rw [HR.out]⟩

theorem readModel_bad (s : ByteArray) (w : World) (hsz : s.size ≤ maxLen) : Calls Tryz.prog 28 #[.string s] w (RMPost s (fun _ _ _ _ _ _ => True) w) :=
  readModel_any s (fun _ => Ghost.any s) (fun _ => trivial) w hsz
end Go.Proofs.YtgoebckimmofoaaGreatDoor

/- The code's reader and the document's say the same: conditions and changes. Our own text: no walk in it. -/
namespace Go.Proofs.YtgoebckimmofoaaGreatDoor

/-- The first fault that the code's reader has met. -/
def fl (t : T) : Option (Nat × Int) := if t.flt = 0 then none else some (t.flt, (t.plc : Int))
def Inv (t : T) : Prop := t.flt = 0 → t.plc = 0
theorem fl_blame (t : T) (f : Nat) (hf : f ≠ 0) : fl (t.blame f) = (fl t).or (some (f, ((t.at_ - 1 : Nat) : Int))) := by
  unfold T.blame fl
  by_cases h : t.flt = 0
  · simp [h, hf]
  · simp [h]
theorem inv_blame (t : T) (f : Nat) (hf : f ≠ 0) (_h : Inv t) : Inv (t.blame f) := by
  unfold T.blame Inv at *
  by_cases h0 : t.flt = 0
  · simp [h0, hf]
  · simp [h0]
theorem fl_adv (t : T) : fl t.adv = fl t := rfl
theorem fl_named (t : T) (k : Nat) : fl (t.named k) = (fl t).or (if (t.n : Int) ≤ (k : Int) then some (3, (t.at_ : Int)) else none) := by
  unfold T.named
  by_cases h : t.n ≤ k
  · rw [if_pos h, if_pos (by omega), fl_blame _ _ (by omega), fl_adv]
    simp [T.adv]
  · rw [if_neg h, if_neg (by omega), fl_adv]; simp
theorem inv_named (t : T) (k : Nat) (h : Inv t) : Inv (t.named k) := by
  unfold T.named; split
  · exact inv_blame _ _ (by omega) h
  · exact h
/-- What stays, and what has come, between two states of the code's reader. -/
structure Step (t t' : T) (d : Nat) (o : Option (Nat × Int)) : Prop where
  at_ : t'.at_ = t.at_ + d
  n : t'.n = t.n
  nr : t'.nr = t.nr
  inv : Inv t'
  fl : fl t' = (fl t).or o
theorem Step.trans {a b c : T} {d e : Nat} {o p : Option (Nat × Int)} (h : Step a b d o) (k : Step b c e p) : Step a c (d + e) (o.or p) :=
  ⟨by rw [k.at_, h.at_]; omega, k.n.trans h.n, k.nr.trans h.nr, k.inv, by rw [k.fl, h.fl, Option.or_assoc]⟩
theorem Step.adv {t : T} (h : Inv t) : Step t t.adv 1 none := ⟨rfl, rfl, rfl, h, by simp [fl_adv]⟩

theorem num_disjS {s : ByteArray} {p k : Nat} (h : num? s p 97 0 2 = some k) : num? s p 48 0 3 = none := by
  obtain ⟨hp, h1, h2, _⟩ := num_some h
  unfold num?; rw [dif_pos hp, if_neg (by omega)]

theorem term_same (s : ByteArray) (t : T) (hI : Inv t) :
    (qTerm s (.ok t.at_) = (none, .error t.at_) ∧ pTerm s t = none) ∨
    (∃ a t', qTerm s (.ok t.at_) = (some a, .ok (t.at_ + 1)) ∧ pTerm s t = some t' ∧ a.2.2 = (t.at_ : Int) ∧ t'.chd = t.chd ∧ Step t t' 1 (if (t.n : Int) ≤ a.1 then some (3, a.2.2) else none)) := by
  unfold qTerm pTerm qNum
  simp only
  cases h1 : num? s t.at_ 97 0 2 with
  | some k =>
    right
    rw [num_disjS h1]
    simp only [Q.adv, Q.pos]
    have hs := named_same t k
    exact ⟨_, _, rfl, rfl, rfl, hs.2.2.2, hs.1, hs.2.1, hs.2.2.1, inv_named _ _ hI, fl_named t k⟩
  | none =>
    cases h2 : num? s t.at_ 48 0 3 with
    | some n =>
      right
      simp only [Q.adv, Q.pos]
      refine ⟨_, _, rfl, rfl, rfl, rfl, ?_⟩
      rw [if_neg (by omega)]
      exact Step.adv hI
    | none => left; exact ⟨rfl, rfl⟩
theorem cmp_same (s : ByteArray) (t : T) : (qOp s (.ok t.at_) = true ∧ pCmp s t = some t.adv) ∨ (qOp s (.ok t.at_) = false ∧ pCmp s t = none) := by
  unfold qOp qNum pCmp
  simp only
  cases num? s t.at_ 61 0 0 with
  | some k => left; exact ⟨rfl, rfl⟩
  | none =>
    cases num? s t.at_ 35 0 0 with
    | some k => left; exact ⟨rfl, rfl⟩
    | none =>
      cases num? s t.at_ 60 0 0 with
      | some k => left; exact ⟨rfl, rfl⟩
      | none => right; exact ⟨rfl, rfl⟩
def condO (n : Nat) (c : Tm × Tm) : Option (Nat × Int) := if 0 ≤ unnamed n c.1 c.2 then some (3, unnamed n c.1 c.2) else none
theorem cond_same (s : ByteArray) (t : T) (hI : Inv t) :
    (∃ t', qCond s (.ok t.at_) = (none, .error t'.at_) ∧ pCond s t = (false, t')) ∨
    (∃ c t', qCond s (.ok t.at_) = (some c, .ok (t.at_ + 3)) ∧ pCond s t = (true, t') ∧ t'.chd = t.chd ∧ Step t t' 3 (condO t.n c)) := by
  unfold qCond pCond
  rcases term_same s t hI with ⟨h1, h2⟩ | ⟨a, t1, h1, h2, ha, hc1, st1⟩
  · left; rw [h1, h2]; exact ⟨t, rfl, rfl⟩
  · rw [h1, h2]
    simp only
    have e1 := st1.at_
    rcases cmp_same s t1 with ⟨h3, h4⟩ | ⟨h3, h4⟩
    · rw [e1] at h3
      rw [h3, h4, if_pos rfl]
      simp only [Q.adv]
      rcases term_same s t1.adv st1.inv with ⟨h5, h6⟩ | ⟨b, t2, h5, h6, hb, hc2, st2⟩
      · left
        have e2 : t1.adv.at_ = t.at_ + 1 + 1 := by show t1.at_ + 1 = _; omega
        rw [e2] at h5
        rw [h5, h6]
        exact ⟨t1.adv, by rw [e2], rfl⟩
      · right
        have e2 : t1.adv.at_ = t.at_ + 1 + 1 := by show t1.at_ + 1 = _; omega
        rw [e2] at h5 hb
        rw [h5, h6]
        refine ⟨(a, b), t2, rfl, rfl, hc2.trans hc1, ?_⟩
        have st := (st1.trans (Step.adv st1.inv)).trans st2
        have en : t1.adv.n = t.n := st1.n
        rw [en] at st
        have eo : ((if (t.n : Int) ≤ a.1 then some ((3 : Nat), a.2.2) else none).or none).or (if (t.n : Int) ≤ b.1 then some (3, b.2.2) else none) = condO t.n (a, b) := by
          unfold condO unnamed
          have ha0 : 0 ≤ a.2.2 := by omega
          have hb0 : 0 ≤ b.2.2 := by omega
          by_cases k1 : (t.n : Int) ≤ a.1 <;> by_cases k2 : (t.n : Int) ≤ b.1 <;> simp [k1, k2, ha0, hb0]
        rw [eo] at st
        exact st
    · left
      rw [e1] at h3
      rw [h3, h4, if_neg (by simp)]
      exact ⟨t1, by rw [e1]; rfl, rfl⟩

def chgO (n : Nat) (pre : List Chg) (c : Chg) : Option (Nat × Int) := if (twiceP n pre c).1 = 0 then none else some (twiceP n pre c)
/-- The set of names that the code keeps is the names of the changes so far. -/
def Bits (chd : Nat) (pre : List Chg) : Prop := chd < 8 ∧ ∀ k, k < 3 → chd.testBit k = pre.any (fun d => decide (d.1 = (k : Int)))
theorem bits_or : ∀ c : Nat, c < 8 → ∀ k : Nat, k < 3 → ∀ j : Nat, j < 3 → (c ||| 2 ^ k).testBit j = (c.testBit j || decide (k = j)) := by decide
theorem fl_marked (t : T) (k : Nat) : fl (t.marked k) = (fl t).or (if t.chd.testBit k then some (5, ((t.at_ - 1 : Nat) : Int)) else none) := by
  unfold T.marked
  by_cases h : t.chd.testBit k
  · rw [if_pos h, if_pos h]; exact fl_blame t 5 (by omega)
  · rw [if_neg h, if_neg h]; simp [fl]
theorem inv_marked (t : T) (k : Nat) (h : Inv t) : Inv (t.marked k) := by
  unfold T.marked
  by_cases h' : t.chd.testBit k
  · rw [if_pos h']; exact inv_blame t 5 (by omega) h
  · rw [if_neg h']; exact h
theorem change_same (s : ByteArray) (t : T) (pre : List Chg) (hI : Inv t) (hB : Bits t.chd pre) :
    (∃ t', qChange s (.ok t.at_) = (none, .error t'.at_) ∧ pChange s t = (false, t')) ∨
    (∃ c t' d, qChange s (.ok t.at_) = (some c, .ok (t.at_ + d)) ∧ pChange s t = (true, t') ∧ 0 < d ∧ Bits t'.chd (pre ++ [c]) ∧ Step t t' d (chgO t.n pre c)) := by
  unfold qChange pChange qNum
  simp only
  cases h1 : num? s t.at_ 97 0 2 with
  | none => left; exact ⟨t, rfl, rfl⟩
  | some k =>
    have hk := (num_le h1).2
    have sn := named_same t k
    have sm := marked_same (t.named k) k
    have fm := fl_marked (t.named k) k
    have im := inv_marked _ k (inv_named t k hI)
    have e1 : (t.named k).at_ - 1 = t.at_ := by omega
    rw [sn.2.2.2, e1, fl_named] at fm
    obtain ⟨t1, ht1⟩ : ∃ t1, t1 = (t.named k).marked k := ⟨_, rfl⟩
    simp only [Q.adv, Q.pos, Q.fail]
    rw [← ht1] at sm fm im ⊢
    have ea : t1.at_ = t.at_ + 1 := by omega
    have hbits : ∀ c : Chg, c.1 = (k : Int) → Bits t1.chd (pre ++ [c]) := by
      intro c hc
      have hch : t1.chd = t.chd ||| 2 ^ k := by rw [sm.2.2.2, sn.2.2.2]
      refine ⟨by rw [hch]; exact or_lt8 _ hB.1 k (by omega), fun j hj => ?_⟩
      rw [hch, bits_or _ hB.1 k (by omega) j hj, hB.2 j hj, List.any_append]
      congr 1
      simp [hc]; omega
    have st1 : ∀ o, ((if (t.n : Int) ≤ (k : Int) then some ((3 : Nat), (t.at_ : Int)) else none).or (if t.chd.testBit k then some (5, (t.at_ : Int)) else none)) = o → Step t t1 1 o := by
      intro o ho
      exact ⟨ea, by omega, by omega, im, by rw [fm, Option.or_assoc, ho]⟩
    have hany := hB.2 k (by omega)
    cases h2 : num? s (t.at_ + 1) 61 0 0 with
    | none =>
      left
      rw [ea, h2]
      exact ⟨t1, by rw [ea], rfl⟩
    | some k2 =>
      rw [ea, h2]
      simp only
      have eb : t1.adv.at_ = t.at_ + 1 + 1 := by show t1.at_ + 1 = _; omega
      unfold pTo
      rw [eb]
      cases h3 : num? s (t.at_ + 1 + 1) 63 0 0 with
      | some k3 =>
        right
        refine ⟨_, t1.adv.adv, 3, rfl, rfl, by omega, hbits _ rfl, ?_⟩
        have st := ((st1 _ rfl).trans (Step.adv im)).trans (Step.adv im)
        have : (((if (t.n : Int) ≤ (k : Int) then some ((3 : Nat), (t.at_ : Int)) else none).or (if t.chd.testBit k then some (5, (t.at_ : Int)) else none)).or none).or none = chgO t.n pre ((k : Int), (t.at_ : Int), true, (0, 0, 0)) := by
          unfold chgO twiceP
          simp only
          rw [← hany]
          by_cases k1 : (t.n : Int) ≤ (k : Int)
          · simp [k1]
          · cases ht : t.chd.testBit k <;> simp [k1]
        rw [this] at st
        exact st
      | none =>
        simp only
        rcases term_same s t1.adv im with ⟨h5, h6⟩ | ⟨a, t2, h5, h6, ha, hc2, st2⟩
        · left
          rw [eb] at h5
          rw [h5, h6]
          exact ⟨t1.adv, by rw [eb], rfl⟩
        · rw [eb] at h5 ha
          rw [h5, h6]
          simp only
          have ec : t2.at_ = t.at_ + 1 + 1 + 1 := by rw [st2.at_, eb]
          have hch2 : t2.chd = t1.chd := hc2
          have en : t1.adv.n = t.n := by show t1.n = t.n; omega
          rw [en] at st2
          have key : ∀ d t3 (st3 : Step t2 t3 d none), Step t t3 (1 + 1 + 1 + d) (chgO t.n pre ((k : Int), (t.at_ : Int), false, a)) := by
            intro d t3 st3
            have st := (((st1 _ rfl).trans (Step.adv im)).trans st2).trans st3
            have : ((((if (t.n : Int) ≤ (k : Int) then some ((3 : Nat), (t.at_ : Int)) else none).or (if t.chd.testBit k then some (5, (t.at_ : Int)) else none)).or none).or (if (t.n : Int) ≤ a.1 then some (3, a.2.2) else none)).or none = chgO t.n pre ((k : Int), (t.at_ : Int), false, a) := by
              unfold chgO twiceP
              simp only
              rw [← hany]
              by_cases k1 : (t.n : Int) ≤ (k : Int)
              · simp [k1]
              · cases ht : t.chd.testBit k
                · by_cases k3 : (t.n : Int) ≤ a.1 <;> simp [k1, k3]
                · simp [k1]
            rw [this] at st
            exact st
          rw [ec]
          cases h7 : num? s (t.at_ + 1 + 1 + 1) 43 0 0 with
          | none =>
            right
            refine ⟨_, t2, 3, rfl, rfl, by omega, by rw [hch2]; exact hbits _ rfl, key 0 t2 ⟨rfl, rfl, rfl, st2.inv, by simp⟩⟩
          | some k7 =>
            simp only
            have ed : t2.adv.at_ = t.at_ + 1 + 1 + 1 + 1 := by show t2.at_ + 1 = _; omega
            rw [ed]
            cases h8 : num? s (t.at_ + 1 + 1 + 1 + 1) 48 0 3 with
            | none => left; exact ⟨t2.adv, by rw [ed], rfl⟩
            | some k8 =>
              right
              refine ⟨_, t2.adv.adv, 5, rfl, rfl, by omega, by show Bits t2.chd _; rw [hch2]; exact hbits _ rfl, ?_⟩
              have := key 2 t2.adv.adv ((Step.adv st2.inv).trans (Step.adv st2.inv))
              exact this
end Go.Proofs.YtgoebckimmofoaaGreatDoor

namespace Go.Proofs.YtgoebckimmofoaaGreatDoor

def toI (p : Nat × Nat) : Nat × Int := (p.1, (p.2 : Int))
theorem wc_cons (n : Nat) (c : Tm × Tm) (l : List (Tm × Tm)) : wc n (c :: l) = (condO n c).or (wc n l) := by
  rw [wc]; unfold condO; split <;> rfl
theorem wd_cons (n : Nat) (pre : List Chg) (c : Chg) (l : List Chg) : wd n pre (c :: l) = (chgO n pre c).or (wd n (pre ++ [c]) l) := by
  rw [wd]; unfold chgO; split <;> rfl
theorem wr_cons (n : Nat) (r : RA) (l : List RA) : wr n (r :: l) = ((wc n r.1).or (wd n [] r.2)).or (wr n l) := by
  rw [wr]; cases wc n r.1 <;> cases wd n [] r.2 <;> rfl

def q1L (s : ByteArray) : Nat → Nat → Option (List (Tm × Tm)) × Q
  | 0, i => (none, .ok i)
  | f + 1, i => match qCond s (.ok i) with
    | (none, q) => (none, q)
    | (some c, q) => match qNum s q 38 0 with
      | some _ => match q1L s f (q.pos + 1) with
        | (none, q2) => (none, q2)
        | (some cs, q2) => (some (c :: cs), q2)
      | none => (some [c], q)
theorem q1L_acc (s : ByteArray) : ∀ (f i : Nat) (acc : List (Tm × Tm)), i ≤ s.size → s.size + 1 ≤ i + f → qLoop1 s f true (.ok i) acc = match q1L s f i with
    | (none, q) => (none, q)
    | (some cs, q) => (some (acc ++ cs), q)
  | 0, i, acc, h1, h2 => by omega
  | f + 1, i, acc, h1, h2 => by
    rw [qLoop1, q1L]
    cases hc : qCond s (.ok i) with
    | mk rc qc =>
    cases rc with
    | none => rfl
    | some c =>
      obtain ⟨rfl, hle⟩ := qCond_ok hc
      simp only
      cases hn : qNum s (.ok (i + 3)) 38 0 with
      | none => simp only; cases f <;> rfl
      | some k =>
        have := num_lt hn
        simp only [Q.adv, Q.pos]
        rw [q1L_acc s f (i + 3 + 1) _ (by omega) (by omega)]
        cases q1L s f (i + 3 + 1) with
        | mk r q => cases r <;> simp
def q2L (s : ByteArray) : Nat → Nat → Option (List Chg) × Q
  | 0, i => (none, .ok i)
  | f + 1, i => match qChange s (.ok i) with
    | (none, q) => (none, q)
    | (some c, q) => match qNum s q 44 0 with
      | some _ => match q2L s f (q.pos + 1) with
        | (none, q2) => (none, q2)
        | (some cs, q2) => (some (c :: cs), q2)
      | none => (some [c], q)
theorem q2L_acc (s : ByteArray) : ∀ (f i : Nat) (acc : List Chg), i ≤ s.size → s.size + 1 ≤ i + f → qLoop2 s f true (.ok i) acc = match q2L s f i with
    | (none, q) => (none, q)
    | (some cs, q) => (some (acc ++ cs), q)
  | 0, i, acc, h1, h2 => by omega
  | f + 1, i, acc, h1, h2 => by
    rw [qLoop2, q2L]
    cases hc : qChange s (.ok i) with
    | mk rc qc =>
    cases rc with
    | none => rfl
    | some c =>
      obtain ⟨j, rfl, hlt, hle⟩ := qChange_ok hc
      simp only
      cases hn : qNum s (.ok j) 44 0 with
      | none => simp only; cases f <;> rfl
      | some k =>
        have := num_lt hn
        simp only [Q.adv, Q.pos]
        rw [q2L_acc s f (j + 1) _ (by omega) (by omega)]
        cases q2L s f (j + 1) with
        | mk r q => cases r <;> simp
def qR (s : ByteArray) : Nat → Nat → Nat → Option (List RA) × Q
  | 0, i, _ => (none, .error i)
  | f + 1, i, c => if i < s.size then (if c = 8 then (none, .error i) else match num? s i 59 0 0 with
      | none => (none, .error i)
      | some _ => match qRule s (.ok (i + 1)) with
        | (none, q1) => (none, q1)
        | (some r, q1) => match qR s f q1.pos (c + 1) with
          | (none, q2) => (none, q2)
          | (some rs, q2) => (some (r :: rs), q2)) else (some [], .ok i)
theorem qR_acc (s : ByteArray) : ∀ (f i : Nat) (acc : List RA), qRules s f i acc = match qR s f i acc.length with
    | (none, q) => (none, q)
    | (some rs, q) => (some (acc ++ rs), q)
  | 0, i, acc => rfl
  | f + 1, i, acc => by
    rw [qRules, qR]
    by_cases h : i < s.size
    · rw [if_pos h, if_pos h]
      by_cases h8 : acc.length = 8
      · rw [if_pos h8, if_pos h8]
      · rw [if_neg h8, if_neg h8]
        cases num? s i 59 0 0 with
        | none => rfl
        | some k =>
          simp only
          cases qRule s (.ok (i + 1)) with
          | mk r q =>
          cases r with
          | none => rfl
          | some x =>
            simp only
            rw [qR_acc s f q.pos (acc ++ [x]), List.length_append, List.length_singleton]
            cases qR s f q.pos (acc.length + 1) with
            | mk r q => cases r <;> simp
    · rw [if_neg h, if_neg h]; simp

theorem conds_same (s : ByteArray) : ∀ (f F : Nat) (t : T), Inv t → t.at_ ≤ s.size → s.size + 1 ≤ t.at_ + f → s.size + 1 ≤ t.at_ + F →
    (∃ p, q1L s f t.at_ = (none, .error p) ∧ pRun s F 4 t = (2, p)) ∨
    (∃ cs j, q1L s f t.at_ = (some cs, .ok j) ∧ j ≤ s.size ∧ ((num? s j 58 0 0 = none ∧ pRun s F 4 t = (2, j)) ∨ (∃ k F' t', num? s j 58 0 0 = some k ∧ pRun s F 4 t = pRun s F' 3 t' ∧ t'.at_ = j + 1 ∧ s.size + 1 ≤ t'.at_ + F' ∧ t'.n = t.n ∧ t'.nr = t.nr ∧ t'.chd = t.chd ∧ Inv t' ∧ fl t' = (fl t).or (wc t.n cs))))
  | 0, F, t, hI, h1, h2, h3 => by omega
  | f + 1, 0, t, hI, h1, h2, h3 => by omega
  | f + 1, F + 1, t, hI, h1, h2, h3 => by
    rw [q1L, pRun]
    rcases cond_same s t hI with ⟨t', e1, e2⟩ | ⟨c, t', e1, e2, hc, st⟩
    · left; rw [e1, e2]; exact ⟨t'.at_, rfl, rfl⟩
    · have hle := (qCond_ok e1).2
      have ea := st.at_
      rw [e1, e2]
      simp only [qNum, Q.pos]
      rw [ea]
      cases hn : num? s (t.at_ + 3) 38 0 0 with
      | none =>
        right
        simp only
        refine ⟨[c], t.at_ + 3, rfl, hle, ?_⟩
        cases h58 : num? s (t.at_ + 3) 58 0 0 with
        | none => left; exact ⟨rfl, rfl⟩
        | some k =>
          right
          refine ⟨k, F, t'.adv, rfl, rfl, by show t'.at_ + 1 = _; omega, by show _ ≤ t'.at_ + 1 + F; omega, st.n, st.nr, hc, st.inv, ?_⟩
          rw [fl_adv, st.fl, wc_cons, wc]; simp
      | some k =>
        have hl := num_lt hn
        simp only
        have ea2 : t'.adv.at_ = t.at_ + 3 + 1 := by show t'.at_ + 1 = _; omega
        have ih := conds_same s f F t'.adv st.inv (by omega) (by omega) (by omega)
        rw [ea2] at ih
        have en : t'.adv.n = t.n := st.n
        rcases ih with ⟨p, i1, i2⟩ | ⟨cs, j, i1, hj, i2⟩
        · left; rw [i1]; exact ⟨p, rfl, i2⟩
        · right
          rw [i1]
          refine ⟨c :: cs, j, rfl, hj, ?_⟩
          rcases i2 with ⟨i3, i4⟩ | ⟨k', F', t2, i3, i4, i5, i6, i7, i8, i9, i10, i11⟩
          · left; exact ⟨i3, i4⟩
          · right
            refine ⟨k', F', t2, i3, i4, i5, i6, i7.trans en, i8.trans st.nr, i9.trans hc, i10, ?_⟩
            rw [i11, fl_adv, st.fl, en, wc_cons, Option.or_assoc]

theorem q1L_le (s : ByteArray) : ∀ (f i : Nat) {cs : List (Tm × Tm)} {j : Nat}, q1L s f i = (some cs, .ok j) → i ≤ j
  | 0, i, cs, j, h => by cases h
  | f + 1, i, cs, j, h => by
    rw [q1L] at h
    cases hc : qCond s (.ok i) with
    | mk rc qc =>
    rw [hc] at h
    cases rc with
    | none => cases h
    | some c =>
      obtain ⟨rfl, hle⟩ := qCond_ok hc
      simp only [Q.pos] at h
      cases hn : qNum s (.ok (i + 3)) 38 0 with
      | none => simp only [hn] at h; cases h; omega
      | some k =>
        simp only [hn] at h
        cases h2 : q1L s f (i + 3 + 1) with
        | mk r2 q2 =>
        rw [h2] at h
        cases r2 with
        | none => cases h
        | some cs2 =>
          cases h
          have := q1L_le s f (i + 3 + 1) h2
          omega
theorem bits0 : Bits 0 [] := ⟨by omega, fun k hk => by simp⟩
theorem changes_same (s : ByteArray) : ∀ (f F : Nat) (t : T) (pre : List Chg), Inv t → Bits t.chd pre → t.at_ ≤ s.size → s.size + 1 ≤ t.at_ + f → s.size + 1 ≤ t.at_ + F →
    (∃ p, q2L s f t.at_ = (none, .error p) ∧ pRun s F 3 t = (2, p)) ∨
    (∃ ds j F' t', q2L s f t.at_ = (some ds, .ok j) ∧ j ≤ s.size ∧ t.at_ < j ∧ pRun s F 3 t = pRun s F' 2 t' ∧ t'.at_ = j ∧ s.size + 1 ≤ t'.at_ + F' ∧ t'.n = t.n ∧ t'.nr = t.nr + 1 ∧ t'.chd = 0 ∧ Inv t' ∧ fl t' = (fl t).or (wd t.n pre ds))
  | 0, F, t, pre, hI, hB, h1, h2, h3 => by omega
  | f + 1, 0, t, pre, hI, hB, h1, h2, h3 => by omega
  | f + 1, F + 1, t, pre, hI, hB, h1, h2, h3 => by
    rw [q2L, pRun]
    rcases change_same s t pre hI hB with ⟨t', e1, e2⟩ | ⟨c, t', d, e1, e2, hd, hb, st⟩
    · left; rw [e1, e2]; exact ⟨t'.at_, rfl, rfl⟩
    · obtain ⟨j', hj', _, hle⟩ := qChange_ok e1
      cases hj'
      have ea := st.at_
      rw [e1, e2]
      simp only [qNum, Q.pos]
      rw [ea]
      cases hn : num? s (t.at_ + d) 44 0 0 with
      | none =>
        right
        simp only
        refine ⟨[c], t.at_ + d, F, { t' with nr := t'.nr + 1, chd := 0 }, rfl, hle, by omega, by rw [← ea], ea, by show _ ≤ t'.at_ + F; omega, st.n, by show t'.nr + 1 = _; rw [st.nr], rfl, st.inv, ?_⟩
        show fl t' = _
        rw [st.fl, wd_cons, wd]; simp
      | some k =>
        have hl := num_lt hn
        simp only
        have ea2 : t'.adv.at_ = t.at_ + d + 1 := by show t'.at_ + 1 = _; omega
        have ih := changes_same s f F t'.adv (pre ++ [c]) st.inv hb (by omega) (by omega) (by omega)
        rw [ea2] at ih
        have en : t'.adv.n = t.n := st.n
        rcases ih with ⟨p, i1, i2⟩ | ⟨ds, j, F', t2, i1, hj, hlt, i4, i5, i6, i7, i8, i9, i10, i11⟩
        · left; rw [i1]; exact ⟨p, rfl, i2⟩
        · right
          rw [i1]
          refine ⟨c :: ds, j, F', t2, rfl, hj, by omega, i4, i5, i6, i7.trans en, by rw [i8]; show t'.nr + 1 = _; rw [st.nr], i9, i10, ?_⟩
          rw [i11, fl_adv, st.fl, en, wd_cons, Option.or_assoc]

theorem rule_same (s : ByteArray) (hs : s.size ≤ 120) (F : Nat) (t : T) (hI : Inv t) (hc : t.chd = 0) (h1 : t.at_ ≤ s.size) (h3 : s.size + 1 ≤ t.at_ + F) (_hF : 0 < F) :
    let P := match num? s t.at_ 58 0 0 with
      | some _ => pRun s F 3 t.adv
      | none => pRun s F 4 t
    (∃ p, qRule s (.ok t.at_) = (none, .error p) ∧ P = (2, p)) ∨
    (∃ r j F' t', qRule s (.ok t.at_) = (some r, .ok j) ∧ j ≤ s.size ∧ t.at_ < j ∧ P = pRun s F' 2 t' ∧ t'.at_ = j ∧ s.size + 1 ≤ t'.at_ + F' ∧ t'.n = t.n ∧ t'.nr = t.nr + 1 ∧ t'.chd = 0 ∧ Inv t' ∧ fl t' = (fl t).or ((wc t.n r.1).or (wd t.n [] r.2))) := by
  intro P
  unfold qRule qNum
  simp only
  cases h58 : num? s t.at_ 58 0 0 with
  | some k =>
    have hl := num_lt h58
    have hP : P = pRun s F 3 t.adv := by show (match num? s t.at_ 58 0 0 with | some _ => pRun s F 3 t.adv | none => pRun s F 4 t) = _; rw [h58]
    rw [hP]
    have hloop : qLoop1 s 121 (some k).isNone (.ok t.at_) [] = (some [], .ok t.at_) := rfl
    rw [hloop]
    simp only [h58, Q.adv]
    have ea : t.adv.at_ = t.at_ + 1 := rfl
    rw [q2L_acc s 121 (t.at_ + 1) [] (by omega) (by omega)]
    have hB : Bits t.adv.chd [] := by show Bits t.chd []; rw [hc]; exact bits0
    have ih := changes_same s 121 F t.adv [] hI hB (by omega) (by omega) (by omega)
    rw [ea] at ih
    rcases ih with ⟨p, i1, i2⟩ | ⟨ds, j, F', t2, i1, hj, hlt, i4, i5, i6, i7, i8, i9, i10, i11⟩
    · left; rw [i1]; exact ⟨p, rfl, i2⟩
    · right
      rw [i1]
      refine ⟨([], ds), j, F', t2, by simp, hj, by omega, i4, i5, i6, i7, i8, i9, i10, ?_⟩
      rw [i11, fl_adv]; rfl
  | none =>
    have hP : P = pRun s F 4 t := by show (match num? s t.at_ 58 0 0 with | some _ => pRun s F 3 t.adv | none => pRun s F 4 t) = _; rw [h58]
    rw [hP]
    have hno : (none : Option Nat).isNone = true := rfl
    rw [hno]
    rw [q1L_acc s 121 t.at_ [] h1 (by omega)]
    rcases conds_same s 121 F t hI h1 (by omega) h3 with ⟨p, i1, i2⟩ | ⟨cs, j, i1, hj, ⟨i3, i4⟩ | ⟨k', F', t2, i3, i4, i5, i6, i7, i8, i9, i10, i11⟩⟩
    · left; rw [i1]; exact ⟨p, rfl, i2⟩
    · left; rw [i1]; simp only [i3]; exact ⟨j, rfl, i4⟩
    · rw [i1]; simp only [List.nil_append, i3, Q.adv]
      have hl := num_lt i3
      rw [q2L_acc s 121 (j + 1) [] (by omega) (by omega)]
      have hB : Bits t2.chd [] := by rw [i9, hc]; exact bits0
      have ih := changes_same s 121 F' t2 [] i10 hB (by omega) (by omega) i6
      rw [i5] at ih
      rcases ih with ⟨p, k1, k2⟩ | ⟨ds, j2, F2, t3, k1, kj, klt, k4, k5, k6, k7, k8, k9, k10, k11⟩
      · left; rw [k1]; exact ⟨p, rfl, i4.trans k2⟩
      · right
        rw [k1]
        have hmono : t.at_ ≤ j := by
          have := q1L_le s 121 t.at_ i1
          exact this
        refine ⟨(cs, ds), j2, F2, t3, by simp, kj, by omega, i4.trans k4, k5, k6, k7.trans i7, by rw [k8, i8], k9, k10, ?_⟩
        rw [k11, i11, i7, Option.or_assoc]
end Go.Proofs.YtgoebckimmofoaaGreatDoor

/- The code's reader and the document's say the same: variables, the whole. Our own text: no walk in it. -/
namespace Go.Proofs.YtgoebckimmofoaaGreatDoor

theorem end_same (t : T) (h : Inv t) : toI (t.flt, t.plc) = orP (fl t) (0, 0) := by
  unfold fl
  by_cases h0 : t.flt = 0
  · rw [if_pos h0]; simp [toI, orP, h0, h h0]
  · rw [if_neg h0]; rfl
theorem rules_same (s : ByteArray) (hs : s.size ≤ 120) : ∀ (f F : Nat) (t : T), Inv t → t.chd = 0 → t.at_ ≤ s.size → s.size + 1 ≤ t.at_ + f → s.size + 1 ≤ t.at_ + F →
    (∃ p, qR s f t.at_ t.nr = (none, .error p) ∧ pRun s F 2 t = (2, p)) ∨ (∃ rs j, qR s f t.at_ t.nr = (some rs, .ok j) ∧ toI (pRun s F 2 t) = orP ((fl t).or (wr t.n rs)) (0, 0))
  | 0, F, t, hI, hc, h1, h2, h3 => by omega
  | f + 1, 0, t, hI, hc, h1, h2, h3 => by omega
  | f + 1, F + 1, t, hI, hc, h1, h2, h3 => by
    rw [qR, pRun_2]
    by_cases he : t.at_ = s.size
    · right
      rw [if_neg (by omega), if_pos he]
      refine ⟨[], t.at_, rfl, ?_⟩
      rw [wr]; simp [end_same t hI]
    · rw [if_pos (by omega), if_neg he]
      by_cases h8 : t.nr = 8
      · left; rw [if_pos h8, if_pos h8]; exact ⟨_, rfl, rfl⟩
      · rw [if_neg h8, if_neg h8]
        cases h59 : num? s t.at_ 59 0 0 with
        | none => left; exact ⟨_, rfl, rfl⟩
        | some k =>
          have hl := num_lt h59
          simp only
          have ea : t.adv.at_ = t.at_ + 1 := rfl
          have hr := rule_same s hs F t.adv hI hc (by omega) (by omega) (by omega)
          simp only at hr
          rw [ea] at hr ⊢
          rcases hr with ⟨p, i1, i2⟩ | ⟨r, j, F', t', i1, hj, hlt, i4, i5, i6, i7, i8, i9, i10, i11⟩
          · left; rw [i1]; exact ⟨p, rfl, i2⟩
          · rw [i1]
            simp only [Q.pos]
            have ih := rules_same s hs f F' t' i10 i9 (by omega) (by omega) i6
            have e8 : t'.nr = t.nr + 1 := i8
            have e7 : t'.n = t.n := i7
            rw [i5, e8, e7] at ih
            rcases ih with ⟨p, k1, k2⟩ | ⟨rs, j2, k1, k2⟩
            · left; rw [k1]; exact ⟨p, rfl, i4.trans k2⟩
            · right
              rw [k1]
              refine ⟨r :: rs, j2, rfl, ?_⟩
              have e := congrArg toI i4
              refine (e.trans k2).trans ?_
              rw [i11, fl_adv, wr_cons, Option.or_assoc]
              rfl

def qF (s : ByteArray) : Nat → Nat → Nat → List Nat × Nat
  | 0, _, j => ([], j)
  | f + 1, n, j => match num? s j 48 (n + 1) 3 with
    | some v => (v :: (qF s f v (j + 1)).1, (qF s f v (j + 1)).2)
    | none => ([], j)
theorem qF_acc (s : ByteArray) : ∀ (f n j : Nat) (acc : List Nat), qFirst s f n j acc = (acc ++ (qF s f n j).1, .ok (qF s f n j).2)
  | 0, n, j, acc => by simp [qFirst, qF]
  | f + 1, n, j, acc => by
    rw [qFirst, qF]
    cases num? s j 48 (n + 1) 3 with
    | none => simp
    | some v => simp only; rw [qF_acc s f v (j + 1)]; simp
theorem qF_le (s : ByteArray) : ∀ (f n j : Nat), j ≤ s.size → j ≤ (qF s f n j).2 ∧ (qF s f n j).2 ≤ s.size
  | 0, n, j, h => ⟨Nat.le_refl _, h⟩
  | f + 1, n, j, h => by
    rw [qF]
    cases e : num? s j 48 (n + 1) 3 with
    | none => exact ⟨Nat.le_refl _, h⟩
    | some v =>
      have := num_lt e
      have ih := qF_le s f v (j + 1) (by omega)
      exact ⟨by show j ≤ (qF s f v (j + 1)).2; omega, ih.2⟩
theorem fb_cons (g a0 v : Nat) (l : List Nat) (k : Nat) : fb g a0 (v :: l) k = (if g < v then some ((4 : Nat), ((a0 + k : Nat) : Int)) else none).or (fb g a0 l (k + 1)) := by
  rw [fb]; split <;> rfl
theorem first_same (s : ByteArray) (g a0 : Nat) : ∀ (m v : Nat) (t : T) (k : Nat), Inv t → t.at_ = a0 + k + 1 → v ≤ 3 → 4 ≤ v + m →
    (pFirst s g m v t).at_ = (qF s m v t.at_).2 ∧ (pFirst s g m v t).nr = t.nr ∧ (pFirst s g m v t).chd = t.chd ∧ Inv (pFirst s g m v t) ∧ fl (pFirst s g m v t) = (fl t).or (fb g a0 (v :: (qF s m v t.at_).1) k)
  | 0, v, t, k, hI, ha, hv, hm => by omega
  | m + 1, v, t, k, hI, ha, hv, hm => by
    rw [pFirst, qF]
    obtain ⟨tb, htb⟩ : ∃ tb, tb = if g < v then t.blame 4 else t := ⟨_, rfl⟩
    rw [← htb]
    have hsame : tb.at_ = t.at_ ∧ tb.nr = t.nr ∧ tb.chd = t.chd ∧ Inv tb ∧ fl tb = (fl t).or (if g < v then some (4, ((a0 + k : Nat) : Int)) else none) := by
      rw [htb]
      by_cases h : g < v
      · rw [if_pos h, if_pos h]
        have := blame_same t 4
        refine ⟨this.1, this.2.2.1, this.2.2.2, inv_blame t 4 (by omega) hI, ?_⟩
        rw [fl_blame t 4 (by omega)]
        have : t.at_ - 1 = a0 + k := by omega
        rw [this]
      · rw [if_neg h, if_neg h]
        exact ⟨rfl, rfl, rfl, hI, by simp⟩
    cases hn : num? s t.at_ 48 (v + 1) 3 with
    | none =>
      simp only
      refine ⟨hsame.1, hsame.2.1, hsame.2.2.1, hsame.2.2.2.1, ?_⟩
      rw [hsame.2.2.2.2, fb_cons, fb]; simp
    | some v' =>
      have hle := num_le hn
      simp only
      have ih := first_same s g a0 m v' tb.adv (k + 1) hsame.2.2.2.1 (by show tb.at_ + 1 = _; omega) hle.2 (by omega)
      have ea : tb.adv.at_ = t.at_ + 1 := by show tb.at_ + 1 = _; omega
      rw [ea] at ih
      refine ⟨ih.1, ih.2.1.trans hsame.2.1, ih.2.2.1.trans hsame.2.2.1, ih.2.2.2.1, ?_⟩
      rw [ih.2.2.2.2, fl_adv, hsame.2.2.2.2, fb_cons g a0 v, Option.or_assoc]
theorem num_top (s : ByteArray) (p : Nat) : num? s p 48 1 3 = (num? s p 49 0 2).map (· + 1) := by
  unfold num?
  by_cases h : p < s.size
  · rw [dif_pos h, dif_pos h]
    by_cases h2 : 48 + 1 ≤ s[p].toNat ∧ s[p].toNat ≤ 48 + 3
    · rw [if_pos h2, if_pos (by omega)]; simp; omega
    · rw [if_neg h2, if_neg (by omega)]; rfl
  · rw [dif_neg h, dif_neg h]; rfl
theorem var_same (s : ByteArray) (t : T) (hI : Inv t) (_hat : t.at_ ≤ s.size) :
    (∃ t', qVar s t.n (.ok t.at_) = (none, .error t'.at_) ∧ pVar s t = (false, t')) ∨
    (∃ v t', qVar s t.n (.ok t.at_) = (some v, .ok t'.at_) ∧ pVar s t = (true, t') ∧ t.at_ < t'.at_ ∧ t'.at_ ≤ s.size ∧ t'.n = t.n + 1 ∧ t'.nr = t.nr ∧ t'.chd = t.chd ∧ Inv t' ∧ fl t' = (fl t).or (fb v.1 v.2.2 v.2.1 0)) := by
  unfold qVar pVar
  cases h1 : num? s t.at_ (97 + t.n) 0 0 with
  | none =>
    left
    have e1 : qMust s (.ok t.at_) (97 + t.n) = .error t.at_ := by simp [qMust, qNum, h1, Q.fail]
    rw [e1]; exact ⟨t, rfl, rfl⟩
  | some k1 =>
    have e1 : qMust s (.ok t.at_) (97 + t.n) = .ok (t.at_ + 1) := by simp [qMust, qNum, h1, Q.adv]
    rw [e1]
    simp only
    have a1 : t.adv.at_ = t.at_ + 1 := rfl
    rw [a1, num_top]
    cases h2 : num? s (t.at_ + 1) 49 0 2 with
    | none =>
      left
      have e2 : qBet s (.ok (t.at_ + 1)) 49 2 = (0, .error (t.at_ + 1)) := by simp [qBet, qNum, h2, Q.fail]
      rw [e2]; exact ⟨t.adv, rfl, rfl⟩
    | some g =>
      have e2 : qBet s (.ok (t.at_ + 1)) 49 2 = (g, .ok (t.at_ + 1 + 1)) := by simp [qBet, qNum, h2, Q.adv]
      rw [e2]
      simp only [Option.map_some]
      have a2 : t.adv.adv.at_ = t.at_ + 1 + 1 := rfl
      rw [a2]
      cases h3 : num? s (t.at_ + 1 + 1) 61 0 0 with
      | none =>
        left
        have e3 : qMust s (.ok (t.at_ + 1 + 1)) 61 = .error (t.at_ + 1 + 1) := by simp [qMust, qNum, h3, Q.fail]
        rw [e3]; exact ⟨t.adv.adv, rfl, rfl⟩
      | some k3 =>
        have e3 : qMust s (.ok (t.at_ + 1 + 1)) 61 = .ok (t.at_ + 1 + 1 + 1) := by simp [qMust, qNum, h3, Q.adv]
        rw [e3]
        simp only
        have a3 : t.adv.adv.adv.at_ = t.at_ + 1 + 1 + 1 := rfl
        rw [a3]
        cases h4 : num? s (t.at_ + 1 + 1 + 1) 48 0 3 with
        | none =>
          left
          have e4 : qBet s (.ok (t.at_ + 1 + 1 + 1)) 48 3 = (0, .error (t.at_ + 1 + 1 + 1)) := by simp [qBet, qNum, h4, Q.fail]
          rw [e4]; exact ⟨t.adv.adv.adv, rfl, rfl⟩
        | some v =>
          right
          have hv := (num_le h4).2
          have hl4 := num_lt h4
          have e4 : qBet s (.ok (t.at_ + 1 + 1 + 1)) 48 3 = (v, .ok (t.at_ + 1 + 1 + 1 + 1)) := by simp [qBet, qNum, h4, Q.adv]
          rw [e4]
          simp only [Q.pos]
          rw [qF_acc]
          have a4 : t.adv.adv.adv.adv.at_ = t.at_ + 1 + 1 + 1 + 1 := rfl
          have fs := first_same s (g + 1) (t.at_ + 1 + 1 + 1) 4 v t.adv.adv.adv.adv 0 hI (by rw [a4]) hv (by omega)
          rw [a4] at fs
          have fle := qF_le s 4 v (t.at_ + 1 + 1 + 1 + 1) (by omega)
          refine ⟨(g + 1, v :: (qF s 4 v (t.at_ + 1 + 1 + 1 + 1)).1, t.at_ + 1 + 1 + 1), { pFirst s (g + 1) 4 v t.adv.adv.adv.adv with n := t.n + 1 }, ?_, rfl, ?_, ?_, rfl, fs.2.1, fs.2.2.1, fs.2.2.2.1, ?_⟩
          · show _ = (some _, Except.ok (pFirst s (g + 1) 4 v t.adv.adv.adv.adv).at_)
            rw [fs.1]; rfl
          · show t.at_ < (pFirst s (g + 1) 4 v t.adv.adv.adv.adv).at_; omega
          · show (pFirst s (g + 1) 4 v t.adv.adv.adv.adv).at_ ≤ s.size; omega
          · show fl (pFirst s (g + 1) 4 v t.adv.adv.adv.adv) = _
            rw [fs.2.2.2.2]
            rfl

def qV (s : ByteArray) : Nat → Nat → Nat → Option (List VA) × Q
  | 0, _, i => (some [], .ok i)
  | f + 1, c, i => match qVar s c (.ok i) with
    | (none, q) => (none, q)
    | (some v, q) => if c + 1 < 3 then (match qNum s q 44 0 with
        | some _ => match qV s f (c + 1) (q.pos + 1) with
          | (none, q2) => (none, q2)
          | (some vs, q2) => (some (v :: vs), q2)
        | none => (some [v], q)) else (some [v], q)
theorem qV_acc (s : ByteArray) : ∀ (f i : Nat) (acc : List VA), qVars s f (.ok i) acc = match qV s f acc.length i with
    | (none, q) => (none, q)
    | (some vs, q) => (some (acc ++ vs), q)
  | 0, i, acc => by simp [qVars, qV]
  | f + 1, i, acc => by
    rw [qVars, qV]
    cases hv : qVar s acc.length (.ok i) with
    | mk rv qv =>
    cases rv with
    | none => rfl
    | some v =>
      obtain ⟨j, rfl, hj⟩ := qVar_some hv
      simp only
      by_cases h3 : acc.length + 1 < 3
      · rw [if_pos h3, if_pos h3]
        cases hn : qNum s (.ok j) 44 0 with
        | none => rfl
        | some k =>
          simp only [Q.adv, Q.pos]
          rw [qV_acc s f (j + 1) (acc ++ [v]), List.length_append, List.length_singleton]
          cases qV s f (acc.length + 1) (j + 1) with
          | mk r q => cases r <;> simp
      · rw [if_neg h3, if_neg h3]
theorem wv_cons (v : VA) (l : List VA) : wv (v :: l) = (fb v.1 v.2.2 v.2.1 0).or (wv l) := by
  rw [wv]; cases fb v.1 v.2.2 v.2.1 0 <;> rfl
theorem vars_same (s : ByteArray) : ∀ (f F : Nat) (t : T), Inv t → f + t.n = 3 → t.n < 3 → t.at_ ≤ s.size → s.size + 1 ≤ t.at_ + F →
    (∃ p, qV s f t.n t.at_ = (none, .error p) ∧ pRun s F 1 t = (2, p)) ∨
    (∃ vs j F' t', qV s f t.n t.at_ = (some vs, .ok j) ∧ pRun s F 1 t = pRun s F' 2 t' ∧ t'.at_ = j ∧ j ≤ s.size ∧ s.size + 1 ≤ t'.at_ + F' ∧ t'.n = t.n + vs.length ∧ t'.nr = t.nr ∧ t'.chd = t.chd ∧ Inv t' ∧ fl t' = (fl t).or (wv vs))
  | 0, F, t, hI, hf, hn, h1, h3 => by omega
  | f + 1, 0, t, hI, hf, hn, h1, h3 => by omega
  | f + 1, F + 1, t, hI, hf, hn, h1, h3 => by
    rw [qV, pRun]
    rcases var_same s t hI h1 with ⟨t', e1, e2⟩ | ⟨v, t', e1, e2, hlt, hle, en, enr, ec, hI', ef⟩
    · left; rw [e1, e2]; exact ⟨_, rfl, rfl⟩
    · rw [e1, e2]
      simp only
      rw [en]
      by_cases h : t.n + 1 < 3
      · rw [if_pos h, if_pos h]
        simp only [qNum, Q.pos]
        cases h44 : num? s t'.at_ 44 0 0 with
        | none =>
          right
          simp only
          refine ⟨[v], t'.at_, F, t', rfl, rfl, rfl, hle, by omega, by rw [en]; rfl, enr, ec, hI', ?_⟩
          rw [ef, wv_cons, wv]; simp
        | some k =>
          have hl := num_lt h44
          simp only
          have ea : t'.adv.at_ = t'.at_ + 1 := rfl
          have en' : t'.adv.n = t.n + 1 := en
          have ih := vars_same s f F t'.adv hI' (by omega) (by omega) (by omega) (by omega)
          rw [ea, en'] at ih
          rcases ih with ⟨p, i1, i2⟩ | ⟨vs, j, F', t2, i1, i2, i3, i4, i5, i6, i7, i8, i9, i10⟩
          · left; rw [i1]; exact ⟨p, rfl, i2⟩
          · right
            rw [i1]
            refine ⟨v :: vs, j, F', t2, rfl, i2, i3, i4, i5, by rw [i6, List.length_cons]; omega, i7.trans enr, i8.trans ec, i9, ?_⟩
            rw [i10, fl_adv, ef, wv_cons, Option.or_assoc]
      · rw [if_neg h, if_neg h]
        right
        refine ⟨[v], t'.at_, F, t', rfl, rfl, rfl, hle, by omega, by rw [en]; rfl, enr, ec, hI', ?_⟩
        rw [ef, wv_cons, wv]; simp

theorem check_same (s : ByteArray) : toI (pCheck s) = rCheck s := by
  unfold pCheck rCheck
  by_cases h : 120 < s.size
  · rw [if_pos h, if_pos h]; rfl
  · rw [if_neg h, if_neg h]
    unfold qRead
    rw [qV_acc]
    have hI : Inv T0 := fun _ => rfl
    have hv := vars_same s 3 (s.size + 1) T0 hI rfl (by show 0 < 3; omega) (Nat.zero_le _) (by show _ ≤ 0 + (s.size + 1); omega)
    have e0 : T0.at_ = 0 := rfl
    have e1 : T0.n = 0 := rfl
    rw [e0, e1] at hv
    have el : ([] : List VA).length = 0 := rfl
    rw [el]
    rcases hv with ⟨p, i1, i2⟩ | ⟨vs, j, F', t', i1, i2, i3, i4, i5, i6, i7, i8, i9, i10⟩
    · rw [i1, i2]; rfl
    · rw [i1, i2]
      simp only [List.nil_append, Q.pos]
      rw [qR_acc]
      have hr := rules_same s (by omega) 121 F' t' i9 i8 (by omega) (by omega) i5
      have er : t'.nr = 0 := i7
      have en : t'.n = vs.length := by rw [i6]; simp
      rw [i3, er, en] at hr
      have el2 : ([] : List RA).length = 0 := rfl
      rw [el2]
      rcases hr with ⟨p, k1, k2⟩ | ⟨rs, j2, k1, k2⟩
      · rw [k1, k2]; rfl
      · rw [k1, k2]
        simp only [List.nil_append]
        unfold wrongP
        have hf : fl T0 = none := rfl
        rw [i10, hf]
        cases wv vs <;> rfl
end Go.Proofs.YtgoebckimmofoaaGreatDoor
