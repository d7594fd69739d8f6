import Derived.Lib.TrailingZeros
import Derived.Test.YtgoebckimmofoaaGreatDoorRows
import Derived.WalkKit
import Derived.WalkSpells
import Derived.WalkLawsBesides
import Derived.Deep.QuietTactic
import Derived.BigQuiet
import Derived.RegionTactic
import Derived.Scope
import Derived.WalkMore
import Derived.Deep.LoopGhost
import Derived.Deep.AppendLies
import Derived.Deep.RegionHeld3
import Derived.Laws.Bits64b
import Derived.Laws.IdiomStrings
import Derived.Maps.AppendAt
import Derived.RangeFuncBox
import Derived.Deep.RegionLaw
import Derived.Deep.RegionHeld
import Derived.RangeFuncNested
import Derived.RangeFuncBound
import Derived.RangeFuncCalls
import Derived.RangeFuncLeaves
import Derived.Shelf.Abstract
import Derived.Shelf.RegionOpen
import Derived.OwnWalkIn
import Derived.TacticsInMore
import Derived.LoopNIn
import Derived.LoopIn
import Derived.Stop.RegionWithIn
import Derived.MapKept
import Derived.Lib.Bytealg
import Derived.Lib.IndexLaws
import Derived.Laws.EntriesVeiled
import Derived.Deep.DrawnRows
import Derived.Deep.OwnRows
import Derived.Test.YtgoebckimmofoaaGreatDoorM1
import Derived.Test.YtgoebckimmofoaaGreatDoorM2
import Derived.Test.YtgoebckimmofoaaGreatDoorM4
import Derived.Test.YtgoebckimmofoaaGreatDoorM7
import Derived.Test.YtgoebckimmofoaaGreatDoorM9
import Derived.Test.YtgoebckimmofoaaGreatDoorM11
import Derived.Test.YtgoebckimmofoaaGreatDoorM16
import Derived.Test.YtgoebckimmofoaaGreatDoorM17
import Derived.Test.YtgoebckimmofoaaGreatDoorM18
import Derived.Test.YtgoebckimmofoaaGreatDoorM19
import Derived.Test.YtgoebckimmofoaaGreatDoorM20
import Derived.Test.YtgoebckimmofoaaGreatDoorM21
import Derived.Test.YtgoebckimmofoaaGreatDoorM23
import Derived.Test.YtgoebckimmofoaaGreatDoorM5
import Derived.Test.YtgoebckimmofoaaGreatDoorM8
/- The code's reader of formulas reads what the document's does. Our own text: no walk in it. -/
namespace Go.Proofs.YtgoebckimmofoaaGreatDoor
open Go.RowKit Go.Lib
def C.made (c : C) (o : Nat) (f : G) (S : List (Nat × G)) : C := { c with st := S, g := (bld o f c.g c.ps).1, ps := (bld o f c.g c.ps).2 }
section
variable {s : ByteArray} {x : FSt} {c c2 c4 : C} {o n : Nat} {f : G} {S : List (Nat × G)} {φ ψ : Fm}
theorem fin_made {l : ByteArray} (hs : c.st = (o, f) :: S) (h : inS l o = true) : c.fin l = (c.made o f S).fin l := fin_yes hs h
theorem Rel.made (h : Rel s x c) (hs : c.st = (o, f) :: S) (ho : o = 33 ∨ o = 88 ∨ o = 70 ∨ o = 71 ∨ o = 38 ∨ o = 124 ∨ o = 85 ∨ o = 82 ∨ o = 87) : Rel s x (c.made o f S) := by
  refine ⟨h.q, h.o, h.d, ?_, h.le, h.inv, h.ol⟩
  have e := h.g
  rw [hs] at e
  show x.wgt = (bld o f c.g c.ps).2.length + pend S
  rw [bld_len ho, e]
  show c.ps.length + (wt o + pend S) = _
  omega
theorem Out.un (ho : o = 33 ∨ o = 88 ∨ o = 70 ∨ o = 71) (k : Out s (c.sign o).push φ c4) : Out s c (.un o φ) (c4.made o c.g c.st) := by
  refine ⟨?_, ?_, rfl, k.n, k.fl, Nat.lt_trans (Nat.lt_succ_self _) k.lt⟩
  · show (bld o c.g c4.g c4.ps).1 = (bld o (fun _ _ => true) (tr s φ c.ps).1 (tr s φ c.ps).2).1
    rw [k.g, k.ps, bld_un ho c.g (fun _ _ => true)]; rfl
  · show (bld o c.g c4.g c4.ps).2 = (bld o (fun _ _ => true) (tr s φ c.ps).1 (tr s φ c.ps).2).2
    rw [k.g, k.ps, bld_un ho c.g (fun _ _ => true)]; rfl
theorem nmO_bin (n : Nat) (φ ψ : Fm) : nmO n (.bin o φ ψ) = (nmO n φ).or (nmO n ψ) := by
  have e : nmF n (.bin o φ ψ) = if 0 ≤ nmF n φ then nmF n φ else nmF n ψ := rfl
  unfold nmO
  rw [e]
  by_cases h : 0 ≤ nmF n φ
  · simp [h]
  · simp [h]
theorem Out.bin (h : Out s c φ c2) (k : Out s (c2.sign o).push ψ c4) : Out s c (.bin o φ ψ) (c4.made o c2.g c.st) := by
  refine ⟨?_, ?_, rfl, k.n.trans h.n, ?_, Nat.lt_trans h.lt (Nat.lt_trans (Nat.lt_succ_self _) k.lt)⟩
  · show (bld o c2.g c4.g c4.ps).1 = (bld o (tr s φ c.ps).1 (tr s ψ (tr s φ c.ps).2).1 (tr s ψ (tr s φ c.ps).2).2).1
    have e : (c2.sign o).push.ps = (tr s φ c.ps).2 := h.ps
    rw [k.g, k.ps, e, h.g]
  · show (bld o c2.g c4.g c4.ps).2 = (bld o (tr s φ c.ps).1 (tr s ψ (tr s φ c.ps).2).1 (tr s ψ (tr s φ c.ps).2).2).2
    have e : (c2.sign o).push.ps = (tr s φ c.ps).2 := h.ps
    rw [k.g, k.ps, e, h.g]
  · have e1 : Go.Proofs.YtgoebckimmofoaaGreatDoor.fl (c2.sign o).push.t = Go.Proofs.YtgoebckimmofoaaGreatDoor.fl c2.t := rfl
    have e2 : (c2.sign o).push.t.n = c.t.n := h.n
    show Go.Proofs.YtgoebckimmofoaaGreatDoor.fl c4.t = _
    rw [k.fl, e1, e2, h.fl, nmO_bin, Option.or_assoc]
theorem Rel.push (h : Rel s x c) (hl : c.t.at_ < s.size) (o : Nat) : Rel s { x.adv with wgt := x.wgt + wt o } (c.sign o).push := by
  refine ⟨?_, h.o, h.d, ?_, hl, h.inv, Nat.le_succ_of_le h.ol⟩
  · show x.q.adv = _
    rw [h.q]; rfl
  · show x.wgt + wt o = c.ps.length + (wt o + pend c.st)
    rw [h.g]; omega
theorem up_eq (ho : o = 33 ∨ o = 88 ∨ o = 70 ∨ o = 71) : x.up o = { x.adv with wgt := x.wgt + wt o } := by
  rcases ho with rfl | rfl | rfl | rfl <;> rfl
theorem in_aheads (ho : o = 33 ∨ o = 88 ∨ o = 70 ∨ o = 71) : inS aheads o = true ∧ o < 256 ∧ o ≠ 40 := by
  rcases ho with rfl | rfl | rfl | rfl <;> decide
/-- One, with a sign ahead of it. -/
theorem ends_un (ho : o = 33 ∨ o = 88 ∨ o = 70 ∨ o = 71) (hR : Rel s x c) (hi : isC s x.q o = true) (ih : ∀ c1, Rel s (x.up o) c1 → Ends s (pF s n 0 (x.up o)) c1 (F0 s) 2) : Ends s (.un o (pF s n 0 (x.up o)).1, (pF s n 0 (x.up o)).2) c (F0 s) 2 := by
  rw [hR.q] at hi
  obtain ⟨hin, h256, h40⟩ := in_aheads ho
  obtain ⟨hl, _⟩ := byte_is h256 hi
  have hstep := step_push (s := s) (c := c) (o := o) hl (fun k => by
    rw [fRun0]; unfold st0; rw [num_else h256 hi h40, one_is h256 hi hin])
  have h := ih (c.sign o).push (by rw [up_eq ho]; exact hR.push hl o)
  cases hq : (pF s n 0 (x.up o)).2.q with
  | error p => exact h.pre hq hstep hq
  | ok j =>
    unfold Ends at h ⊢
    rw [hq] at h
    simp only [hq]
    obtain ⟨c4, r4, o4, hk⟩ := h
    refine ⟨c4.made o c.g c.st, r4.made o4.st (by omega), Out.un ho o4, fun k hk0 => ?_⟩
    obtain ⟨k1, h1, h2⟩ := hstep k hk0
    obtain ⟨k2, h3, h4⟩ := hk k1 h1
    refine ⟨k2, h3, ?_⟩
    rw [h2, h4]
    obtain ⟨k3, rfl⟩ : ∃ k3, k2 = k3 + 1 := ⟨k2 - 1, by omega⟩
    unfold F0
    rw [fRun1, fRun1]
    unfold st1
    have e4 : c4.st = (o, c.g) :: c.st := o4.st
    rw [fin_made e4 hin]
theorem one_none (h : ∀ c, c = 33 ∨ c = 88 ∨ c = 70 ∨ c = 71 → isC s (.ok o) c = false) : oneOf? s o aheads.data.toList = none := by
  refine one_else (fun u hu => ?_)
  have : u = 33 ∨ u = 88 ∨ u = 70 ∨ u = 71 := by simpa [aheads] using hu
  rcases this with rfl | rfl | rfl | rfl
  · exact h 33 (by omega)
  · exact h 88 (by omega)
  · exact h 70 (by omega)
  · exact h 71 (by omega)
theorem Out.tt {t : T} (ht : t.n = c.t.n) (hf : Go.Proofs.YtgoebckimmofoaaGreatDoor.fl t = Go.Proofs.YtgoebckimmofoaaGreatDoor.fl c.t) (hl : c.t.at_ < t.at_) : Out s c .tt ((c.to t).is (fun _ _ => true)) := by
  refine ⟨?_, rfl, rfl, ht, ?_, hl⟩
  · show (fun _ _ => true) = (fun x _ => if 84 = 84 then true else cdP s ((0, 0, 0), (0, 0, 0)) x)
    rfl
  · show Go.Proofs.YtgoebckimmofoaaGreatDoor.fl t = _
    rw [hf]
    have : nmO c.t.n .tt = none := rfl
    rw [this]; simp
theorem nmO_cond (n : Nat) (c : Tm × Tm) : nmO n (.cond c) = condO n c := rfl
/-- One, without a sign ahead of it. -/
theorem ends_tail (hR : Rel s x c) (hno : ∀ u, u = 33 ∨ u = 88 ∨ u = 70 ∨ u = 71 → isC s x.q u = false) (ih : isC s x.q 40 = true → ∀ c1, Rel s x.adv.in c1 → waitsP aheads c1.st = false → waitsP pairs c1.st = false → waitsP ands c1.st = false → Ends s (pF s n 3 x.adv.in) c1 (F3 s) 0) (hop : (pF s n 3 x.adv.in).2.opn = x.opn + 1) : Ends s (tailU s n x) c (F0 s) 2 := by
  have hone := one_none (s := s) (o := c.t.at_) (fun u hu => by rw [← hR.q]; exact hno u hu)
  unfold tailU
  by_cases hT : isC s x.q 84 = true
  · rw [if_pos hT]
    rw [hR.q] at hT
    obtain ⟨hl, _⟩ := byte_is (by omega) hT
    obtain ⟨k84, h84⟩ := is_num hT
    have hq : x.adv.q = .ok (c.t.at_ + 1) := by show x.q.adv = _; rw [hR.q]; rfl
    unfold Ends
    simp only [hq]
    refine ⟨(c.to c.t.adv).is (fun _ _ => true), ⟨hq, hR.o, hR.d, hR.g, hl, hR.inv, Nat.le_succ_of_le hR.ol⟩, Out.tt rfl rfl (Nat.lt_succ_self _), fun k hk => ?_⟩
    unfold Mz at hk
    obtain ⟨k', rfl⟩ : ∃ k', k = k' + 1 := ⟨k - 1, by omega⟩
    refine ⟨k', by show 2 * (s.size - (c.t.at_ + 1)) + 2 ≤ k'; omega, ?_⟩
    rw [fRun0]; unfold st0
    rw [num_else (by omega) hT (by omega), hone, h84]; rfl
  · rw [if_neg hT]
    have hT' : isC s (.ok c.t.at_) 84 = false := by rw [← hR.q]; simpa using hT
    by_cases hP : isC s x.q 40 = true
    · rw [if_pos hP]
      have ih := ih hP
      rw [hR.q] at hP
      obtain ⟨hl, _⟩ := byte_is (by omega) hP
      obtain ⟨k40, h40⟩ := is_num hP
      have hrel : Rel s x.adv.in c.opens := by
        refine ⟨by show x.q.adv = _; rw [hR.q]; rfl, by show x.opn + 1 = c.opn + 1; rw [hR.o], ?_, by show x.wgt = c.ps.length + (wt 40 + pend c.st); rw [hR.g]; simp [wt], hl, hR.inv, Nat.succ_le_succ hR.ol⟩
        show (if 10 < x.opn + 1 ∧ x.deep < 0 then (x.q.adv.pos : Int) - 1 else x.deep) = -1 ∧ (if 10 < c.opn + 1 ∧ c.deep = 0 then c.t.at_ else c.deep) = 0 ∨ (if 10 < x.opn + 1 ∧ x.deep < 0 then (x.q.adv.pos : Int) - 1 else x.deep) = ((if 10 < c.opn + 1 ∧ c.deep = 0 then c.t.at_ else c.deep : Nat) : Int) ∧ 0 < (if 10 < c.opn + 1 ∧ c.deep = 0 then c.t.at_ else c.deep)
        rw [hR.o, hR.q]
        have hol := hR.ol
        have e : (Q.pos (Q.adv (.ok c.t.at_)) : Int) - 1 = (c.t.at_ : Int) := by show ((c.t.at_ + 1 : Nat) : Int) - 1 = _; omega
        rw [e]
        rcases hR.d with ⟨h1, h2⟩ | ⟨h1, h2⟩
        · by_cases h10 : 10 < c.opn + 1
          · rw [if_pos ⟨h10, by omega⟩, if_pos ⟨h10, h2⟩]; exact .inr ⟨rfl, by omega⟩
          · rw [if_neg (fun h => h10 h.1), if_neg (fun h => h10 h.1)]; exact .inl ⟨h1, h2⟩
        · rw [if_neg (fun h => by omega), if_neg (fun h => by omega)]; exact .inr ⟨h1, h2⟩
      have hstep : ∀ k, Mz s 0 c ≤ k → ∃ k', Mz s 0 c.opens ≤ k' ∧ fRun s k 0 c = fRun s k' 0 c.opens := fun k hk => by
        unfold Mz at *
        obtain ⟨k', rfl⟩ : ∃ k', k = k' + 1 := ⟨k - 1, by omega⟩
        refine ⟨k', by show 2 * (s.size - (c.t.at_ + 1)) + 1 + 0 % 2 ≤ k'; omega, ?_⟩
        rw [fRun0]; unfold st0; rw [h40]
      have h := ih c.opens hrel rfl rfl rfl
      cases hq : (pF s n 3 x.adv.in).2.q with
      | error p => exact h.pre hq hstep (by show qMust s (pF s n 3 x.adv.in).2.q 41 = _; rw [hq]; rfl)
      | ok j =>
        unfold Ends at h
        rw [hq] at h
        simp only at h
        obtain ⟨c4, r4, o4, hk⟩ := h
        have ej : j = c4.t.at_ := by have := r4.q; rw [hq] at this; simpa using this
        have hfin : c4.fin ors = c4 := fin_no (by rw [o4.st]; rfl)
        have hopn : ¬ c4.opn = 0 := by rw [← r4.o, hop]; omega
        cases h41 : num? s c4.t.at_ 41 0 0 with
        | none =>
          have hq2 : qMust s (pF s n 3 x.adv.in).2.q 41 = .error c4.t.at_ := by rw [hq, ej]; unfold qMust qNum; simp only [h41]; rfl
          unfold Ends
          simp only [hq2]
          intro k hk0
          obtain ⟨k1, h1, h2⟩ := hstep k hk0
          obtain ⟨k2, h3, h4⟩ := hk k1 h1
          refine ⟨c4, ?_, rfl⟩
          rw [h2, h4]; unfold F3 stB
          rw [hfin]; simp only [if_neg hopn, h41]
        | some k41 =>
          have hq2 : qMust s (pF s n 3 x.adv.in).2.q 41 = .ok (c4.t.at_ + 1) := by rw [hq, ej]; unfold qMust qNum; simp only [h41]; rfl
          have hl4 := num_lt h41
          unfold Ends
          simp only [hq2]
          refine ⟨c4.closes, ⟨rfl, ?_, r4.d, ?_, hl4, r4.inv, by show c4.opn - 1 ≤ c4.t.at_ + 1; have := r4.ol; omega⟩, ⟨o4.g, o4.ps, ?_, o4.n, o4.fl, Nat.lt_trans (Nat.lt_trans (Nat.lt_succ_self _) o4.lt) (Nat.lt_succ_self _)⟩, fun k hk0 => ?_⟩
          · show x.opn = c4.opn - 1
            rw [← r4.o, hop]; omega
          · show (pF s n 3 x.adv.in).2.wgt = c4.ps.length + pend c4.st.tail
            rw [r4.g, o4.st]
            show c4.ps.length + (wt 40 + pend c.st) = _
            simp [wt, C.opens]
          · show c4.st.tail = _
            rw [o4.st]; rfl
          · obtain ⟨k1, h1, h2⟩ := hstep k hk0
            obtain ⟨k2, h3, h4⟩ := hk k1 h1
            refine ⟨k2, by show 2 * (s.size - (c4.t.at_ + 1)) + 2 ≤ k2; omega, ?_⟩
            rw [h2, h4]; unfold F3 stB
            rw [hfin]; simp only [if_neg hopn, h41]; rfl
    · rw [if_neg hP]
      have hP' : isC s (.ok c.t.at_) 40 = false := by rw [← hR.q]; simpa using hP
      rcases cond_same s c.t hR.inv with ⟨t', h1, h2⟩ | ⟨cd, t', h1, h2, _, hst⟩
      · rw [hR.q, h1]
        unfold Ends
        simp only
        intro k hk
        unfold Mz at hk
        obtain ⟨k', rfl⟩ : ∃ k', k = k' + 1 := ⟨k - 1, by omega⟩
        refine ⟨c.to t', ?_, rfl⟩
        rw [fRun0]; unfold st0
        rw [not_num hP', hone, not_num hT', h2]
      · rw [hR.q, h1]
        have hle : c.t.at_ + 3 ≤ s.size := (qCond_ok h1).2
        have hcd := cdOf_q h1
        unfold Ends
        simp only
        refine ⟨(c.to t').is (fun x _ => cdP s (cdOf s c.t.at_) x), ⟨by show _ = Except.ok t'.at_; rw [hst.at_], hR.o, hR.d, hR.g, by show t'.at_ ≤ _; rw [hst.at_]; exact hle, hst.inv, by show c.opn ≤ t'.at_; rw [hst.at_]; have := hR.ol; omega⟩, ⟨?_, rfl, rfl, hst.n, ?_, by show c.t.at_ < t'.at_; rw [hst.at_]; omega⟩, fun k hk => ?_⟩
        · show (fun x _ => cdP s (cdOf s c.t.at_) x) = (fun x _ => if 99 = 84 then true else cdP s cd x)
          rw [hcd]; rfl
        · rw [nmO_cond]; exact hst.fl
        · unfold Mz at hk
          obtain ⟨k', rfl⟩ : ∃ k', k = k' + 1 := ⟨k - 1, by omega⟩
          refine ⟨k', by show 2 * (s.size - t'.at_) + 2 ≤ k'; rw [hst.at_]; omega, ?_⟩
          rw [fRun0]; unfold st0
          rw [not_num hP', hone, not_num hT', h2]; rfl
theorem pF0' (s : ByteArray) (n : Nat) (x : FSt) : pF s (n + 1) 0 x = tryU s n x [33, 88, 70, 71] := by
  rw [pF0]; rfl
theorem need_ok {m m' : Nat} {y : FSt} (h : need s m x ≤ n + 1) (hm : m' ≤ 3) (hx : x.q = .ok o) (hy : ∃ j, y.q = .ok j ∧ o < j ∧ o < s.size) : need s m' y ≤ n := by
  obtain ⟨j, h1, h2, h3⟩ := hy
  unfold need Q.top at *
  rw [hx] at h
  rw [h1]
  simp only at *
  omega
theorem ends_one (hR : Rel s x c) (hn : need s 0 x ≤ n + 1) (ih0 : ∀ x c, Rel s x c → need s 0 x ≤ n → Ends s (pF s n 0 x) c (F0 s) 2)
    (ih3 : ∀ x c, Rel s x c → need s 3 x ≤ n → waitsP aheads c.st = false → waitsP pairs c.st = false → waitsP ands c.st = false → Ends s (pF s n 3 x) c (F3 s) 0) : Ends s (pF s (n + 1) 0 x) c (F0 s) 2 := by
  rw [pF0']
  have hu : ∀ u, u = 33 ∨ u = 88 ∨ u = 70 ∨ u = 71 → isC s x.q u = true → Ends s (.un u (pF s n 0 (x.up u)).1, (pF s n 0 (x.up u)).2) c (F0 s) 2 := fun u hu hi =>
    ends_un hu hR hi (fun c1 h1 => ih0 _ c1 h1 (need_ok hn (by omega) hR.q ⟨c.t.at_ + 1, by rw [up_eq hu]; show x.q.adv = _; rw [hR.q]; rfl, Nat.lt_succ_self _, by
      rw [hR.q] at hi; exact (byte_is (in_aheads hu).2.1 hi).1⟩))
  unfold tryU
  by_cases h33 : isC s x.q 33 = true
  · rw [if_pos h33]; exact hu 33 (by omega) h33
  rw [if_neg h33]
  unfold tryU
  by_cases h88 : isC s x.q 88 = true
  · rw [if_pos h88]; exact hu 88 (by omega) h88
  rw [if_neg h88]
  unfold tryU
  by_cases h70 : isC s x.q 70 = true
  · rw [if_pos h70]; exact hu 70 (by omega) h70
  rw [if_neg h70]
  unfold tryU
  by_cases h71 : isC s x.q 71 = true
  · rw [if_pos h71]; exact hu 71 (by omega) h71
  rw [if_neg h71]
  unfold tryU
  refine ends_tail hR (fun u hu => ?_) (fun hP c1 h1 w1 w2 w3 => ih3 _ c1 h1 (need_ok hn (by omega) hR.q ⟨c.t.at_ + 1, by show x.q.adv = _; rw [hR.q]; rfl, Nat.lt_succ_self _, by
      rw [hR.q] at hP; exact (byte_is (by omega) hP).1⟩) w1 w2 w3) ?_
  · rcases hu with rfl | rfl | rfl | rfl <;> simp_all
  · rw [pF_opn]; rfl
end
/-- A sign between two. -/
theorem ends_bin {s : ByteArray} {x : FSt} {c : C} {r r' : Fm × FSt} {o : Nat} {F F' : Nat → C → Bool × C} {d d' : Nat} (ho : o = 38 ∨ o = 124 ∨ o = 85 ∨ o = 82 ∨ o = 87) {c2 : C} (r2 : Rel s r.2 c2) (o2 : Out s c r.1 c2) (hi : isC s r.2.q o = true)
    (hk : ∀ k, Mz s 0 c ≤ k → ∃ k', Mz s 0 (c2.sign o).push ≤ k' ∧ fRun s k 0 c = fRun s k' 0 (c2.sign o).push) (hx : x = { r.2.adv with wgt := r.2.wgt + wt o })
    (ih : ∀ c1, Rel s x c1 → c1.st = (o, c2.g) :: c.st → Ends s r' c1 F d) (hF : ∀ k (c4 : C), c4.st = (o, c2.g) :: c.st → 2 * (s.size - c4.t.at_) + d ≤ k → ∃ k', 2 * (s.size - c4.t.at_) + d' ≤ k' ∧ F k c4 = F' k' (c4.made o c2.g c.st)) : Ends s (.bin o r.1 r'.1, r'.2) c F' d' := by
  rw [r2.q] at hi
  obtain ⟨hl, _⟩ := byte_is (by omega) hi
  have h := ih (c2.sign o).push (by rw [hx]; exact r2.push hl o) (by show (o, c2.g) :: c2.st = _; rw [o2.st])
  cases hq : r'.2.q with
  | error p => exact h.pre hq hk hq
  | ok j =>
    unfold Ends at h ⊢
    rw [hq] at h
    simp only [hq]
    obtain ⟨c4, r4, o4, hk4⟩ := h
    have e4 : c4.st = (o, c2.g) :: c.st := by rw [o4.st]; show (o, c2.g) :: c2.st = _; rw [o2.st]
    refine ⟨c4.made o c2.g c.st, r4.made e4 (by omega), Out.bin o2 o4, fun k hk0 => ?_⟩
    obtain ⟨k1, h1, h2⟩ := hk k hk0
    obtain ⟨k2, h3, h4⟩ := hk4 k1 h1
    obtain ⟨k3, h5, h6⟩ := hF k2 c4 e4 h3
    exact ⟨k3, h5, by rw [h2, h4, h6]⟩
section
variable {s : ByteArray} {x : FSt} {c : C} {n : Nat}
theorem err_isC {q : Q} {p o : Nat} (h : q = .error p) : isC s q o = false := by rw [h]; rfl
theorem pairs_none {i : Nat} (h1 : isC s (.ok i) 85 = false) (h2 : isC s (.ok i) 82 = false) (h3 : isC s (.ok i) 87 = false) : oneOf? s i pairs.data.toList = none := by
  refine one_else (fun u hu => ?_)
  have : u = 85 ∨ u = 82 ∨ u = 87 := by simpa [pairs] using hu
  rcases this with rfl | rfl | rfl
  · exact h1
  · exact h2
  · exact h3
theorem ands_none {i : Nat} (h1 : isC s (.ok i) 38 = false) : oneOf? s i ands.data.toList = none := by
  refine one_else (fun u hu => ?_)
  have : u = 38 := by simpa [ands] using hu
  rw [this]; exact h1
theorem ors_none {i : Nat} (h1 : isC s (.ok i) 124 = false) : oneOf? s i ors.data.toList = none := by
  refine one_else (fun u hu => ?_)
  have : u = 124 := by simpa [ors] using hu
  rw [this]; exact h1
theorem Ends.err {r : Fm × FSt} {F F' : Nat → C → Bool × C} {d d' p : Nat} (h : Ends s r c F d) (hq : r.2.q = .error p) : Ends s r c F' d' := by
  unfold Ends at h ⊢
  rw [hq] at h ⊢
  exact h
theorem ends_pair (hR : Rel s x c) (hn : need s 1 x ≤ n + 1) (hw : waitsP aheads c.st = false) (hp : waitsP pairs c.st = false) (ih0 : ∀ x c, Rel s x c → need s 0 x ≤ n → Ends s (pF s n 0 x) c (F0 s) 2) : Ends s (pF s (n + 1) 1 x) c (F1 s) 1 := by
  have h0 := ih0 x c hR (need_le hn (by omega) (fun j h => ⟨j, h, Nat.le_refl _⟩))
  rw [pF1]
  generalize hr : pF s n 0 x = r at h0 ⊢
  dsimp only
  cases hq : r.2.q with
  | error p =>
    rw [if_neg (by rw [err_isC rfl]; simp), if_neg (by rw [err_isC rfl]; simp), if_neg (by rw [err_isC rfl]; simp)]
    exact h0.err hq
  | ok j =>
    have h0' := h0
    unfold Ends at h0
    rw [hq] at h0
    obtain ⟨c2, r2, o2, hk⟩ := h0
    have ej : j = c2.t.at_ := by have := r2.q; rw [hq] at this; simpa using this
    have hfin : c2.fin aheads = c2 := fin_no (by rw [o2.st]; exact hw)
    have hwp : waitsP pairs c2.st = false := by rw [o2.st]; exact hp
    have key : ∀ u, u = 85 ∨ u = 82 ∨ u = 87 → isC s (.ok j) u = true → Ends s (.bin u r.1 (pF s n 0 r.2.adv.hvy).1, (pF s n 0 r.2.adv.hvy).2) c (F1 s) 1 := fun u hu hi => by
      have hin : inS pairs u = true ∧ inS aheads u = false ∧ u < 256 := by rcases hu with rfl | rfl | rfl <;> decide
      have hi' := hi
      rw [ej] at hi'
      obtain ⟨hl, _⟩ := byte_is hin.2.2 hi'
      have hx : r.2.adv.hvy = { r.2.adv with wgt := r.2.wgt + wt u } := by rcases hu with rfl | rfl | rfl <;> rfl
      refine ends_bin (x := r.2.adv.hvy) (by omega) r2 o2 (by rw [hq]; exact hi) (fun k hk0 => ?_) hx (fun c1 h1 _ => ih0 _ c1 h1 (need_ok hn (by omega) hR.q ⟨j + 1, by show r.2.q.adv = _; rw [hq]; rfl, by have := o2.lt; omega, by have := o2.lt; omega⟩)) (fun k c4 e4 hk4 => ?_)
      · obtain ⟨k1, h1, h2⟩ := hk k hk0
        obtain ⟨k2, rfl⟩ : ∃ k2, k1 = k2 + 2 := ⟨k1 - 2, by omega⟩
        refine ⟨k2, by unfold Mz; show 2 * (s.size - (c2.t.at_ + 1)) + 1 + 0 % 2 ≤ k2; omega, ?_⟩
        rw [h2]; unfold F0
        rw [fRun1]; unfold st1
        simp only [hfin, hwp, one_is hin.2.2 hi' hin.1, Bool.false_eq_true, if_false]; rfl
      · obtain ⟨k1, rfl⟩ : ∃ k1, k = k1 + 2 := ⟨k - 2, by omega⟩
        refine ⟨k1 + 1, by omega, ?_⟩
        have hf4 : c4.fin aheads = c4 := fin_no (by rw [e4]; exact hin.2.1)
        have hw4 : waitsP pairs c4.st = true := by rw [e4]; exact hin.1
        unfold F0 F1
        rw [fRun1]; unfold st1
        simp only [hf4, hw4, if_true]
        rw [fRun2, fRun2]; unfold st2
        rw [fin_made e4 hin.1]
    by_cases h85 : isC s (.ok j) 85 = true
    · rw [if_pos h85]; exact key 85 (by omega) h85
    rw [if_neg h85]
    by_cases h82 : isC s (.ok j) 82 = true
    · rw [if_pos h82]; exact key 82 (by omega) h82
    rw [if_neg h82]
    by_cases h87 : isC s (.ok j) 87 = true
    · rw [if_pos h87]; exact key 87 (by omega) h87
    rw [if_neg h87]
    have hno := pairs_none (s := s) (i := j) (by simpa using h85) (by simpa using h82) (by simpa using h87)
    unfold Ends
    rw [hq]
    refine ⟨c2, r2, o2, fun k hk0 => ?_⟩
    obtain ⟨k1, h1, h2⟩ := hk k hk0
    obtain ⟨k2, rfl⟩ : ∃ k2, k1 = k2 + 1 := ⟨k1 - 1, by omega⟩
    refine ⟨k2, by omega, ?_⟩
    rw [h2]; unfold F0 F1
    rw [fRun1]; unfold st1
    rw [ej] at hno
    simp only [hfin, hwp, hno, Bool.false_eq_true, if_false]
theorem ends_both (hR : Rel s x c) (hn : need s 2 x ≤ n + 1) (hw : waitsP aheads c.st = false) (hp : waitsP pairs c.st = false)
    (ih1 : ∀ x c, Rel s x c → need s 1 x ≤ n → waitsP aheads c.st = false → waitsP pairs c.st = false → Ends s (pF s n 1 x) c (F1 s) 1)
    (ih2 : ∀ x c, Rel s x c → need s 2 x ≤ n → waitsP aheads c.st = false → waitsP pairs c.st = false → Ends s (pF s n 2 x) c (F2 s) 0) : Ends s (pF s (n + 1) 2 x) c (F2 s) 0 := by
  have h0 := ih1 x c hR (need_le hn (by omega) (fun j h => ⟨j, h, Nat.le_refl _⟩)) hw hp
  rw [pF2]
  generalize hr : pF s n 1 x = r at h0 ⊢
  dsimp only
  cases hq : r.2.q with
  | error p =>
    rw [if_neg (by rw [err_isC rfl]; simp)]
    exact h0.err hq
  | ok j =>
    unfold Ends at h0
    rw [hq] at h0
    obtain ⟨c2, r2, o2, hk⟩ := h0
    have ej : j = c2.t.at_ := by have := r2.q; rw [hq] at this; simpa using this
    have hfin : c2.fin pairs = c2 := fin_no (by rw [o2.st]; exact hp)
    by_cases h38 : isC s (.ok j) 38 = true
    · rw [if_pos h38]
      have hi' := h38
      rw [ej] at hi'
      obtain ⟨hl, _⟩ := byte_is (by omega) hi'
      refine ends_bin (x := r.2.adv) (by omega) r2 o2 (by rw [hq]; exact h38) (fun k hk0 => ?_) rfl (fun c1 h1 e1 => ih2 _ c1 h1 (need_ok hn (by omega) hR.q ⟨j + 1, by show r.2.q.adv = _; rw [hq]; rfl, by have := o2.lt; omega, by have := o2.lt; omega⟩) (by rw [e1]; rfl) (by rw [e1]; rfl)) (fun k c4 e4 hk4 => ?_)
      · obtain ⟨k1, h1, h2⟩ := hk k hk0
        obtain ⟨k2, rfl⟩ : ∃ k2, k1 = k2 + 2 := ⟨k1 - 2, by omega⟩
        refine ⟨k2, by unfold Mz; show 2 * (s.size - (c2.t.at_ + 1)) + 1 + 0 % 2 ≤ k2; omega, ?_⟩
        rw [h2]; unfold F1
        rw [fRun2]; unfold st2
        simp only [hfin, one_is (l := ands) (by omega) hi' (by decide)]; rfl
      · refine ⟨k, hk4, ?_⟩
        unfold F2 stA
        rw [fin_made e4 (by decide)]
    · rw [if_neg h38]
      have hno := ands_none (s := s) (i := j) (by simpa using h38)
      unfold Ends
      rw [hq]
      refine ⟨c2, r2, o2, fun k hk0 => ?_⟩
      obtain ⟨k1, h1, h2⟩ := hk k hk0
      obtain ⟨k2, rfl⟩ : ∃ k2, k1 = k2 + 1 := ⟨k1 - 1, by omega⟩
      refine ⟨k2, by omega, ?_⟩
      rw [h2]; unfold F1 F2
      rw [fRun2]; unfold st2
      rw [ej] at hno
      simp only [hfin, hno]
theorem ends_form (hR : Rel s x c) (hn : need s 3 x ≤ n + 1) (hw : waitsP aheads c.st = false) (hp : waitsP pairs c.st = false) (ha : waitsP ands c.st = false)
    (ih2 : ∀ x c, Rel s x c → need s 2 x ≤ n → waitsP aheads c.st = false → waitsP pairs c.st = false → Ends s (pF s n 2 x) c (F2 s) 0)
    (ih3 : ∀ x c, Rel s x c → need s 3 x ≤ n → waitsP aheads c.st = false → waitsP pairs c.st = false → waitsP ands c.st = false → Ends s (pF s n 3 x) c (F3 s) 0) : Ends s (pF s (n + 1) 3 x) c (F3 s) 0 := by
  have h0 := ih2 x c hR (need_le hn (by omega) (fun j h => ⟨j, h, Nat.le_refl _⟩)) hw hp
  rw [show pF s (n + 1) 3 x = _ from pF3 s n 0 x]
  generalize hr : pF s n 2 x = r at h0 ⊢
  dsimp only
  cases hq : r.2.q with
  | error p =>
    rw [if_neg (by rw [err_isC rfl]; simp)]
    exact h0.err hq
  | ok j =>
    unfold Ends at h0
    rw [hq] at h0
    obtain ⟨c2, r2, o2, hk⟩ := h0
    have ej : j = c2.t.at_ := by have := r2.q; rw [hq] at this; simpa using this
    have hfin : c2.fin ands = c2 := fin_no (by rw [o2.st]; exact ha)
    by_cases h124 : isC s (.ok j) 124 = true
    · rw [if_pos h124]
      have hi' := h124
      rw [ej] at hi'
      obtain ⟨hl, _⟩ := byte_is (by omega) hi'
      refine ends_bin (x := r.2.adv) (by omega) r2 o2 (by rw [hq]; exact h124) (fun k hk0 => ?_) rfl (fun c1 h1 e1 => ih3 _ c1 h1 (need_ok hn (by omega) hR.q ⟨j + 1, by show r.2.q.adv = _; rw [hq]; rfl, by have := o2.lt; omega, by have := o2.lt; omega⟩) (by rw [e1]; rfl) (by rw [e1]; rfl) (by rw [e1]; rfl)) (fun k c4 e4 hk4 => ?_)
      · obtain ⟨k1, h1, h2⟩ := hk k hk0
        obtain ⟨k2, rfl⟩ : ∃ k2, k1 = k2 + 1 := ⟨k1 - 1, by omega⟩
        refine ⟨k2, by unfold Mz; show 2 * (s.size - (c2.t.at_ + 1)) + 1 + 0 % 2 ≤ k2; omega, ?_⟩
        rw [h2]; unfold F2 stA
        simp only [hfin, one_is (l := ors) (by omega) hi' (by decide)]; rfl
      · refine ⟨k, hk4, ?_⟩
        unfold F3 stB
        rw [fin_made e4 (by decide)]
    · rw [if_neg h124]
      have hno := ors_none (s := s) (i := j) (by simpa using h124)
      unfold Ends
      rw [hq]
      refine ⟨c2, r2, o2, fun k hk0 => ?_⟩
      obtain ⟨k1, h1, h2⟩ := hk k hk0
      refine ⟨k1, h1, ?_⟩
      rw [h2]; unfold F2 F3 stA
      rw [ej] at hno
      simp only [hfin, hno]
theorem ends_all (s : ByteArray) : ∀ n : Nat,
    (∀ x c, Rel s x c → need s 0 x ≤ n → Ends s (pF s n 0 x) c (F0 s) 2) ∧
    (∀ x c, Rel s x c → need s 1 x ≤ n → waitsP aheads c.st = false → waitsP pairs c.st = false → Ends s (pF s n 1 x) c (F1 s) 1) ∧
    (∀ x c, Rel s x c → need s 2 x ≤ n → waitsP aheads c.st = false → waitsP pairs c.st = false → Ends s (pF s n 2 x) c (F2 s) 0) ∧
    (∀ x c, Rel s x c → need s 3 x ≤ n → waitsP aheads c.st = false → waitsP pairs c.st = false → waitsP ands c.st = false → Ends s (pF s n 3 x) c (F3 s) 0)
  | 0 => by
    refine ⟨fun x c _ h => ?_, fun x c _ h => ?_, fun x c _ h => ?_, fun x c _ h => ?_⟩ <;> (unfold need at h; omega)
  | n + 1 => by
    obtain ⟨h0, h1, h2, h3⟩ := ends_all s n
    exact ⟨fun x c hR hn => ends_one hR hn h0 h3, fun x c hR hn hw hp => ends_pair hR hn hw hp h0, fun x c hR hn hw hp => ends_both hR hn hw hp h1 h2, fun x c hR hn hw hp ha => ends_form hR hn hw hp ha h2 h3⟩
end
/-- The reader as it begins. -/
def C0 (n : Nat) (g : G) : C := ⟨⟨0, n, 0, 0, 0, 0⟩, 0, 0, [], [], g, 0⟩
/-- What the code's reader comes to. -/
theorem read_same (s : ByteArray) (n : Nat) (g : G) : match (qForm s).2.q with
    | .error p => ∃ cf, fRun s (2 * s.size + 1) 0 (C0 n g) = (false, cf) ∧ cf.t.at_ = p
    | .ok _ => ∃ cf, fRun s (2 * s.size + 1) 0 (C0 n g) = (true, cf) ∧ cf.g = (tr s (qForm s).1 []).1 ∧ cf.ps = (tr s (qForm s).1 []).2 ∧ ((qForm s).2.deep = -1 ∧ cf.deep = 0 ∨ (qForm s).2.deep = (cf.deep : Int) ∧ 0 < cf.deep) ∧ (qForm s).2.wgt = cf.ps.length ∧ fl cf.t = nmO n (qForm s).1 ∧ cf.t.at_ = s.size ∧ Inv cf.t ∧ cf.st = [] := by
  have hR : Rel s ⟨.ok 0, -1, 0, 0⟩ (C0 n g) := ⟨rfl, rfl, .inl ⟨rfl, rfl⟩, rfl, Nat.zero_le _, fun _ => rfl, Nat.le_refl _⟩
  have h := (ends_all s (4 * s.size + 4)).2.2.2 _ _ hR (by unfold need; simp [Q.top]) rfl rfl rfl
  unfold qForm
  have hop : (pF s (4 * s.size + 4) 3 ⟨.ok 0, -1, 0, 0⟩).2.opn = 0 := pF_opn _ _ _ _
  generalize pF s (4 * s.size + 4) 3 ⟨.ok 0, -1, 0, 0⟩ = r at h hop ⊢
  unfold Ends at h
  dsimp only
  cases hq : r.2.q with
  | error p =>
    rw [hq] at h
    exact h _ (by unfold Mz C0; simp)
  | ok j =>
    rw [hq] at h
    obtain ⟨c2, r2, o2, hk⟩ := h
    have ej : j = c2.t.at_ := by have := r2.q; rw [hq] at this; simpa using this
    obtain ⟨k1, h1, h2⟩ := hk (2 * s.size + 1) (by unfold Mz C0; simp)
    have hst : c2.st = [] := o2.st
    have hfin : c2.fin ors = c2 := fin_no (by rw [hst]; rfl)
    have hopn : c2.opn = 0 := by rw [← r2.o]; exact hop
    have hF : fRun s (2 * s.size + 1) 0 (C0 n g) = (decide (c2.t.at_ = s.size), c2) := by
      rw [h2]; unfold F3 stB
      rw [hfin]; simp only [if_pos hopn]
    simp only
    by_cases hlt : j < s.size
    · rw [if_pos hlt]
      exact ⟨c2, by rw [hF, decide_eq_false (by omega)], ej.symm⟩
    · rw [if_neg hlt]
      have hle := r2.le
      have hat : c2.t.at_ = s.size := by omega
      have hg := r2.g
      rw [hst] at hg
      refine ⟨c2, by rw [hF, decide_eq_true hat], o2.g, o2.ps, r2.d, hg, ?_, hat, r2.inv, hst⟩
      rw [o2.fl]
      show (fl (C0 n g).t).or _ = _
      rfl
end Go.Proofs.YtgoebckimmofoaaGreatDoor

/- A formula within brackets reads as it does by itself. Our own text. -/
namespace Go.Proofs.YtgoebckimmofoaaGreatDoor
open Go.RowKit Go.Lib
/-- A text stands in another, a closing bracket behind it. -/
structure Emb (s s' : ByteArray) (p : Nat) : Prop where
  byte : ∀ i, i < s.size → byteAt s' (p + i) = byteAt s i
  fin : byteAt s' (p + s.size) = 41
theorem qNum_byte (s : ByteArray) (i z d : Nat) (hz : 0 < z) : qNum s (.ok i) z d = if z ≤ byteAt s i ∧ byteAt s i ≤ z + d then some (byteAt s i - z) else none := by
  show num? s i z 0 d = _
  unfold num? byteAt
  by_cases h : i < s.size
  · simp [h]
  · simp [h]; omega
section
variable {s s' : ByteArray} {p : Nat}
theorem Emb.num (e : Emb s s' p) {i z d k : Nat} (hz : 0 < z) (h : qNum s (.ok i) z d = some k) : qNum s' (.ok (p + i)) z d = some k := by
  have hi : i < s.size := num_lt h
  rw [qNum_byte _ _ _ _ hz] at h ⊢
  rw [e.byte i hi]; exact h
theorem Emb.no1 (e : Emb s s' p) {i z d : Nat} (hz : 0 < z) (hi : i ≤ s.size) (h41 : ¬ (z ≤ 41 ∧ 41 ≤ z + d)) (h : qNum s (.ok i) z d = none) : qNum s' (.ok (p + i)) z d = none := by
  rw [qNum_byte _ _ _ _ hz] at h ⊢
  by_cases h1 : i < s.size
  · rw [e.byte i h1]; exact h
  · obtain rfl : i = s.size := by omega
    rw [e.fin, if_neg h41]
theorem Emb.no2 (e : Emb s s' p) {i z d : Nat} (hz : 0 < z) (hi : i < s.size) (h : qNum s (.ok i) z d = none) : qNum s' (.ok (p + i)) z d = none := by
  rw [qNum_byte _ _ _ _ hz] at h ⊢
  rw [e.byte i hi]; exact h
theorem Emb.sign (e : Emb s s' p) {i c : Nat} (hz : 0 < c) (hi : i ≤ s.size) (h41 : c ≠ 41) : isC s' (.ok (p + i)) c = isC s (.ok i) c := by
  cases h : isC s (.ok i) c with
  | true =>
    obtain ⟨k, hk⟩ := isC_some h
    unfold isC; rw [e.num hz hk]; rfl
  | false =>
    unfold isC; rw [e.no1 hz hi (by omega) (isC_none h)]; rfl
def shC (p : Nat) (c : Tm × Tm) : Tm × Tm := ((c.1.1, c.1.2.1, c.1.2.2 + p), (c.2.1, c.2.2.1, c.2.2.2 + p))
theorem Emb.term (e : Emb s s' p) {i : Nat} {a : Tm} {q1 : Q} (h : qTerm s (.ok i) = (some a, q1)) : qTerm s' (.ok (p + i)) = (some (a.1, a.2.1, a.2.2 + p), .ok (p + (i + 1))) ∧ q1 = .ok (i + 1) ∧ i < s.size := by
  unfold qTerm at h ⊢
  cases h1 : qNum s (.ok i) 97 2 with
  | some k =>
    rw [h1] at h
    rw [e.num (by omega) h1]
    simp only [Prod.mk.injEq, Option.some.injEq] at h ⊢
    obtain ⟨rfl, rfl⟩ := h
    refine ⟨⟨?_, rfl⟩, rfl, num_lt h1⟩
    simp [Q.pos]; omega
  | none =>
    rw [h1] at h
    simp only at h
    cases h2 : qNum s (.ok i) 48 3 with
    | some k =>
      rw [h2] at h
      rw [e.no2 (by omega) (num_lt h2) h1]
      simp only
      rw [e.num (by omega) h2]
      simp only [Prod.mk.injEq, Option.some.injEq] at h ⊢
      obtain ⟨rfl, rfl⟩ := h
      refine ⟨⟨?_, rfl⟩, rfl, num_lt h2⟩
      simp [Q.pos]; omega
    | none => rw [h2] at h; cases h
theorem Emb.cond (e : Emb s s' p) {i j : Nat} {c : Tm × Tm} (h : qCond s (.ok i) = (some c, .ok j)) : qCond s' (.ok (p + i)) = (some (shC p c), .ok (p + j)) ∧ j ≤ s.size := by
  unfold qCond at h ⊢
  cases h1 : qTerm s (.ok i) with
  | mk r q1 =>
    rw [h1] at h
    cases r with
    | none => cases h
    | some a =>
      obtain ⟨e1, rfl, hi⟩ := e.term h1
      rw [e1]
      simp only at h ⊢
      cases ho : qOp s (.ok (i + 1)) with
      | false => rw [ho] at h; cases h
      | true =>
        rw [ho, if_pos rfl] at h
        have ho' : qOp s' (.ok (p + (i + 1))) = true := by
          have hh : ∀ c, 0 < c → (qNum s (.ok (i + 1)) c 0).isSome = true → (qNum s' (.ok (p + (i + 1))) c 0).isSome = true := fun c hc h => by
            obtain ⟨k, hk⟩ := Option.isSome_iff_exists.1 h
            rw [e.num hc hk]; rfl
          unfold qOp at ho ⊢
          simp only [Bool.or_eq_true] at ho ⊢
          rcases ho with (ho | ho) | ho
          · exact .inl (.inl (hh _ (by omega) ho))
          · exact .inl (.inr (hh _ (by omega) ho))
          · exact .inr (hh _ (by omega) ho)
        rw [ho', if_pos rfl]
        have ea : Q.adv (.ok (p + (i + 1))) = .ok (p + (i + 1 + 1)) := rfl
        have ea' : Q.adv (.ok (i + 1)) = .ok (i + 1 + 1) := rfl
        rw [ea'] at h
        rw [ea]
        cases h2 : qTerm s (.ok (i + 1 + 1)) with
        | mk r2 q2 =>
          rw [h2] at h
          cases r2 with
          | none => cases h
          | some b =>
            obtain ⟨e2, rfl, hi2⟩ := e.term h2
            rw [e2]
            simp only [Prod.mk.injEq, Option.some.injEq, Except.ok.injEq] at h ⊢
            obtain ⟨rfl, rfl⟩ := h
            exact ⟨⟨rfl, rfl⟩, hi2⟩
theorem adv_ok {x : FSt} {i : Nat} (h : x.q = .ok i) : x.adv.q = .ok (i + 1) := by unfold FSt.adv Q.adv; simp [h]
end
end Go.Proofs.YtgoebckimmofoaaGreatDoor

/- How a formula is read, piece by piece. Our own text. -/
namespace Go.Proofs.YtgoebckimmofoaaGreatDoor
open Go.RowKit Go.Lib
section
variable {s : ByteArray}
theorem pF3' (s : ByteArray) (n : Nat) (x : FSt) : pF s (n + 1) 3 x =
    (let r := pF s n 2 x
      if isC s r.2.q 124 then (.bin 124 r.1 (pF s n 3 r.2.adv).1, (pF s n 3 r.2.adv).2) else r) := pF3 s n 0 x
theorem need_up {n m' : Nat} {x y : FSt} {m i j : Nat} (h : need s m x ≤ n + 1) (hx : x.q = .ok i) (hy : y.q = .ok (j + 1)) (hij : i ≤ j) (hj : j < s.size) (hm : m' ≤ 3) : need s m' y ≤ n := by
  unfold need Q.top at *
  rw [hx] at h; rw [hy]; simp only at *; omega
theorem pF_fuel : ∀ (n m : Nat) (x : FSt), m ≤ 3 → need s m x ≤ n → pF s (n + 1) m x = pF s n m x := by
  intro n
  induction n with
  | zero => intro m x _ h; unfold need at h; omega
  | succ n ih =>
    intro m x hm h
    have up : ∀ (m' : Nat) (y : FSt) (c : Nat), isC s x.q c = true → (∀ i, x.q = .ok i → y.q = .ok (i + 1)) → m' ≤ 3 → pF s (n + 1) m' y = pF s n m' y := fun m' y c hc hy hm' => by
      obtain ⟨i, h1, h2⟩ := isC_ok hc
      exact ih m' y hm' (need_up h h1 (hy i h1) (Nat.le_refl _) h2 hm')
    have av : ∀ i, x.q = .ok i → x.adv.q = .ok (i + 1) := fun i hi => adv_ok hi
    match m, hm, h with
    | 0, _, h =>
      rw [pF0 s (n + 1) x, pF0 s n x]
      by_cases c0 : isC s x.q 33 = true
      · rw [if_pos c0, if_pos c0, up 0 x.adv _ c0 av (by omega)]
      rw [if_neg c0, if_neg c0]
      by_cases c1 : isC s x.q 88 = true
      · rw [if_pos c1, if_pos c1, up 0 x.adv.hvy _ c1 av (by omega)]
      rw [if_neg c1, if_neg c1]
      by_cases c2 : isC s x.q 70 = true
      · rw [if_pos c2, if_pos c2, up 0 x.adv.hvy _ c2 av (by omega)]
      rw [if_neg c2, if_neg c2]
      by_cases c3 : isC s x.q 71 = true
      · rw [if_pos c3, if_pos c3, up 0 x.adv.hvy _ c3 av (by omega)]
      rw [if_neg c3, if_neg c3]
      by_cases c4 : isC s x.q 84 = true
      · rw [if_pos c4, if_pos c4]
      rw [if_neg c4, if_neg c4]
      by_cases c5 : isC s x.q 40 = true
      · rw [if_pos c5, if_pos c5, up 3 x.adv.in _ c5 av (by omega)]
      rw [if_neg c5, if_neg c5]
    | 1, _, h =>
      rw [pF1 s (n + 1) x, pF1 s n x]
      dsimp only
      rw [ih 0 x (by omega) (need_le h (by omega) (fun j h => ⟨j, h, Nat.le_refl _⟩))]
      have up2 : ∀ (y : FSt) (c : Nat), isC s (pF s n 0 x).2.q c = true → (∀ i, (pF s n 0 x).2.q = .ok i → y.q = .ok (i + 1)) → pF s (n + 1) 0 y = pF s n 0 y := fun y c hc hy => by
        obtain ⟨j, h1, h2⟩ := isC_ok hc
        obtain ⟨i, h3, h4⟩ := pF_pos s n 0 x j h1
        exact ih 0 y (by omega) (need_up h h3 (hy j h1) h4 h2 (by omega))
      have av2 : ∀ i, (pF s n 0 x).2.q = .ok i → (pF s n 0 x).2.adv.q = .ok (i + 1) := fun i hi => adv_ok hi
      by_cases d0 : isC s (pF s n 0 x).2.q 85 = true
      · rw [if_pos d0, if_pos d0, up2 (pF s n 0 x).2.adv.hvy _ d0 av2]
      rw [if_neg d0, if_neg d0]
      by_cases d1 : isC s (pF s n 0 x).2.q 82 = true
      · rw [if_pos d1, if_pos d1, up2 (pF s n 0 x).2.adv.hvy _ d1 av2]
      rw [if_neg d1, if_neg d1]
      by_cases d2 : isC s (pF s n 0 x).2.q 87 = true
      · rw [if_pos d2, if_pos d2, up2 (pF s n 0 x).2.adv.hvy _ d2 av2]
      rw [if_neg d2, if_neg d2]
    | 2, _, h =>
      rw [pF2 s (n + 1) x, pF2 s n x]
      dsimp only
      rw [ih 1 x (by omega) (need_le h (by omega) (fun j h => ⟨j, h, Nat.le_refl _⟩))]
      have up2 : ∀ (y : FSt) (c : Nat), isC s (pF s n 1 x).2.q c = true → (∀ i, (pF s n 1 x).2.q = .ok i → y.q = .ok (i + 1)) → pF s (n + 1) 2 y = pF s n 2 y := fun y c hc hy => by
        obtain ⟨j, h1, h2⟩ := isC_ok hc
        obtain ⟨i, h3, h4⟩ := pF_pos s n 1 x j h1
        exact ih 2 y (by omega) (need_up h h3 (hy j h1) h4 h2 (by omega))
      have av2 : ∀ i, (pF s n 1 x).2.q = .ok i → (pF s n 1 x).2.adv.q = .ok (i + 1) := fun i hi => adv_ok hi
      by_cases d0 : isC s (pF s n 1 x).2.q 38 = true
      · rw [if_pos d0, if_pos d0, up2 (pF s n 1 x).2.adv _ d0 av2]
      rw [if_neg d0, if_neg d0]
    | 3, _, h =>
      rw [pF3' s (n + 1) x, pF3' s n x]
      dsimp only
      rw [ih 2 x (by omega) (need_le h (by omega) (fun j h => ⟨j, h, Nat.le_refl _⟩))]
      have up2 : ∀ (y : FSt) (c : Nat), isC s (pF s n 2 x).2.q c = true → (∀ i, (pF s n 2 x).2.q = .ok i → y.q = .ok (i + 1)) → pF s (n + 1) 3 y = pF s n 3 y := fun y c hc hy => by
        obtain ⟨j, h1, h2⟩ := isC_ok hc
        obtain ⟨i, h3, h4⟩ := pF_pos s n 2 x j h1
        exact ih 3 y (by omega) (need_up h h3 (hy j h1) h4 h2 (by omega))
      have av2 : ∀ i, (pF s n 2 x).2.q = .ok i → (pF s n 2 x).2.adv.q = .ok (i + 1) := fun i hi => adv_ok hi
      by_cases d0 : isC s (pF s n 2 x).2.q 124 = true
      · rw [if_pos d0, if_pos d0, up2 (pF s n 2 x).2.adv _ d0 av2]
      rw [if_neg d0, if_neg d0]
theorem pF_more {m : Nat} {x : FSt} (hm : m ≤ 3) : ∀ (d n : Nat), need s m x ≤ n → pF s (n + d) m x = pF s n m x
  | 0, _, _ => rfl
  | d + 1, n, h => by rw [show n + (d + 1) = (n + d) + 1 by omega, pF_fuel (n + d) m x hm (by omega)]; exact pF_more hm d n h
/-- A piece is read: from place to place, of a weight, of a depth. -/
def Uni (s : ByteArray) (n m : Nat) (q : Q) (φ : Fm) (q' : Q) (w d : Nat) : Prop := ∀ x : FSt, x.q = q → (pF s n m x).1 = φ ∧ (pF s n m x).2.q = q' ∧ (pF s n m x).2.wgt = x.wgt + w ∧ ((pF s n m x).2.deep < 0 ↔ x.deep < 0 ∧ (d = 0 ∨ x.opn + d ≤ 10))
theorem two_deep {p : Prop} {k d e : Nat} : ((p ∧ (d = 0 ∨ k + d ≤ 10)) ∧ (e = 0 ∨ k + e ≤ 10)) ↔ p ∧ (max d e = 0 ∨ k + max d e ≤ 10) := by
  constructor
  · rintro ⟨⟨h1, h2⟩, h3⟩; exact ⟨h1, by omega⟩
  · rintro ⟨h1, h2⟩; exact ⟨⟨h1, by omega⟩, by omega⟩
end
end Go.Proofs.YtgoebckimmofoaaGreatDoor

/- How pasted formulas are read. Our own text. -/
namespace Go.Proofs.YtgoebckimmofoaaGreatDoor
open Go.RowKit Go.Lib
section
variable {s : ByteArray}
theorem isC_byte (k c : Nat) (hc : 0 < c) : isC s (.ok k) c = decide (byteAt s k = c) := by
  unfold isC
  rw [qNum_byte _ _ _ _ hc]
  by_cases h : byteAt s k = c
  · rw [if_pos (by omega)]; simp [h]
  · rw [if_neg (by omega)]; simp [h]
theorem lt_byte {k : Nat} (h : 0 < byteAt s k) : k < s.size := by
  unfold byteAt at h
  split at h
  · assumption
  · omega
/-- From place k to place k' stands a formula of that kind. -/
def Rd (s : ByteArray) (m k : Nat) (φ : Fm) (k' w d : Nat) : Prop := k' ≤ s.size ∧ ∀ n, 4 * (s.size - k) + m + 1 ≤ n → Uni s n m (.ok k) φ (.ok k') w d
theorem Rd.of {m k k' n w d : Nat} {φ : Fm} (hm : m ≤ 3) (hn : 4 * (s.size - k) + m + 1 ≤ n) (hk : k' ≤ s.size) (h : Uni s n m (.ok k) φ (.ok k') w d) : Rd s m k φ k' w d := by
  refine ⟨hk, fun n' hn' x hx => ?_⟩
  have e : ∀ n, 4 * (s.size - k) + m + 1 ≤ n → pF s n m x = pF s (4 * (s.size - k) + m + 1) m x := fun n hn => by
    have hnd : need s m x ≤ 4 * (s.size - k) + m + 1 := by unfold need; rw [hx]; simp [Q.top]
    have := pF_more (s := s) (m := m) (x := x) hm (n - (4 * (s.size - k) + m + 1)) (4 * (s.size - k) + m + 1) hnd
    rw [show 4 * (s.size - k) + m + 1 + (n - (4 * (s.size - k) + m + 1)) = n by omega] at this
    exact this
  have := h x hx
  rw [e n hn] at this
  rw [e n' hn']
  exact this
theorem Rd.not {k k' w d : Nat} {φ : Fm} (hb : byteAt s k = 33) (h : Rd s 0 (k + 1) φ k' w d) : Rd s 0 k (.un 33 φ) k' w d := by
  have hk := lt_byte (s := s) (k := k) (by omega)
  refine ⟨h.1, fun n hn x hx => ?_⟩
  obtain ⟨n, rfl⟩ : ∃ n', n = n' + 1 := ⟨n - 1, by omega⟩
  obtain ⟨h1, h2, h3, h4⟩ := h.2 n (by omega) x.adv (adv_ok hx)
  have e : pF s (n + 1) 0 x = (.un 33 (pF s n 0 x.adv).1, (pF s n 0 x.adv).2) := by
    rw [pF0, hx]
    simp [isC_byte, hb]
  rw [e]
  exact ⟨congrArg (Fm.un 33) h1, h2, h3, h4⟩
theorem Rd.sign {k k' w d c : Nat} {φ : Fm} (hc : c = 88 ∨ c = 70 ∨ c = 71) (hb : byteAt s k = c) (h : Rd s 0 (k + 1) φ k' w d) : Rd s 0 k (.un c φ) k' (w + 1) d := by
  have hk := lt_byte (s := s) (k := k) (by omega)
  refine ⟨h.1, fun n hn x hx => ?_⟩
  obtain ⟨n, rfl⟩ : ∃ n', n = n' + 1 := ⟨n - 1, by omega⟩
  obtain ⟨h1, h2, h3, h4⟩ := h.2 n (by omega) x.adv.hvy (adv_ok hx)
  have e : pF s (n + 1) 0 x = (.un c (pF s n 0 x.adv.hvy).1, (pF s n 0 x.adv.hvy).2) := by
    rw [pF0, hx]
    rcases hc with rfl | rfl | rfl <;> simp [isC_byte, hb]
  rw [e]
  exact ⟨congrArg (Fm.un c) h1, h2, by rw [h3]; show x.wgt + 1 + w = x.wgt + (w + 1); omega, h4⟩
theorem Rd.top {k : Nat} (hb : byteAt s k = 84) : Rd s 0 k .tt (k + 1) 0 0 := by
  have hk := lt_byte (s := s) (k := k) (by omega)
  refine ⟨hk, fun n hn x hx => ?_⟩
  obtain ⟨n, rfl⟩ : ∃ n', n = n' + 1 := ⟨n - 1, by omega⟩
  have e : pF s (n + 1) 0 x = (.tt, x.adv) := by
    rw [pF0, hx]
    simp [isC_byte, hb]
  rw [e]
  exact ⟨rfl, adv_ok hx, rfl, by show x.deep < 0 ↔ _; simp⟩
theorem Rd.one {k k' w d : Nat} {φ : Fm} (h : Rd s 0 k φ k' w d) (h1 : byteAt s k' ≠ 85) (h2 : byteAt s k' ≠ 82) (h3 : byteAt s k' ≠ 87) : Rd s 1 k φ k' w d := by
  refine ⟨h.1, fun n hn x hx => ?_⟩
  obtain ⟨n, rfl⟩ : ∃ n', n = n' + 1 := ⟨n - 1, by omega⟩
  have g := h.2 n (by omega) x hx
  have e : pF s (n + 1) 1 x = pF s n 0 x := by
    rw [pF1]; dsimp only; rw [g.2.1]; simp [isC_byte, h1, h2, h3]
  rw [e]; exact g
theorem Rd.form {k k' k2 w d v e : Nat} {φ ψ : Fm} (h : Rd s 2 k φ k' w d) (hb : byteAt s k' = 124) (h2 : Rd s 3 (k' + 1) ψ k2 v e) (hkk : k ≤ k') : Rd s 3 k (.bin 124 φ ψ) k2 (w + v) (max d e) := by
  have hk := lt_byte (s := s) (k := k') (by omega)
  refine ⟨h2.1, fun n hn x hx => ?_⟩
  obtain ⟨n, rfl⟩ : ∃ n', n = n' + 1 := ⟨n - 1, by omega⟩
  obtain ⟨a1, a2, a3, a4⟩ := h.2 n (by omega) x hx
  obtain ⟨b1, b2, b3, b4⟩ := h2.2 n (by omega) (pF s n 2 x).2.adv (adv_ok a2)
  have e1 : pF s (n + 1) 3 x = (.bin 124 (pF s n 2 x).1 (pF s n 3 (pF s n 2 x).2.adv).1, (pF s n 3 (pF s n 2 x).2.adv).2) := by
    rw [pF3']; dsimp only
    rw [a2]
    simp [isC_byte, hb]
  rw [e1]
  refine ⟨by show Fm.bin 124 _ _ = _; rw [a1, b1], b2, by show _ = x.wgt + (w + v); rw [b3]; show (pF s n 2 x).2.wgt + v = _; omega, ?_⟩
  show (pF s n 3 (pF s n 2 x).2.adv).2.deep < 0 ↔ _
  rw [b4]
  show (pF s n 2 x).2.deep < 0 ∧ (e = 0 ∨ (pF s n 2 x).2.opn + e ≤ 10) ↔ _
  rw [a4, pF_opn]
  exact two_deep
end
end Go.Proofs.YtgoebckimmofoaaGreatDoor

/- Good formulas, by how they are read; what pasting does to their meaning. Our own text. -/
namespace Go.Proofs.YtgoebckimmofoaaGreatDoor
open Go.RowKit Go.Lib
theorem rd_good {f : ByteArray} {φ : Fm} {w d : Nat} (h : Rd f 3 0 φ f.size w d) : (qForm f).1 = φ ∧ (qForm f).2.q = .ok f.size ∧ (qForm f).2.wgt = w ∧ ((qForm f).2.deep < 0 ↔ d ≤ 10) := by
  obtain ⟨h1, h2, h3, h4⟩ := h.2 (4 * f.size + 4) (by omega) ⟨.ok 0, -1, 0, 0⟩ rfl
  refine ⟨h1, ?_, ?_, ?_⟩
  · unfold qForm
    simp only
    rw [h2]
    simp
  · have : (qForm f).2.wgt = (pF f (4 * f.size + 4) 3 ⟨.ok 0, -1, 0, 0⟩).2.wgt := rfl
    rw [this, h3]; simp
  · have : (qForm f).2.deep = (pF f (4 * f.size + 4) 3 ⟨.ok 0, -1, 0, 0⟩).2.deep := rfl
    rw [this, h4]
    simp only
    omega
end Go.Proofs.YtgoebckimmofoaaGreatDoor

/- What a piece of a text says. Our own text. -/
namespace Go.Proofs.YtgoebckimmofoaaGreatDoor
open Go.RowKit Go.Lib
/-- What is said of states without an end, at a time. -/
abbrev Sy := (Nat → ByteArray) → Nat → Prop
/-- From k to k' stands a piece of weight w and depth d, whose names are right where N says so, and which says P. -/
def Says (s : ByteArray) (m k k' w d : Nat) (N : Nat → Prop) (P : Sy) : Prop := ∃ φ, Rd s m k φ k' w d ∧ φ.Ok ∧ (∀ nv, φ.Nm nv ↔ N nv) ∧ ∀ st t, sm (fun t c => soS s c (st t)) φ t ↔ P st t
section
variable {s : ByteArray} {k k' k2 w v d e : Nat} {N M : Nat → Prop} {P R : Sy}
theorem Says.not (hb : byteAt s k = 33) (h : Says s 0 (k + 1) k' w d N P) : Says s 0 k k' w d N (fun st t => ¬ P st t) := by
  obtain ⟨φ, h1, h2, h3, h4⟩ := h
  refine ⟨.un 33 φ, h1.not hb, ok_un (by omega) h2, h3, fun st t => ?_⟩
  unfold Fm.un sm
  simp [h4]
theorem Says.some (hb : byteAt s k = 70) (h : Says s 0 (k + 1) k' w d N P) : Says s 0 k k' (w + 1) d N (fun st t => ∃ j, t ≤ j ∧ P st j) := by
  obtain ⟨φ, h1, h2, h3, h4⟩ := h
  refine ⟨.un 70 φ, h1.sign (by omega) hb, ok_un (by omega) h2, h3, fun st t => ?_⟩
  unfold Fm.un sm
  simp [h4]
theorem Says.all (hb : byteAt s k = 71) (h : Says s 0 (k + 1) k' w d N P) : Says s 0 k k' (w + 1) d N (fun st t => ∀ j, t ≤ j → P st j) := by
  obtain ⟨φ, h1, h2, h3, h4⟩ := h
  refine ⟨.un 71 φ, h1.sign (by omega) hb, ok_un (by omega) h2, h3, fun st t => ?_⟩
  unfold Fm.un sm
  simp [h4]
theorem Says.top (hb : byteAt s k = 84) : Says s 0 k (k + 1) 0 0 (fun _ => True) (fun _ _ => True) :=
  ⟨.tt, Rd.top hb, ok_tt, fun _ => ⟨fun _ => trivial, fun _ h => (by cases h)⟩, fun _ _ => ⟨fun _ => trivial, fun _ => .inl rfl⟩⟩
theorem Says.one (h : Says s 0 k k' w d N P) (h1 : byteAt s k' ≠ 85) (h2 : byteAt s k' ≠ 82) (h3 : byteAt s k' ≠ 87) : Says s 1 k k' w d N P := by
  obtain ⟨φ, g, r⟩ := h
  exact ⟨φ, g.one h1 h2 h3, r⟩
theorem Says.form (h : Says s 2 k k' w d N P) (hb : byteAt s k' = 124) (h2 : Says s 3 (k' + 1) k2 v e M R) (hkk : k ≤ k') : Says s 3 k k2 (w + v) (max d e) (fun nv => N nv ∧ M nv) (fun st t => P st t ∨ R st t) := by
  obtain ⟨φ, a1, a2, a3, a4⟩ := h
  obtain ⟨ψ, b1, b2, b3, b4⟩ := h2
  refine ⟨.bin 124 φ ψ, a1.form hb b1 hkk, ok_bin (by omega) a2 b2, fun nv => ⟨fun ⟨x, y⟩ => ⟨(a3 nv).1 x, (b3 nv).1 y⟩, fun ⟨x, y⟩ => ⟨(a3 nv).2 x, (b3 nv).2 y⟩⟩, fun st t => ?_⟩
  unfold Fm.bin sm
  simp [a4, b4]
/-- What the good formula f says of states without an end. -/
def sOf (f : ByteArray) : Sy := fun st t => sm (fun t c => soS f c (st t)) (qForm f).1 t
/-- What stands from end to end of a text. -/
theorem Says.whole {f : ByteArray} (h : Says f 3 0 f.size w d N P) : Rd f 3 0 (qForm f).1 f.size w d ∧ (qForm f).2.q = .ok f.size ∧ (qForm f).2.wgt = w ∧ ((qForm f).2.deep < 0 ↔ d ≤ 10) ∧ (∀ nv, (qForm f).1.Nm nv ↔ N nv) ∧ ∀ st t, sOf f st t ↔ P st t := by
  obtain ⟨φ, h1, h2, h3, h4⟩ := h
  obtain ⟨g1, g2, g3, g4⟩ := rd_good h1
  unfold sOf
  rw [g1]
  exact ⟨h1, g2, g3, g4, h3, h4⟩
end
end Go.Proofs.YtgoebckimmofoaaGreatDoor

/- The laws about formulas, if the code's Holds answers as the document asks. Our own text. -/
namespace Go.Proofs.YtgoebckimmofoaaGreatDoor
open Go.RowKit Go.Lib
/-- The code's Holds answers as the document asks, in every world behind W. -/
def HoldsC (W : World) : Prop := ∀ (m f : ByteArray) (L : List ByteArray) (loop : Int) (v : Value) (w : World), m.size ≤ maxLen → f.size ≤ maxLen → (∀ s ∈ L, s.size ≤ maxLen) → L.length ≤ 9223372036854775807 → Below W.heap.size W w → Reads w v L →
  Calls Tryz.prog 23 #[.string m, .string f, .agg #[v, .int .i64 loop]] w fun e w' => (∃ (b : Bool) (c : Nat) (p : Int), e = .returned (.tuple #[.bool b, .int .i64 c, .int .i64 p]) ∧ HoldD m f L loop b c p) ∧ Below w.heap.size w w'
theorem hnum_any (e : Int) (w : World) : Calls Tryz.prog 17 #[.int .i64 e] w fun r w' => r = .returned (.int .i64 e) ∧ Below w.heap.size w w' := by
  go_enter Tryz.func17, Tryz.ntmps17
  go_wp2
  go_ret
  exact ⟨rfl, Below.refl _ _⟩
theorem HoldD.uniq {m f : ByteArray} {L : List ByteArray} {loop : Int} {b b' : Bool} {c c' : Nat} {p p' : Int} (h : HoldD m f L loop b c p) (h' : HoldD m f L loop b' c' p') : b = b' ∧ c = c' ∧ p = p' := by
  rcases h with ⟨h0, rfl, rfl, rfl⟩ | ⟨h0, h⟩
  · rcases h' with ⟨_, rfl, rfl, rfl⟩ | ⟨h0', _⟩
    · exact ⟨rfl, rfl, rfl⟩
    · exact absurd h0' h0
  · rcases h' with ⟨h0', _⟩ | ⟨_, h'⟩
    · exact absurd h0 h0'
    · rcases h with ⟨hc, rfl, hb⟩ | ⟨h7, hok, k, hk, rfl, rfl, rfl, rfl⟩
      · rcases h' with ⟨hc', rfl, hb'⟩ | ⟨h7, hok, k, hk, rfl, rfl, rfl, rfl⟩
        · exact ⟨rfl, hb.uniq hb'⟩
        · have := (hb.uniq (.inr (.inr (.inr ⟨h7, hok, by omega, by omega, rfl, rfl⟩)) : BndR (fun s => okT s (topsM m)) L k 0 0)).1
          exact absurd this hc
      · rcases h' with ⟨hc', rfl, hb'⟩ | ⟨_, _, k', hk', e, rfl, rfl, rfl⟩
        · have := (hb'.uniq (.inr (.inr (.inr ⟨h7, hok, by omega, by omega, rfl, rfl⟩)) : BndR (fun s => okT s (topsM m)) L k 0 0)).1
          exact absurd this hc'
        · have : k = k' := by omega
          subst this
          exact ⟨rfl, rfl, rfl⟩
section
variable {w : World}
set_option maxRecDepth 100000 in
set_option maxHeartbeats 1600000 in
theorem means_any (hc : HoldsC w) (m f : ByteArray) (L : List ByteArray) (hL : ∀ s ∈ L, s.size ≤ maxLen) (hlen : L.length * 16 ≤ 140737488355328) (loop : Int) (v : Value) (hm : m.size ≤ maxLen) (hf : f.size ≤ maxLen) (hr : Reads w v L) :
    Calls Tryz.prog 6 #[.string m, .string f, v, .int .i64 loop] w fun e w' => e = .returned (.bool true) ∧ Below w.heap.size w w' := by
  have HRD : Put (Reads w v L) := ⟨hr⟩
  obtain ⟨ao, cap, rfl, _⟩ := hr
  have HL : Put (_) := ⟨hL⟩
  have HC : Put (_) := ⟨hc⟩
  clear hL hc
  have hlen' : L.length ≤ 9223372036854775807 := by omega
  go_enter Tryz.func6, Tryz.ntmps6
  go_wp2_with fail
  refine (copied_any _ L hlen HRD.out).mono ?_
  rintro e w1 ⟨⟨vc, rfl, hrow⟩, hb1⟩
  have HROW : Put (_) := ⟨hrow⟩
  obtain ⟨aoc, capc, rfl⟩ := owned_slice' hrow
  have HB1 : Put (_) := ⟨hb1⟩
  clear hrow hb1
  go_wp2_with fail
  refine (HC.out m f L loop _ w1 hm hf HL.out hlen' HB1.out (Reads.of_owns HROW.out)).mono ?_
  rintro e w2 ⟨⟨b, c, p, rfl, hR⟩, hb2⟩
  have HR : Put (_) := ⟨hR⟩
  have HROW2 : Put (_) := ⟨hb2.ownsRow' HROW.out⟩
  have HB2 : Put (_) := ⟨HB1.out.trans (hb2.mono HB1.out.size)⟩
  clear hR hb2 HROW
  go_wp2_with fail
  refine (rholds_any m f L HL.out hlen' loop _ w2 hm (HRD.out.below HB2.out)).mono ?_
  rintro e w3 ⟨⟨b', c', p', rfl, hD⟩, hb3⟩
  obtain ⟨rfl, rfl, rfl⟩ := HR.out.uniq hD
  have HROW3 : Put (_) := ⟨hb3.ownsRow' HROW2.out⟩
  have HB3 : Put (_) := ⟨HB2.out.trans (hb3.mono HB2.out.size)⟩
  clear hD hb3 HROW2 HR HB2 HB1
  have HSM : Put (_) := ⟨sameR_any (w := w3) _ _ L hlen' (Reads.of_owns HROW3.out) (HRD.out.below HB3.out)⟩
  go_wp2_with fail
  refine HSM.out.mono ?_
  rintro e w4 ⟨rfl, hb4⟩
  have HB4 : Put (_) := ⟨HB3.out.trans (hb4.mono HB3.out.size)⟩
  clear hb4 HSM HROW3 HB3
  go_wp2_with fail
  refine (hnum_any c w4).mono ?_
  rintro e w5 ⟨rfl, hb5⟩
  have HB5 : Put (_) := ⟨HB4.out.trans (hb5.mono HB4.out.size)⟩
  clear hb5 HB4
  go_wp2
  go_ret
  exact ⟨rfl, HB5.out⟩
end
end Go.Proofs.YtgoebckimmofoaaGreatDoor
