import Derived.Lib.TrailingZeros
import Derived.Test.YtgoebckimmofoaaGreatDoorRows
import Derived.WalkKit
import Derived.WalkSpells
import Derived.WalkLawsBesides
import Derived.Deep.QuietTactic
import Derived.BigQuiet
import Derived.RegionTactic
import Derived.Scope
import Derived.WalkMore
import Derived.Deep.LoopGhost
import Derived.Deep.AppendLies
import Derived.Deep.RegionHeld3
import Derived.Laws.Bits64b
import Derived.Laws.IdiomStrings
import Derived.Maps.AppendAt
import Derived.RangeFuncBox
import Derived.Deep.RegionLaw
import Derived.Deep.RegionHeld
import Derived.RangeFuncNested
import Derived.RangeFuncBound
import Derived.RangeFuncCalls
import Derived.RangeFuncLeaves
import Derived.Shelf.Abstract
import Derived.Shelf.RegionOpen
import Derived.OwnWalkIn
import Derived.TacticsInMore
import Derived.LoopNIn
import Derived.LoopIn
import Derived.Stop.RegionWithIn
import Derived.MapKept
import Derived.Lib.Bytealg
import Derived.Lib.IndexLaws
import Derived.Laws.EntriesVeiled
import Derived.Test.YtgoebckimmofoaaGreatDoorM1
import Derived.Test.YtgoebckimmofoaaGreatDoorM4
import Derived.Test.YtgoebckimmofoaaGreatDoorM5
import Derived.Test.YtgoebckimmofoaaGreatDoorM6
import Derived.Test.YtgoebckimmofoaaGreatDoorM7
import Derived.Test.YtgoebckimmofoaaGreatDoorM9
import Derived.Test.YtgoebckimmofoaaGreatDoorM10
import Derived.Test.YtgoebckimmofoaaGreatDoorM11
import Derived.Test.YtgoebckimmofoaaGreatDoorM12
import Derived.Test.YtgoebckimmofoaaGreatDoorM15
import Derived.Test.YtgoebckimmofoaaGreatDoorM24
import Derived.Test.YtgoebckimmofoaaGreatDoorM25
import Derived.Test.YtgoebckimmofoaaGreatDoorM26
/- The reader of formulas, walked. Our own text. -/
namespace Go.Proofs.YtgoebckimmofoaaGreatDoor
open Go.RowKit Go.Lib
theorem frameF (a : Act) (p0 p3 p4 : Value) (h : a.tmps.size = 92) (hd : a.defers = []) (h0 : a.tmps.getD 0 undef = p0) (h3 : a.tmps.getD 3 undef = p3) (h4 : a.tmps.getD 4 undef = p4) : ∃ u : Nat → Value, a = { tmps := #[p0, u 1, u 2, p3, p4, u 5, u 6, u 7, u 8, u 9, u 10, u 11, u 12, u 13, u 14, u 15, u 16, u 17, u 18, u 19, u 20, u 21, u 22, u 23, u 24, u 25, u 26, u 27, u 28, u 29, u 30, u 31, u 32, u 33, u 34, u 35, u 36, u 37, u 38, u 39, u 40, u 41, u 42, u 43, u 44, u 45, u 46, u 47, u 48, u 49, u 50, u 51, u 52, u 53, u 54, u 55, u 56, u 57, u 58, u 59, u 60, u 61, u 62, u 63, u 64, u 65, u 66, u 67, u 68, u 69, u 70, u 71, u 72, u 73, u 74, u 75, u 76, u 77, u 78, u 79, u 80, u 81, u 82, u 83, u 84, u 85, u 86, u 87, u 88, u 89, u 90, u 91], defers := [] } := by
  obtain ⟨x, d⟩ := a
  refine ⟨fun i => x.getD i undef, ?_⟩
  simp only at h hd h0 h3 h4
  subst hd h0 h3 h4
  have := frame_of x 92 h
  exact congrArg (fun y => Act.mk y []) this
/-- How many brackets wait. -/
def cnt40 : List (Nat × G) → Nat
  | [] => 0
  | e :: st => (if e.1 = 40 then 1 else 0) + cnt40 st
structure Bds (s : ByteArray) (c : C) : Prop where
  at_ : c.t.at_ ≤ s.size
  len : c.ps.length + c.st.length ≤ c.t.at_
  opn : c.opn ≤ cnt40 c.st
theorem cnt40_le : ∀ st : List (Nat × G), cnt40 st ≤ st.length
  | [] => Nat.le_refl _
  | e :: st => by
    have := cnt40_le st
    unfold cnt40
    split <;> simp <;> omega
theorem sgn_aheads : Sgn aheads := by
  intro o h1 h2
  have : o.toUInt8 = 33 ∨ o.toUInt8 = 88 ∨ o.toUInt8 = 70 ∨ o.toUInt8 = 71 := by simpa [inS, aheads] using h2
  left; unfold unS
  rcases this with h | h | h | h <;> (have := congrArg UInt8.toNat h; simp at this; omega)
theorem sgn_pairs : Sgn pairs := by
  intro o h1 h2
  have : o.toUInt8 = 85 ∨ o.toUInt8 = 82 ∨ o.toUInt8 = 87 := by simpa [inS, pairs] using h2
  right; unfold binS
  rcases this with h | h | h <;> (have := congrArg UInt8.toNat h; simp at this; omega)
theorem sgn_ands : Sgn ands := by
  intro o h1 h2
  have h : o.toUInt8 = 38 := by simpa [inS, ands] using h2
  right; unfold binS
  have := congrArg UInt8.toNat h
  simp at this; omega
theorem sgn_ors : Sgn ors := by
  intro o h1 h2
  have h : o.toUInt8 = 124 := by simpa [inS, ors] using h2
  right; unfold binS
  have := congrArg UInt8.toNat h
  simp at this; omega
theorem one_mem {s : ByteArray} {p k : Nat} {l : ByteArray} (h : oneOf? s p l.data.toList = some k) : k < 256 ∧ inS l k = true ∧ p < s.size := by
  unfold oneOf? at h
  split at h
  · next hp =>
    split at h
    · next hm =>
      simp only [Option.some.injEq] at h
      subst h
      refine ⟨s[p].toNat_lt, ?_, hp⟩
      unfold inS
      simp [hm]
    · cases h
  · cases h
theorem un_not_bin {o : Nat} (h : unS o) : ¬ binS o := by
  unfold unS binS at *; omega
/-- What waits are signs and brackets below 256. -/
def Low (st : List (Nat × G)) : Prop := ∀ e ∈ st, e.1 < 256
theorem fin_bds {s : ByteArray} {l : ByteArray} (hl : Sgn l) : ∀ {st : List (Nat × G)} {g : G} {ps : List Pt}, Low st → (endP l st g ps).2.2.length + (endP l st g ps).2.1.length ≤ ps.length + st.length ∧ cnt40 (endP l st g ps).2.1 = cnt40 st
  | [], g, ps, _ => ⟨Nat.le_refl _, rfl⟩
  | e :: st, g, ps, h => by
    unfold endP
    split
    · next hin =>
      have hs := hl e.1 (h e (by simp)) hin
      have ih := fin_bds (s := s) hl (st := st) (g := (bld e.1 e.2 g ps).1) (ps := (bld e.1 e.2 g ps).2) (fun x hx => h x (by simp [hx]))
      have hb : (bld e.1 e.2 g ps).2.length = ps.length + wt e.1 := bld_len (by
        rcases hs with hu | hb
        · have hu' : e.1 = 33 ∨ e.1 = 88 ∨ e.1 = 70 ∨ e.1 = 71 := hu
          omega
        · have hb' : e.1 = 38 ∨ e.1 = 124 ∨ e.1 = 85 ∨ e.1 = 82 ∨ e.1 = 87 := hb
          omega) _ _ _
      have hw : wt e.1 ≤ 1 := by unfold wt; split <;> omega
      refine ⟨by simp only [List.length_cons]; omega, ?_⟩
      rw [ih.2]
      have : e.1 ≠ 40 := by
        rcases hs with hu | hb
        · have hu' : e.1 = 33 ∨ e.1 = 88 ∨ e.1 = 70 ∨ e.1 = 71 := hu
          omega
        · have hb' : e.1 = 38 ∨ e.1 = 124 ∨ e.1 = 85 ∨ e.1 = 82 ∨ e.1 = 87 := hb
          omega
      show _ = (if e.1 = 40 then 1 else 0) + cnt40 st
      rw [if_neg this]; omega
    · exact ⟨Nat.le_refl _, rfl⟩
theorem All2.right {α β : Type} {R : α → β → Prop} {p : β → Prop} (hp : ∀ a b, R a b → p b) : ∀ {l : List α} {m : List β}, All2 R l m → ∀ b ∈ m, p b
  | [], [], _, b, hb => by cases hb
  | a :: l, c :: m, h, b, hb => by
    rcases List.mem_cons.1 hb with rfl | hb
    · exact hp _ _ h.1
    · exact All2.right hp h.2 b hb
  | [], _ :: _, h, _, _ => h.elim
  | _ :: _, [], h, _, _ => h.elim
section
variable {B M : Nat} {s : ByteArray} {t : T} {wh : Value} {opn deep : Nat} {ps : List Pt} {st : List (Nat × G)} {w w' w0 : World} {c : C} {R : Bool × C}
theorem FC.low (h : FC B M s t wh opn deep ps st w) : Low st := by
  obtain ⟨wvs, aw, cw, _, hall⟩ := h
  intro e he
  exact All2.right (p := fun e => e.1 < 256) (fun _ _ h => h.2.1) hall e (by simpa using he)
/-- The reader in memory is at c. -/
def FCc (B M : Nat) (s : ByteArray) (c : C) (wh : Value) (w : World) : Prop := FC B M s c.t wh c.opn c.deep c.ps c.st w
theorem Bds.fin {l : ByteArray} (hl : Sgn l) (h : Bds s c) (hf : FCc B M s c wh w) : Bds s (c.fin l) := by
  have := fin_bds (s := s) hl (st := c.st) (g := c.g) (ps := c.ps) hf.low
  have hlen := h.len
  have hopn := h.opn
  refine ⟨h.at_, ?_, ?_⟩
  · show (endP l c.st c.g c.ps).2.2.length + (endP l c.st c.g c.ps).2.1.length ≤ c.t.at_
    omega
  · show c.opn ≤ cnt40 (endP l c.st c.g c.ps).2.1
    rw [this.2]; exact hopn
/-- What holds at the labels of 'formula'. -/
def JFb (B M : Nat) (s : ByteArray) (w0 : World) (R : Bool × C) (l m : Nat) (fv sv : Value) (w' : World) : Prop :=
  (l = 2 ∧ m = 0 ∧ ∃ c : C, FCc B M s c .nilFunc w' ∧ Fr B w0 w' ∧ R = (false, c)) ∨
  ∃ c : C, FCc B M s c .nilFunc w' ∧ Fr B w0 w' ∧ Bds s c ∧
    ((l = 0 ∧ FnOrNil fv ∧ Mz s 0 c ≤ m ∧ R = fRun s m 0 c) ∨
     (l = 3 ∧ FnP w' fv c.g ∧ Mz s 1 c ≤ m ∧ R = fRun s m 1 c) ∨
     (l = 4 ∧ FnP w' fv c.g ∧ Mz s 2 c ≤ m ∧ R = fRun s m 2 c) ∨
     (l = 1 ∧ FnOrNil fv ∧ sv = .int .u8 (c.sg : Nat) ∧ c.sg < 256 ∧ c.sg ≠ 40 ∧ (binS c.sg → FnP w' fv c.g) ∧ c.ps.length + c.st.length < c.t.at_ ∧ Mz s 3 c ≤ m ∧ R = fRun s m 3 c))
def JF (B M : Nat) (s : ByteArray) (w0 : World) (R : Bool × C) (l m : Nat) (a : Act) (w' : World) : Prop :=
  (a.tmps.size = 92 ∧ a.defers = [] ∧ a.tmps.getD 0 undef = .pointer (some ⟨B, 0, none⟩)) ∧ ∃ fv sv, a.tmps.getD 3 undef = fv ∧ a.tmps.getD 4 undef = sv ∧ JFb B M s w0 R l m fv sv w'
def FormPost2 (B M : Nat) (s : ByteArray) (R : Bool × C) (w : World) (e : Ending) (w' : World) : Prop :=
  (∃ c, e = .returned (.bool false) ∧ R = (false, c) ∧ FCc B M s c .nilFunc w' ∧ Fr B w w') ∨
  (∃ c wh, e = .returned (.bool true) ∧ R = (true, c) ∧ FCc B M s c wh w' ∧ Fr B w w' ∧ FnP w' wh c.g)
/-- The reader's own steps. -/
theorem f_oneOf_no (l : ByteArray) (hc : Bds s c) (h : FCc B M s c wh w) (hn : oneOf? s c.t.at_ l.data.toList = none) :
    Calls Tryz.prog 139 #[.pointer (some ⟨B, 0, none⟩), .string l] w fun e w' => e = .returned (.tuple #[.int .u8 0, .bool false]) ∧ FCc B M s c wh w' ∧ Fr B w w' := by
  obtain ⟨rest, hg, hup⟩ := FC.step h
  refine (oneOf_no l hc.at_ hg hn).mono ?_
  rintro e w' ⟨rfl, h1, h2⟩
  exact ⟨rfl, hup _ _ h1 h2⟩
theorem f_oneOf_yes (l : ByteArray) (k : Nat) (hs : s.size ≤ 120) (h : FCc B M s c wh w) (hn : oneOf? s c.t.at_ l.data.toList = some k) :
    Calls Tryz.prog 139 #[.pointer (some ⟨B, 0, none⟩), .string l] w fun e w' => e = .returned (.tuple #[.int .u8 (k : Nat), .bool true]) ∧ FCc B M s (c.sign k) wh w' ∧ Fr B w w' := by
  obtain ⟨rest, hg, hup⟩ := FC.step h
  refine (oneOf_yes l k hs hg hn).mono ?_
  rintro e w' ⟨rfl, h1, h2⟩
  exact ⟨rfl, hup _ _ h1 h2⟩
theorem f_end {fr : Nat} {cr : Array Value} (l : ByteArray) (hl : Sgn l) (h60 : s.size ≤ 60) (hc : Bds s c) (hg : FnP w (.func (.func fr) #[] cr) c.g) (h : FCc B M s c wh w) :
    Calls Tryz.prog 141 #[.pointer (some ⟨B, 0, none⟩), .string l, .func (.func fr) #[] cr] w fun e w' => ∃ f a, e = .returned (.func (.func f) #[] a) ∧ FnP w' (.func (.func f) #[] a) (c.fin l).g ∧ FCc B M s (c.fin l) wh w' ∧ Fr B w w' := by
  refine (end_walk l hl (by have := hc.len; have := hc.at_; omega) hg h).mono ?_
  rintro e w' ⟨f, a, rfl, h1, h2, h3⟩
  exact ⟨f, a, rfl, h1, h2, h3⟩
theorem f_waits (l : ByteArray) (h60 : s.size ≤ 60) (hc : Bds s c) (h : FCc B M s c wh w) :
    Calls Tryz.prog 142 #[.pointer (some ⟨B, 0, none⟩), .string l] w fun e w' => e = .returned (.bool (waitsP l c.st)) ∧ w' = w := by
  have hlen := hc.len
  have hat := hc.at_
  obtain ⟨wvs, aw, cw, ⟨pvs, ap, cp, hfr, _⟩, hall⟩ := h
  cases hst : c.st with
  | nil =>
    rw [hst] at hall
    obtain rfl := all2_nil hall
    exact waits_nil l hfr
  | cons e st =>
    rw [hst, List.reverse_cons] at hall
    obtain ⟨wvs', x, rfl, ha, hx⟩ := all2_snoc hall
    have hl : wvs'.length = st.length := by have := ha.length; simpa using this
    rw [hst] at hlen
    simp only [List.length_cons] at hlen
    have := waits_cons l x (by rw [hx.1]; exact hx.2.1) (by omega) hfr
    rw [hx.1] at this
    exact this
theorem f_atEnd (hc : Bds s c) (h : FCc B M s c wh w) :
    Calls Tryz.prog 75 #[.pointer (some ⟨B, 0, none⟩)] w fun e w' => e = .returned (.bool (decide (c.t.at_ = s.size))) ∧ FCc B M s c wh w' ∧ Fr B w w' := by
  obtain ⟨rest, hg, hup⟩ := FC.step h
  refine (atEnd_any hc.at_ hg).mono ?_
  rintro e w' ⟨rfl, h1, h2⟩
  exact ⟨rfl, hup _ _ h1 h2⟩
theorem Bds.to {t' : T} (h : Bds s c) (h1 : c.t.at_ ≤ t'.at_) (h2 : t'.at_ ≤ s.size) : Bds s (c.to t') := ⟨h2, Nat.le_trans h.len h1, h.opn⟩
theorem Bds.is (h : Bds s c) (g : G) : Bds s (c.is g) := ⟨h.at_, h.len, h.opn⟩
theorem Bds.sign (h : Bds s c) (h1 : c.t.at_ < s.size) (o : Nat) : Bds s (c.sign o) := ⟨h1, Nat.le_succ_of_le h.len, h.opn⟩
set_option maxRecDepth 100000 in
set_option maxHeartbeats 6400000 in
theorem formula_any (h60 : s.size ≤ 60) (hbd : Bds s c) (hR : R = fRun s (2 * s.size + 1) 0 c) (h : FCc B M s c .nilFunc w) (hM : Mz s 0 c ≤ 2 * s.size + 1) :
    Calls Tryz.prog 101 #[.pointer (some ⟨B, 0, none⟩)] w (FormPost2 B M s R w) := by
  obtain ⟨i0, hi, hz0, hz1, hz2⟩ := info_parts infoW
  obtain ⟨w0, hw0⟩ : ∃ w0, w0 = w := ⟨_, rfl⟩
  have HJ0 : Put (JFb B M s w0 R 0 (2 * s.size + 1) .nilFunc (.int .u8 0) w) := ⟨.inr ⟨c, h, by rw [hw0]; exact Fr.refl _ _, hbd, .inl ⟨rfl, .inl rfl, hM, hR⟩⟩⟩
  rw [← hw0]
  rw [hw0]
  conv => arg 5; rw [← hw0]
  clear h hbd hR hM hw0
  go_enter Tryz.func101, Tryz.ntmps101
  go_wp2_with fail
  refine wp_scope_rest (JF B M s w0 R) ?hf ?pass ?first
  case hf =>
    rintro l m a w' ⟨_, fv, sv, _, _, (⟨rfl, _⟩ | ⟨_, _, _, _, (⟨rfl, _⟩ | ⟨rfl, _⟩ | ⟨rfl, _⟩ | ⟨rfl, _⟩)⟩)⟩
    · rfl
    · rfl
    · rfl
    · rfl
    · rfl
  case first =>
    intro ih
    go_wp2
    apply wp_label
    first | (rename_i hK; exact hK _ _ (ih 0 _ _ ⟨2 * s.size + 1, ⟨rfl, rfl, rfl⟩, _, _, rfl, rfl, HJ0.out⟩)) | (rename_i hK _; exact hK _ _ (ih 0 _ _ ⟨2 * s.size + 1, ⟨rfl, rfl, rfl⟩, _, _, rfl, rfl, HJ0.out⟩))
  case pass =>
    clear HJ0
    rintro m ih l a w' ⟨⟨fz, fd, f0⟩, fv, sv, f3, f4, (⟨rfl, rfl, c, hF, hfr0, hRr⟩ | ⟨c, hC, hfr0, hbd, (⟨rfl, hfv, hm, hRr⟩ | ⟨rfl, hfv, hm, hRr⟩ | ⟨rfl, hfv, hm, hRr⟩ | ⟨rfl, hfv, rfl, hsg, hs40, hsb, hlw, hm, hRr⟩)⟩)⟩
    all_goals obtain ⟨u, rfl⟩ := frameF a _ _ _ fz fd f0 f3 f4
    all_goals clear fz fd f0 f3 f4
    · show Code.wp Tryz.prog (.seq (.region _ _ _) .ret) _ _ _
      have FIN : Put (FormPost2 B M s R w0 (.returned (.bool false)) w') := ⟨.inl ⟨c, rfl, hRr, hF, hfr0⟩⟩
      clear hF hRr hfr0
      go_wp2
      rw [jumps_ret]
      go_ret
      exact FIN.out
    all_goals
      have HC : Put (_) := ⟨hC⟩
      have HF : Put (_) := ⟨hfr0⟩
      have hat0 := hbd.at_
      obtain ⟨m', rfl⟩ : ∃ m', m = m' + 1 := ⟨m - 1, by unfold Mz at hm; omega⟩
      clear hC hfr0
    · show Code.wp Tryz.prog (.seq _ _) _ _ _
      rw [fRun0] at hRr
      unfold st0 at hRr
      cases h40 : num? s c.t.at_ 40 0 0 with
      | some k =>
        simp only [h40] at hRr
        have hlt := num_lt h40
        have HO : Put (_) := ⟨opens_yes (g := c.g) (by omega) (by have := hbd.len; omega) (by have := hbd.len; have := hbd.opn; have := cnt40_le c.st; omega) HC.out h40⟩
        have HB : Put (Bds s c.opens ∧ Mz s 0 c.opens ≤ m') := ⟨⟨hlt, by show c.ps.length + (c.st.length + 1) ≤ c.t.at_ + 1; have := hbd.len; omega, by show c.opn + 1 ≤ 1 + cnt40 c.st; have := hbd.opn; omega⟩, by unfold Mz at *; show 2 * (s.size - (c.t.at_ + 1)) + 1 + 0 % 2 ≤ m'; omega⟩
        clear hbd
        go_wp2_with fail
        refine HO.out.mono ?_
        rintro e w1 ⟨rfl, h1, hf1⟩
        have HJ : Put (JFb B M s w0 R 0 m' fv sv w1) := ⟨.inr ⟨c.opens, h1, HF.out.trans hf1, HB.out.1, .inl ⟨rfl, hfv, HB.out.2, hRr⟩⟩⟩
        clear h1 hf1 HO HC
        go_wp2
        go_step3
        show ∃ m'', m'' < m' + 1 ∧ JF B M s w0 R 0 m'' _ _
        exact ⟨m', Nat.lt_succ_self _, ⟨rfl, rfl, rfl⟩, _, _, rfl, rfl, HJ.out⟩
      | none =>
        simp only [h40] at hRr
        have HO : Put (_) := ⟨opens_no (by omega) hbd.at_ HC.out h40⟩
        cases hon : oneOf? s c.t.at_ aheads.data.toList with
        | some o =>
          simp only [hon] at hRr
          obtain ⟨ho1, ho2, ho3⟩ := one_mem hon
          have hun : unS o := by rcases sgn_aheads o ho1 ho2 with h | h; exact h; exact absurd ho2 (by rcases h with rfl | rfl | rfl | rfl | rfl <;> decide)
          have HB : Put (Bds s (c.sign o) ∧ ((c.sign o).ps.length + (c.sign o).st.length < (c.sign o).t.at_ ∧ Mz s 3 (c.sign o) ≤ m') ∧ o ≠ 40) := ⟨hbd.sign ho3 o, ⟨Nat.lt_succ_of_le hbd.len, by unfold Mz at *; show 2 * (s.size - (c.t.at_ + 1)) + 1 + 3 % 2 ≤ m'; omega⟩, by unfold unS at hun; omega⟩
          clear hbd
          go_wp2_with fail
          refine HO.out.mono ?_
          rintro e w1 ⟨rfl, h1, hf1⟩
          have HO2 : Put (_) := ⟨f_oneOf_yes aheads o (by omega) h1 hon⟩
          have HF1 : Put (_) := ⟨HF.out.trans hf1⟩
          clear h1 hf1 HO HC
          go_wp2_with fail
          refine HO2.out.mono ?_
          rintro e w2 ⟨rfl, h2, hf2⟩
          have HJ : Put (JFb B M s w0 R 1 m' fv (.int .u8 (o : Nat)) w2) := ⟨.inr ⟨c.sign o, h2, HF1.out.trans hf2, HB.out.1, .inr (.inr (.inr ⟨rfl, hfv, rfl, ho1, HB.out.2.2, fun h => absurd h (un_not_bin hun), HB.out.2.1.1, HB.out.2.1.2, hRr⟩))⟩⟩
          clear h2 hf2 HO2
          go_wp2
          go_step3
          show ∃ m'', m'' < m' + 1 ∧ JF B M s w0 R 1 m'' _ _
          exact ⟨m', Nat.lt_succ_self _, ⟨rfl, rfl, rfl⟩, _, _, rfl, rfl, HJ.out⟩
        | none =>
          simp only [hon] at hRr
          cases h84 : num? s c.t.at_ 84 0 0 with
          | some k =>
            simp only [h84] at hRr
            have hlt := num_lt h84
            have HB : Put (Bds s ((c.to c.t.adv).is (fun _ _ => true)) ∧ Mz s 1 ((c.to c.t.adv).is (fun _ _ => true)) ≤ m') := ⟨(hbd.to (t' := c.t.adv) (Nat.le_succ _) hlt).is _, by unfold Mz at *; show 2 * (s.size - (c.t.at_ + 1)) + 1 + 1 % 2 ≤ m'; omega⟩
            go_wp2_with fail
            refine HO.out.mono ?_
            rintro e w1 ⟨rfl, h1, hf1⟩
            have HO2 : Put (_) := ⟨f_oneOf_no aheads hbd h1 hon⟩
            have HF1 : Put (_) := ⟨HF.out.trans hf1⟩
            clear h1 hf1 HO HC hbd
            go_wp2_with fail
            refine HO2.out.mono ?_
            rintro e w2 ⟨rfl, h2, hf2⟩
            have HP : Put (_) := ⟨plain_T (by omega) h2 h84⟩
            have HF2 : Put (_) := ⟨HF1.out.trans hf2⟩
            clear h2 hf2 HO2
            go_wp2_with fail
            refine HP.out.mono ?_
            rintro e w3 ⟨rfl, h3, hf3⟩
            have HJ : Put (JFb B M s w0 R 3 m' (.func (.func 172) #[] #[]) (.int .u8 0) w3) := ⟨.inr ⟨(c.to c.t.adv).is (fun _ _ => true), h3, HF2.out.trans hf3, HB.out.1, .inr (.inl ⟨rfl, always_fn _, HB.out.2, hRr⟩)⟩⟩
            clear h3 hf3 HP
            go_wp2
            apply wp_label
            first | (rename_i hK; exact hK _ _ (ih 3 _ _ ⟨m', Nat.lt_succ_self _, ⟨rfl, rfl, rfl⟩, _, _, rfl, rfl, HJ.out⟩)) | (rename_i hK _; exact hK _ _ (ih 3 _ _ ⟨m', Nat.lt_succ_self _, ⟨rfl, rfl, rfl⟩, _, _, rfl, rfl, HJ.out⟩)) | (rename_i hK _ _; exact hK _ _ (ih 3 _ _ ⟨m', Nat.lt_succ_self _, ⟨rfl, rfl, rfl⟩, _, _, rfl, rfl, HJ.out⟩))
          | none =>
            simp only [h84] at hRr
            cases hpc : pCond s c.t with
            | mk b t' =>
              have hsm := pCond_same hpc hbd.at_
              cases b with
              | true =>
                simp only [hpc] at hRr
                have hlt := hsm.2.2.2.2.2 rfl
                have HB : Put (Bds s ((c.to t').is (fun x _ => cdP s (cdOf s c.t.at_) x)) ∧ Mz s 1 ((c.to t').is (fun x _ => cdP s (cdOf s c.t.at_) x)) ≤ m') := ⟨(hbd.to hsm.1 hsm.2.2.2.2.1).is _, by unfold Mz at *; show 2 * (s.size - t'.at_) + 1 + 1 % 2 ≤ m'; have := hsm.2.2.2.2.1; omega⟩
                go_wp2_with fail
                refine HO.out.mono ?_
                rintro e w1 ⟨rfl, h1, hf1⟩
                have HO2 : Put (_) := ⟨f_oneOf_no aheads hbd h1 hon⟩
                have HF1 : Put (_) := ⟨HF.out.trans hf1⟩
                have hat := hbd.at_
                clear h1 hf1 HO HC hbd
                go_wp2_with fail
                refine HO2.out.mono ?_
                rintro e w2 ⟨rfl, h2, hf2⟩
                have HP : Put (_) := ⟨plain_yes (by omega) hat h2 h84 hpc⟩
                have HF2 : Put (_) := ⟨HF1.out.trans hf2⟩
                clear h2 hf2 HO2 hsm
                go_wp2_with fail
                refine HP.out.mono ?_
                rintro e w3 ⟨⟨f3, a3, rfl, hf⟩, h3, hf3⟩
                have HJ : Put (JFb B M s w0 R 3 m' (.func (.func f3) #[] a3) (.int .u8 0) w3) := ⟨.inr ⟨(c.to t').is (fun x _ => cdP s (cdOf s c.t.at_) x), h3, HF2.out.trans hf3, HB.out.1, .inr (.inl ⟨rfl, hf, HB.out.2, hRr⟩)⟩⟩
                clear h3 hf3 HP hf
                go_wp2
                apply wp_label
                first | (rename_i hK; exact hK _ _ (ih 3 _ _ ⟨m', Nat.lt_succ_self _, ⟨rfl, rfl, rfl⟩, _, _, rfl, rfl, HJ.out⟩)) | (rename_i hK _; exact hK _ _ (ih 3 _ _ ⟨m', Nat.lt_succ_self _, ⟨rfl, rfl, rfl⟩, _, _, rfl, rfl, HJ.out⟩)) | (rename_i hK _ _; exact hK _ _ (ih 3 _ _ ⟨m', Nat.lt_succ_self _, ⟨rfl, rfl, rfl⟩, _, _, rfl, rfl, HJ.out⟩))
              | false =>
                simp only [hpc] at hRr
                go_wp2_with fail
                refine HO.out.mono ?_
                rintro e w1 ⟨rfl, h1, hf1⟩
                have HO2 : Put (_) := ⟨f_oneOf_no aheads hbd h1 hon⟩
                have HF1 : Put (_) := ⟨HF.out.trans hf1⟩
                have hat := hbd.at_
                clear h1 hf1 HO HC hbd
                go_wp2_with fail
                refine HO2.out.mono ?_
                rintro e w2 ⟨rfl, h2, hf2⟩
                have HP : Put (_) := ⟨plain_no (by omega) hat h2 h84 hpc⟩
                have HF2 : Put (_) := ⟨HF1.out.trans hf2⟩
                clear h2 hf2 HO2 hsm
                go_wp2_with fail
                refine HP.out.mono ?_
                rintro e w3 ⟨⟨f3, a3, rfl⟩, h3, hf3⟩
                have HJ : Put (JFb B M s w0 R 2 0 (.func (.func f3) #[] a3) (.int .u8 0) w3) := ⟨.inl ⟨rfl, rfl, c.to t', h3, HF2.out.trans hf3, hRr⟩⟩
                clear h3 hf3 HP
                go_wp2
                go_step3
                show ∃ m'', m'' < m' + 1 ∧ JF B M s w0 R 2 m'' _ _
                exact ⟨0, Nat.succ_pos _, ⟨rfl, rfl, rfl⟩, _, _, rfl, rfl, HJ.out⟩
    · show Code.wp Tryz.prog (.seq _ _) _ _ _
      obtain ⟨fr, cr, rfl, _⟩ := hfv.form
      rw [fRun1] at hRr
      unfold st1 at hRr
      have HE : Put (_) := ⟨f_end aheads sgn_aheads h60 hbd hfv HC.out⟩
      have hbd1 := hbd.fin sgn_aheads HC.out
      have hat1 : (c.fin aheads).t.at_ = c.t.at_ := rfl
      obtain ⟨c1, hc1⟩ : ∃ c1, c1 = c.fin aheads := ⟨_, rfl⟩
      rw [← hc1] at HE hbd1 hRr hat1
      simp only at hRr
      clear hfv hbd hc1
      cases hwp : waitsP pairs c1.st with
      | true =>
        simp only [hwp, if_true] at hRr
        go_wp2_with fail
        refine HE.out.mono ?_
        rintro e w1 ⟨f1, a1, rfl, hf1, h1, hr1⟩
        have HW : Put (_) := ⟨f_waits pairs h60 hbd1 h1⟩
        rw [hwp] at HW
        have HJ : Put (JFb B M s w0 R 4 m' (.func (.func f1) #[] a1) sv w1) := ⟨.inr ⟨c1, h1, HF.out.trans hr1, hbd1, .inr (.inr (.inl ⟨rfl, hf1, by unfold Mz at *; rw [hat1]; omega, hRr⟩))⟩⟩
        clear hf1 h1 hr1 HE HC hbd1
        go_wp2_with fail
        refine HW.out.mono ?_
        rintro e w2 ⟨rfl, rfl⟩
        go_wp2
        go_step3
        show ∃ m'', m'' < m' + 1 ∧ JF B M s w0 R 4 m'' _ _
        exact ⟨m', Nat.lt_succ_self _, ⟨rfl, rfl, rfl⟩, _, _, rfl, rfl, HJ.out⟩
      | false =>
        simp only [hwp, Bool.false_eq_true, if_false] at hRr
        cases hon : oneOf? s c1.t.at_ pairs.data.toList with
        | some o =>
          simp only [hon] at hRr
          obtain ⟨ho1, ho2, ho3⟩ := one_mem hon
          have hbin : binS o := by rcases sgn_pairs o ho1 ho2 with h | h; exact absurd ho2 (by rcases h with rfl | rfl | rfl | rfl <;> decide); exact h
          have HB : Put (Bds s (c1.sign o) ∧ ((c1.sign o).ps.length + (c1.sign o).st.length < (c1.sign o).t.at_ ∧ Mz s 3 (c1.sign o) ≤ m') ∧ o ≠ 40) := ⟨hbd1.sign ho3 o, ⟨Nat.lt_succ_of_le hbd1.len, by unfold Mz at *; show 2 * (s.size - (c1.t.at_ + 1)) + 1 + 3 % 2 ≤ m'; omega⟩, by unfold binS at hbin; omega⟩
          go_wp2_with fail
          refine HE.out.mono ?_
          rintro e w1 ⟨f1, a1, rfl, hf1, h1, hr1⟩
          have HW : Put (_) := ⟨f_waits pairs h60 hbd1 h1⟩
          rw [hwp] at HW
          have HO2 : Put (_) := ⟨f_oneOf_yes pairs o (by omega) h1 hon⟩
          have HF1 : Put (_ ∧ _) := ⟨HF.out.trans hr1, hf1⟩
          clear hf1 h1 hr1 HE HC hbd1
          go_wp2_with fail
          refine HW.out.mono ?_
          rintro e w2 ⟨rfl, rfl⟩
          clear HW
          go_wp2_with fail
          refine HO2.out.mono ?_
          rintro e w3 ⟨rfl, h3, hr3⟩
          have HJ : Put (JFb B M s w0 R 1 m' (.func (.func f1) #[] a1) (.int .u8 (o : Nat)) w3) := ⟨.inr ⟨c1.sign o, h3, HF1.out.1.trans hr3, HB.out.1, .inr (.inr (.inr ⟨rfl, .inr ⟨_, _, rfl⟩, rfl, ho1, HB.out.2.2, fun _ => HF1.out.2.kp hr3.k, HB.out.2.1.1, HB.out.2.1.2, hRr⟩))⟩⟩
          clear h3 hr3 HO2
          go_wp2
          go_step3
          show ∃ m'', m'' < m' + 1 ∧ JF B M s w0 R 1 m'' _ _
          exact ⟨m', Nat.lt_succ_self _, ⟨rfl, rfl, rfl⟩, _, _, rfl, rfl, HJ.out⟩
        | none =>
          simp only [hon] at hRr
          go_wp2_with fail
          refine HE.out.mono ?_
          rintro e w1 ⟨f1, a1, rfl, hf1, h1, hr1⟩
          have HW : Put (_) := ⟨f_waits pairs h60 hbd1 h1⟩
          rw [hwp] at HW
          have HO2 : Put (_) := ⟨f_oneOf_no pairs hbd1 h1 hon⟩
          have HF1 : Put (_ ∧ _) := ⟨HF.out.trans hr1, hf1⟩
          clear hf1 h1 hr1 HE HC
          go_wp2_with fail
          refine HW.out.mono ?_
          rintro e w2 ⟨rfl, rfl⟩
          clear HW
          go_wp2_with fail
          refine HO2.out.mono ?_
          rintro e w3 ⟨rfl, h3, hr3⟩
          have HJ : Put (JFb B M s w0 R 4 m' (.func (.func f1) #[] a1) (.int .u8 0) w3) := ⟨.inr ⟨c1, h3, HF1.out.1.trans hr3, hbd1, .inr (.inr (.inl ⟨rfl, HF1.out.2.kp hr3.k, by unfold Mz at *; rw [hat1]; omega, hRr⟩))⟩⟩
          clear h3 hr3 HO2 hbd1
          go_wp2
          apply wp_label
          first | (rename_i hK; exact hK _ _ (ih 4 _ _ ⟨m', Nat.lt_succ_self _, ⟨rfl, rfl, rfl⟩, _, _, rfl, rfl, HJ.out⟩)) | (rename_i hK _; exact hK _ _ (ih 4 _ _ ⟨m', Nat.lt_succ_self _, ⟨rfl, rfl, rfl⟩, _, _, rfl, rfl, HJ.out⟩)) | (rename_i hK _ _; exact hK _ _ (ih 4 _ _ ⟨m', Nat.lt_succ_self _, ⟨rfl, rfl, rfl⟩, _, _, rfl, rfl, HJ.out⟩))
    · show Code.wp Tryz.prog (.seq _ _) _ _ _
      obtain ⟨fr, cr, rfl, _⟩ := hfv.form
      rw [fRun2] at hRr
      unfold st2 at hRr
      have HE : Put (_) := ⟨f_end pairs sgn_pairs h60 hbd hfv HC.out⟩
      have hbd1 := hbd.fin sgn_pairs HC.out
      have hat1 : (c.fin pairs).t.at_ = c.t.at_ := rfl
      obtain ⟨c1, hc1⟩ : ∃ c1, c1 = c.fin pairs := ⟨_, rfl⟩
      rw [← hc1] at HE hbd1 hRr hat1
      simp only at hRr
      clear hfv hbd hc1
      go_wp2_with fail
      refine HE.out.mono ?_
      rintro e w1 ⟨f1, a1, rfl, hf1, h1, hr1⟩
      have HF1 : Put (_ ∧ _) := ⟨HF.out.trans hr1, hf1⟩
      clear HE HC hr1
      cases hon : oneOf? s c1.t.at_ ands.data.toList with
      | some o =>
        simp only [hon] at hRr
        obtain ⟨ho1, ho2, ho3⟩ := one_mem hon
        have hbin : binS o := by rcases sgn_ands o ho1 ho2 with h | h; exact absurd ho2 (by rcases h with rfl | rfl | rfl | rfl <;> decide); exact h
        have HB : Put (Bds s (c1.sign o) ∧ ((c1.sign o).ps.length + (c1.sign o).st.length < (c1.sign o).t.at_ ∧ Mz s 3 (c1.sign o) ≤ m') ∧ o ≠ 40) := ⟨hbd1.sign ho3 o, ⟨Nat.lt_succ_of_le hbd1.len, by unfold Mz at *; show 2 * (s.size - (c1.t.at_ + 1)) + 1 + 3 % 2 ≤ m'; omega⟩, by unfold binS at hbin; omega⟩
        have HO2 : Put (_) := ⟨f_oneOf_yes ands o (by omega) h1 hon⟩
        clear hf1 h1 hbd1
        go_wp2_with fail
        refine HO2.out.mono ?_
        rintro e w3 ⟨rfl, h3, hr3⟩
        have HJ : Put (JFb B M s w0 R 1 m' (.func (.func f1) #[] a1) (.int .u8 (o : Nat)) w3) := ⟨.inr ⟨c1.sign o, h3, HF1.out.1.trans hr3, HB.out.1, .inr (.inr (.inr ⟨rfl, .inr ⟨_, _, rfl⟩, rfl, ho1, HB.out.2.2, fun _ => HF1.out.2.kp hr3.k, HB.out.2.1.1, HB.out.2.1.2, hRr⟩))⟩⟩
        clear h3 hr3 HO2
        go_wp2
        go_step3
        show ∃ m'', m'' < m' + 1 ∧ JF B M s w0 R 1 m'' _ _
        exact ⟨m', Nat.lt_succ_self _, ⟨rfl, rfl, rfl⟩, _, _, rfl, rfl, HJ.out⟩
      | none =>
        simp only [hon] at hRr
        have HO2 : Put (_) := ⟨f_oneOf_no ands hbd1 h1 hon⟩
        clear hf1 h1
        go_wp2_with fail
        refine HO2.out.mono ?_
        rintro e w2 ⟨rfl, h2, hr2⟩
        have HF2 : Put (_) := ⟨HF1.out.1.trans hr2⟩
        unfold stA at hRr
        have HE2 : Put (_) := ⟨f_end ands sgn_ands h60 hbd1 (HF1.out.2.kp hr2.k) h2⟩
        have hbd2 := hbd1.fin sgn_ands h2
        have hat2 : (c1.fin ands).t.at_ = c1.t.at_ := rfl
        obtain ⟨c2, hc2⟩ : ∃ c2, c2 = c1.fin ands := ⟨_, rfl⟩
        rw [← hc2] at HE2 hbd2 hRr hat2
        simp only at hRr
        clear hbd1 hc2 h2 hr2 HO2 HF1
        go_wp2_with fail
        refine HE2.out.mono ?_
        rintro e w3 ⟨f3, a3, rfl, hf3, h3, hr3⟩
        have HF3 : Put (_ ∧ _) := ⟨HF2.out.trans hr3, hf3⟩
        clear HE2 HF2 hr3
        cases hon2 : oneOf? s c2.t.at_ ors.data.toList with
        | some o =>
          simp only [hon2] at hRr
          obtain ⟨ho1, ho2, ho3⟩ := one_mem hon2
          have hbin : binS o := by rcases sgn_ors o ho1 ho2 with h | h; exact absurd ho2 (by rcases h with rfl | rfl | rfl | rfl <;> decide); exact h
          have HB : Put (Bds s (c2.sign o) ∧ ((c2.sign o).ps.length + (c2.sign o).st.length < (c2.sign o).t.at_ ∧ Mz s 3 (c2.sign o) ≤ m') ∧ o ≠ 40) := ⟨hbd2.sign ho3 o, ⟨Nat.lt_succ_of_le hbd2.len, by unfold Mz at *; show 2 * (s.size - (c2.t.at_ + 1)) + 1 + 3 % 2 ≤ m'; omega⟩, by unfold binS at hbin; omega⟩
          have HO4 : Put (_) := ⟨f_oneOf_yes ors o (by omega) h3 hon2⟩
          clear hf3 h3 hbd2
          go_wp2_with fail
          refine HO4.out.mono ?_
          rintro e w4 ⟨rfl, h4, hr4⟩
          have HJ : Put (JFb B M s w0 R 1 m' (.func (.func f3) #[] a3) (.int .u8 (o : Nat)) w4) := ⟨.inr ⟨c2.sign o, h4, HF3.out.1.trans hr4, HB.out.1, .inr (.inr (.inr ⟨rfl, .inr ⟨_, _, rfl⟩, rfl, ho1, HB.out.2.2, fun _ => HF3.out.2.kp hr4.k, HB.out.2.1.1, HB.out.2.1.2, hRr⟩))⟩⟩
          clear h4 hr4 HO4
          go_wp2
          go_step3
          show ∃ m'', m'' < m' + 1 ∧ JF B M s w0 R 1 m'' _ _
          exact ⟨m', Nat.lt_succ_self _, ⟨rfl, rfl, rfl⟩, _, _, rfl, rfl, HJ.out⟩
        | none =>
          simp only [hon2] at hRr
          have HO4 : Put (_) := ⟨f_oneOf_no ors hbd2 h3 hon2⟩
          clear hf3 h3
          go_wp2_with fail
          refine HO4.out.mono ?_
          rintro e w4 ⟨rfl, h4, hr4⟩
          have HF4 : Put (_) := ⟨HF3.out.1.trans hr4⟩
          unfold stB at hRr
          have HE4 : Put (_) := ⟨f_end ors sgn_ors h60 hbd2 (HF3.out.2.kp hr4.k) h4⟩
          have hbd3 := hbd2.fin sgn_ors h4
          have hat3 : (c2.fin ors).t.at_ = c2.t.at_ := rfl
          obtain ⟨c3, hc3⟩ : ∃ c3, c3 = c2.fin ors := ⟨_, rfl⟩
          rw [← hc3] at HE4 hbd3 hRr hat3
          simp only at hRr
          clear hbd2 hc3 h4 hr4 HO4 HF3
          go_wp2_with fail
          refine HE4.out.mono ?_
          rintro e w5 ⟨f5, a5, rfl, hf5, h5, hr5⟩
          have HF5 : Put (_ ∧ _) := ⟨HF4.out.trans hr5, hf5⟩
          clear HE4 HF4 hr5 hf5
          by_cases ho : c3.opn = 0
          · rw [if_pos ho] at hRr
            have h5' : FC B M s c3.t .nilFunc 0 c3.deep c3.ps c3.st w5 := by have := h5; unfold FCc at this; rw [ho] at this; exact this
            have HCl : Put (_) := ⟨closes_zero h5'⟩
            clear h5 h5'
            go_wp2_with fail
            refine HCl.out.mono ?_
            rintro e w6 ⟨rfl, h6, hr6⟩
            have h6' : FCc B M s c3 .nilFunc w6 := by unfold FCc; rw [ho]; exact h6
            have e8 := h6.cells.2.1
            have HF6 : Put (_ ∧ _) := ⟨HF5.out.1.trans hr6, HF5.out.2.kp hr6.k⟩
            have HA : Put (_) := ⟨f_atEnd hbd3 h6'⟩
            clear h6 h6' hr6 HF5 HCl
            by_cases hend : c3.t.at_ = s.size
            · rw [decide_eq_true hend] at HA hRr
              go_wp2_with fail
              refine HA.out.mono ?_
              rintro e w7 ⟨rfl, h7, hr7⟩
              obtain ⟨-, -, -, e5, efr⟩ := FC.cells h7
              have fr5 := efr 5
              have FIN : Put (FormPost2 B M s R w0 (.returned (.bool true)) (w7.setCell ⟨B, 5, none⟩ (.func (.func f5) #[] a5))) := ⟨by
                obtain ⟨h8, hr8⟩ := FC.set5 h7 (.func (.func f5) #[] a5)
                exact .inr ⟨c3, _, rfl, hRr, h8, (HF6.out.1.trans hr7).trans hr8, (HF6.out.2.kp hr7.k).kp hr8.k⟩⟩
              clear h7 hr7 HF6 HA hbd3 efr
              go_wp2
              rw [jumps_ret]
              go_ret
              exact FIN.out
            · rw [decide_eq_false hend] at HA hRr
              go_wp2_with fail
              refine HA.out.mono ?_
              rintro e w7 ⟨rfl, h7, hr7⟩
              have HJ : Put (JFb B M s w0 R 2 0 (.func (.func f5) #[] a5) (.int .u8 0) w7) := ⟨.inl ⟨rfl, rfl, c3, h7, HF6.out.1.trans hr7, hRr⟩⟩
              clear h7 hr7 HF6 HA hbd3
              go_wp2
              go_step3
              show ∃ m'', m'' < m' + 1 ∧ JF B M s w0 R 2 m'' _ _
              exact ⟨0, Nat.succ_pos _, ⟨rfl, rfl, rfl⟩, _, _, rfl, rfl, HJ.out⟩
          · rw [if_neg ho] at hRr
            cases h41 : num? s c3.t.at_ 41 0 0 with
            | some k =>
              simp only [h41] at hRr
              have hlt := num_lt h41
              obtain ⟨e0, st0, hst⟩ : ∃ e0 st0, c3.st = e0 :: st0 := by
                cases hst : c3.st with
                | nil =>
                  have := hbd3.opn
                  rw [hst] at this
                  exact absurd (Nat.le_zero.1 this) ho
                | cons e0 st0 => exact ⟨e0, st0, rfl⟩
              have hcnt := hbd3.opn
              have hlen := hbd3.len
              have hat5 := hbd3.at_
              have hle := cnt40_le c3.st
              have hb4 : Bds s c3.closes := by
                refine ⟨hlt, ?_, ?_⟩
                · show c3.ps.length + c3.st.tail.length ≤ c3.t.at_ + 1
                  rw [List.length_tail]; omega
                · show c3.opn - 1 ≤ cnt40 c3.st.tail
                  rw [hst] at hcnt ⊢
                  unfold cnt40 at hcnt
                  show c3.opn - 1 ≤ cnt40 st0
                  split at hcnt <;> omega
              have h5' : FC B M s c3.t .nilFunc c3.opn c3.deep c3.ps (e0 :: st0) w5 := by have := h5; unfold FCc at this; rw [hst] at this; exact this
              have HCl : Put (_) := ⟨closes_yes (by omega) (by rw [hst] at hlen; simp only [List.length_cons] at hlen; omega) ho (by omega) h5' h41⟩
              have HB : Put (Bds s c3.closes ∧ Mz s 1 c3.closes ≤ m' ∧ c3.closes.st = st0) := ⟨hb4, by unfold Mz at *; show 2 * (s.size - (c3.t.at_ + 1)) + 1 + 1 % 2 ≤ m'; omega, by show c3.st.tail = st0; rw [hst]; rfl⟩
              clear h5 h5' hb4 hbd3 hst hcnt hlen hle
              go_wp2_with fail
              refine HCl.out.mono ?_
              rintro e w6 ⟨rfl, h6, hr6⟩
              have h6' : FCc B M s c3.closes .nilFunc w6 := by unfold FCc; rw [HB.out.2.2]; exact h6
              have HJ : Put (JFb B M s w0 R 3 m' (.func (.func f5) #[] a5) (.int .u8 0) w6) := ⟨.inr ⟨c3.closes, h6', HF5.out.1.trans hr6, HB.out.1, .inr (.inl ⟨rfl, HF5.out.2.kp hr6.k, HB.out.2.1, hRr⟩)⟩⟩
              clear h6 h6' hr6 HF5 HCl
              go_wp2
              go_step3
              show ∃ m'', m'' < m' + 1 ∧ JF B M s w0 R 3 m'' _ _
              exact ⟨m', Nat.lt_succ_self _, ⟨rfl, rfl, rfl⟩, _, _, rfl, rfl, HJ.out⟩
            | none =>
              simp only [h41] at hRr
              have HCl : Put (_) := ⟨closes_no (by omega) hbd3.at_ ho h5 h41⟩
              have hop : (0 : Int) < (c3.opn : Int) := by omega
              clear h5
              go_wp2_with fail
              refine HCl.out.mono ?_
              rintro e w6 ⟨rfl, h6, hr6⟩
              have e8 := (FC.cells h6).2.1
              have HJ : Put (JFb B M s w0 R 2 0 (.func (.func f5) #[] a5) (.int .u8 0) w6) := ⟨.inl ⟨rfl, rfl, c3, h6, HF5.out.1.trans hr6, hRr⟩⟩
              clear h6 hr6 HF5 HCl hbd3
              go_wp2
              go_step3
              show ∃ m'', m'' < m' + 1 ∧ JF B M s w0 R 2 m'' _ _
              exact ⟨0, Nat.succ_pos _, ⟨rfl, rfl, rfl⟩, _, _, rfl, rfl, HJ.out⟩
    · show Code.wp Tryz.prog (.seq _ _) _ _ _
      rw [fRun3] at hRr
      have HB : Put (Bds s c.push ∧ Mz s 0 c.push ≤ m') := ⟨⟨hbd.at_, by show c.ps.length + (c.st.length + 1) ≤ c.t.at_; omega, by show c.opn ≤ (if c.sg = 40 then 1 else 0) + cnt40 c.st; rw [if_neg hs40]; have := hbd.opn; omega⟩, by unfold Mz at *; show 2 * (s.size - c.t.at_) + 1 + 0 % 2 ≤ m'; omega⟩
      obtain ⟨wvs, aw, cw, ⟨pvs, ap, cp, hfr, hpo⟩, hall⟩ := HC.out
      have hwl : wvs.length ≤ 60 := by have := hall.length; simp at this; omega
      have d7 := hfr.c7
      have hB := hfr.lt
      have HSB : Put (_) := ⟨hsb⟩
      have HH : Put (_ ∧ _ ∧ _) := ⟨hfr, hpo, hall⟩
      clear HC hfr hpo hall hbd hsb
      have hfv' := hfv
      rcases hfv with rfl | ⟨f1, a1, rfl⟩
      · have HWO : Put (WaitOk w' ⟨c.sg, .nilFunc⟩ (c.sg, c.g)) := ⟨⟨rfl, hsg, hfv', HSB.out⟩⟩
        have hone : ∀ u ∈ (⟨c.sg, .nilFunc⟩ : WV).cells, u.oneCell' = true := by
          intro u hu
          simp only [WV.cells, List.mem_cons, List.not_mem_nil, or_false] at hu
          rcases hu with rfl | rfl <;> rfl
        have HON : Put (_) := ⟨hone⟩
        clear hone
        go_wp2_with (at_builtin; refine wpList_append_own _ rfl _ _ 202 rfl (B + 1) 259 i0 _ 2 16 Tryz.underlying202 hi hz0 hz1 hz2 rfl (Nat.succ_pos 1) (.slice aw wvs.length cw) wvs.length (wvs.flatMap WV.cells) rfl (HH.out.1.q.alloc _) ⟨w'.heap.size, 0, none⟩ 1 1 ((⟨c.sg, .nilFunc⟩ : WV).cells) rfl rfl (news_here _ _ _) HON.out ?c3 ?c4 ?c5 ?_)
        case c3 => unfold maxLen; omega
        case c4 => omega
        case c5 => first | exact Nat.le_succ_of_le hB | omega | (simp; omega)
        intro v' w5 hown' hgrow _
        obtain ⟨g5, cap5, hv5⟩ := owned_form hown' (by omega)
        subst hv5
        have hal : Below w'.heap.size w' (w'.alloc (.cells ((⟨c.sg, .nilFunc⟩ : WV).cells).toArray 259)) := (Below.refl _ _).alloc (Nat.le_refl _) _
        have hfa := HH.out.1.below hal
        have g5' := hfa.g.grown hgrow (ne_own (Nat.lt_succ_self B) hfa.q) (ne_own (Nat.lt_trans hfa.g.lo (Nat.lt_succ_self B)) hfa.q)
        have k7 : w5.cell? ⟨B, 7, none⟩ = some (.slice aw wvs.length cw) := by simp [World.cell?, g5'.blk, rblk, frest]
        have f7 := g5'.free 7
        obtain ⟨hc6, hF6⟩ := FC.push (st := c.st) hfa (HH.out.2.1.mono (fun _ _ h => h.kp (KP.of_below hal))) (WaitOk.all HH.out.2.2 (KP.of_below hal)) ⟨c.sg, .nilFunc⟩ (c.sg, c.g) (HWO.out.kp (KP.of_below hal)) hgrow hown'
        have HJ : Put (JFb B M s w0 R 0 m' (.nilFunc) (.int .u8 (c.sg : Nat)) (w5.setCell ⟨B, 7, none⟩ (.slice (some ⟨g5, 0, none⟩) (wvs.length + 1) cap5))) := ⟨.inr ⟨c.push, hc6, (HF.out.trans (Fr.of_below hal (Nat.le_of_lt hB))).trans hF6, HB.out.1, .inl ⟨rfl, hfv', HB.out.2, hRr⟩⟩⟩
        clear hal hfa g5' hc6 hF6 hown' hgrow HH d7 HWO HON
        go_wp2
        go_step3
        show ∃ m'', m'' < m' + 1 ∧ JF B M s w0 R 0 m'' _ _
        exact ⟨m', Nat.lt_succ_self _, ⟨rfl, rfl, rfl⟩, _, _, rfl, rfl, HJ.out⟩
      · have HWO : Put (WaitOk w' ⟨c.sg, .func (.func f1) #[] a1⟩ (c.sg, c.g)) := ⟨⟨rfl, hsg, hfv', HSB.out⟩⟩
        have hone : ∀ u ∈ (⟨c.sg, .func (.func f1) #[] a1⟩ : WV).cells, u.oneCell' = true := by
          intro u hu
          simp only [WV.cells, List.mem_cons, List.not_mem_nil, or_false] at hu
          rcases hu with rfl | rfl <;> rfl
        have HON : Put (_) := ⟨hone⟩
        clear hone
        go_wp2_with (at_builtin; refine wpList_append_own _ rfl _ _ 202 rfl (B + 1) 259 i0 _ 2 16 Tryz.underlying202 hi hz0 hz1 hz2 rfl (Nat.succ_pos 1) (.slice aw wvs.length cw) wvs.length (wvs.flatMap WV.cells) rfl (HH.out.1.q.alloc _) ⟨w'.heap.size, 0, none⟩ 1 1 ((⟨c.sg, .func (.func f1) #[] a1⟩ : WV).cells) rfl rfl (news_here _ _ _) HON.out ?c3 ?c4 ?c5 ?_)
        case c3 => unfold maxLen; omega
        case c4 => omega
        case c5 => first | exact Nat.le_succ_of_le hB | omega | (simp; omega)
        intro v' w5 hown' hgrow _
        obtain ⟨g5, cap5, hv5⟩ := owned_form hown' (by omega)
        subst hv5
        have hal : Below w'.heap.size w' (w'.alloc (.cells ((⟨c.sg, .func (.func f1) #[] a1⟩ : WV).cells).toArray 259)) := (Below.refl _ _).alloc (Nat.le_refl _) _
        have hfa := HH.out.1.below hal
        have g5' := hfa.g.grown hgrow (ne_own (Nat.lt_succ_self B) hfa.q) (ne_own (Nat.lt_trans hfa.g.lo (Nat.lt_succ_self B)) hfa.q)
        have k7 : w5.cell? ⟨B, 7, none⟩ = some (.slice aw wvs.length cw) := by simp [World.cell?, g5'.blk, rblk, frest]
        have f7 := g5'.free 7
        obtain ⟨hc6, hF6⟩ := FC.push (st := c.st) hfa (HH.out.2.1.mono (fun _ _ h => h.kp (KP.of_below hal))) (WaitOk.all HH.out.2.2 (KP.of_below hal)) ⟨c.sg, .func (.func f1) #[] a1⟩ (c.sg, c.g) (HWO.out.kp (KP.of_below hal)) hgrow hown'
        have HJ : Put (JFb B M s w0 R 0 m' (.func (.func f1) #[] a1) (.int .u8 (c.sg : Nat)) (w5.setCell ⟨B, 7, none⟩ (.slice (some ⟨g5, 0, none⟩) (wvs.length + 1) cap5))) := ⟨.inr ⟨c.push, hc6, (HF.out.trans (Fr.of_below hal (Nat.le_of_lt hB))).trans hF6, HB.out.1, .inl ⟨rfl, hfv', HB.out.2, hRr⟩⟩⟩
        clear hal hfa g5' hc6 hF6 hown' hgrow HH d7 HWO HON
        go_wp2
        go_step3
        show ∃ m'', m'' < m' + 1 ∧ JF B M s w0 R 0 m'' _ _
        exact ⟨m', Nat.lt_succ_self _, ⟨rfl, rfl, rfl⟩, _, _, rfl, rfl, HJ.out⟩
end
end Go.Proofs.YtgoebckimmofoaaGreatDoor
