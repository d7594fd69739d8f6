/- The code's reader: terms, comparisons, sets of names. Our own text. -/
import Derived.Test.YtcnhhclogbjedaaDoorNum
import Derived.Laws.EntriesVeiled
namespace Go.Proofs.YtcnhhclogbjedaaDoor
open Go.RowKit

def pTerm (s : ByteArray) (t : T) : Option T :=
  match num? s t.at_ 48 0 3 with
  | some _ => some t.adv
  | none => match num? s t.at_ 97 0 2 with
    | some k => some (t.named k)
    | none => none
def pCmp (s : ByteArray) (t : T) : Option T :=
  match num? s t.at_ 61 0 0 with
  | some _ => some t.adv
  | none => match num? s t.at_ 35 0 0 with
    | some _ => some t.adv
    | none => match num? s t.at_ 60 0 0 with
      | some _ => some t.adv
      | none => none

section
variable {B : Nat} {s : ByteArray} {t : T} {x : Junk} {w : World}
theorem cmp_no (hs : s.size ≤ 120) (hat : t.at_ ≤ s.size) (hb : RB B s t x w) (hn : pCmp s t = none) :
    Calls Tryd.prog 65 #[.pointer (some ⟨B, 0, none⟩)] w fun e w' => (∃ v, e = .returned (.tuple #[v, .bool false]) ∧ v = .nilFunc) ∧ RB B s t x w' ∧ Ex B w w' := by
  unfold pCmp at hn
  cases h1 : num? s t.at_ 61 0 0 with
  | some k => simp [h1] at hn
  | none =>
    cases h2 : num? s t.at_ 35 0 0 with
    | some k => simp [h1, h2] at hn
    | none =>
      cases h3 : num? s t.at_ 60 0 0 with
      | some k => simp [h1, h2, h3] at hn
      | none =>
        clear hn
        go_enter Tryd.func65, Tryd.ntmps65
        go_wp2_with fail
        refine (take_no 61 hs hat (by omega) hb h1).mono ?_; rintro e w1 ⟨rfl, hb1, hx1⟩
        go_wp2_with fail
        refine (take_no 35 hs hat (by omega) hb1 h2).mono ?_; rintro e w2 ⟨rfl, hb2, hx2⟩
        go_wp2_with fail
        refine (take_no 60 hs hat (by omega) hb2 h3).mono ?_; rintro e w3 ⟨rfl, hb3, hx3⟩
        go_wp2
        go_ret2
        exact ⟨⟨_, rfl, rfl⟩, hb3, (hx1.trans hx2).trans hx3⟩
theorem cmp_yes {t' : T} (hs : s.size ≤ 120) (hat : t.at_ ≤ s.size) (hb : RB B s t x w) (hn : pCmp s t = some t') :
    Calls Tryd.prog 65 #[.pointer (some ⟨B, 0, none⟩)] w fun e w' => (∃ f a, e = .returned (.tuple #[.func f #[] a, .bool true])) ∧ RB B s t' x w' ∧ Ex B w w' := by
  unfold pCmp at hn
  cases h1 : num? s t.at_ 61 0 0 with
  | some k =>
    simp [h1] at hn; subst hn
    go_enter Tryd.func65, Tryd.ntmps65
    go_wp2_with (go_at_call 44; refine (take_yes 61 k hs (by omega) hb h1).mono ?_; rintro e w1 ⟨rfl, hb1, hx1⟩)
    go_ret2
    exact ⟨⟨_, _, rfl⟩, hb1, hx1⟩
  | none =>
    cases h2 : num? s t.at_ 35 0 0 with
    | some k =>
      simp [h1, h2] at hn; subst hn
      go_enter Tryd.func65, Tryd.ntmps65
      go_wp2_with fail
      refine (take_no 61 hs hat (by omega) hb h1).mono ?_; rintro e w1 ⟨rfl, hb1, hx1⟩
      go_wp2_with fail
      refine (take_yes 35 k hs (by omega) hb1 h2).mono ?_; rintro e w2 ⟨rfl, hb2, hx2⟩
      go_wp2
      go_ret2
      exact ⟨⟨_, _, rfl⟩, hb2, hx1.trans hx2⟩
    | none =>
      cases h3 : num? s t.at_ 60 0 0 with
      | some k =>
        simp [h1, h2, h3] at hn; subst hn
        go_enter Tryd.func65, Tryd.ntmps65
        go_wp2_with fail
        refine (take_no 61 hs hat (by omega) hb h1).mono ?_; rintro e w1 ⟨rfl, hb1, hx1⟩
        go_wp2_with fail
        refine (take_no 35 hs hat (by omega) hb1 h2).mono ?_; rintro e w2 ⟨rfl, hb2, hx2⟩
        go_wp2_with fail
        refine (take_yes 60 k hs (by omega) hb2 h3).mono ?_; rintro e w3 ⟨rfl, hb3, hx3⟩
        go_wp2
        go_ret2
        exact ⟨⟨_, _, rfl⟩, hb3, (hx1.trans hx2).trans hx3⟩
      | none => simp [h1, h2, h3] at hn

theorem term_no (hs : s.size ≤ 120) (hat : t.at_ ≤ s.size) (hb : RB B s t x w) (hn : pTerm s t = none) :
    Calls Tryd.prog 64 #[.pointer (some ⟨B, 0, none⟩)] w fun e w' => e = .returned (.tuple #[.nilFunc, .bool false]) ∧ RB B s t x w' ∧ Ex B w w' := by
  unfold pTerm at hn
  cases h1 : num? s t.at_ 48 0 3 with
  | some k => simp [h1] at hn
  | none =>
    cases h2 : num? s t.at_ 97 0 2 with
    | some k => simp [h1, h2] at hn
    | none =>
      clear hn
      have hmf : ∀ (fn : Fn) (first cap : Array Value) (w : World), (Instr.makeFunc fn first cap).run Tryd.prog w = .ok (.func fn first cap) w := fun _ _ _ _ => rfl
      go_enter Tryd.func64, Tryd.ntmps64
      go_wp2_with (first | (go_at_call 60; refine (digit_no 0 hs hat (by omega) hb h1).mono ?_; rintro e w1 ⟨rfl, hb1, hx1⟩) | (go_at_call 67; refine (name_no hs hat (hb1.alloc _) h2).mono ?_; rintro e w2 ⟨rfl, hb2, hx2⟩))
      go_ret2
      exact ⟨rfl, hb2.alloc _, ((hx1.alloc _).trans hx2).alloc _⟩
theorem term_yes {t' : T} (hs : s.size ≤ 120) (hat : t.at_ ≤ s.size) (hb : RB B s t x w) (hn : pTerm s t = some t') :
    Calls Tryd.prog 64 #[.pointer (some ⟨B, 0, none⟩)] w fun e w' => (∃ f a, e = .returned (.tuple #[.func f #[] a, .bool true])) ∧ RB B s t' x w' ∧ Ex B w w' := by
  unfold pTerm at hn
  have hmf : ∀ (fn : Fn) (first cap : Array Value) (w : World), (Instr.makeFunc fn first cap).run Tryd.prog w = .ok (.func fn first cap) w := fun _ _ _ _ => rfl
  cases h1 : num? s t.at_ 48 0 3 with
  | some k =>
    simp [h1] at hn; subst hn
    go_enter Tryd.func64, Tryd.ntmps64
    go_wp2_with (go_at_call 60; refine (digit_yes 0 k hs (by omega) hb h1).mono ?_; rintro e w1 ⟨rfl, hb1, hx1⟩)
    go_ret2
    exact ⟨⟨_, _, rfl⟩, hb1.alloc _, hx1.alloc _⟩
  | none =>
    cases h2 : num? s t.at_ 97 0 2 with
    | some k =>
      simp [h1, h2] at hn; subst hn
      go_enter Tryd.func64, Tryd.ntmps64
      go_wp2_with (first | (go_at_call 60; refine (digit_no 0 hs hat (by omega) hb h1).mono ?_; rintro e w1 ⟨rfl, hb1, hx1⟩) | (go_at_call 67; refine (name_yes k hs (hb1.alloc _) h2).mono ?_; rintro e w2 ⟨rfl, hb2, hx2⟩))
      go_ret2
      exact ⟨⟨_, _, rfl⟩, hb2.alloc _, ((hx1.alloc _).trans hx2).alloc _⟩
    | none => simp [h1, h2] at hn
end

theorem oneNames (k : Nat) (hk : k ≤ 2) (w : World) : Calls Tryd.prog 83 #[.int .i64 k] w fun e w' => e = .returned (.int .u8 ((2 ^ k : Nat) : Int)) ∧ w' = w := by
  have h : k = 0 ∨ k = 1 ∨ k = 2 := by omega
  rcases h with rfl | rfl | rfl
  all_goals
    go_enter Tryd.func83, Tryd.ntmps83
    go_wp2
    go_ret
    exact ⟨rfl, rfl⟩
theorem oneValues (k : Nat) (hk : k ≤ 3) (w : World) : Calls Tryd.prog 77 #[.int .i64 k] w fun e w' => e = .returned (.int .u8 ((2 ^ k : Nat) : Int)) ∧ w' = w := by
  have h : k = 0 ∨ k = 1 ∨ k = 2 ∨ k = 3 := by omega
  rcases h with rfl | rfl | rfl | rfl
  all_goals
    go_enter Tryd.func77, Tryd.ntmps77
    go_wp2
    go_ret
    exact ⟨rfl, rfl⟩
theorem hasNames (c k : Nat) (hc : c < 8) (hk : k ≤ 2) (w : World) : Calls Tryd.prog 68 #[.int .u8 c, .int .i64 k] w fun e w' => e = .returned (.bool (c.testBit k)) ∧ w' = w := by
  go_enter Tryd.func68, Tryd.ntmps68
  go_wp2_with (go_at_call 83; refine (oneNames k hk _).mono ?_; rintro e w1 ⟨rfl, rfl⟩)
  go_ret
  have h : ∀ c : Nat, c < 8 → ∀ k : Nat, k < 3 → (bits BinOp.and IntKind.u8 (c : Int) (2 ^ k) != 0) = c.testBit k := by decide
  rw [← h c hc k (by omega)]
  exact ⟨rfl, rfl⟩
theorem withNames (c k : Nat) (hc : c < 8) (hk : k ≤ 2) (w : World) : Calls Tryd.prog 69 #[.int .u8 c, .int .i64 k] w fun e w' => e = .returned (.int .u8 ((c ||| 2 ^ k : Nat) : Int)) ∧ w' = w := by
  go_enter Tryd.func69, Tryd.ntmps69
  go_wp2_with (go_at_call 83; refine (oneNames k hk _).mono ?_; rintro e w1 ⟨rfl, rfl⟩)
  go_ret
  have h : ∀ c : Nat, c < 8 → ∀ k : Nat, k < 3 → bits BinOp.or IntKind.u8 (c : Int) (2 ^ k) = ((c ||| 2 ^ k : Nat) : Int) := by decide
  rw [← h c hc k (by omega)]
  exact ⟨rfl, rfl⟩
theorem withValues (c : Int) (k : Nat) (hk : k ≤ 3) (w : World) : Calls Tryd.prog 62 #[.int .u8 c, .int .i64 k] w fun e w' => (∃ c' : Int, e = .returned (.int .u8 c')) ∧ w' = w := by
  go_enter Tryd.func62, Tryd.ntmps62
  go_wp2_with (go_at_call 77; refine (oneValues k hk _).mono ?_; rintro e w1 ⟨rfl, rfl⟩)
  go_ret
  exact ⟨⟨_, rfl⟩, rfl⟩
end Go.Proofs.YtcnhhclogbjedaaDoor
