/- The code's reader: its small steps. Our own text. -/
import Derived.Test.YtkbmolodljenjaaDoorBase
namespace Go.Proofs.YtkbmolodljenjaaDoor
open Go.RowKit

theorem num_ways {s : ByteArray} {p z lo hi : Nat} (h : num? s p z lo hi = none) (hp : p ≤ s.size) : p = s.size ∨ ∃ h : p < s.size, (s[p].toNat < z + lo ∨ z + hi < s[p].toNat) := by
  unfold num? at h; split at h
  · next h' => split at h
               · cases h
               · exact .inr ⟨h', by omega⟩
  · exact .inl (by omega)
theorem num_some {s : ByteArray} {p z lo hi k : Nat} (h : num? s p z lo hi = some k) : ∃ h : p < s.size, z + lo ≤ s[p].toNat ∧ s[p].toNat ≤ z + hi ∧ k = s[p].toNat - z := by
  unfold num? at h; split at h
  · next h' => split at h
               · simp at h; exact ⟨h', by omega, by omega, by omega⟩
               · cases h
  · cases h

section
variable {B M : Nat} {ty : TypeId} {rest : List Value} {s : ByteArray} {t : T} {w : World}

theorem atEnd_q (_hat : t.at_ ≤ s.size) (hb : RG B M ty rest s t w) :
    Calls Tryd.prog 59 #[.pointer (some ⟨B, 0, none⟩)] w fun e w' => e = .returned (.bool (decide (t.at_ = s.size))) ∧ ∃ n, w' = w.drewN n := by
  have c0 := hb.c0
  have c1 := hb.c1
  by_cases h : t.at_ = s.size
  · rw [decide_eq_true h]
    rw [h] at c1
    clear hb h
    go_enter Tryd.func59, Tryd.ntmps59
    go_wp2
    go_quiet (fail)
    go_wp2
    go_ret
    exact ⟨rfl, _, rfl⟩
  · rw [decide_eq_false h]
    have i2 : ((t.at_ : Int) == (s.size : Int)) = false := by simp; omega
    clear hb h
    go_enter Tryd.func59, Tryd.ntmps59
    go_wp2
    go_quiet (fail)
    go_wp2
    go_ret
    exact ⟨rfl, _, rfl⟩
theorem atEnd_any (hat : t.at_ ≤ s.size) (hb : RG B M ty rest s t w) :
    Calls Tryd.prog 59 #[.pointer (some ⟨B, 0, none⟩)] w fun e w' => e = .returned (.bool (decide (t.at_ = s.size))) ∧ RG B M ty rest s t w' ∧ Ex B w w' := by
  refine (atEnd_q hat hb).mono ?_
  rintro e w' ⟨he, n, rfl⟩
  exact ⟨he, hb.drewN _, (Ex.refl _ _).drewN _⟩

set_option maxHeartbeats 400000 in
theorem number_none (z lo hi : Nat) (_hs : s.size ≤ 120) (hat : t.at_ ≤ s.size) (hz : z ≤ 255) (hlo : lo ≤ 10) (hhi : hi ≤ 10) (hb : RG B M ty rest s t w) (hn : num? s t.at_ z lo hi = none) :
    Calls Tryd.prog 78 #[.pointer (some ⟨B, 0, none⟩), .int .u8 z, .int .i64 lo, .int .i64 hi] w fun e w' =>
      e = .returned (.tuple #[.int .i64 0, .bool false]) ∧ RG B M ty rest s t w' ∧ Ex B w w' := by
  have he := atEnd_any hat hb
  rcases num_ways hn hat with h | ⟨h, h'⟩
  · rw [decide_eq_true h] at he
    clear hb h hn hat
    go_enter Tryd.func78, Tryd.ntmps78
    go_wp2_with fail
    refine he.mono ?_; rintro e w1 ⟨rfl, hb1, hx1⟩
    go_wp2
    go_ret2
    exact ⟨rfl, hb1, hx1⟩
  · rw [decide_eq_false (by omega)] at he
    have hlt : s[t.at_].toNat < 256 := s[t.at_].toNat_lt
    have i1 : (t.at_ : Int) < (s.size : Int) := by omega
    have i0 : (0 : Int) ≤ (t.at_ : Int) := by omega
    clear hb hn
    rcases h' with h' | h'
    · have h1 : (s[t.at_].toNat : Int) - (z : Int) < (lo : Int) := by omega
      go_enter Tryd.func78, Tryd.ntmps78
      go_wp2_with fail
      refine he.mono ?_; rintro e w1 ⟨rfl, hb1, hx1⟩
      have d0 := hb1.c0
      have d1 := hb1.c1
      have HB : Hid (RG B M ty rest s t w1) := hb1
      clear he hb1
      generalize t.at_ = p at *
      go_wp2
      go_quiet (fail)
      go_wp2
      go_ret2
      exact ⟨rfl, HB.out.drewN _, hx1.drewN _⟩
    · have h1 : (hi : Int) < (s[t.at_].toNat : Int) - (z : Int) := by omega
      by_cases h2 : (s[t.at_].toNat : Int) - (z : Int) < (lo : Int)
      all_goals
        go_enter Tryd.func78, Tryd.ntmps78
        go_wp2_with fail
        refine he.mono ?_; rintro e w1 ⟨rfl, hb1, hx1⟩
        have d0 := hb1.c0
        have d1 := hb1.c1
        have HB : Hid (RG B M ty rest s t w1) := hb1
        clear he hb1
        generalize t.at_ = p at *
        go_wp2
        go_quiet (fail)
        go_wp2
        go_ret2
        exact ⟨rfl, HB.out.drewN _, hx1.drewN _⟩

set_option maxHeartbeats 400000 in
theorem number_some (z lo hi k : Nat) (hs : s.size ≤ 120) (hz : z ≤ 255) (hlo : lo ≤ 10) (hhi : hi ≤ 10) (hb : RG B M ty rest s t w) (hn : num? s t.at_ z lo hi = some k) :
    Calls Tryd.prog 78 #[.pointer (some ⟨B, 0, none⟩), .int .u8 z, .int .i64 lo, .int .i64 hi] w fun e w' =>
      e = .returned (.tuple #[.int .i64 k, .bool true]) ∧ RG B M ty rest s t.adv w' ∧ Ex B w w' := by
  obtain ⟨h, ha, hbb, hk⟩ := num_some hn
  have he := atEnd_any (by omega) hb
  rw [decide_eq_false (by omega)] at he
  have HK : Hid ((k : Int) = (s[t.at_].toNat : Int) - (z : Int)) := by show (k : Int) = _; omega
  have hlt : s[t.at_].toNat < 256 := s[t.at_].toNat_lt
  clear hb hn hk
  have i1 : (t.at_ : Int) < (s.size : Int) := by omega
  have i0 : (0 : Int) ≤ (t.at_ : Int) := by omega
  have h1 : ¬ (s[t.at_].toNat : Int) - (z : Int) < (lo : Int) := by omega
  have h2 : ¬ (hi : Int) < (s[t.at_].toNat : Int) - (z : Int) := by omega
  go_enter Tryd.func78, Tryd.ntmps78
  go_wp2_with fail
  refine he.mono ?_; rintro e w1 ⟨rfl, hb, hx1⟩
  have d0 := hb.c0
  have d1 := hb.c1
  have f1 := hb.free 1
  have HB : Hid (RG B M ty rest s t.adv (w1.setCell ⟨B, 1, none⟩ (.int .i64 ((t.at_ + 1 : Nat) : Int)))) := hb.set1 (t.at_ + 1)
  clear he hb
  generalize t.at_ = p at *
  go_wp2
  go_quiet (fail)
  go_wp2
  go_ret2
  rw [HK.out]
  refine ⟨rfl, ?_, ?_⟩
  · exact HB.out.move rfl rfl
  · exact (hx1.drewN _).setCell (.inl rfl) _

theorem take_no0 (c : Nat) (hs : s.size ≤ 120) (hat : t.at_ ≤ s.size) (hc : c ≤ 255) (hb : RG B M ty rest s t w) (hn : num? s t.at_ c 0 0 = none) :
    Calls Tryd.prog 58 #[.pointer (some ⟨B, 0, none⟩), .int .u8 c] w fun e w' => e = .returned (.bool false) ∧ RG B M ty rest s t w' ∧ Ex B w w' := by
  go_enter Tryd.func58, Tryd.ntmps58
  go_wp2_with fail
  refine (number_none c 0 0 hs hat hc (by omega) (by omega) hb hn).mono ?_; rintro e w1 ⟨rfl, hb1, hx1⟩
  go_wp2
  go_ret
  exact ⟨rfl, hb1, hx1⟩
theorem take_yes0 (c k : Nat) (hs : s.size ≤ 120) (hc : c ≤ 255) (hb : RG B M ty rest s t w) (hn : num? s t.at_ c 0 0 = some k) :
    Calls Tryd.prog 58 #[.pointer (some ⟨B, 0, none⟩), .int .u8 c] w fun e w' => e = .returned (.bool true) ∧ RG B M ty rest s t.adv w' ∧ Ex B w w' := by
  go_enter Tryd.func58, Tryd.ntmps58
  go_wp2_with fail
  refine (number_some c 0 0 k hs hc (by omega) (by omega) hb hn).mono ?_; rintro e w1 ⟨rfl, hb1, hx1⟩
  go_wp2
  go_ret
  exact ⟨rfl, hb1, hx1⟩
theorem digit_no0 (lo : Nat) (hs : s.size ≤ 120) (hat : t.at_ ≤ s.size) (hlo : lo ≤ 10) (hb : RG B M ty rest s t w) (hn : num? s t.at_ 48 lo 3 = none) :
    Calls Tryd.prog 75 #[.pointer (some ⟨B, 0, none⟩), .int .i64 lo] w fun e w' => e = .returned (.tuple #[.int .i64 0, .bool false]) ∧ RG B M ty rest s t w' ∧ Ex B w w' := by
  go_enter Tryd.func75, Tryd.ntmps75
  go_wp2_with fail
  refine (number_none 48 lo 3 hs hat (by omega) hlo (by omega) hb hn).mono ?_; rintro e w1 ⟨rfl, hb1, hx1⟩
  go_wp2
  go_ret2
  exact ⟨rfl, hb1, hx1⟩
theorem digit_yes0 (lo k : Nat) (hs : s.size ≤ 120) (hlo : lo ≤ 10) (hb : RG B M ty rest s t w) (hn : num? s t.at_ 48 lo 3 = some k) :
    Calls Tryd.prog 75 #[.pointer (some ⟨B, 0, none⟩), .int .i64 lo] w fun e w' => e = .returned (.tuple #[.int .i64 k, .bool true]) ∧ RG B M ty rest s t.adv w' ∧ Ex B w w' := by
  go_enter Tryd.func75, Tryd.ntmps75
  go_wp2_with fail
  refine (number_some 48 lo 3 k hs (by omega) hlo (by omega) hb hn).mono ?_; rintro e w1 ⟨rfl, hb1, hx1⟩
  go_wp2
  go_ret2
  exact ⟨rfl, hb1, hx1⟩
theorem blame_any0 (f : Nat) (hat : 1 ≤ t.at_) (hat2 : t.at_ ≤ 120) (hb : RG B M ty rest s t w) :
    Calls Tryd.prog 76 #[.pointer (some ⟨B, 0, none⟩), .int .i64 f] w fun e w' => e = .returned (.tuple #[]) ∧ RG B M ty rest s (t.blame f) w' ∧ Ex B w w' := by
  have c1 := hb.c1
  have c13 := hb.c3
  have c14 := hb.c4
  have f13 := hb.free 3
  have f14 := hb.free 4
  unfold T.blame
  by_cases h : t.flt = 0
  · rw [if_pos h]
    rw [h] at c13
    have HB : Hid (RG B M ty rest s { t with flt := f, plc := t.at_ - 1 } ((w.setCell ⟨B, 3, none⟩ (.int .i64 f)).setCell ⟨B, 4, none⟩ (.int .i64 ((t.at_ - 1 : Nat) : Int)))) := (hb.set3 f).set4 (t.at_ - 1)
    have e1 : ((t.at_ - 1 : Nat) : Int) = (t.at_ : Int) - 1 := by omega
    rw [e1] at HB
    clear hb h e1
    go_enter Tryd.func76, Tryd.ntmps76
    go_wp2
    go_end0
    exact ⟨rfl, HB.out, ((Ex.refl B w).setCell (.inl rfl) _).setCell (.inl rfl) _⟩
  · rw [if_neg h]
    have h' : ((t.flt : Int) == 0) = false := by simp; omega
    have HB : Hid (RG B M ty rest s t w) := hb
    clear hb h
    go_enter Tryd.func76, Tryd.ntmps76
    go_wp2
    go_end0
    exact ⟨rfl, HB.out, Ex.refl B w⟩

/-- name: none, or which one, and the reader behind it. -/
def T.named (t : T) (k : Nat) : T := if t.n ≤ k then t.adv.blame 3 else t.adv
theorem name_no0 (hs : s.size ≤ 120) (hat : t.at_ ≤ s.size) (hb : RG B M ty rest s t w) (hn : num? s t.at_ 97 0 2 = none) :
    Calls Tryd.prog 80 #[.pointer (some ⟨B, 0, none⟩)] w fun e w' => e = .returned (.tuple #[.int .i64 0, .bool false]) ∧ RG B M ty rest s t w' ∧ Ex B w w' := by
  go_enter Tryd.func80, Tryd.ntmps80
  go_wp2_with fail
  refine (number_none 97 0 2 hs hat (by omega) (by omega) (by omega) hb hn).mono ?_; rintro e w1 ⟨rfl, hb1, hx1⟩
  go_wp2
  go_ret2
  exact ⟨rfl, hb1, hx1⟩
theorem name_yes0 (k : Nat) (hs : s.size ≤ 120) (hb : RG B M ty rest s t w) (hn : num? s t.at_ 97 0 2 = some k) :
    Calls Tryd.prog 80 #[.pointer (some ⟨B, 0, none⟩)] w fun e w' => e = .returned (.tuple #[.int .i64 k, .bool true]) ∧ RG B M ty rest s (t.named k) w' ∧ Ex B w w' := by
  have hlt := num_lt hn
  by_cases hk : t.n ≤ k
  · have e1 : t.named k = t.adv.blame 3 := by simp [T.named, hk]
    rw [e1]
    have hk' : (t.n : Int) ≤ (k : Int) := by omega
    clear e1 hk
    go_enter Tryd.func80, Tryd.ntmps80
    go_wp2_with fail
    refine (number_some 97 0 2 k hs (by omega) (by omega) (by omega) hb hn).mono ?_; rintro e w1 ⟨rfl, hb1, hx1⟩
    have cM : w1.cell? ⟨M, 6, none⟩ = some (.int .i64 t.n) := hb1.cM
    have c2 := hb1.c2
    go_wp2_with fail
    refine (blame_any0 3 (by show 1 ≤ t.at_ + 1; omega) (by show t.at_ + 1 ≤ 120; omega) hb1).mono ?_; rintro e w2 ⟨rfl, hb2, hx2⟩
    go_wp2
    go_ret2
    exact ⟨rfl, hb2, hx1.trans hx2⟩
  · have e1 : t.named k = t.adv := by simp [T.named, hk]
    rw [e1]
    have hk' : ¬ (t.n : Int) ≤ (k : Int) := by omega
    clear e1 hk
    go_enter Tryd.func80, Tryd.ntmps80
    go_wp2_with fail
    refine (number_some 97 0 2 k hs (by omega) (by omega) (by omega) hb hn).mono ?_; rintro e w1 ⟨rfl, hb1, hx1⟩
    have cM : w1.cell? ⟨M, 6, none⟩ = some (.int .i64 t.n) := hb1.cM
    have c2 := hb1.c2
    go_wp2
    go_ret2
    exact ⟨rfl, hb1, hx1⟩
end
end Go.Proofs.YtkbmolodljenjaaDoor
