/- A state's number from its text. Our own text. -/
import Derived.Test.YtkbmolodljenjaaDoorMFirst
namespace Go.Proofs.YtkbmolodljenjaaDoor
open Go.RowKit Go.Lib

/-- The text is a state's, of n variables with these greatest values. -/
def OkS (s : ByteArray) (n : Nat) (g : Nat → Nat) : Prop := s.size = n ∧ ∀ k (h : k < s.size), 48 ≤ s[k].toNat ∧ s[k].toNat ≤ 48 + g k
/-- The state's number that it is the text of. -/
def IsS (s : ByteArray) (n : Nat) (g : Nat → Nat) (x : Nat) : Prop := x < 64 ∧ s.size = n ∧ (∀ k (h : k < s.size), s[k].toNat = 48 + dig x k ∧ dig x k ≤ g k) ∧ ∀ k, n ≤ k → k < 3 → dig x k = 0

set_option maxRecDepth 100000 in
set_option maxHeartbeats 1000000 in
theorem state_any (B n : Nat) (g f : Nat → Nat) (hn : n ≤ 3) (hg : ∀ k, g k ≤ 3) (s : ByteArray) (_hs : s.size ≤ maxLen) (w : World) (hm : MC B g f n w) (hB : B < w.heap.size) :
    Calls Tryd.prog 30 #[.pointer (some ⟨B, 0, none⟩), .string s] w fun e w' => ((∃ x, IsS s n g x ∧ e = .returned (.tuple #[.int .u8 (x : Nat), .bool true])) ∨ (¬ OkS s n g ∧ ∃ y : Value, e = .returned (.tuple #[y, .bool false]))) ∧ Below w.heap.size w w' := by
  have hc := hm.2
  by_cases hsz : s.size = n
  · have h1 : ((s.size : Int) == (n : Int)) = true := by simp; omega
    have n0 : (0 : Int) ≤ (n : Int) := by omega
    have n3 : (n : Int) ≤ 3 := by omega
    go_enter Tryd.func30, Tryd.ntmps30
    go_wp2_with fail
    go_quiet (fail)
    go_wp2_with fail
    go_loopg [6, 27] n (fun gk sv iv wr => ∃ (i a : Nat), iv = .int .i64 i ∧ sv = .int .u8 (a : Nat) ∧ i + gk = n ∧ Below w.heap.size w wr ∧ a < 64 ∧ (∀ k (h : k < s.size), k < i → s[k].toNat = 48 + dig a k ∧ dig a k ≤ g k) ∧ ∀ k, i ≤ k → k < 3 → dig a k = 0)
    case atStart => exact ⟨0, 0, rfl, rfl, by omega, below_drewN (Below.refl _ _) _, by omega, fun k _ h => by omega, fun k _ _ => dig_zero k⟩
    case round =>
      obtain ⟨i, a, rfl, rfl, hik, hBr, ha, hpre, hpost⟩ := hrel
      have HPRE : Put (_) := ⟨hpre⟩
      have HPOST : Put (_) := ⟨hpost⟩
      clear hpre hpost
      by_cases hlt : i < n
      · have hlt' : (i : Int) < (n : Int) := by omega
        have i0 : (0 : Int) ≤ (i : Int) := by omega
        obtain ⟨g', rfl⟩ : ∃ g', gk = g' + 1 := ⟨gk - 1, by omega⟩
        obtain ⟨c1, c2⟩ := (hm.below hBr hB).1 i (by omega)
        have hgi := hg i
        have hsr := hBr.size
        have his : i < s.size := by omega
        have his' : (i : Int) < (s.size : Int) := by omega
        obtain ⟨b, hb⟩ : ∃ b : Nat, s[i].toNat = b := ⟨_, rfl⟩
        have hb255 : b < 256 := by rw [← hb]; exact s[i].toNat_lt
        by_cases hok : 48 ≤ b ∧ b ≤ 48 + g i
        · have k1 : ¬ ((b : Int) - 48 < 0) := by omega
          have k2 : ¬ ((g i : Int) < (b : Int) - 48) := by omega
          go_wp2_with fail
          have hBa := hBr.alloc hsr (.cells #[.int .i64 (g i), .int .u8 (f i)] 80)
          obtain ⟨v, rfl⟩ : ∃ v, b = 48 + v := ⟨b - 48, by omega⟩
          have ev : ((48 + v : Nat) : Int) - 48 = (v : Int) := by omega
          have hv4 : v < 4 := by omega
          have hcall := with_any a i v ha (by omega) hv4 (wr.alloc (.cells #[.int .i64 (g i), .int .u8 (f i)] 80))
          rw [← ev] at hcall
          refine hcall.mono ?_
          rintro e w2 ⟨rfl, mq, rfl⟩
          have hB2 : Below w.heap.size w ((wr.alloc (.cells #[.int .i64 (g i), .int .u8 (f i)] 80)).drewN mq) := below_drewN hBa mq
          have ha2 : stW a i v < 64 := stW_lt ha (by omega) hv4
          have HD : Put (∀ j, j < 3 → dig (stW a i v) j = if j = i then v else dig a j) := ⟨fun j hj => dig_stW ha (by omega) hv4 hj⟩
          generalize stW a i v = a2 at ha2 HD
          clear hcall
          generalize (wr.alloc (.cells #[.int .i64 (g i), .int .u8 (f i)] 80)).drewN mq = w2 at *
          clear c1 c2 hBa hBr
          go_wp2
          go_roundg g'
          case measure => exact Nat.lt_succ_self _
          case rel =>
            refine ⟨i + 1, a2, by go_num, rfl, by omega, hB2, ha2, fun k h hk => ?_, fun k h hk => ?_⟩
            · rw [HD.out k (by omega)]
              by_cases e : k = i
              · subst e; rw [if_pos rfl]; exact ⟨hb, by omega⟩
              · rw [if_neg e]; exact HPRE.out k h (by omega)
            · rw [HD.out k hk, if_neg (by omega)]; exact HPOST.out k (by omega) hk
        · have HNO : Put (¬ OkS s n g) := ⟨fun h => hok (by have := h.2 i his; rw [hb] at this; exact this)⟩
          by_cases hb48 : b < 48
          · have k1 : ((b : Int) - 48 < 0) := by omega
            go_wp2
            go_ret2
            exact ⟨.inr ⟨HNO.out, _, rfl⟩, hBr.alloc hsr _⟩
          · have k1 : ¬ ((b : Int) - 48 < 0) := by omega
            have k2 : ((g i : Int) < (b : Int) - 48) := by omega
            go_wp2
            go_ret2
            exact ⟨.inr ⟨HNO.out, _, rfl⟩, hBr.alloc hsr _⟩
      · obtain rfl : i = n := by omega
        have hlt' : ¬ ((i : Int) < (i : Int)) := by omega
        go_wp2
        go_ret2
        exact ⟨.inl ⟨a, ⟨ha, hsz, fun k h => HPRE.out k h (by omega), HPOST.out⟩, rfl⟩, hBr⟩
  · have h1 : ((s.size : Int) == (n : Int)) = false := by simp; omega
    go_enter Tryd.func30, Tryd.ntmps30
    go_wp2
    go_ret2
    exact ⟨.inr ⟨fun h => hsz h.1, _, rfl⟩, Below.refl _ _⟩
end Go.Proofs.YtkbmolodljenjaaDoor
