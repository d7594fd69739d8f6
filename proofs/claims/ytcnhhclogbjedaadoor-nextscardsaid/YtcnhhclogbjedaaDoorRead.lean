/- The code: readModel and Check. Our own text. -/
import Derived.Test.YtcnhhclogbjedaaDoorModel
namespace Go.Proofs.YtcnhhclogbjedaaDoor
open Go.RowKit

def T0 : T := ⟨0, 0, 0, 0, 0, 0⟩
def X0 : Junk := ⟨0, 0, 0, 0, 0, 0, .slice none 0 0, .slice none 0 0, .slice none 0 0⟩
def pCheck (s : ByteArray) : Nat × Nat := if 120 < s.size then (1, 0) else pRun s (s.size + 1) 1 T0
def Machine8 (v : Value) : Prop := ∃ (g0 f0 g1 f1 g2 f2 n : Int) (ao : Option Addr) (k cap : Nat), v = .agg #[.int .i64 g0, .int .u8 f0, .int .i64 g1, .int .u8 f1, .int .i64 g2, .int .u8 f2, .int .i64 n, .slice ao k cap]

set_option maxRecDepth 100000 in
set_option maxHeartbeats 1600000 in
theorem readModel_any (s : ByteArray) (w : World) (hsz : s.size ≤ maxLen) :
    Calls Tryd.prog 16 #[.string s] w fun e w' => (∃ v, e = .returned (.tuple #[v, .int .i64 (pCheck s).1, .int .i64 (pCheck s).2]) ∧ Machine8 v) ∧ Below w.heap.size w w' := by
  unfold maxLen at hsz
  unfold pCheck
  by_cases hl : 120 < s.size
  · rw [if_pos hl]
    have hl' : (120 : Int) < (s.size : Int) := by omega
    go_enter Tryd.func16, Tryd.ntmps16
    go_wp2
    exact bodyPost_ret (v := .tuple #[.agg #[.int .i64 0, .int .u8 0, .int .i64 0, .int .u8 0, .int .i64 0, .int .u8 0, .int .i64 0, .slice none 0 0], .int .i64 1, .int .i64 0]) (by simp [results, Tryd.results16, go_sem]) rfl ⟨⟨_, rfl, ⟨0, 0, 0, 0, 0, 0, 0, none, 0, 0, rfl⟩⟩, (Below.refl _ _).alloc (Nat.le_refl _) _⟩
  · rw [if_neg hl]
    obtain ⟨R, hRd⟩ : ∃ R, R = pRun s (s.size + 1) 1 T0 := ⟨_, rfl⟩
    rw [← hRd]
    have hl' : ¬ (120 : Int) < (s.size : Int) := by omega
    have hb0 : RB (w.heap.size + 1) s T0 X0 ((w.alloc (.cells #[.int .i64 0, .int .u8 0, .int .i64 0, .int .u8 0, .int .i64 0, .int .u8 0, .int .i64 0, .slice none 0 0] 45)).alloc (.cells (blk s T0 X0) 76)) := by
      have := heap_alloc_new (w.alloc (.cells #[.int .i64 0, .int .u8 0, .int .i64 0, .int .u8 0, .int .i64 0, .int .u8 0, .int .i64 0, .slice none 0 0] 45)) (.cells (blk s T0 X0) 76)
      simpa [RB] using this
    have hR0 : Rows3 (w.heap.size + 1) T0 X0 ((w.alloc (.cells #[.int .i64 0, .int .u8 0, .int .i64 0, .int .u8 0, .int .i64 0, .int .u8 0, .int .i64 0, .slice none 0 0] 45)).alloc (.cells (blk s T0 X0) 76)) :=
      ⟨⟨[], World.ownsRow_nil _ _ _ _⟩, ⟨0, [], Nat.zero_le _, World.ownsRow_nil _ _ _ _⟩, ⟨0, [], Nat.zero_le _, World.ownsRow_nil _ _ _ _⟩⟩
    go_enter Tryd.func16, Tryd.ntmps16
    go_wp2_with fail
    refine (model_any (s := s) (t := T0) (x := X0) (R := R) (by omega) (Nat.zero_le _) (by show 0 < 3; omega) (Nat.zero_le _) (by show 0 < 8; omega) hb0 hR0 hRd).mono ?_
    rintro e w1 ⟨b, t', rfl, ⟨x1, hb1, hR1, hl1⟩, hRes⟩
    have hm : w1.heap[w.heap.size]? = some (.cells #[.int .i64 0, .int .u8 0, .int .i64 0, .int .u8 0, .int .i64 0, .int .u8 0, .int .i64 0, .slice none 0 0] 45 (0, 0)) := by
      rw [hl1.block _ (Nat.lt_succ_self _), Below.heap_alloc _ _ _ (by simp), heap_alloc_new]
    have hlb : Below w.heap.size w w1 := (((Below.refl w.heap.size w).alloc (Nat.le_refl _) _).alloc (by simp) _).trans (hl1.mono (Nat.le_succ _))
    obtain ⟨ao, cap, hvr⟩ : ∃ ao cap, x1.vr = .slice ao t'.nr cap := by obtain ⟨xs, h⟩ := hR1.r; exact owned_slice h
    have m0 : w1.cell? ⟨w.heap.size, 0, none⟩ = some (.int .i64 0) := by simp [World.cell?, hm]
    have m1 : w1.cell? ⟨w.heap.size, 1, none⟩ = some (.int .u8 0) := by simp [World.cell?, hm]
    have m2 : w1.cell? ⟨w.heap.size, 2, none⟩ = some (.int .i64 0) := by simp [World.cell?, hm]
    have m3 : w1.cell? ⟨w.heap.size, 3, none⟩ = some (.int .u8 0) := by simp [World.cell?, hm]
    have m4 : w1.cell? ⟨w.heap.size, 4, none⟩ = some (.int .i64 0) := by simp [World.cell?, hm]
    have m5 : w1.cell? ⟨w.heap.size, 5, none⟩ = some (.int .u8 0) := by simp [World.cell?, hm]
    have m6 : w1.cell? ⟨w.heap.size, 6, none⟩ = some (.int .i64 0) := by simp [World.cell?, hm]
    have m7 : w1.cell? ⟨w.heap.size, 7, none⟩ = some (.slice none 0 0) := by simp [World.cell?, hm]
    have mf : ∀ i, w1.frozen? ⟨w.heap.size, i, none⟩ = false := fun i => by simp [World.frozen?, hm]
    have c1 := hb1.c1
    have c2 := hb1.c2
    have c3 := hb1.c3
    have c4 := hb1.c4
    have c5 := hb1.c5
    have c6 := hb1.c6
    have c7 := hb1.c7
    have c8 := hb1.c8
    have c9 := hb1.c9
    rw [hvr] at c9
    have c13 := hb1.c13
    have c14 := hb1.c14
    clear hm hb1 hR1 hl1 hb0 hR0 hvr
    clear hRd
    cases b with
    | false =>
      simp only [Bool.false_eq_true, if_false] at hRes
      subst hRes
      clear c2 c3 c4 c5 c6 c7 c8 c9 c13 c14
      go_wp2
      go_region
      all_goals
        go_wp2
        exact bodyPost_ret (v := .tuple #[.agg #[.int .i64 0, .int .u8 0, .int .i64 0, .int .u8 0, .int .i64 0, .int .u8 0, .int .i64 0, .slice none 0 0], .int .i64 2, .int .i64 t'.at_]) (by simp [results, Tryd.results16, go_sem, m0, m1, m2, m3, m4, m5, m6, m7]) rfl ⟨⟨_, rfl, ⟨0, 0, 0, 0, 0, 0, 0, none, 0, 0, rfl⟩⟩, ((((((((hlb.setCell (Nat.le_refl _) _).setCell (Nat.le_refl _) _).setCell (Nat.le_refl _) _).setCell (Nat.le_refl _) _).setCell (Nat.le_refl _) _).setCell (Nat.le_refl _) _).setCell (Nat.le_refl _) _).setCell (Nat.le_refl _) _).drew⟩
    | true =>
      simp only [if_true] at hRes
      subst hRes
      go_wp2
      go_region
      all_goals
        go_wp2
        exact bodyPost_ret (v := .tuple #[.agg #[.int .i64 x1.g0, .int .u8 x1.f0, .int .i64 x1.g1, .int .u8 x1.f1, .int .i64 x1.g2, .int .u8 x1.f2, .int .i64 t'.n, .slice ao t'.nr cap], .int .i64 t'.flt, .int .i64 t'.plc]) (by simp [results, Tryd.results16, go_sem, m0, m1, m2, m3, m4, m5, m6, m7]) rfl ⟨⟨_, rfl, ⟨_, _, _, _, _, _, _, _, _, _, rfl⟩⟩, ((((((((hlb.setCell (Nat.le_refl _) _).setCell (Nat.le_refl _) _).setCell (Nat.le_refl _) _).setCell (Nat.le_refl _) _).setCell (Nat.le_refl _) _).setCell (Nat.le_refl _) _).setCell (Nat.le_refl _) _).setCell (Nat.le_refl _) _).drew⟩

set_option maxRecDepth 100000 in
set_option maxHeartbeats 800000 in
theorem check_any (s : ByteArray) (w : World) (hsz : s.size ≤ maxLen) :
    Calls Tryd.prog 6 #[.string s] w fun e w' => e = .returned (.tuple #[.int .i64 (pCheck s).1, .int .i64 (pCheck s).2]) ∧ Below w.heap.size w w' := by
  go_enter Tryd.func6, Tryd.ntmps6
  go_wp2_with fail
  refine (readModel_any s w hsz).mono ?_
  rintro e w1 ⟨⟨v, rfl, ⟨g0, f0, g1, f1, g2, f2, n, ao, k, cap, hv⟩⟩, hb1⟩
  rw [hv]
  go_wp2
  go_ret2
  exact ⟨rfl, hb1.alloc hb1.size _⟩
end Go.Proofs.YtcnhhclogbjedaaDoor
