/- A machine's first states. Our own text. -/
import Derived.Test.YtkbmolodljenjaaDoorMSpread
import Derived.Test.YtkbmolodljenjaaDoorMText
namespace Go.Proofs.YtkbmolodljenjaaDoor
open Go.RowKit Go.Lib

/-- What a machine's block holds of its variables. -/
def MC (B : Nat) (g f : Nat → Nat) (n : Nat) (w : World) : Prop :=
  (∀ k, k < 3 → w.cell? ⟨B, k * 2, none⟩ = some (.int .i64 (g k)) ∧ w.cell? ⟨B, k * 2 + 1, none⟩ = some (.int .u8 (f k))) ∧ w.cell? ⟨B, 6, none⟩ = some (.int .i64 n)
theorem MC.below {B n N : Nat} {g f : Nat → Nat} {w w' : World} (h : MC B g f n w) (hb : Below N w w') (hB : B < N) : MC B g f n w' :=
  ⟨fun k hk => ⟨(hb.cell (p := ⟨B, k * 2, none⟩) hB).trans (h.1 k hk).1, (hb.cell (p := ⟨B, k * 2 + 1, none⟩) hB).trans (h.1 k hk).2⟩, (hb.cell (p := ⟨B, 6, none⟩) hB).trans h.2⟩

set_option maxRecDepth 100000 in
set_option maxHeartbeats 1000000 in
theorem first_any (B n : Nat) (g f : Nat → Nat) (h1 : 1 ≤ n) (hn : n ≤ 3) (hf : ∀ k, f k < 16) (w : World) (hm : MC B g f n w) (hB : B < w.heap.size) (hT : Tab w) :
    Calls Tryd.prog 27 #[.pointer (some ⟨B, 0, none⟩)] w fun e w' => e = .returned (.int .u64 (frs f n : Nat)) ∧ Below w.heap.size w w' := by
  have h0w : 0 < w.heap.size := by omega
  have hc := hm.2
  go_enter Tryd.func27, Tryd.ntmps27
  go_wp2_with fail
  refine (with64_any 0 0 (by decide) (by decide) w).mono ?_
  rintro e w' ⟨rfl, rfl⟩
  have n0 : (0 : Int) ≤ (n : Int) := by omega
  have n3 : (n : Int) ≤ 3 := by omega
  go_wp2_with fail
  go_quiet (fail)
  go_wp2_with fail
  go_loopg [3, 16] n (fun gk av iv wr => ∃ i : Nat, iv = .int .i64 i ∧ i + gk = n ∧ av = .int .u64 (frs f i : Nat) ∧ Below w'.heap.size w' wr)
  case atStart => exact ⟨0, rfl, by omega, rfl, below_drewN (Below.refl _ _) _⟩
  case round =>
    obtain ⟨i, rfl, hik, rfl, hBr⟩ := hrel
    by_cases hlt : i < n
    · have hlt' : (i : Int) < (n : Int) := by omega
      have i0 : (0 : Int) ≤ (i : Int) := by omega
      obtain ⟨g', rfl⟩ : ∃ g', gk = g' + 1 := ⟨gk - 1, by omega⟩
      obtain ⟨c1, c2⟩ := (hm.below hBr hB).1 i (by omega)
      have hfi := hf i
      have hfl := frs_lt f i (by omega)
      have hsz := hBr.size
      go_wp2_with fail
      have hBa := hBr.alloc hsz (.cells #[.int .i64 (g i), .int .u8 (f i)] 80)
      rw [p64] at hfl
      refine (spread_any (frs f i) i (f i) hfl (by omega) hfi _ (hT.below hBa h0w) (by simp)).mono ?_
      rintro e w2 ⟨rfl, hb2⟩
      have hB2 : Below w'.heap.size w' w2 := hBa.trans (hb2.mono (by simp; omega))
      have hs : spr (frs f i) i (f i) = frs f (i + 1) := rfl
      rw [hs]
      clear hs
      go_wp2
      go_roundg g'
      case measure => exact Nat.lt_succ_self _
      case rel => exact ⟨i + 1, by go_num, by omega, rfl, hB2⟩
    · obtain rfl : i = n := by omega
      have hlt' : ¬ (i : Int) < (i : Int) := by omega
      go_wp2
      go_ret
      exact ⟨rfl, hBr⟩
end Go.Proofs.YtkbmolodljenjaaDoor
