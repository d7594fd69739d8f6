/- A state's text. Our own text. -/
import Derived.Test.YtkbmolodljenjaaDoorMSet
import Derived.Laws.IdiomStrings
import Derived.Deep.LoopGhost
import Derived.Maps.AppendAt
import Derived.RangeFuncBox
namespace Go.Proofs.YtkbmolodljenjaaDoor
open Go.RowKit Go.Lib

theorem info5 : (Tryd.prog.info? 5).map (fun i => (i.zero, i.size, i.bytes)) = some (some (.int .u8 0), 1, 1) := by kernel_rfl
theorem info9 : (Tryd.prog.info? 9).map (fun i => (i.zero, i.size, i.bytes)) = some (some (.string ByteArray.empty), 1, 16) := by kernel_rfl
def strs (l : List (List Nat)) : List Value := l.map (fun d => .string (txtL d))
theorem strs_append (a b : List (List Nat)) : strs (a ++ b) = strs a ++ strs b := by simp [strs]
def dby (l : List Nat) : List Value := l.map (fun d : Nat => .int .u8 ((48 + d : Nat) : Int))
theorem digs_succ (n x : Nat) : digs (n + 1) x = digs n x ++ [dig x n] := by simp [digs, List.range_succ]
theorem digs_length (n x : Nat) : (digs n x).length = n := by simp [digs]
theorem digs_lt {n x : Nat} : ∀ d ∈ digs n x, d < 4 := by
  intro d hd
  simp [digs] at hd
  obtain ⟨k, _, rfl⟩ := hd
  exact dig_lt _ _

set_option maxRecDepth 100000 in
set_option maxHeartbeats 1000000 in
theorem text_any (B x n : Nat) (hx : x < 64) (h1 : 1 ≤ n) (hn : n ≤ 3) (w : World) (hc : w.cell? ⟨B, 6, none⟩ = some (.int .i64 n)) :
    Calls Tryd.prog 48 #[.pointer (some ⟨B, 0, none⟩), .int .u8 x] w fun e w' => e = .returned (.string (txtL (digs n x))) ∧ Below w.heap.size w w' := by
  obtain ⟨i0, hi, hz0, hz1, hz2⟩ := info_parts info5
  go_enter Tryd.func48, Tryd.ntmps48
  go_wp2
  go_loopg [5, 11] n (fun gk dv iv wr => ∃ i : Nat, iv = .int .i64 i ∧ i + gk = n ∧ wr.ownsRow w.heap.size 5 1 dv i (dby (digs i x)) ∧ Below w.heap.size w wr)
  case atStart => exact ⟨0, rfl, by omega, World.ownsRow_nil _ _ _ _, Below.refl _ _⟩
  case round =>
    obtain ⟨i, rfl, hik, hrow, hB⟩ := hrel
    by_cases hlt : i < n
    · have hlt' : (i : Int) < (n : Int) := by omega
      obtain ⟨g', rfl⟩ : ∃ g', gk = g' + 1 := ⟨gk - 1, by omega⟩
      have hd := dig_lt x i
      go_wp2_with fail
      refine (value_any x i hx (by omega) wr).mono ?_
      rintro e w' ⟨rfl, rfl⟩
      have HD : Put (digs (i + 1) x = digs i x ++ [dig x i]) := ⟨digs_succ i x⟩
      generalize dig x i = d at hd HD
      go_wp2_with (at_builtin; refine wpList_append_own _ rfl _ _ 132 rfl w.heap.size 5 i0 _ 1 1 Tryd.underlying132 hi hz0 hz1 hz2 rfl Nat.one_pos u5 i (dby (digs i x)) rfl (hrow.alloc _) ⟨w'.heap.size, 0, none⟩ 1 1 [.int .u8 (48 + (d : Int))] rfl rfl (cell_one_new _ _ _) ?c2 ?c3 ?c4 ?c5 ?_)
      case c2 => intro u hu; simp at hu; subst hu; rfl
      case c3 => unfold maxLen; omega
      case c4 => omega
      case c5 => have := hB.size; simp; omega
      intro v' w5 hown' hgrow _
      obtain ⟨g5, cap5, rfl⟩ := ownsRow_succ hown'
      have hB5 : Below w.heap.size w w5 := (hB.alloc hB.size _).grown hgrow (by have := hB.size; simp; omega) (fun k e => (hrow.lt k e).1)
      have hr5 : w5.ownsRow w.heap.size 5 1 (.slice (some ⟨g5, 0, none⟩) (i + 1) cap5) (i + 1) (dby (digs (i + 1) x)) := by
        rw [HD.out]; simpa [dby] using hown'
      clear hown' hgrow hrow hB
      go_wp2
      go_roundg g'
      case measure => exact Nat.lt_succ_self _
      case rel => exact ⟨i + 1, by go_num, by omega, hr5, hB5⟩
    · obtain rfl : i = n := by omega
      have hlt' : ¬ (i : Int) < (i : Int) := by omega
      obtain ⟨k, rfl⟩ : ∃ k, i = k + 1 := ⟨i - 1, by omega⟩
      obtain ⟨g5, cap5, rfl⟩ := ownsRow_succ hrow
      have hcv := run_convert_bytes_back (P := Tryd.prog) wr 132 9 5 ⟨g5, 0, none⟩ cap5 ((digs (k + 1) x).map (fun d => UInt8.ofNat (48 + d))) Tryd.underlying132 Tryd.underlying5 Tryd.underlying9 (by
        intro j hj
        have hj' : j < (digs (k + 1) x).length := by simpa using hj
        have hl := digs_lt (x := x) _ (List.getElem_mem hj')
        have := hrow.cells (g := g5) rfl j (.int .u8 ((48 + (digs (k + 1) x)[j] : Nat) : Int)) (by simp [dby, List.getElem?_eq_getElem hj'])
        rw [this]
        simp
        omega)
      have e : (k + 1 : Nat) = ((digs (k + 1) x).map (fun d => UInt8.ofNat (48 + d))).length := by simp [digs_length]
      rw [← e] at hcv
      have hcv' : (convert 132 9 (.slice (some ⟨g5, 0, none⟩) (k + 1) cap5)).run Tryd.prog wr = .ok (.string (txtL (digs (k + 1) x))) wr := hcv
      clear e hcv
      go_wp2
      go_ret
      exact ⟨rfl, hB⟩
end Go.Proofs.YtkbmolodljenjaaDoor
