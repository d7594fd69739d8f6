/- The laid world of this seat's witnesses. Our own text. -/
import Derived.Test.YtkbmolodljenjaaDoorCards
import Derived.Test.YtkbmolodljenjaaDoorTie
import Derived.WalkKit
import Derived.ProofKit
import Derived.OpenShut
import Derived.Deep.DeepHandedRow
import Derived.Lib.LaidTab
import Derived.LaidMore
import Derived.Test.YtkbmolodljenjaaDoorMSet
import Derived.MakeChecks
namespace Go.Proofs.YtkbmolodljenjaaDoor
open Go.ChangeShapes Go.WideShapes Go.ChangeAt Go.RowKit

theorem own : ownKnob Tryd.prog.godebug = none := by kernel_rfl

end Go.Proofs.YtkbmolodljenjaaDoor

namespace Go.Proofs.YtkbmolodljenjaaDoor
open Go.RowKit Go.Lib

theorem tab_fin : ∀ k : _root_.Fin 64, (deBruijn64tab.map Int.ofNat).getD k.val 0 = ((deBruijn64tab.getD k.val 0 : Nat) : Int) := by decide +kernel
theorem tab_of_laid {W : World} (h : laidMetH Tryd.prog [("math/bits.deBruijn64tab", Rows.laid_math_bits_deBruijn64tab)] W) : 0 < W.heap.size ∧ Tab W := by
  rw [MakeChecks.laidMetH_plain _ _ _ (by kernel_rfl)] at h
  have h' : laidMet Tryd.prog [("math/bits.deBruijn64tab", tabData .u8 (deBruijn64tab.map Int.ofNat))] W := h
  have hT : TabIs Tryd.prog W "math/bits.deBruijn64tab" .u8 (deBruijn64tab.map Int.ofNat) :=
    tabIs_of_head (g := 0) (t := 156) (e := 5) (n := 64) (by kernel_rfl) (by kernel_rfl) (by kernel_rfl) (by kernel_rfl) (by kernel_rfl) (by kernel_rfl) h'
  have hc : Tab W := fun k hk => by
    have := hT.cell (g := 0) (by kernel_rfl) k (by simpa [deBruijn64tab] using hk)
    rw [tab_fin ⟨k, hk⟩] at this
    exact this
  refine ⟨?_, hc⟩
  have := hc 0 (by omega)
  rcases Nat.eq_zero_or_pos W.heap.size with h0 | h0
  · simp [World.cell?, h0] at this
  · exact h0
end Go.Proofs.YtkbmolodljenjaaDoor
