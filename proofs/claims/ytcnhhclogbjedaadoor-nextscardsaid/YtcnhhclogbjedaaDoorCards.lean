/-
  DERIVED. GIVEN WITH THE SEED: THE CARDS: each row of YtcnhhclogbjedaaDoorRows.lean that lists a variable, with what it lists TIED to the program's text (the seventh form; the later family's looks); each row that meets fmt, with fmt's text TOLD by the authors' own Lean function (tested against real Go, not proved from fmt's source: count such statements apart). THE CARD IS WHAT COUNTS. Prove the row's statement (the work); the ties are given (YtcnhhclogbjedaaDoorTie.lean); close each card by the builder's one call (the guide's Derived/Test/ToyasCard.lean, 'card_holds'). Laid BY PROGRAM, IN A SANDBOX (cutbox-door.mjs). By AI agents, Wed Nov 11 2026. No macro, syntax, notation, axiom, sorry.
-/
import Derived.Test.YtcnhhclogbjedaaDoorRows
import GoSem.ClaimSeven
namespace Go.Proofs.YtcnhhclogbjedaaDoor
namespace Rows

/-- THE TIED CARD OF 'runslaw.Checks'. -/
def checksCard : Claim7 := { stood := { row := checksRow, standIns := [], harness := (true, "35ec0c41f6f5e3950f072246f2305e50e09327ccaa191e278daa536b552e516a"), looks := false }, kinds := [], alts := [], laidByText := true, laidKinds := [.data], laidTests := true, laidLooks := .later }
def ChecksCardSaid : Prop := Claim7.holds Tryd.pinned (.plain (OpenSpec.ofChange checksSpec)) checksCard

/-- THE TIED CARD OF 'runslaw.Firsts'. -/
def firstsCard : Claim7 := { stood := { row := firstsRow, standIns := [], harness := (true, "35ec0c41f6f5e3950f072246f2305e50e09327ccaa191e278daa536b552e516a"), looks := false }, kinds := [], alts := [], laidByText := true, laidKinds := [.data], laidTests := true, laidLooks := .later }
def FirstsCardSaid : Prop := Claim7.holds Tryd.pinned (.plain (OpenSpec.ofChange firstsSpec)) firstsCard

/-- THE TIED CARD OF 'runslaw.Nexts'. -/
def nextsCard : Claim7 := { stood := { row := nextsRow, standIns := [], harness := (true, "35ec0c41f6f5e3950f072246f2305e50e09327ccaa191e278daa536b552e516a"), looks := false }, kinds := [], alts := [], laidByText := true, laidKinds := [.data], laidTests := true, laidLooks := .later }
def NextsCardSaid : Prop := Claim7.holds Tryd.pinned (.plain (OpenSpec.ofChange nextsSpec)) nextsCard

/-- THE SECOND FORM's CARD OF 'runslaw.Checks'. -/
def checksUptoCard : Claim7 := { stood := { row := checksUptoRow, standIns := [], harness := (true, "35ec0c41f6f5e3950f072246f2305e50e09327ccaa191e278daa536b552e516a"), looks := false }, kinds := [], alts := [], laidByText := true, laidKinds := [.data], laidTests := true, laidLooks := .later }
def ChecksUptoCardSaid : Prop := Claim7.holds Tryd.pinned (.plain (OpenSpec.upto checksSpec)) checksUptoCard

/-- THE SECOND FORM's CARD OF 'runslaw.Firsts'. -/
def firstsUptoCard : Claim7 := { stood := { row := firstsUptoRow, standIns := [], harness := (true, "35ec0c41f6f5e3950f072246f2305e50e09327ccaa191e278daa536b552e516a"), looks := false }, kinds := [], alts := [], laidByText := true, laidKinds := [.data], laidTests := true, laidLooks := .later }
def FirstsUptoCardSaid : Prop := Claim7.holds Tryd.pinned (.plain (OpenSpec.upto firstsSpec)) firstsUptoCard

/-- THE SECOND FORM's CARD OF 'runslaw.Nexts'. -/
def nextsUptoCard : Claim7 := { stood := { row := nextsUptoRow, standIns := [], harness := (true, "35ec0c41f6f5e3950f072246f2305e50e09327ccaa191e278daa536b552e516a"), looks := false }, kinds := [], alts := [], laidByText := true, laidKinds := [.data], laidTests := true, laidLooks := .later }
def NextsUptoCardSaid : Prop := Claim7.holds Tryd.pinned (.plain (OpenSpec.upto nextsSpec)) nextsUptoCard
end Rows
end Go.Proofs.YtcnhhclogbjedaaDoor
