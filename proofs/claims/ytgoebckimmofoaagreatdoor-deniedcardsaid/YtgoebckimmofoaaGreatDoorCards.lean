/-
  DERIVED. GIVEN WITH THE SEED: THE CARDS: each row of YtgoebckimmofoaaGreatDoorRows.lean that lists a variable, with what it lists TIED to the program's text (the seventh form; the later family's looks); each row that meets fmt, with fmt's text TOLD by the authors' own Lean function (tested against real Go, not proved from fmt's source: count such statements apart). THE CARD IS WHAT COUNTS. Prove the row's statement (the work); the ties are given (YtgoebckimmofoaaGreatDoorTie.lean); close each card by the builder's one call (the guide's Derived/Test/ToyasCard.lean, 'card_holds'). Laid BY PROGRAM, IN A SANDBOX (cutbox-door.mjs). By AI agents, Wed Nov 11 2026. No macro, syntax, notation, axiom, sorry.
-/
import Derived.Test.YtgoebckimmofoaaGreatDoorRows
import GoSem.ClaimSeven
namespace Go.Proofs.YtgoebckimmofoaaGreatDoor
namespace Rows

/-- THE TIED CARD OF 'runslaw.Firsts'. -/
def firstsCard : Claim7 := { stood := { row := firstsRow, standIns := [], harness := (true, "2b721d6ae4274d8505cabc22e0767f506027e374b90d539d4a4901188e4be205"), looks := false }, kinds := [], alts := [], goes := true, laidByText := true, laidKinds := [.data], laidTests := true, laidLooks := .later }
def FirstsCardSaid : Prop := Claim7.holds Tryz.pinned (.plain (OpenSpec.ofChange firstsSpec)) firstsCard

/-- THE TIED CARD OF 'runslaw.Nexts'. -/
def nextsCard : Claim7 := { stood := { row := nextsRow, standIns := [], harness := (true, "2b721d6ae4274d8505cabc22e0767f506027e374b90d539d4a4901188e4be205"), looks := false }, kinds := [], alts := [], goes := true, laidByText := true, laidKinds := [.data], laidTests := true, laidLooks := .later }
def NextsCardSaid : Prop := Claim7.holds Tryz.pinned (.plain (OpenSpec.ofChange nextsSpec)) nextsCard

/-- THE TIED CARD OF 'runslaw.Formulas'. -/
def formulasCard : Claim7 := { stood := { row := formulasRow, standIns := [], harness := (true, "2b721d6ae4274d8505cabc22e0767f506027e374b90d539d4a4901188e4be205"), looks := false }, kinds := [], alts := [], goes := true, laidByText := true, laidKinds := [.data], laidTests := true, laidLooks := .later }
def FormulasCardSaid : Prop := Claim7.holds Tryz.pinned (.plain (OpenSpec.ofChange formulasSpec)) formulasCard

/-- THE TIED CARD OF 'runslaw.Means'. -/
def meansCard : Claim7 := { stood := { row := meansRow, standIns := [], harness := (true, "2b721d6ae4274d8505cabc22e0767f506027e374b90d539d4a4901188e4be205"), looks := false }, kinds := [], alts := [], goes := true, laidByText := true, laidKinds := [.data], laidTests := true, laidLooks := .later }
def MeansCardSaid : Prop := Claim7.holds Tryz.pinned (.plain (OpenSpec.ofChange meansSpec)) meansCard

/-- THE TIED CARD OF 'runslaw.Rolled'. -/
def rolledCard : Claim7 := { stood := { row := rolledRow, standIns := [], harness := (true, "2b721d6ae4274d8505cabc22e0767f506027e374b90d539d4a4901188e4be205"), looks := false }, kinds := [], alts := [], goes := true, laidByText := true, laidKinds := [.data], laidTests := true, laidLooks := .later }
def RolledCardSaid : Prop := Claim7.holds Tryz.pinned (.plain (OpenSpec.ofChange rolledSpec)) rolledCard

/-- THE TIED CARD OF 'runslaw.Nextly'. -/
def nextlyCard : Claim7 := { stood := { row := nextlyRow, standIns := [], harness := (true, "2b721d6ae4274d8505cabc22e0767f506027e374b90d539d4a4901188e4be205"), looks := false }, kinds := [], alts := [], goes := true, laidByText := true, laidKinds := [.data], laidTests := true, laidLooks := .later }
def NextlyCardSaid : Prop := Claim7.holds Tryz.pinned (.plain (OpenSpec.ofChange nextlySpec)) nextlyCard

/-- THE TIED CARD OF 'runslaw.Denied'. -/
def deniedCard : Claim7 := { stood := { row := deniedRow, standIns := [], harness := (true, "2b721d6ae4274d8505cabc22e0767f506027e374b90d539d4a4901188e4be205"), looks := false }, kinds := [], alts := [], goes := true, laidByText := true, laidKinds := [.data], laidTests := true, laidLooks := .later }
def DeniedCardSaid : Prop := Claim7.holds Tryz.pinned (.plain (OpenSpec.ofChange deniedSpec)) deniedCard

/-- THE TIED CARD OF 'runslaw.Unfolded'. -/
def unfoldedCard : Claim7 := { stood := { row := unfoldedRow, standIns := [], harness := (true, "2b721d6ae4274d8505cabc22e0767f506027e374b90d539d4a4901188e4be205"), looks := false }, kinds := [], alts := [], goes := true, laidByText := true, laidKinds := [.data], laidTests := true, laidLooks := .later }
def UnfoldedCardSaid : Prop := Claim7.holds Tryz.pinned (.plain (OpenSpec.ofChange unfoldedSpec)) unfoldedCard

/-- THE TIED CARD OF 'runslaw.Dual'. -/
def dualCard : Claim7 := { stood := { row := dualRow, standIns := [], harness := (true, "2b721d6ae4274d8505cabc22e0767f506027e374b90d539d4a4901188e4be205"), looks := false }, kinds := [], alts := [], goes := true, laidByText := true, laidKinds := [.data], laidTests := true, laidLooks := .later }
def DualCardSaid : Prop := Claim7.holds Tryz.pinned (.plain (OpenSpec.ofChange dualSpec)) dualCard

/-- THE SECOND FORM's CARD OF 'runslaw.Firsts'. -/
def firstsUptoCard : Claim7 := { stood := { row := firstsUptoRow, standIns := [], harness := (true, "2b721d6ae4274d8505cabc22e0767f506027e374b90d539d4a4901188e4be205"), looks := false }, kinds := [], alts := [], goes := true, laidByText := true, laidKinds := [.data], laidTests := true, laidLooks := .later }
def FirstsUptoCardSaid : Prop := Claim7.holds Tryz.pinned (.plain (OpenSpec.upto firstsSpec)) firstsUptoCard

/-- THE SECOND FORM's CARD OF 'runslaw.Nexts'. -/
def nextsUptoCard : Claim7 := { stood := { row := nextsUptoRow, standIns := [], harness := (true, "2b721d6ae4274d8505cabc22e0767f506027e374b90d539d4a4901188e4be205"), looks := false }, kinds := [], alts := [], goes := true, laidByText := true, laidKinds := [.data], laidTests := true, laidLooks := .later }
def NextsUptoCardSaid : Prop := Claim7.holds Tryz.pinned (.plain (OpenSpec.upto nextsSpec)) nextsUptoCard

/-- THE SECOND FORM's CARD OF 'runslaw.Formulas'. -/
def formulasUptoCard : Claim7 := { stood := { row := formulasUptoRow, standIns := [], harness := (true, "2b721d6ae4274d8505cabc22e0767f506027e374b90d539d4a4901188e4be205"), looks := false }, kinds := [], alts := [], goes := true, laidByText := true, laidKinds := [.data], laidTests := true, laidLooks := .later }
def FormulasUptoCardSaid : Prop := Claim7.holds Tryz.pinned (.plain (OpenSpec.upto formulasSpec)) formulasUptoCard

/-- THE SECOND FORM's CARD OF 'runslaw.Means'. -/
def meansUptoCard : Claim7 := { stood := { row := meansUptoRow, standIns := [], harness := (true, "2b721d6ae4274d8505cabc22e0767f506027e374b90d539d4a4901188e4be205"), looks := false }, kinds := [], alts := [], goes := true, laidByText := true, laidKinds := [.data], laidTests := true, laidLooks := .later }
def MeansUptoCardSaid : Prop := Claim7.holds Tryz.pinned (.plain (OpenSpec.upto meansSpec)) meansUptoCard

/-- THE SECOND FORM's CARD OF 'runslaw.Rolled'. -/
def rolledUptoCard : Claim7 := { stood := { row := rolledUptoRow, standIns := [], harness := (true, "2b721d6ae4274d8505cabc22e0767f506027e374b90d539d4a4901188e4be205"), looks := false }, kinds := [], alts := [], goes := true, laidByText := true, laidKinds := [.data], laidTests := true, laidLooks := .later }
def RolledUptoCardSaid : Prop := Claim7.holds Tryz.pinned (.plain (OpenSpec.upto rolledSpec)) rolledUptoCard

/-- THE SECOND FORM's CARD OF 'runslaw.Nextly'. -/
def nextlyUptoCard : Claim7 := { stood := { row := nextlyUptoRow, standIns := [], harness := (true, "2b721d6ae4274d8505cabc22e0767f506027e374b90d539d4a4901188e4be205"), looks := false }, kinds := [], alts := [], goes := true, laidByText := true, laidKinds := [.data], laidTests := true, laidLooks := .later }
def NextlyUptoCardSaid : Prop := Claim7.holds Tryz.pinned (.plain (OpenSpec.upto nextlySpec)) nextlyUptoCard

/-- THE SECOND FORM's CARD OF 'runslaw.Denied'. -/
def deniedUptoCard : Claim7 := { stood := { row := deniedUptoRow, standIns := [], harness := (true, "2b721d6ae4274d8505cabc22e0767f506027e374b90d539d4a4901188e4be205"), looks := false }, kinds := [], alts := [], goes := true, laidByText := true, laidKinds := [.data], laidTests := true, laidLooks := .later }
def DeniedUptoCardSaid : Prop := Claim7.holds Tryz.pinned (.plain (OpenSpec.upto deniedSpec)) deniedUptoCard

/-- THE SECOND FORM's CARD OF 'runslaw.Unfolded'. -/
def unfoldedUptoCard : Claim7 := { stood := { row := unfoldedUptoRow, standIns := [], harness := (true, "2b721d6ae4274d8505cabc22e0767f506027e374b90d539d4a4901188e4be205"), looks := false }, kinds := [], alts := [], goes := true, laidByText := true, laidKinds := [.data], laidTests := true, laidLooks := .later }
def UnfoldedUptoCardSaid : Prop := Claim7.holds Tryz.pinned (.plain (OpenSpec.upto unfoldedSpec)) unfoldedUptoCard

/-- THE SECOND FORM's CARD OF 'runslaw.Dual'. -/
def dualUptoCard : Claim7 := { stood := { row := dualUptoRow, standIns := [], harness := (true, "2b721d6ae4274d8505cabc22e0767f506027e374b90d539d4a4901188e4be205"), looks := false }, kinds := [], alts := [], goes := true, laidByText := true, laidKinds := [.data], laidTests := true, laidLooks := .later }
def DualUptoCardSaid : Prop := Claim7.holds Tryz.pinned (.plain (OpenSpec.upto dualSpec)) dualUptoCard
end Rows
end Go.Proofs.YtgoebckimmofoaaGreatDoor
