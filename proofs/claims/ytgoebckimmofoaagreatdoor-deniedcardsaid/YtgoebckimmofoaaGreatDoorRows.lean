/-
  NARROWER THAN 'FOR EVERY INPUT', by the rows' own cells (each row's printed sentence says how): Firsts: laid · Nexts: laid · Formulas: laid · Means: laid · Rolled: laid · Nextly: laid · Denied: laid · Unfolded: laid · Dual: laid.
  DERIVED. THE GIVEN ROWS OF THIS SEAT. 9 by the template 'for every input the law returns true; each argument reads behind the call as it read before'; 0 by the template 'total and deterministic' (their statements: YtgoebckimmofoaaGreatDoorTotals.lean).
  GIVEN WITH THE SEED: the statements are not yours to turn. If you find one false, say at which input.
  Laid BY PROGRAM, IN A SANDBOX (cutbox-rows.mjs): the forced cells as the released guide's own fill.sh prints them over the translation 9b95741e5d777cff… (all of the seat's roots in one cut). By AI agents, Wed Nov 11 2026. No macro, syntax, notation, axiom, sorry.
-/
import Derived.Test.YtgoebckimmofoaaGreatDoorChecked
import GoSem.Claim
import GoSem.ClaimJoined
import GoSem.ClaimMapViews
import Derived.JoinedTies
import Derived.KernelRfl
namespace Go.Proofs.YtgoebckimmofoaaGreatDoor
/- THE CELL 'sum', in the pinned program and in every row, IS THE sha256 OF THE DUMP (.gsa) THAT YtgoebckimmofoaaGreatDoorProg.lean LOADS. Nothing in Lean hashes anything: it is a label: what it is worth is what the hold of that sum in a sandbox is worth. -/
noncomputable def Tryz.pinned : Pinned := { name := "ytgoebckimmofoaagreatdoor", sum := "9b95741e5d777cfffe87e49460150258a27cf43df6385c7ca1d5168853f8b6e8", checked := Tryz.checked }
namespace Rows
def none {H : Type} : Left H := { results := [], args := [] }

/- WHAT THE LISTED PACKAGE-LEVEL VARIABLES READ AS WHEN THE CALL BEGINS. Each datum BY PROGRAM (the guide's laid-datum.mjs) off the statement by which the dump's own 'gosem.cut.vars' lays the variable. In a bare row this is a premise. The card (YtgoebckimmofoaaGreatDoorCards.lean) ties it to the program's text. -/
def laid_math_bits_deBruijn64tab {H : Type} : DataW H := .agg [.lit (.int .u8 0), .lit (.int .u8 1), .lit (.int .u8 56), .lit (.int .u8 2), .lit (.int .u8 57), .lit (.int .u8 49), .lit (.int .u8 28), .lit (.int .u8 3), .lit (.int .u8 61), .lit (.int .u8 58), .lit (.int .u8 42), .lit (.int .u8 50), .lit (.int .u8 38), .lit (.int .u8 29), .lit (.int .u8 17), .lit (.int .u8 4), .lit (.int .u8 62), .lit (.int .u8 47), .lit (.int .u8 59), .lit (.int .u8 36), .lit (.int .u8 45), .lit (.int .u8 43), .lit (.int .u8 51), .lit (.int .u8 22), .lit (.int .u8 53), .lit (.int .u8 39), .lit (.int .u8 33), .lit (.int .u8 30), .lit (.int .u8 24), .lit (.int .u8 18), .lit (.int .u8 12), .lit (.int .u8 5), .lit (.int .u8 63), .lit (.int .u8 55), .lit (.int .u8 48), .lit (.int .u8 27), .lit (.int .u8 60), .lit (.int .u8 41), .lit (.int .u8 37), .lit (.int .u8 16), .lit (.int .u8 46), .lit (.int .u8 35), .lit (.int .u8 44), .lit (.int .u8 21), .lit (.int .u8 52), .lit (.int .u8 32), .lit (.int .u8 23), .lit (.int .u8 11), .lit (.int .u8 54), .lit (.int .u8 26), .lit (.int .u8 40), .lit (.int .u8 15), .lit (.int .u8 34), .lit (.int .u8 20), .lit (.int .u8 31), .lit (.int .u8 10), .lit (.int .u8 25), .lit (.int .u8 14), .lit (.int .u8 19), .lit (.int .u8 9), .lit (.int .u8 13), .lit (.int .u8 8), .lit (.int .u8 7), .lit (.int .u8 6)]

/-- 'runslaw.Firsts': WHATEVER THE INPUT: true; the input reads as it did. -/
def firstsSpec : ChangeSpec := { name := "firsts", fn := fun _ => fun
  | [d] => { results := [.lit (.bool true)], args := [d] }
  | _ => none }
def firstsRow : OpenClaim := { program := "ytgoebckimmofoaagreatdoor", sum := "9b95741e5d777cfffe87e49460150258a27cf43df6385c7ca1d5168853f8b6e8", func := "runs/runslaw.Firsts", spec := "firsts", inPlace := ["internal/bytealg.IndexByteString", "(*sync.WaitGroup).Go", "(*sync.WaitGroup).Add", "internal/race.ReleaseMerge", "internal/race.Disable", "internal/race.Enable", "internal/synctest.IsInBubble", "internal/synctest.Associate[sync.WaitGroup]", "sync.fatal", "sync/atomic.OrUint64", "sync/atomic.AddUint64", "internal/race.Read", "sync/atomic.LoadUint64", "sync/atomic.StoreUint64", "internal/synctest.Disassociate[sync.WaitGroup]", "sync.runtime_Semrelease", "(*sync.WaitGroup).Go$1", "(*sync.WaitGroup).Go$1$1", "(*sync.WaitGroup).Done", "(*sync.WaitGroup).Wait", "internal/race.Acquire", "internal/synctest.IsAssociated[sync.WaitGroup]", "sync/atomic.CompareAndSwapUint64", "internal/race.Write", "sync.runtime_SemacquireWaitGroup"], unfollowed := true, recurses := true, named := ["math/bits.deBruijn64tab"], plainKeys := false, apart := false, laid := [("math/bits.deBruijn64tab", laid_math_bits_deBruijn64tab)] }
def FirstsSaid : Prop := firstsRow.holds Tryz.pinned (OpenSpec.ofChange firstsSpec)

/-- ITS FALSE NEIGHBOUR: 'it returns false'. Refute it at one input. -/
def firstsWrong : ChangeSpec := { name := "firsts", fn := fun _ => fun
  | [d] => { results := [.lit (.bool false)], args := [d] }
  | _ => none }
def FirstsWrongFalsely : Prop := firstsRow.holds Tryz.pinned (OpenSpec.ofChange firstsWrong)

/-- 'runslaw.Nexts': WHATEVER THE INPUT: true; the input reads as it did. -/
def nextsSpec : ChangeSpec := { name := "nexts", fn := fun _ => fun
  | [d1, d2] => { results := [.lit (.bool true)], args := [d1, d2] }
  | _ => none }
def nextsRow : OpenClaim := { program := "ytgoebckimmofoaagreatdoor", sum := "9b95741e5d777cfffe87e49460150258a27cf43df6385c7ca1d5168853f8b6e8", func := "runs/runslaw.Nexts", spec := "nexts", inPlace := ["internal/bytealg.IndexByteString", "(*sync.WaitGroup).Go", "(*sync.WaitGroup).Add", "internal/race.ReleaseMerge", "internal/race.Disable", "internal/race.Enable", "internal/synctest.IsInBubble", "internal/synctest.Associate[sync.WaitGroup]", "sync.fatal", "sync/atomic.OrUint64", "sync/atomic.AddUint64", "internal/race.Read", "sync/atomic.LoadUint64", "sync/atomic.StoreUint64", "internal/synctest.Disassociate[sync.WaitGroup]", "sync.runtime_Semrelease", "(*sync.WaitGroup).Go$1", "(*sync.WaitGroup).Go$1$1", "(*sync.WaitGroup).Done", "(*sync.WaitGroup).Wait", "internal/race.Acquire", "internal/synctest.IsAssociated[sync.WaitGroup]", "sync/atomic.CompareAndSwapUint64", "internal/race.Write", "sync.runtime_SemacquireWaitGroup"], unfollowed := true, recurses := true, named := ["math/bits.deBruijn64tab"], plainKeys := false, apart := false, laid := [("math/bits.deBruijn64tab", laid_math_bits_deBruijn64tab)] }
def NextsSaid : Prop := nextsRow.holds Tryz.pinned (OpenSpec.ofChange nextsSpec)

/-- ITS FALSE NEIGHBOUR: 'it returns false'. Refute it at one input. -/
def nextsWrong : ChangeSpec := { name := "nexts", fn := fun _ => fun
  | [d1, d2] => { results := [.lit (.bool false)], args := [d1, d2] }
  | _ => none }
def NextsWrongFalsely : Prop := nextsRow.holds Tryz.pinned (OpenSpec.ofChange nextsWrong)

/-- 'runslaw.Formulas': WHATEVER THE INPUT: true; the input reads as it did. -/
def formulasSpec : ChangeSpec := { name := "formulas", fn := fun _ => fun
  | [d1, d2] => { results := [.lit (.bool true)], args := [d1, d2] }
  | _ => none }
def formulasRow : OpenClaim := { program := "ytgoebckimmofoaagreatdoor", sum := "9b95741e5d777cfffe87e49460150258a27cf43df6385c7ca1d5168853f8b6e8", func := "runs/runslaw.Formulas", spec := "formulas", inPlace := ["internal/bytealg.IndexByteString"], unfollowed := true, recurses := true, named := ["math/bits.deBruijn64tab"], plainKeys := false, apart := false, laid := [("math/bits.deBruijn64tab", laid_math_bits_deBruijn64tab)] }
def FormulasSaid : Prop := formulasRow.holds Tryz.pinned (OpenSpec.ofChange formulasSpec)

/-- ITS FALSE NEIGHBOUR: 'it returns false'. Refute it at one input. -/
def formulasWrong : ChangeSpec := { name := "formulas", fn := fun _ => fun
  | [d1, d2] => { results := [.lit (.bool false)], args := [d1, d2] }
  | _ => none }
def FormulasWrongFalsely : Prop := formulasRow.holds Tryz.pinned (OpenSpec.ofChange formulasWrong)

/-- 'runslaw.Means': WHATEVER THE INPUT: true; the input reads as it did. -/
def meansSpec : ChangeSpec := { name := "means", fn := fun _ => fun
  | [d1, d2, d3, d4] => { results := [.lit (.bool true)], args := [d1, d2, d3, d4] }
  | _ => none }
def meansRow : OpenClaim := { program := "ytgoebckimmofoaagreatdoor", sum := "9b95741e5d777cfffe87e49460150258a27cf43df6385c7ca1d5168853f8b6e8", func := "runs/runslaw.Means", spec := "means", inPlace := ["internal/bytealg.IndexByteString"], unfollowed := true, recurses := true, named := ["math/bits.deBruijn64tab"], plainKeys := false, apart := false, laid := [("math/bits.deBruijn64tab", laid_math_bits_deBruijn64tab)] }
def MeansSaid : Prop := meansRow.holds Tryz.pinned (OpenSpec.ofChange meansSpec)

/-- ITS FALSE NEIGHBOUR: 'it returns false'. Refute it at one input. -/
def meansWrong : ChangeSpec := { name := "means", fn := fun _ => fun
  | [d1, d2, d3, d4] => { results := [.lit (.bool false)], args := [d1, d2, d3, d4] }
  | _ => none }
def MeansWrongFalsely : Prop := meansRow.holds Tryz.pinned (OpenSpec.ofChange meansWrong)

/-- 'runslaw.Rolled': WHATEVER THE INPUT: true; the input reads as it did. -/
def rolledSpec : ChangeSpec := { name := "rolled", fn := fun _ => fun
  | [d1, d2, d3, d4] => { results := [.lit (.bool true)], args := [d1, d2, d3, d4] }
  | _ => none }
def rolledRow : OpenClaim := { program := "ytgoebckimmofoaagreatdoor", sum := "9b95741e5d777cfffe87e49460150258a27cf43df6385c7ca1d5168853f8b6e8", func := "runs/runslaw.Rolled", spec := "rolled", inPlace := ["internal/bytealg.IndexByteString"], unfollowed := true, recurses := true, named := ["math/bits.deBruijn64tab"], plainKeys := false, apart := false, laid := [("math/bits.deBruijn64tab", laid_math_bits_deBruijn64tab)] }
def RolledSaid : Prop := rolledRow.holds Tryz.pinned (OpenSpec.ofChange rolledSpec)

/-- ITS FALSE NEIGHBOUR: 'it returns false'. Refute it at one input. -/
def rolledWrong : ChangeSpec := { name := "rolled", fn := fun _ => fun
  | [d1, d2, d3, d4] => { results := [.lit (.bool false)], args := [d1, d2, d3, d4] }
  | _ => none }
def RolledWrongFalsely : Prop := rolledRow.holds Tryz.pinned (OpenSpec.ofChange rolledWrong)

/-- 'runslaw.Nextly': WHATEVER THE INPUT: true; the input reads as it did. -/
def nextlySpec : ChangeSpec := { name := "nextly", fn := fun _ => fun
  | [d1, d2, d3, d4] => { results := [.lit (.bool true)], args := [d1, d2, d3, d4] }
  | _ => none }
def nextlyRow : OpenClaim := { program := "ytgoebckimmofoaagreatdoor", sum := "9b95741e5d777cfffe87e49460150258a27cf43df6385c7ca1d5168853f8b6e8", func := "runs/runslaw.Nextly", spec := "nextly", inPlace := ["internal/bytealg.IndexByteString"], unfollowed := true, recurses := true, named := ["math/bits.deBruijn64tab"], plainKeys := false, apart := false, laid := [("math/bits.deBruijn64tab", laid_math_bits_deBruijn64tab)] }
def NextlySaid : Prop := nextlyRow.holds Tryz.pinned (OpenSpec.ofChange nextlySpec)

/-- ITS FALSE NEIGHBOUR: 'it returns false'. Refute it at one input. -/
def nextlyWrong : ChangeSpec := { name := "nextly", fn := fun _ => fun
  | [d1, d2, d3, d4] => { results := [.lit (.bool false)], args := [d1, d2, d3, d4] }
  | _ => none }
def NextlyWrongFalsely : Prop := nextlyRow.holds Tryz.pinned (OpenSpec.ofChange nextlyWrong)

/-- 'runslaw.Denied': WHATEVER THE INPUT: true; the input reads as it did. -/
def deniedSpec : ChangeSpec := { name := "denied", fn := fun _ => fun
  | [d1, d2, d3, d4, d5] => { results := [.lit (.bool true)], args := [d1, d2, d3, d4, d5] }
  | _ => none }
def deniedRow : OpenClaim := { program := "ytgoebckimmofoaagreatdoor", sum := "9b95741e5d777cfffe87e49460150258a27cf43df6385c7ca1d5168853f8b6e8", func := "runs/runslaw.Denied", spec := "denied", inPlace := ["internal/bytealg.IndexByteString"], unfollowed := true, recurses := true, named := ["math/bits.deBruijn64tab"], plainKeys := false, apart := false, laid := [("math/bits.deBruijn64tab", laid_math_bits_deBruijn64tab)] }
def DeniedSaid : Prop := deniedRow.holds Tryz.pinned (OpenSpec.ofChange deniedSpec)

/-- ITS FALSE NEIGHBOUR: 'it returns false'. Refute it at one input. -/
def deniedWrong : ChangeSpec := { name := "denied", fn := fun _ => fun
  | [d1, d2, d3, d4, d5] => { results := [.lit (.bool false)], args := [d1, d2, d3, d4, d5] }
  | _ => none }
def DeniedWrongFalsely : Prop := deniedRow.holds Tryz.pinned (OpenSpec.ofChange deniedWrong)

/-- 'runslaw.Unfolded': WHATEVER THE INPUT: true; the input reads as it did. -/
def unfoldedSpec : ChangeSpec := { name := "unfolded", fn := fun _ => fun
  | [d1, d2, d3, d4, d5] => { results := [.lit (.bool true)], args := [d1, d2, d3, d4, d5] }
  | _ => none }
def unfoldedRow : OpenClaim := { program := "ytgoebckimmofoaagreatdoor", sum := "9b95741e5d777cfffe87e49460150258a27cf43df6385c7ca1d5168853f8b6e8", func := "runs/runslaw.Unfolded", spec := "unfolded", inPlace := ["internal/bytealg.IndexByteString"], unfollowed := true, recurses := true, named := ["math/bits.deBruijn64tab"], plainKeys := false, apart := false, laid := [("math/bits.deBruijn64tab", laid_math_bits_deBruijn64tab)] }
def UnfoldedSaid : Prop := unfoldedRow.holds Tryz.pinned (OpenSpec.ofChange unfoldedSpec)

/-- ITS FALSE NEIGHBOUR: 'it returns false'. Refute it at one input. -/
def unfoldedWrong : ChangeSpec := { name := "unfolded", fn := fun _ => fun
  | [d1, d2, d3, d4, d5] => { results := [.lit (.bool false)], args := [d1, d2, d3, d4, d5] }
  | _ => none }
def UnfoldedWrongFalsely : Prop := unfoldedRow.holds Tryz.pinned (OpenSpec.ofChange unfoldedWrong)

/-- 'runslaw.Dual': WHATEVER THE INPUT: true; the input reads as it did. -/
def dualSpec : ChangeSpec := { name := "dual", fn := fun _ => fun
  | [d1, d2, d3, d4, d5] => { results := [.lit (.bool true)], args := [d1, d2, d3, d4, d5] }
  | _ => none }
def dualRow : OpenClaim := { program := "ytgoebckimmofoaagreatdoor", sum := "9b95741e5d777cfffe87e49460150258a27cf43df6385c7ca1d5168853f8b6e8", func := "runs/runslaw.Dual", spec := "dual", inPlace := ["internal/bytealg.IndexByteString"], unfollowed := true, recurses := true, named := ["math/bits.deBruijn64tab"], plainKeys := false, apart := false, laid := [("math/bits.deBruijn64tab", laid_math_bits_deBruijn64tab)] }
def DualSaid : Prop := dualRow.holds Tryz.pinned (OpenSpec.ofChange dualSpec)

/-- ITS FALSE NEIGHBOUR: 'it returns false'. Refute it at one input. -/
def dualWrong : ChangeSpec := { name := "dual", fn := fun _ => fun
  | [d1, d2, d3, d4, d5] => { results := [.lit (.bool false)], args := [d1, d2, d3, d4, d5] }
  | _ => none }
def DualWrongFalsely : Prop := dualRow.holds Tryz.pinned (OpenSpec.ofChange dualWrong)

/- THE SECOND FORM. 'bulk': how many values and letters a reading holds, each counted each time it is reached (what is shared counts as often as it is met; a slice's spare places count too). A statement '..UptoSaid' is the law's where the arguments, and the package variables that the reading takes, are together of bulk at most 1048576: NARROWER than '..Said'. Prove '..Said' where nothing that the law and all that it calls make is longer than what came in: it says more and counts as full. Else prove '..UptoSaid'. A law counts once. -/
mutual
def uptoBulk {H : Type} : DataW H → Nat
  | .lit (.string bytes) => bytes.length + 1
  | .lit _ => 1
  | .nil => 1
  | .ptr d => uptoBulk d + 1
  | .slice elems spare => uptoBulkAll elems + uptoBulkAll spare + 1
  | .agg parts => uptoBulkAll parts + 1
  | .iface _ d => uptoBulk d + 1
  | .map entries => uptoBulkEntries entries + 1
  | .held _ => 1
def uptoBulkAll {H : Type} : List (DataW H) → Nat
  | [] => 0
  | d :: r => uptoBulk d + uptoBulkAll r
def uptoBulkEntries {H : Type} : List (Lit × DataW H) → Nat
  | [] => 0
  | x :: r => uptoBulkEntry x + uptoBulkEntries r
def uptoBulkEntry {H : Type} : Lit × DataW H → Nat
  | (.string bytes, d) => bytes.length + uptoBulk d + 1
  | (_, d) => uptoBulk d + 1
 end
def uptoSmall : (H : Type) → List (DataW H) → Bool := fun _ ds => decide (uptoBulkAll ds ≤ 1048576)
def OpenSpec.upto (s : _root_.Go.ChangeSpec) : _root_.Go.OpenSpec := { _root_.Go.OpenSpec.ofChange s with cond := some uptoSmall }

/-- 'runslaw.Firsts', WHERE WHAT IT READS IS OF BULK AT MOST 1048576: true; the input reads as it did. -/
def firstsUptoRow : OpenClaim := { program := "ytgoebckimmofoaagreatdoor", sum := "9b95741e5d777cfffe87e49460150258a27cf43df6385c7ca1d5168853f8b6e8", func := "runs/runslaw.Firsts", spec := "firsts", inPlace := ["internal/bytealg.IndexByteString", "(*sync.WaitGroup).Go", "(*sync.WaitGroup).Add", "internal/race.ReleaseMerge", "internal/race.Disable", "internal/race.Enable", "internal/synctest.IsInBubble", "internal/synctest.Associate[sync.WaitGroup]", "sync.fatal", "sync/atomic.OrUint64", "sync/atomic.AddUint64", "internal/race.Read", "sync/atomic.LoadUint64", "sync/atomic.StoreUint64", "internal/synctest.Disassociate[sync.WaitGroup]", "sync.runtime_Semrelease", "(*sync.WaitGroup).Go$1", "(*sync.WaitGroup).Go$1$1", "(*sync.WaitGroup).Done", "(*sync.WaitGroup).Wait", "internal/race.Acquire", "internal/synctest.IsAssociated[sync.WaitGroup]", "sync/atomic.CompareAndSwapUint64", "internal/race.Write", "sync.runtime_SemacquireWaitGroup"], unfollowed := true, recurses := true, named := ["math/bits.deBruijn64tab"], plainKeys := false, apart := false, laid := [("math/bits.deBruijn64tab", laid_math_bits_deBruijn64tab)], narrowed := true }
def FirstsUptoSaid : Prop := firstsUptoRow.holds Tryz.pinned (OpenSpec.upto firstsSpec)

/-- 'runslaw.Nexts', WHERE WHAT IT READS IS OF BULK AT MOST 1048576: true; the input reads as it did. -/
def nextsUptoRow : OpenClaim := { program := "ytgoebckimmofoaagreatdoor", sum := "9b95741e5d777cfffe87e49460150258a27cf43df6385c7ca1d5168853f8b6e8", func := "runs/runslaw.Nexts", spec := "nexts", inPlace := ["internal/bytealg.IndexByteString", "(*sync.WaitGroup).Go", "(*sync.WaitGroup).Add", "internal/race.ReleaseMerge", "internal/race.Disable", "internal/race.Enable", "internal/synctest.IsInBubble", "internal/synctest.Associate[sync.WaitGroup]", "sync.fatal", "sync/atomic.OrUint64", "sync/atomic.AddUint64", "internal/race.Read", "sync/atomic.LoadUint64", "sync/atomic.StoreUint64", "internal/synctest.Disassociate[sync.WaitGroup]", "sync.runtime_Semrelease", "(*sync.WaitGroup).Go$1", "(*sync.WaitGroup).Go$1$1", "(*sync.WaitGroup).Done", "(*sync.WaitGroup).Wait", "internal/race.Acquire", "internal/synctest.IsAssociated[sync.WaitGroup]", "sync/atomic.CompareAndSwapUint64", "internal/race.Write", "sync.runtime_SemacquireWaitGroup"], unfollowed := true, recurses := true, named := ["math/bits.deBruijn64tab"], plainKeys := false, apart := false, laid := [("math/bits.deBruijn64tab", laid_math_bits_deBruijn64tab)], narrowed := true }
def NextsUptoSaid : Prop := nextsUptoRow.holds Tryz.pinned (OpenSpec.upto nextsSpec)

/-- 'runslaw.Formulas', WHERE WHAT IT READS IS OF BULK AT MOST 1048576: true; the input reads as it did. -/
def formulasUptoRow : OpenClaim := { program := "ytgoebckimmofoaagreatdoor", sum := "9b95741e5d777cfffe87e49460150258a27cf43df6385c7ca1d5168853f8b6e8", func := "runs/runslaw.Formulas", spec := "formulas", inPlace := ["internal/bytealg.IndexByteString"], unfollowed := true, recurses := true, named := ["math/bits.deBruijn64tab"], plainKeys := false, apart := false, laid := [("math/bits.deBruijn64tab", laid_math_bits_deBruijn64tab)], narrowed := true }
def FormulasUptoSaid : Prop := formulasUptoRow.holds Tryz.pinned (OpenSpec.upto formulasSpec)

/-- 'runslaw.Means', WHERE WHAT IT READS IS OF BULK AT MOST 1048576: true; the input reads as it did. -/
def meansUptoRow : OpenClaim := { program := "ytgoebckimmofoaagreatdoor", sum := "9b95741e5d777cfffe87e49460150258a27cf43df6385c7ca1d5168853f8b6e8", func := "runs/runslaw.Means", spec := "means", inPlace := ["internal/bytealg.IndexByteString"], unfollowed := true, recurses := true, named := ["math/bits.deBruijn64tab"], plainKeys := false, apart := false, laid := [("math/bits.deBruijn64tab", laid_math_bits_deBruijn64tab)], narrowed := true }
def MeansUptoSaid : Prop := meansUptoRow.holds Tryz.pinned (OpenSpec.upto meansSpec)

/-- 'runslaw.Rolled', WHERE WHAT IT READS IS OF BULK AT MOST 1048576: true; the input reads as it did. -/
def rolledUptoRow : OpenClaim := { program := "ytgoebckimmofoaagreatdoor", sum := "9b95741e5d777cfffe87e49460150258a27cf43df6385c7ca1d5168853f8b6e8", func := "runs/runslaw.Rolled", spec := "rolled", inPlace := ["internal/bytealg.IndexByteString"], unfollowed := true, recurses := true, named := ["math/bits.deBruijn64tab"], plainKeys := false, apart := false, laid := [("math/bits.deBruijn64tab", laid_math_bits_deBruijn64tab)], narrowed := true }
def RolledUptoSaid : Prop := rolledUptoRow.holds Tryz.pinned (OpenSpec.upto rolledSpec)

/-- 'runslaw.Nextly', WHERE WHAT IT READS IS OF BULK AT MOST 1048576: true; the input reads as it did. -/
def nextlyUptoRow : OpenClaim := { program := "ytgoebckimmofoaagreatdoor", sum := "9b95741e5d777cfffe87e49460150258a27cf43df6385c7ca1d5168853f8b6e8", func := "runs/runslaw.Nextly", spec := "nextly", inPlace := ["internal/bytealg.IndexByteString"], unfollowed := true, recurses := true, named := ["math/bits.deBruijn64tab"], plainKeys := false, apart := false, laid := [("math/bits.deBruijn64tab", laid_math_bits_deBruijn64tab)], narrowed := true }
def NextlyUptoSaid : Prop := nextlyUptoRow.holds Tryz.pinned (OpenSpec.upto nextlySpec)

/-- 'runslaw.Denied', WHERE WHAT IT READS IS OF BULK AT MOST 1048576: true; the input reads as it did. -/
def deniedUptoRow : OpenClaim := { program := "ytgoebckimmofoaagreatdoor", sum := "9b95741e5d777cfffe87e49460150258a27cf43df6385c7ca1d5168853f8b6e8", func := "runs/runslaw.Denied", spec := "denied", inPlace := ["internal/bytealg.IndexByteString"], unfollowed := true, recurses := true, named := ["math/bits.deBruijn64tab"], plainKeys := false, apart := false, laid := [("math/bits.deBruijn64tab", laid_math_bits_deBruijn64tab)], narrowed := true }
def DeniedUptoSaid : Prop := deniedUptoRow.holds Tryz.pinned (OpenSpec.upto deniedSpec)

/-- 'runslaw.Unfolded', WHERE WHAT IT READS IS OF BULK AT MOST 1048576: true; the input reads as it did. -/
def unfoldedUptoRow : OpenClaim := { program := "ytgoebckimmofoaagreatdoor", sum := "9b95741e5d777cfffe87e49460150258a27cf43df6385c7ca1d5168853f8b6e8", func := "runs/runslaw.Unfolded", spec := "unfolded", inPlace := ["internal/bytealg.IndexByteString"], unfollowed := true, recurses := true, named := ["math/bits.deBruijn64tab"], plainKeys := false, apart := false, laid := [("math/bits.deBruijn64tab", laid_math_bits_deBruijn64tab)], narrowed := true }
def UnfoldedUptoSaid : Prop := unfoldedUptoRow.holds Tryz.pinned (OpenSpec.upto unfoldedSpec)

/-- 'runslaw.Dual', WHERE WHAT IT READS IS OF BULK AT MOST 1048576: true; the input reads as it did. -/
def dualUptoRow : OpenClaim := { program := "ytgoebckimmofoaagreatdoor", sum := "9b95741e5d777cfffe87e49460150258a27cf43df6385c7ca1d5168853f8b6e8", func := "runs/runslaw.Dual", spec := "dual", inPlace := ["internal/bytealg.IndexByteString"], unfollowed := true, recurses := true, named := ["math/bits.deBruijn64tab"], plainKeys := false, apart := false, laid := [("math/bits.deBruijn64tab", laid_math_bits_deBruijn64tab)], narrowed := true }
def DualUptoSaid : Prop := dualUptoRow.holds Tryz.pinned (OpenSpec.upto dualSpec)

end Rows
end Go.Proofs.YtgoebckimmofoaaGreatDoor
