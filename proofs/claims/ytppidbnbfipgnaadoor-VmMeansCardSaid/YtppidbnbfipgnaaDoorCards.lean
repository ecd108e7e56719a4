/-
  DERIVED. GIVEN WITH THE SEED: THE CARDS: each row of YtppidbnbfipgnaaDoorRows.lean that lists a variable, with what it lists TIED to the program's text (the seventh form; the later family's looks); each row that meets fmt, with fmt's text TOLD by the authors' own Lean function (tested against real Go, not proved from fmt's source: count such statements apart). THE CARD IS WHAT COUNTS. Prove the row's statement (the work); the ties are given (YtppidbnbfipgnaaDoorTie.lean); close each card by the builder's one call (the guide's Derived/Test/ToyasCard.lean, 'card_holds'). Laid BY PROGRAM, IN A SANDBOX (cutbox-door.mjs). By AI agents, Wed Nov 11 2026. No macro, syntax, notation, axiom, sorry.
-/
import Derived.Test.YtppidbnbfipgnaaDoorRows
import GoSem.ClaimSeven
namespace Go.Proofs.YtppidbnbfipgnaaDoor
namespace Rows

/-- THE TIED CARD OF 'rifflelaw08.VmRuns'. -/
def vmRunsCard : Claim7 := { stood := { row := vmRunsRow, standIns := [], harness := (true, "1820bf5143e2a263991c2e16e0e13e2efc4c9d106ecb89da01ddef8d279a1fb1"), looks := false }, kinds := [], alts := [], laidByText := true, laidKinds := [.data], laidTests := true, laidLooks := .later }
def VmRunsCardSaid : Prop := Claim7.holds Tryd.pinned (.plain (OpenSpec.ofChange vmRunsSpec)) vmRunsCard

/-- THE TIED CARD OF 'rifflelaw08.VmMeans'. -/
def vmMeansCard : Claim7 := { stood := { row := vmMeansRow, standIns := [], harness := (true, "1820bf5143e2a263991c2e16e0e13e2efc4c9d106ecb89da01ddef8d279a1fb1"), looks := false }, kinds := [], alts := [], laidByText := true, laidKinds := [.data], laidTests := true, laidLooks := .later }
def VmMeansCardSaid : Prop := Claim7.holds Tryd.pinned (.plain (OpenSpec.ofChange vmMeansSpec)) vmMeansCard

/-- THE TIED CARD OF 'rifflelaw08.VmChance'. -/
def vmChanceCard : Claim7 := { stood := { row := vmChanceRow, standIns := [], harness := (true, "1820bf5143e2a263991c2e16e0e13e2efc4c9d106ecb89da01ddef8d279a1fb1"), looks := false }, kinds := [], alts := [], laidByText := true, laidKinds := [.data], laidTests := true, laidLooks := .later }
def VmChanceCardSaid : Prop := Claim7.holds Tryd.pinned (.plain (OpenSpec.ofChange vmChanceSpec)) vmChanceCard

/-- THE SECOND FORM's CARD OF 'rifflelaw08.VmRuns'. -/
def vmRunsUptoCard : Claim7 := { stood := { row := vmRunsUptoRow, standIns := [], harness := (true, "1820bf5143e2a263991c2e16e0e13e2efc4c9d106ecb89da01ddef8d279a1fb1"), looks := false }, kinds := [], alts := [], laidByText := true, laidKinds := [.data], laidTests := true, laidLooks := .later }
def VmRunsUptoCardSaid : Prop := Claim7.holds Tryd.pinned (.plain (OpenSpec.upto vmRunsSpec)) vmRunsUptoCard

/-- THE SECOND FORM's CARD OF 'rifflelaw08.VmMeans'. -/
def vmMeansUptoCard : Claim7 := { stood := { row := vmMeansUptoRow, standIns := [], harness := (true, "1820bf5143e2a263991c2e16e0e13e2efc4c9d106ecb89da01ddef8d279a1fb1"), looks := false }, kinds := [], alts := [], laidByText := true, laidKinds := [.data], laidTests := true, laidLooks := .later }
def VmMeansUptoCardSaid : Prop := Claim7.holds Tryd.pinned (.plain (OpenSpec.upto vmMeansSpec)) vmMeansUptoCard

/-- THE SECOND FORM's CARD OF 'rifflelaw08.VmChance'. -/
def vmChanceUptoCard : Claim7 := { stood := { row := vmChanceUptoRow, standIns := [], harness := (true, "1820bf5143e2a263991c2e16e0e13e2efc4c9d106ecb89da01ddef8d279a1fb1"), looks := false }, kinds := [], alts := [], laidByText := true, laidKinds := [.data], laidTests := true, laidLooks := .later }
def VmChanceUptoCardSaid : Prop := Claim7.holds Tryd.pinned (.plain (OpenSpec.upto vmChanceSpec)) vmChanceUptoCard
end Rows
end Go.Proofs.YtppidbnbfipgnaaDoor
