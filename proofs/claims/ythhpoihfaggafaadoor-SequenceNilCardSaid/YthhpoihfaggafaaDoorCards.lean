/-
  DERIVED. GIVEN WITH THE SEED: THE CARDS: each row of YthhpoihfaggafaaDoorRows.lean that lists a variable, with what it lists TIED to the program's text (the seventh form; the later family's looks); each row that meets fmt, with fmt's text TOLD by the authors' own Lean function (tested against real Go, not proved from fmt's source: count such statements apart). THE CARD IS WHAT COUNTS. Prove the row's statement (the work); the ties are given (YthhpoihfaggafaaDoorTie.lean); close each card by the builder's one call (the guide's Derived/Test/ToyasCard.lean, 'card_holds'). Laid BY PROGRAM, IN A SANDBOX (cutbox-door.mjs). By AI agents, Wed Nov 11 2026. No macro, syntax, notation, axiom, sorry.
-/
import Derived.Test.YthhpoihfaggafaaDoorRows
import GoSem.ClaimSeven
namespace Go.Proofs.YthhpoihfaggafaaDoor
namespace Rows

/-- THE TIED CARD OF 'rifflelaw09.ModelBytes'. -/
def modelBytesCard : Claim7 := { stood := { row := modelBytesRow, standIns := [], harness := (true, "820458d2cdd4c30bd793bd8ca228bd5760fb92c40bf6d802a3c814c322051f9e"), looks := true }, kinds := [], alts := [], laidByText := true, laidKinds := [.data, .data, .data, .data, .data], laidTests := true, laidLooks := .later }
def ModelBytesCardSaid : Prop := Claim7.holds Tryd.pinned (.plain (OpenSpec.ofChange modelBytesSpec)) modelBytesCard

/-- THE TIED CARD OF 'rifflelaw13.SequenceNil'. -/
def sequenceNilCard : Claim7 := { stood := { row := sequenceNilRow, standIns := [], harness := (true, "820458d2cdd4c30bd793bd8ca228bd5760fb92c40bf6d802a3c814c322051f9e"), looks := true }, kinds := [], alts := [], laidByText := true, laidKinds := [.data], laidTests := true, laidLooks := .later }
def SequenceNilCardSaid : Prop := Claim7.holds Tryd.pinned (.plain (OpenSpec.ofChange sequenceNilSpec)) sequenceNilCard

/-- THE SECOND FORM's CARD OF 'rifflelaw09.ModelBytes'. -/
def modelBytesUptoCard : Claim7 := { stood := { row := modelBytesUptoRow, standIns := [], harness := (true, "820458d2cdd4c30bd793bd8ca228bd5760fb92c40bf6d802a3c814c322051f9e"), looks := true }, kinds := [], alts := [], laidByText := true, laidKinds := [.data, .data, .data, .data, .data], laidTests := true, laidLooks := .later }
def ModelBytesUptoCardSaid : Prop := Claim7.holds Tryd.pinned (.plain (OpenSpec.upto modelBytesSpec)) modelBytesUptoCard

/-- THE SECOND FORM's CARD OF 'rifflelaw13.SequenceNil'. -/
def sequenceNilUptoCard : Claim7 := { stood := { row := sequenceNilUptoRow, standIns := [], harness := (true, "820458d2cdd4c30bd793bd8ca228bd5760fb92c40bf6d802a3c814c322051f9e"), looks := true }, kinds := [], alts := [], laidByText := true, laidKinds := [.data], laidTests := true, laidLooks := .later }
def SequenceNilUptoCardSaid : Prop := Claim7.holds Tryd.pinned (.plain (OpenSpec.upto sequenceNilSpec)) sequenceNilUptoCard
end Rows
end Go.Proofs.YthhpoihfaggafaaDoor
