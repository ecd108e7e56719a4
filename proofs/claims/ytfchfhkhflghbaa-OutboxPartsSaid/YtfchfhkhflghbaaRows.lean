/-
  No cell of these rows narrows 'for every input' (looked for: loops, veiled, ifaces, maps, wideKeys, modest, calm, conditions, laid).
  DERIVED. THE GIVEN ROWS OF THIS SEAT. 3 by the template 'for every input the law returns true; each argument reads behind the call as it read before'; 0 by the template 'total and deterministic' (their statements: YtfchfhkhflghbaaTotals.lean).
  GIVEN WITH THE SEED: the statements are not yours to turn. If you find one false, say at which input.
  Laid BY PROGRAM, IN A SANDBOX (cutbox-rows.mjs): the forced cells as the released guide's own fill.sh prints them over the translation f62e804b3b0835a7… (all of the seat's roots in one cut). By AI agents, Wed Nov 11 2026. No macro, syntax, notation, axiom, sorry.
-/
import Derived.Test.YtfchfhkhflghbaaChecked
import GoSem.Claim
import GoSem.ClaimJoined
import GoSem.ClaimMapViews
import Derived.JoinedTies
import Derived.KernelRfl
namespace Go.Proofs.Ytfchfhkhflghbaa
/- THE CELL 'sum', in the pinned program and in every row, IS THE sha256 OF THE DUMP (.gsa) THAT YtfchfhkhflghbaaProg.lean LOADS. Nothing in Lean hashes anything: it is a label: what it is worth is what the hold of that sum in a sandbox is worth. -/
noncomputable def Try.pinned : Pinned := { name := "ytfchfhkhflghbaa", sum := "f62e804b3b0835a7d7018d22171e78252de1073fe4ce0d243023cef28025b8d9", checked := Try.checked }
namespace Rows
def none {H : Type} : Left H := { results := [], args := [] }

/-- 'rifflelaw12.OutboxPlays': WHATEVER THE INPUT: true; the input reads as it did. -/
def outboxPlaysSpec : ChangeSpec := { name := "outboxPlays", fn := fun _ => fun
  | [d1, d2] => { results := [.lit (.bool true)], args := [d1, d2] }
  | _ => none }
def outboxPlaysRow : OpenClaim := { program := "ytfchfhkhflghbaa", sum := "f62e804b3b0835a7d7018d22171e78252de1073fe4ce0d243023cef28025b8d9", func := "riffle/rifflelaw12.OutboxPlays", spec := "outboxPlays", apart := false }
def OutboxPlaysSaid : Prop := outboxPlaysRow.holds Try.pinned (OpenSpec.ofChange outboxPlaysSpec)

/-- ITS FALSE NEIGHBOUR: 'it returns false'. Refute it at one input. -/
def outboxPlaysWrong : ChangeSpec := { name := "outboxPlays", fn := fun _ => fun
  | [d1, d2] => { results := [.lit (.bool false)], args := [d1, d2] }
  | _ => none }
def OutboxPlaysWrongFalsely : Prop := outboxPlaysRow.holds Try.pinned (OpenSpec.ofChange outboxPlaysWrong)

/-- 'rifflelaw12.OutboxCopies': WHATEVER THE INPUT: true; the input reads as it did. -/
def outboxCopiesSpec : ChangeSpec := { name := "outboxCopies", fn := fun _ => fun
  | [d1, d2, d3, d4] => { results := [.lit (.bool true)], args := [d1, d2, d3, d4] }
  | _ => none }
def outboxCopiesRow : OpenClaim := { program := "ytfchfhkhflghbaa", sum := "f62e804b3b0835a7d7018d22171e78252de1073fe4ce0d243023cef28025b8d9", func := "riffle/rifflelaw12.OutboxCopies", spec := "outboxCopies", unfollowed := true, recurses := true, apart := false }
def OutboxCopiesSaid : Prop := outboxCopiesRow.holds Try.pinned (OpenSpec.ofChange outboxCopiesSpec)

/-- ITS FALSE NEIGHBOUR: 'it returns false'. Refute it at one input. -/
def outboxCopiesWrong : ChangeSpec := { name := "outboxCopies", fn := fun _ => fun
  | [d1, d2, d3, d4] => { results := [.lit (.bool false)], args := [d1, d2, d3, d4] }
  | _ => none }
def OutboxCopiesWrongFalsely : Prop := outboxCopiesRow.holds Try.pinned (OpenSpec.ofChange outboxCopiesWrong)

/-- 'rifflelaw12.OutboxParts': WHATEVER THE INPUT: true; the input reads as it did. -/
def outboxPartsSpec : ChangeSpec := { name := "outboxParts", fn := fun _ => fun
  | [d1, d2] => { results := [.lit (.bool true)], args := [d1, d2] }
  | _ => none }
def outboxPartsRow : OpenClaim := { program := "ytfchfhkhflghbaa", sum := "f62e804b3b0835a7d7018d22171e78252de1073fe4ce0d243023cef28025b8d9", func := "riffle/rifflelaw12.OutboxParts", spec := "outboxParts", apart := false }
def OutboxPartsSaid : Prop := outboxPartsRow.holds Try.pinned (OpenSpec.ofChange outboxPartsSpec)

/-- ITS FALSE NEIGHBOUR: 'it returns false'. Refute it at one input. -/
def outboxPartsWrong : ChangeSpec := { name := "outboxParts", fn := fun _ => fun
  | [d1, d2] => { results := [.lit (.bool false)], args := [d1, d2] }
  | _ => none }
def OutboxPartsWrongFalsely : Prop := outboxPartsRow.holds Try.pinned (OpenSpec.ofChange outboxPartsWrong)

/- THE SECOND FORM. 'bulk': how many values and letters a reading holds, each counted each time it is reached (what is shared counts as often as it is met; a slice's spare places count too). A statement '..UptoSaid' is the law's where the arguments, and the package variables that the reading takes, are together of bulk at most 1048576: NARROWER than '..Said'. Prove '..Said' where nothing that the law and all that it calls make is longer than what came in: it says more and counts as full. Else prove '..UptoSaid'. A law counts once. -/
mutual
def uptoBulk {H : Type} : DataW H → Nat
  | .lit (.string bytes) => bytes.length + 1
  | .lit _ => 1
  | .nil => 1
  | .ptr d => uptoBulk d + 1
  | .slice elems spare => uptoBulkAll elems + uptoBulkAll spare + 1
  | .agg parts => uptoBulkAll parts + 1
  | .iface _ d => uptoBulk d + 1
  | .map entries => uptoBulkEntries entries + 1
  | .held _ => 1
def uptoBulkAll {H : Type} : List (DataW H) → Nat
  | [] => 0
  | d :: r => uptoBulk d + uptoBulkAll r
def uptoBulkEntries {H : Type} : List (Lit × DataW H) → Nat
  | [] => 0
  | x :: r => uptoBulkEntry x + uptoBulkEntries r
def uptoBulkEntry {H : Type} : Lit × DataW H → Nat
  | (.string bytes, d) => bytes.length + uptoBulk d + 1
  | (_, d) => uptoBulk d + 1
 end
def uptoSmall : (H : Type) → List (DataW H) → Bool := fun _ ds => decide (uptoBulkAll ds ≤ 1048576)
def OpenSpec.upto (s : _root_.Go.ChangeSpec) : _root_.Go.OpenSpec := { _root_.Go.OpenSpec.ofChange s with cond := some uptoSmall }

/-- 'rifflelaw12.OutboxPlays', WHERE WHAT IT READS IS OF BULK AT MOST 1048576: true; the input reads as it did. -/
def outboxPlaysUptoRow : OpenClaim := { program := "ytfchfhkhflghbaa", sum := "f62e804b3b0835a7d7018d22171e78252de1073fe4ce0d243023cef28025b8d9", func := "riffle/rifflelaw12.OutboxPlays", spec := "outboxPlays", apart := false, narrowed := true }
def OutboxPlaysUptoSaid : Prop := outboxPlaysUptoRow.holds Try.pinned (OpenSpec.upto outboxPlaysSpec)

/-- 'rifflelaw12.OutboxCopies', WHERE WHAT IT READS IS OF BULK AT MOST 1048576: true; the input reads as it did. -/
def outboxCopiesUptoRow : OpenClaim := { program := "ytfchfhkhflghbaa", sum := "f62e804b3b0835a7d7018d22171e78252de1073fe4ce0d243023cef28025b8d9", func := "riffle/rifflelaw12.OutboxCopies", spec := "outboxCopies", unfollowed := true, recurses := true, apart := false, narrowed := true }
def OutboxCopiesUptoSaid : Prop := outboxCopiesUptoRow.holds Try.pinned (OpenSpec.upto outboxCopiesSpec)

/-- 'rifflelaw12.OutboxParts', WHERE WHAT IT READS IS OF BULK AT MOST 1048576: true; the input reads as it did. -/
def outboxPartsUptoRow : OpenClaim := { program := "ytfchfhkhflghbaa", sum := "f62e804b3b0835a7d7018d22171e78252de1073fe4ce0d243023cef28025b8d9", func := "riffle/rifflelaw12.OutboxParts", spec := "outboxParts", apart := false, narrowed := true }
def OutboxPartsUptoSaid : Prop := outboxPartsUptoRow.holds Try.pinned (OpenSpec.upto outboxPartsSpec)

end Rows
end Go.Proofs.Ytfchfhkhflghbaa
