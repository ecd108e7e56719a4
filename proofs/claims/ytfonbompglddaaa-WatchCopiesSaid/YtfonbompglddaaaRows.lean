/-
  No cell of these rows narrows 'for every input' (looked for: loops, veiled, ifaces, maps, wideKeys, modest, calm, conditions, laid).
  DERIVED. THE GIVEN ROWS OF THIS SEAT. 4 by the template 'for every input the law returns true; each argument reads behind the call as it read before'; 0 by the template 'total and deterministic' (their statements: YtfonbompglddaaaTotals.lean).
  GIVEN WITH THE SEED: the statements are not yours to turn. If you find one false, say at which input.
  Laid BY PROGRAM, IN A SANDBOX (cutbox-rows.mjs): the forced cells as the released guide's own fill.sh prints them over the translation 36ef558569200a79… (all of the seat's roots in one cut). By AI agents, Wed Nov 11 2026. No macro, syntax, notation, axiom, sorry.
-/
import Derived.Test.YtfonbompglddaaaChecked
import GoSem.Claim
import GoSem.ClaimJoined
import GoSem.ClaimMapViews
import Derived.JoinedTies
import Derived.KernelRfl
namespace Go.Proofs.Ytfonbompglddaaa
/- THE CELL 'sum', in the pinned program and in every row, IS THE sha256 OF THE DUMP (.gsa) THAT YtfonbompglddaaaProg.lean LOADS. Nothing in Lean hashes anything: it is a label: what it is worth is what the hold of that sum in a sandbox is worth. -/
noncomputable def Try.pinned : Pinned := { name := "ytfonbompglddaaa", sum := "36ef558569200a797246dca6f41d84b962428a38b4d6b8be6b72235f32ad82e6", checked := Try.checked }
namespace Rows
def none {H : Type} : Left H := { results := [], args := [] }

/-- 'rifflelaw11.WatchPlays': WHATEVER THE INPUT: true; the input reads as it did. -/
def watchPlaysSpec : ChangeSpec := { name := "watchPlays", fn := fun _ => fun
  | [d1, d2] => { results := [.lit (.bool true)], args := [d1, d2] }
  | _ => none }
def watchPlaysRow : OpenClaim := { program := "ytfonbompglddaaa", sum := "36ef558569200a797246dca6f41d84b962428a38b4d6b8be6b72235f32ad82e6", func := "riffle/rifflelaw11.WatchPlays", spec := "watchPlays", inPlace := ["maps.clone"], unfollowed := true, recurses := true, apart := false }
def WatchPlaysSaid : Prop := watchPlaysRow.holds Try.pinned (OpenSpec.ofChange watchPlaysSpec)

/-- ITS FALSE NEIGHBOUR: 'it returns false'. Refute it at one input. -/
def watchPlaysWrong : ChangeSpec := { name := "watchPlays", fn := fun _ => fun
  | [d1, d2] => { results := [.lit (.bool false)], args := [d1, d2] }
  | _ => none }
def WatchPlaysWrongFalsely : Prop := watchPlaysRow.holds Try.pinned (OpenSpec.ofChange watchPlaysWrong)

/-- 'rifflelaw11.WatchCopies': WHATEVER THE INPUT: true; the input reads as it did. -/
def watchCopiesSpec : ChangeSpec := { name := "watchCopies", fn := fun _ => fun
  | [d1, d2, d3] => { results := [.lit (.bool true)], args := [d1, d2, d3] }
  | _ => none }
def watchCopiesRow : OpenClaim := { program := "ytfonbompglddaaa", sum := "36ef558569200a797246dca6f41d84b962428a38b4d6b8be6b72235f32ad82e6", func := "riffle/rifflelaw11.WatchCopies", spec := "watchCopies", inPlace := ["maps.clone"], unfollowed := true, recurses := true, apart := false }
def WatchCopiesSaid : Prop := watchCopiesRow.holds Try.pinned (OpenSpec.ofChange watchCopiesSpec)

/-- ITS FALSE NEIGHBOUR: 'it returns false'. Refute it at one input. -/
def watchCopiesWrong : ChangeSpec := { name := "watchCopies", fn := fun _ => fun
  | [d1, d2, d3] => { results := [.lit (.bool false)], args := [d1, d2, d3] }
  | _ => none }
def WatchCopiesWrongFalsely : Prop := watchCopiesRow.holds Try.pinned (OpenSpec.ofChange watchCopiesWrong)

/-- 'rifflelaw11.WatchMatches': WHATEVER THE INPUT: true; the input reads as it did. -/
def watchMatchesSpec : ChangeSpec := { name := "watchMatches", fn := fun _ => fun
  | [d1, d2] => { results := [.lit (.bool true)], args := [d1, d2] }
  | _ => none }
def watchMatchesRow : OpenClaim := { program := "ytfonbompglddaaa", sum := "36ef558569200a797246dca6f41d84b962428a38b4d6b8be6b72235f32ad82e6", func := "riffle/rifflelaw11.WatchMatches", spec := "watchMatches", inPlace := ["maps.clone"], unfollowed := true, recurses := true, apart := false }
def WatchMatchesSaid : Prop := watchMatchesRow.holds Try.pinned (OpenSpec.ofChange watchMatchesSpec)

/-- ITS FALSE NEIGHBOUR: 'it returns false'. Refute it at one input. -/
def watchMatchesWrong : ChangeSpec := { name := "watchMatches", fn := fun _ => fun
  | [d1, d2] => { results := [.lit (.bool false)], args := [d1, d2] }
  | _ => none }
def WatchMatchesWrongFalsely : Prop := watchMatchesRow.holds Try.pinned (OpenSpec.ofChange watchMatchesWrong)

/-- 'rifflelaw11.WatchMany': WHATEVER THE INPUT: true; the input reads as it did. -/
def watchManySpec : ChangeSpec := { name := "watchMany", fn := fun _ => fun
  | [d1, d2] => { results := [.lit (.bool true)], args := [d1, d2] }
  | _ => none }
def watchManyRow : OpenClaim := { program := "ytfonbompglddaaa", sum := "36ef558569200a797246dca6f41d84b962428a38b4d6b8be6b72235f32ad82e6", func := "riffle/rifflelaw11.WatchMany", spec := "watchMany", inPlace := ["maps.clone"], unfollowed := true, recurses := true, apart := false }
def WatchManySaid : Prop := watchManyRow.holds Try.pinned (OpenSpec.ofChange watchManySpec)

/-- ITS FALSE NEIGHBOUR: 'it returns false'. Refute it at one input. -/
def watchManyWrong : ChangeSpec := { name := "watchMany", fn := fun _ => fun
  | [d1, d2] => { results := [.lit (.bool false)], args := [d1, d2] }
  | _ => none }
def WatchManyWrongFalsely : Prop := watchManyRow.holds Try.pinned (OpenSpec.ofChange watchManyWrong)

/- THE SECOND FORM. 'bulk': how many values and letters a reading holds, each counted each time it is reached (what is shared counts as often as it is met; a slice's spare places count too). A statement '..UptoSaid' is the law's where the arguments, and the package variables that the reading takes, are together of bulk at most 1048576: NARROWER than '..Said'. Prove '..Said' where nothing that the law and all that it calls make is longer than what came in: it says more and counts as full. Else prove '..UptoSaid'. A law counts once. -/
mutual
def uptoBulk {H : Type} : DataW H → Nat
  | .lit (.string bytes) => bytes.length + 1
  | .lit _ => 1
  | .nil => 1
  | .ptr d => uptoBulk d + 1
  | .slice elems spare => uptoBulkAll elems + uptoBulkAll spare + 1
  | .agg parts => uptoBulkAll parts + 1
  | .iface _ d => uptoBulk d + 1
  | .map entries => uptoBulkEntries entries + 1
  | .held _ => 1
def uptoBulkAll {H : Type} : List (DataW H) → Nat
  | [] => 0
  | d :: r => uptoBulk d + uptoBulkAll r
def uptoBulkEntries {H : Type} : List (Lit × DataW H) → Nat
  | [] => 0
  | x :: r => uptoBulkEntry x + uptoBulkEntries r
def uptoBulkEntry {H : Type} : Lit × DataW H → Nat
  | (.string bytes, d) => bytes.length + uptoBulk d + 1
  | (_, d) => uptoBulk d + 1
 end
def uptoSmall : (H : Type) → List (DataW H) → Bool := fun _ ds => decide (uptoBulkAll ds ≤ 1048576)
def OpenSpec.upto (s : _root_.Go.ChangeSpec) : _root_.Go.OpenSpec := { _root_.Go.OpenSpec.ofChange s with cond := some uptoSmall }

/-- 'rifflelaw11.WatchPlays', WHERE WHAT IT READS IS OF BULK AT MOST 1048576: true; the input reads as it did. -/
def watchPlaysUptoRow : OpenClaim := { program := "ytfonbompglddaaa", sum := "36ef558569200a797246dca6f41d84b962428a38b4d6b8be6b72235f32ad82e6", func := "riffle/rifflelaw11.WatchPlays", spec := "watchPlays", inPlace := ["maps.clone"], unfollowed := true, recurses := true, apart := false, narrowed := true }
def WatchPlaysUptoSaid : Prop := watchPlaysUptoRow.holds Try.pinned (OpenSpec.upto watchPlaysSpec)

/-- 'rifflelaw11.WatchCopies', WHERE WHAT IT READS IS OF BULK AT MOST 1048576: true; the input reads as it did. -/
def watchCopiesUptoRow : OpenClaim := { program := "ytfonbompglddaaa", sum := "36ef558569200a797246dca6f41d84b962428a38b4d6b8be6b72235f32ad82e6", func := "riffle/rifflelaw11.WatchCopies", spec := "watchCopies", inPlace := ["maps.clone"], unfollowed := true, recurses := true, apart := false, narrowed := true }
def WatchCopiesUptoSaid : Prop := watchCopiesUptoRow.holds Try.pinned (OpenSpec.upto watchCopiesSpec)

/-- 'rifflelaw11.WatchMatches', WHERE WHAT IT READS IS OF BULK AT MOST 1048576: true; the input reads as it did. -/
def watchMatchesUptoRow : OpenClaim := { program := "ytfonbompglddaaa", sum := "36ef558569200a797246dca6f41d84b962428a38b4d6b8be6b72235f32ad82e6", func := "riffle/rifflelaw11.WatchMatches", spec := "watchMatches", inPlace := ["maps.clone"], unfollowed := true, recurses := true, apart := false, narrowed := true }
def WatchMatchesUptoSaid : Prop := watchMatchesUptoRow.holds Try.pinned (OpenSpec.upto watchMatchesSpec)

/-- 'rifflelaw11.WatchMany', WHERE WHAT IT READS IS OF BULK AT MOST 1048576: true; the input reads as it did. -/
def watchManyUptoRow : OpenClaim := { program := "ytfonbompglddaaa", sum := "36ef558569200a797246dca6f41d84b962428a38b4d6b8be6b72235f32ad82e6", func := "riffle/rifflelaw11.WatchMany", spec := "watchMany", inPlace := ["maps.clone"], unfollowed := true, recurses := true, apart := false, narrowed := true }
def WatchManyUptoSaid : Prop := watchManyUptoRow.holds Try.pinned (OpenSpec.upto watchManySpec)

end Rows
end Go.Proofs.Ytfonbompglddaaa
