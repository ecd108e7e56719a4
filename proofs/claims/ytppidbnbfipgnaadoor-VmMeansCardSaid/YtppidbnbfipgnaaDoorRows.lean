/-
  NARROWER THAN 'FOR EVERY INPUT', by the rows' own cells (each row's printed sentence says how): VmRuns: laid · VmMeans: laid · VmChance: laid.
  DERIVED. THE GIVEN ROWS OF THIS SEAT. 3 by the template 'for every input the law returns true; each argument reads behind the call as it read before'; 0 by the template 'total and deterministic' (their statements: YtppidbnbfipgnaaDoorTotals.lean).
  GIVEN WITH THE SEED: the statements are not yours to turn. If you find one false, say at which input.
  Laid BY PROGRAM, IN A SANDBOX (cutbox-rows.mjs): the forced cells as the released guide's own fill.sh prints them over the translation 19adc01844837b7f… (all of the seat's roots in one cut). By AI agents, Wed Nov 11 2026. No macro, syntax, notation, axiom, sorry.
-/
import Derived.Test.YtppidbnbfipgnaaDoorChecked
import GoSem.Claim
import GoSem.ClaimJoined
import GoSem.ClaimMapViews
import Derived.JoinedTies
import Derived.KernelRfl
namespace Go.Proofs.YtppidbnbfipgnaaDoor
/- THE CELL 'sum', in the pinned program and in every row, IS THE sha256 OF THE DUMP (.gsa) THAT YtppidbnbfipgnaaDoorProg.lean LOADS. Nothing in Lean hashes anything: it is a label: what it is worth is what the hold of that sum in a sandbox is worth. -/
noncomputable def Tryd.pinned : Pinned := { name := "ytppidbnbfipgnaadoor", sum := "19adc01844837b7ffff29a51d00aa0b424c7b36d7e937842a5ff1ddfba106ce3", checked := Tryd.checked }
namespace Rows
def none {H : Type} : Left H := { results := [], args := [] }

/- WHAT THE LISTED PACKAGE-LEVEL VARIABLES READ AS WHEN THE CALL BEGINS. Each datum BY PROGRAM (the guide's laid-datum.mjs) off the statement by which the dump's own 'gosem.cut.vars' lays the variable. In a bare row this is a premise. The card (YtppidbnbfipgnaaDoorCards.lean) ties it to the program's text. -/
def laid_riffle_code_words {H : Type} : DataW H := .agg [.lit (.string [112, 117, 115, 104]), .lit (.string [108, 111, 97, 100]), .lit (.string [115, 116, 111, 114, 101]), .lit (.string [116, 105, 109, 101]), .lit (.string [100, 97, 116, 97]), .lit (.string [115, 101, 108, 102]), .lit (.string [114, 97, 110, 100]), .lit (.string [97, 100, 100]), .lit (.string [115, 117, 98]), .lit (.string [109, 117, 108]), .lit (.string [108, 101, 115, 115]), .lit (.string [115, 97, 109, 101]), .lit (.string [106, 117, 109, 112]), .lit (.string [122, 101, 114, 111]), .lit (.string [115, 101, 110, 100]), .lit (.string [116, 101, 108, 108]), .lit (.string [101, 110, 100])]

/-- 'rifflelaw08.VmRuns': WHATEVER THE INPUT: true; the input reads as it did. -/
def vmRunsSpec : ChangeSpec := { name := "vmRuns", fn := fun _ => fun
  | [d1, d2, d3, d4, d5, d6] => { results := [.lit (.bool true)], args := [d1, d2, d3, d4, d5, d6] }
  | _ => none }
def vmRunsRow : OpenClaim := { program := "ytppidbnbfipgnaadoor", sum := "19adc01844837b7ffff29a51d00aa0b424c7b36d7e937842a5ff1ddfba106ce3", func := "riffle/rifflelaw08.VmRuns", spec := "vmRuns", unfollowed := true, recurses := true, named := ["riffle/code.words"], apart := false, laid := [("riffle/code.words", laid_riffle_code_words)] }
def VmRunsSaid : Prop := vmRunsRow.holds Tryd.pinned (OpenSpec.ofChange vmRunsSpec)

/-- ITS FALSE NEIGHBOUR: 'it returns false'. Refute it at one input. -/
def vmRunsWrong : ChangeSpec := { name := "vmRuns", fn := fun _ => fun
  | [d1, d2, d3, d4, d5, d6] => { results := [.lit (.bool false)], args := [d1, d2, d3, d4, d5, d6] }
  | _ => none }
def VmRunsWrongFalsely : Prop := vmRunsRow.holds Tryd.pinned (OpenSpec.ofChange vmRunsWrong)

/-- 'rifflelaw08.VmMeans': WHATEVER THE INPUT: true; the input reads as it did. -/
def vmMeansSpec : ChangeSpec := { name := "vmMeans", fn := fun _ => fun
  | [d1, d2, d3, d4, d5, d6] => { results := [.lit (.bool true)], args := [d1, d2, d3, d4, d5, d6] }
  | _ => none }
def vmMeansRow : OpenClaim := { program := "ytppidbnbfipgnaadoor", sum := "19adc01844837b7ffff29a51d00aa0b424c7b36d7e937842a5ff1ddfba106ce3", func := "riffle/rifflelaw08.VmMeans", spec := "vmMeans", unfollowed := true, recurses := true, named := ["riffle/code.words"], apart := false, laid := [("riffle/code.words", laid_riffle_code_words)] }
def VmMeansSaid : Prop := vmMeansRow.holds Tryd.pinned (OpenSpec.ofChange vmMeansSpec)

/-- ITS FALSE NEIGHBOUR: 'it returns false'. Refute it at one input. -/
def vmMeansWrong : ChangeSpec := { name := "vmMeans", fn := fun _ => fun
  | [d1, d2, d3, d4, d5, d6] => { results := [.lit (.bool false)], args := [d1, d2, d3, d4, d5, d6] }
  | _ => none }
def VmMeansWrongFalsely : Prop := vmMeansRow.holds Tryd.pinned (OpenSpec.ofChange vmMeansWrong)

/-- 'rifflelaw08.VmChance': WHATEVER THE INPUT: true; the input reads as it did. -/
def vmChanceSpec : ChangeSpec := { name := "vmChance", fn := fun _ => fun
  | [d1, d2] => { results := [.lit (.bool true)], args := [d1, d2] }
  | _ => none }
def vmChanceRow : OpenClaim := { program := "ytppidbnbfipgnaadoor", sum := "19adc01844837b7ffff29a51d00aa0b424c7b36d7e937842a5ff1ddfba106ce3", func := "riffle/rifflelaw08.VmChance", spec := "vmChance", unfollowed := true, recurses := true, named := ["riffle/code.words"], apart := false, laid := [("riffle/code.words", laid_riffle_code_words)] }
def VmChanceSaid : Prop := vmChanceRow.holds Tryd.pinned (OpenSpec.ofChange vmChanceSpec)

/-- ITS FALSE NEIGHBOUR: 'it returns false'. Refute it at one input. -/
def vmChanceWrong : ChangeSpec := { name := "vmChance", fn := fun _ => fun
  | [d1, d2] => { results := [.lit (.bool false)], args := [d1, d2] }
  | _ => none }
def VmChanceWrongFalsely : Prop := vmChanceRow.holds Tryd.pinned (OpenSpec.ofChange vmChanceWrong)

/- THE SECOND FORM. 'bulk': how many values and letters a reading holds, each counted each time it is reached (what is shared counts as often as it is met; a slice's spare places count too). A statement '..UptoSaid' is the law's where the arguments, and the package variables that the reading takes, are together of bulk at most 1048576: NARROWER than '..Said'. Prove '..Said' where nothing that the law and all that it calls make is longer than what came in: it says more and counts as full. Else prove '..UptoSaid'. A law counts once. -/
mutual
def uptoBulk {H : Type} : DataW H → Nat
  | .lit (.string bytes) => bytes.length + 1
  | .lit _ => 1
  | .nil => 1
  | .ptr d => uptoBulk d + 1
  | .slice elems spare => uptoBulkAll elems + uptoBulkAll spare + 1
  | .agg parts => uptoBulkAll parts + 1
  | .iface _ d => uptoBulk d + 1
  | .map entries => uptoBulkEntries entries + 1
  | .held _ => 1
def uptoBulkAll {H : Type} : List (DataW H) → Nat
  | [] => 0
  | d :: r => uptoBulk d + uptoBulkAll r
def uptoBulkEntries {H : Type} : List (Lit × DataW H) → Nat
  | [] => 0
  | x :: r => uptoBulkEntry x + uptoBulkEntries r
def uptoBulkEntry {H : Type} : Lit × DataW H → Nat
  | (.string bytes, d) => bytes.length + uptoBulk d + 1
  | (_, d) => uptoBulk d + 1
 end
def uptoSmall : (H : Type) → List (DataW H) → Bool := fun _ ds => decide (uptoBulkAll ds ≤ 1048576)
def OpenSpec.upto (s : _root_.Go.ChangeSpec) : _root_.Go.OpenSpec := { _root_.Go.OpenSpec.ofChange s with cond := some uptoSmall }

/-- 'rifflelaw08.VmRuns', WHERE WHAT IT READS IS OF BULK AT MOST 1048576: true; the input reads as it did. -/
def vmRunsUptoRow : OpenClaim := { program := "ytppidbnbfipgnaadoor", sum := "19adc01844837b7ffff29a51d00aa0b424c7b36d7e937842a5ff1ddfba106ce3", func := "riffle/rifflelaw08.VmRuns", spec := "vmRuns", unfollowed := true, recurses := true, named := ["riffle/code.words"], apart := false, laid := [("riffle/code.words", laid_riffle_code_words)], narrowed := true }
def VmRunsUptoSaid : Prop := vmRunsUptoRow.holds Tryd.pinned (OpenSpec.upto vmRunsSpec)

/-- 'rifflelaw08.VmMeans', WHERE WHAT IT READS IS OF BULK AT MOST 1048576: true; the input reads as it did. -/
def vmMeansUptoRow : OpenClaim := { program := "ytppidbnbfipgnaadoor", sum := "19adc01844837b7ffff29a51d00aa0b424c7b36d7e937842a5ff1ddfba106ce3", func := "riffle/rifflelaw08.VmMeans", spec := "vmMeans", unfollowed := true, recurses := true, named := ["riffle/code.words"], apart := false, laid := [("riffle/code.words", laid_riffle_code_words)], narrowed := true }
def VmMeansUptoSaid : Prop := vmMeansUptoRow.holds Tryd.pinned (OpenSpec.upto vmMeansSpec)

/-- 'rifflelaw08.VmChance', WHERE WHAT IT READS IS OF BULK AT MOST 1048576: true; the input reads as it did. -/
def vmChanceUptoRow : OpenClaim := { program := "ytppidbnbfipgnaadoor", sum := "19adc01844837b7ffff29a51d00aa0b424c7b36d7e937842a5ff1ddfba106ce3", func := "riffle/rifflelaw08.VmChance", spec := "vmChance", unfollowed := true, recurses := true, named := ["riffle/code.words"], apart := false, laid := [("riffle/code.words", laid_riffle_code_words)], narrowed := true }
def VmChanceUptoSaid : Prop := vmChanceUptoRow.holds Tryd.pinned (OpenSpec.upto vmChanceSpec)

end Rows
end Go.Proofs.YtppidbnbfipgnaaDoor
