/-
  What the two listed variables hold when a call begins, and a world in which they hold it.
-/
import Derived.Test.YthlmjadknklafaaDoorKnown
import Derived.ChangeSame
import Derived.ChangeVars
import Derived.JoinedOf
import Derived.RowKit
import Derived.RowKitTokens
import Derived.LaidLaws
import Derived.LaidHandle
import Derived.Stop.Joined
import Derived.Stop.LaidErr
import Derived.Stop.Texts
namespace Go.Proofs.YthlmjadknklafaaDoor
open Go.ChangeShapes Go.WideShapes Go.RowKit Go.Stop Go.Extern Go.Extern.Stop

theorem Tryd.own : ownKnob Tryd.prog.godebug = none := by kernel_rfl
theorem Tryd.et : Tryd.prog.globalNamed "errors.errorType" = some 1 := by kernel_rfl
theorem Tryd.eu : Tryd.prog.globalNamed "riffle/frame.errUnfinished" = some 0 := by kernel_rfl
theorem Tryd.euType : (Tryd.prog.globals[0]?).map (·.type) = some 51 := by kernel_rfl
theorem Tryd.rt : (Tryd.prog.cutTypes.find? (·.1 == "internal/reflectlite.rtype")).map (·.2) = some 82 := by kernel_rfl
theorem Tryd.oneRow : ((List.range 133).filter fun t => Tryd.prog.rowNamed t [101, 114, 114, 111, 114]) = [51] := by kernel_rfl
theorem Tryd.size : Tryd.prog.types.size = 133 := by kernel_rfl
theorem Tryd.cells121 : Tryd.prog.cellsOf 121 = 1 := by kernel_rfl
theorem Tryd.cells9 : Tryd.prog.cellsOf 9 = 1 := by kernel_rfl
theorem Tryd.star : "*" ++ "errors.errorString" = "*errors.errorString" := by decide
theorem Tryd.row101 (u : TypeId) (h : Tryd.prog.typeName? 3 u = some "*errors.errorString") : u = 101 :=
  typeName_ptr_named (nm := "errors.errorString") (by rw [Tryd.star]; kernel_rfl) (by kernel_rfl) (by decide) u (by rw [Tryd.star]; exact h)

/-- the rows' list -/
abbrev laidBoth : List (String × DataW Unit) := [("errors.errorType", Rows.laid_errors_errorType), ("riffle/frame.errUnfinished", Rows.laid_riffle_frame_errUnfinished)]

theorem glo_of_laid {W : World} (h : laidMetH Tryd.prog laidBoth W) : ∃ a0, Glo W a0 := by
  have h' : laidMet Tryd.prog [("riffle/frame.errUnfinished", Rows.laid_riffle_frame_errUnfinished)] W ∧ handlesMet Tryd.prog [("errors.errorType", Rows.laid_errors_errorType)] W := h
  obtain ⟨name, u, ty, e1, e2, e3, e4, e5⟩ := h'.2 _ (List.mem_singleton.2 rfl)
  have en : name = [101, 114, 114, 111, 114] := (Option.some.inj e1).symm
  subst en
  obtain rfl := Option.some.inj (Tryd.rt.symm.trans e2)
  have hm : ty ∈ (List.range 133).filter fun t => Tryd.prog.rowNamed t [101, 114, 114, 111, 114] := List.mem_filter.2 ⟨List.mem_range.2 (by rw [← Tryd.size]; exact e3), e4⟩
  rw [Tryd.oneRow] at hm
  obtain rfl := List.mem_singleton.1 hm
  have hh : typeHandle Tryd.prog 51 = .pointer (some ⟨2, 51, none⟩) := by kernel_rfl
  rw [hh] at e5
  obtain ⟨a0, s, hv, _⟩ := laid_sentinel h'.1 Tryd.eu Tryd.euType Tryd.underlying51 Tryd.row101 Tryd.underlying101 Tryd.underlying121 rfl rfl Tryd.underlying9 Tryd.cells121 Tryd.cells9
  exact ⟨a0, by simpa using World.var?_cell Tryd.eu hv 0, by simpa using World.var?_cell Tryd.et e5 0⟩

abbrev laidText : ByteArray := { data := #[109, 111, 114, 101, 32, 111, 102, 32, 116, 104, 101, 32, 102, 114, 97, 109, 101, 32, 109, 117, 115, 116, 32, 99, 111, 109, 101] }
noncomputable def low : Nat := (World.holding Tryd.prog default ⟨#[], #[], []⟩).heap.size
noncomputable def laidWorld (os : Os) : World :=
  let w0 := World.holding Tryd.prog os ⟨#[.cells #[.string laidText] 121], #[], []⟩
  { w0 with heap := (w0.heap.modify 0 fun
      | .cells _ t frozen => .cells #[.iface 101 (.pointer (some ⟨low, 0, none⟩))] t frozen
      | o => o).modify 1 fun
      | .cells _ t frozen => .cells #[.iface 82 (.agg #[.pointer (some ⟨2, 51, none⟩)])] t frozen
      | o => o }
theorem laid_one (os : Os) (args : Array Value) : laidMet Tryd.prog [("riffle/frame.errUnfinished", Rows.laid_riffle_frame_errUnfinished)] ((laidWorld os).forCall (fun _ _ => 0) ⟨#[], args, []⟩).memory :=
  laidMet_of_run (ps := [.cell 0 0, .cell low 0]) 8 (by kernel_rfl) (by kernel_rfl) (by kernel_rfl)
theorem laid_met (os : Os) (args : Array Value) : laidMetH Tryd.prog laidBoth ((laidWorld os).forCall (fun _ _ => 0) ⟨#[], args, []⟩).memory :=
  laidMetH_of_parts (laid_one os args) (by kernel_rfl)
end Go.Proofs.YthlmjadknklafaaDoor
