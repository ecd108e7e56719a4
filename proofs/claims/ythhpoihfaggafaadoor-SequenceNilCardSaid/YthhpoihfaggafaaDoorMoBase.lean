/-
  Numbers and events in rows; == of events; the walks of slices.Equal, SameInts, the document's Same of events, over rows of any contents.
-/
import Derived.Test.YthhpoihfaggafaaDoorVSend
import Derived.Test.YthhpoihfaggafaaDoorVMath
import Derived.Test.YthhpoihfaggafaaDoorC3
import Derived.Test.YthhpoihfaggafaaDoorGMem
import Derived.Test.YthhpoihfaggafaaDoorGRow
import Derived.Test.YthhpoihfaggafaaDoorGLoad
import Derived.Test.YthhpoihfaggafaaDoorGQuiet
import Derived.Laws.StructEq
import Derived.BigQuiet
import Derived.IntWalk
namespace Go.Proofs.YthhpoihfaggafaaDoor
open Go Go.RowKit Go.Sort Go.Proofs CodM VmM

theorem keepc {W W' : World} {p : Addr} {v : Value} (hb : Below W.heap.size W W') (h : W.cell? p = some v) : W'.cell? p = some v := (hb.cell (World.block_lt_of_cell? W _ h)).trans h
abbrev TellsE (t : Bool) (W : World) (e : Ending) (w' : World) : Prop := e = .returned (.bool t) ∧ Below W.heap.size W w'
theorem six_cells {w : World} {B o : Nat} {x : Ev} (h : CEv.Cell w B o x) : w.cell? ⟨B, o, none⟩ = some (.int .i64 x.time) ∧ w.cell? ⟨B, o + 1, none⟩ = some (.int .i64 x.org) ∧ w.cell? ⟨B, o + 2, none⟩ = some (.int .i64 x.seq) ∧ w.cell? ⟨B, o + 3, none⟩ = some (.int .i64 x.to) ∧ w.cell? ⟨B, o + 4, none⟩ = some (.int .i64 x.kind) ∧ w.cell? ⟨B, o + 5, none⟩ = some (.int .i64 x.data) :=
  ⟨h 0 (by decide), h 1 (by decide), h 2 (by decide), h 3 (by decide), h 4 (by decide), h 5 (by decide)⟩
theorem one_cellV {w : World} {B o : Nat} {x : Int} (h : CV.Cell w B o x) : w.cell? ⟨B, o, none⟩ = some (.int .i64 x) := h 0 (by decide)

theorem keyEqIn (n : Nat) (a b c x y z : Int) (w : World) : (Op.equalIn (n + 1 + 1) 43 (.agg #[.int .i64 a, .int .i64 b, .int .i64 c]) (.agg #[.int .i64 x, .int .i64 y, .int .i64 z])).run Tryd.prog w = .ok (decide (a = x ∧ b = y ∧ c = z)) w := by
  have u3 := Tryd.underlying3
  have u2 := Tryd.underlying2
  have a3 := Tryd.isAgg3
  have a2 := Tryd.isAgg2
  have z3 := Tryd.sizeOf3
  have z2 := Tryd.sizeOf2
  have hS : Tryd.prog.underlying 43 = some (.struct (Tryd.prog.fieldsOf 43)) := by kernel_rfl
  have hp : Tryd.prog.stoodInHeld 43 = false := by kernel_rfl
  rw [run_equalIn_agg w (n + 1) 43 _ _ hS hp]
  simp only [Program.fieldsOf, Tryd.underlying43]
  go_simp
  by_cases h1 : a = x <;> by_cases h2 : b = y <;> by_cases h3 : c = z <;> simp [h1, h2, h3]
abbrev evA (x : Ev) : Value := .agg #[.int .i64 x.time, .int .i64 x.org, .int .i64 x.seq, .int .i64 x.to, .int .i64 x.kind, .int .i64 x.data]
theorem evEqIn (n : Nat) (x y : Ev) (w : World) : (Op.equalIn (n + 1 + 1 + 1) 45 (evA x) (evA y)).run Tryd.prog w = .ok (decide (x = y)) w := by
  have u3 := Tryd.underlying3
  have u2 := Tryd.underlying2
  have a3 := Tryd.isAgg3
  have a2 := Tryd.isAgg2
  have a23 := Tryd.isAgg43
  have z3 := Tryd.sizeOf3
  have z2 := Tryd.sizeOf2
  have z23 := Tryd.sizeOf43
  obtain ⟨a, b, c, d, e, f⟩ := x
  obtain ⟨x, y, z, u, v, q⟩ := y
  have hK := keyEqIn n a b c x y z
  have hS : Tryd.prog.underlying 45 = some (.struct (Tryd.prog.fieldsOf 45)) := by kernel_rfl
  have hp : Tryd.prog.stoodInHeld 45 = false := by kernel_rfl
  rw [run_equalIn_agg w (n + 1 + 1) 45 _ _ hS hp]
  simp only [Program.fieldsOf, Tryd.underlying45]
  go_simp
  by_cases h1 : a = x <;> by_cases h2 : b = y <;> by_cases h3 : c = z <;> by_cases h4 : d = u <;> by_cases h5 : e = v <;> by_cases h6 : f = q <;> simp [h1, h2, h3, h4, h5, h6]
theorem evNe (x y : Ev) (w : World) : (binOp .neq 45 (evA x) (evA y)).run Tryd.prog w = .ok (.bool (!decide (x = y))) w := by
  rw [run_neq_struct, show (10000 : Nat) = 9997 + 1 + 1 + 1 from rfl, evEqIn]
  simp
theorem evGuard : Tryd.prog.eqGuardType Tryd.prog.depth 45 = false := by kernel_rfl
theorem take_snoc_eq {α : Type} (l r : List α) (k : Nat) (x : α) (hl : l[k]? = some x) (hr : r[k]? = some x) (h : l.take k = r.take k) : l.take (k + 1) = r.take (k + 1) := by
  rw [List.take_add_one, List.take_add_one, h, hl, hr]
theorem take_all_eq {α : Type} (l r : List α) (n : Nat) (hl : l.length = n) (hr : r.length = n) (h : l.take n = r.take n) : l = r := by
  rwa [List.take_of_length_le (by omega), List.take_of_length_le (by omega)] at h
theorem ne_of_at {α : Type} (l r : List α) (k : Nat) (x y : α) (hl : l[k]? = some x) (hr : r[k]? = some y) (h : x ≠ y) : l ≠ r := by
  rintro rfl
  rw [hl] at hr
  exact h (Option.some.inj hr)
def AlikeRel {α : Type} (w : World) (n : Nat) (l r : List α) (i : Value) (wr : World) : Prop := ∃ k : Nat, k ≤ n ∧ i = .int .i64 k ∧ l.take k = r.take k ∧ Below w.heap.size w wr
end Go.Proofs.YthhpoihfaggafaaDoor
