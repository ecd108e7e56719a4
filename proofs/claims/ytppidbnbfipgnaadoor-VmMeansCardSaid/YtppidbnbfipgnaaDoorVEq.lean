/-
  Events and records, compared by program.
-/
import Derived.Test.YtppidbnbfipgnaaDoorVBase
import Derived.Laws.StructEq
namespace Go.Proofs.YtppidbnbfipgnaaDoor
open Go Go.RowKit Go.Sort Go.Proofs CodM VmM

abbrev K3 := Int × Int × Int
abbrev E6 := K3 × Int × Int × Int
theorem keyEqIn (n : Nat) (a b c x y z : Int) (w : World) : (Op.equalIn (n + 1 + 1) 29 (.agg #[.int .i64 a, .int .i64 b, .int .i64 c]) (.agg #[.int .i64 x, .int .i64 y, .int .i64 z])).run Tryd.prog w = .ok (decide (((a, b, c) : K3) = (x, y, z))) w := by
  have u3 := Tryd.underlying3
  have u2 := Tryd.underlying2
  have a3 := Tryd.isAgg3
  have a2 := Tryd.isAgg2
  have z3 := Tryd.sizeOf3
  have z2 := Tryd.sizeOf2
  have hS : Tryd.prog.underlying 29 = some (.struct (Tryd.prog.fieldsOf 29)) := by kernel_rfl
  have hp : Tryd.prog.stoodInHeld 29 = false := by kernel_rfl
  rw [run_equalIn_agg w (n + 1) 29 _ _ hS hp]
  simp only [Program.fieldsOf, Tryd.underlying29]
  go_simp
  by_cases h1 : a = x <;> by_cases h2 : b = y <;> by_cases h3 : c = z <;> simp [h1, h2, h3]
theorem evEqIn (n : Nat) (a b c d e f x y z u v q : Int) (w : World) : (Op.equalIn (n + 1 + 1 + 1) 31 (.agg #[.int .i64 a, .int .i64 b, .int .i64 c, .int .i64 d, .int .i64 e, .int .i64 f]) (.agg #[.int .i64 x, .int .i64 y, .int .i64 z, .int .i64 u, .int .i64 v, .int .i64 q])).run Tryd.prog w = .ok (decide ((((a, b, c), d, e, f) : E6) = ((x, y, z), u, v, q))) w := by
  have u3 := Tryd.underlying3
  have u2 := Tryd.underlying2
  have a3 := Tryd.isAgg3
  have a2 := Tryd.isAgg2
  have a23 := Tryd.isAgg29
  have z3 := Tryd.sizeOf3
  have z2 := Tryd.sizeOf2
  have z23 := Tryd.sizeOf29
  have hK := keyEqIn n a b c x y z
  have hS : Tryd.prog.underlying 31 = some (.struct (Tryd.prog.fieldsOf 31)) := by kernel_rfl
  have hp : Tryd.prog.stoodInHeld 31 = false := by kernel_rfl
  rw [run_equalIn_agg w (n + 1 + 1) 31 _ _ hS hp]
  simp only [Program.fieldsOf, Tryd.underlying31]
  go_simp
  by_cases ha : a = x <;> by_cases hb : b = y <;> by_cases hc : c = z <;> by_cases h1 : d = u <;> by_cases h2 : e = v <;> by_cases h3 : f = q <;> simp [ha, hb, hc, h1, h2, h3]
theorem rcEqIn (n : Nat) (a b c d e f x y z u v q : Int) (w : World) : (Op.equalIn (n + 1 + 1 + 1) 55 (.agg #[.int .i64 a, .int .i64 b, .int .i64 c, .int .i64 d, .int .i64 e, .int .i64 f]) (.agg #[.int .i64 x, .int .i64 y, .int .i64 z, .int .i64 u, .int .i64 v, .int .i64 q])).run Tryd.prog w = .ok (decide ((((a, b, c), d, e, f) : E6) = ((x, y, z), u, v, q))) w := by
  have u3 := Tryd.underlying3
  have u2 := Tryd.underlying2
  have a3 := Tryd.isAgg3
  have a2 := Tryd.isAgg2
  have a23 := Tryd.isAgg29
  have z3 := Tryd.sizeOf3
  have z2 := Tryd.sizeOf2
  have z23 := Tryd.sizeOf29
  have hK := keyEqIn n a b c x y z
  have hS : Tryd.prog.underlying 55 = some (.struct (Tryd.prog.fieldsOf 55)) := by kernel_rfl
  have hp : Tryd.prog.stoodInHeld 55 = false := by kernel_rfl
  rw [run_equalIn_agg w (n + 1 + 1) 55 _ _ hS hp]
  simp only [Program.fieldsOf, Tryd.underlying55]
  go_simp
  by_cases ha : a = x <;> by_cases hb : b = y <;> by_cases hc : c = z <;> by_cases h1 : d = u <;> by_cases h2 : e = v <;> by_cases h3 : f = q <;> simp [ha, hb, hc, h1, h2, h3]
theorem evEq (a b c d e f : Int) (w : World) : (binOp .eql 31 (.agg #[.int .i64 a, .int .i64 b, .int .i64 c, .int .i64 d, .int .i64 e, .int .i64 f]) (.agg #[.int .i64 a, .int .i64 b, .int .i64 c, .int .i64 d, .int .i64 e, .int .i64 f])).run Tryd.prog w = .ok (.bool true) w := by
  rw [run_eql_struct, show (10000 : Nat) = 9997 + 1 + 1 + 1 from rfl, evEqIn]
  simp [Result.andThen]
theorem evNe (a b c d e f : Int) (w : World) : (binOp .neq 31 (.agg #[.int .i64 a, .int .i64 b, .int .i64 c, .int .i64 d, .int .i64 e, .int .i64 f]) (.agg #[.int .i64 a, .int .i64 b, .int .i64 c, .int .i64 d, .int .i64 e, .int .i64 f])).run Tryd.prog w = .ok (.bool false) w := by
  rw [run_neq_struct, show (10000 : Nat) = 9997 + 1 + 1 + 1 from rfl, evEqIn]
  simp [Result.andThen]
theorem rcNe (a b c d e f : Int) (w : World) : (binOp .neq 55 (.agg #[.int .i64 a, .int .i64 b, .int .i64 c, .int .i64 d, .int .i64 e, .int .i64 f]) (.agg #[.int .i64 a, .int .i64 b, .int .i64 c, .int .i64 d, .int .i64 e, .int .i64 f])).run Tryd.prog w = .ok (.bool false) w := by
  rw [run_neq_struct, show (10000 : Nat) = 9997 + 1 + 1 + 1 from rfl, rcEqIn]
  simp [Result.andThen]
theorem keyNe (a b c : Int) (w : World) : (binOp .neq 29 (.agg #[.int .i64 a, .int .i64 b, .int .i64 c]) (.agg #[.int .i64 a, .int .i64 b, .int .i64 c])).run Tryd.prog w = .ok (.bool false) w := by
  rw [run_neq_struct, show (10000 : Nat) = 9998 + 1 + 1 from rfl, keyEqIn]
  simp [Result.andThen]
theorem evGuard : Tryd.prog.eqGuardType Tryd.prog.depth 31 = false := by kernel_rfl
theorem rcGuard : Tryd.prog.eqGuardType Tryd.prog.depth 55 = false := by kernel_rfl
theorem keyGuard : Tryd.prog.eqGuardType Tryd.prog.depth 29 = false := by kernel_rfl
end Go.Proofs.YtppidbnbfipgnaaDoor
