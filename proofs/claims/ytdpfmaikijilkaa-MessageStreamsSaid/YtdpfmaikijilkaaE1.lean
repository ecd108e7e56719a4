/-
  Bytes as strings, equal or not; structs equal or not; the walks of bytes.Equal, slices.Equal.
-/
import Derived.Test.YtdpfmaikijilkaaW10
import Derived.Test.YtdpfmaikijilkaaW11
import Derived.Laws.BytesArg
import Derived.MapKept
import Derived.Deep.LoopGhost
import Derived.BigQuiet
namespace Go.Proofs.Ytdpfmaikijilkaa
open Go Go.RowKit Go.Sort Go.Proofs

def strB (l : List UInt8) : ByteArray := ⟨l.toArray⟩
theorem strB_beq (l m : List UInt8) : ((strB l).toList == (strB m).toList) = decide (l = m) := by
  rw [ByteArray.toList_eq, ByteArray.toList_eq]
  show (l == m) = _
  by_cases h : l = m
  · subst h; simp
  · rw [decide_eq_false h]; simpa using h
theorem Cod.At.str {w : World} {a : Option Addr} {n : Nat} {l : List UInt8} (h : CB.At w a n l) (c : Nat) : (convert 24 9 (.slice a n c)).run Try.prog w = .ok (.string (strB l)) w := by
  obtain ⟨h1, h2, h3 | ⟨B, off, rfl, hB, hc⟩⟩ := h
  · subst h3
    obtain rfl := List.length_eq_zero_iff.1 h1
    rw [run_convert_bytes_string w 24 9 5 _ 0 c Try.underlying24 Try.underlying5 Try.underlying9]
    cases a with
    | none => simp [Conv.bytesToString]; rfl
    | some x =>
      rw [run_bytesToString w x 0 c [] (by simp [loadCells, loadCellsFrom])]
      rfl
  · subst h1
    exact run_convert_bytes_back (P := Try.prog) w 24 9 5 ⟨B, off, none⟩ c l Try.underlying24 Try.underlying5 Try.underlying9 (fun j hj => by
      rw [Addr.add_lit]
      have := hc j hj 0 (by decide)
      have e : off + j * CB.k + 0 = off + j := by show off + j * 1 + 0 = _; omega
      rw [e] at this
      exact this)
theorem equal_any (w : World) (a b : Option Addr) (n m c d : Nat) (l r : List UInt8) (hl : CB.At w a n l) (hr : CB.At w b m r) : Calls Try.prog 49 #[.slice a n c, .slice b m d] w (fun e w' => e = .returned (.bool (decide (l = r))) ∧ w' = w) := by
  have h1 := hl.str c
  have h2 := hr.str d
  have h3 := strB_beq l r
  clear hl hr
  go_enter Try.func49, Try.ntmps49
  go_wp2
  go_ret
  exact ⟨rfl, rfl⟩
theorem keyEqIn (a b c x y z : Int) (w : World) : (Op.equalIn 9999 26 (.agg #[.int .i64 a, .int .i64 b, .int .i64 c]) (.agg #[.int .i64 x, .int .i64 y, .int .i64 z])).run Try.prog w = .ok (decide ((a, b, c) = (x, y, z))) w := by
  have u3 := Try.underlying3
  have u2 := Try.underlying2
  have a3 := Try.isAgg3
  have a2 := Try.isAgg2
  have z3 := Try.sizeOf3
  have z2 := Try.sizeOf2
  have hS : Try.prog.underlying 26 = some (.struct (Try.prog.fieldsOf 26)) := by kernel_rfl
  have hp : Try.prog.stoodInHeld 26 = false := by kernel_rfl
  rw [show (9999 : Nat) = 9998 + 1 from rfl, run_equalIn_agg w 9998 26 _ _ hS hp]
  simp only [Program.fieldsOf, Try.underlying26]
  go_simp
  by_cases h1 : a = x <;> by_cases h2 : b = y <;> by_cases h3 : c = z <;> simp [h1, h2, h3]
theorem evEq10 (a b c d e f x y z u v q : Int) (w : World) : (Op.equalIn 10000 28 (.agg #[.int .i64 a, .int .i64 b, .int .i64 c, .int .i64 d, .int .i64 e, .int .i64 f]) (.agg #[.int .i64 x, .int .i64 y, .int .i64 z, .int .i64 u, .int .i64 v, .int .i64 q])).run Try.prog w = .ok (decide ((a, b, c, d, e, f) = (x, y, z, u, v, q))) w := by
  have u3 := Try.underlying3
  have u2 := Try.underlying2
  have a3 := Try.isAgg3
  have a2 := Try.isAgg2
  have a23 := Try.isAgg26
  have z3 := Try.sizeOf3
  have z2 := Try.sizeOf2
  have z23 := Try.sizeOf26
  have hK := keyEqIn a b c x y z
  have hS : Try.prog.underlying 28 = some (.struct (Try.prog.fieldsOf 28)) := by kernel_rfl
  have hp : Try.prog.stoodInHeld 28 = false := by kernel_rfl
  rw [show (10000 : Nat) = 9999 + 1 from rfl, run_equalIn_agg w 9999 28 _ _ hS hp]
  simp only [Program.fieldsOf, Try.underlying28]
  go_simp
  by_cases ha : a = x <;> by_cases hb : b = y <;> by_cases hc : c = z <;> by_cases h1 : d = u <;> by_cases h2 : e = v <;> by_cases h3 : f = q <;> simp [ha, hb, hc, h1, h2, h3]
theorem rcEq10 (a b c d e f x y z u v q : Int) (w : World) : (Op.equalIn 10000 45 (.agg #[.int .i64 a, .int .i64 b, .int .i64 c, .int .i64 d, .int .i64 e, .int .i64 f]) (.agg #[.int .i64 x, .int .i64 y, .int .i64 z, .int .i64 u, .int .i64 v, .int .i64 q])).run Try.prog w = .ok (decide ((a, b, c, d, e, f) = (x, y, z, u, v, q))) w := by
  have u3 := Try.underlying3
  have u2 := Try.underlying2
  have a3 := Try.isAgg3
  have a2 := Try.isAgg2
  have a23 := Try.isAgg26
  have z3 := Try.sizeOf3
  have z2 := Try.sizeOf2
  have z23 := Try.sizeOf26
  have hK := keyEqIn a b c x y z
  have hS : Try.prog.underlying 45 = some (.struct (Try.prog.fieldsOf 45)) := by kernel_rfl
  have hp : Try.prog.stoodInHeld 45 = false := by kernel_rfl
  rw [show (10000 : Nat) = 9999 + 1 from rfl, run_equalIn_agg w 9999 45 _ _ hS hp]
  simp only [Program.fieldsOf, Try.underlying45]
  go_simp
  by_cases ha : a = x <;> by_cases hb : b = y <;> by_cases hc : c = z <;> by_cases h1 : d = u <;> by_cases h2 : e = v <;> by_cases h3 : f = q <;> simp [ha, hb, hc, h1, h2, h3]
theorem brEq10 (a b c x y z : Int) (w : World) : (Op.equalIn 10000 30 (.agg #[.int .i64 a, .int .i64 b, .int .i64 c]) (.agg #[.int .i64 x, .int .i64 y, .int .i64 z])).run Try.prog w = .ok (decide ((a, b, c) = (x, y, z))) w := by
  have u3 := Try.underlying3
  have u2 := Try.underlying2
  have a3 := Try.isAgg3
  have a2 := Try.isAgg2
  have z3 := Try.sizeOf3
  have z2 := Try.sizeOf2
  have hS : Try.prog.underlying 30 = some (.struct (Try.prog.fieldsOf 30)) := by kernel_rfl
  have hp : Try.prog.stoodInHeld 30 = false := by kernel_rfl
  rw [show (10000 : Nat) = 9999 + 1 from rfl, run_equalIn_agg w 9999 30 _ _ hS hp]
  simp only [Program.fieldsOf, Try.underlying30]
  go_simp
  by_cases h1 : a = x <;> by_cases h2 : b = y <;> by_cases h3 : c = z <;> simp [h1, h2, h3]
theorem evGuard : Try.prog.eqGuardType Try.prog.depth 28 = false := by kernel_rfl
theorem rcGuard : Try.prog.eqGuardType Try.prog.depth 45 = false := by kernel_rfl
theorem brGuard : Try.prog.eqGuardType Try.prog.depth 30 = false := by kernel_rfl
section
variable (a b c d e f x y z u v q : Int) (w : World)
theorem evE : (binOp .eql 28 (.agg #[.int .i64 a, .int .i64 b, .int .i64 c, .int .i64 d, .int .i64 e, .int .i64 f]) (.agg #[.int .i64 x, .int .i64 y, .int .i64 z, .int .i64 u, .int .i64 v, .int .i64 q])).run Try.prog w = .ok (.bool (decide ((a, b, c, d, e, f) = (x, y, z, u, v, q)))) w := by
  rw [run_eql_struct, evEq10]; rfl
theorem evN : (binOp .neq 28 (.agg #[.int .i64 a, .int .i64 b, .int .i64 c, .int .i64 d, .int .i64 e, .int .i64 f]) (.agg #[.int .i64 x, .int .i64 y, .int .i64 z, .int .i64 u, .int .i64 v, .int .i64 q])).run Try.prog w = .ok (.bool (!decide ((a, b, c, d, e, f) = (x, y, z, u, v, q)))) w := by
  rw [run_neq_struct, evEq10]; rfl
theorem rcE : (binOp .eql 45 (.agg #[.int .i64 a, .int .i64 b, .int .i64 c, .int .i64 d, .int .i64 e, .int .i64 f]) (.agg #[.int .i64 x, .int .i64 y, .int .i64 z, .int .i64 u, .int .i64 v, .int .i64 q])).run Try.prog w = .ok (.bool (decide ((a, b, c, d, e, f) = (x, y, z, u, v, q)))) w := by
  rw [run_eql_struct, rcEq10]; rfl
theorem brE : (binOp .eql 30 (.agg #[.int .i64 a, .int .i64 b, .int .i64 c]) (.agg #[.int .i64 x, .int .i64 y, .int .i64 z])).run Try.prog w = .ok (.bool (decide ((a, b, c) = (x, y, z)))) w := by
  rw [run_eql_struct, brEq10]; rfl
end
end Go.Proofs.Ytdpfmaikijilkaa
