/-
  The walks of Less (both); messages in memory; == of messages.
-/
import Derived.Test.YtifniehfbafcoaaPKey
import Derived.Test.YtifniehfbafcoaaGMem
import Derived.Test.YtifniehfbafcoaaRows
import Derived.Shelf.SlSortCmp.KitK
import Derived.Laws.StructEq
import Derived.ProofKit
import Derived.ChangeOld
import Derived.Below
import Derived.Lib.Hide
namespace Go.Proofs.Ytifniehfbafcoaa
open Go.RowKit Go.Sort Go.Proofs

def encK (k : Ky) : List Value := [.int .i64 k.1, .int .i64 k.2.1, .int .i64 k.2.2]
/-- a bool is told; what lies stays, blocks are laid behind it -/
def GrewB (t : Bool) (w : World) (e : Ending) (w' : World) : Prop := e = .returned (.bool t) ∧ ∃ os, w' = grow w os

theorem grew2 (w : World) (o p : Obj) : ∃ os, (w.alloc o).alloc p = grow w os := ⟨_, by rw [alloc_eq_grow, alloc_eq_grow, grow_grow]⟩
theorem grew_trans {w w1 w2 : World} (h : ∃ os, w1 = grow w os) (h' : ∃ os, w2 = grow w1 os) : ∃ os, w2 = grow w os := by
  obtain ⟨o1, rfl⟩ := h
  obtain ⟨o2, rfl⟩ := h'
  exact ⟨_, grow_grow _ _ _⟩

theorem keyEq (a b c x y z : Int) (w : World) : (binOp .eql 32 (.agg #[.int .i64 a, .int .i64 b, .int .i64 c]) (.agg #[.int .i64 x, .int .i64 y, .int .i64 z])).run Try.prog w = .ok (.bool (decide (((a, b, c) : Ky) = (x, y, z)))) w := by
  have u3 := Try.underlying3
  have u2 := Try.underlying2
  have a3 := Try.isAgg3
  have a2 := Try.isAgg2
  have z3 := Try.sizeOf3
  have z2 := Try.sizeOf2
  have hS : Try.prog.underlying 32 = some (.struct (Try.prog.fieldsOf 32)) := by kernel_rfl
  have hp : Try.prog.stoodInHeld 32 = false := by kernel_rfl
  rw [run_eql_struct, show (10000 : Nat) = 9999 + 1 from rfl, run_equalIn_agg w 9999 32 _ _ hS hp]
  simp only [Program.fieldsOf, Try.underlying32]
  go_simp
  by_cases h1 : a = x <;> by_cases h2 : b = y <;> by_cases h3 : c = z <;> simp [h1, h2, h3]
theorem keyGuard : Try.prog.eqGuardType Try.prog.depth 32 = false := by kernel_rfl

set_option maxHeartbeats 1000000 in
theorem oless_any (a b c x y z : Int) (w : World) : Calls Try.prog 34 #[.agg #[.int .i64 a, .int .i64 b, .int .i64 c], .agg #[.int .i64 x, .int .i64 y, .int .i64 z]] w (GrewB (kLt (a, b, c) (x, y, z)) w) := by
  obtain ⟨t, ht⟩ : ∃ t, t = kLt (a, b, c) (x, y, z) := ⟨_, rfl⟩
  rw [← ht]
  have HT := Lib.hid ht
  clear ht
  by_cases h1 : a = x
  · subst h1
    by_cases h2 : b = y
    · subst h2
      go_enter Try.func34, Try.ntmps34
      go_wp2
      go_ret
      exact ⟨by rw [HT.out]; simp [kLt], grew2 _ _ _⟩
    · have hd : (b == y) = false := by simpa using h2
      have H2 := Lib.hid h2
      clear h2
      go_enter Try.func34, Try.ntmps34
      go_wp2
      go_ret
      exact ⟨by rw [HT.out]; simp [kLt, H2.out], grew2 _ _ _⟩
  · have hd : (a == x) = false := by simpa using h1
    have H1 := Lib.hid h1
    clear h1
    go_enter Try.func34, Try.ntmps34
    go_wp2
    go_ret
    exact ⟨by rw [HT.out]; simp [kLt, H1.out], grew2 _ _ _⟩
set_option maxHeartbeats 1000000 in
theorem rless_any (a b c x y z : Int) (w : World) : Calls Try.prog 35 #[.agg #[.int .i64 a, .int .i64 b, .int .i64 c], .agg #[.int .i64 x, .int .i64 y, .int .i64 z]] w (GrewB (kLt (a, b, c) (x, y, z)) w) := by
  obtain ⟨t, ht⟩ : ∃ t, t = kLt (a, b, c) (x, y, z) := ⟨_, rfl⟩
  rw [← ht]
  have HT := Lib.hid ht
  clear ht
  by_cases h1 : a = x
  · subst h1
    by_cases h2 : b = y
    · subst h2
      go_enter Try.func35, Try.ntmps35
      go_wp2
      go_ret
      exact ⟨by rw [HT.out]; simp [kLt], grew2 _ _ _⟩
    · have hd : (b == y) = false := by simpa using h2
      have H2 := Lib.hid h2
      clear h2
      go_enter Try.func35, Try.ntmps35
      go_wp2
      go_ret
      exact ⟨by rw [HT.out]; simp [kLt, H2.out], grew2 _ _ _⟩
  · have hd : (a == x) = false := by simpa using h1
    have H1 := Lib.hid h1
    clear h1
    go_enter Try.func35, Try.ntmps35
    go_wp2
    go_ret
    exact ⟨by rw [HT.out]; simp [kLt, H1.out], grew2 _ _ _⟩

theorem keyEqIn (n : Nat) (a b c x y z : Int) (w : World) : (Op.equalIn (n + 1 + 1) 32 (.agg #[.int .i64 a, .int .i64 b, .int .i64 c]) (.agg #[.int .i64 x, .int .i64 y, .int .i64 z])).run Try.prog w = .ok (decide (((a, b, c) : Ky) = (x, y, z))) w := by
  have u3 := Try.underlying3
  have u2 := Try.underlying2
  have a3 := Try.isAgg3
  have a2 := Try.isAgg2
  have z3 := Try.sizeOf3
  have z2 := Try.sizeOf2
  have hS : Try.prog.underlying 32 = some (.struct (Try.prog.fieldsOf 32)) := by kernel_rfl
  have hp : Try.prog.stoodInHeld 32 = false := by kernel_rfl
  rw [run_equalIn_agg w (n + 1) 32 _ _ hS hp]
  simp only [Program.fieldsOf, Try.underlying32]
  go_simp
  by_cases h1 : a = x <;> by_cases h2 : b = y <;> by_cases h3 : c = z <;> simp [h1, h2, h3]
theorem evEqIn (n : Nat) (a b c d e f x y z u v q : Int) (w : World) : (Op.equalIn (n + 1 + 1 + 1) 34 (.agg #[.int .i64 a, .int .i64 b, .int .i64 c, .int .i64 d, .int .i64 e, .int .i64 f]) (.agg #[.int .i64 x, .int .i64 y, .int .i64 z, .int .i64 u, .int .i64 v, .int .i64 q])).run Try.prog w = .ok (decide ((((a, b, c), d, e, f) : Ev) = ((x, y, z), u, v, q))) w := by
  have u3 := Try.underlying3
  have u2 := Try.underlying2
  have a3 := Try.isAgg3
  have a2 := Try.isAgg2
  have a23 := Try.isAgg32
  have z3 := Try.sizeOf3
  have z2 := Try.sizeOf2
  have z23 := Try.sizeOf32
  have hK := keyEqIn n a b c x y z
  have hS : Try.prog.underlying 34 = some (.struct (Try.prog.fieldsOf 34)) := by kernel_rfl
  have hp : Try.prog.stoodInHeld 34 = false := by kernel_rfl
  rw [run_equalIn_agg w (n + 1 + 1) 34 _ _ hS hp]
  simp only [Program.fieldsOf, Try.underlying34]
  go_simp
  by_cases ha : a = x <;> by_cases hb : b = y <;> by_cases hc : c = z <;> by_cases h1 : d = u <;> by_cases h2 : e = v <;> by_cases h3 : f = q <;> simp [ha, hb, hc, h1, h2, h3]
/-- a message as a value, as an object, as cells -/
abbrev MsV (x : Ms) : Value := .agg #[.int .i64 x.1.1.1, .int .i64 x.1.1.2.1, .int .i64 x.1.1.2.2, .int .i64 x.1.2.1, .int .i64 x.1.2.2.1, .int .i64 x.1.2.2.2, .int .i64 x.2.1, .bool x.2.2.1, .bool x.2.2.2.1, .int .i64 x.2.2.2.2]
abbrev MsO (x : Ms) : Obj := .cells #[.int .i64 x.1.1.1, .int .i64 x.1.1.2.1, .int .i64 x.1.1.2.2, .int .i64 x.1.2.1, .int .i64 x.1.2.2.1, .int .i64 x.1.2.2.2, .int .i64 x.2.1, .bool x.2.2.1, .bool x.2.2.2.1, .int .i64 x.2.2.2.2] 36
def encM (x : Ms) : List Value := [.int .i64 x.1.1.1, .int .i64 x.1.1.2.1, .int .i64 x.1.1.2.2, .int .i64 x.1.2.1, .int .i64 x.1.2.2.1, .int .i64 x.1.2.2.2, .int .i64 x.2.1, .bool x.2.2.1, .bool x.2.2.2.1, .int .i64 x.2.2.2.2]
theorem msEqIn (x y : Ms) (w : World) : (Op.equalIn 10000 36 (MsV x) (MsV y)).run Try.prog w = .ok (decide (x = y)) w := by
  obtain ⟨⟨⟨a, b, c⟩, d, e, f⟩, s, p, q, r⟩ := x
  obtain ⟨⟨⟨a', b', c'⟩, d', e', f'⟩, s', p', q', r'⟩ := y
  have u3 := Try.underlying3
  have u2 := Try.underlying2
  have u4 := Try.underlying4
  have a3 := Try.isAgg3
  have a2 := Try.isAgg2
  have a4 := Try.isAgg4
  have a23 := Try.isAgg32
  have a24 := Try.isAgg34
  have z3 := Try.sizeOf3
  have z2 := Try.sizeOf2
  have z4 := Try.sizeOf4
  have z23 := Try.sizeOf32
  have z24 := Try.sizeOf34
  have hE := evEqIn 9996 a b c d e f a' b' c' d' e' f'
  have hS : Try.prog.underlying 36 = some (.struct (Try.prog.fieldsOf 36)) := by kernel_rfl
  have hp : Try.prog.stoodInHeld 36 = false := by kernel_rfl
  rw [show (10000 : Nat) = 9999 + 1 from rfl, run_equalIn_agg w 9999 36 _ _ hS hp]
  simp only [Program.fieldsOf, Try.underlying36]
  go_simp
  by_cases ha : ((((a, b, c), d, e, f) : Ev) = ((a', b', c'), d', e', f')) <;> by_cases hs : s = s' <;> by_cases h1 : p = p' <;> by_cases h2 : q = q' <;> by_cases h3 : r = r' <;> simp_all
theorem msNe (x y : Ms) (w : World) : (binOp .neq 36 (MsV x) (MsV y)).run Try.prog w = .ok (.bool (!(decide (x = y)))) w := by
  rw [run_neq_struct, msEqIn x y w]
  rfl
theorem msEq (x y : Ms) (w : World) : (binOp .eql 36 (MsV x) (MsV y)).run Try.prog w = .ok (.bool (decide (x = y))) w := by
  rw [run_eql_struct, msEqIn x y w]
  rfl
theorem msGuard : Try.prog.eqGuardType Try.prog.depth 36 = false := by kernel_rfl
end Go.Proofs.Ytifniehfbafcoaa
