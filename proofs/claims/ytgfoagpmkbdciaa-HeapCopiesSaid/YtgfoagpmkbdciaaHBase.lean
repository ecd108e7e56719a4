/-
  The walks of Less (both), Compare, ByKey.
-/
import Derived.Test.YtgfoagpmkbdciaaHKey
import Derived.Test.YtgfoagpmkbdciaaRows
import Derived.Shelf.SlSortCmp.KitK
import Derived.Laws.StructEq
import Derived.ProofKit
import Derived.ChangeOld
import Derived.Below
import Derived.Lib.Hide
namespace Go.Proofs.Ytgfoagpmkbdciaa
open Go.RowKit Go.Sort Go.Proofs

def encK (k : Ky) : List Value := [.int .i64 k.1, .int .i64 k.2.1, .int .i64 k.2.2]
def encE (x : Ev) : List Value := [.int .i64 x.1.1, .int .i64 x.1.2.1, .int .i64 x.1.2.2, .int .i64 x.2.1, .int .i64 x.2.2.1, .int .i64 x.2.2.2]
/-- a bool is told; what lies stays, blocks are laid behind it -/
def GrewB (t : Bool) (w : World) (e : Ending) (w' : World) : Prop := e = .returned (.bool t) ∧ ∃ os, w' = grow w os
def GrewI (n : Int) (w : World) (e : Ending) (w' : World) : Prop := e = .returned (.int .i64 n) ∧ ∃ os, w' = grow w os

theorem grew2 (w : World) (o p : Obj) : ∃ os, (w.alloc o).alloc p = grow w os := ⟨_, by rw [alloc_eq_grow, alloc_eq_grow, grow_grow]⟩
theorem grew_trans {w w1 w2 : World} (h : ∃ os, w1 = grow w os) (h' : ∃ os, w2 = grow w1 os) : ∃ os, w2 = grow w os := by
  obtain ⟨o1, rfl⟩ := h
  obtain ⟨o2, rfl⟩ := h'
  exact ⟨_, grow_grow _ _ _⟩

theorem keyEq (a b c x y z : Int) (w : World) : (binOp .eql 32 (.agg #[.int .i64 a, .int .i64 b, .int .i64 c]) (.agg #[.int .i64 x, .int .i64 y, .int .i64 z])).run Try.prog w = .ok (.bool (decide (((a, b, c) : Ky) = (x, y, z)))) w := by
  have u3 := Try.underlying3
  have u2 := Try.underlying2
  have a3 := Try.isAgg3
  have a2 := Try.isAgg2
  have z3 := Try.sizeOf3
  have z2 := Try.sizeOf2
  have hS : Try.prog.underlying 32 = some (.struct (Try.prog.fieldsOf 32)) := by kernel_rfl
  have hp : Try.prog.stoodInHeld 32 = false := by kernel_rfl
  rw [run_eql_struct, show (10000 : Nat) = 9999 + 1 from rfl, run_equalIn_agg w 9999 32 _ _ hS hp]
  simp only [Program.fieldsOf, Try.underlying32]
  go_simp
  by_cases h1 : a = x <;> by_cases h2 : b = y <;> by_cases h3 : c = z <;> simp [h1, h2, h3]
theorem keyGuard : Try.prog.eqGuardType Try.prog.depth 32 = false := by kernel_rfl

set_option maxHeartbeats 1000000 in
theorem oless_any (a b c x y z : Int) (w : World) : Calls Try.prog 64 #[.agg #[.int .i64 a, .int .i64 b, .int .i64 c], .agg #[.int .i64 x, .int .i64 y, .int .i64 z]] w (GrewB (kLt (a, b, c) (x, y, z)) w) := by
  obtain ⟨t, ht⟩ : ∃ t, t = kLt (a, b, c) (x, y, z) := ⟨_, rfl⟩
  rw [← ht]
  have HT := Lib.hid ht
  clear ht
  by_cases h1 : a = x
  · subst h1
    by_cases h2 : b = y
    · subst h2
      go_enter Try.func64, Try.ntmps64
      go_wp2
      go_ret
      exact ⟨by rw [HT.out]; simp [kLt], grew2 _ _ _⟩
    · have hd : (b == y) = false := by simpa using h2
      have H2 := Lib.hid h2
      clear h2
      go_enter Try.func64, Try.ntmps64
      go_wp2
      go_ret
      exact ⟨by rw [HT.out]; simp [kLt, H2.out], grew2 _ _ _⟩
  · have hd : (a == x) = false := by simpa using h1
    have H1 := Lib.hid h1
    clear h1
    go_enter Try.func64, Try.ntmps64
    go_wp2
    go_ret
    exact ⟨by rw [HT.out]; simp [kLt, H1.out], grew2 _ _ _⟩
set_option maxHeartbeats 1000000 in
theorem rless_any (a b c x y z : Int) (w : World) : Calls Try.prog 38 #[.agg #[.int .i64 a, .int .i64 b, .int .i64 c], .agg #[.int .i64 x, .int .i64 y, .int .i64 z]] w (GrewB (kLt (a, b, c) (x, y, z)) w) := by
  obtain ⟨t, ht⟩ : ∃ t, t = kLt (a, b, c) (x, y, z) := ⟨_, rfl⟩
  rw [← ht]
  have HT := Lib.hid ht
  clear ht
  by_cases h1 : a = x
  · subst h1
    by_cases h2 : b = y
    · subst h2
      go_enter Try.func38, Try.ntmps38
      go_wp2
      go_ret
      exact ⟨by rw [HT.out]; simp [kLt], grew2 _ _ _⟩
    · have hd : (b == y) = false := by simpa using h2
      have H2 := Lib.hid h2
      clear h2
      go_enter Try.func38, Try.ntmps38
      go_wp2
      go_ret
      exact ⟨by rw [HT.out]; simp [kLt, H2.out], grew2 _ _ _⟩
  · have hd : (a == x) = false := by simpa using h1
    have H1 := Lib.hid h1
    clear h1
    go_enter Try.func38, Try.ntmps38
    go_wp2
    go_ret
    exact ⟨by rw [HT.out]; simp [kLt, H1.out], grew2 _ _ _⟩

set_option maxHeartbeats 1000000 in
theorem compare_any (a b c x y z : Int) (w : World) : Calls Try.prog 52 #[.agg #[.int .i64 a, .int .i64 b, .int .i64 c], .agg #[.int .i64 x, .int .i64 y, .int .i64 z]] w (GrewI (kCmp (a, b, c) (x, y, z)) w) := by
  obtain ⟨t, ht⟩ : ∃ t, t = kCmp (a, b, c) (x, y, z) := ⟨_, rfl⟩
  rw [← ht]
  have HT := Lib.hid ht
  clear ht
  have he := keyEq a b c x y z
  have hgd := fun (op : BinOp) (x y : Operand) (xs ys : Array Value) (w : World) => run_eqGuard_agg (P := Try.prog) w op 32 x y xs ys keyGuard
  by_cases h1 : ((a, b, c) : Ky) = (x, y, z)
  · have H1 := Lib.hid h1
    have he' : ∀ w, (binOp .eql 32 (.agg #[.int .i64 a, .int .i64 b, .int .i64 c]) (.agg #[.int .i64 x, .int .i64 y, .int .i64 z])).run Try.prog w = .ok (.bool true) w := fun w => by rw [he, decide_eq_true H1.out]
    clear h1 he
    go_enter Try.func52, Try.ntmps52
    go_wp2
    go_ret
    exact ⟨by rw [HT.out]; unfold kCmp; rw [if_pos H1.out]; rfl, grew2 _ _ _⟩
  · have H1 := Lib.hid h1
    have he' : ∀ w, (binOp .eql 32 (.agg #[.int .i64 a, .int .i64 b, .int .i64 c]) (.agg #[.int .i64 x, .int .i64 y, .int .i64 z])).run Try.prog w = .ok (.bool false) w := fun w => by rw [he, decide_eq_false H1.out]
    clear h1 he
    rcases hl : kLt (a, b, c) (x, y, z) with _ | _
    all_goals
      have HL := Lib.hid hl
      clear hl
      go_enter Try.func52, Try.ntmps52
      go_wp2_with (go_at_call 64; refine (oless_any _ _ _ _ _ _ _).mono ?_; rintro e w1 ⟨rfl, h⟩; rw [HL.out]; have HG := Lib.hid h; clear h)
      go_ret
      exact ⟨by rw [HT.out]; unfold kCmp; rw [if_neg H1.out, HL.out]; rfl, grew_trans (grew2 _ _ _) HG.out⟩

set_option maxHeartbeats 1000000 in
theorem byKey_any (x y : Ev) (w : World) : Calls Try.prog 48 #[.agg (encE x).toArray, .agg (encE y).toArray] w (GrewI (evCmp x y) w) := by
  obtain ⟨⟨a, b, c⟩, d, e, f⟩ := x
  obtain ⟨⟨a', b', c'⟩, d', e', f'⟩ := y
  show Calls Try.prog 48 #[.agg #[.int .i64 a, .int .i64 b, .int .i64 c, .int .i64 d, .int .i64 e, .int .i64 f], .agg #[.int .i64 a', .int .i64 b', .int .i64 c', .int .i64 d', .int .i64 e', .int .i64 f']] w _
  obtain ⟨t, ht⟩ : ∃ t, t = evCmp ((a, b, c), d, e, f) ((a', b', c'), d', e', f') := ⟨_, rfl⟩
  rw [← ht]
  have HT := Lib.hid (show t = kCmp (a, b, c) (a', b', c') from ht)
  clear ht
  go_enter Try.func48, Try.ntmps48
  go_wp2_with (go_at_call 52; refine (compare_any _ _ _ _ _ _ _).mono ?_; rintro e w1 ⟨rfl, h⟩; rw [← HT.out]; have HG := Lib.hid h; clear h)
  go_ret
  exact ⟨rfl, grew_trans (grew2 _ _ _) HG.out⟩
end Go.Proofs.Ytgfoagpmkbdciaa
