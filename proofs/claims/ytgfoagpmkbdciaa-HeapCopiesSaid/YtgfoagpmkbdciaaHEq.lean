/-
  Items are the same, by program; the walk of the document's Less.
-/
import Derived.Test.YtgfoagpmkbdciaaHNew
namespace Go.Proofs.Ytgfoagpmkbdciaa
open Go Go.Shelf Go.RowKit Go.Lib Go.Sort Go.Proofs HpM

theorem keyEqIn (n : Nat) (a b c x y z : Int) (w : World) : (Op.equalIn (n + 1 + 1) 32 (.agg #[.int .i64 a, .int .i64 b, .int .i64 c]) (.agg #[.int .i64 x, .int .i64 y, .int .i64 z])).run Try.prog w = .ok (decide (((a, b, c) : Ky) = (x, y, z))) w := by
  have u3 := Try.underlying3
  have u2 := Try.underlying2
  have a3 := Try.isAgg3
  have a2 := Try.isAgg2
  have z3 := Try.sizeOf3
  have z2 := Try.sizeOf2
  have hS : Try.prog.underlying 32 = some (.struct (Try.prog.fieldsOf 32)) := by kernel_rfl
  have hp : Try.prog.stoodInHeld 32 = false := by kernel_rfl
  rw [run_equalIn_agg w (n + 1) 32 _ _ hS hp]
  simp only [Program.fieldsOf, Try.underlying32]
  go_simp
  by_cases h1 : a = x <;> by_cases h2 : b = y <;> by_cases h3 : c = z <;> simp [h1, h2, h3]
theorem evEqIn (n : Nat) (a b c d e f x y z u v q : Int) (w : World) : (Op.equalIn (n + 1 + 1 + 1) 34 (.agg #[.int .i64 a, .int .i64 b, .int .i64 c, .int .i64 d, .int .i64 e, .int .i64 f]) (.agg #[.int .i64 x, .int .i64 y, .int .i64 z, .int .i64 u, .int .i64 v, .int .i64 q])).run Try.prog w = .ok (decide ((((a, b, c), d, e, f) : Ev) = ((x, y, z), u, v, q))) w := by
  have u3 := Try.underlying3
  have u2 := Try.underlying2
  have a3 := Try.isAgg3
  have a2 := Try.isAgg2
  have a23 := Try.isAgg32
  have z3 := Try.sizeOf3
  have z2 := Try.sizeOf2
  have z23 := Try.sizeOf32
  have hK := keyEqIn n a b c x y z
  have hS : Try.prog.underlying 34 = some (.struct (Try.prog.fieldsOf 34)) := by kernel_rfl
  have hp : Try.prog.stoodInHeld 34 = false := by kernel_rfl
  rw [run_equalIn_agg w (n + 1 + 1) 34 _ _ hS hp]
  simp only [Program.fieldsOf, Try.underlying34]
  go_simp
  by_cases ha : a = x <;> by_cases hb : b = y <;> by_cases hc : c = z <;> by_cases h1 : d = u <;> by_cases h2 : e = v <;> by_cases h3 : f = q <;> simp [ha, hb, hc, h1, h2, h3]
theorem itEqIn (x y : It) (w : World) : (Op.equalIn 10000 36 (ItV x) (ItV y)).run Try.prog w = .ok (decide (x = y)) w := by
  obtain ⟨⟨⟨a, b, c⟩, d, e, f⟩, s⟩ := x
  obtain ⟨⟨⟨a', b', c'⟩, d', e', f'⟩, s'⟩ := y
  have u3 := Try.underlying3
  have u2 := Try.underlying2
  have a3 := Try.isAgg3
  have a2 := Try.isAgg2
  have a23 := Try.isAgg32
  have a24 := Try.isAgg34
  have z3 := Try.sizeOf3
  have z2 := Try.sizeOf2
  have z23 := Try.sizeOf32
  have z24 := Try.sizeOf34
  have hE := evEqIn 9996 a b c d e f a' b' c' d' e' f'
  have hS : Try.prog.underlying 36 = some (.struct (Try.prog.fieldsOf 36)) := by kernel_rfl
  have hp : Try.prog.stoodInHeld 36 = false := by kernel_rfl
  rw [show (10000 : Nat) = 9999 + 1 from rfl, run_equalIn_agg w 9999 36 _ _ hS hp]
  simp only [Program.fieldsOf, Try.underlying36]
  go_simp
  by_cases ha : ((((a, b, c), d, e, f) : Ev) = ((a', b', c'), d', e', f')) <;> by_cases hs : s = s' <;> simp_all
theorem itNe (x y : It) (w : World) : (binOp .neq 36 (ItV x) (ItV y)).run Try.prog w = .ok (.bool (!(decide (x = y)))) w := by
  rw [run_neq_struct, itEqIn x y w]
  rfl
theorem itEq (x y : It) (w : World) : (binOp .eql 36 (ItV x) (ItV y)).run Try.prog w = .ok (.bool (decide (x = y))) w := by
  rw [run_eql_struct, itEqIn x y w]
  rfl
theorem itGuard : Try.prog.eqGuardType Try.prog.depth 36 = false := by kernel_rfl
theorem keyNe (a b c x y z : Int) (w : World) : (binOp .neq 32 (.agg #[.int .i64 a, .int .i64 b, .int .i64 c]) (.agg #[.int .i64 x, .int .i64 y, .int .i64 z])).run Try.prog w = .ok (.bool (!(decide (((a, b, c) : Ky) = (x, y, z))))) w := by
  rw [run_neq_struct, show (10000 : Nat) = 9998 + 1 + 1 from rfl, keyEqIn 9998 a b c x y z w]
  rfl

set_option maxHeartbeats 1000000 in
theorem rlt_any (x y : It) (w : World) : Calls Try.prog 20 #[ItV x, ItV y] w (GrewB (iLt x y) w) := by
  obtain ⟨⟨⟨a, b, c⟩, d, e, f⟩, s⟩ := x
  obtain ⟨⟨⟨a', b', c'⟩, d', e', f'⟩, s'⟩ := y
  have he := keyNe a b c a' b' c'
  have hgd := fun (op : BinOp) (x y : Operand) (xs ys : Array Value) (w : World) => run_eqGuard_agg (P := Try.prog) w op 32 x y xs ys keyGuard
  obtain ⟨t, ht⟩ : ∃ t, t = kLt (a, b, c) (a', b', c') := ⟨_, rfl⟩
  have HT := Lib.hid ht
  clear ht
  by_cases h1 : ((a, b, c) : Ky) = (a', b', c')
  · have H1 := Lib.hid h1
    have he' : ∀ w, (binOp .neq 32 (.agg #[.int .i64 a, .int .i64 b, .int .i64 c]) (.agg #[.int .i64 a', .int .i64 b', .int .i64 c'])).run Try.prog w = .ok (.bool false) w := fun w => by rw [he, decide_eq_true H1.out]; rfl
    clear h1 he
    go_enter Try.func20, Try.ntmps20
    go_wp2
    go_ret
    refine ⟨?_, grew2 _ _ _⟩
    have e1 : a = a' := congrArg (·.1) H1.out
    have e2 : b = b' := congrArg (·.2.1) H1.out
    have e3 : c = c' := congrArg (·.2.2) H1.out
    subst e1 e2 e3
    unfold iLt
    simp [kLt_swo.irrefl]
  · have H1 := Lib.hid h1
    have he' : ∀ w, (binOp .neq 32 (.agg #[.int .i64 a, .int .i64 b, .int .i64 c]) (.agg #[.int .i64 a', .int .i64 b', .int .i64 c'])).run Try.prog w = .ok (.bool true) w := fun w => by rw [he, decide_eq_false H1.out]; rfl
    clear h1 he
    go_enter Try.func20, Try.ntmps20
    go_wp2_with (go_at_call 38; refine (rless_any a b c a' b' c' _).mono ?_; rintro e w1 ⟨rfl, h⟩; rw [← HT.out]; have HG := Lib.hid h; clear h)
    go_ret
    refine ⟨?_, grew_trans (grew2 _ _ _) HG.out⟩
    rw [HT.out]
    unfold iLt
    have := H1.out
    simp [this]
end Go.Proofs.Ytgfoagpmkbdciaa
