/-
  The walk of the document's Same.
-/
import Derived.Test.YtehnoekbdmclmaaOMayLaw
import Derived.Test.YtehnoekbdmclmaaEvOpen
import Derived.BigQuiet
import Derived.Deep.LoopGhost
namespace Go.Proofs.Ytehnoekbdmclmaa
open Go Go.RowKit Go.Sort Go.Proofs

theorem keyEqIn (a b c x y z : Int) (w : World) : (Op.equalIn 9999 23 (.agg #[.int .i64 a, .int .i64 b, .int .i64 c]) (.agg #[.int .i64 x, .int .i64 y, .int .i64 z])).run Try.prog w = .ok (decide (((a, b, c) : Ky) = (x, y, z))) w := by
  have u3 := Try.underlying3
  have u2 := Try.underlying2
  have a3 := Try.isAgg3
  have a2 := Try.isAgg2
  have z3 := Try.sizeOf3
  have z2 := Try.sizeOf2
  have hS : Try.prog.underlying 23 = some (.struct (Try.prog.fieldsOf 23)) := by kernel_rfl
  have hp : Try.prog.stoodInHeld 23 = false := by kernel_rfl
  rw [show (9999 : Nat) = 9998 + 1 from rfl, run_equalIn_agg w 9998 23 _ _ hS hp]
  simp only [Program.fieldsOf, Try.underlying23]
  go_simp
  by_cases h1 : a = x <;> by_cases h2 : b = y <;> by_cases h3 : c = z <;> simp [h1, h2, h3]
theorem evNe (a b c d e f x y z u v q : Int) (w : World) : (binOp .neq 28 (.agg #[.int .i64 a, .int .i64 b, .int .i64 c, .int .i64 d, .int .i64 e, .int .i64 f]) (.agg #[.int .i64 x, .int .i64 y, .int .i64 z, .int .i64 u, .int .i64 v, .int .i64 q])).run Try.prog w = .ok (.bool (!(decide ((((a, b, c), d, e, f) : Ev) = ((x, y, z), u, v, q))))) w := by
  have u3 := Try.underlying3
  have u2 := Try.underlying2
  have a3 := Try.isAgg3
  have a2 := Try.isAgg2
  have a23 := Try.isAgg23
  have z3 := Try.sizeOf3
  have z2 := Try.sizeOf2
  have z23 := Try.sizeOf23
  have hK := keyEqIn a b c x y z
  have hS : Try.prog.underlying 28 = some (.struct (Try.prog.fieldsOf 28)) := by kernel_rfl
  have hp : Try.prog.stoodInHeld 28 = false := by kernel_rfl
  rw [run_neq_struct, show (10000 : Nat) = 9999 + 1 from rfl, run_equalIn_agg w 9999 28 _ _ hS hp]
  simp only [Program.fieldsOf, Try.underlying28]
  go_simp
  by_cases ha : a = x <;> by_cases hb : b = y <;> by_cases hc : c = z <;> by_cases h1 : d = u <;> by_cases h2 : e = v <;> by_cases h3 : f = q <;> simp [ha, hb, hc, h1, h2, h3]
theorem evGuard : Try.prog.eqGuardType Try.prog.depth 28 = false := by kernel_rfl
theorem take_step {α : Type} (l r : List α) (k : Nat) (x : α) (hl : l[k]? = some x) (hr : r[k]? = some x) (h : l.take k = r.take k) : l.take (k + 1) = r.take (k + 1) := by
  rw [List.take_add_one, List.take_add_one, h, hl, hr]

set_option maxHeartbeats 2000000 in
set_option maxRecDepth 100000 in
theorem same_any (w : World) (a b : Option Addr) (n m c d : Nat) (l r : List Ev) (hl : EvAt w a n l) (hr : EvAt w b m r) :
    Calls Try.prog 16 #[.slice a n c, .slice b m d] w (TellsBB (decide (l = r)) w) := by
  have hnl := hl.1
  have hnr := hr.1
  have hmax := hl.2.1
  have hmax2 := hr.2.1
  by_cases hnm : n = m
  · subst hnm
    obtain ⟨t, ht⟩ : ∃ t, t = decide (l = r) := ⟨_, rfl⟩
    rw [← ht]
    have HT := Lib.hid ht
    have HL := Lib.hid hl
    have HR := Lib.hid hr
    have HNL := Lib.hid hnl
    have HNR := Lib.hid hnr
    clear ht hl hr hnl hnr hmax2
    go_enter Try.func16, Try.ntmps16
    go_wp2
    go_loopg [5] n (fun kx s5 wr => ∃ k : Nat, s5 = .int .i64 k ∧ k ≤ n ∧ n - k ≤ kx ∧ Aside (l.take k = r.take k ∧ Below w.heap.size w wr))
    case atStart => exact ⟨0, rfl, Nat.zero_le _, Nat.le_refl _, ⟨rfl, Below.refl _ _⟩⟩
    case round =>
      obtain ⟨k, rfl, hk, hkx, A⟩ := hrel
      by_cases hlt : k < n
      · obtain ⟨B1, off1, rfl, hB1, ⟨⟨x0, x1, x2⟩, x3, x4, x5⟩, hx, c0, c1, c2, c3, c4, c5⟩ := (HL.out.below A.out.2).cell hlt
        obtain ⟨B2, off2, rfl, hB2, ⟨⟨y0, y1, y2⟩, y3, y4, y5⟩, hy, d0, d1, d2, d3, d4, d5⟩ := (HR.out.below A.out.2).cell hlt
        have HX := Lib.hid hx
        have HY := Lib.hid hy
        clear hx hy
        have hne := evNe x0 x1 x2 x3 x4 x5 y0 y1 y2 y3 y4 y5
        have hgd := fun (op : BinOp) (x y : Operand) (xs ys : Array Value) (w : World) => run_eqGuard_agg (P := Try.prog) w op 28 x y xs ys evGuard
        by_cases he : (((x0, x1, x2), x3, x4, x5) : Ev) = ((y0, y1, y2), y3, y4, y5)
        · have HE := Lib.hid he
          have hne' : ∀ w, (binOp .neq 28 (.agg #[.int .i64 x0, .int .i64 x1, .int .i64 x2, .int .i64 x3, .int .i64 x4, .int .i64 x5]) (.agg #[.int .i64 y0, .int .i64 y1, .int .i64 y2, .int .i64 y3, .int .i64 y4, .int .i64 y5])).run Try.prog w = .ok (.bool false) w := fun w => by rw [hne, decide_eq_true HE.out]; rfl
          clear hne he
          go_wp2
          go_quiet (fail)
          go_wp2
          go_roundg (n - (k + 1))
          case measure => omega
          case rel => exact ⟨k + 1, by go_num, by omega, Nat.le_refl _, ⟨take_step l r k _ HX.out (HE.out ▸ HY.out) A.out.1, ⟨A.out.2.os, A.out.2.tape, A.out.2.output, A.out.2.size, A.out.2.block⟩⟩⟩
        · have HE := Lib.hid he
          have hne' : ∀ w, (binOp .neq 28 (.agg #[.int .i64 x0, .int .i64 x1, .int .i64 x2, .int .i64 x3, .int .i64 x4, .int .i64 x5]) (.agg #[.int .i64 y0, .int .i64 y1, .int .i64 y2, .int .i64 y3, .int .i64 y4, .int .i64 y5])).run Try.prog w = .ok (.bool true) w := fun w => by rw [hne, decide_eq_false HE.out]; rfl
          clear hne he
          go_wp2
          go_quiet (fail)
          go_wp2
          go_ret
          refine ⟨ret_b ?_, ⟨A.out.2.os, A.out.2.tape, A.out.2.output, A.out.2.size, A.out.2.block⟩⟩
          rw [HT.out]
          refine (decide_eq_false fun h => ?_).symm
          have h1 := HX.out
          rw [h, HY.out] at h1
          exact HE.out (Option.some.inj h1).symm
      · go_wp2
        go_ret
        refine ⟨ret_b ?_, A.out.2⟩
        have h := A.out.1
        rw [List.take_of_length_le (by rw [HNL.out]; omega), List.take_of_length_le (by rw [HNR.out]; omega)] at h
        rw [HT.out, decide_eq_true h]
  · rw [decide_eq_false (fun h => hnm (by rw [← hnl, ← hnr, h]))]
    clear hl hr hnl hnr
    have hd : (n != m) = true := by simpa using hnm
    go_enter Try.func16, Try.ntmps16
    go_wp2
    go_ret
    exact ⟨rfl, Below.refl _ _⟩
end Go.Proofs.Ytehnoekbdmclmaa
