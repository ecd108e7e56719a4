/-
  The walk of the law OrderMay.
-/
import Derived.Test.YtehnoekbdmclmaaOMay
namespace Go.Proofs.Ytehnoekbdmclmaa
open Go Go.RowKit Go.Sort Go.Proofs

/-- an event lies boxed at g; what lay stays -/
structure EBox (w : World) (t o s ds kd dt : Int) (W : World) : Prop where
  bel : Below w.heap.size w W
  box : W.heap[w.heap.size]? = some (.cells #[.int .i64 t, .int .i64 o, .int .i64 s, .int .i64 ds, .int .i64 kd, .int .i64 dt] 28)
theorem EBox.mk' (w : World) (t o s ds kd dt : Int) : EBox w t o s ds kd dt (w.alloc (.cells #[.int .i64 t, .int .i64 o, .int .i64 s, .int .i64 ds, .int .i64 kd, .int .i64 dt] 28)) := ⟨(Below.refl _ _).alloc (Nat.le_refl _) _, heap_alloc_new _ _⟩
theorem EBox.next {w W W' : World} {t o s ds kd dt : Int} (h : EBox w t o s ds kd dt W) (hb : Below W.heap.size W W') : EBox w t o s ds kd dt W' := ⟨h.bel.trans (hb.mono h.bel.size), (hb.block _ (heap_lt' h.box)).trans h.box⟩
theorem EBox.drew {w W : World} {t o s ds kd dt : Int} (h : EBox w t o s ds kd dt W) : EBox w t o s ds kd dt W.drew := ⟨h.bel.drew, h.box⟩
theorem EBox.cells {w W : World} {t o s ds kd dt : Int} (h : EBox w t o s ds kd dt W) :
    W.cell? ⟨w.heap.size, 0, none⟩ = some (.int .i64 t) ∧ W.cell? ⟨w.heap.size, 1, none⟩ = some (.int .i64 o) ∧ W.cell? ⟨w.heap.size, 2, none⟩ = some (.int .i64 s) ∧
    W.cell? ⟨w.heap.size, 3, none⟩ = some (.int .i64 ds) ∧ W.cell? ⟨w.heap.size, 4, none⟩ = some (.int .i64 kd) ∧ W.cell? ⟨w.heap.size, 5, none⟩ = some (.int .i64 dt) := by
  refine ⟨?_, ?_, ?_, ?_, ?_, ?_⟩
  all_goals (rw [cell_of_row _ _ _ _ _ _ h.box]; rfl)

theorem inb_b {P : Program} {w0 : World} {f : FuncId} {args : Array Value} {p : InB w0} {t : Bool} (h : Calls P f args p.w (TellsBB t p.w)) : Calls P f args p.w fun e w'' => e = .returned (.bool t) ∧ ∃ q : InB w0, w'' = q.w := Calls.inb h
theorem inb_k {P : Program} {w0 : World} {f : FuncId} {args : Array Value} {p : InB w0} {a b c : Int} (h : Calls P f args p.w (KeyB a b c p.w)) : Calls P f args p.w fun e w'' => e = .returned (.agg #[.int .i64 a, .int .i64 b, .int .i64 c]) ∧ ∃ q : InB w0, w'' = q.w := Calls.inb h
theorem omay_is {t o s ds kd procs : Int} {u : Bool} (h : mayE t o s ds kd procs = u) (dt : Int) (w : World) : Calls Try.prog 13 #[.agg #[.int .i64 t, .int .i64 o, .int .i64 s, .int .i64 ds, .int .i64 kd, .int .i64 dt], .int .i64 procs] w (TellsBB u w) := by
  rw [← h]
  exact omay_any t o s ds kd dt procs w
theorem rless_is {a b c x y z : Int} {u : Bool} (h : kLt (a, b, c) (x, y, z) = u) (w : World) : Calls Try.prog 7 #[.agg #[.int .i64 a, .int .i64 b, .int .i64 c], .agg #[.int .i64 x, .int .i64 y, .int .i64 z]] w (TellsBB u w) := by
  rw [← h]
  exact rless_b a b c x y z w
set_option maxHeartbeats 4000000 in
set_option maxRecDepth 100000 in
theorem may_law (t o s ds kd dt procs : Int) (w : World) : Calls Try.prog 4 #[.agg #[.int .i64 t, .int .i64 o, .int .i64 s, .int .i64 ds, .int .i64 kd, .int .i64 dt], .int .i64 procs] w (TellsBB true w) := by
  have HB := Lib.hid (EBox.mk' w t o s ds kd dt)
  have he := keyEq 1099511627777 0 0 1099511627777 0 0
  have he' : ∀ w, (binOp .eql 23 (.agg #[.int .i64 1099511627777, .int .i64 0, .int .i64 0]) (.agg #[.int .i64 1099511627777, .int .i64 0, .int .i64 0])).run Try.prog w = .ok (.bool true) w := fun w => by rw [he]; rfl
  have hgd := fun (op : BinOp) (x y : Operand) (xs ys : Array Value) (w : World) => run_eqGuard_agg (P := Try.prog) w op 23 x y xs ys keyGuard
  clear he
  rcases hm : mayE t o s ds kd procs with _ | _
  · have HM := Lib.hid hm
    clear hm
    go_enter Try.func4, Try.ntmps4
    go_wp2_with (go_at_call 12; refine (rmay_any _ _ _ _ _ _ _ _).mono ?_; rintro e w1 ⟨rfl, hb⟩; rw [HM.out]; have HB := Lib.hid (HB.out.next hb); clear hb)
    have q0 := fun p : InB w1 => (HB.out.next p.h).cells.1
    have q1 := fun p : InB w1 => (HB.out.next p.h).cells.2.1
    have q2 := fun p : InB w1 => (HB.out.next p.h).cells.2.2.1
    have q3 := fun p : InB w1 => (HB.out.next p.h).cells.2.2.2.1
    have q4 := fun p : InB w1 => (HB.out.next p.h).cells.2.2.2.2.1
    have q5 := fun p : InB w1 => (HB.out.next p.h).cells.2.2.2.2.2
    refine wp_region_below (by kernel_rfl) (by kernel_rfl) ?_
    repeat (refine WQ.step (fun K hK => ?_); go_simp; first | (refine hK _ ?_; clear hK K) | (apply Exists.intro; refine ⟨fun _ => ?_, hK _ ?_⟩; (first | (go_at_call 13; exact inb_b (omay_is HM.out _ _)) | (go_at_call 14; exact inb_k (max_any _)) | (go_at_call 11; exact inb_b (known_any _))); clear hK K))
    refine WQ.nil ?_
    intro _ hw'
    obtain ⟨pq, hw''⟩ := hw'
    subst hw''
    go_wp2
    go_ret
    exact ⟨rfl, (HB.out.next pq.h).bel⟩
  · have HM := Lib.hid hm
    have HK : Hid (kLt (t, o, s) (1099511627777, 0, 0) = true) := by
      show _ = _
      have := of_decide_eq_true hm
      rw [kLt_iff]
      left
      show t < 1099511627777
      omega
    clear hm
    go_enter Try.func4, Try.ntmps4
    go_wp2_with (go_at_call 12; refine (rmay_any _ _ _ _ _ _ _ _).mono ?_; rintro e w1 ⟨rfl, hb⟩; rw [HM.out]; have HB := Lib.hid (HB.out.next hb); clear hb)
    have q0 := fun p : InB w1 => (HB.out.next p.h).cells.1
    have q1 := fun p : InB w1 => (HB.out.next p.h).cells.2.1
    have q2 := fun p : InB w1 => (HB.out.next p.h).cells.2.2.1
    have q3 := fun p : InB w1 => (HB.out.next p.h).cells.2.2.2.1
    have q4 := fun p : InB w1 => (HB.out.next p.h).cells.2.2.2.2.1
    have q5 := fun p : InB w1 => (HB.out.next p.h).cells.2.2.2.2.2
    refine wp_region_below (by kernel_rfl) (by kernel_rfl) ?_
    repeat (refine WQ.step (fun K hK => ?_); go_simp; first | (refine hK _ ?_; clear hK K) | (apply Exists.intro; refine ⟨fun _ => ?_, hK _ ?_⟩; (first | (go_at_call 13; exact inb_b (omay_is HM.out _ _)) | (go_at_call 14; exact inb_k (max_any _)) | (go_at_call 7; exact inb_b (rless_is HK.out _)) | (go_at_call 11; exact inb_b (known_any _))); clear hK K))
    refine WQ.nil ?_
    intro _ hw'
    obtain ⟨pq, hw''⟩ := hw'
    subst hw''
    go_wp2
    go_ret
    exact ⟨rfl, (HB.out.next pq.h).bel⟩
end Go.Proofs.Ytehnoekbdmclmaa
