/-
  Regions that draw, walked once, step by step: what each operation yields in every world of a class.
-/
import Derived.Test.YtnafeppljnjbeaaKN
namespace Go.Proofs.Ytnafeppljnjbeaa
open Go Go.RowKit Go.Sort Go.Proofs

/-- the lexical walk, shut against unfolding -/
structure WQ (P : Program) (ops : Array Oper) (C : World → Prop) (Q : Act → Prop) (l : List Oper) (a : Act) : Prop where
  out : wpQuiet P ops C Q l a
theorem WQ.skip {P : Program} {ops : Array Oper} {C : World → Prop} {Q : Act → Prop} {a : Act} {o : Oper} {rest : List Oper} (hw : Region.wanted o (yielded ops a.tmps) = false) (h : WQ P ops C Q rest (a.put o.dst undef)) : WQ P ops C Q (o :: rest) a := by
  refine ⟨?_⟩
  unfold wpQuiet
  rw [hw]
  exact h.out
theorem WQ.take {P : Program} {ops : Array Oper} {C : World → Prop} {Q : Act → Prop} {a : Act} {o : Oper} {rest : List Oper} (v : Value) (hw : Region.wanted o (yielded ops a.tmps) = true) (hy : ∀ W, C W → o.quietAt P a C W v) (h : WQ P ops C Q rest (a.put o.dst v)) : WQ P ops C Q (o :: rest) a := by
  refine ⟨?_⟩
  unfold wpQuiet
  rw [hw]
  exact ⟨v, hy, h.out⟩
theorem WQ.step {P : Program} {ops : Array Oper} {C : World → Prop} {Q : Act → Prop} {a : Act} {o : Oper} {rest : List Oper}
    (h : ∀ K : Act → Prop, (∀ a, WQ P ops C Q rest a → K a) → if Region.wanted o (yielded ops a.tmps) then o.quiet P a C K else K (a.put o.dst undef)) : WQ P ops C Q (o :: rest) a := by
  refine ⟨wpQuiet_step fun K hK => ?_⟩
  exact h K fun a ha => hK a ha.out
theorem WQ.nil {P : Program} {ops : Array Oper} {C : World → Prop} {Q : Act → Prop} {a : Act} (h : Q a) : WQ P ops C Q [] a := ⟨h⟩
theorem wp_region_class {P : Program} {C : World → Prop} {id : Nat} {Q : Exit → Act → World → Prop} {a : Act} {w : World} {l : List Oper} (hm : P.follows .mixedOrders = true) (hB : Region.lexB .any l.toArray = true) (hC : C w.drew)
    (h : WQ P l.toArray C (fun a' => ∀ w', C w' → Q .normal a' w') l a) : (Code.region id l.toArray true).wp P Q a w :=
  wp_region_quiet (C := C) hm hB hC (by simpa using h.out)
/-- a struct is loaded -/
theorem q_load {P : Program} {C : World → Prop} {o : Oper} {a : Act} {W : World} (ty : TypeId) (x : Operand) (ho : o.op = .load ty x) (g : Nat) (hx : a.eval x = .pointer (some ⟨g, 0, none⟩)) (t : TypeId) (cs : Array Value) (fr : Nat × Nat) (d : TypeDesc) (hg : W.heap[g]? = some (.cells cs t fr))
    (hu : P.underlying ty = some d) (hd : (match d with | .struct _ | .array _ _ => true | _ => false) = true) (hi : (P.info? ty).map (·.size) = some cs.size) : o.quietAt P a C W (.agg cs) := by
  unfold Oper.quietAt execOp
  simp only [ho, hx, Instr.loadAt, Instr.sureAddr, Sem.run_bind, Sem.run_pure, Result.andThen_ok, run_loadVar_row W g t ty cs fr d hg hu hd hi]
  exact ⟨rfl, rfl⟩
/-- what stands in memory all along -/
structure Stand (w1 : World) (B : Nat) (cs : Array Value) (T : TypeId) : Prop where
  h : w1.heap[B]? = some (.cells cs T (0, 0))
theorem Stand.at_ {w1 W : World} {B : Nat} {cs : Array Value} {T : TypeId} (h : Stand w1 B cs T) (hb : Hid (Below w1.heap.size w1 W)) : W.heap[B]? = some (.cells cs T (0, 0)) := (hb.out.block _ (Array.getElem?_eq_some_iff.1 h.h).1).trans h.h
theorem q_call {w1 W : World} {P : Program} {f : FuncId} {args : Array Value} {v : Value} (hW : Hid (Below w1.heap.size w1 W)) (h : Calls P f args W (fun e w' => e = .returned v ∧ Below W.heap.size W w')) : Calls P f args W (fun e w' => e = .returned v ∧ Hid (Below w1.heap.size w1 w')) :=
  h.mono fun _ _ ⟨h1, h2⟩ => ⟨h1, Lib.hid (hW.out.trans (h2.mono hW.out.size))⟩
theorem q_enter {P : Program} {C : World → Prop} {o : Oper} {a : Act} {W : World} {v : Value} {f : FuncId} {args : Array Value} (h1 : (execOp a.eval o).run P W = .ok (.enter f args) W) (h2 : Calls P f args W (fun e w' => e = .returned v ∧ C w')) : o.quietAt P a C W v := by
  unfold Oper.quietAt
  rw [h1]
  exact ⟨rfl, h2⟩
end Go.Proofs.Ytnafeppljnjbeaa
