/-
  Regions that draw, walked by hand: stores; a value under another name.
-/
import Derived.Test.YtnafeppljnjbeaaKN
import Derived.OrdersHeld
import Derived.Deep.Cut
namespace Go.Proofs.Ytnafeppljnjbeaa
open Go Go.RowKit Go.Sort Go.Proofs

/-- the lexical walk, shut against unfolding -/
structure WQ (P : Program) (ops : Array Oper) (C : World → Prop) (Q : Act → Prop) (l : List Oper) (a : Act) : Prop where
  out : wpQuiet P ops C Q l a
theorem WQ.skip {P : Program} {ops : Array Oper} {C : World → Prop} {Q : Act → Prop} {a : Act} {o : Oper} {rest : List Oper} (hw : Region.wanted o (yielded ops a.tmps) = false) (h : WQ P ops C Q rest (a.put o.dst undef)) : WQ P ops C Q (o :: rest) a := by
  refine ⟨?_⟩
  unfold wpQuiet
  rw [hw]
  exact h.out
theorem WQ.take {P : Program} {ops : Array Oper} {C : World → Prop} {Q : Act → Prop} {a : Act} {o : Oper} {rest : List Oper} (v : Value) (hw : Region.wanted o (yielded ops a.tmps) = true) (hy : ∀ W, C W → o.quietAt P a C W v) (h : WQ P ops C Q rest (a.put o.dst v)) : WQ P ops C Q (o :: rest) a := by
  refine ⟨?_⟩
  unfold wpQuiet
  rw [hw]
  exact ⟨v, hy, h.out⟩
theorem WQ.step {P : Program} {ops : Array Oper} {C : World → Prop} {Q : Act → Prop} {a : Act} {o : Oper} {rest : List Oper}
    (h : ∀ K : Act → Prop, (∀ a, WQ P ops C Q rest a → K a) → if Region.wanted o (yielded ops a.tmps) then o.quiet P a C K else K (a.put o.dst undef)) : WQ P ops C Q (o :: rest) a := by
  refine ⟨wpQuiet_step fun K hK => ?_⟩
  exact h K fun a ha => hK a ha.out
theorem WQ.nil {P : Program} {ops : Array Oper} {C : World → Prop} {Q : Act → Prop} {a : Act} (h : Q a) : WQ P ops C Q [] a := ⟨h⟩
theorem wp_region_class {P : Program} {C : World → Prop} {id : Nat} {Q : Exit → Act → World → Prop} {a : Act} {w : World} {l : List Oper} (hm : P.follows .mixedOrders = true) (hB : Region.lexB .any l.toArray = true) (hC : C w.drew)
    (h : WQ P l.toArray C (fun a' => ∀ w', C w' → Q .normal a' w') l a) : (Code.region id l.toArray true).wp P Q a w :=
  wp_region_quiet (C := C) hm hB hC (by simpa using h.out)
/-- a struct is loaded -/
theorem q_load {P : Program} {C : World → Prop} {o : Oper} {a : Act} {W : World} (ty : TypeId) (x : Operand) (ho : o.op = .load ty x) (g : Nat) (hx : a.eval x = .pointer (some ⟨g, 0, none⟩)) (t : TypeId) (cs : Array Value) (fr : Nat × Nat) (d : TypeDesc) (hg : W.heap[g]? = some (.cells cs t fr))
    (hu : P.underlying ty = some d) (hd : (match d with | .struct _ | .array _ _ => true | _ => false) = true) (hi : (P.info? ty).map (·.size) = some cs.size) : o.quietAt P a C W (.agg cs) := by
  unfold Oper.quietAt execOp
  simp only [ho, hx, Instr.loadAt, Instr.sureAddr, Sem.run_bind, Sem.run_pure, Result.andThen_ok, run_loadVar_row W g t ty cs fr d hg hu hd hi]
  exact ⟨rfl, rfl⟩
/-- what stands in memory all along -/
structure Stand (w1 : World) (B : Nat) (cs : Array Value) (T : TypeId) : Prop where
  h : w1.heap[B]? = some (.cells cs T (0, 0))
theorem Stand.at_ {w1 W : World} {B : Nat} {cs : Array Value} {T : TypeId} (h : Stand w1 B cs T) (hb : Hid (Below w1.heap.size w1 W)) : W.heap[B]? = some (.cells cs T (0, 0)) := (hb.out.block _ (Array.getElem?_eq_some_iff.1 h.h).1).trans h.h
theorem q_call {w1 W : World} {P : Program} {f : FuncId} {args : Array Value} {v : Value} (hW : Hid (Below w1.heap.size w1 W)) (h : Calls P f args W (fun e w' => e = .returned v ∧ Below W.heap.size W w')) : Calls P f args W (fun e w' => e = .returned v ∧ Hid (Below w1.heap.size w1 w')) :=
  h.mono fun _ _ ⟨h1, h2⟩ => ⟨h1, Lib.hid (hW.out.trans (h2.mono hW.out.size))⟩
theorem q_enter {P : Program} {C : World → Prop} {o : Oper} {a : Act} {W : World} {v : Value} {f : FuncId} {args : Array Value} (h1 : (execOp a.eval o).run P W = .ok (.enter f args) W) (h2 : Calls P f args W (fun e w' => e = .returned v ∧ C w')) : o.quietAt P a C W v := by
  unfold Oper.quietAt
  rw [h1]
  exact ⟨rfl, h2⟩
end Go.Proofs.Ytnafeppljnjbeaa
namespace Go.Proofs.Ytnafeppljnjbeaa
open Go Go.RowKit Go.Sort Go.Proofs

section
variable {P : Program} {md : Region.Mode} {ops : Array Oper} {Q : Exit → Act → World → Prop} {S : World → Prop}
theorem y_on {o : Oper} {v : Value} {a : Act} (hw : Region.wanted o (yielded ops a.tmps) = true) (h : ∀ W, S W → (execOp a.eval o).run P W = .ok (.value v) W) : YieldsIf P ops S o v a := .inl ⟨hw, h⟩
theorem y_load {o : Oper} {a : Act} (hw : Region.wanted o (yielded ops a.tmps) = true) (ty : TypeId) (x : Operand) (ho : o.op = .load ty x) (g : Nat) (hx : a.eval x = .pointer (some ⟨g, 0, none⟩)) (t : TypeId) (cs : Array Value) (d : TypeDesc) (hg : ∀ W, S W → W.heap[g]? = some (.cells cs t (0, 0)))
    (hu : P.underlying ty = some d) (hd : (match d with | .struct _ | .array _ _ => true | _ => false) = true) (hi : (P.info? ty).map (·.size) = some cs.size) : YieldsIf P ops S o (.agg cs) a :=
  .inl ⟨hw, fun W hW => by
    unfold execOp
    simp only [ho, hx, Instr.loadAt, Instr.sureAddr, Sem.run_bind, Sem.run_pure, Result.andThen_ok, run_loadVar_row W g t ty cs (0, 0) d (hg W hW) hu hd hi]⟩
theorem held_call {i : Nat} {o : Oper} {fuel : Nat} {listed : Array Bool} {a : Act} {w : World} (L : Array Bool) (hL : listed = L) (hr : Region.ready md ops L = [i]) (ho : ops[i]? = some o)
    (h : ∀ K : Act → World → Prop, (∀ a w, S w → wpAnyH P md ops Q S fuel (L.setIfInBounds i true) a w → K a w) → if Region.wanted o (yielded ops a.tmps) = true then Oper.wp P o a w K Q else K (a.put o.dst undef) w) : wpAnyH P md ops Q S (fuel + 1) listed a w := by
  subst hL
  exact wpAnyH_all hr (by simp) fun j hj => by
    obtain rfl : j = i := by simpa using hj
    exact wpOp_step ho fun K hK => h K fun a w h1 h2 => hK a w ⟨h1, h2⟩
/-- a call, whatever it answers -/
theorem held_enter {o : Oper} {a : Act} {w : World} {K : Act → World → Prop} {E : Prop} {f : FuncId} {args : Array Value} (hw : Region.wanted o (yielded ops a.tmps) = true) (h1 : (execOp a.eval o).run P w = .ok (.enter f args) w) {X : Value → World → Prop}
    (h2 : Calls P f args w (fun e w' => ∃ v, e = .returned v ∧ X v w')) (hK : ∀ v w', X v w' → K (a.put o.dst v) w') : if Region.wanted o (yielded ops a.tmps) = true then Oper.wp P o a w K Q else E := by
  rw [if_pos hw]
  unfold Oper.wp
  rw [h1]
  refine h2.mono ?_
  rintro e w' ⟨v, rfl, hx⟩
  exact hK v w' hx
/-- both at once: no letter for what follows -/
theorem held_go {i : Nat} {o : Oper} {fuel : Nat} {listed : Array Bool} {a : Act} {w : World} {f : FuncId} {args : Array Value} (L : Array Bool) (hL : listed = L) (hr : Region.ready md ops L = [i]) (ho : ops[i]? = some o) (hw : Region.wanted o (yielded ops a.tmps) = true)
    (h1 : (execOp a.eval o).run P w = .ok (.enter f args) w) {X : Value → World → Prop} (h2 : Calls P f args w (fun e w' => ∃ v, e = .returned v ∧ X v w')) (hK : ∀ v w', X v w' → S w' ∧ wpAnyH P md ops Q S fuel (L.setIfInBounds i true) (a.put o.dst v) w') : wpAnyH P md ops Q S (fuel + 1) listed a w :=
  held_call L hL hr ho fun _ hk => held_enter hw h1 h2 fun v w' hx => hk _ _ (hK v w' hx).1 (hK v w' hx).2
/-- an operation that yields in the world at hand -/
theorem held_val {i : Nat} {o : Oper} {fuel : Nat} {listed : Array Bool} {a : Act} {w : World} {v : Value} (L : Array Bool) (hL : listed = L) (hr : Region.ready md ops L = [i]) (ho : ops[i]? = some o) (hw : Region.wanted o (yielded ops a.tmps) = true)
    (h1 : (execOp a.eval o).run P w = .ok (.value v) w) (hS : S w) (hK : wpAnyH P md ops Q S fuel (L.setIfInBounds i true) (a.put o.dst v) w) : wpAnyH P md ops Q S (fuel + 1) listed a w :=
  held_call L hL hr ho fun _ hk => by
    rw [if_pos hw]
    unfold Oper.wp
    rw [h1]
    exact hk _ _ hS hK
end
end Go.Proofs.Ytnafeppljnjbeaa
namespace Go.Proofs.Ytnafeppljnjbeaa
open Go Go.RowKit Go.Sort Go.Proofs

section
variable {P : Program} {md : Region.Mode} {ops : Array Oper} {Q : Exit → Act → World → Prop} {S : World → Prop}
theorem exec_conv {o : Oper} {v u : Value} {a : Act} {W : World} (A B : TypeId) (x : Operand) (ho : o.op = .convert A B x) (hx : a.eval x = u) (hr : (convert A B u).run P W = .ok v W) : (execOp a.eval o).run P W = .ok (.value v) W := by
  unfold execOp
  simp only [ho, hx, Sem.run_bind, Sem.run_pure, Result.andThen_ok, hr]
theorem y_conv {o : Oper} {v u : Value} {a : Act} (hw : Region.wanted o (yielded ops a.tmps) = true) (A B : TypeId) (x : Operand) (ho : o.op = .convert A B x) (hx : a.eval x = u) (hr : ∀ W, S W → (convert A B u).run P W = .ok v W) : YieldsIf P ops S o v a :=
  .inl ⟨hw, fun W hW => exec_conv A B x ho hx (hr W hW)⟩
end
end Go.Proofs.Ytnafeppljnjbeaa
namespace Go.Proofs.Ytnafeppljnjbeaa
open Go Go.RowKit Go.Sort Go.Proofs

section
variable {P : Program} {md : Region.Mode} {ops : Array Oper} {Q : Exit → Act → World → Prop} {S : World → Prop}
theorem y_as {o : Oper} {v v' : Value} {a : Act} (hv : v = v') (h : YieldsIf P ops S o v' a) : YieldsIf P ops S o v a := hv ▸ h
theorem held_do {i : Nat} {o : Oper} {fuel : Nat} {listed : Array Bool} {a : Act} {w w' : World} (L : Array Bool) (hL : listed = L) (hr : Region.ready md ops L = [i]) (ho : ops[i]? = some o) (hw : Region.wanted o (yielded ops a.tmps) = true)
    (h1 : (execOp a.eval o).run P w = .ok .skip w') (hS : S w') (hK : wpAnyH P md ops Q S fuel (L.setIfInBounds i true) (a.put o.dst undef) w') : wpAnyH P md ops Q S (fuel + 1) listed a w :=
  held_call L hL hr ho fun _ hk => by
    rw [if_pos hw]
    unfold Oper.wp
    rw [h1]
    exact hk _ _ hS hK
end
/-- the last statement of a way may be cut around too -/
theorem wp_last {P : Program} {s : Code} {Q : Exit → Act → World → Prop} {a : Act} {w : World} (h : ∀ K9 : Act → World → Prop, (∀ a' w', Q .normal a' w' → K9 a' w') → s.wp P (Exit.then K9 Q) a w) : s.wp P Q a w :=
  wp_mono (h (fun a w => Q .normal a w) (fun _ _ q => q)) fun e a' w' hq => by cases e <;> exact hq
end Go.Proofs.Ytnafeppljnjbeaa
