/-
  The region of the law ModelCopies that copies both, in whatever order; one operation at a time, over any frame.
-/
import Derived.Test.YtclbbpkphfllbaaDoorMoLawG
import Derived.Test.YtclbbpkphfllbaaDoorGInv
import Derived.Laws.Tables
import Derived.Great.Frames
namespace Go.Proofs.YtclbbpkphfllbaaDoor
open Go Go.RowKit Go.Sort Go.Proofs CodM VmM

theorem op_load {P : Program} {o : Oper} {a : Act} {w : World} {K : Act → World → Prop} {Q : Exit → Act → World → Prop} (ty : TypeId) (x : Operand) (ho : o.op = .load ty x) (g : Nat) (hx : a.eval x = .pointer (some ⟨g, 0, none⟩)) (t : TypeId) (cs : Array Value) (d : TypeDesc) (hg : w.heap[g]? = some (.cells cs t (0, 0)))
    (hu : P.underlying ty = some d) (hd : (match d with | .struct _ | .array _ _ => true | _ => false) = true) (hi : (P.info? ty).map (·.size) = some cs.size) (h : K (a.put o.dst (.agg cs)) w) : Oper.wp P o a w K Q := by
  unfold Oper.wp execOp
  simp only [ho, hx, Instr.loadAt, Instr.sureAddr, Sem.run_bind, Sem.run_pure, Result.andThen_ok, run_loadVar_row w g t ty cs (0, 0) d hg hu hd hi]
  exact h
theorem op_store {P : Program} {o : Oper} {a : Act} {w : World} {K : Act → World → Prop} {Q : Exit → Act → World → Prop} (ty : TypeId) (x y : Operand) (ho : o.op = .store ty x y) (hn : o.dst = none) (g : Nat) (hx : a.eval x = .pointer (some ⟨g, 0, none⟩)) (t : TypeId) (old cs : Array Value) (hy : a.eval y = .agg cs) (hg : w.heap[g]? = some (.cells old t (0, 0)))
    (hi : (P.info? ty).map (·.size) = some cs.size) (hs : old.size = cs.size) (h1 : cs.all (·.oneCell') = true) (h : K a (w.setRow g cs)) : Oper.wp P o a w K Q := by
  unfold Oper.wp execOp
  simp only [ho, hx, hy, Instr.storeAt, Instr.sureAddr, Sem.run_bind, Sem.run_pure, Result.andThen_ok, run_storeVar_row w g t ty old cs hg hi hs h1]
  show K (a.put o.dst undef) (w.setRow g cs)
  rw [hn]
  exact h
theorem op_alloc {P : Program} {o : Oper} {a : Act} {w : World} {K : Act → World → Prop} {Q : Exit → Act → World → Prop} (ty : TypeId) (ho : o.op = .alloc ty) (b : Obj) (hz : (Instr.alloc ty true (.tuple #[])).run P w = .ok (.pointer (some ⟨w.heap.size, 0, none⟩)) (w.alloc b))
    (h : K (a.put o.dst (.pointer (some ⟨w.heap.size, 0, none⟩))) (w.alloc b)) : Oper.wp P o a w K Q := by
  unfold Oper.wp execOp
  simp only [ho, Sem.run_bind, Sem.run_pure, Result.andThen_ok, hz]
  exact h
theorem op_call {P : Program} {o : Oper} {a : Act} {w : World} {K : Act → World → Prop} {Q : Exit → Act → World → Prop} (f : FuncId) (v : Value) (h1 : (execOp a.eval o).run P w = .ok (.enter f #[v]) w) {X : Value → World → Prop}
    (h2 : Calls P f #[v] w (fun e w' => ∃ u, e = .returned u ∧ X u w')) (h : ∀ u w', X u w' → K (a.put o.dst u) w') : Oper.wp P o a w K Q := by
  unfold Oper.wp
  rw [h1]
  refine h2.mono ?_
  rintro e w' ⟨u, rfl, hx⟩
  exact h u w' hx
theorem alloc_mo (w : World) : (Instr.alloc 27 true (.tuple #[])).run Tryd.prog w = .ok (.pointer (some ⟨w.heap.size, 0, none⟩)) (w.alloc (.cells #[.slice none 0 0, .slice none 0 0] 27)) := by
  go_simp
theorem alloc_st (w : World) : (Instr.alloc 38 true (.tuple #[])).run Tryd.prog w = .ok (.pointer (some ⟨w.heap.size, 0, none⟩)) (w.alloc (.cells #[.slice none 0 0, .int .i64 0, .int .i64 0] 38)) := by
  go_simp
/-- frames that differ in the slots of D at most -/
structure Ag (D : List Nat) (a0 a : Act) : Prop where
  size : a.tmps.size = a0.tmps.size
  defers : a.defers = a0.defers
  same : ∀ t, t ∉ D → a.tmps[t]? = a0.tmps[t]?
theorem Ag.refl (D : List Nat) (a : Act) : Ag D a a := ⟨rfl, rfl, fun _ _ => rfl⟩
theorem Ag.put {D : List Nat} {a0 a : Act} (h : Ag D a0 a) {d : Nat} (hd : d ∈ D) (v : Value) : Ag D a0 (a.put (some d) v) :=
  ⟨(Act.size_put ..).trans h.size, (Act.defers_put' ..).trans h.defers, fun t ht => by
    have hne : d ≠ t := fun e => ht (e ▸ hd)
    have := h.same t ht
    simp only [Act.put]
    rw [Array.getElem?_setIfInBounds_ne hne]
    exact this⟩
theorem Ag.eval {D : List Nat} {a0 a : Act} (h : Ag D a0 a) {t : Nat} (ht : t ∉ D) : a.eval (.tmp t) = a0.eval (.tmp t) := by
  have := h.same t ht
  simp only [Act.eval, Array.getD_eq_getD_getElem?, this]
/-- every step of the region keeps what is not of the boxes' types -/
structure Nx (w w' : World) : Prop where
  size : w.heap.size ≤ w'.heap.size
  row : ∀ (b : Nat) (cur : Array Value) (t : TypeId), t ≠ 27 → t ≠ 38 → w.heap[b]? = some (.cells cur t (0, 0)) → w'.heap[b]? = some (.cells cur t (0, 0))
theorem Nx.below {w w' : World} (h : Below w.heap.size w w') : Nx w w' := ⟨h.size, fun b _ _ _ _ hb => (h.block b (heap_lt hb)).trans hb⟩
theorem Nx.set {w : World} {g : Nat} {old : Array Value} {t : TypeId} (hg : w.heap[g]? = some (.cells old t (0, 0))) (ht : t = 27 ∨ t = 38) (cs : Array Value) : Nx w (w.setRow g cs) :=
  ⟨by simp, fun b cur u h1 h2 hb => (setRow_other w g b cs fun e => by
    subst e
    rw [hg] at hb
    cases hb
    rcases ht with rfl | rfl
    · exact h1 rfl
    · exact h2 rfl).trans hb⟩
theorem Nx.own {α : Type} {C : Cod α} {T : TypeId} {B : Nat} {w w' : World} {v : Value} {l : List α} (h : Nx w w') (h1 : T ≠ 27) (h2 : T ≠ 38) (ho : C.Own T B w v l) : C.Own T B w' v l := by
  refine ⟨ho.1, ?_⟩
  rcases ho.2 with h3 | ⟨g, cap, cur, e, hg, hh, rest⟩
  · exact .inl h3
  · exact .inr ⟨g, cap, cur, e, hg, h.row _ _ _ h1 h2 hh, rest⟩
theorem Nx.ins {B : Nat} {w w' : World} {a : Option Addr} {n : Nat} {l : List Ins} (h : Nx w w') (ho : InsOwn B w a n l) : InsOwn B w' a n l :=
  ho.keep (X := w.heap.size) ⟨h.size, fun k cur t ht _ hh => h.row k cur t (by rcases ht with rfl | rfl <;> decide) (by rcases ht with rfl | rfl <;> decide) hh⟩ (fun cur e => by have := heap_lt e; omega)
theorem Nx.cop {B : Nat} {w w' : World} {a : Option Addr} {n : Nat} {ks : List (List Ins)} (h : Nx w w') (ho : Cop B w a n ks) : Cop B w' a n ks := by
  refine ⟨ho.1, ?_⟩
  rcases ho.2 with h2 | ⟨G, cur, rfl, hG, hh, hc⟩
  · exact .inl h2
  · refine .inr ⟨G, cur, rfl, hG, h.row _ _ _ (by decide) (by decide) hh, fun i hi => ?_⟩
    obtain ⟨a', n', c', e1, e2, e3⟩ := hc i hi
    exact ⟨a', n', c', e1, e2, h.ins e3⟩
theorem Nx.cops {B : Nat} {w w' : World} {a : Option Addr} {n : Nat} {l : List Pm} (h : Nx w w') (ho : CopPs B w a n l) : CopPs B w' a n l := by
  obtain ⟨h1, h2 | ⟨G, cur, rfl, hG, hh, hc⟩⟩ := ho
  · exact ⟨h1, .inl h2⟩
  · refine ⟨h1, .inr ⟨G, cur, rfl, hG, h.row _ _ _ (by decide) (by decide) hh, fun i x hx => ?_⟩⟩
    obtain ⟨a, n, c, va, vc, c0, c1, c2, c3, h4, h5, h6⟩ := hc i x hx
    exact ⟨a, n, c, va, vc, c0, c1, c2, c3, h4, h.cop h5, h.own (by decide) (by decide) h6⟩
end Go.Proofs.YtclbbpkphfllbaaDoor
