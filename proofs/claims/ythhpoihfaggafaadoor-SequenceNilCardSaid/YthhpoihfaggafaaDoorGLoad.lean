/-
  Structs loaded from wherever they lie, for any program.
-/
import Derived.Test.YthhpoihfaggafaaDoorGMem
namespace Go.Proofs.YthhpoihfaggafaaDoor
open Go Go.RowKit Go.Sort Go.Proofs

section
variable {P : Program} {α : Type} {C : Cod α}
theorem run_loadVar_cell (w : World) (B o : Nat) (ty : TypeId) (y : α) (cs : Array Value) (d : TypeDesc) (hc : C.Cell w B o y) (hcs : cs = (C.enc y).toArray) (hu : P.underlying ty = some d) (hd : (match d with | .struct _ | .array _ _ => true | _ => false) = true) (hi : (P.info? ty).map (·.size) = some C.k) :
    (loadVar ty ⟨B, o, none⟩).run P w = .ok (.agg cs) w := by
  have hl : (loadCells ⟨B, o, none⟩ (C.enc y).length).run P w = .ok (C.enc y).toArray w :=
    run_loadCells_list (P := P) w ⟨B, o, none⟩ (C.enc y) (fun j v hv => by
      have hlt : j < C.k := by have := (List.getElem?_eq_some_iff.1 hv).1; rwa [C.len] at this
      have := hc j hlt
      rw [hv] at this
      rw [Addr.add_lit]
      exact this)
  cases hq : P.info? ty with
  | none => simp [hq] at hi
  | some i =>
    have hs : i.size = C.k := by simpa [hq] using hi
    have hagg : (isAgg ty).run P w = .ok true w := by
      unfold isAgg
      rw [Sem.run_bind, run_underlying hu w]
      cases d <;> simp_all
    rw [C.len] at hl
    simp [loadVar, Sem.run_bind, hagg, sizeOf, typeInfo, hq, hs, hl, hcs]
theorem wp_load_cell {o : Oper} {a : Act} {w : World} {K : Act → World → Prop} {Q : Exit → Act → World → Prop} (ty : TypeId) (x : Operand) (ho : o.op = .load ty x)
    (B f : Nat) (hx : a.eval x = .pointer (some ⟨B, f, none⟩)) (y : α) (cs : Array Value) (d : TypeDesc) (hc : C.Cell w B f y) (hcs : cs = (C.enc y).toArray)
    (hu : P.underlying ty = some d) (hd : (match d with | .struct _ | .array _ _ => true | _ => false) = true) (hi : (P.info? ty).map (·.size) = some C.k)
    (h : K (a.put o.dst (.agg cs)) w) : o.wp P a w K Q := by
  unfold Oper.wp execOp
  simp only [ho, hx, Instr.loadAt, Instr.sureAddr, Sem.run_bind, Sem.run_pure, Result.andThen_ok, run_loadVar_cell w B f ty y cs d hc hcs hu hd hi]
  exact h
theorem wpList_load_cell {ops : Array Oper} {rest : List Oper} {o : Oper} {a : Act} {w : World} {Q : Exit → Act → World → Prop} (hw : Region.wanted o (yielded ops a.tmps) = true) (ty : TypeId) (x : Operand) (ho : o.op = .load ty x)
    (B f : Nat) (hx : a.eval x = .pointer (some ⟨B, f, none⟩)) (y : α) (cs : Array Value) (d : TypeDesc) (hc : C.Cell w B f y) (hcs : cs = (C.enc y).toArray)
    (hu : P.underlying ty = some d) (hd : (match d with | .struct _ | .array _ _ => true | _ => false) = true) (hi : (P.info? ty).map (·.size) = some C.k)
    (h : wpList P ops Q rest (a.put o.dst (.agg cs)) w) : wpList P ops Q (o :: rest) a w :=
  wpList_step fun K hK => by rw [if_pos hw]; exact wp_load_cell ty x ho B f hx y cs d hc hcs hu hd hi (hK _ _ h)
end
end Go.Proofs.YthhpoihfaggafaaDoor
