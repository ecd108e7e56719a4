/-
  A row of the call's own is appended to another one; for any program.
-/
import Derived.Test.YtfchfhkhflghbaaGRow
namespace Go.Proofs.Ytfchfhkhflghbaa
open Go Go.RowKit Go.Sort Go.Proofs

section
variable {α : Type} {P : Program} {C : Cod α} {S T : TypeId} {bytes : Nat}
/-- a row of the call's own, appended -/
theorem RowT.run_own (R : RowT P C S T bytes) (w : World) (ty : TypeId) (base b2 : Nat) (v v2 : Value) (l t : List α) (hown : C.Own T base w v l) (hown2 : C.Own T b2 w v2 t) (hsz : l.length + t.length ≤ 100000000) (hby : (l.length + t.length) * bytes ≤ 140737488355328) (hb : base ≤ w.heap.size) :
    ∃ v' w', (Builtin.append_ #[S, S] ty #[v, v2]).run P w = .ok v' w' ∧ C.Own T base w' v' (l ++ t) ∧ w.grownBy w' v.ownBlock ∧ NewOr w v v' := by
  have h2 : w.ownsRow b2 T C.k v2 t.length (C.cells t) := hown2
  rcases hown2.2 with ⟨rfl, h0⟩ | ⟨g, cap, cur, rfl, hbg, hg, hnc, hcm, hcs, htake⟩
  · obtain rfl := List.eq_nil_of_length_eq_zero h0
    refine ⟨v, w, R.run_none w ty base v l hown, by rw [List.append_nil]; exact hown, ⟨rfl, rfl, rfl, Nat.le_refl _, fun _ _ _ => rfl⟩, fun g hg => .inl hg, fun e => e⟩
  · exact R.run w ty base v l hown ⟨g, 0, none⟩ t.length cap t rfl (h2.cells (g := g) rfl) hsz hby hb
theorem RowT.step_own (R : RowT P C S T bytes) {ops : Array Oper} {o : Oper} {a : Act} {w : World} {K : Act → World → Prop} {Q : Exit → Act → World → Prop} {E : Prop} (hgd : o.guard = none) (s x : Operand)
    (ho : o.op = .call { callee := .builtin .append, args := #[s, x], argTypes := #[S, S] })
    (base b2 : Nat) (v v2 : Value) (l t : List α) (hs : a.eval s = v) (hown : C.Own T base w v l) (hx : a.eval x = v2) (hown2 : C.Own T b2 w v2 t)
    (hsz : l.length + t.length ≤ 100000000) (hby : (l.length + t.length) * bytes ≤ 140737488355328) (hb : base ≤ w.heap.size) (h : ∀ v' w', C.Own T base w' v' (l ++ t) → w.grownBy w' v.ownBlock → NewOr w v v' → K (a.put o.dst v') w') :
    if Region.wanted o (yielded ops a.tmps) = true then Oper.wp P o a w K Q else E := by
  have hw : Region.wanted o (yielded ops a.tmps) = true := by simp [Region.wanted, hgd]
  rw [if_pos hw]
  obtain ⟨v', w', hr, h2, h3, h4⟩ := R.run_own w o.type base b2 v v2 l t hown hown2 hsz hby hb
  unfold Oper.wp execOp
  simp only [ho, resolve, invoke, builtin, Sem.run_bind, Sem.run_pure, Result.andThen_ok, List.map_toArray, List.map_cons, List.map_nil, hs, hx, hr]
  exact h v' w' h2 h3 h4
theorem RowT.list_own (R : RowT P C S T bytes) {ops : Array Oper} {rest : List Oper} {o : Oper} {a : Act} {w : World} {Q : Exit → Act → World → Prop} (hgd : o.guard = none) (s x : Operand)
    (ho : o.op = .call { callee := .builtin .append, args := #[s, x], argTypes := #[S, S] })
    (base b2 : Nat) (v v2 : Value) (l t : List α) (hs : a.eval s = v) (hown : C.Own T base w v l) (hx : a.eval x = v2) (hown2 : C.Own T b2 w v2 t)
    (hsz : l.length + t.length ≤ 100000000) (hby : (l.length + t.length) * bytes ≤ 140737488355328) (hb : base ≤ w.heap.size) (h : ∀ v' w', C.Own T base w' v' (l ++ t) → w.grownBy w' v.ownBlock → NewOr w v v' → wpList P ops Q rest (a.put o.dst v') w') : wpList P ops Q (o :: rest) a w :=
  wpList_plain hgd fun _ hK => by
    obtain ⟨v', w', hr, h2, h3, h4⟩ := R.run_own w o.type base b2 v v2 l t hown hown2 hsz hby hb
    unfold Oper.wp execOp
    simp only [ho, resolve, invoke, builtin, Sem.run_bind, Sem.run_pure, Result.andThen_ok, List.map_toArray, List.map_cons, List.map_nil, hs, hx, hr]
    exact hK _ _ (h v' w' h2 h3 h4)
end
end Go.Proofs.Ytfchfhkhflghbaa
