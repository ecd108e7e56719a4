/-
  append to a row of structs of the call's own, with the place of what it makes: as a run, in a walk, as one step of a region that draws.
-/
import Derived.Test.YthhpoihfaggafaaDoorGMem
namespace Go.Proofs.YthhpoihfaggafaaDoor
open Go Go.RowKit Go.Sort Go.Proofs

theorem info_of {P : Program} {T : TypeId} {z : Option Value} {k bytes : Nat} (h : (P.info? T).map (fun i => (i.zero, i.size, i.bytes)) = some (z, k, bytes)) : ∃ i, P.info? T = some i ∧ i.zero = z ∧ i.size = k ∧ i.bytes = bytes := by
  cases e : P.info? T with
  | none => rw [e] at h; cases h
  | some i =>
    rw [e] at h
    simp only [Option.map_some, Option.some.injEq, Prod.mk.injEq] at h
    exact ⟨i, rfl, h.1, h.2.1, h.2.2⟩
/-- S is the type of slices of T, whose values lie as C says -/
structure RowT {α : Type} (P : Program) (C : Cod α) (S T : TypeId) (bytes : Nat) : Prop where
  slice : P.underlying S = some (.slice T)
  info : ∃ z : Value, (P.info? T).map (fun i => (i.zero, i.size, i.bytes)) = some (some z, C.k, bytes) ∧ z.cells.size = C.k

/-- its block, if it has one, is an old one's or a new one -/
def NewOr (w : World) (v v' : Value) : Prop := (∀ g, v'.ownBlock = some g → v.ownBlock = some g ∨ w.heap.size ≤ g) ∧ (v' = .slice none 0 0 → v = .slice none 0 0)

section
variable {α : Type} {P : Program} {C : Cod α} {S T : TypeId} {bytes : Nat}
theorem RowT.run (R : RowT P C S T bytes) (w : World) (ty : TypeId) (base : Nat) (v : Value) (l : List α) (hown : C.Own T base w v l) (ad : Addr) (m c : Nat) (s : List α) (hm : m = s.length) (hs : ∀ j u, (C.cells s)[j]? = some u → w.cell? (ad.add j) = some u) (hsz : l.length + m ≤ 100000000) (hby : (l.length + m) * bytes ≤ 140737488355328) (hb : base ≤ w.heap.size) :
    ∃ v' w', (Builtin.append_ #[S, S] ty #[v, .slice (some ad) m c]).run P w = .ok v' w' ∧ C.Own T base w' v' (l ++ s) ∧ w.grownBy w' v.ownBlock ∧ NewOr w v v' := by
  obtain ⟨z, hz, hzs⟩ := R.info
  obtain ⟨i, hi, hz0, hz1, hz2⟩ := info_of hz
  have hu := R.slice
  have hl : (C.cells s).length = m * C.k := by rw [C.cells_len, hm]
  have h63 : l.length + m ≤ maxLen := by unfold maxLen; omega
  have hown' : w.ownsRow base T C.k v l.length (C.cells l) := hown
  obtain ⟨v', w', hr, h2, h3, h4⟩ := run_append_own (P := P) w base S ty T i z C.k bytes hu hi hz0 hz1 hz2 hzs C.pos v l.length (C.cells l) hown' ad m c (C.cells s) hl hs (C.cells_one s) h63 hby hb
  have h2' : C.Own T base w' v' (l ++ s) := by
    unfold Cod.Own
    rw [List.length_append, C.cells_app, ← hm]
    exact h2
  refine ⟨v', w', hr, h2', h3, ?_, fun e => (h4.1 e).1⟩
  rcases hown.2 with ⟨rfl, h0⟩ | ⟨g, cap, cur, rfl, hbg, hg, hnc, hcm, hcs, htake⟩
  · obtain ⟨v2, w2, hr2, k2, k3, _⟩ := run_append_own (P := P) w w.heap.size S ty T i z C.k bytes hu hi hz0 hz1 hz2 hzs C.pos (.slice none 0 0) 0 [] (World.ownsRow_nil _ _ _ _) ad m c (C.cells s) hl hs (C.cells_one s) (by unfold maxLen; omega) (Nat.le_trans (Nat.mul_le_mul_right _ (by omega)) hby) (Nat.le_refl _)
    rw [hr] at hr2
    cases hr2
    exact fun g hg => .inr (k2.lt g hg).1
  · by_cases hroom : l.length + m ≤ cap
    · have hfit : l.length * i.size + (C.cells s).length ≤ cur.size := by rw [hl, hcs, hz1, ← Nat.add_mul]; exact Nat.mul_le_mul_right _ hroom
      have hr2 := run_append_room (P := P) w S ty T i hu hi g l.length cap cur hg ad m c (C.cells s) (by rw [hz1]; exact hl) hs (C.cells_one s) hroom hfit
      rw [hr] at hr2
      cases hr2
      exact fun g' hg' => .inl hg'
    · have holds : ∀ j u, (C.cells l)[j]? = some u → w.cell? ((⟨g, 0, none⟩ : Addr).add j) = some u := hown'.cells (g := g) rfl
      have hr2 := run_append_grow (P := P) w S ty T i z hu hi hz0 ⟨g, 0, none⟩ l.length cap (C.cells l) (by rw [hz1]; exact C.cells_len l) holds ad m c (C.cells s) (by rw [hz1]; exact hl) hs (by omega) (by omega) (growslice_fits (by omega) (by rw [hz2]; exact hby))
      rw [hr] at hr2
      cases hr2
      exact fun g' hg' => .inr (by simp [Value.ownBlock] at hg'; omega)
theorem RowT.run_none (R : RowT P C S T bytes) (w : World) (ty : TypeId) (base : Nat) (v : Value) (l : List α) (hown : C.Own T base w v l) : (Builtin.append_ #[S, S] ty #[v, .slice none 0 0]).run P w = .ok v w := by
  obtain ⟨z, hz, hzs⟩ := R.info
  obtain ⟨i, hi, hz0, hz1, hz2⟩ := info_of hz
  exact run_append_owned_none (P := P) (w := w) base S ty T i C.k R.slice hi v l.length (C.cells l) hown

theorem RowT.wp (R : RowT P C S T bytes) {o : Oper} {a : Act} {w : World} {K : Act → World → Prop} {Q : Exit → Act → World → Prop} (s x : Operand)
    (ho : o.op = .call { callee := .builtin .append, args := #[s, x], argTypes := #[S, S] })
    (base : Nat) (v : Value) (l : List α) (hs : a.eval s = v) (hown : C.Own T base w v l) (ad : Addr) (m c : Nat) (t : List α) (hx : a.eval x = .slice (some ad) m c) (hm : m = t.length) (hn : ∀ j u, (C.cells t)[j]? = some u → w.cell? (ad.add j) = some u)
    (hsz : l.length + m ≤ 100000000) (hby : (l.length + m) * bytes ≤ 140737488355328) (hb : base ≤ w.heap.size) (h : ∀ v' w', C.Own T base w' v' (l ++ t) → w.grownBy w' v.ownBlock → NewOr w v v' → K (a.put o.dst v') w') : o.wp P a w K Q := by
  obtain ⟨v', w', hr, h2, h3, h4⟩ := R.run w o.type base v l hown ad m c t hm hn hsz hby hb
  unfold Oper.wp execOp
  simp only [ho, resolve, invoke, builtin, Sem.run_bind, Sem.run_pure, Result.andThen_ok, List.map_toArray, List.map_cons, List.map_nil, hs, hx, hr]
  exact h v' w' h2 h3 h4
/-- in a walk -/
theorem RowT.list (R : RowT P C S T bytes) {ops : Array Oper} {rest : List Oper} {o : Oper} {a : Act} {w : World} {Q : Exit → Act → World → Prop} (hgd : o.guard = none) (s x : Operand)
    (ho : o.op = .call { callee := .builtin .append, args := #[s, x], argTypes := #[S, S] })
    (base : Nat) (v : Value) (l : List α) (hs : a.eval s = v) (hown : C.Own T base w v l) (ad : Addr) (m c : Nat) (t : List α) (hx : a.eval x = .slice (some ad) m c) (hm : m = t.length) (hn : ∀ j u, (C.cells t)[j]? = some u → w.cell? (ad.add j) = some u)
    (hsz : l.length + m ≤ 100000000) (hby : (l.length + m) * bytes ≤ 140737488355328) (hb : base ≤ w.heap.size) (h : ∀ v' w', C.Own T base w' v' (l ++ t) → w.grownBy w' v.ownBlock → NewOr w v v' → wpList P ops Q rest (a.put o.dst v') w') : wpList P ops Q (o :: rest) a w :=
  wpList_plain hgd fun _ hK => R.wp s x ho base v l hs hown ad m c t hx hm hn hsz hby hb fun v' w' h2 h3 h4 => hK _ _ (h v' w' h2 h3 h4)
theorem RowT.list_none (R : RowT P C S T bytes) {ops : Array Oper} {rest : List Oper} {o : Oper} {a : Act} {w : World} {Q : Exit → Act → World → Prop} (hgd : o.guard = none) (s x : Operand)
    (ho : o.op = .call { callee := .builtin .append, args := #[s, x], argTypes := #[S, S] })
    (base : Nat) (v : Value) (l : List α) (hs : a.eval s = v) (hown : C.Own T base w v l) (hx : a.eval x = .slice none 0 0) (h : wpList P ops Q rest (a.put o.dst v) w) : wpList P ops Q (o :: rest) a w :=
  wpList_plain hgd fun _ hK => by
    have hrun := R.run_none w o.type base v l hown
    unfold Oper.wp execOp
    simp only [ho, resolve, invoke, builtin, Sem.run_bind, Sem.run_pure, Result.andThen_ok, List.map_toArray, List.map_cons, List.map_nil, hs, hx, hrun]
    exact hK _ _ h
/-- as one step of a region that draws (go_region_law) -/
theorem RowT.step (R : RowT P C S T bytes) {ops : Array Oper} {o : Oper} {a : Act} {w : World} {K : Act → World → Prop} {Q : Exit → Act → World → Prop} {E : Prop} (hgd : o.guard = none) (s x : Operand)
    (ho : o.op = .call { callee := .builtin .append, args := #[s, x], argTypes := #[S, S] })
    (base : Nat) (v : Value) (l : List α) (hs : a.eval s = v) (hown : C.Own T base w v l) (ad : Addr) (m c : Nat) (t : List α) (hx : a.eval x = .slice (some ad) m c) (hm : m = t.length) (hn : ∀ j u, (C.cells t)[j]? = some u → w.cell? (ad.add j) = some u)
    (hsz : l.length + m ≤ 100000000) (hby : (l.length + m) * bytes ≤ 140737488355328) (hb : base ≤ w.heap.size) (h : ∀ v' w', C.Own T base w' v' (l ++ t) → w.grownBy w' v.ownBlock → NewOr w v v' → K (a.put o.dst v') w') :
    if Region.wanted o (yielded ops a.tmps) = true then Oper.wp P o a w K Q else E := by
  have hw : Region.wanted o (yielded ops a.tmps) = true := by simp [Region.wanted, hgd]
  rw [if_pos hw]
  exact R.wp s x ho base v l hs hown ad m c t hx hm hn hsz hby hb h
theorem RowT.step_none (R : RowT P C S T bytes) {ops : Array Oper} {o : Oper} {a : Act} {w : World} {K : Act → World → Prop} {Q : Exit → Act → World → Prop} {E : Prop} (hgd : o.guard = none) (s x : Operand)
    (ho : o.op = .call { callee := .builtin .append, args := #[s, x], argTypes := #[S, S] })
    (base : Nat) (v : Value) (l : List α) (hs : a.eval s = v) (hown : C.Own T base w v l) (hx : a.eval x = .slice none 0 0) (h : K (a.put o.dst v) w) :
    if Region.wanted o (yielded ops a.tmps) = true then Oper.wp P o a w K Q else E := by
  have hw : Region.wanted o (yielded ops a.tmps) = true := by simp [Region.wanted, hgd]
  rw [if_pos hw]
  have hrun := R.run_none w o.type base v l hown
  unfold Oper.wp execOp
  simp only [ho, resolve, invoke, builtin, Sem.run_bind, Sem.run_pure, Result.andThen_ok, List.map_toArray, List.map_cons, List.map_nil, hs, hx, hrun]
  exact h
/-- a new block of one -/
theorem Cod.news_one (w : World) (x : α) (b : Nat) (m : Nat × Nat) (h : w.heap[b]? = some (.cells (C.enc x).toArray T m)) : ∀ j u, (C.cells [x])[j]? = some u → w.cell? ((⟨b, 0, none⟩ : Addr).add j) = some u := by
  intro j u hj
  obtain ⟨m1, m2⟩ := m
  rw [C.cells_single] at hj
  rw [Addr.add_lit, Nat.zero_add, cell_of_row _ _ _ _ _ _ h]
  simpa using hj
end
end Go.Proofs.YthhpoihfaggafaaDoor
