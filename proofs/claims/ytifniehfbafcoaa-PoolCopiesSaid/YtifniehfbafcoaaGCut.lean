/-
  One is taken out of a row of structs of the call's own: the rest is moved up, the last place is cleared; for any program.
-/
import Derived.Test.YtifniehfbafcoaaGRow
import Derived.Laws.CopyRow
namespace Go.Proofs.Ytifniehfbafcoaa
open Go Go.RowKit Go.Sort Go.Proofs

section
variable {α : Type} {P : Program} {C : Cod α} {S T : TypeId} {bytes : Nat}
theorem Cod.cells_take (l : List α) (i : Nat) (hi : i ≤ l.length) : (C.cells l).take (i * C.k) = C.cells (l.take i) := by
  have h : C.cells l = C.cells (l.take i) ++ C.cells (l.drop i) := by rw [← C.cells_app, List.take_append_drop]
  rw [h, List.take_left']
  rw [C.cells_len, List.length_take, Nat.min_eq_left hi]
theorem Cod.cells_drop (l : List α) (i : Nat) (hi : i ≤ l.length) : (C.cells l).drop (i * C.k) = C.cells (l.drop i) := by
  have h : C.cells l = C.cells (l.take i) ++ C.cells (l.drop i) := by rw [← C.cells_app, List.take_append_drop]
  rw [h, List.drop_left']
  rw [C.cells_len, List.length_take, Nat.min_eq_left hi]
/-- what stands behind the i-th one, appended to what stands ahead of it -/
theorem RowT.cut (R : RowT P C S T bytes) (w : World) (g n c i : Nat) (l : List α) (h : C.Own T 0 w (.slice (some ⟨g, 0, none⟩) n c) l) (hi : i < n) (A : Addr) (m cc : Nat) (hm : m = n - (i + 1)) (hA : m = 0 ∨ A = ⟨g, (i + 1) * C.k, none⟩) :
    ∃ w', (∀ ty, (Builtin.append_ #[S, S] ty #[.slice (some ⟨g, 0, none⟩) i c, .slice (some A) m cc]).run P w = .ok (.slice (some ⟨g, 0, none⟩) (i + m) c) w') ∧ C.Own T 0 w' (.slice (some ⟨g, 0, none⟩) (i + m) c) (l.eraseIdx i) ∧ But (fun b => b = g) w w' := by
  obtain ⟨z, hz, hzs⟩ := R.info
  obtain ⟨i0, hi0, hz0, hz1, hz2⟩ := info_of hz
  obtain ⟨h1, ⟨e, _⟩ | ⟨g', cap, cur, e, _, hh, hc, hmx, hs, ht⟩⟩ := h
  · cases e
  cases e
  have hnews : ∀ j u, (C.cells (l.drop (i + 1)))[j]? = some u → w.cell? (A.add j) = some u := by
    intro j u hu
    have hj : j < m * C.k := by
      have := (List.getElem?_eq_some_iff.1 hu).1
      rw [C.cells_len, List.length_drop, ← hm] at this
      exact this
    rcases hA with h0 | rfl
    · rw [h0, Nat.zero_mul] at hj
      omega
    · rw [Addr.add_lit, cell_of_row _ _ _ _ _ _ hh]
      rw [← C.cells_drop l (i + 1) (by omega), List.getElem?_drop, ← ht, List.getElem?_take] at hu
      split at hu
      · simpa using hu
      · cases hu
  have hlen : (C.cells (l.drop (i + 1))).length = m * i0.size := by rw [C.cells_len, List.length_drop, hz1, hm]
  have hmul : (i + m) * C.k = i * C.k + m * C.k := Nat.add_mul _ _ _
  have hle : (i + m) * C.k ≤ c * C.k := Nat.mul_le_mul_right _ (by omega)
  have hfit : i * i0.size + (C.cells (l.drop (i + 1))).length ≤ cur.size := by rw [hlen, hz1, hs]; omega
  have hr := fun ty => run_append_room (P := P) w S ty T i0 R.slice hi0 g i c cur hh A m cc (C.cells (l.drop (i + 1))) hlen hnews (C.cells_one _) (by omega) hfit
  refine ⟨_, hr, ?_, rfl, rfl, rfl, by simp, fun k _ hk => setRow_other w g k _ hk⟩
  have he : l.eraseIdx i = l.take i ++ l.drop (i + 1) := List.eraseIdx_eq_take_drop_succ l i
  have hel : (l.eraseIdx i).length = i + m := by rw [he, List.length_append, List.length_take, List.length_drop]; omega
  have hck : (C.cells (l.take i)).length = i * C.k := by rw [C.cells_len, List.length_take, Nat.min_eq_left (by omega)]
  have htk : cur.toList.take (i * C.k) = C.cells (l.take i) := by
    rw [← C.cells_take l i (by omega), ← ht, List.take_take, Nat.min_eq_left (Nat.mul_le_mul_right _ (by omega))]
  refine ⟨by rw [C.cells_len], .inr ⟨g, c, _, by rw [hel], Nat.zero_le _, setRow_heap w g cur _ T _ hh, by omega, hmx, ?_, ?_⟩⟩
  · rw [hlen, hz1] at hfit
    simp only [List.size_toArray, List.length_append, List.length_take, List.length_drop, hlen, hz1, Array.length_toList]
    omega
  · rw [hel, hz1, htk, he, C.cells_app, hmul]
    simp only [← hck]
    rw [show (C.cells (l.take i)).length + m * C.k = (C.cells (l.take i) ++ C.cells (l.drop (i + 1))).length by rw [List.length_append, hlen, hz1]]
    exact List.take_left
/-- a place behind them is cleared -/
theorem RowT.clear1 (R : RowT P C S T bytes) (hone : ∀ z : Value, (P.info? T).bind (fun i => i.zero) = some z → ∀ v ∈ z.cells.toList, v.oneCell' = true) (w : World) (g n c o : Nat) (l : List α) (h : C.Own T 0 w (.slice (some ⟨g, 0, none⟩) n c) l) (hn : n < c) (ho : o = n * C.k) (cc : Nat) :
    ∃ w', (∀ ty, (Builtin.clear_ #[S] ty #[.slice (some ⟨g, o, none⟩) 1 cc]).run P w = .ok (.tuple #[]) w') ∧ C.Own T 0 w' (.slice (some ⟨g, 0, none⟩) n c) l ∧ But (fun b => b = g) w w' := by
  subst ho
  obtain ⟨z, hz, hzs⟩ := R.info
  obtain ⟨i0, hi0, hz0, hz1, hz2⟩ := info_of hz
  obtain ⟨h1, ⟨e, _⟩ | ⟨g', cap, cur, e, _, hh, hc, hmx, hs, ht⟩⟩ := h
  · cases e
  cases e
  have hp := C.pos
  have hzc : (Builtin.zeroCells z.cells 1).toList = z.cells.toList := by
    simp only [Builtin.zeroCells, Nat.one_mul]
    apply List.ext_getElem
    · simp
    · intro j h1 h2
      have hj : j < z.cells.size := by simpa using h2
      simp [Nat.mod_eq_of_lt hj, hj]
  have hfit : l.length * C.k + 0 + z.cells.toList.length ≤ cur.size := by
    have : (l.length + 1) * C.k ≤ c * C.k := Nat.mul_le_mul_right _ hn
    rw [Nat.add_mul, Nat.one_mul] at this
    have hzl : z.cells.toList.length = C.k := by simpa using hzs
    rw [hzl, hs]
    omega
  have hst := run_storeCells_at P g (l.length * C.k) T z.cells.toList 0 cur w hh hfit (hone z (by rw [hi0]; exact hz0))
  simp only [Nat.add_zero] at hst
  refine ⟨w.setRow g (cur.toList.take (l.length * C.k) ++ z.cells.toList ++ cur.toList.drop (l.length * C.k + z.cells.toList.length)).toArray, fun ty => ?_, ?_, rfl, rfl, rfl, by simp, fun k _ hk => setRow_other w g k _ hk⟩
  · simp [Builtin.clear_, run_underlying R.slice, zeroValue, typeInfo, hi0, hz0, hzc, hst]
  · refine ⟨by rw [C.cells_len], .inr ⟨g, c, _, rfl, Nat.zero_le _, setRow_heap w g cur _ T _ hh, hc, hmx, ?_, ?_⟩⟩
    · rw [Nat.add_zero] at hfit
      simp only [List.size_toArray, List.length_append, List.length_take, List.length_drop, Array.length_toList] at hfit ⊢
      omega
    · have hle : l.length * C.k ≤ cur.toList.length := by
        have : cur.toList.length = cur.size := by simp
        omega
      simp only [List.append_assoc]
      conv => rhs; rw [← ht]
      rw [List.take_append_of_le_length (by rw [List.length_take, Nat.min_eq_left hle]; exact Nat.le_refl _), List.take_take, Nat.min_self]
/-- .. as one step of a region that draws -/
theorem RowT.cut_step (R : RowT P C S T bytes) {ops : Array Oper} {o : Oper} {a : Act} {w : World} {K : Act → World → Prop} {Q : Exit → Act → World → Prop} {E : Prop} (hgd : o.guard = none) (s x : Operand)
    (ho : o.op = .call { callee := .builtin .append, args := #[s, x], argTypes := #[S, S] })
    (g n c i : Nat) (l : List α) (h : C.Own T 0 w (.slice (some ⟨g, 0, none⟩) n c) l) (hi : i < n) (A : Addr) (m cc : Nat) (hs : a.eval s = .slice (some ⟨g, 0, none⟩) i c) (hx : a.eval x = .slice (some A) m cc) (hm : m = n - (i + 1)) (hA : m = 0 ∨ A = ⟨g, (i + 1) * C.k, none⟩)
    (hK : ∀ w', C.Own T 0 w' (.slice (some ⟨g, 0, none⟩) (i + m) c) (l.eraseIdx i) → But (fun b => b = g) w w' → K (a.put o.dst (.slice (some ⟨g, 0, none⟩) (i + m) c)) w') :
    if Region.wanted o (yielded ops a.tmps) = true then Oper.wp P o a w K Q else E := by
  have hw : Region.wanted o (yielded ops a.tmps) = true := by simp [Region.wanted, hgd]
  rw [if_pos hw]
  obtain ⟨w', hr, h2, h3⟩ := R.cut w g n c i l h hi A m cc hm hA
  have hr := hr o.type
  unfold Oper.wp execOp
  simp only [ho, resolve, invoke, builtin, Sem.run_bind, Sem.run_pure, Result.andThen_ok, List.map_toArray, List.map_cons, List.map_nil, hs, hx, hr]
  exact hK w' h2 h3
end
end Go.Proofs.Ytifniehfbafcoaa
