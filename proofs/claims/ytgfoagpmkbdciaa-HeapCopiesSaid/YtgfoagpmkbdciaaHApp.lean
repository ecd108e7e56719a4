/-
  append to a row of items of the call's own, with the place of what it makes; as one step of a region that draws, and in a walk.
-/
import Derived.Test.YtgfoagpmkbdciaaHRemove
import Derived.OwnWalk
import Derived.Deep.RegionLaw
namespace Go.Proofs.Ytgfoagpmkbdciaa
open Go Go.RowKit Go.Sort Go.Proofs

theorem infoI : (Try.prog.info? 36).map (fun i => (i.zero, i.size, i.bytes)) = some (some (.agg #[.int .i64 0, .int .i64 0, .int .i64 0, .int .i64 0, .int .i64 0, .int .i64 0, .int .i64 0]), 7, 56) := by kernel_rfl
/-- items in a row of the call's own, from base on -/
abbrev ItOwn (base : Nat) (w : World) (v : Value) (l : List It) : Prop := w.ownsRow base 36 7 v l.length (itCells l)
/-- its block, if it has one, is an old one's or a new one -/
def NewOr (w : World) (v v' : Value) : Prop := (∀ g, v'.ownBlock = some g → v.ownBlock = some g ∨ w.heap.size ≤ g) ∧ (v' = .slice none 0 0 → v = .slice none 0 0)

theorem run_append_it (w : World) (ty : TypeId) (base : Nat) (v : Value) (l : List It) (hown : ItOwn base w v l) (ad : Addr) (m c : Nat) (s : List It) (hm : m = s.length) (hs : ∀ j u, (itCells s)[j]? = some u → w.cell? (ad.add j) = some u) (hsz : l.length + m ≤ 100000) (hb : base ≤ w.heap.size) :
    ∃ v' w', (Builtin.append_ #[27, 27] ty #[v, .slice (some ad) m c]).run Try.prog w = .ok v' w' ∧ ItOwn base w' v' (l ++ s) ∧ w.grownBy w' v.ownBlock ∧ NewOr w v v' := by
  obtain ⟨i, hi, hz0, hz1, hz2⟩ := info_parts infoI
  have hl : (itCells s).length = m * 7 := by rw [itCells_len, hm]
  have h63 : l.length + m ≤ maxLen := by unfold maxLen; omega
  have hby : (l.length + m) * 56 ≤ 140737488355328 := by omega
  obtain ⟨v', w', hr, h2, h3, h4⟩ := run_append_own (P := Try.prog) w base 27 ty 36 i _ 7 56 Try.underlying27 hi hz0 hz1 hz2 rfl (by decide) v l.length (itCells l) hown ad m c (itCells s) hl hs (itCells_one s) h63 hby hb
  have h2' : ItOwn base w' v' (l ++ s) := by
    unfold ItOwn
    rw [List.length_append, itCells_app, ← hm]
    exact h2
  refine ⟨v', w', hr, h2', h3, ?_, fun e => (h4.1 e).1⟩
  rcases hown.2 with ⟨rfl, h0⟩ | ⟨g, cap, cur, rfl, hbg, hg, hnc, hcm, hcs, htake⟩
  · obtain ⟨v2, w2, hr2, k2, k3, _⟩ := run_append_own (P := Try.prog) w w.heap.size 27 ty 36 i _ 7 56 Try.underlying27 hi hz0 hz1 hz2 rfl (by decide) (.slice none 0 0) 0 [] (World.ownsRow_nil _ _ _ _) ad m c (itCells s) hl hs (itCells_one s) (by unfold maxLen; omega) (by omega) (Nat.le_refl _)
    rw [hr] at hr2
    cases hr2
    exact fun g hg => .inr (k2.lt g hg).1
  · by_cases hroom : l.length + m ≤ cap
    · have hfit : l.length * i.size + (itCells s).length ≤ cur.size := by rw [hl, hcs, hz1]; omega
      have hr2 := run_append_room (P := Try.prog) w 27 ty 36 i Try.underlying27 hi g l.length cap cur hg ad m c (itCells s) (by rw [hz1]; exact hl) hs (itCells_one s) hroom hfit
      rw [hr] at hr2
      cases hr2
      exact fun g' hg' => .inl hg'
    · have holds : ∀ j u, (itCells l)[j]? = some u → w.cell? ((⟨g, 0, none⟩ : Addr).add j) = some u := hown.cells (g := g) rfl
      have hr2 := run_append_grow (P := Try.prog) w 27 ty 36 i _ Try.underlying27 hi hz0 ⟨g, 0, none⟩ l.length cap (itCells l) (by rw [hz1]; exact itCells_len l) holds ad m c (itCells s) (by rw [hz1]; exact hl) hs (by omega) (by omega) (growslice_fits (by omega) (by rw [hz2]; exact hby))
      rw [hr] at hr2
      cases hr2
      exact fun g' hg' => .inr (by simp [Value.ownBlock] at hg'; omega)

theorem wp_append_it {o : Oper} {a : Act} {w : World} {K : Act → World → Prop} {Q : Exit → Act → World → Prop} (s x : Operand)
    (ho : o.op = .call { callee := .builtin .append, args := #[s, x], argTypes := #[27, 27] })
    (base : Nat) (v : Value) (l : List It) (hs : a.eval s = v) (hown : ItOwn base w v l) (ad : Addr) (m c : Nat) (t : List It) (hx : a.eval x = .slice (some ad) m c) (hm : m = t.length) (hn : ∀ j u, (itCells t)[j]? = some u → w.cell? (ad.add j) = some u)
    (hsz : l.length + m ≤ 100000) (hb : base ≤ w.heap.size) (h : ∀ v' w', ItOwn base w' v' (l ++ t) → w.grownBy w' v.ownBlock → NewOr w v v' → K (a.put o.dst v') w') : o.wp Try.prog a w K Q := by
  obtain ⟨v', w', hr, h2, h3, h4⟩ := run_append_it w o.type base v l hown ad m c t hm hn hsz hb
  unfold Oper.wp execOp
  simp only [ho, resolve, invoke, builtin, Sem.run_bind, Sem.run_pure, Result.andThen_ok, List.map_toArray, List.map_cons, List.map_nil, hs, hx, hr]
  exact h v' w' h2 h3 h4
theorem wpList_append_it {ops : Array Oper} {rest : List Oper} {o : Oper} {a : Act} {w : World} {Q : Exit → Act → World → Prop} (hgd : o.guard = none) (s x : Operand)
    (ho : o.op = .call { callee := .builtin .append, args := #[s, x], argTypes := #[27, 27] })
    (base : Nat) (v : Value) (l : List It) (hs : a.eval s = v) (hown : ItOwn base w v l) (ad : Addr) (m c : Nat) (t : List It) (hx : a.eval x = .slice (some ad) m c) (hm : m = t.length) (hn : ∀ j u, (itCells t)[j]? = some u → w.cell? (ad.add j) = some u)
    (hsz : l.length + m ≤ 100000) (hb : base ≤ w.heap.size) (h : ∀ v' w', ItOwn base w' v' (l ++ t) → w.grownBy w' v.ownBlock → NewOr w v v' → wpList Try.prog ops Q rest (a.put o.dst v') w') : wpList Try.prog ops Q (o :: rest) a w :=
  wpList_plain hgd fun _ hK => wp_append_it s x ho base v l hs hown ad m c t hx hm hn hsz hb fun v' w' h2 h3 h4 => hK _ _ (h v' w' h2 h3 h4)
theorem step_append_it {ops : Array Oper} {o : Oper} {a : Act} {w : World} {K : Act → World → Prop} {Q : Exit → Act → World → Prop} {E : Prop} (hgd : o.guard = none) (s x : Operand)
    (ho : o.op = .call { callee := .builtin .append, args := #[s, x], argTypes := #[27, 27] })
    (base : Nat) (v : Value) (l : List It) (hs : a.eval s = v) (hown : ItOwn base w v l) (ad : Addr) (m c : Nat) (t : List It) (hx : a.eval x = .slice (some ad) m c) (hm : m = t.length) (hn : ∀ j u, (itCells t)[j]? = some u → w.cell? (ad.add j) = some u)
    (hsz : l.length + m ≤ 100000) (hb : base ≤ w.heap.size) (h : ∀ v' w', ItOwn base w' v' (l ++ t) → w.grownBy w' v.ownBlock → NewOr w v v' → K (a.put o.dst v') w') :
    if Region.wanted o (yielded ops a.tmps) = true then Oper.wp Try.prog o a w K Q else E := by
  have hw : Region.wanted o (yielded ops a.tmps) = true := by simp [Region.wanted, hgd]
  rw [if_pos hw]
  exact wp_append_it s x ho base v l hs hown ad m c t hx hm hn hsz hb h
/-- a new block of one item -/
theorem one_item (w : World) (x : It) (b : Nat) (h : w.heap[b]? = some (.cells (encI x).toArray 36 (0, 0))) : ∀ j u, (itCells [x])[j]? = some u → w.cell? ((⟨b, 0, none⟩ : Addr).add j) = some u := by
  intro j u hj
  have e : itCells [x] = encI x := by simp [itCells]
  rw [e] at hj
  rw [Addr.add_lit, Nat.zero_add, cell_of_row _ _ _ _ _ _ h]
  simpa using hj
end Go.Proofs.Ytgfoagpmkbdciaa
