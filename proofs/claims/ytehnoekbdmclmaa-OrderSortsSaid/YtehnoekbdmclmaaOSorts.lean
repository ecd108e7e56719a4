/-
  What the law OrderSorts needs of memory: rows of keys of the call's own; a row of events whose data are turned; a copy.
-/
import Derived.Test.YtehnoekbdmclmaaOSortD
import Derived.Test.YtehnoekbdmclmaaORise
import Derived.Laws.AppendOwnNone
namespace Go.Proofs.Ytehnoekbdmclmaa
open Go Go.RowKit Go.Sort Go.Proofs

/-! ### rows of keys -/
def kyCells (l : List Ky) : List Value := l.flatMap encK
theorem encK_len (x : Ky) : (encK x).length = 3 := rfl
theorem encK_one (x : Ky) : ∀ v ∈ encK x, v.oneCell' = true := by
  intro v hv
  simp [encK] at hv
  rcases hv with rfl | rfl | rfl <;> rfl
theorem kyCells_snoc (l : List Ky) (x : Ky) : kyCells l ++ encK x = kyCells (l ++ [x]) := by simp [kyCells]
theorem kyCells_get : ∀ (l : List Ky) (i c : Nat) (hi : i < l.length), c < 3 → (kyCells l)[i * 3 + c]? = (encK l[i])[c]?
  | a :: t, 0, c, _, hc => by
    show (encK a ++ kyCells t)[0 * 3 + c]? = _
    rw [List.getElem?_append_left (by rw [encK_len]; omega), Nat.zero_mul, Nat.zero_add]
    rfl
  | a :: t, i + 1, c, hi, hc => by
    show (encK a ++ kyCells t)[(i + 1) * 3 + c]? = _
    rw [List.getElem?_append_right (by rw [encK_len]; omega), encK_len, show (i + 1) * 3 + c - 3 = i * 3 + c by omega, kyCells_get t i c (by simpa using hi) hc]
    rfl
abbrev KyOwn (B : Nat) (w : World) (v : Value) (l : List Ky) : Prop := w.ownsRow B 23 3 v l.length (kyCells l)
theorem KyOwn.of {B n : Nat} {w : World} {v : Value} {l : List Ky} {xs : List Value} (h : w.ownsRow B 23 3 v n xs) (hn : n = l.length) (hx : xs = kyCells l) : KyOwn B w v l := by subst hn; subst hx; exact h
theorem KyOwn.at {B : Nat} {w : World} {v : Value} {l : List Ky} (h : KyOwn B w v l) : ∃ a c, v = .slice a l.length c ∧ KyAt w a l.length l := by
  obtain ⟨h1, ⟨rfl, hn⟩ | ⟨g, cap, cur, rfl, hg, hh, hc, _, hs, ht⟩⟩ := h
  · exact ⟨none, 0, by rw [hn], rfl, .inl hn⟩
  · have e : ∀ i (hi : i < l.length) c, c < 3 → w.cell? ⟨g, 0 + i * 3 + c, none⟩ = (encK l[i])[c]? := fun i hi c hc3 => by
      rw [Nat.zero_add, cell_of_row _ _ _ _ _ _ hh]
      have : cur[i * 3 + c]? = (kyCells l)[i * 3 + c]? := by
        rw [← ht, List.getElem?_take, if_pos (by omega)]
        simp
      rw [this, kyCells_get l i c hi hc3]
    exact ⟨_, cap, rfl, rfl, .inr ⟨g, 0, rfl, heap_lt' hh, fun i hi => ⟨e i hi 0 (by decide), e i hi 1 (by decide), e i hi 2 (by decide)⟩⟩⟩
theorem KyOwn.next {B : Nat} {w w' : World} {v : Value} {l : List Ky} (h : KyOwn B w v l) (hb : Below w.heap.size w w') : KyOwn B w' v l := by
  obtain ⟨h1, h2 | ⟨g, cap, cur, e, hg, hh, r⟩⟩ := h
  · exact ⟨h1, .inl h2⟩
  · exact ⟨h1, .inr ⟨g, cap, cur, e, hg, (hb.block g (heap_lt' hh)).trans hh, r⟩⟩
theorem ky_news (w : World) (x : Ky) : ∀ j u, (encK x)[j]? = some u → (w.alloc (.cells (encK x).toArray 23)).cell? ((⟨w.heap.size, 0, none⟩ : Addr).add j) = some u := by
  intro j u hj
  have hh := heap_alloc_new w (.cells (encK x).toArray 23)
  rw [add_spot, Nat.zero_add, cell_of_row _ _ _ _ _ _ hh]
  simpa using hj

/-! ### a row of events whose data are turned -/
def SRow (w : World) (G : Nat) (l : List Ev) : Prop :=
  ∃ cur, w.heap[G]? = some (.cells cur 28 (0, 0)) ∧ ∀ j (hj : j < l.length), cur[j * 6]? = some (.int .i64 l[j].1.1) ∧ cur[j * 6 + 1]? = some (.int .i64 l[j].1.2.1) ∧ cur[j * 6 + 2]? = some (.int .i64 l[j].1.2.2) ∧ ∃ d, cur[j * 6 + 5]? = some (.int .i64 d)
theorem SRow.of {w : World} {B G n cap : Nat} {l : List Ev} (h : EvOwn B w (.slice (some ⟨G, 0, none⟩) n cap) l) : SRow w G l := by
  obtain ⟨h1, ⟨e, _⟩ | ⟨g, cap', cur, e, hg, hh, hc, _, hs, ht⟩⟩ := h
  · cases e
  · cases e
    refine ⟨cur, hh, fun j hj => ?_⟩
    have key : ∀ c, c < 6 → cur[j * 6 + c]? = (encE l[j])[c]? := fun c hc6 => by
      have : cur[j * 6 + c]? = (evCells l)[j * 6 + c]? := by
        rw [← ht, List.getElem?_take, if_pos (by omega)]
        simp
      rw [this, evCells_get l j c hj hc6]
    exact ⟨key 0 (by decide), key 1 (by decide), key 2 (by decide), _, key 5 (by decide)⟩
theorem SRow.cell {w : World} {G o : Nat} {l : List Ev} (h : SRow w G l) (ho : o = 0) {j : Nat} {x : Ev} (hj : l[j]? = some x) :
    w.cell? ⟨G, o + j * 6, none⟩ = some (.int .i64 x.1.1) ∧ w.cell? ⟨G, o + j * 6 + 1, none⟩ = some (.int .i64 x.1.2.1) ∧ w.cell? ⟨G, o + j * 6 + 2, none⟩ = some (.int .i64 x.1.2.2) ∧ (∃ d, w.cell? ⟨G, o + j * 6 + 5, none⟩ = some (.int .i64 d)) ∧ w.frozen? ⟨G, o + j * 6 + 5, none⟩ = false := by
  subst ho
  obtain ⟨cur, hh, hc⟩ := h
  obtain ⟨hj', rfl⟩ := List.getElem?_eq_some_iff.1 hj
  obtain ⟨c0, c1, c2, d, c5⟩ := hc j hj'
  rw [Nat.zero_add]
  exact ⟨by rw [cell_of_row _ _ _ _ _ _ hh]; exact c0, by rw [cell_of_row _ _ _ _ _ _ hh]; exact c1, by rw [cell_of_row _ _ _ _ _ _ hh]; exact c2, ⟨d, by rw [cell_of_row _ _ _ _ _ _ hh]; exact c5⟩, frozen_of_row _ _ _ _ _ hh⟩
theorem SRow.keep {w w' : World} {G : Nat} {l : List Ev} (h : SRow w G l) (hb : w'.heap[G]? = w.heap[G]?) : SRow w' G l := by
  obtain ⟨cur, hh, hc⟩ := h
  exact ⟨cur, hb.trans hh, hc⟩
theorem SRow.set {w : World} {G o : Nat} {l : List Ev} (h : SRow w G l) (ho : o = 0) (i : Nat) (d : Int) : SRow (w.setCell ⟨G, o + i * 6 + 5, none⟩ (.int .i64 d)) G l := by
  subst ho
  obtain ⟨cur, hh, hc⟩ := h
  refine ⟨cur.setIfInBounds (0 + i * 6 + 5) (.int .i64 d), ?_, fun j hj => ?_⟩
  · rw [setCell_eq]
    unfold mapBlock
    show (Array.modify w.heap G _)[G]? = _
    rw [Array.getElem?_modify, if_pos rfl, hh]
    rfl
  · obtain ⟨c0, c1, c2, d', c5⟩ := hc j hj
    have lt5 := (Array.getElem?_eq_some_iff.1 c5).1
    refine ⟨?_, ?_, ?_, ?_⟩
    · rw [Array.getElem?_setIfInBounds_ne (by omega)]; exact c0
    · rw [Array.getElem?_setIfInBounds_ne (by omega)]; exact c1
    · rw [Array.getElem?_setIfInBounds_ne (by omega)]; exact c2
    · by_cases e : 0 + i * 6 + 5 = j * 6 + 5
      · exact ⟨d, by rw [e, Array.getElem?_setIfInBounds_self_of_lt lt5]⟩
      · exact ⟨d', by rw [Array.getElem?_setIfInBounds_ne e]; exact c5⟩
theorem KyOwn.set {B : Nat} {w : World} {v : Value} {l : List Ky} (h : KyOwn B w v l) {G : Nat} (hG : G < B) (o : Nat) (u : Value) : KyOwn B (w.setCell ⟨G, o, none⟩ u) v l := ownsRow_setCell_below h hG u

/-- a copy of what came in, as append makes it -/
theorem ev_copy (w : World) (a : Option Addr) (n c : Nat) (l : List Ev) (hl : EvAt w a n l) (ty : TypeId) :
    ∃ v' w', (Builtin.append_ #[33, 33] ty #[.slice none 0 0, .slice a n c]).run Try.prog w = .ok v' w' ∧ EvOwn w.heap.size w' v' l ∧ Below w.heap.size w w' := by
  obtain ⟨i0, hi, hz0, hz1, hz2⟩ := info_parts infoE
  have h1 := hl.1
  have h2 := hl.2.1
  cases a with
  | none =>
    have h0 : n = 0 := by
      obtain ⟨_, _, h | ⟨_, _, h, _⟩⟩ := hl
      · exact h
      · cases h
    subst h0
    obtain rfl : l = [] := List.eq_nil_of_length_eq_zero h1
    exact ⟨_, _, run_append_owned_none (P := Try.prog) (w := w) w.heap.size 33 ty 28 i0 6 Try.underlying33 hi (.slice none 0 0) 0 [] (World.ownsRow_nil _ _ _ _), World.ownsRow_nil _ _ _ _, Below.refl _ _⟩
  | some ad =>
    obtain ⟨v', w', e1, e2, e3, _⟩ := run_append_own (P := Try.prog) w w.heap.size 33 ty 28 i0 _ 6 48 Try.underlying33 hi hz0 hz1 hz2 rfl (by decide) (.slice none 0 0) 0 [] (World.ownsRow_nil _ _ _ _) ad n c (evCells l) (by rw [evCells_len, h1]) (evAt_news hl) (evCells_one l) (by unfold maxLen; omega) (by omega) (Nat.le_refl _)
    exact ⟨v', w', e1, EvOwn.of e2 (by omega) (by simp), (Below.refl _ _).grown e3 (Nat.le_refl _) (fun k hk => by simp [Value.ownBlock] at hk)⟩
theorem wpList_run_append {P : Program} {w w' : World} {ops : Array Oper} {rest : List Oper} {o : Oper} {act : Act} {Q : Exit → Act → World → Prop} (hgd : o.guard = none) (s x : Operand) (t : TypeId) (u v v' : Value)
    (ho : o.op = .call { callee := .builtin .append, args := #[s, x], argTypes := #[t, t] }) (hs : act.eval s = u) (hx : act.eval x = v)
    (hrun : (Builtin.append_ #[t, t] o.type #[u, v]).run P w = .ok v' w') (h : wpList P ops Q rest (act.put o.dst v') w') : wpList P ops Q (o :: rest) act w := by
  refine wpList_plain hgd fun K hK => ?_
  unfold Oper.wp
  simp [execOp, ho, resolve, invoke, builtin, hs, hx, hrun, Result.andThen]
  exact hK _ _ h
end Go.Proofs.Ytehnoekbdmclmaa
