/-
  Rows of events in memory: read, owned, sorted.
-/
import Derived.Test.YtehnoekbdmclmaaOBase
import Derived.Laws.AppendOwn
import Derived.Laws.Rows
namespace Go.Proofs.Ytehnoekbdmclmaa
open Go Go.RowKit Go.Sort Go.Proofs

/-- events' cells, one behind the other -/
def evCells (l : List Ev) : List Value := l.flatMap encE
theorem encE_len (x : Ev) : (encE x).length = 6 := rfl
theorem encE_one (x : Ev) : ∀ v ∈ encE x, v.oneCell' = true := by
  intro v hv
  simp [encE] at hv
  rcases hv with rfl | rfl | rfl | rfl | rfl | rfl <;> rfl
theorem evCells_len (l : List Ev) : (evCells l).length = l.length * 6 := by
  induction l with
  | nil => rfl
  | cons a t ih =>
    show (encE a ++ evCells t).length = _
    rw [List.length_append, ih, encE_len, List.length_cons]
    omega
theorem evCells_snoc (l : List Ev) (x : Ev) : evCells (l ++ [x]) = evCells l ++ encE x := by simp [evCells]
theorem evCells_one (l : List Ev) : ∀ v ∈ evCells l, v.oneCell' = true := by
  intro v hv
  obtain ⟨x, _, h⟩ := List.mem_flatMap.1 hv
  exact encE_one x v h
theorem evCells_get : ∀ (l : List Ev) (i c : Nat) (hi : i < l.length), c < 6 → (evCells l)[i * 6 + c]? = (encE l[i])[c]?
  | a :: t, 0, c, _, hc => by
    show (encE a ++ evCells t)[0 * 6 + c]? = _
    rw [List.getElem?_append_left (by rw [encE_len]; omega), Nat.zero_mul, Nat.zero_add]
    rfl
  | a :: t, i + 1, c, hi, hc => by
    show (encE a ++ evCells t)[(i + 1) * 6 + c]? = _
    rw [List.getElem?_append_right (by rw [encE_len]; omega), encE_len, show (i + 1) * 6 + c - 6 = i * 6 + c by omega, evCells_get t i c (by simpa using hi) hc]
    rfl
theorem flat_cells (l : List Ev) : (flatK encE 6 l.toArray).toList = evCells l := by
  refine List.ext_getElem? fun t => ?_
  by_cases h : t < l.length * 6
  · have h1 : t / 6 < l.length := by omega
    have h2 : t % 6 < 6 := Nat.mod_lt _ (by decide)
    have e := evCells_get l (t / 6) (t % 6) h1 h2
    rw [show t / 6 * 6 + t % 6 = t by omega] at e
    rw [e]
    have g := get_flatK encE 6 l.toArray t (by simpa using h)
    rw [List.getElem?_eq_getElem (by simpa using h)]
    have e2 : (encE l[t / 6])[t % 6]? = some (encE l[t / 6])[t % 6]! := by
      rw [List.getElem!_eq_getElem?_getD, List.getElem?_eq_getElem (by rw [encE_len]; exact h2)]
      rfl
    rw [e2]
    have e3 : (flatK encE 6 l.toArray)[t]! = (flatK encE 6 l.toArray).toList[t]'(by simpa using h) := by
      rw [getElem!_pos _ t (by simpa using h)]
      simp
    rw [← e3, g]
    simp [h1]
  · rw [List.getElem?_eq_none (by simpa using h), List.getElem?_eq_none (by rw [evCells_len]; omega)]

/-- an event lies at a place -/
def EvCell (w : World) (B o : Nat) (x : Ev) : Prop :=
  w.cell? ⟨B, o, none⟩ = some (.int .i64 x.1.1) ∧ w.cell? ⟨B, o + 1, none⟩ = some (.int .i64 x.1.2.1) ∧ w.cell? ⟨B, o + 2, none⟩ = some (.int .i64 x.1.2.2) ∧
    w.cell? ⟨B, o + 3, none⟩ = some (.int .i64 x.2.1) ∧ w.cell? ⟨B, o + 4, none⟩ = some (.int .i64 x.2.2.1) ∧ w.cell? ⟨B, o + 5, none⟩ = some (.int .i64 x.2.2.2)
/-- a slice reads as events -/
def EvAt (w : World) (a : Option Addr) (n : Nat) (l : List Ev) : Prop :=
  l.length = n ∧ n ≤ 1000000 ∧ (n = 0 ∨ ∃ B off, a = some ⟨B, off, none⟩ ∧ B < w.heap.size ∧ ∀ i (hi : i < l.length), EvCell w B (off + i * 6) l[i])
theorem EvCell.below {w w' : World} {K B o : Nat} {x : Ev} (h : EvCell w B o x) (hb : Below K w w') (hK : B < K) : EvCell w' B o x := by
  obtain ⟨h0, h1, h2, h3, h4, h5⟩ := h
  exact ⟨(hb.cell (p := ⟨B, _, none⟩) hK).trans h0, (hb.cell (p := ⟨B, _, none⟩) hK).trans h1, (hb.cell (p := ⟨B, _, none⟩) hK).trans h2, (hb.cell (p := ⟨B, _, none⟩) hK).trans h3, (hb.cell (p := ⟨B, _, none⟩) hK).trans h4, (hb.cell (p := ⟨B, _, none⟩) hK).trans h5⟩
theorem EvAt.below {w w' : World} {a : Option Addr} {n : Nat} {l : List Ev} (h : EvAt w a n l) (hb : Below w.heap.size w w') : EvAt w' a n l := by
  obtain ⟨h1, h2, h3⟩ := h
  refine ⟨h1, h2, ?_⟩
  rcases h3 with h3 | ⟨B, off, rfl, hB, hc⟩
  · exact .inl h3
  · exact .inr ⟨B, off, rfl, Nat.lt_of_lt_of_le hB hb.size, fun i hi => (hc i hi).below hb hB⟩
theorem EvAt.cell {w : World} {a : Option Addr} {n : Nat} {l : List Ev} (h : EvAt w a n l) {i : Nat} (hi : i < n) : ∃ B off, a = some ⟨B, off, none⟩ ∧ B < w.heap.size ∧ ∃ x : Ev, l[i]? = some x ∧ EvCell w B (off + i * 6) x := by
  obtain ⟨h1, _, h3 | ⟨B, off, rfl, hB, hc⟩⟩ := h
  · omega
  · exact ⟨B, off, rfl, hB, l[i]'(by omega), List.getElem?_eq_getElem (by omega), hc i (by omega)⟩
theorem EvCell.get {w : World} {B o : Nat} {x : Ev} (h : EvCell w B o x) {c : Nat} (hc : c < 6) : w.cell? ⟨B, o + c, none⟩ = (encE x)[c]? := by
  obtain ⟨h0, h1, h2, h3, h4, h5⟩ := h
  match c, hc with
  | 0, _ => exact h0
  | 1, _ => exact h1
  | 2, _ => exact h2
  | 3, _ => exact h3
  | 4, _ => exact h4
  | 5, _ => exact h5
theorem EvCell.of {w : World} {B o : Nat} {x : Ev} (h : ∀ c, c < 6 → w.cell? ⟨B, o + c, none⟩ = (encE x)[c]?) : EvCell w B o x :=
  ⟨h 0 (by decide), h 1 (by decide), h 2 (by decide), h 3 (by decide), h 4 (by decide), h 5 (by decide)⟩
theorem EvAt.news {w : World} {B off n : Nat} {l : List Ev} (h : EvAt w (some ⟨B, off, none⟩) n l) : ∀ j u, (evCells l)[j]? = some u → w.cell? ⟨B, off + j, none⟩ = some u := by
  intro j u hj
  have hlt : j < l.length * 6 := by
    rw [← evCells_len]
    exact (List.getElem?_eq_some_iff.1 hj).1
  have e := evCells_get l (j / 6) (j % 6) (by omega) (Nat.mod_lt _ (by decide))
  rw [show j / 6 * 6 + j % 6 = j by omega] at e
  obtain ⟨h1, _, h3 | ⟨B', off', e', hB, hc⟩⟩ := h
  · omega
  · cases e'
    have := (hc (j / 6) (by omega)).get (c := j % 6) (Nat.mod_lt _ (by decide))
    rw [show off + j / 6 * 6 + j % 6 = off + j by omega] at this
    rw [this, ← e, hj]

/-- events in a row of the call's own, from B on -/
abbrev EvOwn (B : Nat) (w : World) (v : Value) (l : List Ev) : Prop := w.ownsRow B 28 6 v l.length (evCells l)
theorem EvOwn.at {B : Nat} {w : World} {v : Value} {l : List Ev} (h : EvOwn B w v l) (hl : l.length ≤ 1000000) : ∃ a c, v = .slice a l.length c ∧ l.length ≤ c ∧ EvAt w a l.length l := by
  obtain ⟨h1, ⟨rfl, hn⟩ | ⟨g, cap, cur, rfl, hg, hh, hc, _, hs, ht⟩⟩ := h
  · exact ⟨none, 0, by rw [hn], by omega, rfl, hl, .inl hn⟩
  · refine ⟨_, cap, rfl, hc, rfl, hl, .inr ⟨g, 0, rfl, (Array.getElem?_eq_some_iff.1 hh).1, fun i hi => EvCell.of fun c hc6 => ?_⟩⟩
    rw [Nat.zero_add, cell_of_row _ _ _ _ _ _ hh]
    have : cur[i * 6 + c]? = (evCells l)[i * 6 + c]? := by
      rw [← ht, List.getElem?_take, if_pos (by omega)]
      simp
    rw [this, evCells_get l i c hi hc6]

/-- a row of the call's own, as the sort's kit has it -/
theorem own_holds {g : Nat} {w : World} {cur : Array Value} {l : List Ev} (hh : w.heap[g]? = some (.cells cur 28 (0, 0))) (ht : cur.toList.take (l.length * 6) = evCells l) : HoldsK encE 6 w g 0 l.toArray := by
  intro j hj
  have hj' : j < l.length * 6 := by simpa using hj
  refine ⟨?_, by rw [Nat.zero_add]; exact frozen_of_row _ _ _ _ _ hh⟩
  rw [Nat.zero_add, cell_of_row _ _ _ _ _ _ hh]
  have e : cur[j]? = (flatK encE 6 l.toArray).toList[j]? := by
    rw [flat_cells, ← ht, List.getElem?_take, if_pos hj']
    simp
  rw [e]
  have hs : j < (flatK encE 6 l.toArray).size := hj
  rw [getElem!_pos _ j hs]
  simp
/-- what the sort leaves, read again -/
theorem sorted_own {B g cap : Nat} {w w' : World} {cur : Array Value} {l : List Ev} {d : Array Ev} (hh : w.heap[g]? = some (.cells cur 28 (0, 0))) (hB : B ≤ g) (hc : l.length ≤ cap) (hm : cap ≤ maxLen) (hs : cur.size = cap * 6)
    (hd : d.size = l.length) (h : SWK encE 6 w g 0 d w') : EvOwn B w' (.slice (some ⟨g, 0, none⟩) l.length cap) d.toList ∧ Below g w w' := by
  obtain ⟨m, os, rfl⟩ := h
  have hg : g < w.heap.size := (Array.getElem?_eq_some_iff.1 hh).1
  have e : (sortWorldK encE 6 w g 0 m d os).heap[g]? = some (.cells (putCells id 0 (flatK encE 6 d) cur) 28 (0, 0)) := by
    unfold sortWorldK
    rw [heap_grow_old _ _ (by rw [size_putRowK]; exact hg)]
    unfold putRowK putRow mapBlock
    show (Array.modify w.heap g (onCells (putCells id 0 (flatK encE 6 d))))[g]? = _
    rw [Array.getElem?_modify, if_pos rfl, hh]
    rfl
  have el : d.toList.length = l.length := by simpa using hd
  refine ⟨⟨by rw [evCells_len], .inr ⟨g, cap, _, by rw [el], hB, e, by rw [el]; exact hc, hm, ?_, ?_⟩⟩, ?_⟩
  · simp [putCells, hs]
  · refine List.ext_getElem? fun t => ?_
    rw [List.getElem?_take]
    by_cases ht : t < d.toList.length * 6
    · rw [if_pos ht]
      have ht' : t < d.size * 6 := by simpa using ht
      have hc6 : t < cur.size := by rw [hs]; omega
      have f := flat_cells d.toList
      rw [show d.toList.toArray = d by simp] at f
      rw [← f]
      simp [putCells, hc6, ht']
    · rw [if_neg ht, List.getElem?_eq_none (by rw [evCells_len]; omega)]
  · refine ⟨rfl, rfl, rfl, ?_, fun k hk => ?_⟩
    · unfold sortWorldK
      rw [size_grow, size_putRowK]
      show w.heap.size ≤ w.heap.size + _
      omega
    · unfold sortWorldK
      rw [heap_grow_old _ _ (by rw [size_putRowK]; show k < w.heap.size; omega)]
      unfold putRowK putRow mapBlock
      show (Array.modify w.heap g _)[k]? = _
      rw [Array.getElem?_modify, if_neg (by omega)]
end Go.Proofs.Ytehnoekbdmclmaa
