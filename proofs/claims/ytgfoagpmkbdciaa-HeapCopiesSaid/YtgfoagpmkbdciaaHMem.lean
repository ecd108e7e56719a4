/-
  Rows of items in memory: read, owned, sorted; what turns and what does not; a heap in memory.
-/
import Derived.Test.YtgfoagpmkbdciaaHMap
import Derived.Laws.AppendOwn
import Derived.Laws.Rows
import Derived.Shelf.SlSortCmp.KitK
namespace Go.Proofs.Ytgfoagpmkbdciaa
open Go Go.RowKit Go.Sort Go.Proofs

/-- items' cells, one behind the other -/
def itCells (l : List It) : List Value := l.flatMap encI
theorem encI_len (x : It) : (encI x).length = 7 := rfl
theorem encI_one (x : It) : ∀ v ∈ encI x, v.oneCell' = true := by
  intro v hv
  simp [encI, encE] at hv
  rcases hv with rfl | rfl | rfl | rfl | rfl | rfl | rfl <;> rfl
theorem itCells_len (l : List It) : (itCells l).length = l.length * 7 := by
  induction l with
  | nil => rfl
  | cons a t ih =>
    show (encI a ++ itCells t).length = _
    rw [List.length_append, ih, encI_len, List.length_cons]
    omega
theorem itCells_app (l m : List It) : itCells (l ++ m) = itCells l ++ itCells m := by simp [itCells]
theorem itCells_one (l : List It) : ∀ v ∈ itCells l, v.oneCell' = true := by
  intro v hv
  obtain ⟨x, _, h⟩ := List.mem_flatMap.1 hv
  exact encI_one x v h
theorem itCells_get : ∀ (l : List It) (i c : Nat) (hi : i < l.length), c < 7 → (itCells l)[i * 7 + c]? = (encI l[i])[c]?
  | a :: t, 0, c, _, hc => by
    show (encI a ++ itCells t)[0 * 7 + c]? = _
    rw [List.getElem?_append_left (by rw [encI_len]; omega), Nat.zero_mul, Nat.zero_add]
    rfl
  | a :: t, i + 1, c, hi, hc => by
    show (encI a ++ itCells t)[(i + 1) * 7 + c]? = _
    rw [List.getElem?_append_right (by rw [encI_len]; omega), encI_len, show (i + 1) * 7 + c - 7 = i * 7 + c by omega, itCells_get t i c (by simpa using hi) hc]
    rfl
theorem flat_cells (l : List It) : (flatK encI 7 l.toArray).toList = itCells l := by
  refine List.ext_getElem? fun t => ?_
  by_cases h : t < l.length * 7
  · have h1 : t / 7 < l.length := by omega
    have h2 : t % 7 < 7 := Nat.mod_lt _ (by decide)
    have e := itCells_get l (t / 7) (t % 7) h1 h2
    rw [show t / 7 * 7 + t % 7 = t by omega] at e
    rw [e]
    have g := get_flatK encI 7 l.toArray t (by simpa using h)
    rw [List.getElem?_eq_getElem (by simpa using h)]
    have e2 : (encI l[t / 7])[t % 7]? = some (encI l[t / 7])[t % 7]! := by
      rw [List.getElem!_eq_getElem?_getD, List.getElem?_eq_getElem (by rw [encI_len]; exact h2)]
      rfl
    rw [e2]
    have e3 : (flatK encI 7 l.toArray)[t]! = (flatK encI 7 l.toArray).toList[t]'(by simpa using h) := by
      rw [getElem!_pos _ t (by simpa using h)]
      simp
    rw [← e3, g]
    simp [h1]
  · rw [List.getElem?_eq_none (by simpa using h), List.getElem?_eq_none (by rw [itCells_len]; omega)]

/-- an item lies at a place -/
def ItCell (w : World) (B o : Nat) (x : It) : Prop := ∀ c, c < 7 → w.cell? ⟨B, o + c, none⟩ = (encI x)[c]?
/-- .. its cells, one by one -/
abbrev Cells7 (w : World) (B o : Nat) (x : It) : Prop :=
  w.cell? ⟨B, o, none⟩ = some (.int .i64 x.1.1.1) ∧ w.cell? ⟨B, o + 1, none⟩ = some (.int .i64 x.1.1.2.1) ∧ w.cell? ⟨B, o + 2, none⟩ = some (.int .i64 x.1.1.2.2) ∧
    w.cell? ⟨B, o + 3, none⟩ = some (.int .i64 x.1.2.1) ∧ w.cell? ⟨B, o + 4, none⟩ = some (.int .i64 x.1.2.2.1) ∧ w.cell? ⟨B, o + 5, none⟩ = some (.int .i64 x.1.2.2.2) ∧ w.cell? ⟨B, o + 6, none⟩ = some (.int .i64 x.2)
theorem ItCell.seven {w : World} {B o : Nat} {x : It} (h : ItCell w B o x) : Cells7 w B o x :=
  ⟨h 0 (by decide), h 1 (by decide), h 2 (by decide), h 3 (by decide), h 4 (by decide), h 5 (by decide), h 6 (by decide)⟩
theorem ItCell.load {w : World} {B o : Nat} {x : It} (h : ItCell w B o x) (P : Program) : Sem.run P (loadCellsFrom ⟨B, o, none⟩ 0 7 #[]) w = .ok (encI x).toArray w :=
  run_loadCellsFrom_list P w _ _ 7 (encI_len x) fun j v hj => by
    have hlt : j < 7 := by have := (List.getElem?_eq_some_iff.1 hj).1; rwa [encI_len] at this
    have := h j hlt
    rw [hj] at this
    rw [Addr.add_lit]
    exact this
/-- a slice reads as items -/
def ItAt (w : World) (a : Option Addr) (n : Nat) (l : List It) : Prop :=
  l.length = n ∧ n ≤ 1000000 ∧ (n = 0 ∨ ∃ B off, a = some ⟨B, off, none⟩ ∧ B < w.heap.size ∧ ∀ i (hi : i < l.length), ItCell w B (off + i * 7) l[i])
theorem ItCell.same {w w' : World} {B o : Nat} {x : It} (h : ItCell w B o x) (hb : w'.heap[B]? = w.heap[B]?) : ItCell w' B o x := fun c hc => (World.cell?_of_block (w := w) hb).trans (h c hc)
theorem ItCell.below {w w' : World} {K B o : Nat} {x : It} (h : ItCell w B o x) (hb : Below K w w') (hK : B < K) : ItCell w' B o x := h.same (hb.block B hK)
theorem ItAt.below {w w' : World} {a : Option Addr} {n : Nat} {l : List It} (h : ItAt w a n l) (hb : Below w.heap.size w w') : ItAt w' a n l := by
  obtain ⟨h1, h2, h3⟩ := h
  refine ⟨h1, h2, ?_⟩
  rcases h3 with h3 | ⟨B, off, rfl, hB, hc⟩
  · exact .inl h3
  · exact .inr ⟨B, off, rfl, Nat.lt_of_lt_of_le hB hb.size, fun i hi => (hc i hi).below hb hB⟩
theorem ItAt.cell {w : World} {a : Option Addr} {n : Nat} {l : List It} (h : ItAt w a n l) {i : Nat} (hi : i < n) : ∃ B off, a = some ⟨B, off, none⟩ ∧ B < w.heap.size ∧ ∃ x : It, l[i]? = some x ∧ ItCell w B (off + i * 7) x := by
  obtain ⟨h1, _, h3 | ⟨B, off, rfl, hB, hc⟩⟩ := h
  · omega
  · exact ⟨B, off, rfl, hB, l[i]'(by omega), List.getElem?_eq_getElem (by omega), hc i (by omega)⟩
theorem ItAt.news {w : World} {ad : Addr} {n : Nat} {l : List It} (h : ItAt w (some ad) n l) : ∀ j u, (itCells l)[j]? = some u → w.cell? (ad.add j) = some u := by
  intro j u hj
  have hlt : j < l.length * 7 := by
    rw [← itCells_len]
    exact (List.getElem?_eq_some_iff.1 hj).1
  have e := itCells_get l (j / 7) (j % 7) (by omega) (Nat.mod_lt _ (by decide))
  rw [show j / 7 * 7 + j % 7 = j by omega] at e
  obtain ⟨h1, _, h3 | ⟨B', off', e', hB, hc⟩⟩ := h
  · omega
  · cases e'
    rw [Addr.add_lit]
    have := hc (j / 7) (by omega) (j % 7) (Nat.mod_lt _ (by decide))
    rw [show off' + j / 7 * 7 + j % 7 = off' + j by omega] at this
    rw [this, ← e, hj]
/-- a part of them -/
theorem ItAt.part {w : World} {a : Option Addr} {n : Nat} {l : List It} (h : ItAt w a n l) (lo hi : Nat) (h1 : lo ≤ hi) (h2 : hi ≤ n) (B off : Nat) (ha : a = some ⟨B, off, none⟩) : ItAt w (some ⟨B, off + lo * 7, none⟩) (hi - lo) ((l.take hi).drop lo) := by
  obtain ⟨g1, g2, g3⟩ := h
  subst ha
  refine ⟨by simp; omega, by omega, ?_⟩
  rcases g3 with g3 | ⟨B', off', e', hB, hc⟩
  · left; omega
  · cases e'
    refine .inr ⟨_, _, rfl, hB, fun i hi' => ?_⟩
    have hl : lo + i < l.length := by simp at hi'; omega
    have := hc (lo + i) hl
    rw [show off + lo * 7 + i * 7 = off + (lo + i) * 7 by omega]
    have e : ((l.take hi).drop lo)[i] = l[lo + i] := by simp
    rw [e]
    exact this

/-- nothing that was there has turned, but in the blocks S -/
structure But (S : Nat → Prop) (w w' : World) : Prop where
  os : w'.os = w.os
  tape : w'.tape = w.tape
  output : w'.output = w.output
  size : w.heap.size ≤ w'.heap.size
  block : ∀ k, k < w.heap.size → ¬ S k → w'.heap[k]? = w.heap[k]?
theorem But.refl (S : Nat → Prop) (w : World) : But S w w := ⟨rfl, rfl, rfl, Nat.le_refl _, fun _ _ _ => rfl⟩
theorem But.next {S T : Nat → Prop} {a b c : World} (h : But S a b) (k : But T b c) (hT : ∀ j, j < a.heap.size → T j → S j) : But S a c :=
  ⟨k.os.trans h.os, k.tape.trans h.tape, k.output.trans h.output, Nat.le_trans h.size k.size,
    fun i hi hs => (k.block i (Nat.lt_of_lt_of_le hi h.size) (fun t => hs (hT i hi t))).trans (h.block i hi hs)⟩
theorem But.trans {S : Nat → Prop} {a b c : World} (h : But S a b) (k : But S b c) : But S a c := h.next k fun _ _ t => t
theorem But.mono {S T : Nat → Prop} {a b : World} (h : But S a b) (hT : ∀ j, j < a.heap.size → S j → T j) : But T a b :=
  ⟨h.os, h.tape, h.output, h.size, fun k hk ht => h.block k hk fun s => ht (hT k hk s)⟩
theorem But.of {S : Nat → Prop} {a b : World} (h : Below a.heap.size a b) : But S a b := ⟨h.os, h.tape, h.output, h.size, fun k hk _ => h.block k hk⟩
theorem But.grown {a b : World} {row : Option Nat} (h : a.grownBy b row) : But (fun k => some k = row) a b := ⟨h.os, h.tape, h.output, h.size, h.block⟩
theorem But.below {S : Nat → Prop} {a b : World} (h : But S a b) {B : Nat} (hB : B ≤ a.heap.size) (hS : ∀ k, S k → B ≤ k) : Below B a b :=
  ⟨h.os, h.tape, h.output, h.size, fun k hk => h.block k (by omega) fun s => by have := hS k s; omega⟩
theorem But.alloc {S : Nat → Prop} {a b : World} (h : But S a b) (o : Obj) : But S a (b.alloc o) :=
  h.trans ⟨rfl, rfl, rfl, by simp, fun k hk _ => Below.heap_alloc _ _ _ hk⟩
theorem But.drew {S : Nat → Prop} {a b : World} (h : But S a b) : But S a b.drew := ⟨h.os, h.tape, h.output, h.size, h.block⟩
theorem But.drewN {S : Nat → Prop} {a b : World} (h : But S a b) (n : Nat) : But S a (b.drewN n) := ⟨h.os, h.tape, h.output, h.size, h.block⟩
theorem But.gw {S : Nat → Prop} {a b c : World} (h : But S a b) (g : Gw b c) : But S a c := h.next (T := fun _ => False) (But.of g.below) fun _ _ h => h.elim
theorem But.setCell {S : Nat → Prop} {a b : World} (h : But S a b) {p : Addr} (hp : S p.block) (u : Value) : But S a (b.setCell p u) :=
  h.trans ⟨rfl, rfl, rfl, by simp [World.setCell], fun k _ hs => Below.heap_setCell _ _ _ _ (fun e => hs (e ▸ hp))⟩

/-- a row of items' block: d stands at its beginning -/
structure RowC (w : World) (B cap : Nat) (d : Array It) : Prop where
  cells : ∃ cur, w.heap[B]? = some (.cells cur 36 (0, 0)) ∧ cur.size = cap * 7
  le : d.size ≤ cap
  max : cap ≤ maxLen
  holds : HoldsK encI 7 w B 0 d
theorem RowC.lt {w : World} {B cap : Nat} {d : Array It} (h : RowC w B cap d) : B < w.heap.size := by
  obtain ⟨cur, hh, _⟩ := h.cells
  exact (Array.getElem?_eq_some_iff.1 hh).1
theorem HoldsK.same {w w' : World} {B : Nat} {d : Array It} (h : HoldsK encI 7 w B 0 d) (hb : w'.heap[B]? = w.heap[B]?) : HoldsK encI 7 w' B 0 d := fun j hj =>
  ⟨(World.cell?_of_block (w := w) hb).trans (h j hj).1, (World.frozen?_of_block (w := w) hb).trans (h j hj).2⟩
theorem RowC.same {w w' : World} {B cap : Nat} {d : Array It} (h : RowC w B cap d) (hb : w'.heap[B]? = w.heap[B]?) : RowC w' B cap d := by
  obtain ⟨cur, hh, hs⟩ := h.cells
  exact ⟨⟨cur, hb.trans hh, hs⟩, h.le, h.max, HoldsK.same h.holds hb⟩
theorem RowC.cell {w : World} {B cap : Nat} {d : Array It} (h : RowC w B cap d) {i : Nat} (hi : i < d.size) : ItCell w B (i * 7) d[i]! := fun c hc => by
  have hs : i * 7 + c < (flatK encI 7 d).size := by rw [size_flatK]; omega
  have := (h.holds (i * 7 + c) hs).1
  rw [Nat.zero_add] at this
  rw [this, get_flatK encI 7 d _ (by omega), show (i * 7 + c) / 7 = i by omega, show (i * 7 + c) % 7 = c by omega, List.getElem!_eq_getElem?_getD, List.getElem?_eq_getElem (by rw [encI_len]; exact hc)]
  rfl
theorem RowC.pop {w : World} {B cap : Nat} {d : Array It} (h : RowC w B cap d) : RowC w B cap d.pop := by
  refine ⟨h.cells, by have := h.le; simp; omega, h.max, fun j hj => ?_⟩
  have hj' : j < (d.size - 1) * 7 := by rw [size_flatK] at hj; simpa using hj
  have hj2 : j < d.size * 7 := by omega
  have hs : j < (flatK encI 7 d).size := by rw [size_flatK]; exact hj2
  have := h.holds j hs
  rw [get_flatK encI 7 d _ hj2] at this
  rw [get_flatK encI 7 d.pop _ (by simpa using hj'), pop_get d _ (by simp; omega)]
  exact this
/-- .. as a row of the call's own -/
theorem RowC.own {w : World} {B cap base : Nat} {d : Array It} (h : RowC w B cap d) (hB : base ≤ B) : w.ownsRow base 36 7 (.slice (some ⟨B, 0, none⟩) d.size cap) d.size (itCells d.toList) := by
  obtain ⟨cur, hh, hs⟩ := h.cells
  refine ⟨by rw [itCells_len]; simp, .inr ⟨B, cap, cur, rfl, hB, hh, h.le, h.max, hs, ?_⟩⟩
  have hle := h.le
  refine List.ext_getElem? fun t => ?_
  rw [List.getElem?_take]
  split
  · next ht =>
    have hs2 : t < (flatK encI 7 d).size := by rw [size_flatK]; exact ht
    have := (h.holds t hs2).1
    rw [Nat.zero_add, cell_of_row _ _ _ _ _ _ hh] at this
    have f := flat_cells d.toList
    rw [show d.toList.toArray = d by simp] at f
    rw [← f]
    simp only [Array.getElem?_toList]
    rw [this, Array.getElem?_eq_getElem hs2, getElem!_pos _ t hs2]
    rfl
  · next ht => rw [List.getElem?_eq_none (by rw [itCells_len]; simpa using ht)]
theorem rowC_of_own {w : World} {base B cap n : Nat} {l : List It} (h : w.ownsRow base 36 7 (.slice (some ⟨B, 0, none⟩) n cap) n (itCells l)) : RowC w B cap l.toArray ∧ n = l.length ∧ base ≤ B := by
  obtain ⟨h1, ⟨h2, _⟩ | ⟨g, c, cur, e, hg, hh, hc, hm, hs, ht⟩⟩ := h
  · cases h2
  · cases e
    rw [itCells_len] at h1
    have hn : n = l.length := by omega
    subst hn
    refine ⟨⟨⟨cur, hh, hs⟩, by simpa using hc, hm, fun j hj => ?_⟩, rfl, hg⟩
    have hj' : j < l.length * 7 := by rw [size_flatK] at hj; simpa using hj
    refine ⟨?_, by rw [Nat.zero_add]; exact frozen_of_row _ _ _ _ _ hh⟩
    rw [Nat.zero_add, cell_of_row _ _ _ _ _ _ hh]
    have e : cur[j]? = (flatK encI 7 l.toArray).toList[j]? := by
      rw [flat_cells, ← ht, List.getElem?_take, if_pos hj']
      simp
    rw [e]
    rw [getElem!_pos _ j hj]
    simp
theorem swk_but {w w' : World} {B : Nat} {d : Array It} (h : SWK encI 7 w B 0 d w') : But (fun k => k = B) w w' := by
  obtain ⟨m, os, rfl⟩ := h
  refine ⟨rfl, rfl, rfl, ?_, fun k hk hs => ?_⟩
  · unfold sortWorldK
    rw [size_grow, size_putRowK]
    show w.heap.size ≤ w.heap.size + _
    omega
  · unfold sortWorldK
    rw [heap_grow_old _ _ (by rw [size_putRowK]; show k < w.heap.size; omega)]
    unfold putRowK putRow mapBlock
    show (Array.modify w.heap B _)[k]? = _
    rw [Array.getElem?_modify, if_neg (fun e => hs e.symm)]
/-- behind a world of the sort's -/
theorem RowC.swk {w w' : World} {B cap : Nat} {d d' : Array It} (h : RowC w B cap d) (hd : d'.size = d.size) (hs : SWK encI 7 w B 0 d' w') : RowC w' B cap d' := by
  obtain ⟨cur, hh, hsz⟩ := h.cells
  refine ⟨?_, by rw [hd]; exact h.le, h.max, hs.holds h.lt h.holds hd⟩
  obtain ⟨m, os, rfl⟩ := hs
  have e : (sortWorldK encI 7 w B 0 m d' os).heap[B]? = some (.cells (putCells id 0 (flatK encI 7 d') cur) 36 (0, 0)) := by
    unfold sortWorldK
    rw [heap_grow_old _ _ (by rw [size_putRowK]; exact h.lt)]
    unfold putRowK putRow mapBlock
    show (Array.modify w.heap B (onCells (putCells id 0 (flatK encI 7 d'))))[B]? = _
    rw [Array.getElem?_modify, if_pos rfl, hh]
    rfl
  exact ⟨_, e, by simp [putCells, hsz]⟩
end Go.Proofs.Ytgfoagpmkbdciaa
