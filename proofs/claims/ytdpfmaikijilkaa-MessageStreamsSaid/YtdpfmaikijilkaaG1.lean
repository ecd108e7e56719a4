/-
  Maps from kinds to rows of functions: laid, looked up.
-/
import Derived.Test.YtdpfmaikijilkaaW16
import Derived.MapKept
import Derived.OwnWalk
import Derived.Carry
namespace Go.Proofs.Ytdpfmaikijilkaa
open Go Go.RowKit Go.Sort Go.Proofs Go.MapKept

structure Et where
  k : Int
  fns : List FuncId
  g : Nat
  born : Nat
def Et.ent (x : Et) : MapEntry := ⟨.int .i64 x.k, .slice (some ⟨x.g, 0, none⟩) x.fns.length x.fns.length, x.born⟩
def Et.tab (x : Et) : Int × List FuncId := (x.k, x.fns)
def lookF : List (Int × List FuncId) → Int → Option (List FuncId)
  | [], _ => none
  | x :: t, k => if k = x.1 then some x.2 else lookF t k
def findE : List Et → Int → Nat → Option (Nat × Value)
  | [], _, _ => none
  | x :: t, k, i => if k = x.k then some (i, x.ent.val) else findE t k (i + 1)
theorem findNow_E (k : Int) : ∀ (l : List Et) (i : Nat), Instr.findNow (.int .i64) (.int .i64 k) (l.map Et.ent) i = some (findE l k i)
  | [], _ => rfl
  | x :: t, i => by
    rw [List.map_cons, Instr.findNow]
    show (match Instr.sameNow (.int .i64) (.int .i64 k) (.int .i64 x.k) with | some true => _ | some false => _ | none => _) = _
    simp only [Instr.sameNow, if_true]
    unfold findE
    by_cases h : k = x.k
    · subst h; simp
    · rw [if_neg h]
      have : (k == x.k) = false := by simpa using h
      rw [this]
      exact findNow_E k t (i + 1)
theorem findE_none : ∀ (l : List Et) (k : Int) (i : Nat), lookF (l.map Et.tab) k = none → findE l k i = none
  | [], _, _, _ => rfl
  | x :: t, k, i, h => by
    rw [List.map_cons, lookF] at h
    unfold findE
    by_cases e : k = x.k
    · rw [if_pos (show k = x.tab.1 from e)] at h; cases h
    · rw [if_neg (show ¬ k = x.tab.1 from e)] at h
      rw [if_neg e]
      exact findE_none t k (i + 1) h
theorem findE_some : ∀ (l : List Et) (k : Int) (i : Nat) (f : List FuncId), lookF (l.map Et.tab) k = some f → ∃ j, ∃ x ∈ l, findE l k i = some (j, x.ent.val) ∧ x.fns = f
  | [], _, _, _, h => by cases h
  | x :: t, k, i, f, h => by
    rw [List.map_cons, lookF] at h
    unfold findE
    by_cases e : k = x.k
    · rw [if_pos (show k = x.tab.1 from e)] at h
      cases h
      rw [if_pos e]
      exact ⟨i, x, List.mem_cons_self .., rfl, rfl⟩
    · rw [if_neg (show ¬ k = x.tab.1 from e)] at h
      rw [if_neg e]
      obtain ⟨j, y, hy, h1, h2⟩ := findE_some t k (i + 1) f h
      exact ⟨j, y, List.mem_cons_of_mem _ hy, h1, h2⟩

/-- block Mp is a map that tells a table; all of it stands from base on; rows of functions of the type ET -/
def GMap (ET : TypeId) (base Mp : Nat) (T : List (Int × List FuncId)) (w : World) : Prop :=
  base ≤ Mp ∧ ∃ (es : List Et) (clock : Nat), es.map Et.tab = T ∧ w.heap[Mp]? = some (.map (es.map Et.ent).toArray clock) ∧ ∀ x ∈ es, base ≤ x.g ∧ x.g ≠ Mp ∧ w.heap[x.g]? = some (.cells (CF.cells x.fns).toArray ET (0, 0))
section
variable {ET : TypeId} {base Mp : Nat} {T : List (Int × List FuncId)} {w w' : World}
theorem GMap.lt (h : GMap ET base Mp T w) : Mp < w.heap.size := by
  obtain ⟨_, es, clock, _, h2, _⟩ := h
  exact (Array.getElem?_eq_some_iff.1 h2).1
theorem GMap.but {S : Nat → Prop} (h : GMap ET base Mp T w) (hb : But S w w') (hS : ∀ b, S b → b < base) : GMap ET base Mp T w' := by
  obtain ⟨h0, es, clock, h1, h2, h3⟩ := h
  refine ⟨h0, es, clock, h1, (hb.block Mp (Array.getElem?_eq_some_iff.1 h2).1 fun e => by have := hS _ e; omega).trans h2, fun x hx => ?_⟩
  obtain ⟨a, b, c⟩ := h3 x hx
  exact ⟨a, b, (hb.block _ (Array.getElem?_eq_some_iff.1 c).1 fun e => by have := hS _ e; omega).trans c⟩
theorem GMap.but' {S : Nat → Prop} (h : GMap ET base Mp T w) (hb : But S w w') (hS : ∀ b, S b → base ≤ b → w.heap.size ≤ b) : GMap ET base Mp T w' := by
  obtain ⟨h0, es, clock, h1, h2, h3⟩ := h
  refine ⟨h0, es, clock, h1, ?_, fun x hx => ?_⟩
  · have hl := (Array.getElem?_eq_some_iff.1 h2).1
    exact (hb.block Mp hl fun e => by have := hS _ e h0; omega).trans h2
  obtain ⟨a, b, c⟩ := h3 x hx
  have hl := (Array.getElem?_eq_some_iff.1 c).1
  exact ⟨a, b, (hb.block _ hl fun e => by have := hS _ e a; omega).trans c⟩
theorem GMap.below (h : GMap ET base Mp T w) (hb : Below w.heap.size w w') : GMap ET base Mp T w' := h.but (S := fun _ => False) (But.of hb) (fun _ e => e.elim)
theorem GMap.made (w : World) (base : Nat) (hB : base ≤ w.heap.size) : GMap ET base w.heap.size [] (w.alloc (.map #[] 0)) := ⟨hB, [], 0, rfl, heap_alloc_new _ _, fun _ h => by cases h⟩
theorem CF_row {g : Nat} {fns : List FuncId} {fr : Nat × Nat} (h : w.heap[g]? = some (.cells (CF.cells fns).toArray ET fr)) (hl : fns.length ≤ 1000000) : CF.At w (some ⟨g, 0, none⟩) fns.length fns := by
  refine ⟨rfl, hl, .inr ⟨g, 0, rfl, (Array.getElem?_eq_some_iff.1 h).1, fun i hi c hc => ?_⟩⟩
  obtain ⟨f1, f2⟩ := fr
  rw [cell_of_row _ _ _ _ _ _ h, List.getElem?_toArray, Nat.zero_add]
  exact CF.cells_get fns i c hi hc
/-- looked up -/
theorem GMap.look_none {P : Program} {mt kt st : TypeId} (h : GMap ET base Mp T w) (hm : P.underlying mt = some (.map kt st)) (hk : P.underlying kt = some (.int .i64)) (hz : (zeroValue st).run P w = .ok (.slice none 0 0) w) {k : Int} (hl : lookF T k = none) :
    (Instr.lookup mt (.map (some Mp)) (.int .i64 k) true).run P w = .ok (.tuple #[.slice none 0 0, .bool false]) w := by
  obtain ⟨_, es, clock, rfl, h2, _⟩ := h
  have hf := run_findKey (P := P) (w := w) hk (findNow_E k es 0)
  rw [findE_none es k 0 hl] at hf
  have hck := fun e => MapKept.run_checkKey (P := P) (w := w) (kt := kt) (k := .int .i64 k) hk rfl e 9999
  simp [Instr.lookup, run_underlying hm, MapKept.run_getObj_map h2, hck, hf, hz, Result.andThen]
theorem GMap.look_some {P : Program} {mt kt st : TypeId} (h : GMap ET base Mp T w) (hm : P.underlying mt = some (.map kt st)) (hk : P.underlying kt = some (.int .i64)) {k : Int} {f : List FuncId} (hl : lookF T k = some f) (hfl : f.length ≤ 1000000) :
    ∃ g, (Instr.lookup mt (.map (some Mp)) (.int .i64 k) true).run P w = .ok (.tuple #[.slice (some ⟨g, 0, none⟩) f.length f.length, .bool true]) w ∧ base ≤ g ∧ g < w.heap.size ∧ CF.At w (some ⟨g, 0, none⟩) f.length f := by
  obtain ⟨_, es, clock, rfl, h2, h3⟩ := h
  have hf := run_findKey (P := P) (w := w) hk (findNow_E k es 0)
  obtain ⟨j, x, hx, e1, rfl⟩ := findE_some es k 0 f hl
  rw [e1] at hf
  have hck := fun e => MapKept.run_checkKey (P := P) (w := w) (kt := kt) (k := .int .i64 k) hk rfl e 9999
  obtain ⟨a, b, c⟩ := h3 x hx
  refine ⟨x.g, ?_, a, (Array.getElem?_eq_some_iff.1 c).1, CF_row c hfl⟩
  simp [Instr.lookup, run_underlying hm, MapKept.run_getObj_map h2, hck, hf, Et.ent, Result.andThen]
/-- looked up, in whatever world behind -/
theorem GMap.look_all {P : Program} {mt kt st : TypeId} (h : GMap ET base Mp T w) (hm : P.underlying mt = some (.map kt st)) (hk : P.underlying kt = some (.int .i64)) {k : Int} {f : List FuncId} (hl : lookF T k = some f) (hfl : f.length ≤ 1000000) :
    ∃ g, g < w.heap.size ∧ CF.At w (some ⟨g, 0, none⟩) f.length f ∧ ∀ W, Below w.heap.size w W → (Instr.lookup mt (.map (some Mp)) (.int .i64 k) true).run P W = .ok (.tuple #[.slice (some ⟨g, 0, none⟩) f.length f.length, .bool true]) W := by
  obtain ⟨_, es, clock, rfl, h2, h3⟩ := h
  obtain ⟨j, x, hx, e1, rfl⟩ := findE_some es k 0 f hl
  obtain ⟨a, b, c⟩ := h3 x hx
  refine ⟨x.g, (Array.getElem?_eq_some_iff.1 c).1, CF_row c hfl, fun W hW => ?_⟩
  have h2' := (hW.block Mp (Array.getElem?_eq_some_iff.1 h2).1).trans h2
  have hf := run_findKey (P := P) (w := W) hk (findNow_E k es 0)
  rw [e1] at hf
  have hck := fun e => MapKept.run_checkKey (P := P) (w := W) (kt := kt) (k := .int .i64 k) hk rfl e 9999
  simp [Instr.lookup, run_underlying hm, MapKept.run_getObj_map h2', hck, hf, Et.ent, Result.andThen]
/-- one more -/
theorem GMap.insert {P : Program} {mt kt st : TypeId} (h : GMap ET base Mp T w) (hm : P.underlying mt = some (.map kt st)) (hk : P.underlying kt = some (.int .i64)) {k : Int} (hl : lookF T k = none) {g : Nat} {fns : List FuncId} (hg : w.heap[g]? = some (.cells (CF.cells fns).toArray ET (0, 0))) (hb : base ≤ g) (hne : g ≠ Mp) :
    ∃ w', (Instr.mapUpdate mt (.map (some Mp)) (.int .i64 k) (.slice (some ⟨g, 0, none⟩) fns.length fns.length)).run P w = .ok () w' ∧ GMap ET base Mp (T ++ [(k, fns)]) w' ∧ But (fun b => b = Mp) w w' ∧ w'.heap.size = w.heap.size := by
  obtain ⟨h0, es, clock, rfl, h2, h3⟩ := h
  have hf := run_findKey (P := P) (w := w) hk (findNow_E k es 0)
  rw [findE_none es k 0 hl] at hf
  have hck := fun e => MapKept.run_checkKey (P := P) (w := w) (kt := kt) (k := .int .i64 k) hk rfl e 9999
  obtain ⟨y, hy⟩ : ∃ y : Et, y = ⟨k, fns, g, clock⟩ := ⟨_, rfl⟩
  refine ⟨{ w with heap := w.heap.setIfInBounds Mp (.map ((es ++ [y]).map Et.ent).toArray (clock + 1)) }, ?_, ⟨h0, es ++ [y], clock + 1, by simp [hy, Et.tab], (heap_set h2).1, fun x hx => ?_⟩, ⟨rfl, rfl, rfl, by simp, fun b _ e => (heap_set h2).2 b e⟩, by simp⟩
  · simp [Instr.mapUpdate, run_underlying hm, MapKept.run_getObj_map h2, hck, hf, MapKept.run_setObj_map _ h2, Et.ent, hy, Result.andThen]
  · rcases List.mem_append.1 hx with hx | hx
    · obtain ⟨a, b, c⟩ := h3 x hx
      exact ⟨a, b, ((heap_set h2).2 _ b).trans c⟩
    · obtain rfl : x = y := by simpa using hx
      subst hy
      exact ⟨hb, hne, ((heap_set h2).2 _ hne).trans hg⟩
end
end Go.Proofs.Ytdpfmaikijilkaa
