/-
  Rows of instructions, and of kinds, that a call makes by append.
-/
import Derived.Test.YtlgbkbmjfmomkaaDoorH6
import Derived.Test.YtlgbkbmjfmomkaaDoorG5
namespace Go.Proofs.YtlgbkbmjfmomkaaDoor
open Go.RowKit CodM

/-- a row of instructions of the call's own, from B on -/
abbrev IOwn (B : Nat) (w : World) (v : Value) (l : List Ins) : Prop := w.ownsRow B 49 2 v l.length (insCells l)
theorem IOwn.alloc {B : Nat} {w : World} {v : Value} {l : List Ins} (h : IOwn B w v l) (o : Obj) : IOwn B (w.alloc o) v l := World.ownsRow.alloc h o
theorem IOwn.set {B : Nat} {w : World} {v : Value} {l : List Ins} (h : IOwn B w v l) (X j : Nat) (u : Value) (hne : ∀ k, v.ownBlock = some k → k ≠ X) : IOwn B (w.setCell ⟨X, j, none⟩ u) v l := by
  obtain ⟨h1, h2⟩ := h
  refine ⟨h1, ?_⟩
  rcases h2 with h2 | ⟨g, cap, cur, e, hg, hh, r⟩
  · exact .inl h2
  · refine .inr ⟨g, cap, cur, e, hg, ?_, r⟩
    rw [Below.heap_setCell _ _ _ _ (hne g (by rw [e]; rfl))]
    exact hh
theorem insCells_snoc (l : List Ins) (x : Ins) : insCells l ++ [.int .i64 x.1, .int .i64 x.2] = insCells (l ++ [x]) := by simp [insCells]
theorem IOwn.of {B n : Nat} {w : World} {v : Value} {l : List Ins} {xs : List Value} (h : w.ownsRow B 49 2 v n xs) (hn : n = l.length) (hx : xs = insCells l) : IOwn B w v l := by subst hn; subst hx; exact h
theorem IOwn.next {B : Nat} {w w' : World} {v : Value} {l : List Ins} (h : IOwn B w v l) (hb : Below w.heap.size w w') : IOwn B w' v l := by
  obtain ⟨h1, h2⟩ := h
  refine ⟨h1, ?_⟩
  rcases h2 with h2 | ⟨g, cap, cur, e, hg, hh, r⟩
  · exact .inl h2
  · exact .inr ⟨g, cap, cur, e, hg, (hb.block g (heap_lt hh)).trans hh, r⟩
theorem IOwn.but {S : Nat → Prop} {B : Nat} {w w' : World} {v : Value} {l : List Ins} (h : IOwn B w v l) (hb : But S w w') (hs : ∀ k cur, S k → w.heap[k]? ≠ some (.cells cur 49 (0, 0))) : IOwn B w' v l := by
  obtain ⟨h1, h2⟩ := h
  refine ⟨h1, ?_⟩
  rcases h2 with h2 | ⟨g, cap, cur, e, hg, hh, r⟩
  · exact .inl h2
  · exact .inr ⟨g, cap, cur, e, hg, hb.heap hh (fun s => hs g cur s hh), r⟩
/-- behind an append to a row of instructions: a block of another type reads as it did -/
theorem IOwn.keep {B : Nat} {w w' : World} {v : Value} {l : List Ins} (h : IOwn B w v l) (hg : w.grownBy w' v.ownBlock) {g : Nat} {cs : Array Value} {t : TypeId} {fr : Nat × Nat} (hh : w.heap[g]? = some (.cells cs t fr)) (ht : t ≠ 49) : w'.heap[g]? = some (.cells cs t fr) := by
  rw [hg.block g (heap_lt hh) ?_]
  · exact hh
  · intro e
    rcases h.2 with ⟨rfl, _⟩ | ⟨g', cap, cur, rfl, _, hg', _⟩
    · simp [Value.ownBlock] at e
    · simp [Value.ownBlock] at e
      subst e
      rw [hh] at hg'
      cases hg'
      exact ht rfl
theorem IOwn.grown {B : Nat} {w w1 w' : World} {v : Value} {l : List Ins} (h : IOwn B w1 v l) (hb : Below B w w1) (hB : B ≤ w1.heap.size) (hg : w1.grownBy w' v.ownBlock) : Below B w w' :=
  hb.grown hg hB (fun k hk => (World.ownsRow.lt h k hk).1)
theorem two_cells (w : World) (x y : Value) (t : TypeId) (fr : Nat × Nat) : ∀ j u', [x, y][j]? = some u' → (w.alloc (.cells #[x, y] t fr)).cell? ((⟨w.heap.size, 0, none⟩ : Addr).add j) = some u' := by
  intro j u' hj
  have hh : (w.alloc (.cells #[x, y] t fr)).heap[w.heap.size]? = some (.cells #[x, y] t fr) := heap_alloc_new _ _
  have hadd : (⟨w.heap.size, 0, none⟩ : Addr).add j = ⟨w.heap.size, j, none⟩ := by unfold Addr.add; split <;> simp_all
  rw [hadd, cell_of_row _ _ _ _ _ _ hh]
  simpa using hj
theorem one_val (w : World) (x : Value) (t : TypeId) (fr : Nat × Nat) : ∀ j u', [x][j]? = some u' → (w.alloc (.cells #[x] t fr)).cell? ((⟨w.heap.size, 0, none⟩ : Addr).add j) = some u' := by
  intro j u' hj
  have hh : (w.alloc (.cells #[x] t fr)).heap[w.heap.size]? = some (.cells #[x] t fr) := heap_alloc_new _ _
  have hadd : (⟨w.heap.size, 0, none⟩ : Addr).add j = ⟨w.heap.size, j, none⟩ := by unfold Addr.add; split <;> simp_all
  rw [hadd, cell_of_row _ _ _ _ _ _ hh]
  simpa using hj
theorem two_one (a b : Int) : ∀ u ∈ [Value.int .i64 a, .int .i64 b], u.oneCell' = true := by intro u hu; simp at hu; rcases hu with rfl | rfl <;> rfl
theorem sl_one (a : Option Addr) (n c : Nat) : ∀ u ∈ [Value.slice a n c], u.oneCell' = true := by intro u hu; simp at hu; subst hu; rfl

/-- slices' values read as kinds, each in a block of its own, from B on -/
def KV (B : Nat) (w : World) (vs : List Value) (ks : List (List Ins)) : Prop :=
  vs.length = ks.length ∧ ∀ j, j < ks.length → ∃ a' n' c', vs[j]? = some (.slice a' n' c') ∧ SlOk a' n' c' ∧ InsOwn B w a' n' (ks.getD j [])
/-- a row of kinds of the call's own, from B on -/
def KRow (B : Nat) (w : World) (v : Value) (vs : List Value) (ks : List (List Ins)) : Prop := w.ownsRow B 46 1 v ks.length vs ∧ KV B w vs ks
theorem KV.nil (B : Nat) (w : World) : KV B w [] [] := ⟨rfl, fun j hj => by simp at hj⟩
theorem KV.but {S : Nat → Prop} {B : Nat} {w w' : World} {vs : List Value} {ks : List (List Ins)} (h : KV B w vs ks) (hb : But S w w') (hs : ∀ k cur, S k → w.heap[k]? ≠ some (.cells cur 49 (0, 0))) : KV B w' vs ks := by
  refine ⟨h.1, fun j hj => ?_⟩
  obtain ⟨a', n', c', e1, e2, ⟨e3, e4⟩⟩ := h.2 j hj
  refine ⟨a', n', c', e1, e2, ?_⟩
  rcases e4 with e4 | ⟨G, cur, rfl, hG, hh⟩
  · exact ⟨⟨e3.1, e3.2.1, e3.2.2.1, .inl e4⟩, .inl e4⟩
  · have hh' := hb.heap hh (fun s => hs G cur s hh)
    have hbl : w'.heap[G]? = w.heap[G]? := hh'.trans hh.symm
    refine ⟨⟨e3.1, e3.2.1, e3.2.2.1, ?_⟩, .inr ⟨G, cur, rfl, hG, hh'⟩⟩
    rcases e3.2.2.2 with h4 | ⟨B', off, e, hB, hc⟩
    · exact .inl h4
    · cases e
      exact .inr ⟨G, 0, rfl, heap_lt hh', fun i hi => ⟨(World.cell?_of_block (a := ⟨G, 0 + i * 2, none⟩) hbl).trans (hc i hi).1, (World.cell?_of_block (a := ⟨G, 0 + i * 2 + 1, none⟩) hbl).trans (hc i hi).2⟩⟩
theorem KRow.but {S : Nat → Prop} {B : Nat} {w w' : World} {v : Value} {vs : List Value} {ks : List (List Ins)} (h : KRow B w v vs ks) (hb : But S w w') (hs : ∀ k cur, S k → w.heap[k]? ≠ some (.cells cur 49 (0, 0))) (hs2 : ∀ k cur, S k → w.heap[k]? ≠ some (.cells cur 46 (0, 0))) : KRow B w' v vs ks := by
  refine ⟨⟨h.1.1, ?_⟩, h.2.but hb hs⟩
  rcases h.1.2 with h2 | ⟨g, cap, cur, e, hg, hh, r⟩
  · exact .inl h2
  · exact .inr ⟨g, cap, cur, e, hg, hb.heap hh (fun s => hs2 g cur s hh), r⟩
theorem KRow.next {B : Nat} {w w' : World} {v : Value} {vs : List Value} {ks : List (List Ins)} (h : KRow B w v vs ks) (hb : Below w.heap.size w w') : KRow B w' v vs ks :=
  h.but (S := fun _ => False) (But.of hb) (fun _ _ h => h.elim) (fun _ _ h => h.elim)
theorem KRow.keep {B : Nat} {w w' : World} {v : Value} {vs : List Value} {ks : List (List Ins)} (h : KRow B w v vs ks) (hg : w.grownBy w' v.ownBlock) {g : Nat} {cs : Array Value} {t : TypeId} {fr : Nat × Nat} (hh : w.heap[g]? = some (.cells cs t fr)) (ht : t ≠ 46) : w'.heap[g]? = some (.cells cs t fr) := by
  rw [hg.block g (heap_lt hh) ?_]
  · exact hh
  · intro e
    rcases h.1.2 with ⟨rfl, _⟩ | ⟨g', cap, cur, rfl, _, hg', _⟩
    · simp [Value.ownBlock] at e
    · simp [Value.ownBlock] at e
      subst e
      rw [hh] at hg'
      cases hg'
      exact ht rfl
theorem KRow.grown {B : Nat} {w w1 w' : World} {v : Value} {vs : List Value} {ks : List (List Ins)} (h : KRow B w1 v vs ks) (hb : Below B w w1) (hB : B ≤ w1.heap.size) (hg : w1.grownBy w' v.ownBlock) : Below B w w' :=
  hb.grown hg hB (fun k hk => (World.ownsRow.lt h.1 k hk).1)
theorem KRow.snoc {B : Nat} {w w' : World} {v v' : Value} {vs : List Value} {ks : List (List Ins)} (h : KRow B w v vs ks) {a : Option Addr} {n c : Nat} {xs : List Ins} (ho : w'.ownsRow B 46 1 v' (ks.length + 1) (vs ++ [.slice a n c])) (hg : w.grownBy w' v.ownBlock) (hsl : SlOk a n c) (hx : InsOwn B w a n xs) :
    KRow B w' v' (vs ++ [.slice a n c]) (ks ++ [xs]) := by
  have hbut : But (fun k => some k = v.ownBlock) w w' := ⟨hg.os, hg.tape, hg.output, hg.size, fun k hk hs => hg.block k hk hs⟩
  have hne : ∀ k cur, some k = v.ownBlock → w.heap[k]? ≠ some (.cells cur 49 (0, 0)) := by
    intro k cur e hh
    rcases h.1.2 with ⟨rfl, _⟩ | ⟨g', cap, cur', rfl, _, hg', _⟩
    · simp [Value.ownBlock] at e
    · simp [Value.ownBlock] at e
      subst e
      rw [hh] at hg'
      cases hg'
  have hk := h.2.but hbut hne
  have hx' : KV B w' [.slice a n c] [xs] := KV.but (w := w) ⟨rfl, fun j hj => by
    obtain rfl : j = 0 := by simp at hj; exact hj
    exact ⟨a, n, c, rfl, hsl, by simpa using hx⟩⟩ hbut hne
  refine ⟨by simpa using ho, by simp [hk.1], fun j hj => ?_⟩
  by_cases hj' : j < ks.length
  · obtain ⟨a', n', c', e1, e2, e3⟩ := hk.2 j hj'
    refine ⟨a', n', c', by rw [List.getElem?_append_left (by rw [hk.1]; exact hj')]; exact e1, e2, ?_⟩
    rw [show (ks ++ [xs]).getD j [] = ks.getD j [] from by simp [List.getD, List.getElem?_append_left hj']]
    exact e3
  · obtain rfl : j = ks.length := by simp at hj; omega
    obtain ⟨a', n', c', e1, e2, e3⟩ := hx'.2 0 (by simp)
    refine ⟨a', n', c', ?_, e2, ?_⟩
    · rw [List.getElem?_append_right (by rw [hk.1]; exact Nat.le_refl _), hk.1, Nat.sub_self]; exact e1
    · rw [show (ks ++ [xs]).getD ks.length [] = xs from by simp [List.getD]]
      exact e3
theorem KRow.cop {B : Nat} {w : World} {v : Value} {vs : List Value} {ks : List (List Ins)} (h : KRow B w v vs ks) : ∃ a c, v = .slice a ks.length c ∧ SlOk a ks.length c ∧ Cop B w a ks.length ks := by
  obtain ⟨h1, ⟨rfl, hn⟩ | ⟨g, cap, cur, rfl, hg, hh, hc, _, hs, ht⟩⟩ := h.1
  · exact ⟨none, 0, by rw [hn], ⟨by omega, fun _ => rfl⟩, ⟨rfl, .inl hn⟩⟩
  · refine ⟨_, cap, rfl, ⟨hc, fun e => by cases e⟩, ⟨rfl, .inr ⟨g, cur, rfl, hg, hh, fun i hi => ?_⟩⟩⟩
    obtain ⟨a', n', c', e1, e2, e3⟩ := h.2.2 i hi
    refine ⟨a', n', c', ?_, e2, e3⟩
    have : cur[i]? = vs[i]? := by
      rw [← ht, List.getElem?_take, if_pos (by omega)]
      simp
    rw [this]
    exact e1
theorem KRow.kinds {B : Nat} {w : World} {v : Value} {vs : List Value} {ks : List (List Ins)} (h : KRow B w v vs ks) (hm : ks.length ≤ 9223372036854775807) : ∃ a c, v = .slice a ks.length c ∧ SlOk a ks.length c ∧ Cop B w a ks.length ks ∧ KindsAt w a ks.length ks := by
  obtain ⟨a, c, h1, h2, h3⟩ := h.cop
  exact ⟨a, c, h1, h2, h3, h3.kinds hm⟩
end Go.Proofs.YtlgbkbmjfmomkaaDoor
