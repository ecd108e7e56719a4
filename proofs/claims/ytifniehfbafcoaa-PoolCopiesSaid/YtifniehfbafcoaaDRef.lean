/-
  The document's pool in memory; the walk of its At.
-/
import Derived.Test.YtifniehfbafcoaaPTakeB
import Derived.Test.YtifniehfbafcoaaGDuo
namespace Go.Proofs.Ytifniehfbafcoaa
open Go Go.RowKit Go.Lib Go.Sort Go.Proofs

/-- the document's pool at R, its row, its list, how many were put; within S -/
def Rf (w : World) (R : Nat) (S : Nat → Prop) (x : List Ms × Nat) : Prop :=
  ∃ v, w.heap[R]? = some (.cells #[v, .int .i64 (x.2 : Nat)] 29 (0, 0)) ∧ MsC.Own 36 0 w v x.1 ∧ S R ∧ (∀ b, S b → b < w.heap.size) ∧ (∀ b, v.ownBlock = some b → S b ∧ b ≠ R) ∧ x.1.length ≤ 1000000 ∧ x.2 ≤ 1000000
def rfT : Thing (List Ms × Nat) where
  at_ := Rf
  lt := fun ⟨_, _, _, _, h, _⟩ => h
  but := fun ⟨v, hR, hO, hSR, hSl, hSB, h1, h2⟩ hb hT =>
    ⟨v, (hb.block _ (hSl _ hSR) (hT _ hSR)).trans hR, hO.but hb fun b e => hT b (hSB b e).1, hSR, fun b hb' => Nat.lt_of_lt_of_le (hSl b hb') hb.size, hSB, h1, h2⟩
theorem Rf.below {w w' : World} {R : Nat} {S : Nat → Prop} {x : List Ms × Nat} (h : Rf w R S x) (hb : Below w.heap.size w w') : Rf w' R S x := Thing.below (A := rfT) h hb
theorem Rf.wide {w : World} {R : Nat} {S T : Nat → Prop} {x : List Ms × Nat} (h : Rf w R S x) (h1 : ∀ b, S b → T b) (h2 : ∀ b, T b → b < w.heap.size) : Rf w R T x := by
  obtain ⟨v, hR, hO, hSR, hSl, hSB, r⟩ := h
  exact ⟨v, hR, hO, h1 _ hSR, h2, fun b e => ⟨h1 _ (hSB b e).1, (hSB b e).2⟩, r⟩
theorem Rf.open {w : World} {R : Nat} {S : Nat → Prop} {x : List Ms × Nat} (h : Rf w R S x) : ∃ a n c, w.heap[R]? = some (.cells #[.slice a n c, .int .i64 (x.2 : Nat)] 29 (0, 0)) ∧ n = x.1.length ∧ n ≤ c ∧ MsC.At w a n x.1 ∧ ((a = none ∧ x.1 = [] ∧ c = 0) ∨ ∃ g, a = some ⟨g, 0, none⟩ ∧ S g ∧ g ≠ R) := by
  obtain ⟨v, hR, hO, hSR, hSl, hSB, h1, h2⟩ := h
  obtain ⟨a, c, rfl, hc, hA, hb, hn⟩ := hO.at_ h1
  refine ⟨a, _, c, hR, rfl, hc, hA, ?_⟩
  rcases hn with hn | ⟨g, rfl⟩
  · exact .inl hn
  · exact .inr ⟨g, rfl, hSB g rfl⟩
/-- it has another row now, and other blocks behind all may have turned -/
theorem rf_end {w w5 w' : World} {R : Nat} {S : Nat → Prop} {x : List Ms × Nat} {L' : List Ms} {v5 : Value} {D : Nat → Prop} (h : Rf w R S x) (hb : Below w.heap.size w w5) (hl : L'.length ≤ 1000000) (ho : MsC.Own 36 w.heap.size w5 v5 L') (hB : But D (w5.setCell ⟨R, 0, none⟩ v5) w') (hD : ∀ b, D b → w.heap.size ≤ b ∧ v5.ownBlock ≠ some b) :
    rfT.at_ w' R (Ext S w w') (L', x.2) ∧ But S w w' := by
  obtain ⟨u, hR, hO, hSR, hSl, hSB, h1, h2⟩ := h
  have hRl := hSl _ hSR
  have h5 : w5.heap[R]? = some (.cells #[u, .int .i64 (x.2 : Nat)] 29 (0, 0)) := (hb.block R hRl).trans hR
  have hs := heap_setCell_same w5 R 0 _ _ v5 h5
  have hbs : But S w (w5.setCell ⟨R, 0, none⟩ v5) := (But.of hb).setCell hSR _
  have hne : ∀ b, v5.ownBlock = some b → b ≠ R := fun b e e2 => by have := (ho.lt b e).1; omega
  have hbw : But S w w' := hbs.next hB fun j hj e => absurd hj (Nat.not_lt.2 (hD j e).1)
  have hlt : ∀ b, v5.ownBlock = some b → b < w'.heap.size := fun b e => by
    have h1 := (ho.lt b e).2
    have h2 : (w5.setCell ⟨R, 0, none⟩ v5).heap.size = w5.heap.size := by simp [World.setCell]
    have := hB.size
    omega
  refine ⟨⟨v5, ?_, ((ho.mono (Nat.zero_le _)).but ((But.refl (fun b => b = R) w5).setCell rfl _) (fun b e => hne b e)).but hB fun b e e2 => (hD b e2).2 e, .inl hSR, fun b hb' => ?_, fun b e => ⟨.inr ⟨(ho.lt b e).1, hlt b e⟩, hne b e⟩, hl, h2⟩, hbw⟩
  · rw [hB.block R (Array.getElem?_eq_some_iff.1 hs).1 (fun e => absurd hRl (Nat.not_lt.2 (hD R e).1)), hs]
    rfl
  · rcases hb' with e | e
    · exact Nat.lt_of_lt_of_le (hSl b e) hbw.size
    · exact e.2
/-- so many were put -/
theorem Rf.setN {w : World} {R : Nat} {S : Nat → Prop} {x : List Ms × Nat} (h : Rf w R S x) (n : Nat) (u : Value) (hu : u = .int .i64 (n : Nat)) (hn : n ≤ 1000000) : Rf (w.setCell ⟨R, 1, none⟩ u) R S (x.1, n) ∧ But S w (w.setCell ⟨R, 1, none⟩ u) := by
  subst hu
  obtain ⟨v, hR, hO, hSR, hSl, hSB, h1, h2⟩ := h
  have hs := heap_setCell_same w R 1 _ _ (.int .i64 (n : Nat)) hR
  refine ⟨⟨v, ?_, hO.but ((But.refl (fun b => b = R) w).setCell (p := ⟨R, 1, none⟩) rfl _) (fun b e => (hSB b e).2), hSR, fun b e => ?_, hSB, h1, hn⟩, (But.refl S w).setCell (p := ⟨R, 1, none⟩) hSR _⟩
  · rw [hs]
    rfl
  · simpa [World.setCell] using hSl b e
theorem rf_zero (w : World) : Rf (w.alloc (.cells #[.slice none 0 0, .int .i64 0] 29)) w.heap.size (fun b => b = w.heap.size) ([], 0) :=
  ⟨.slice none 0 0, heap_alloc_new _ _, World.ownsRow_nil _ _ _ _, rfl, fun b h => by subst h; simp, (fun b e => by cases e), Nat.zero_le _, Nat.zero_le _⟩

set_option maxHeartbeats 2000000 in
theorem rat_none {w : World} {R : Nat} {S : Nat → Prop} {x : List Ms × Nat} (h : Rf w R S x) (i : Int) (hi : i < 0 ∨ (x.1.length : Int) ≤ i) : Calls Try.prog 22 #[.pointer (some ⟨R, 0, none⟩), .int .i64 i] w (MsTo msZ 6 w) := by
  have h' : Rf (w.alloc MsZO) R S x := h.below ((Below.refl _ _).alloc (Nat.le_refl _) _)
  obtain ⟨a, n, c, hR, hn0, -⟩ := h'.open
  have r0 : (w.alloc MsZO).cell? ⟨R, 0, none⟩ = some (.slice a n c) := by rw [cell_of_row _ _ _ _ _ _ hR]; rfl
  rw [← hn0] at hi
  clear h h' hR hn0
  by_cases h0 : i < 0
  · clear hi
    go_enter Try.func22, Try.ntmps22
    go_wp2
    exact bodyPost_ret (v := .tuple #[MsV msZ, .int .i64 6]) (by simp [results, Try.results22, go_sem, msZ]) rfl ⟨rfl, (Below.refl _ _).alloc (Nat.le_refl _) _⟩
  · have hd : decide (i ≥ (n : Int)) = true := by simp; omega
    clear hi
    go_enter Try.func22, Try.ntmps22
    go_wp2
    exact bodyPost_ret (v := .tuple #[MsV msZ, .int .i64 6]) (by simp [results, Try.results22, go_sem, msZ]) rfl ⟨rfl, (Below.refl _ _).alloc (Nat.le_refl _) _⟩
set_option maxHeartbeats 2000000 in
theorem rat {w : World} {R : Nat} {S : Nat → Prop} {x : List Ms × Nat} (h : Rf w R S x) (i : Nat) (y : Ms) (hy : x.1[i]? = some y) : Calls Try.prog 22 #[.pointer (some ⟨R, 0, none⟩), .int .i64 i] w (MsTo y 0 w) := by
  have h' : Rf (w.alloc MsZO) R S x := h.below ((Below.refl _ _).alloc (Nat.le_refl _) _)
  obtain ⟨a, n, c, hR, hn0, -, hA, -⟩ := h'.open
  have hin : i < n := by rw [hn0]; exact (List.getElem?_eq_some_iff.1 hy).1
  obtain ⟨B, off, rfl, hB, y', hy', hc⟩ := at_cell hA hin
  obtain rfl : y = y' := by rw [hy] at hy'; exact Option.some.inj hy'
  have r0 : (w.alloc MsZO).cell? ⟨R, 0, none⟩ = some (.slice (some ⟨B, off, none⟩) n c) := by rw [cell_of_row _ _ _ _ _ _ hR]; rfl
  obtain ⟨x0, x1, x2, x3, x4, x5, x6, x7, x8, x9⟩ := ten hc
  obtain ⟨f, f0, f1, f2, f3, f4, f5, f6, f7, f8, f9⟩ := box_here (x := msZ) (heap_alloc_new w MsZO)
  have hd : decide ((i : Int) ≥ (n : Int)) = false := by simp; omega
  have h0 : ¬ (i : Int) < 0 := by omega
  have hiz : (i : Int) < (n : Int) := by omega
  have hni : ¬ n ≤ i := by omega
  clear h h' hR hn0 hA hy hy' hc f
  go_enter Try.func22, Try.ntmps22
  go_wp2
  exact bodyPost_ret (v := .tuple #[MsV y, .int .i64 0]) (by simp [results, Try.results22, go_sem]) rfl ⟨rfl, (Below.refl _ _).alloc (Nat.le_refl _) _⟩
end Go.Proofs.Ytifniehfbafcoaa
