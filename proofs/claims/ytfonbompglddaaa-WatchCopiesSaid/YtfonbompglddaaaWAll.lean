/-
  All, walked: a closure over what is there now.
-/
import Derived.Test.YtfonbompglddaaaWSort
import Derived.Test.YtfonbompglddaaaWIter
namespace Go.Proofs.Ytfonbompglddaaa
open Go Go.Shelf Go.RowKit Go.Lib Go.Sort Go.Proofs

/-- what All tells -/
def AllTo (L : List On) (w : World) (e : Ending) (w' : World) : Prop :=
  ∃ S0 S1 a c, e = .returned (.func (.func 35) #[] #[.pointer (some ⟨S0, 0, none⟩), .pointer (some ⟨S1, 0, none⟩)]) ∧ w'.heap[S0]? = some (.cells #[.slice a L.length c] suT (0, 0)) ∧ It w' (fun b => w.heap.size ≤ b ∧ b < w'.heap.size) a S1 L ∧ Below w.heap.size w w' ∧ w.heap.size ≤ S0
set_option maxHeartbeats 2000000 in
theorem all_any {w : World} {G : Nat} {F : Nat → Prop} {L : List On} (h : Wt w G F L) : Calls Try.prog 28 #[.pointer (some ⟨G, 0, none⟩)] w (AllTo L w) := by
  obtain ⟨w1, hw1⟩ : ∃ w1, w1 = w.alloc (.cells #[.map none] mT) := ⟨_, rfl⟩
  have hb1 : Below w.heap.size w w1 := by rw [hw1]; exact (Below.refl _ _).alloc (Nat.le_refl _) _
  have hbz : w1.heap[w.heap.size]? = some (.cells #[.map none] mT (0, 0)) := by rw [hw1]; exact heap_alloc_new _ _
  have hsz : w1.heap.size = w.heap.size + 1 := by rw [hw1]; simp
  obtain ⟨m, c0, -, -, h2⟩ := (h.below hb1).cell
  have HM : Hid ((m = none ∧ L = []) ∨ ∃ M, m = some M ∧ MapL w1 M L) := by
    rcases h2 with h2 | ⟨M, e, -, hM⟩
    · exact .inl h2
    · exact .inr ⟨M, e, hM⟩
  have H1 := Lib.hid (And.intro hb1 (And.intro hbz hsz))
  have HL : Hid (Wl L) := h.wl
  have HW := Lib.hid hw1
  have c0' : (w.alloc (.cells #[.map none] mT)).cell? ⟨G, 0, none⟩ = some (.map m) := by rw [← hw1]; exact c0
  clear h h2 hb1 hbz hsz c0 hw1
  go_enter Try.func28, Try.ntmps28
  go_wp2_with (first
    | (go_at_call 29; (rw [← HW.out]); refine (clone_any HM.out).mono ?_; rintro e w2 ⟨m', rfl, k1, k2⟩; have H2 := Lib.hid (And.intro k1 k2); have e2 : w2.heap[w.heap.size]? = some (.cells #[.map none] mT (0, 0)) := (k2.block _ (by have := H1.out.2.2; omega)).trans H1.out.2.1; have p0 : w2.cell? ⟨w.heap.size, 0, none⟩ = some (.map none) := (cell_of_row _ _ _ _ _ _ e2).trans rfl; have pf : w2.frozen? ⟨w.heap.size, 0, none⟩ = false := frozen_of_row _ _ _ _ _ e2; have HE := Lib.hid e2; clear k1 k2 e2)
    | (go_at_call 34; refine Hid.out ?_))
  obtain ⟨w3, hw3⟩ : ∃ w3, w3 = w2.setCell ⟨w.heap.size, 0, none⟩ (.map m') := ⟨_, rfl⟩
  rw [← hw3]
  have hb3 : But (fun b => b = w.heap.size) w2 w3 := by rw [hw3]; exact (But.refl (fun b => b = w.heap.size) _).setCell (p := ⟨w.heap.size, 0, none⟩) rfl _
  have e3 : w3.heap[w.heap.size]? = some (.cells #[.map m'] mT (0, 0)) := by
    rw [hw3, heap_setCell_same _ _ 0 _ _ _ HE.out]
    rfl
  have hw13 : Below w.heap.size w w3 := (H1.out.1.trans (H2.out.2.mono (by have := H1.out.2.2; omega))).trans (hb3.below (by have := H2.out.2.size; have := H1.out.2.2; omega) fun k e => by omega)
  have hm3 : (m' = none ∧ L = []) ∨ ∃ M, m' = some M ∧ w.heap.size ≤ M ∧ MapL w3 M L := by
    rcases H2.out.1 with ⟨-, e, e2, -⟩ | ⟨e, hM⟩
    · exact .inl ⟨e, e2⟩
    · exact .inr ⟨_, e, by have := H1.out.2.2; omega, hM.same (hb3.block _ hM.lt (by have := H1.out.2.2; omega))⟩
  have H3 := Lib.hid (And.intro e3 (And.intro hw13 hm3))
  clear hw3 hb3 e3 hw13 hm3 p0 pf
  refine Lib.hid ?_
  refine (keys_any w3 m').mono ?_
  rintro e w4 ⟨rfl, rfl⟩
  have hmb : MBox (w3.alloc (.cells #[.map m'] mT)) w3.heap.size L := by
    refine ⟨m', heap_alloc_new _ _, ?_⟩
    rcases H3.out.2.2 with h | ⟨M, e, -, hM⟩
    · exact .inl h
    · exact .inr ⟨M, e, hM.same (heap_alloc_old _ _ hM.lt)⟩
  have HMB := Lib.hid hmb
  clear hmb
  go_wp2_with (go_at_call 33; refine (sorted_any _ _ L HL.out HMB.out).mono ?_; rintro e w5 ⟨v, rfl, k1, k2⟩; obtain ⟨a, nv, c, rfl⟩ := k1.shape; have H5 := Lib.hid (And.intro k1 k2); clear k1 k2)
  go_ret
  obtain ⟨k1, k2⟩ := H5.out
  obtain ⟨a2, c2, hv, hc, hat, hbk, hn⟩ := k1.at_ (by have := HL.out.le; simp; omega)
  cases hv
  have hz4 : w3.heap.size + 1 ≤ w5.heap.size := by have := k2.size; simpa using this
  have hz3 : w.heap.size < w3.heap.size := (Array.getElem?_eq_some_iff.1 H3.out.1).1
  have hb35 : Below w3.heap.size w3 w5 := ((Below.refl _ _).alloc (Nat.le_refl _) _).trans (k2.mono (by simp))
  have hlen : (ids L).length = L.length := by simp
  rw [hlen] at hat
  refine ⟨w5.heap.size, w.heap.size, a, c, rfl, by rw [hlen]; exact heap_alloc_new _ _, ⟨?_, fun p e => ?_, ⟨Nat.le_refl _, by simp; omega⟩, ⟨m', ?_, ?_⟩, fun b e => e.2⟩, ?_, by omega⟩
  · rw [hlen]
    exact hat.below ((Below.refl _ _).alloc (Nat.le_refl _) _)
  · rcases hn with ⟨e2, -⟩ | ⟨g, e2⟩
    · rw [e2] at e; cases e
    · rw [e2] at e
      cases e
      have := hbk g (by rw [e2]; rfl)
      have hlt := (k1.lt g (by rw [e2]; rfl)).2
      have hg := this.2
      rw [World.size_alloc] at hg
      show w.heap.size ≤ g ∧ g < _
      refine ⟨by omega, ?_⟩
      rw [World.size_alloc]
      omega
  · refine (heap_alloc_old _ _ (by omega)).trans ((hb35.block _ hz3).trans H3.out.1)
  · rcases H3.out.2.2 with h | ⟨M, e, hMl, hM⟩
    · exact .inl h
    · have hM5 := hM.same (hb35.block _ hM.lt)
      refine .inr ⟨M, e, ⟨hMl, ?_⟩, hM5.same (heap_alloc_old _ _ hM5.lt)⟩
      have := hM5.lt
      simp
      omega
  · exact (H3.out.2.1.trans (hb35.mono (by omega))).alloc (by omega) _
end Go.Proofs.Ytfonbompglddaaa
