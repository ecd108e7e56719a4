/-
  The region of the law ModelCopies that copies a model and a state: what it leaves.
-/
import Derived.Test.YtclbbpkphfllbaaDoorMoReg5
namespace Go.Proofs.YtclbbpkphfllbaaDoor
open Go Go.RowKit Go.Sort Go.Proofs CodM VmM

theorem Ag.peel {d : Nat} {D : List Nat} {a0 a : Act} (h : Ag (d :: D) a0 a) (hd : d < a0.tmps.size) : Ag D (a0.put (some d) (a.eval (.tmp d))) a := by
  refine ⟨h.size.trans (Act.size_put ..).symm, h.defers.trans (Act.defers_put' ..).symm, fun t ht => ?_⟩
  simp only [Act.put]
  by_cases e : d = t
  · subst e
    have hd' : d < a.tmps.size := by rw [h.size]; exact hd
    rw [Array.getElem?_setIfInBounds_self_of_lt hd, Array.getElem?_eq_getElem hd']
    simp [Act.eval, hd']
  · rw [Array.getElem?_setIfInBounds_ne e]
    exact h.same t (by simp only [List.mem_cons, not_or]; exact ⟨fun e2 => e e2.symm, ht⟩)
theorem Ag.eq {a0 a : Act} (h : Ag [] a0 a) : a = a0 := by
  obtain ⟨t, d⟩ := a
  obtain ⟨t0, d0⟩ := a0
  obtain ⟨_, rfl, h2⟩ := h
  have : t = t0 := Array.ext_getElem? fun i => h2 i (by simp)
  rw [this]
theorem CopPs.mono {B B' : Nat} {w : World} {a : Option Addr} {n : Nat} {l : List Pm} (h : CopPs B w a n l) (hB : B' ≤ B) : CopPs B' w a n l := by
  obtain ⟨h1, h2 | ⟨G, cur, rfl, hG, hh, hc⟩⟩ := h
  · exact ⟨h1, .inl h2⟩
  · refine ⟨h1, .inr ⟨G, cur, rfl, by omega, hh, fun i x hx => ?_⟩⟩
    obtain ⟨a, n, c, va, vc, c0, c1, c2, c3, h4, h5, h6⟩ := hc i x hx
    exact ⟨a, n, c, va, vc, c0, c1, c2, c3, h4, h5.mono hB, h6.mono hB⟩
theorem F1.mono {w0 W w : World} {n fn : Nat} {ps : List Pm} {es : List Ev} {e : Value} (h : F1 W n fn ps es e w) (hB : w0.heap.size ≤ W.heap.size) : F1 w0 n fn ps es e w := by
  obtain ⟨a, c, fa, fc, h1, h2, h3⟩ := h
  exact ⟨a, c, fa, fc, h1, h2.mono hB, h3.mono hB⟩
theorem F3.mono {w0 W w : World} {vn : Nat} {lx : List Int} {s1 d1 : Int} {e : Value} (h : F3 W vn lx s1 d1 e w) (hB : w0.heap.size ≤ W.heap.size) : F3 w0 vn lx s1 d1 e w := by
  obtain ⟨a, c, h1, h2⟩ := h
  exact ⟨a, c, h1, h2.mono hB⟩
set_option maxHeartbeats 2000000 in
set_option maxRecDepth 100000 in
theorem region5 {id : Nat} {Q : Exit → Act → World → Prop} {a0 : Act} {w : World} (hz : 58 ≤ a0.tmps.size) {G H n fn vn : Nat} {A0 A1 S0 : Value} {ps : List Pm} {es : List Ev} {lx : List Int} {s1 d1 : Int}
    (h4 : a0.eval (.tmp 4) = .pointer (some ⟨G, 0, none⟩)) (h6 : a0.eval (.tmp 6) = .pointer (some ⟨H, 0, none⟩)) (hA : w.heap[G]? = some (.cells #[A0, A1] 27 (0, 0))) (hS : w.heap[H]? = some (.cells #[S0, .int .i64 s1, .int .i64 d1] 38 (0, 0)))
    (HC : ∀ W, Below w.heap.size w W → Calls Tryd.prog 14 #[.agg #[A0, A1]] W (fun e w' => ∃ u, e = .returned u ∧ F1 W n fn ps es u w' ∧ Below W.heap.size W w'))
    (HCS : ∀ W, Below w.heap.size w W → Calls Tryd.prog 15 #[.agg #[S0, .int .i64 s1, .int .i64 d1]] W (fun e w' => ∃ u, e = .returned u ∧ F3 W vn lx s1 d1 u w' ∧ Below W.heap.size W w'))
    (hQ : ∀ (v54 v56 : Value) (g9 g10 : Nat) (a fa sa : Option Addr) (c fc sc : Nat) (w' : World), w.heap.size ≤ g9 → w.heap.size ≤ g10 → g9 ≠ g10 → w'.heap[g9]? = some (mB a n c fa fn fc) → w'.heap[g10]? = some (sB sa vn sc s1 d1) →
      CopPs w.heap.size w' a n ps → CEv.Own 55 w.heap.size w' (.slice fa fn fc) es → CV.Own 2 w.heap.size w' (.slice sa vn sc) lx → Below w.heap.size w w' →
      Q .normal ((((((a0.put (some 9) (.pointer (some ⟨g9, 0, none⟩))).put (some 10) (.pointer (some ⟨g10, 0, none⟩))).put (some 54) v54).put (some 55) (.agg #[.slice a n c, .slice fa fn fc])).put (some 56) v56).put (some 57) (.agg #[.slice sa vn sc, .int .i64 s1, .int .i64 d1])) w') :
    (Code.region id ops5.toArray true).wp Tryd.prog Q a0 w := by
  refine wp_region_inv (by kernel_rfl) (J5 w a0 #[A0, A1] #[S0, .int .i64 s1, .int .i64 d1] n fn vn ps es lx s1 d1) ?_ ?_ ?_ ?_
  · intro i o ho e he _
    rcases i with _ | _ | _ | _ | _ | _ | _ | _ | i <;> simp at ho <;> subst ho <;> simp at he <;> (try (rcases he with h | h | h | h | h | h | h | h | h | h <;> subst h <;> decide)) <;> (try (rcases he with h | h | h | h | h | h | h | h | h <;> subst h <;> decide)) <;> (try (rcases he with h | h <;> subst h <;> decide)) <;> (try (subst he; decide))
  · intro i o L a W ho hs hi haf hJ
    rcases i with _ | _ | _ | _ | _ | _ | _ | _ | i
    · simp at ho
      subst ho
      rw [if_pos (wanted5 rfl)]
      exact op_load _ (.tmp 4) rfl G ((hJ.ag.eval (by decide)).trans h4) _ _ _ ((hJ.bel.block G (heap_lt hA)).trans hA) Tryd.underlying27 rfl (by kernel_rfl) (hJ.load0 hz)
    · simp at ho
      subst ho
      rw [if_pos (wanted5 rfl)]
      have e54 := hJ.l0 (haf ⟨0, .data⟩ (by simp) rfl)
      refine op_call 14 (.agg #[A0, A1]) ?_ (X := fun u w' => F1 W n fn ps es u w' ∧ Below W.heap.size W w') (HC W hJ.bel) fun u w' ⟨h1, h2⟩ => hJ.call1 hz hi h2 (h1.mono hJ.bel.size)
      have ef : a.eval (.func 14) = .func (.func 14) #[] #[] := rfl
      clear HC HCS hQ hJ
      generalize a.eval = ev at ef e54 ⊢
      go_simp
    · simp at ho
      subst ho
      rw [if_pos (wanted5 rfl)]
      exact op_load _ (.tmp 6) rfl H ((hJ.ag.eval (by decide)).trans h6) _ _ _ ((hJ.bel.block H (heap_lt hS)).trans hS) Tryd.underlying38 rfl (by kernel_rfl) (hJ.load2 hz)
    · simp at ho
      subst ho
      rw [if_pos (wanted5 rfl)]
      have e56 := hJ.l2 (haf ⟨2, .data⟩ (by simp) rfl)
      refine op_call 15 (.agg #[S0, .int .i64 s1, .int .i64 d1]) ?_ (X := fun u w' => F3 W vn lx s1 d1 u w' ∧ Below W.heap.size W w') (HCS W hJ.bel) fun u w' ⟨h1, h2⟩ => hJ.call3 hz hi h2 (h1.mono hJ.bel.size)
      have ef : a.eval (.func 15) = .func (.func 15) #[] #[] := rfl
      clear HC HCS hQ hJ
      generalize a.eval = ev at ef e56 ⊢
      go_simp
    · simp at ho
      subst ho
      rw [if_pos (wanted5 rfl)]
      exact op_alloc _ rfl _ (alloc_mo W) (hJ.alloc4 hz hi _ _)
    · simp at ho
      subst ho
      rw [if_pos (wanted5 rfl)]
      exact op_alloc _ rfl _ (alloc_st W) (hJ.alloc5 hz hi _ _ _)
    · simp at ho
      subst ho
      rw [if_pos (wanted5 rfl)]
      have o4 : On L 4 := haf ⟨4, .data⟩ (by simp) rfl
      have o1 : On L 1 := haf ⟨1, .data⟩ (by simp) rfl
      obtain ⟨g, old, e9, hg, hh, hk, _⟩ := hJ.l4 o4
      obtain ⟨a', c', fa', fc', e55, _⟩ := hJ.l1 o1
      exact op_store _ (.tmp 9) (.tmp 55) rfl rfl g e9 _ old _ e55 hh (by kernel_rfl) hk (by simp [Value.oneCell']) (hJ.store6 o1 o4 hh e9 hg e55 rfl)
    · simp at ho
      subst ho
      rw [if_pos (wanted5 rfl)]
      have o5 : On L 5 := haf ⟨5, .data⟩ (by simp) rfl
      have o3 : On L 3 := haf ⟨3, .data⟩ (by simp) rfl
      obtain ⟨g, old, e10, hg, hh, hk, _⟩ := hJ.l5 o5
      obtain ⟨sa, sc, e57, _⟩ := hJ.l3 o3
      exact op_store _ (.tmp 10) (.tmp 57) rfl rfl g e10 _ old _ e57 hh (by kernel_rfl) hk (by simp [Value.oneCell']) (hJ.store7 o3 o5 hh e10 hg e57 rfl)
    · simp at ho
  · intro L a W hJ hall
    obtain ⟨a', c', fa', fc', e55, k1, k2⟩ := hJ.l1 (hall 1 (by decide))
    obtain ⟨sa, sc, e57, k3⟩ := hJ.l3 (hall 3 (by decide))
    obtain ⟨g9, cs9, e9, hg9, hh9, _, st9⟩ := hJ.l4 (hall 4 (by decide))
    obtain ⟨g10, cs10, e10, hg10, hh10, _, st10⟩ := hJ.l5 (hall 5 (by decide))
    have x9 := st9 (hall 6 (by decide))
    have x10 := st10 (hall 7 (by decide))
    rw [e55] at x9
    rw [e57] at x10
    cases x9
    cases x10
    have hne : g9 ≠ g10 := fun e => by subst e; rw [hh9] at hh10; cases hh10
    have hcan := ((((((hJ.ag.peel (by omega)).peel (by simp only [Act.size_put]; omega)).peel (by simp only [Act.size_put]; omega)).peel (by simp only [Act.size_put]; omega)).peel (by simp only [Act.size_put]; omega)).peel (by simp only [Act.size_put]; omega)).eq
    rw [e9, e10, e55, e57] at hcan
    rw [hcan]
    exact hQ _ _ g9 g10 a' fa' sa c' fc' sc W hg9 hg10 hne hh9 hh10 k1 k2 k3 hJ.bel
  · have off : ∀ i, i < 8 → ¬ On (Array.replicate ops5.toArray.size false) i := by
      intro i hi
      rcases i with _ | _ | _ | _ | _ | _ | _ | _ | i <;> first | decide | omega
    exact ⟨Ag.refl _ _, (Below.refl _ _).drew, fun k => absurd k (off 0 (by decide)), fun k => absurd k (off 1 (by decide)), fun k => absurd k (off 2 (by decide)), fun k => absurd k (off 3 (by decide)), fun k => absurd k (off 4 (by decide)), fun k => absurd k (off 5 (by decide)), fun k => absurd k (off 6 (by decide)), fun k => absurd k (off 7 (by decide))⟩
theorem Box4.next {g : Nat} {a fa b fb va vb : Option Addr} {n c fn fc m d fm fd vn vc vm vd : Nat} {s1 d1 s2 d2 : Int} {w w' : World} (h : Box4 g a fa b fb va vb n c fn fc m d fm fd vn vc vm vd s1 d1 s2 d2 w) (hb : Below w.heap.size w w') (hz : w.heap.size = g + 4) : Box4 g a fa b fb va vb n c fn fc m d fm fd vn vc vm vd s1 d1 s2 d2 w' ∧ g + 4 ≤ w'.heap.size :=
  ⟨⟨(hb.block _ (by omega)).trans h.b0, (hb.block _ (by omega)).trans h.b1, (hb.block _ (by omega)).trans h.b2, (hb.block _ (by omega)).trans h.b3⟩, by have := hb.size; omega⟩
end Go.Proofs.YtclbbpkphfllbaaDoor
