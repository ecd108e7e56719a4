/-
  What a Put does to a pool in memory.
-/
import Derived.Test.YtifniehfbafcoaaPPlace
namespace Go.Proofs.Ytifniehfbafcoaa
open Go Go.RowKit Go.Lib Go.Sort Go.Proofs

section
variable {w : World} {G : Nat} {F : Nat → Prop} {v : Value} {vs : List Sl} {bs : List (List Ms)} {m n : Nat}
/-- a block more, without messages -/
theorem PlX.push {wa w2 : World} {v' : Value} (h : PlX w G F v vs bs m n) (hb : Below w.heap.size w wa) (gr : wa.grownBy w2 v.ownBlock) (own : SlC.Own 27 0 w2 v' (vs ++ [(none, 0, 0)])) (nw : NewOr wa v v') :
    w2.cell? ⟨G, 0, none⟩ = some v ∧ w2.frozen? ⟨G, 0, none⟩ = false ∧ PlX (w2.setCell ⟨G, 0, none⟩ v') G (Ext F w (w2.setCell ⟨G, 0, none⟩ v')) v' (vs ++ [(none, 0, 0)]) (bs ++ [[]]) m n ∧ But F w (w2.setCell ⟨G, 0, none⟩ v') := by
  have hz := hb.size
  have hlt := h.lt _ h.fG
  have b2 : But (fun b => some b = v.ownBlock) w w2 := (But.of hb).trans (But.grown gr)
  have g2 : w2.heap[G]? = some (.cells #[v, .int .i64 (m : Nat), .int .i64 (n : Nat)] 59 (0, 0)) := (b2.block _ hlt fun e => h.nG e.symm).trans h.g
  have b3 : But (fun b => b = G) w2 (w2.setCell ⟨G, 0, none⟩ v') := (But.refl (fun b => b = G) _).setCell (p := ⟨G, 0, none⟩) rfl _
  have hsz : w2.heap.size = (w2.setCell ⟨G, 0, none⟩ v').heap.size := by simp [World.setCell]
  have bw : But F w (w2.setCell ⟨G, 0, none⟩ v') := (b2.mono fun b _ e => h.fV b e.symm).trans (b3.mono fun b _ e => e ▸ h.fG)
  have nG' : v'.ownBlock ≠ some G := fun e => by
    obtain ⟨cur, hh⟩ := own.typ e
    rw [g2] at hh
    cases hh
  have key : ∀ (j : Nat) (s : Sl), (vs ++ [((none, 0, 0) : Sl)])[j]? = some s → (vs[j]? = some s) ∨ (s = (none, 0, 0) ∧ j = vs.length) := fun j s e => by
    by_cases hj : j < vs.length
    · rw [List.getElem?_append_left hj] at e
      exact .inl e
    · rw [List.getElem?_append_right (by omega)] at e
      have : j - vs.length = 0 := by
        have := (List.getElem?_eq_some_iff.1 e).1
        simp at this
        omega
      rw [this] at e
      simp at e
      exact .inr ⟨e.symm, by omega⟩
  refine ⟨by rw [cell_of_row _ _ _ _ _ _ g2]; rfl, frozen_of_row _ _ _ _ _ g2, ⟨?_, .inl h.fG, fun b e => ?_, own.but b3 fun b e e2 => nG' (e2 ▸ e), fun b e => ?_, by simp [h.len], fun j s l h1 h2 => ?_, fun j s b h1 e => ?_, fun i j s t b hij h1 h2 e e2 => ?_, fun l hl => ?_⟩, bw⟩
  · rw [heap_setCell_same w2 G 0 _ _ _ g2]
    rfl
  · rcases e with e | e
    · exact Nat.lt_of_lt_of_le (h.lt b e) bw.size
    · exact e.2
  · rcases nw.1 b e with e2 | e2
    · exact .inl (h.fV b e2)
    · refine .inr ⟨by omega, ?_⟩
      rw [← hsz]
      exact (own.lt b e).2
  · rcases key j s h1 with k | ⟨rfl, rfl⟩
    · have hj : j < bs.length := by rw [← h.len]; exact (List.getElem?_eq_some_iff.1 k).1
      rw [List.getElem?_append_left hj] at h2
      exact ((h.own j s l k h2).but b2 fun b e e2 => h.sv k e e2.symm).but b3 fun b e e2 => h.sG k (e2 ▸ e)
    · rw [h.len, List.getElem?_append_right (Nat.le_refl _), Nat.sub_self] at h2
      simp at h2
      subst h2
      exact World.ownsRow_nil _ _ _ _
  · rcases key j s h1 with k | ⟨rfl, rfl⟩
    · exact .inl (h.fS j s b k e)
    · cases e
  · rcases key i s h1 with k | ⟨rfl, rfl⟩
    · rcases key j t h2 with k2 | ⟨rfl, rfl⟩
      · exact h.apart i j s t b hij k k2 e e2
      · cases e2
    · cases e
  · rcases List.mem_append.1 hl with hl | hl
    · exact h.le l hl
    · simp at hl
      subst hl
      exact Nat.zero_le _
/-- one more message, in its last block -/
theorem PlX.more {wa w5 : World} {g k c j : Nat} {s : Sl} {l : List Ms} {y : Ms} {v5 : Value} (h : PlX w G F (.slice (some ⟨g, 0, none⟩) k c) vs bs m n) (hb : Below w.heap.size w wa) (hs : vs[j]? = some s) (h128 : l.length < 128) (gr : wa.grownBy w5 (slV s).ownBlock)
    (own : MsC.Own 36 0 w5 v5 (l ++ [y])) (nw : NewOr wa (slV s) v5) :
    ∃ s5 : Sl, v5 = slV s5 ∧ w5.cell? ⟨G, 0, none⟩ = some (.slice (some ⟨g, 0, none⟩) k c) ∧ w5.cell? ⟨g, j, none⟩ = some (slV s) ∧ w5.frozen? ⟨g, j, none⟩ = false ∧
      PlX (w5.setCell ⟨g, j, none⟩ v5) G (Ext F w (w5.setCell ⟨g, j, none⟩ v5)) (.slice (some ⟨g, 0, none⟩) k c) (vs.set j s5) (bs.set j (l ++ [y])) m n ∧ But F w (w5.setCell ⟨g, j, none⟩ v5) := by
  obtain ⟨a, q, p, rfl⟩ := own.shape
  have ha := h.below hb
  have hz := hb.size
  have hbs : But (fun b => some b = (slV s).ownBlock) wa w5 := But.grown gr
  have g5 : w5.heap[G]? = some (.cells #[.slice (some ⟨g, 0, none⟩) k c, .int .i64 (m : Nat), .int .i64 (n : Nat)] 59 (0, 0)) := (hbs.block _ (ha.lt _ ha.fG) fun e => ha.sG hs e.symm).trans ha.g
  have r5 : SlC.Own 27 0 w5 (.slice (some ⟨g, 0, none⟩) k c) vs := ha.row.but hbs fun b e e2 => ha.sv hs e2.symm e
  obtain ⟨t1, t2⟩ := ha.turn (s' := (a, q, p)) (l' := l ++ [y]) hs hbs own (by simp; omega) nw.1
  refine ⟨(a, q, p), rfl, by rw [cell_of_row _ _ _ _ _ _ g5]; rfl, sl_cell r5 hs, sl_frozen r5 j, t1.wide (fun b e => ?_) (fun b e => ?_), (But.of hb).trans t2⟩
  · rcases e with e | e
    · exact .inl e
    · exact .inr ⟨by omega, e.2⟩
  · rcases e with e | e
    · exact Nat.lt_of_lt_of_le (ha.lt b e) t2.size
    · exact e.2
end
/-- the end of a Put -/
theorem put_end {w w3 w6 : World} {G n : Nat} {F F3 F6 : Nat → Prop} {v : Value} {vs : List Sl} {bs : List (List Ms)} {L : List Ms} {y : Ms} (h6 : PlX w6 G F6 v vs bs L.length n) (hF3 : ∀ b, F3 b → F b ∨ w.heap.size ≤ b) (hF6 : ∀ b, F6 b → F3 b ∨ w3.heap.size ≤ b) (hFG : F G) (hFl : ∀ b, F b → b < w.heap.size) (hb3 : But F w w3) (hb6 : But F3 w3 w6)
    (hbs : bs.flatten = L ++ [y]) (hn : bs.length ≤ n + 1) (hLn : L.length ≤ n) (ht : n < 1000000) (u1 u2 : Value) (e1 : u1 = .int .i64 ((L.length + 1 : Nat) : Int)) (e2 : u2 = .int .i64 ((n + 1 : Nat) : Int)) (r : Value) :
    plT.To r G F (L ++ [y], n + 1) w (.returned r) ((w6.setCell ⟨G, 1, none⟩ u1).setCell ⟨G, 2, none⟩ u2) := by
  have h8 := (h6.set1 u1 e1).set2 u2 e2
  have hb8 : But (fun b => b = G) w6 ((w6.setCell ⟨G, 1, none⟩ u1).setCell ⟨G, 2, none⟩ u2) := ((But.refl (fun b => b = G) _).setCell (p := ⟨G, 1, none⟩) rfl _).setCell (p := ⟨G, 2, none⟩) rfl _
  have hz := hb3.size
  have bw : But F w ((w6.setCell ⟨G, 1, none⟩ u1).setCell ⟨G, 2, none⟩ u2) := (hb3.next hb6 fun j hj e => (hF3 j e).resolve_right (by omega)).trans (hb8.mono fun _ _ e => e ▸ hFG)
  refine ⟨rfl, ⟨v, vs, bs, ?_, hbs, by show _ ≤ n + 1; omega, by show (L ++ [y]).length ≤ n + 1; simp; omega, by show n + 1 ≤ _; omega⟩, bw⟩
  refine PlX.wide (F := F6) ?_ (fun b e => ?_) (fun b e => ?_)
  · show PlX _ G F6 v vs bs (L ++ [y]).length (n + 1)
    rw [List.length_append]
    exact h8
  · rcases hF6 b e with e2 | e2
    · rcases hF3 b e2 with e3 | e3
      · exact .inl e3
      · exact .inr ⟨e3, h8.lt b e⟩
    · exact .inr ⟨by omega, h8.lt b e⟩
  · rcases e with e | e
    · exact Nat.lt_of_lt_of_le (hFl b e) bw.size
    · exact e.2
end Go.Proofs.Ytifniehfbafcoaa
