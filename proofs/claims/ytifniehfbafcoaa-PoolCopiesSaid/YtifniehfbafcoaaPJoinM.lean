/-
  What a join of two blocks, and what a Take, do to a pool in memory.
-/
import Derived.Test.YtifniehfbafcoaaPPutM
import Derived.Test.YtifniehfbafcoaaGOwn
import Derived.Test.YtifniehfbafcoaaPDel
import Derived.Test.YtifniehfbafcoaaPDelS
namespace Go.Proofs.Ytifniehfbafcoaa
open Go Go.RowKit Go.Lib Go.Sort Go.Proofs

section
variable {w : World} {G : Nat} {F : Nat → Prop} {v : Value} {vs : List Sl} {bs : List (List Ms)} {m n : Nat}
/-- one of its blocks is another one: what the store asks, what comes of it -/
theorem PlX.turned {wa w5 : World} {g k c j : Nat} {s : Sl} {l' : List Ms} {v5 : Value} (h : PlX w G F (.slice (some ⟨g, 0, none⟩) k c) vs bs m n) (hb : Below w.heap.size w wa) (hs : vs[j]? = some s) (h128 : l'.length ≤ 128) (gr : But (fun b => some b = (slV s).ownBlock) wa w5)
    (own : MsC.Own 36 0 w5 v5 l') (nw : ∀ b, v5.ownBlock = some b → (slV s).ownBlock = some b ∨ wa.heap.size ≤ b) :
    ∃ s5 : Sl, v5 = slV s5 ∧ w5.cell? ⟨G, 0, none⟩ = some (.slice (some ⟨g, 0, none⟩) k c) ∧ w5.cell? ⟨g, j, none⟩ = some (slV s) ∧ w5.frozen? ⟨g, j, none⟩ = false ∧
      PlX (w5.setCell ⟨g, j, none⟩ v5) G (Ext F w (w5.setCell ⟨g, j, none⟩ v5)) (.slice (some ⟨g, 0, none⟩) k c) (vs.set j s5) (bs.set j l') m n ∧ But F w (w5.setCell ⟨g, j, none⟩ v5) := by
  obtain ⟨a, q, p, rfl⟩ := own.shape
  have ha := h.below hb
  have hz := hb.size
  have g5 : w5.heap[G]? = some (.cells #[.slice (some ⟨g, 0, none⟩) k c, .int .i64 (m : Nat), .int .i64 (n : Nat)] 59 (0, 0)) := (gr.block _ (ha.lt _ ha.fG) fun e => ha.sG hs e.symm).trans ha.g
  have r5 : SlC.Own 27 0 w5 (.slice (some ⟨g, 0, none⟩) k c) vs := ha.row.but gr fun b e e2 => ha.sv hs e2.symm e
  obtain ⟨t1, t2⟩ := ha.turn (s' := (a, q, p)) (l' := l') hs gr own h128 nw
  refine ⟨(a, q, p), rfl, by rw [cell_of_row _ _ _ _ _ _ g5]; rfl, sl_cell r5 hs, sl_frozen r5 j, t1.wide (fun b e => ?_) (fun b e => ?_), (But.of hb).trans t2⟩
  · rcases e with e | e
    · exact .inl e
    · exact .inr ⟨by omega, e.2⟩
  · rcases e with e | e
    · exact Nat.lt_of_lt_of_le (ha.lt b e) t2.size
    · exact e.2
/-- one of its blocks is not there any more -/
theorem PlX.drop {w7 : World} {g k c k' j : Nat} (h : PlX w G F (.slice (some ⟨g, 0, none⟩) k c) vs bs m n) (hb : But (fun b => b = g) w w7) (own : SlC.Own 27 0 w7 (.slice (some ⟨g, 0, none⟩) k' c) (vs.eraseIdx j)) :
    w7.cell? ⟨G, 0, none⟩ = some (.slice (some ⟨g, 0, none⟩) k c) ∧ w7.frozen? ⟨G, 0, none⟩ = false ∧
      PlX (w7.setCell ⟨G, 0, none⟩ (.slice (some ⟨g, 0, none⟩) k' c)) G F (.slice (some ⟨g, 0, none⟩) k' c) (vs.eraseIdx j) (bs.eraseIdx j) m n ∧ But F w (w7.setCell ⟨G, 0, none⟩ (.slice (some ⟨g, 0, none⟩) k' c)) := by
  have fg : F g := h.fV g rfl
  have g7 : w7.heap[G]? = some (.cells #[.slice (some ⟨g, 0, none⟩) k c, .int .i64 (m : Nat), .int .i64 (n : Nat)] 59 (0, 0)) := (hb.block _ (h.lt _ h.fG) fun e => h.nG (by rw [e]; rfl)).trans h.g
  have b8 : But (fun b => b = G) w7 (w7.setCell ⟨G, 0, none⟩ (.slice (some ⟨g, 0, none⟩) k' c)) := (But.refl (fun b => b = G) _).setCell (p := ⟨G, 0, none⟩) rfl _
  have bw : But F w (w7.setCell ⟨G, 0, none⟩ (.slice (some ⟨g, 0, none⟩) k' c)) := (hb.mono fun _ _ e => e ▸ fg).trans (b8.mono fun _ _ e => e ▸ h.fG)
  have nG : ∀ b, (Value.slice (some ⟨g, 0, none⟩) k' c).ownBlock = some b → b ≠ G := fun b e e2 => by
    cases e
    exact h.nG (by rw [← e2]; rfl)
  have up : ∀ i, ∃ i', (∀ {β : Type} (l : List β), (l.eraseIdx j)[i]? = l[i']?) ∧ (i' = i ∨ i' = i + 1) ∧ (i < j → i' = i) ∧ (¬ i < j → i' = i + 1) := fun i => by
    by_cases hij : i < j
    · exact ⟨i, fun l => by rw [List.getElem?_eraseIdx, if_pos hij], .inl rfl, fun _ => rfl, fun h => absurd hij h⟩
    · exact ⟨i + 1, fun l => by rw [List.getElem?_eraseIdx, if_neg hij], .inr rfl, fun h => absurd h hij, fun _ => rfl⟩
  refine ⟨by rw [cell_of_row _ _ _ _ _ _ g7]; rfl, frozen_of_row _ _ _ _ _ g7, ⟨?_, h.fG, fun b e => Nat.lt_of_lt_of_le (h.lt b e) bw.size, own.but b8 fun b e e2 => nG b e e2, fun b e => h.fV b (by cases e; rfl), ?_, fun i s l h1 h2 => ?_, fun i s b h1 e => ?_, fun i i' s t b hii h1 h2 e e2 => ?_, fun l hl => h.le l (List.mem_of_mem_eraseIdx hl)⟩, bw⟩
  · rw [heap_setCell_same w7 G 0 _ _ _ g7]
    rfl
  · rw [List.length_eraseIdx, List.length_eraseIdx, h.len]
  · obtain ⟨q, hq, -⟩ := up i
    rw [hq] at h1 h2
    exact ((h.own q s l h1 h2).but hb fun b e e2 => h.sv h1 (e2 ▸ e) rfl).but b8 fun b e e2 => h.sG h1 (e2 ▸ e)
  · obtain ⟨q, hq, -⟩ := up i
    rw [hq] at h1
    exact h.fS q s b h1 e
  · obtain ⟨q, hq, -, q1, q2⟩ := up i
    obtain ⟨q', hq', -, q1', q2'⟩ := up i'
    rw [hq] at h1
    rw [hq'] at h2
    refine h.apart q q' s t b (fun e3 => hii ?_) h1 h2 e e2
    by_cases c1 : i < j <;> by_cases c2 : i' < j
    · rw [q1 c1, q1' c2] at e3; exact e3
    · rw [q1 c1, q2' c2] at e3; omega
    · rw [q2 c1, q1' c2] at e3; omega
    · rw [q2 c1, q2' c2] at e3; omega
end
/-- the same messages, in other blocks -/
def Reb (G : Nat) (F : Nat → Prop) (bs : List (List Ms)) (m n : Nat) (w w' : World) : Prop := ∃ v' vs' bs', PlX w' G (Ext F w w') v' vs' bs' m n ∧ bs'.flatten = bs.flatten ∧ bs'.length ≤ bs.length ∧ But F w w'
theorem Reb.of_gw {w w' : World} {G : Nat} {F : Nat → Prop} {v : Value} {vs : List Sl} {bs : List (List Ms)} {m n : Nat} (h : PlX w G F v vs bs m n) (g : Gw w w') : Reb G F bs m n w w' := by
  have hb := (But.refl F w).gw g
  refine ⟨v, vs, bs, (h.below g.below).wide (fun b e => .inl e) (fun b e => ?_), rfl, Nat.le_refl _, hb⟩
  rcases e with e | e
  · exact Nat.lt_of_lt_of_le (h.lt b e) hb.size
  · exact e.2
end Go.Proofs.Ytifniehfbafcoaa
