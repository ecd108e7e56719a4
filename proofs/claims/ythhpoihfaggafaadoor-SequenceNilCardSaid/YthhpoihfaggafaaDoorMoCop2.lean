/-
  What model.Copy gives reads as the model again.
-/
import Derived.Test.YthhpoihfaggafaaDoorMoCopy
namespace Go.Proofs.YthhpoihfaggafaaDoor
open Go Go.RowKit Go.Sort Go.Proofs CodM VmM

theorem ownV_nil {B : Nat} {w : World} {va : Option Addr} {n c : Nat} {l : List Int} (h : CV.Own 2 B w (.slice va n c) l) : va = none → c = 0 := by
  rintro rfl
  obtain ⟨_, ⟨e, _⟩ | ⟨g, cap, cur, e, _⟩⟩ := h
  · cases e; rfl
  · cases e
theorem ownE_nil {B : Nat} {w : World} {va : Option Addr} {n c : Nat} {l : List Ev} (h : CEv.Own 45 B w (.slice va n c) l) : (va = none → c = 0) ∧ n = l.length := by
  obtain ⟨_, ⟨e, h0⟩ | ⟨g, cap, cur, e, _⟩⟩ := h
  · cases e; exact ⟨fun _ => rfl, h0.symm⟩
  · cases e; exact ⟨fun e => (by cases e), rfl⟩
theorem CopR.cell {B w' o} {w : World} {x : Pm} (h : CopR B w x (w.cell? ⟨w', o, none⟩) (w.cell? ⟨w', o + 1, none⟩) (w.cell? ⟨w', o + 2, none⟩) (w.cell? ⟨w', o + 3, none⟩)) (hi : I64 x.prog.vars) (hk : x.prog.kinds.length ≤ 12) : PmCell w w' o x := by
  obtain ⟨a, n, c, va, vc, h0, h1, h2, h3, h4, h5, h6⟩ := h
  refine ⟨a, n, c, va, vc, h0, h1, h2, h3, ⟨hi, h5.kinds (by rw [← h5.1]; omega)⟩, h4, fun hl => ?_, ownV_nil h6⟩
  obtain ⟨a', c', e, _, h7, _⟩ := h6.at_ (Nat.le_trans hl (by decide))
  cases e
  exact h7
theorem CopPs.at_ {B : Nat} {w : World} {a : Option Addr} {n : Nat} {l : List Pm} (h : CopPs B w a n l) (hi : ∀ x ∈ l, I64 x.prog.vars ∧ x.prog.kinds.length ≤ 12) : PmsAt w a n l := by
  obtain ⟨h1, h2 | ⟨G, cur, e, _, hh, hc⟩⟩ := h
  · exact ⟨h1, .inl h2⟩
  · refine ⟨h1, .inr ⟨G, 0, e, heap_lt hh, fun i hi2 => ?_⟩⟩
    have hx := hi l[i] (List.getElem_mem hi2)
    refine CopR.cell (B := B) ?_ hx.1 hx.2
    rw [cell_of_row _ _ _ _ _ _ hh, cell_of_row _ _ _ _ _ _ hh, cell_of_row _ _ _ _ _ _ hh, cell_of_row _ _ _ _ _ _ hh, Nat.zero_add]
    exact hc i l[i] (List.getElem?_eq_getElem hi2)
/-- what a Copy gives -/
theorem CopyMo.at_ {m : Mo} {w w' : World} {e : Ending} (h : CopyMo m w e w') (hn : m.procs.length ≤ 1000) (hf : m.first.length ≤ 1000) (hs : ∀ x ∈ m.procs, x.vars.length ≤ 1000) (hi : ∀ x ∈ m.procs, I64 x.prog.vars ∧ x.prog.kinds.length ≤ 12) :
    ∃ a c fa fc, e = .returned (.agg #[.slice a m.procs.length c, .slice fa m.first.length fc]) ∧ MoAt w' m a m.procs.length fa m.first.length ∧ CopPs w.heap.size w' a m.procs.length m.procs ∧ CEv.Own 45 w.heap.size w' (.slice fa m.first.length fc) m.first ∧ Below w.heap.size w w' := by
  obtain ⟨a, c, fa, fn, fc, rfl, hp, ho, hb⟩ := h
  obtain ⟨h1, rfl⟩ := ownE_nil ho
  obtain ⟨a', c', e', _, h7, _⟩ := ho.at_ (Nat.le_trans hf (by decide))
  cases e'
  exact ⟨a, c, fa, fc, rfl, ⟨hp.at_ hi, h7, hn, hs⟩, hp, ho, hb⟩
end Go.Proofs.YthhpoihfaggafaaDoor
