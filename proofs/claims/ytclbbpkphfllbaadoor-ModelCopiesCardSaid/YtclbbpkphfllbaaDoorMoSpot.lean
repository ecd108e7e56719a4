/-
  The places that hold numbers, in what was copied: all may be written.
-/
import Derived.Test.YtclbbpkphfllbaaDoorMoMut
namespace Go.Proofs.YtclbbpkphfllbaaDoor
open Go Go.RowKit Go.Sort Go.Proofs CodM VmM

theorem ins_spot {B E n : Nat} {w : World} {a : Option Addr} {l : List Ins} (h : InsOwn B w a n l) (hE : w.heap.size ≤ E) : SpotI w B E a n := by
  obtain ⟨⟨_, _, _, h4⟩, h5 | ⟨G, cur, rfl, hG, hh⟩⟩ := h
  · exact .inl h5
  · rcases h4 with h4 | ⟨B', off, e, _, hc⟩
    · exact .inl h4
    · cases e
      refine .inr ⟨G, rfl, fun k hk => ⟨hG, Nat.lt_of_lt_of_le (heap_lt hh) hE, ⟨(l.getD k (0, 0)).2, ?_⟩, frozen_of_row _ _ _ _ _ hh⟩⟩
      have := (hc k hk).2
      rwa [Nat.zero_add] at this
theorem kinds_spot {B E n : Nat} {w : World} {a : Option Addr} {ks : List (List Ins)} (h : Cop B w a n ks) (hE : w.heap.size ≤ E) (hs : ∀ l ∈ ks, l.length ≤ 200) : SpotK w B E a n := by
  obtain ⟨h1, h2 | ⟨G, cur, rfl, hG, hh, hc⟩⟩ := h
  · exact .inl h2
  · refine .inr ⟨G, rfl, fun k hk => ?_⟩
    obtain ⟨a', n', c', e1, _, e3⟩ := hc k hk
    refine ⟨a', n', c', by rw [cell_of_row _ _ _ _ _ _ hh]; exact e1, ?_, ins_spot e3 hE⟩
    have hl : (ks.getD k []).length ≤ 200 := by
      have hk' : k < ks.length := by omega
      rw [List.getD_eq_getElem?_getD, List.getElem?_eq_getElem hk']
      exact hs _ (List.getElem_mem hk')
    have := e3.1.1
    omega
theorem procs_spot {B E n : Nat} {w : World} {a : Option Addr} {l : List Pm} (h : CopPs B w a n l) (hE : w.heap.size ≤ E) (hs : ∀ x ∈ l, x.prog.kinds.length ≤ 12 ∧ (∀ k ∈ x.prog.kinds, k.length ≤ 200) ∧ x.vars.length ≤ 1000) : SpotPs w B E a n := by
  obtain ⟨h1, h2 | ⟨G, cur, rfl, hG, hh, hc⟩⟩ := h
  · exact .inl h2
  · refine .inr ⟨G, rfl, fun i hi => ?_⟩
    have hi' : i < l.length := by omega
    obtain ⟨h12, h200, hv⟩ := hs _ (List.getElem_mem hi')
    obtain ⟨ka, kn, kc, va, vc, _, c1, c2, c3, h4, h5, h6⟩ := hc i _ (List.getElem?_eq_getElem hi')
    refine ⟨⟨hG, Nat.lt_of_lt_of_le (heap_lt hh) hE, ⟨_, by rw [cell_of_row _ _ _ _ _ _ hh]; exact c3⟩, frozen_of_row _ _ _ _ _ hh⟩, ⟨va, _, vc, by rw [cell_of_row _ _ _ _ _ _ hh]; exact c2, ownV_spot h6 hE hv⟩, ⟨ka, kn, kc, by rw [cell_of_row _ _ _ _ _ _ hh]; exact c1, ?_, kinds_spot h5 hE h200⟩⟩
    have := h5.1
    omega
/-- a row of events whose data may be written -/
def SpotE (w : World) (B E : Nat) (a : Option Addr) (n : Nat) : Prop := n = 0 ∨ ∃ V, a = some ⟨V, 0, none⟩ ∧ ∀ k, k < n → Spot w B E ⟨V, k * 6 + 5, none⟩
theorem events_spot {B E n c : Nat} {w : World} {a : Option Addr} {l : List Ev} (h : CEv.Own 55 B w (.slice a n c) l) (hE : w.heap.size ≤ E) (hl : l.length ≤ 1000) : SpotE w B E a n := by
  obtain ⟨a', c', e, _, hA, _, _⟩ := h.at_ (Nat.le_trans hl (by decide))
  obtain ⟨_, ⟨e2, h0⟩ | ⟨g, cap, cur, e2, hg, hh, _⟩⟩ := h
  · cases e2
    exact .inl rfl
  · cases e2
    refine .inr ⟨g, rfl, fun k hk => ⟨hg, Nat.lt_of_lt_of_le (heap_lt hh) hE, ?_, frozen_of_row _ _ _ _ _ hh⟩⟩
    cases e
    obtain ⟨B', off', e3, _, x, _, hc⟩ := hA.cell hk
    cases e3
    have := (six_cells hc).2.2.2.2.2
    rw [show CEv.k = 6 from rfl, Nat.zero_add] at this
    exact ⟨x.data, this⟩
theorem SpotV.at {B E n k : Nat} {w wr : World} {a : Option Addr} (h : SpotV w B E a n) (hm : Mut B E w wr) (hk : k < n) : ∃ V q, a = some ⟨V, 0, none⟩ ∧ B ≤ V ∧ V < E ∧ wr.cell? ⟨V, k, none⟩ = some (.int .i64 q) ∧ wr.frozen? ⟨V, k, none⟩ = false := by
  obtain h | ⟨V, e, h⟩ := h
  · omega
  · obtain ⟨q, h1, h2⟩ := (h k hk).mut hm
    exact ⟨V, q, e, (h k hk).1, (h k hk).2.1, h1, h2⟩
theorem SpotI.at {B E n k : Nat} {w wr : World} {a : Option Addr} (h : SpotI w B E a n) (hm : Mut B E w wr) (hk : k < n) : ∃ V q, a = some ⟨V, 0, none⟩ ∧ B ≤ V ∧ V < E ∧ wr.cell? ⟨V, k * 2 + 1, none⟩ = some (.int .i64 q) ∧ wr.frozen? ⟨V, k * 2 + 1, none⟩ = false := by
  obtain h | ⟨V, e, h⟩ := h
  · omega
  · obtain ⟨q, h1, h2⟩ := (h k hk).mut hm
    exact ⟨V, q, e, (h k hk).1, (h k hk).2.1, h1, h2⟩
theorem SpotE.at {B E n k : Nat} {w wr : World} {a : Option Addr} (h : SpotE w B E a n) (hm : Mut B E w wr) (hk : k < n) : ∃ V q, a = some ⟨V, 0, none⟩ ∧ B ≤ V ∧ V < E ∧ wr.cell? ⟨V, k * 6 + 5, none⟩ = some (.int .i64 q) ∧ wr.frozen? ⟨V, k * 6 + 5, none⟩ = false := by
  obtain h | ⟨V, e, h⟩ := h
  · omega
  · obtain ⟨q, h1, h2⟩ := (h k hk).mut hm
    exact ⟨V, q, e, (h k hk).1, (h k hk).2.1, h1, h2⟩
theorem SpotK.at {B E n k : Nat} {w wr : World} {a : Option Addr} (h : SpotK w B E a n) (hm : Mut B E w wr) (hk : k < n) : ∃ V ia im ic, a = some ⟨V, 0, none⟩ ∧ wr.cell? ⟨V, k, none⟩ = some (.slice ia im ic) ∧ im ≤ 1000 ∧ SpotI w B E ia im := by
  obtain h | ⟨V, e, h⟩ := h
  · omega
  · obtain ⟨ia, im, ic, h1, h2, h3⟩ := h k hk
    exact ⟨V, ia, im, ic, e, hm.sl _ _ _ _ h1, h2, h3⟩
theorem SpotPs.at {B E n k : Nat} {w wr : World} {a : Option Addr} (h : SpotPs w B E a n) (hm : Mut B E w wr) (hk : k < n) : ∃ G q va vn vc ka kn kc, a = some ⟨G, 0, none⟩ ∧ B ≤ G ∧ G < E ∧ wr.cell? ⟨G, k * 4 + 3, none⟩ = some (.int .i64 q) ∧ wr.frozen? ⟨G, k * 4 + 3, none⟩ = false ∧
    wr.cell? ⟨G, k * 4 + 2, none⟩ = some (.slice va vn vc) ∧ vn ≤ 1000 ∧ SpotV w B E va vn ∧ wr.cell? ⟨G, k * 4 + 1, none⟩ = some (.slice ka kn kc) ∧ kn ≤ 1000 ∧ SpotK w B E ka kn := by
  obtain h | ⟨G, e, h⟩ := h
  · omega
  · obtain ⟨h1, ⟨va, vn, vc, h2, h3, h4⟩, ⟨ka, kn, kc, h5, h6, h7⟩⟩ := h k hk
    obtain ⟨q, h8, h9⟩ := h1.mut hm
    exact ⟨G, q, va, vn, vc, ka, kn, kc, e, h1.1, h1.2.1, h8, h9, hm.sl _ _ _ _ h2, h3, h4, hm.sl _ _ _ _ h5, h6, h7⟩
end Go.Proofs.YtclbbpkphfllbaaDoor
