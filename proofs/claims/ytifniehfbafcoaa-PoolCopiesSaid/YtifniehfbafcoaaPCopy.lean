/-
  The walks of slices.Clone and of the pool's Copy.
-/
import Derived.Test.YtifniehfbafcoaaPList
import Derived.Deep.LoopGhost
import Derived.WalkKit
namespace Go.Proofs.Ytifniehfbafcoaa
open Go Go.Shelf Go.RowKit Go.Lib Go.Sort Go.Proofs

set_option maxHeartbeats 2000000 in
set_option maxRecDepth 100000 in
theorem clone_any (w : World) (a : Option Addr) (n c : Nat) (l : List Ms) (hl : MsC.At w a n l) : Calls Try.prog 27 #[.slice a n c] w (RowTo l w) := by
  have q22 : ∀ (w : World) (a : Option Addr) (n c n' c' : Nat), (binOp .eql 27 (.slice a n c) (.slice none n' c')).run Try.prog w = .ok (.bool a.isNone) w := fun w a n c n' c' => Lib.run_eql_slice_nil w _ _ a n c n' c' Try.underlying27
  have hn := hl.1
  have hn2 := hl.2.1
  have HL := Lib.hid hl
  have HN := Lib.hid hn
  have HN2 := Lib.hid hn2
  clear hl hn hn2
  cases a with
  | none =>
    have h0 : n = 0 := by
      obtain ⟨_, _, h | ⟨_, _, h, _⟩⟩ := HL.out
      · exact h
      · cases h
    have H0 := Lib.hid h0
    clear h0
    go_enter Try.func27, Try.ntmps27
    go_wp2
    go_ret
    refine ⟨_, rfl, ?_, Below.refl _ _⟩
    have : l = [] := List.eq_nil_of_length_eq_zero (by rw [HN.out, H0.out])
    rw [this]
    exact World.ownsRow_nil _ _ _ _
  | some ad =>
    go_enter Try.func27, Try.ntmps27
    go_wp2_with (at_builtin; refine rowM.list rfl _ _ rfl w.heap.size (.slice (some ⟨w.heap.size, 0, none⟩) 0 0) [] rfl (World.ownsRow_made w #[] 0 (Nat.le_refl _) (Nat.zero_le _) (by simp)) ad n c l rfl HN.out.symm ?qc1 (by have := HN2.out; simp only [List.length_nil]; omega) (by have := HN2.out; simp only [List.length_nil]; omega) (by simp) ?_)
    case qc1 => exact (HL.out.below ((Below.refl _ w).alloc (Nat.le_refl _) _)).news
    intro v' w1 hown hgrow hnew
    obtain ⟨a1, n1, c1, rfl⟩ := hown.shape
    have HOWN := Lib.hid hown
    have HG := Lib.hid hgrow
    clear hown hgrow hnew
    go_wp2
    go_ret
    have hb : Below w.heap.size w (w.alloc (.cells #[] 36)) := (Below.refl _ _).alloc (Nat.le_refl _) _
    refine ⟨_, rfl, HOWN.out, hb.trans ((But.grown HG.out).below hb.size fun k e => ?_)⟩
    cases e
    exact Nat.le_refl _

/-- a block more, that was laid behind -/
theorem PlX.add {w : World} {G : Nat} {F : Nat → Prop} {v : Value} {vs : List Sl} {bs : List (List Ms)} {m n : Nat} {wa w2 : World} {v' : Value} {s2 : Sl} {l2 : List Ms} (h : PlX w G F v vs bs m n) (hb : Below w.heap.size w wa) (own2 : MsC.Own 36 w.heap.size wa (slV s2) l2) (hl2 : l2.length ≤ 128) (gr : wa.grownBy w2 v.ownBlock) (own : SlC.Own 27 0 w2 v' (vs ++ [s2])) (nw : NewOr wa v v') :
    w2.cell? ⟨G, 0, none⟩ = some v ∧ w2.frozen? ⟨G, 0, none⟩ = false ∧ PlX (w2.setCell ⟨G, 0, none⟩ v') G (Ext F w (w2.setCell ⟨G, 0, none⟩ v')) v' (vs ++ [s2]) (bs ++ [l2]) m n ∧ But F w (w2.setCell ⟨G, 0, none⟩ v') := by
  have hz := hb.size
  have hlt := h.lt _ h.fG
  have b2 : But (fun b => some b = v.ownBlock) w w2 := (But.of hb).trans (But.grown gr)
  have g2 : w2.heap[G]? = some (.cells #[v, .int .i64 (m : Nat), .int .i64 (n : Nat)] 59 (0, 0)) := (b2.block _ hlt fun e => h.nG e.symm).trans h.g
  have b3 : But (fun b => b = G) w2 (w2.setCell ⟨G, 0, none⟩ v') := (But.refl (fun b => b = G) _).setCell (p := ⟨G, 0, none⟩) rfl _
  have hsz : w2.heap.size = (w2.setCell ⟨G, 0, none⟩ v').heap.size := by simp [World.setCell]
  have bw : But F w (w2.setCell ⟨G, 0, none⟩ v') := (b2.mono fun b _ e => h.fV b e.symm).trans (b3.mono fun b _ e => e ▸ h.fG)
  have nG' : v'.ownBlock ≠ some G := fun e => by
    obtain ⟨cur, hh⟩ := own.typ e
    rw [g2] at hh
    cases hh
  have o2 : MsC.Own 36 w.heap.size w2 (slV s2) l2 := own2.but (But.grown gr) fun b e e2 => by
    have := (own2.lt b e).1
    have := h.lt b (h.fV b e2.symm)
    omega
  have o3 : MsC.Own 36 w.heap.size (w2.setCell ⟨G, 0, none⟩ v') (slV s2) l2 := o2.but b3 fun b e e2 => by
    have h1 := (o2.lt b e).1
    rw [e2] at h1
    omega
  have key : ∀ (j : Nat) (s : Sl), (vs ++ [s2])[j]? = some s → (vs[j]? = some s) ∨ (s = s2 ∧ j = vs.length) := fun j s e => by
    by_cases hj : j < vs.length
    · rw [List.getElem?_append_left hj] at e
      exact .inl e
    · rw [List.getElem?_append_right (by omega)] at e
      have : j - vs.length = 0 := by
        have := (List.getElem?_eq_some_iff.1 e).1
        simp at this
        omega
      rw [this] at e
      simp at e
      exact .inr ⟨e.symm, by omega⟩
  refine ⟨by rw [cell_of_row _ _ _ _ _ _ g2]; rfl, frozen_of_row _ _ _ _ _ g2, ⟨?_, .inl h.fG, fun b e => ?_, own.but b3 fun b e e2 => nG' (e2 ▸ e), fun b e => ?_, by simp [h.len], fun j s l h1 h2 => ?_, fun j s b h1 e => ?_, fun i j s t b hij h1 h2 e e2 => ?_, fun l hl => ?_⟩, bw⟩
  · rw [heap_setCell_same w2 G 0 _ _ _ g2]
    rfl
  · rcases e with e | e
    · exact Nat.lt_of_lt_of_le (h.lt b e) bw.size
    · exact e.2
  · rcases nw.1 b e with e2 | e2
    · exact .inl (h.fV b e2)
    · refine .inr ⟨by omega, ?_⟩
      rw [← hsz]
      exact (own.lt b e).2
  · rcases key j s h1 with k | ⟨rfl, rfl⟩
    · have hj : j < bs.length := by rw [← h.len]; exact (List.getElem?_eq_some_iff.1 k).1
      rw [List.getElem?_append_left hj] at h2
      exact ((h.own j s l k h2).but b2 fun b e e2 => h.sv k e e2.symm).but b3 fun b e e2 => h.sG k (e2 ▸ e)
    · rw [h.len, List.getElem?_append_right (Nat.le_refl _), Nat.sub_self] at h2
      simp at h2
      subst h2
      exact o3.mono (Nat.zero_le _)
  · rcases key j s h1 with k | ⟨rfl, rfl⟩
    · exact .inl (h.fS j s b k e)
    · exact .inr (o3.lt b e)
  · rcases key i s h1 with k | ⟨rfl, rfl⟩
    · rcases key j t h2 with k2 | ⟨rfl, rfl⟩
      · exact h.apart i j s t b hij k k2 e e2
      · have h3 := (o3.lt b e2).1
        have := h.lt b (h.fS i s b k e)
        omega
    · rcases key j t h2 with k2 | ⟨rfl, rfl⟩
      · have h3 := (o3.lt b e).1
        have := h.lt b (h.fS j t b k2 e2)
        omega
      · exact absurd rfl hij
  · rcases List.mem_append.1 hl with h3 | h3
    · exact h.le l h3
    · rw [List.mem_singleton.1 h3]
      exact hl2
end Go.Proofs.Ytifniehfbafcoaa
