/-
  The walk of Put where a block more is made.
-/
import Derived.Test.YtifniehfbafcoaaPPutM
import Derived.Deep.RegionLaw
import Derived.OwnWalk
import Derived.TacticsIn
namespace Go.Proofs.Ytifniehfbafcoaa
open Go Go.RowKit Go.Lib Go.Sort Go.Proofs

set_option maxHeartbeats 4000000 in
set_option maxRecDepth 100000 in
theorem put_next {w : World} {G : Nat} {F : Nat → Prop} {v : Value} {vs : List Sl} {bs : List (List Ms)} {L : List Ms} {n : Nat} (h : PlX w G F v vs bs L.length n) (hL : bs.flatten = L) (hnb : bs.length ≤ n) (hLn : L.length ≤ n) (ht : n < 1000000) (hf : L.length < 131072) (y : Ms) (q j : Nat) (l2 : List Ms) (hq : bs[q]? = some l2) (hqj : q + 1 = j) (hj : j = bs.length) (h128 : l2.length = 128) :
    Calls Try.prog 15 #[.pointer (some ⟨G, 0, none⟩), MsV y] w (plT.To (.tuple #[.int .i64 n, .int .i64 0]) G F (L ++ [y], n + 1) w) := by
  have mixed : Try.prog.follows .mixedOrders = true := by kernel_rfl
  have hw : PlX (w.alloc (MsO y)) G F v vs bs L.length n := h.below ((Below.refl _ _).alloc (Nat.le_refl _) _)
  have HX0 : Hid ((w.alloc (MsO y)).heap[w.heap.size]? = some (MsO y)) := heap_alloc_new _ _
  have H0 := Lib.hid h
  have HW := Lib.hid hw
  have HLN := Lib.hid hLn
  have HT := Lib.hid ht
  have HBF0 := Lib.hid hL
  have HNB := Lib.hid hnb
  have hni : decide ((L.length : Int) ≥ 131072) = false := by simp; omega
  have hLb : L.length < 1000000 := by omega
  have HNW : Hid (((w.alloc (MsO y)).alloc (.cells #[.slice none 0 0] 27)).heap[w.heap.size + 1]? = some (.cells #[.slice none 0 0] 27)) := by
    have h1 := heap_alloc_new (w.alloc (MsO y)) (.cells #[.slice none 0 0] 27)
    rw [World.size_alloc] at h1
    exact h1
  have HVB : Hid (vs.length < 1000000) := by show _ < _; rw [h.len]; omega
  have HVL : Hid (bs.length = j) := hj.symm
  obtain ⟨s2, hs⟩ := h.ex2 (j := q) (by omega)
  obtain ⟨g2, c2', rfl, hg, -⟩ := hw.row.some_ (by rw [h.len]; omega)
  obtain ⟨c0, c1, -, -⟩ := hw.cells
  have hcell0 := sl_cell hw.row hs
  have ho := hw.own q s2 l2 hs hq
  obtain ⟨a3, n3, p3⟩ := s2
  have hn4 : n3 = l2.length := ho.size.1
  have hn3 : n3 = 128 := by omega
  subst hn3
  have hvj : vs.length = j := by rw [h.len]; omega
  have hv1 : (j : Int) - 1 = (q : Int) := by omega
  have hv2 : (q : Int) + 1 = (j : Int) := by omega
  have hjz : ¬ (q : Int) < 0 := by omega
  have hqv : (q : Int) < (j : Int) := by omega
  have hjb : j < 1000000 := by omega
  rw [hvj] at HW c0
  clear h hw hL hnb hLn ho hs hq hqj hj h128 hf hvj hn4
  go_enter Try.func15, Try.ntmps15
  go_wp2_with (at_builtin; refine rowS.list rfl _ _ rfl 0 (.slice (some ⟨g2, 0, none⟩) j c2') vs rfl (HW.out.row.but ((But.refl (fun _ => False) _).alloc _) (fun _ _ e => e)) ⟨w.heap.size + 1, 0, none⟩ 1 1 [(none, 0, 0)] rfl rfl (Cod.news_one (C := SlC) _ (none, 0, 0) _ _ HNW.out) (by have := HVB.out; omega) (by have := HVB.out; omega) (Nat.zero_le _) ?_; intro v2 w2 hown2 hgrow2 hnew2; obtain ⟨q0, q1, hp, hb⟩ := HW.out.push ((Below.refl _ _).alloc (Nat.le_refl _) _) hgrow2 hown2 hnew2; obtain ⟨g, c, e2, hg2, -⟩ := hown2.some_ (by simp); subst e2; obtain ⟨k, hk⟩ : ∃ k, k = (vs ++ [((none, 0, 0) : Sl)]).length := ⟨_, rfl⟩; rw [← hk] at hp hb ⊢; have H2 := Lib.hid (And.intro hp hb); have HK := Lib.hid hk; clear hown2 hgrow2 hnew2 hp hb hg2 hk)
  obtain ⟨w3, hw3⟩ : ∃ w3, w3 = w2.setCell ⟨G, 0, none⟩ (.slice (some ⟨g, 0, none⟩) k c) := ⟨_, rfl⟩
  rw [← hw3] at H2 ⊢
  have HP3 : Hid (PlX w3 G (Ext F (w.alloc (MsO y)) w3) (.slice (some ⟨g, 0, none⟩) k c) (vs ++ [(none, 0, 0)]) (bs ++ [[]]) L.length n) := H2.out.1
  have HB3 : Hid (But F w w3) := ((But.refl F w).alloc (MsO y)).trans H2.out.2
  have HX : Hid (w3.heap[w.heap.size]? = some (MsO y)) := (H2.out.2.block _ (by simp) (fun e => by have := H0.out.lt _ e; omega)).trans HX0.out
  have HF3 : Hid (∀ b, Ext F (w.alloc (MsO y)) w3 b → F b ∨ w.heap.size ≤ b) := fun b e => e.imp id fun e => by have := e.1; simp at this; omega
  have HBF : Hid ((bs ++ [[]]).flatten = L) := by show _ = _; rw [List.flatten_append, HBF0.out]; simp
  have HN3 : Hid ((bs ++ [[]]).length ≤ n + 1) := by have := HNB.out; show _ ≤ _; rw [List.length_append, List.length_singleton]; omega
  have HJ : Hid (j + 1 = (bs ++ [([] : List Ms)]).length) := by show _ = _; have := HVL.out; rw [List.length_append, List.length_singleton]; omega
  obtain ⟨s3, hs3⟩ : ∃ s3 : Sl, s3 = (none, 0, 0) := ⟨_, rfl⟩
  obtain ⟨l3, hl3⟩ : ∃ l3 : List Ms, l3 = [] := ⟨_, rfl⟩
  have HS3 : Hid ((vs ++ [((none, 0, 0) : Sl)])[j]? = some s3) := by show _ = _; rw [hs3, List.getElem?_append_right (by have := HVL.out; have := HW.out.len; omega), show j - vs.length = 0 by have := HVL.out; have := HW.out.len; omega]; rfl
  have HL3 : Hid ((bs ++ [([] : List Ms)])[j]? = some l3) := by show _ = _; rw [hl3, List.getElem?_append_right (by have := HVL.out; omega), show j - bs.length = 0 by have := HVL.out; omega]; rfl
  have H128 : Hid (l3.length < 128) := by show _ < _; rw [hl3]; decide
  have hjv : (j : Int) < (k : Int) := by have h1 := HK.out; have := HVL.out; have := HW.out.len; simp at h1; omega
  clear hw3 hs3 hl3 q0 q1 c0 c1 hcell0
  have hcell := sl_cell HP3.out.row HS3.out
  obtain ⟨c0, c1, c2, cf⟩ := HP3.out.cells
  have a0 : (w3.alloc (MsO y)).cell? ⟨G, 0, none⟩ = some (.slice (some ⟨g, 0, none⟩) k c) := ((Gw.refl w3).alloc _).cell c0
  have a1 : (w3.alloc (MsO y)).cell? ⟨g, j, none⟩ = some (slV s3) := ((Gw.refl w3).alloc _).cell hcell
  obtain ⟨⟨x0, x1, x2, x3, x4, x5, x6, x7, x8, x9⟩, -⟩ := box_here HX.out
  clear c1 c2 cf
  go_wp2_with fail
  go_region_law (first
    | (refine rowM.step rfl _ _ rfl 0 (slV s3) l3 (by simp [Act.eval]) ((HP3.out.own j s3 l3 HS3.out HL3.out).but ((But.refl (fun _ => False) w3).drew.alloc _) (fun _ _ e => e)) ⟨w3.heap.size, 0, none⟩ 1 1 [y] (by simp [Act.eval]) rfl (Cod.news_one (C := MsC) _ y _ _ (heap_alloc_new _ _)) (by have := H128.out; omega) (by have := H128.out; omega) (Nat.zero_le _) ?_; intro v5 w5 hown5 hgrow5 hnew5; obtain ⟨s5, rfl, q0, q1, q2, hp6, hb6⟩ := HP3.out.more (((Below.refl w3.heap.size w3).drew).alloc (Nat.le_refl _) (MsO y)) HS3.out H128.out hgrow5 hown5 hnew5; have H6 := Lib.hid (And.intro hp6 hb6); clear hown5 hgrow5 hnew5 hp6 hb6))
  all_goals
    obtain ⟨w6, hw6⟩ : ∃ w6, w6 = w5.setCell ⟨g, j, none⟩ (slV s5) := ⟨_, rfl⟩
    rw [← hw6] at H6 ⊢
    clear hw6 q0 q1 q2 a0 a1 x0 x1 x2 x3 x4 x5 x6 x7 x8 x9 c0 hcell
    obtain ⟨-, c1, c2, cf⟩ := H6.out.1.cells
    have cf1 := cf 1
    have cf2 := cf 2
    clear cf
    go_wp2
    refine bodyPost_ret (v := .tuple #[.int .i64 n, .int .i64 0]) (by simp [results, Try.results15, go_sem]) rfl ?_
    exact put_end H6.out.1 HF3.out (fun b e => e.imp id fun e => e.1) H0.out.fG H0.out.lt HB3.out H6.out.2 (by rw [snoc_flat HL3.out HJ.out, HBF.out]) (by rw [List.length_set]; exact HN3.out) HLN.out HT.out _ _ (by simp) (by simp) _
end Go.Proofs.Ytifniehfbafcoaa
