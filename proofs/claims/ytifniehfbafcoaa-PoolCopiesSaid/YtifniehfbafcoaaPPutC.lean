/-
  The walk of Put where the last block has room, and where there is no room at all.
-/
import Derived.Test.YtifniehfbafcoaaPPutM
import Derived.Deep.RegionLaw
import Derived.OwnWalk
import Derived.TacticsIn
namespace Go.Proofs.Ytifniehfbafcoaa
open Go Go.RowKit Go.Lib Go.Sort Go.Proofs

theorem pl_full {w : World} {G : Nat} {F : Nat → Prop} {x : List Ms × Nat} (h : Pl w G F x) (y : Ms) (hf : 131072 ≤ x.1.length) : Calls Try.prog 15 #[.pointer (some ⟨G, 0, none⟩), MsV y] w (Tells (.tuple #[.int .i64 0, .int .i64 5]) w) := by
  obtain ⟨v, vs, bs, h, -⟩ := h
  have h' : PlX (w.alloc (MsO y)) G F v vs bs x.1.length x.2 := h.below ((Below.refl _ _).alloc (Nat.le_refl _) _)
  obtain ⟨-, c1, -, -⟩ := h'.cells
  have hd : decide ((x.1.length : Int) ≥ 131072) = true := by simp; omega
  clear h h' hf
  go_enter Try.func15, Try.ntmps15
  go_wp2
  exact bodyPost_ret (v := .tuple #[.int .i64 0, .int .i64 5]) (by simp [results, Try.results15, go_sem]) rfl ⟨rfl, (Below.refl _ _).alloc (Nat.le_refl _) _⟩

set_option maxHeartbeats 4000000 in
set_option maxRecDepth 100000 in
theorem put_room {w : World} {G : Nat} {F : Nat → Prop} {v : Value} {vs : List Sl} {bs : List (List Ms)} {L : List Ms} {n : Nat} (h : PlX w G F v vs bs L.length n) (hL : bs.flatten = L) (hnb : bs.length ≤ n) (hLn : L.length ≤ n) (ht : n < 1000000) (hf : L.length < 131072) (y : Ms) (j : Nat) (l3 : List Ms) (hj : j + 1 = bs.length) (hl : bs[j]? = some l3) (h128 : l3.length < 128) :
    Calls Try.prog 15 #[.pointer (some ⟨G, 0, none⟩), MsV y] w (plT.To (.tuple #[.int .i64 n, .int .i64 0]) G F (L ++ [y], n + 1) w) := by
  have mixed : Try.prog.follows .mixedOrders = true := by kernel_rfl
  have hw : PlX (w.alloc (MsO y)) G F v vs bs L.length n := h.below ((Below.refl _ _).alloc (Nat.le_refl _) _)
  have HX0 : Hid ((w.alloc (MsO y)).heap[w.heap.size]? = some (MsO y)) := heap_alloc_new _ _
  have H0 := Lib.hid h
  have HW := Lib.hid hw
  have HLN := Lib.hid hLn
  have HT := Lib.hid ht
  have HBF0 := Lib.hid hL
  have HNB := Lib.hid hnb
  have hni : decide ((L.length : Int) ≥ 131072) = false := by simp; omega
  have hLb : L.length < 1000000 := by omega
  obtain ⟨s3, hs⟩ := h.ex2 (j := j) (by omega)
  obtain ⟨g, c, rfl, hg, -⟩ := hw.row.some_ (by rw [h.len]; omega)
  obtain ⟨c0, c1, -, -⟩ := hw.cells
  have hcell := sl_cell hw.row hs
  have ho := hw.own j s3 l3 hs hl
  obtain ⟨a3, n3, p3⟩ := s3
  have hn3 : n3 = l3.length := ho.size.1
  have hlen := h.len
  have hvl : (vs.length : Int) - 1 = (j : Int) := by omega
  have hjz : ¬ (j : Int) < 0 := by omega
  have hjv : (j : Int) < (vs.length : Int) := by omega
  have hjb : j < 1000000 := by omega
  have hvb : vs.length < 2000000 := by omega
  have hne : ¬ (n3 : Int) = 128 := by omega
  have HS3 := Lib.hid hs
  have HL3 := Lib.hid hl
  have HJ := Lib.hid hj
  have H128 := Lib.hid h128
  clear h hw hL hnb hLn ho hs hl hj h128 hlen hn3 hf
  go_enter Try.func15, Try.ntmps15
  go_wp2_with fail
  obtain ⟨k, hk⟩ : ∃ k, k = vs.length := ⟨_, rfl⟩
  obtain ⟨w3, hw3⟩ : ∃ w3, w3 = w.alloc (MsO y) := ⟨_, rfl⟩
  rw [← hw3] at HW HX0 c0 c1 hcell ⊢
  rw [← hk] at HW c0 hvl hjv hvb ⊢
  have HP3 : Hid (PlX w3 G F (.slice (some ⟨g, 0, none⟩) k c) vs bs L.length n) := HW.out
  have HB3 : Hid (But F w w3) := by show But F w w3; rw [hw3]; exact (But.refl F w).alloc _
  have HX := HX0
  have HF3 : Hid (∀ b, F b → F b ∨ w.heap.size ≤ b) := fun b e => .inl e
  have HBF := HBF0
  have HN3 : Hid (bs.length ≤ n + 1) := by have := HNB.out; show _ ≤ _; omega
  clear hw3 hk c0 c1 hcell
  obtain ⟨s3, hs3⟩ : ∃ s3 : Sl, s3 = (a3, n3, p3) := ⟨_, rfl⟩
  rw [← hs3] at HS3
  clear hs3
  have hcell := sl_cell HP3.out.row HS3.out
  obtain ⟨c0, c1, c2, cf⟩ := HP3.out.cells
  have a0 : (w3.alloc (MsO y)).cell? ⟨G, 0, none⟩ = some (.slice (some ⟨g, 0, none⟩) k c) := ((Gw.refl w3).alloc _).cell c0
  have a1 : (w3.alloc (MsO y)).cell? ⟨g, j, none⟩ = some (slV s3) := ((Gw.refl w3).alloc _).cell hcell
  obtain ⟨⟨x0, x1, x2, x3, x4, x5, x6, x7, x8, x9⟩, -⟩ := box_here HX.out
  clear c1 c2 cf
  go_wp2_with fail
  go_region_law (first
    | (refine rowM.step rfl _ _ rfl 0 (slV s3) l3 (by simp [Act.eval]) ((HP3.out.own j s3 l3 HS3.out HL3.out).but ((But.refl (fun _ => False) w3).drew.alloc _) (fun _ _ e => e)) ⟨w3.heap.size, 0, none⟩ 1 1 [y] (by simp [Act.eval]) rfl (Cod.news_one (C := MsC) _ y _ _ (heap_alloc_new _ _)) (by have := H128.out; omega) (by have := H128.out; omega) (Nat.zero_le _) ?_; intro v5 w5 hown5 hgrow5 hnew5; obtain ⟨s5, rfl, q0, q1, q2, hp6, hb6⟩ := HP3.out.more (((Below.refl w3.heap.size w3).drew).alloc (Nat.le_refl _) (MsO y)) HS3.out H128.out hgrow5 hown5 hnew5; have H6 := Lib.hid (And.intro hp6 hb6); clear hown5 hgrow5 hnew5 hp6 hb6))
  all_goals
    obtain ⟨w6, hw6⟩ : ∃ w6, w6 = w5.setCell ⟨g, j, none⟩ (slV s5) := ⟨_, rfl⟩
    rw [← hw6] at H6 ⊢
    clear hw6 q0 q1 q2 a0 a1 x0 x1 x2 x3 x4 x5 x6 x7 x8 x9 c0 hcell
    obtain ⟨-, c1, c2, cf⟩ := H6.out.1.cells
    have cf1 := cf 1
    have cf2 := cf 2
    clear cf
    go_wp2
    refine bodyPost_ret (v := .tuple #[.int .i64 n, .int .i64 0]) (by simp [results, Try.results15, go_sem]) rfl ?_
    exact put_end H6.out.1 HF3.out (fun b e => e.imp id fun e => e.1) H0.out.fG H0.out.lt HB3.out H6.out.2 (by rw [snoc_flat HL3.out HJ.out, HBF.out]) (by have := HN3.out; simp; omega) HLN.out HT.out _ _ (by simp) (by simp) _
end Go.Proofs.Ytifniehfbafcoaa
