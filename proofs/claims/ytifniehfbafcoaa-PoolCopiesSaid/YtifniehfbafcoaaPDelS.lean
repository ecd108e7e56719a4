/-
  The walk of slices.Delete of one block.
-/
import Derived.Test.YtifniehfbafcoaaPDel
import Derived.Test.YtifniehfbafcoaaGCut
import Derived.Test.YtifniehfbafcoaaRows
import Derived.Deep.RegionLaw
import Derived.Deep.LoopGhost
import Derived.WalkKit
import Derived.ProofKit
namespace Go.Proofs.Ytifniehfbafcoaa
open Go Go.RowKit Go.Lib Go.Sort Go.Proofs

theorem oneS : ∀ z : Value, (Try.prog.info? 27).bind (fun i => i.zero) = some z → ∀ v ∈ z.cells.toList, v.oneCell' = true := by
  have h : (Try.prog.info? 27).bind (fun i => i.zero) = some (.slice none 0 0) := by kernel_rfl
  intro z hz v hv
  rw [h] at hz
  cases hz
  simp [Value.cells] at hv
  subst hv
  rfl
/-- a row, one taken out -/
def DelSTo (g c : Nat) (l : List Sl) (w : World) (e : Ending) (w' : World) : Prop := e = .returned (.slice (some ⟨g, 0, none⟩) l.length c) ∧ SlC.Own 27 0 w' (.slice (some ⟨g, 0, none⟩) l.length c) l ∧ But (fun b => b = g) w w'
set_option maxHeartbeats 4000000 in
set_option maxRecDepth 100000 in
theorem delS_any (w : World) (g n c i j : Nat) (l : List Sl) (h : SlC.Own 27 0 w (.slice (some ⟨g, 0, none⟩) n c) l) (hi : i < n) (hj : j = i + 1) : Calls Try.prog 41 #[.slice (some ⟨g, 0, none⟩) n c, .int .i64 i, .int .i64 j] w (DelSTo g c (l.eraseIdx i) w) := by
  have mixed : Try.prog.follows .mixedOrders = true := by kernel_rfl
  have hn := h.size.1
  have hnc : n ≤ c := by have := h.size.2; omega
  have hel : (l.eraseIdx i).length = i + (n - j) := by rw [List.length_eraseIdx, if_pos (by omega)]; omega
  have HEL := Lib.hid hel
  have HO : Hid (SlC.Own 27 0 w.drew (.slice (some ⟨g, 0, none⟩) n c) l) := h
  obtain ⟨A, hA, hA2⟩ : ∃ A : Addr, (if c = j then some (⟨g, 0, none⟩ : Addr) else some ⟨g, j, none⟩) = some A ∧ Hid (n - j = 0 ∨ A = ⟨g, (i + 1) * 1, none⟩) := by
    by_cases h2 : c = j
    · exact ⟨⟨g, 0, none⟩, by simp [h2], .inl (by omega)⟩
    · exact ⟨⟨g, j, none⟩, by simp [h2], .inr (by rw [hj, Nat.mul_one])⟩
  have HM : Hid (n - j = n - (i + 1)) := by show _ = _; rw [hj]
  have hij : ¬ i = j := by omega
  have hin : i ≤ n := by omega
  have hjn : j ≤ n := by omega
  have hic : i ≤ c := by omega
  have hjc : j ≤ c := by omega
  have hle : i ≤ j := by omega
  have HLT : Hid (i + (n - j) < c) := by show _ < _; omega
  have H1 : Hid (n - (i + (n - j)) = 1) := by show _ = _; omega
  have h1 := H1.out
  have hm2 : i + (n - j) ≤ n := by omega
  have hm3 : i + (n - j) ≤ c := by omega
  have hnz : ¬ c = i + (n - j) := by omega
  clear h hel hn hj
  go_enter Try.func41, Try.ntmps41
  go_wp2_with fail
  go_region_law (refine rowS.cut_step rfl (.tmp 22) (.tmp 25) rfl g n c i l HO.out hi A (n - j) (c - j) (by simp [Act.eval, Act.put]) (by simp [Act.eval, Act.put]) HM.out hA2.out ?_; intro w5 ho5 hb5; obtain ⟨w6, hcl, ho6, hb6⟩ := rowS.clear1 oneS w5 g (i + (n - j)) c (i + (n - j)) (l.eraseIdx i) ho5 HLT.out (Nat.mul_one _).symm (c - (i + (n - j))); have H6 := Lib.hid (And.intro ho6 (And.intro hb5 hb6)); clear ho5 hb5 ho6 hb6)
  go_wp2
  go_ret
  obtain ⟨h6, hb5, hb6⟩ := H6.out
  unfold DelSTo
  rw [HEL.out]
  exact ⟨rfl, h6, (But.drew (But.refl _ w)).trans (hb5.trans hb6)⟩
end Go.Proofs.Ytifniehfbafcoaa
