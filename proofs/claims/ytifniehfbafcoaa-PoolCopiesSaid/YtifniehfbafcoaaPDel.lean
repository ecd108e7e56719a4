/-
  The walk of slices.Delete of one message.
-/
import Derived.Test.YtifniehfbafcoaaPMem
import Derived.Test.YtifniehfbafcoaaGCut
import Derived.Test.YtifniehfbafcoaaRows
import Derived.Deep.RegionLaw
import Derived.Deep.LoopGhost
import Derived.WalkKit
import Derived.ProofKit
namespace Go.Proofs.Ytifniehfbafcoaa
open Go Go.RowKit Go.Lib Go.Sort Go.Proofs

theorem oneM : ∀ z : Value, (Try.prog.info? 36).bind (fun i => i.zero) = some z → ∀ v ∈ z.cells.toList, v.oneCell' = true := by
  have h : (Try.prog.info? 36).bind (fun i => i.zero) = some (MsV msZ) := by kernel_rfl
  intro z hz v hv
  rw [h] at hz
  cases hz
  exact encM_one msZ v hv
/-- a row, one taken out -/
def DelTo (g c : Nat) (l : List Ms) (w : World) (e : Ending) (w' : World) : Prop := e = .returned (.slice (some ⟨g, 0, none⟩) l.length c) ∧ MsC.Own 36 0 w' (.slice (some ⟨g, 0, none⟩) l.length c) l ∧ But (fun b => b = g) w w'
set_option maxHeartbeats 4000000 in
set_option maxRecDepth 100000 in
theorem del_any (w : World) (g n c i j : Nat) (l : List Ms) (h : MsC.Own 36 0 w (.slice (some ⟨g, 0, none⟩) n c) l) (hi : i < n) (hj : j = i + 1) : Calls Try.prog 38 #[.slice (some ⟨g, 0, none⟩) n c, .int .i64 i, .int .i64 j] w (DelTo g c (l.eraseIdx i) w) := by
  have mixed : Try.prog.follows .mixedOrders = true := by kernel_rfl
  have hn := h.size.1
  have hnc : n ≤ c := by have := h.size.2; omega
  have hel : (l.eraseIdx i).length = i + (n - j) := by rw [List.length_eraseIdx, if_pos (by omega)]; omega
  have HEL := Lib.hid hel
  have HO : Hid (MsC.Own 36 0 w.drew (.slice (some ⟨g, 0, none⟩) n c) l) := h
  obtain ⟨A, hA, hA2⟩ : ∃ A : Addr, (if c = j then some (⟨g, 0, none⟩ : Addr) else some ⟨g, j * 10, none⟩) = some A ∧ Hid (n - j = 0 ∨ A = ⟨g, (i + 1) * 10, none⟩) := by
    by_cases h2 : c = j
    · exact ⟨⟨g, 0, none⟩, by simp [h2], .inl (by omega)⟩
    · exact ⟨⟨g, j * 10, none⟩, by simp [h2], .inr (by rw [hj])⟩
  have HM : Hid (n - j = n - (i + 1)) := by show _ = _; rw [hj]
  have hij : ¬ i = j := by omega
  have hin : i ≤ n := by omega
  have hjn : j ≤ n := by omega
  have hic : i ≤ c := by omega
  have hjc : j ≤ c := by omega
  have hle : i ≤ j := by omega
  have HLT : Hid (i + (n - j) < c) := by show _ < _; omega
  have H1 : Hid (n - (i + (n - j)) = 1) := by show _ = _; omega
  have h1 := H1.out
  have hm2 : i + (n - j) ≤ n := by omega
  have hm3 : i + (n - j) ≤ c := by omega
  have hnz : ¬ c = i + (n - j) := by omega
  clear h hel hn hj
  go_enter Try.func38, Try.ntmps38
  go_wp2_with fail
  go_region_law (refine rowM.cut_step rfl (.tmp 22) (.tmp 25) rfl g n c i l HO.out hi A (n - j) (c - j) (by simp [Act.eval, Act.put]) (by simp [Act.eval, Act.put]) HM.out hA2.out ?_; intro w5 ho5 hb5; obtain ⟨w6, hcl, ho6, hb6⟩ := rowM.clear1 oneM w5 g (i + (n - j)) c ((i + (n - j)) * 10) (l.eraseIdx i) ho5 HLT.out rfl (c - (i + (n - j))); have H6 := Lib.hid (And.intro ho6 (And.intro hb5 hb6)); clear ho5 hb5 ho6 hb6)
  go_wp2
  go_ret
  obtain ⟨h6, hb5, hb6⟩ := H6.out
  unfold DelTo
  rw [HEL.out]
  exact ⟨rfl, h6, (But.drew (But.refl _ w)).trans (hb5.trans hb6)⟩
end Go.Proofs.Ytifniehfbafcoaa
