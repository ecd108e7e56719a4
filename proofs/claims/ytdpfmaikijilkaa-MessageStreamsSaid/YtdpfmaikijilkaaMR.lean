/-
  What encode of a request comes to: the document's bytes, just where the document lets it; no program.
-/
import Derived.Test.YtdpfmaikijilkaaDB
namespace Go.Proofs.Ytdpfmaikijilkaa
open Go Go.RowKit

theorem chain_one {x : Fm} (h : x.Good) (hb : x.whole = false → ∀ q z : Rq, z.bk = 0 → (x.set q z).bk = 0) : Chain [x] := ⟨h, fun _ => rfl, hb, trivial⟩
theorem chain_tab (k : Int) : Chain (tabM k) := by
  unfold tabM
  have hid : ∀ t, Chain t → Chain (mID :: t) := fun t ht => ⟨gmID, fun e => (by cases e), fun _ _ _ h => h, ht⟩
  repeat' split
  · exact hid _ (chain_one gmVer fun _ _ _ h => h)
  · exact hid _ (chain_one gmModel fun e => by cases e)
  · exact hid _ (chain_one gmEvent fun _ _ _ h => h)
  · exact hid _ ⟨gmNum, fun e => (by cases e), fun _ _ _ h => h, chain_one gmBreak fun e => by cases e⟩
  · exact hid _ (chain_one gmNum fun _ _ _ h => h)
  · exact hid _ (chain_one gmProc fun _ _ _ h => h)
  · exact hid _ (chain_one gmRate fun _ _ _ h => h)
  · exact hid _ trivial
theorem tabQ_tabM (k : Int) : (tabQ k).map (·.map (·.2)) = if 1 ≤ k ∧ k ≤ 12 then some ((tabM k).map (·.f)) else none := by
  by_cases h : 1 ≤ k ∧ k ≤ 12
  · rw [if_pos h]
    obtain ⟨n, rfl⟩ : ∃ n : Nat, k = n := ⟨k.toNat, by omega⟩
    have hn : ∀ m : Nat, m < 13 → 1 ≤ m → (tabQ (m : Int)).map (·.map (·.2)) = some ((tabM (m : Int)).map (·.f)) := fun m h1 h2 => by
      rcases m with _ | _ | _ | _ | _ | _ | _ | _ | _ | _ | _ | _ | _ | m
      · omega
      all_goals first | rfl | omega
    exact hn n (by omega) (by omega)
  · rw [if_neg h]
    unfold tabQ
    rw [if_neg (by omega), if_neg (by omega), if_neg (by omega), if_neg (by omega), if_neg (by omega), if_neg (by omega), if_neg (by omega), if_neg (by omega), if_neg (by omega), if_neg (by omega), if_neg (by omega), if_neg (by omega)]
    rfl
/-- the request that has just what its kind names -/
def backQ (q : Rq) : Rq := sets (tabM q.kind) q (zeroQ q.kind)
/-- may it be? -/
def mayQ (q : Rq) : Bool := decide (1 ≤ q.kind ∧ q.kind ≤ 12) && oks (tabM q.kind) q && sameQ (backQ q) q
theorem decQ_bytes (q : Rq) (h : Wf q) (hk : 1 ≤ q.kind ∧ q.kind ≤ 12) (ho : oks (tabM q.kind) q = true) : decQ (byteI q.kind :: askQ q) = (backQ q, 0) := by
  have hkb : ((byteI q.kind).toNat : Int) = q.kind := byteI_small (by omega) (by omega)
  have ht := tabQ_tabM q.kind
  rw [if_pos hk] at ht
  obtain ⟨fs, hfs, hmap⟩ : ∃ fs, tabQ q.kind = some fs ∧ fs.map (·.2) = (tabM q.kind).map (·.f) := by
    cases e : tabQ q.kind with
    | none => rw [e] at ht; cases ht
    | some fs => rw [e] at ht; exact ⟨fs, rfl, Option.some.inj ht⟩
  have hp := pass_rd q h (tabM q.kind) (zeroQ q.kind) (chain_tab _) ho rfl
  simp only [decQ, hkb, hfs, hmap]
  rw [show askQ q = outs (tabM q.kind) q from rfl, hp]
  rfl
theorem encQ_eq (q : Rq) (h : Wf q) : encQ q = if mayQ q = true then some (byteI q.kind :: askQ q) else none := by
  unfold encQ
  by_cases hk : 1 ≤ q.kind ∧ q.kind ≤ 12
  · have ht := tabQ_tabM q.kind
    rw [if_pos hk] at ht
    obtain ⟨fs, hfs, hmap⟩ : ∃ fs, tabQ q.kind = some fs ∧ fs.map (·.2) = (tabM q.kind).map (·.f) := by
      cases e : tabQ q.kind with
      | none => rw [e] at ht; cases ht
      | some fs => rw [e] at ht; exact ⟨fs, rfl, Option.some.inj ht⟩
    rw [hfs]
    dsimp only
    rw [hmap, pass_wr q h _ _ (chain_tab _)]
    by_cases ho : oks (tabM q.kind) q = true
    · rw [if_pos ho]
      dsimp only
      have hb : [byteI q.kind] ++ outs (tabM q.kind) q = byteI q.kind :: askQ q := rfl
      rw [hb, decQ_bytes q h hk ho]
      dsimp only
      by_cases hs : sameQ (backQ q) q = true
      · rw [if_pos ⟨rfl, hs⟩, if_pos (by unfold mayQ; rw [decide_eq_true hk, ho, hs]; rfl)]
      · rw [if_neg (fun e => hs e.2), if_neg (fun e => hs (by unfold mayQ at e; simp at e; exact e.2))]
    · rw [if_neg ho, if_neg (fun e => ho (by unfold mayQ at e; simp at e; exact e.1.2))]
  · have ht := tabQ_tabM q.kind
    rw [if_neg hk] at ht
    have hn : tabQ q.kind = none := by
      cases e : tabQ q.kind with
      | none => rfl
      | some fs => rw [e] at ht; cases ht
    rw [hn, if_neg (fun e => hk (by unfold mayQ at e; simp at e; exact e.1.1))]
theorem mayQ_back {q : Rq} (h : mayQ q = true) : backQ q = q := (sameQ_iff _ _).1 (by unfold mayQ at h; simp at h; exact h.2)
theorem mayQ_dec {q : Rq} (hw : Wf q) (h : mayQ q = true) : decQ (byteI q.kind :: askQ q) = (q, 0) := by
  have h2 := h
  unfold mayQ at h2
  simp at h2
  rw [decQ_bytes q hw h2.1.1 h2.1.2, mayQ_back h]
theorem mayQ_len {q : Rq} (h : mayQ q = true) : (byteI q.kind :: askQ q).length ≤ 4096 := by
  have ho : oks (tabM q.kind) q = true := by unfold mayQ at h; simp at h; exact h.1.2
  unfold askQ
  unfold tabM at ho ⊢
  by_cases h2 : q.kind = 2
  · rw [if_neg (by omega), if_pos h2] at ho ⊢
    simp [oks, mID, mModel] at ho
    simp [outs, mID, mModel, beR_len]
    omega
  · rw [if_neg h2]
    clear ho
    repeat' split
    all_goals simp [outs, mID, mVer, mEvent, mNum, mBreak, mProc, mRate, beR_len]
end Go.Proofs.Ytdpfmaikijilkaa
