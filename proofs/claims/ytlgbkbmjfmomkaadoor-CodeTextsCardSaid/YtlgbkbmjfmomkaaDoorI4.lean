/-
  The walk of the text reader's instructionOf.
-/
import Derived.Test.YtlgbkbmjfmomkaaDoorI3
import Derived.Test.YtlgbkbmjfmomkaaDoorM1
import Derived.Lib.SmallJoins
namespace Go.Proofs.YtlgbkbmjfmomkaaDoor
open Go.RowKit CodM

/-- the variables that the text reader reads -/
structure GloT (w : World) : Prop where
  words : Wds w
  pow : Lib.TabIs Tryd.prog w "internal/strconv.uint64pow10" .u64 Lib.pow10Tab
  max : MaxAt w
  range : ∃ tp pv, w.var? Tryd.prog "strconv.ErrRange" = some #[.iface tp pv]
  synt : ∃ tp pv, w.var? Tryd.prog "strconv.ErrSyntax" = some #[.iface tp pv]
theorem GloT.next {w w' : World} (h : GloT w) (hb : Below w.heap.size w w') : GloT w' := by
  obtain ⟨m, hm⟩ := h.max
  obtain ⟨tp, pv, hr⟩ := h.range
  obtain ⟨tq, qv, hq⟩ := h.synt
  refine ⟨h.words.next hb (Nat.le_refl _), Lib.tabBelow_of_tabIs h.pow w' hb, ⟨m, ?_⟩, ⟨tp, pv, ?_⟩, ⟨tq, qv, ?_⟩⟩
  · exact (hb.cell (World.block_lt_of_cell? w _ hm)).trans hm
  · exact Joins.var_stays (g := 4) (by kernel_rfl) hr hb (Nat.le_refl _)
  · exact Joins.var_stays (g := 3) (by kernel_rfl) hq hb (Nat.le_refl _)
theorem wordAt_inj : ∀ i j : Fin 17, wordAt i.1 = wordAt j.1 → i = j := by decide
theorem operationOf_at (j : Nat) (hj : j < 17) (w : World) (hW : Wds w) : Calls Tryd.prog 73 #[.string (strU (wordAt j))] w fun e w' => e = .returned (.int .i64 ((j : Int) + 1)) ∧ w = w' :=
  (operationOf_any _ w hW).mono fun e w' ⟨h1, h2⟩ => ⟨by
    rcases h1 with ⟨i, hi, h3, h4⟩ | ⟨h3, _⟩
    · have e : wordAt j = wordAt i := by rw [← strU_toList (wordAt j), h3, strU_toList]
      have := wordAt_inj ⟨j, hj⟩ ⟨i, hi⟩ e
      have : j = i := congrArg Fin.val this
      rw [this]
      exact h4
    · exact absurd rfl (h3 j hj), h2⟩
theorem operationOf_none (s : ByteArray) (hs : ∀ j, j < 17 → strU (wordAt j) ≠ s) (w : World) (hW : Wds w) : Calls Tryd.prog 73 #[.string s] w (Panics w) :=
  (operationOf_any s w hW).mono fun e w' ⟨h1, h2⟩ => ⟨by
    rcases h1 with ⟨i, hi, h3, _⟩ | ⟨_, h4⟩
    · exact absurd h3.symm (hs i hi)
    · exact h4, h2⟩
theorem numRd_no {l : List UInt8} (h : numRd l = none) (w : World) (hG : GloT w) (hs : l.length ≤ 281474976710656) : Calls Tryd.prog 52 #[.string (strU l)] w (NumberNo w) := by
  obtain ⟨tp, pv, hr⟩ := hG.range
  obtain ⟨tq, qv, hq⟩ := hG.synt
  have hs' : (strU l).size ≤ 281474976710656 := by rw [strU_size]; exact hs
  unfold CodM.numRd at h
  split at h
  · rename_i v hv
    have hb := Lib.parseIntB_bounds hv
    split at h
    · cases h
    · rename_i hne
      refine numberOf_again (strU l) v w hs' hv ?_ hG.pow (fun e => hne ?_)
      · have h1 := hb.1
        have h2 := hb.2
        simp at h1 h2
        exact ⟨by omega, by omega⟩
      · rw [← strU_toList (Lib.itoa v), e, strU_toList]
  · rename_i hv
    exact numberOf_none (strU l) tp tq pv qv w hs' (fun v e => hv v e) hr hq
theorem numRd_yes {l : List UInt8} {v : Int} (h : numRd l = some v) (w : World) (hG : GloT w) (hs : l.length ≤ 281474976710656) : Calls Tryd.prog 52 #[.string (strU l)] w (NumberTo v w) := by
  have hs' : (strU l).size ≤ 281474976710656 := by rw [strU_size]; exact hs
  unfold CodM.numRd at h
  split at h
  · rename_i v' hv
    have hb := Lib.parseIntB_bounds hv
    split at h
    · rename_i hne
      cases h
      refine numberOf_yes (strU l) v w hs' hv ?_ hG.pow (by rw [hne])
      have h1 := hb.1
      have h2 := hb.2
      simp at h1 h2
      exact ⟨by omega, by omega⟩
    · cases h
  · cases h
end Go.Proofs.YtlgbkbmjfmomkaaDoor
