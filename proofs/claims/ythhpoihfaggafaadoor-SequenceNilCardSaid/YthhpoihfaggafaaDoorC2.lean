/-
  The walks of the document's Words, Word and Numbered.
-/
import Derived.Test.YthhpoihfaggafaaDoorC1
namespace Go.Proofs.YthhpoihfaggafaaDoor
open Go.RowKit CodM

set_option maxHeartbeats 400000 in
theorem rword_out_any (o : Int) (w : World) (h : o < 1 ∨ 17 < o) : Calls Tryd.prog 93 #[.int .i64 o] w (TellsSB [] w) := by
  by_cases h1 : o < 1
  · clear h
    go_enter Tryd.func93, Tryd.ntmps93
    go_wp2
    go_ret
    exact ⟨rfl, Below.refl _ _⟩
  · have h2 : 17 < o := by omega
    clear h
    go_enter Tryd.func93, Tryd.ntmps93
    go_wp2
    go_ret
    exact ⟨rfl, Below.refl _ _⟩

def wordCells : Array Value := (wordsL.map fun l => Value.string (strU l)).toArray
def TellsWords (w : World) (e : Ending) (w' : World) : Prop := e = .returned (.slice (some ⟨w.heap.size, 0, none⟩) 17 17) ∧ w' = w.alloc (.cells wordCells 9)
set_option maxHeartbeats 400000 in
theorem rwords_any (w : World) : Calls Tryd.prog 109 #[] w (TellsWords w) := by
  go_enter Tryd.func109, Tryd.ntmps109
  go_wp2
  go_ret
  exact ⟨rfl, rfl⟩
theorem words_cell (w : World) (k : Nat) (h : k < 17) : (w.alloc (.cells wordCells 9)).cell? ⟨w.heap.size, k, none⟩ = some (.string (strU (wordAt k))) := by
  rw [cell_of_row _ _ _ _ _ _ (heap_alloc_new _ _)]
  unfold wordCells wordAt
  have hl : k < wordsL.length := h
  simp [List.getD, hl]
set_option maxHeartbeats 400000 in
theorem rword_in_any (k : Nat) (w : World) (h : k < 17) : Calls Tryd.prog 93 #[.int .i64 ((k : Int) + 1)] w (TellsSB (wordAt k) w) := by
  have hc := words_cell w k h
  obtain ⟨s, hs⟩ : ∃ s, s = strU (wordAt k) := ⟨_, rfl⟩
  rw [← hs] at hc
  have HS := Lib.hid hs
  clear hs
  go_enter Tryd.func93, Tryd.ntmps93
  go_wp2_with (go_at_call 109; refine (rwords_any _).mono ?_; rintro e w' ⟨rfl, rfl⟩)
  go_ret
  have hs := HS.out
  subst hs
  exact ⟨rfl, (Below.refl _ _).alloc (Nat.le_refl _) _⟩
theorem rword_any (o : Int) (w : World) : Calls Tryd.prog 93 #[.int .i64 o] w (TellsSB (word o) w) := by
  by_cases h : 1 ≤ o ∧ o ≤ 17
  · obtain ⟨k, hk, rfl⟩ := op_cases o h
    rw [word_in k hk]
    exact rword_in_any k w hk
  · rw [word_out o (by omega)]
    exact rword_out_any o w (by omega)

set_option maxHeartbeats 1000000 in
theorem rnumbered_any (o : Int) (w : World) : Calls Tryd.prog 63 #[.int .i64 o] w (TellsBB (numbered o) w) := by
  obtain ⟨s, hs⟩ : ∃ s, s = strU (word o) := ⟨_, rfl⟩
  have HS := Lib.hid hs
  clear hs
  go_enter Tryd.func63, Tryd.ntmps63
  go_wp2_with (go_at_call 93; refine (rword_any _ _).mono ?_; rintro e w' ⟨rfl, hb⟩; have HB := Lib.hid hb; clear hb; rw [← HS.out])
  all_goals
    go_ret
    refine ⟨?_, HB.out⟩
    have hn := numbered_eq o
    have hs := HS.out
    rw [← strU_toList (word o), ← hs] at hn
    rw [← hn]
    first | rfl | simp_all
end Go.Proofs.YthhpoihfaggafaaDoor
