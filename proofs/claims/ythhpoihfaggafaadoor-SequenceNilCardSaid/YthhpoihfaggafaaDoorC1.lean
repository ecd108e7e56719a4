/-
  The variables that the code layer reads; the walks of Word and Numbered, and of the document's.
-/
import Derived.Test.YthhpoihfaggafaaDoorRows
import Derived.Test.YthhpoihfaggafaaDoorCMath
import Derived.WalkKit
import Derived.WalkSpells
import Derived.WalkLawsBesides
import Derived.Lib.Hide
import Derived.Lib.LaidTab
import Derived.Lib.ItoaNum
import Derived.BigQuiet
import Derived.Deep.QuietTactic
namespace Go.Proofs.YthhpoihfaggafaaDoor
open Go.RowKit CodM

def strU (l : List UInt8) : ByteArray := ⟨l.toArray⟩
theorem strU_toList (l : List UInt8) : (strU l).toList = l := by unfold strU; simp
theorem strU_size (l : List UInt8) : (strU l).size = l.length := by unfold strU; simp [ByteArray.size]

/-- the operations' words lie as the program's text lays them -/
def Wds (w : World) : Prop := ∀ k, k < 17 → w.cell? ⟨1, k, none⟩ = some (.string (strU (wordAt k)))
theorem Wds.below {B : Nat} {w w' : World} (h : Wds w) (hb : Below B w w') (hB : 1 < B) : Wds w' :=
  fun k hk => (hb.cell (p := ⟨1, k, none⟩) hB).trans (h k hk)

theorem Wds.lt {w : World} (h : Wds w) : 1 < w.heap.size := World.block_lt_of_cell? w _ (h 0 (by decide))
theorem Wds.next {B : Nat} {w w' : World} (h : Wds w) (hb : Below B w w') (hB : w.heap.size ≤ B) : Wds w' := h.below hb (Nat.lt_of_lt_of_le h.lt hB)
theorem Wds.alloc {w : World} (h : Wds w) (o : Obj) : Wds (w.alloc o) := h.next ((Below.refl _ _).alloc (Nat.le_refl _) o) (Nat.le_refl _)
def TellsS (s : List UInt8) (w : World) (e : Ending) (w' : World) : Prop := e = .returned (.string (strU s)) ∧ w = w'
def TellsB (b : Bool) (w : World) (e : Ending) (w' : World) : Prop := e = .returned (.bool b) ∧ w = w'
/-- it answers s, and makes memory alone -/
def TellsSB (s : List UInt8) (w : World) (e : Ending) (w' : World) : Prop := e = .returned (.string (strU s)) ∧ Below w.heap.size w w'
def TellsBB (b : Bool) (w : World) (e : Ending) (w' : World) : Prop := e = .returned (.bool b) ∧ Below w.heap.size w w'

set_option maxHeartbeats 400000 in
theorem word_out_any (o : Int) (w : World) (h : o < 1 ∨ 17 < o) : Calls Tryd.prog 105 #[.int .i64 o] w (TellsS [] w) := by
  by_cases h1 : o < 1
  · clear h
    go_enter Tryd.func105, Tryd.ntmps105
    go_wp2
    go_ret
    exact ⟨rfl, rfl⟩
  · have h2 : 17 < o := by omega
    clear h
    go_enter Tryd.func105, Tryd.ntmps105
    go_wp2
    go_ret
    exact ⟨rfl, rfl⟩

set_option maxHeartbeats 400000 in
theorem word_in_any (k : Nat) (w : World) (hW : Wds w) (h : k < 17) : Calls Tryd.prog 105 #[.int .i64 ((k : Int) + 1)] w (TellsS (wordAt k) w) := by
  have hc := hW k h
  have HW := Lib.hid hW
  clear hW
  obtain ⟨s, hs⟩ : ∃ s, s = strU (wordAt k) := ⟨_, rfl⟩
  rw [← hs] at hc
  have HS := Lib.hid hs
  clear hs
  go_enter Tryd.func105, Tryd.ntmps105
  go_wp2
  go_ret
  have hs := HS.out
  subst hs
  exact ⟨rfl, rfl⟩
theorem word_any (o : Int) (w : World) (hW : Wds w) : Calls Tryd.prog 105 #[.int .i64 o] w (TellsS (word o) w) := by
  by_cases h : 1 ≤ o ∧ o ≤ 17
  · obtain ⟨k, hk, rfl⟩ := op_cases o h
    rw [word_in k hk]
    exact word_in_any k w hW hk
  · rw [word_out o (by omega)]
    exact word_out_any o w (by omega)

set_option maxHeartbeats 1000000 in
theorem numbered_any (o : Int) (w : World) : Calls Tryd.prog 106 #[.int .i64 o] w (TellsB (numbered o) w) := by
  by_cases h1 : o = 1
  · subst h1; go_enter Tryd.func106, Tryd.ntmps106; go_wp2; go_ret; exact ⟨rfl, rfl⟩
  by_cases h2 : o = 2
  · subst h2; go_enter Tryd.func106, Tryd.ntmps106; go_wp2; go_ret; exact ⟨rfl, rfl⟩
  by_cases h3 : o = 3
  · subst h3; go_enter Tryd.func106, Tryd.ntmps106; go_wp2; go_ret; exact ⟨rfl, rfl⟩
  by_cases h4 : o = 13
  · subst h4; go_enter Tryd.func106, Tryd.ntmps106; go_wp2; go_ret; exact ⟨rfl, rfl⟩
  by_cases h5 : o = 14
  · subst h5; go_enter Tryd.func106, Tryd.ntmps106; go_wp2; go_ret; exact ⟨rfl, rfl⟩
  by_cases h6 : o = 15
  · subst h6; go_enter Tryd.func106, Tryd.ntmps106; go_wp2; go_ret; exact ⟨rfl, rfl⟩
  · have hn : numbered o = false := by simp [numbered, h1, h2, h3, h4, h5, h6]
    rw [hn]
    clear hn
    have g1 : (o == 1) = false := by simpa using h1
    have g2 : (o == 2) = false := by simpa using h2
    have g3 : (o == 3) = false := by simpa using h3
    have g4 : (o == 13) = false := by simpa using h4
    have g5 : (o == 14) = false := by simpa using h5
    have g6 : (o == 15) = false := by simpa using h6
    clear h1 h2 h3 h4 h5 h6
    go_enter Tryd.func106, Tryd.ntmps106
    go_wp2
    go_ret
    exact ⟨rfl, rfl⟩
end Go.Proofs.YthhpoihfaggafaaDoor
