/-
  Keys, events and messages as plain numbers; the order of keys; no program.
-/
import Derived.Lib.SliceRun
namespace Go.Proofs.Ytifniehfbafcoaa
/-- a key: its time, origin, seq -/
abbrev Ky := Int × Int × Int
/-- an event: its key, to, kind, datum -/
abbrev Ev := Ky × Int × Int × Int
def kLt (a b : Ky) : Bool := if a.1 = b.1 then (if a.2.1 = b.2.1 then decide (a.2.2 < b.2.2) else decide (a.2.1 < b.2.1)) else decide (a.1 < b.1)
/-- a message: its event, serial, anti, back, colour -/
abbrev Ms := Ev × Int × Bool × Bool × Int
/-- the least key, one more behind -/
def leastStep (o : Option Ky) (y : Ms) : Option Ky := match o with
  | none => some y.1.1
  | some k => some (if kLt y.1.1 k then y.1.1 else k)
/-- the least key of a list, the first of those that are alike -/
def leastOf (L : List Ms) : Option Ky := L.foldl leastStep none
theorem leastOf_snoc (L : List Ms) (y : Ms) : leastOf (L ++ [y]) = leastStep (leastOf L) y := by
  unfold leastOf
  rw [List.foldl_append]
  rfl
/-- how many have a colour below one -/
def olderOf (c : Int) (L : List Ms) : Nat := (L.filter fun x => decide (x.2.2.2.2 < c)).length
theorem olderOf_snoc (c : Int) (L : List Ms) (y : Ms) : olderOf c (L ++ [y]) = if y.2.2.2.2 < c then olderOf c L + 1 else olderOf c L := by
  unfold olderOf
  rw [List.filter_append, List.length_append]
  by_cases h : y.2.2.2.2 < c <;> simp [h]
theorem olderOf_le (c : Int) (L : List Ms) : olderOf c L ≤ L.length := List.length_filter_le _ _
/-- the nought message -/
def msZ : Ms := (((0, 0, 0), 0, 0, 0), 0, false, false, 0)
end Go.Proofs.Ytifniehfbafcoaa
