/-
  The walk of the text reader's line.
-/
import Derived.Test.YtlgbkbmjfmomkaaDoorH4
import Derived.Test.YtlgbkbmjfmomkaaDoorShelf
namespace Go.Proofs.YtlgbkbmjfmomkaaDoor
open Go.RowKit CodM

/-- a text reader at g, which has s left -/
def RtAt (w : World) (g : Nat) (s : ByteArray) : Prop := w.heap[g]? = some (.cells #[.string s] 62)
/-- the place of the variable that strings' search reads -/
def MaxAt (w : World) : Prop := ∃ m : Int, w.cell? ⟨2, 0, none⟩ = some (.int .i64 m)
theorem But.drewN {S : Nat → Prop} {a b : World} (h : But S a b) (n : Nat) : But S a (b.drewN n) := ⟨h.os, h.tape, h.output, h.size, h.block⟩
def LineNo (g : Nat) (w : World) (e : Ending) (w' : World) : Prop := e = .panicked codePanic ∧ But (fun k => k = g) w w'
def LineRd (g : Nat) (x r : ByteArray) (w : World) (e : Ending) (w' : World) : Prop := e = .returned (.string x) ∧ RtAt w' g r ∧ But (fun k => k = g) w w'

set_option maxHeartbeats 2000000 in
set_option maxRecDepth 100000 in
theorem line_no (g : Nat) (s : ByteArray) (w : World) (hr : RtAt w g s) (hm : MaxAt w) (hs : s.size < 4294967281) (hc : (Lib.cut s.data.toList [10]).2.2 = false) :
    Calls Tryd.prog 51 #[.pointer (some ⟨g, 0, none⟩)] w (LineNo g w) := by
  obtain ⟨m, hm⟩ := hm
  have c0 : w.cell? ⟨g, 0, none⟩ = some (.string s) := by rw [cell_of_row _ _ _ _ _ _ hr]; rfl
  have HM := Lib.hid hm
  have HC := Lib.hid hc
  have HS := Lib.hid hs
  clear hr hm hc hs
  go_enter Tryd.func51, Tryd.ntmps51
  go_wp2_with (first
    | (go_at_call 58; refine (Tryd.strings_Cut s _ m _ HS.out HM.out).mono ?_; rintro e w1 ⟨rfl, q, rfl⟩; rw [show (Lib.cut s.data.toList _).2.2 = false from HC.out])
    | (go_at_call 49; refine (must_no _).mono ?_; rintro e w' ⟨rfl, rfl⟩))
  exact ⟨rfl, rfl, (But.refl (fun k => k = g) w).drewN q⟩

set_option maxHeartbeats 2000000 in
set_option maxRecDepth 100000 in
theorem line_yes (g : Nat) (s : ByteArray) (x r : List UInt8) (w : World) (hr : RtAt w g s) (hm : MaxAt w) (hs : s.size < 4294967281) (hc : Lib.cut s.data.toList [10] = (x, r, true)) :
    Calls Tryd.prog 51 #[.pointer (some ⟨g, 0, none⟩)] w (LineRd g (strU x) (strU r) w) := by
  obtain ⟨m, hm⟩ := hm
  have c0 : w.cell? ⟨g, 0, none⟩ = some (.string s) := by rw [cell_of_row _ _ _ _ _ _ hr]; rfl
  have f0 : w.frozen? ⟨g, 0, none⟩ = false := frozen_of_row _ _ _ _ _ hr
  have HR := Lib.hid hr
  have HM := Lib.hid hm
  have HC := Lib.hid hc
  have HS := Lib.hid hs
  clear hr hm hc hs
  go_enter Tryd.func51, Tryd.ntmps51
  go_wp2_with (first
    | (go_at_call 58; refine (Tryd.strings_Cut s _ m _ HS.out HM.out).mono ?_; rintro e w1 ⟨rfl, q, rfl⟩; rw [show Lib.cut s.data.toList _ = (x, r, true) from HC.out])
    | (go_at_call 49; refine (must_ok _).mono ?_; rintro e w' ⟨rfl, rfl⟩))
  go_ret
  refine ⟨rfl, ?_, ((But.refl (fun k => k = g) w).drewN q).setCell (.inl rfl) _⟩
  exact heap_setCell_same (w.drewN q) g 0 _ _ _ HR.out
end Go.Proofs.YtlgbkbmjfmomkaaDoor
