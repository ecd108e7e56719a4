/-
  The walk of the byte reader's instruction.
-/
import Derived.Test.YtlgbkbmjfmomkaaDoorH1
import Derived.Test.YtlgbkbmjfmomkaaDoorD4
namespace Go.Proofs.YtlgbkbmjfmomkaaDoor
open Go.RowKit CodM

/-- an instruction that stands ahead, and what is left -/
def rdIns : List UInt8 → Option (Ins × List UInt8)
  | [] => none
  | x :: r => if numbered (x.toNat : Int) then (if r.length < 8 then none else some (((x.toNat : Int), wrap64 (numOf (r.take 8))), r.drop 8)) else some (((x.toNat : Int), 0), r)
def PanicsB (g : Nat) (w : World) (e : Ending) (w' : World) : Prop := e = .panicked codePanic ∧ But (fun k => k = g) w w'
def InsRd (g : Nat) (x : Ins) (r : List UInt8) (w : World) (e : Ending) (w' : World) : Prop :=
  e = .returned (.agg #[.int .i64 x.1, .int .i64 x.2]) ∧ RdAt w' g r ∧ But (fun k => k = g) w w'
theorem num1 (x : UInt8) (r : List UInt8) : wrap64 (numOf ((x :: r).take 1)) = (x.toNat : Int) := by
  have := x.toNat_lt
  simp [numOf, wrap64]
  omega

set_option maxHeartbeats 1000000 in
set_option maxRecDepth 100000 in
theorem instruction_none (g : Nat) (w : World) (hr : RdAt w g []) : Calls Tryd.prog 63 #[.pointer (some ⟨g, 0, none⟩)] w (PanicsB g w) := by
  have HR := Lib.hid hr
  clear hr
  go_enter Tryd.func63, Tryd.ntmps63
  go_wp2_with (first
    | (go_at_call 54; refine (number_no g [] 1 _ (HR.out.alloc _) (by decide)).mono ?_; rintro e w' ⟨rfl, rfl⟩))
  exact ⟨rfl, rfl, (But.refl _ _).alloc _⟩
set_option maxHeartbeats 2000000 in
set_option maxRecDepth 100000 in
theorem instruction_plain (g : Nat) (x : UInt8) (r : List UInt8) (w : World) (hr : RdAt w g (x :: r)) (hn : numbered (x.toNat : Int) = false) :
    Calls Tryd.prog 63 #[.pointer (some ⟨g, 0, none⟩)] w (InsRd g ((x.toNat : Int), 0) r w) := by
  have hg := hr.lt
  have HR := Lib.hid hr
  have HN := Lib.hid hn
  obtain ⟨X, hX⟩ : ∃ X : Int, X = (x.toNat : Int) := ⟨_, rfl⟩
  have HX := Lib.hid hX
  clear hr hn hX
  go_enter Tryd.func63, Tryd.ntmps63
  go_wp2_with (first
    | (go_at_call 54; refine (number_yes g (x :: r) 1 _ (HR.out.alloc _) (by simp) (by decide) (by decide)).mono ?_; rintro e w1 ⟨rfl, hr1, hb1⟩; rw [num1, ← HX.out]; refine Hid.out ?_))
  have hres : w1.heap[w.heap.size]? = some (.cells #[.int .i64 0, .int .i64 0] 49) := hb1.heap (heap_alloc_new _ _) (by omega)
  have r0 : w1.cell? ⟨w.heap.size, 0, none⟩ = some (.int .i64 0) := by rw [cell_of_row _ _ _ _ _ _ hres]; rfl
  have r1 : w1.cell? ⟨w.heap.size, 1, none⟩ = some (.int .i64 0) := by rw [cell_of_row _ _ _ _ _ _ hres]; rfl
  have f0 : w1.frozen? ⟨w.heap.size, 0, none⟩ = false := frozen_of_row _ _ _ _ _ hres
  have f1 : w1.frozen? ⟨w.heap.size, 1, none⟩ = false := frozen_of_row _ _ _ _ _ hres
  have HRES := Lib.hid hres
  have HR1 := Lib.hid hr1
  have HB1 := Lib.hid (((But.refl (fun k => k = g) w).alloc _).trans hb1)
  clear hres hr1 hb1
  refine Lib.hid ?_
  have hn' : numbered X = false := by rw [HX.out]; exact HN.out
  have HN' := Lib.hid hn'
  clear hn'
  go_wp2_with (first
    | (go_at_call 26; refine (numbered_any _ _).mono ?_; rintro e w' ⟨rfl, rfl⟩; rw [HN'.out]))
  obtain ⟨k0, k1⟩ := fin_cells HRES.out (.int .i64 X) (.int .i64 0)
  refine bodyPost_ret (v := .agg #[.int .i64 X, .int .i64 0]) (by simp [results, Tryd.results63, go_sem, k0, k1]) rfl ⟨by rw [HX.out], ?_, ?_⟩
  · exact HR1.out.but (((But.refl (fun k => k = w.heap.size) _).setCell (.inl rfl) _).setCell (.inl rfl) _) (by show ¬ g = w.heap.size; omega) (no_byte HRES.out (fun z => by simp) (fun z => by simp))
  · exact (HB1.out.setCell (.inr (Nat.le_refl _)) _).setCell (.inr (Nat.le_refl _)) _
set_option maxHeartbeats 2000000 in
set_option maxRecDepth 100000 in
theorem instruction_short (g : Nat) (x : UInt8) (r : List UInt8) (w : World) (hr : RdAt w g (x :: r)) (hn : numbered (x.toNat : Int) = true) (hs : r.length < 8) :
    Calls Tryd.prog 63 #[.pointer (some ⟨g, 0, none⟩)] w (PanicsB g w) := by
  have HR := Lib.hid hr
  obtain ⟨X, hX⟩ : ∃ X : Int, X = (x.toNat : Int) := ⟨_, rfl⟩
  have HX := Lib.hid hX
  have hn' : numbered X = true := by rw [hX]; exact hn
  have HN' := Lib.hid hn'
  clear hr hn hX hn'
  go_enter Tryd.func63, Tryd.ntmps63
  go_wp2_with (first
    | (go_at_call_of 54 (Value.int .i64 1); refine (number_yes g (x :: r) 1 _ (HR.out.alloc _) (by simp) (by decide) (by decide)).mono ?_; rintro e w1 ⟨rfl, hr1, hb1⟩; rw [num1, ← HX.out]; have HR1 := Lib.hid hr1; have HB1 := Lib.hid (((But.refl (fun k => k = g) w).alloc _).trans hb1); clear hr1 hb1)
    | (go_at_call 26; refine (numbered_any _ _).mono ?_; rintro e w' ⟨rfl, rfl⟩; rw [HN'.out])
    | (go_at_call_of 54 (Value.int .i64 8); refine (number_no g r 8 _ (by simpa using HR1.out) hs).mono ?_; rintro e w' ⟨rfl, rfl⟩))
  exact ⟨rfl, rfl, HB1.out⟩
set_option maxHeartbeats 2000000 in
set_option maxRecDepth 100000 in
theorem instruction_full (g : Nat) (x : UInt8) (r : List UInt8) (w : World) (hr : RdAt w g (x :: r)) (hn : numbered (x.toNat : Int) = true) (hs : 8 ≤ r.length) :
    Calls Tryd.prog 63 #[.pointer (some ⟨g, 0, none⟩)] w (InsRd g ((x.toNat : Int), wrap64 (numOf (r.take 8))) (r.drop 8) w) := by
  have hg := hr.lt
  have HR := Lib.hid hr
  obtain ⟨X, hX⟩ : ∃ X : Int, X = (x.toNat : Int) := ⟨_, rfl⟩
  have HX := Lib.hid hX
  have hn' : numbered X = true := by rw [hX]; exact hn
  have HN' := Lib.hid hn'
  obtain ⟨V, hV⟩ : ∃ V, V = wrap64 (numOf (r.take 8)) := ⟨_, rfl⟩
  rw [← hV]
  have HV := Lib.hid hV
  clear hr hn hX hn' hV
  go_enter Tryd.func63, Tryd.ntmps63
  go_wp2_with (first
    | (go_at_call_of 54 (Value.int .i64 1); refine (number_yes g (x :: r) 1 _ (HR.out.alloc _) (by simp) (by decide) (by decide)).mono ?_; rintro e w1 ⟨rfl, hr1, hb1⟩; rw [num1, ← HX.out]; refine Hid.out ?_))
  have hres1 : w1.heap[w.heap.size]? = some (.cells #[.int .i64 0, .int .i64 0] 49) := hb1.heap (heap_alloc_new _ _) (by omega)
  have HRES1 := Lib.hid hres1
  have HR1 := Lib.hid hr1
  have HB1 := Lib.hid (((But.refl (fun k => k = g) w).alloc _).trans hb1)
  clear hres1 hr1 hb1
  refine Lib.hid ?_
  go_wp2_with (first
    | (go_at_call 26; refine (numbered_any _ _).mono ?_; rintro e w' ⟨rfl, rfl⟩; rw [HN'.out])
    | (go_at_call_of 54 (Value.int .i64 8); refine (number_yes g r 8 _ (by simpa using HR1.out) hs (by decide) (by decide)).mono ?_; rintro e w2 ⟨rfl, hr2, hb2⟩; rw [← HV.out]; refine Hid.out ?_))
  have hres := hb2.heap HRES1.out (by omega)
  have r0 : w2.cell? ⟨w.heap.size, 0, none⟩ = some (.int .i64 0) := by rw [cell_of_row _ _ _ _ _ _ hres]; rfl
  have r1 : w2.cell? ⟨w.heap.size, 1, none⟩ = some (.int .i64 0) := by rw [cell_of_row _ _ _ _ _ _ hres]; rfl
  have f0 : w2.frozen? ⟨w.heap.size, 0, none⟩ = false := frozen_of_row _ _ _ _ _ hres
  have f1 : w2.frozen? ⟨w.heap.size, 1, none⟩ = false := frozen_of_row _ _ _ _ _ hres
  have HRES := Lib.hid hres
  have HR2 := Lib.hid hr2
  have HB2 := Lib.hid (HB1.out.trans hb2)
  clear hres hr2 hb2
  refine Lib.hid ?_
  go_wp2
  obtain ⟨k0, k1⟩ := fin_cells HRES.out (.int .i64 X) (.int .i64 V)
  refine bodyPost_ret (v := .agg #[.int .i64 X, .int .i64 V]) (by simp [results, Tryd.results63, go_sem, k0, k1]) rfl ⟨by rw [HX.out], ?_, ?_⟩
  · exact HR2.out.but (((But.refl (fun k => k = w.heap.size) _).setCell (.inl rfl) _).setCell (.inl rfl) _) (by show ¬ g = w.heap.size; omega) (no_byte HRES.out (fun z => by simp) (fun z => by simp))
  · exact (HB2.out.setCell (.inr (Nat.le_refl _)) _).setCell (.inr (Nat.le_refl _)) _
theorem instruction_no (g : Nat) (l : List UInt8) (w : World) (hr : RdAt w g l) (h : rdIns l = none) : Calls Tryd.prog 63 #[.pointer (some ⟨g, 0, none⟩)] w (PanicsB g w) := by
  cases l with
  | nil => exact instruction_none g w hr
  | cons x r =>
    rcases hn : numbered (x.toNat : Int) with _ | _
    · simp [rdIns, hn] at h
    · by_cases hs : r.length < 8
      · exact instruction_short g x r w hr hn hs
      · simp [rdIns, hn, hs] at h
theorem instruction_yes (g : Nat) (l : List UInt8) (y : Ins) (r : List UInt8) (w : World) (hr : RdAt w g l) (h : rdIns l = some (y, r)) : Calls Tryd.prog 63 #[.pointer (some ⟨g, 0, none⟩)] w (InsRd g y r w) := by
  cases l with
  | nil => simp [rdIns] at h
  | cons x r' =>
    rcases hn : numbered (x.toNat : Int) with _ | _
    · simp [rdIns, hn] at h
      obtain ⟨rfl, rfl⟩ := h
      exact instruction_plain g x r' w hr hn
    · by_cases hs : r'.length < 8
      · simp [rdIns, hn, hs] at h
      · simp [rdIns, hn, hs] at h
        obtain ⟨rfl, rfl⟩ := h
        exact instruction_full g x r' w hr hn (by omega)
end Go.Proofs.YtlgbkbmjfmomkaaDoor
