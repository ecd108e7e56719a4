/-
  The walk of the text reader's instructionOf.
-/
import Derived.Test.YtlgbkbmjfmomkaaDoorI4
namespace Go.Proofs.YtlgbkbmjfmomkaaDoor
open Go.RowKit CodM

def InstrTo (x : Ins) (w : World) (e : Ending) (w' : World) : Prop := e = .returned (.agg #[.int .i64 x.1, .int .i64 x.2]) ∧ Below w.heap.size w w'

set_option maxHeartbeats 2000000 in
set_option maxRecDepth 100000 in
theorem instructionOf_none (s : ByteArray) (x d : List UInt8) (f : Bool) (w : World) (hG : GloT w) (hs : s.size < 4294967281) (hc : Lib.cut s.data.toList [32] = (x, d, f)) (hx : ∀ j, j < 17 → strU (wordAt j) ≠ strU x) :
    Calls Tryd.prog 62 #[.string s] w (NumberNo w) := by
  obtain ⟨m, hm⟩ := hG.max
  have HG := Lib.hid hG
  have HM := Lib.hid hm
  have HC := Lib.hid hc
  have HS := Lib.hid hs
  have HX := Lib.hid hx
  clear hG hm hc hs hx
  go_enter Tryd.func62, Tryd.ntmps62
  go_wp2_with (first
    | (go_at_call 58; refine (Tryd.strings_Cut s _ m _ HS.out ?_).mono ?_; exact (But.cell ((But.refl (fun _ => False) w).alloc _) HM.out (fun h => h)); rintro e w1 ⟨rfl, q, rfl⟩; rw [show Lib.cut s.data.toList _ = (x, d, f) from HC.out])
    | (go_at_call 73; refine (operationOf_none (strU x) HX.out _ ?_).mono ?_; exact (HG.out.next (below_drewN ((Below.refl _ w).alloc (Nat.le_refl _) _) _)).words; rintro e w' ⟨rfl, rfl⟩))
  exact ⟨rfl, rfl, below_drewN ((Below.refl _ w).alloc (Nat.le_refl _) _) _⟩
set_option maxHeartbeats 2000000 in
set_option maxRecDepth 100000 in
theorem instructionOf_plain (s : ByteArray) (j : Nat) (hj : j < 17) (d : List UInt8) (w : World) (hG : GloT w) (hs : s.size < 4294967281) (hc : Lib.cut s.data.toList [32] = (wordAt j, d, false)) (hn : numbered ((j : Int) + 1) = false) :
    Calls Tryd.prog 62 #[.string s] w (InstrTo ((j : Int) + 1, 0) w) := by
  obtain ⟨m, hm⟩ := hG.max
  have HG := Lib.hid hG
  have HM := Lib.hid hm
  have HC := Lib.hid hc
  have HS := Lib.hid hs
  have HN := Lib.hid hn
  clear hG hm hc hs hn
  go_enter Tryd.func62, Tryd.ntmps62
  go_wp2_with (first
    | (go_at_call 58; refine (Tryd.strings_Cut s _ m _ HS.out ?_).mono ?_; exact (But.cell ((But.refl (fun _ => False) w).alloc _) HM.out (fun h => h)); rintro e w1 ⟨rfl, q, rfl⟩; rw [show Lib.cut s.data.toList _ = (wordAt j, d, false) from HC.out])
    | (go_at_call 73; refine (operationOf_at j hj _ ?_).mono ?_; exact (HG.out.next (below_drewN ((Below.refl _ w).alloc (Nat.le_refl _) _) _)).words; rintro e w' ⟨rfl, rfl⟩)
    | (go_at_call 26; refine (numbered_any _ _).mono ?_; rintro e w' ⟨rfl, rfl⟩; rw [HN.out])
    | (go_at_call 49; refine (must_ok _).mono ?_; rintro e w' ⟨rfl, rfl⟩))
  obtain ⟨k0, k1⟩ := fin_cells (w := (w.alloc (.cells #[.int .i64 0, .int .i64 0] 49)).drewN q) (heap_alloc_new w _) (.int .i64 ((j : Int) + 1)) (.int .i64 0)
  refine bodyPost_ret (v := .agg #[.int .i64 ((j : Int) + 1), .int .i64 0]) (by simp [results, Tryd.results62, go_sem, k0, k1]) rfl ⟨rfl, ?_⟩
  exact ((below_drewN ((Below.refl _ w).alloc (Nat.le_refl _) _) _).setCell (Nat.le_refl _) _).setCell (Nat.le_refl _) _
set_option maxHeartbeats 2000000 in
set_option maxRecDepth 100000 in
theorem instructionOf_bare (s : ByteArray) (j : Nat) (hj : j < 17) (d : List UInt8) (w : World) (hG : GloT w) (hs : s.size < 4294967281) (hc : Lib.cut s.data.toList [32] = (wordAt j, d, false)) (hn : numbered ((j : Int) + 1) = true) :
    Calls Tryd.prog 62 #[.string s] w (NumberNo w) := by
  obtain ⟨m, hm⟩ := hG.max
  have HG := Lib.hid hG
  have HM := Lib.hid hm
  have HC := Lib.hid hc
  have HS := Lib.hid hs
  have HN := Lib.hid hn
  clear hG hm hc hs hn
  go_enter Tryd.func62, Tryd.ntmps62
  go_wp2_with (first
    | (go_at_call 58; refine (Tryd.strings_Cut s _ m _ HS.out ?_).mono ?_; exact (But.cell ((But.refl (fun _ => False) w).alloc _) HM.out (fun h => h)); rintro e w1 ⟨rfl, q, rfl⟩; rw [show Lib.cut s.data.toList _ = (wordAt j, d, false) from HC.out])
    | (go_at_call 73; refine (operationOf_at j hj _ ?_).mono ?_; exact (HG.out.next (below_drewN ((Below.refl _ w).alloc (Nat.le_refl _) _) _)).words; rintro e w' ⟨rfl, rfl⟩)
    | (go_at_call 26; refine (numbered_any _ _).mono ?_; rintro e w' ⟨rfl, rfl⟩; rw [HN.out])
    | (go_at_call 49; refine (must_no _).mono ?_; rintro e w' ⟨rfl, rfl⟩))
  exact ⟨rfl, rfl, below_drewN ((Below.refl _ w).alloc (Nat.le_refl _) _) _⟩
set_option maxHeartbeats 2000000 in
set_option maxRecDepth 100000 in
theorem instructionOf_odd (s : ByteArray) (j : Nat) (hj : j < 17) (d : List UInt8) (w : World) (hG : GloT w) (hs : s.size < 4294967281) (hc : Lib.cut s.data.toList [32] = (wordAt j, d, true)) (hn : numbered ((j : Int) + 1) = false) :
    Calls Tryd.prog 62 #[.string s] w (NumberNo w) := by
  obtain ⟨m, hm⟩ := hG.max
  have HG := Lib.hid hG
  have HM := Lib.hid hm
  have HC := Lib.hid hc
  have HS := Lib.hid hs
  have HN := Lib.hid hn
  clear hG hm hc hs hn
  go_enter Tryd.func62, Tryd.ntmps62
  go_wp2_with (first
    | (go_at_call 58; refine (Tryd.strings_Cut s _ m _ HS.out ?_).mono ?_; exact (But.cell ((But.refl (fun _ => False) w).alloc _) HM.out (fun h => h)); rintro e w1 ⟨rfl, q, rfl⟩; rw [show Lib.cut s.data.toList _ = (wordAt j, d, true) from HC.out])
    | (go_at_call 73; refine (operationOf_at j hj _ ?_).mono ?_; exact (HG.out.next (below_drewN ((Below.refl _ w).alloc (Nat.le_refl _) _) _)).words; rintro e w' ⟨rfl, rfl⟩)
    | (go_at_call 26; refine (numbered_any _ _).mono ?_; rintro e w' ⟨rfl, rfl⟩; rw [HN.out])
    | (go_at_call 49; refine (must_no _).mono ?_; rintro e w' ⟨rfl, rfl⟩))
  exact ⟨rfl, rfl, below_drewN ((Below.refl _ w).alloc (Nat.le_refl _) _) _⟩
set_option maxHeartbeats 2000000 in
set_option maxRecDepth 100000 in
theorem instructionOf_wrong (s : ByteArray) (j : Nat) (hj : j < 17) (d : List UInt8) (w : World) (hG : GloT w) (hs : s.size < 4294967281) (hc : Lib.cut s.data.toList [32] = (wordAt j, d, true)) (hn : numbered ((j : Int) + 1) = true) (hd : numRd d = none) (hl : d.length ≤ 281474976710656) :
    Calls Tryd.prog 62 #[.string s] w (NumberNo w) := by
  obtain ⟨m, hm⟩ := hG.max
  have HG := Lib.hid hG
  have HM := Lib.hid hm
  have HC := Lib.hid hc
  have HS := Lib.hid hs
  have HN := Lib.hid hn
  have HD := Lib.hid hd
  have HL := Lib.hid hl
  clear hG hm hc hs hn
  go_enter Tryd.func62, Tryd.ntmps62
  go_wp2_with (first
    | (go_at_call 58; refine (Tryd.strings_Cut s _ m _ HS.out ?_).mono ?_; exact (But.cell ((But.refl (fun _ => False) w).alloc _) HM.out (fun h => h)); rintro e w1 ⟨rfl, q, rfl⟩; rw [show Lib.cut s.data.toList _ = (wordAt j, d, true) from HC.out])
    | (go_at_call 73; refine (operationOf_at j hj _ ?_).mono ?_; exact (HG.out.next (below_drewN ((Below.refl _ w).alloc (Nat.le_refl _) _) _)).words; rintro e w' ⟨rfl, rfl⟩)
    | (go_at_call 26; refine (numbered_any _ _).mono ?_; rintro e w' ⟨rfl, rfl⟩; rw [HN.out])
    | (go_at_call 49; refine (must_ok _).mono ?_; rintro e w' ⟨rfl, rfl⟩)
    | (go_at_call 52; refine (numRd_no HD.out _ ?_ HL.out).mono ?_; exact (HG.out.next (below_drewN ((Below.refl _ w).alloc (Nat.le_refl _) _) _)); rintro e w2 ⟨rfl, hb2⟩))
  exact ⟨rfl, rfl, (below_drewN ((Below.refl _ w).alloc (Nat.le_refl _) _) _).trans (hb2.mono (by simp))⟩
set_option maxHeartbeats 2000000 in
set_option maxRecDepth 100000 in
theorem instructionOf_yes (s : ByteArray) (j : Nat) (hj : j < 17) (d : List UInt8) (v : Int) (w : World) (hG : GloT w) (hs : s.size < 4294967281) (hc : Lib.cut s.data.toList [32] = (wordAt j, d, true)) (hn : numbered ((j : Int) + 1) = true) (hd : numRd d = some v) (hl : d.length ≤ 281474976710656) :
    Calls Tryd.prog 62 #[.string s] w (InstrTo ((j : Int) + 1, v) w) := by
  obtain ⟨m, hm⟩ := hG.max
  have HG := Lib.hid hG
  have HM := Lib.hid hm
  have HC := Lib.hid hc
  have HS := Lib.hid hs
  have HN := Lib.hid hn
  have HD := Lib.hid hd
  have HL := Lib.hid hl
  clear hG hm hc hs hn
  go_enter Tryd.func62, Tryd.ntmps62
  go_wp2_with (first
    | (go_at_call 58; refine (Tryd.strings_Cut s _ m _ HS.out ?_).mono ?_; exact (But.cell ((But.refl (fun _ => False) w).alloc _) HM.out (fun h => h)); rintro e w1 ⟨rfl, q, rfl⟩; rw [show Lib.cut s.data.toList _ = (wordAt j, d, true) from HC.out])
    | (go_at_call 73; refine (operationOf_at j hj _ ?_).mono ?_; exact (HG.out.next (below_drewN ((Below.refl _ w).alloc (Nat.le_refl _) _) _)).words; rintro e w' ⟨rfl, rfl⟩)
    | (go_at_call 26; refine (numbered_any _ _).mono ?_; rintro e w' ⟨rfl, rfl⟩; rw [HN.out])
    | (go_at_call 49; refine (must_ok _).mono ?_; rintro e w' ⟨rfl, rfl⟩)
    | (go_at_call 52; refine (numRd_yes HD.out _ ?_ HL.out).mono ?_; exact (HG.out.next (below_drewN ((Below.refl _ w).alloc (Nat.le_refl _) _) _)); rintro e w2 ⟨rfl, hb2⟩; have h0 : w2.heap[w.heap.size]? = some (.cells #[.int .i64 0, .int .i64 0] 49) := (hb2.block _ (by simp)).trans (heap_alloc_new w _); have r0 : w2.cell? ⟨w.heap.size, 0, none⟩ = some (.int .i64 0) := (by rw [cell_of_row _ _ _ _ _ _ h0]; rfl); have r1 : w2.cell? ⟨w.heap.size, 1, none⟩ = some (.int .i64 0) := (by rw [cell_of_row _ _ _ _ _ _ h0]; rfl); have f0 : w2.frozen? ⟨w.heap.size, 0, none⟩ = false := frozen_of_row _ _ _ _ _ h0; have f1 : w2.frozen? ⟨w.heap.size, 1, none⟩ = false := frozen_of_row _ _ _ _ _ h0; have H0 := Lib.hid h0; have HB2 := Lib.hid hb2; clear h0 hb2))
  obtain ⟨k0, k1⟩ := fin_cells H0.out (.int .i64 ((j : Int) + 1)) (.int .i64 v)
  refine bodyPost_ret (v := .agg #[.int .i64 ((j : Int) + 1), .int .i64 v]) (by simp [results, Tryd.results62, go_sem, k0, k1]) rfl ⟨rfl, ?_⟩
  exact ((((below_drewN ((Below.refl _ w).alloc (Nat.le_refl _) _) _).trans (HB2.out.mono (by simp)))).setCell (Nat.le_refl _) _).setCell (Nat.le_refl _) _
end Go.Proofs.YtlgbkbmjfmomkaaDoor
