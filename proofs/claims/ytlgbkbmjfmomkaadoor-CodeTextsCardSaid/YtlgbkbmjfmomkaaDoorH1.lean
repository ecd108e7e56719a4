/-
  The readers' must, and the byte reader's number.
-/
import Derived.Test.YtlgbkbmjfmomkaaDoorG1
import Derived.Test.YtlgbkbmjfmomkaaDoorH0
import Derived.Laws.BitsAllLaws
import Derived.Deep.Cut
namespace Go.Proofs.YtlgbkbmjfmomkaaDoor
open Go.RowKit CodM

/-- the panic that ends a reader -/
abbrev codePanic : List PanicEntry := [{ v := .iface 29 (.int .i64 3), recovered := false }]
def Panics (w : World) (e : Ending) (w' : World) : Prop := e = .panicked codePanic ∧ w = w'
def TellsNone (w : World) (e : Ending) (w' : World) : Prop := e = .returned (.tuple #[]) ∧ w = w'
theorem must_ok (w : World) : Calls Tryd.prog 49 #[.bool true] w (TellsNone w) := by
  go_enter Tryd.func49, Tryd.ntmps49
  go_wp2
  go_end0
  exact ⟨rfl, rfl⟩
theorem must_no (w : World) : Calls Tryd.prog 49 #[.bool false] w (Panics w) := by
  go_enter Tryd.func49, Tryd.ntmps49
  go_wp2
  exact ⟨rfl, rfl, rfl⟩

theorem wrapI (n : Int) : IntKind.i64.wrap n = wrap64 n := by
  simp [IntKind.wrap, IntKind.signed, IntKind.bits, wrap64]
  omega
theorem or_join (V x : Int) (h0 : 0 ≤ x) (h1 : x < 256) : bits .or .i64 (wrap64 (V * 256)) x = wrap64 (V * 256 + x) := by
  unfold bits
  have ha : (BitVec.ofInt 64 (wrap64 (V * 256))).toNat = ((V * 256) % 18446744073709551616).toNat := by
    rw [BitVec.toNat_ofInt]; unfold wrap64; congr 1; omega
  have hb : (BitVec.ofInt 64 x).toNat = x.toNat := by
    rw [BitVec.toNat_ofInt]; congr 1; omega
  show IntKind.i64.wrap (((BitVec.ofInt 64 (wrap64 (V * 256)) ||| BitVec.ofInt 64 x).toNat : Nat) : Int) = _
  rw [BitVec.toNat_or, ha, hb, nat_join 8 _ _ (by show _ % 256 = 0; omega) (by show _ < 256; omega), wrapI]
  unfold wrap64
  omega
/-- the number of some bytes, the highest first -/
def numOf (l : List UInt8) : Int := l.foldl (fun (v : Int) (x : UInt8) => v * 256 + (x.toNat : Int)) 0
theorem numOf_snoc (l : List UInt8) (x : UInt8) : numOf (l ++ [x]) = numOf l * 256 + x.toNat := by unfold numOf; simp
theorem num0 : wrap64 (numOf []) = 0 := by simp [numOf, wrap64]
theorem wrap_step (V : Int) : wrap64 (wrap64 V * 256) = wrap64 (V * 256) := by unfold wrap64; omega

def NumRel (w : World) (size : Nat) (l : List UInt8) (v i : Value) (wr : World) : Prop :=
  ∃ k : Nat, k ≤ size ∧ i = .int .i64 k ∧ v = .int .i64 (wrap64 (numOf (l.take k))) ∧ w = wr
def NumTo (g : Nat) (l : List UInt8) (size : Nat) (w : World) (e : Ending) (w' : World) : Prop :=
  e = .returned (.int .i64 (wrap64 (numOf (l.take size)))) ∧ RdAt w' g (l.drop size) ∧ But (fun k => k = g) w w'

set_option maxHeartbeats 1000000 in
set_option maxRecDepth 100000 in
theorem number_no (g : Nat) (l : List UInt8) (size : Nat) (w : World) (hr : RdAt w g l) (hs : l.length < size) :
    Calls Tryd.prog 54 #[.pointer (some ⟨g, 0, none⟩), .int .i64 size] w (Panics w) := by
  obtain ⟨a, c, hh, hlc, hc, hb⟩ := hr
  have c0 : w.cell? ⟨g, 0, none⟩ = some (.slice a l.length c) := by rw [cell_of_row _ _ _ _ _ _ hh]; rfl
  have hd : decide (size ≤ l.length) = false := by simpa using hs
  clear hh hb
  go_enter Tryd.func54, Tryd.ntmps54
  go_wp2_with (first
    | (go_at_call 49; refine (must_no _).mono ?_; rintro e w' ⟨rfl, rfl⟩))
  exact ⟨rfl, rfl, rfl⟩

set_option maxHeartbeats 2000000 in
set_option maxRecDepth 100000 in
theorem number_yes (g : Nat) (l : List UInt8) (size : Nat) (w : World) (hr : RdAt w g l) (hs : size ≤ l.length) (h1 : 1 ≤ size) (h8 : size ≤ 8) :
    Calls Tryd.prog 54 #[.pointer (some ⟨g, 0, none⟩), .int .i64 size] w (NumTo g l size w) := by
  obtain ⟨a, c, hh, hlc, hc, hb⟩ := hr
  have c0 : w.cell? ⟨g, 0, none⟩ = some (.slice a l.length c) := by rw [cell_of_row _ _ _ _ _ _ hh]; rfl
  have f0 : w.frozen? ⟨g, 0, none⟩ = false := frozen_of_row _ _ _ _ _ hh
  rcases hb with rfl | ⟨B, off, rfl, hcell⟩
  · simp at hs; omega
  have hne : B ≠ g := RdAt.ne hh (fun e => by subst e; simp at hs; omega) hcell
  obtain ⟨n, hn⟩ : ∃ n, n = l.length := ⟨_, rfl⟩
  rw [← hn] at hlc c0 hs
  have HN := Lib.hid hn
  have HH := Lib.hid hh
  have HCELL := Lib.hid hcell
  clear hn hh hcell
  by_cases hcs : c = size
  · obtain rfl : n = size := by omega
    subst hcs
    go_enter Tryd.func54, Tryd.ntmps54
    go_wp2_with (first
      | (go_at_call 49; refine (must_ok _).mono ?_; rintro e w' ⟨rfl, rfl⟩))
    go_loopw [5, 23] (fun v i wr => NumRel w c l v i wr) (fun _ i _ => c - (intOf i).toNat)
    case atStart => exact ⟨0, Nat.zero_le _, rfl, by rw [List.take_zero, num0], rfl⟩
    case round =>
      obtain ⟨k, hk, rfl, rfl, rfl⟩ := hrel
      obtain ⟨V, hV⟩ : ∃ V, V = wrap64 (numOf (l.take k)) := ⟨_, rfl⟩
      rw [← hV]
      have HV := Lib.hid hV
      clear hV
      by_cases hlt : k < c
      · have hkl : k < l.length := by have := HN.out; omega
        have d1 := HCELL.out k hkl
        obtain ⟨x, hx⟩ : ∃ x : Int, x = (l[k].toNat : Int) := ⟨_, rfl⟩
        have hx0 : 0 ≤ x := by omega
        have hx1 : x < 256 := by have := l[k].toNat_lt; omega
        rw [← hx] at d1
        have HX := Lib.hid hx
        clear hx
        go_wp2
        go_roundw
        case rel =>
          refine ⟨k + 1, by omega, by go_num, ?_, rfl⟩
          rw [or_join V x hx0 hx1, HV.out, List.take_succ_eq_append_getElem hkl, numOf_snoc, ← HX.out]
          congr 1
          unfold wrap64
          omega
        case measure => simp [intOf]; omega
      · obtain rfl : k = c := by omega
        go_wp2
        go_ret
        refine ⟨by rw [HV.out]; rfl, ⟨some ⟨B, off, none⟩, 0, ?_, ?_, by omega, ?_⟩, (But.refl (fun j => j = g) _).setCell (.inl rfl) _⟩
        · rw [heap_setCell_same w g 0 _ _ _ HH.out, List.length_drop, ← HN.out]
          simp
        · rw [List.length_drop, ← HN.out]; omega
        · exact .inl (List.drop_eq_nil_of_le (by rw [← HN.out]; exact Nat.le_refl _))
  · have hcs' : size < c := by omega
    go_enter Tryd.func54, Tryd.ntmps54
    go_wp2_with (first
      | (go_at_call 49; refine (must_ok _).mono ?_; rintro e w' ⟨rfl, rfl⟩))
    go_loopw [5, 23] (fun v i wr => NumRel w size l v i wr) (fun _ i _ => size - (intOf i).toNat)
    case atStart => exact ⟨0, Nat.zero_le _, rfl, by rw [List.take_zero, num0], rfl⟩
    case round =>
      obtain ⟨k, hk, rfl, rfl, rfl⟩ := hrel
      obtain ⟨V, hV⟩ : ∃ V, V = wrap64 (numOf (l.take k)) := ⟨_, rfl⟩
      rw [← hV]
      have HV := Lib.hid hV
      clear hV
      by_cases hlt : k < size
      · have hkl : k < l.length := by have := HN.out; omega
        have d1 := HCELL.out k hkl
        obtain ⟨x, hx⟩ : ∃ x : Int, x = (l[k].toNat : Int) := ⟨_, rfl⟩
        have hx0 : 0 ≤ x := by omega
        have hx1 : x < 256 := by have := l[k].toNat_lt; omega
        rw [← hx] at d1
        have HX := Lib.hid hx
        clear hx
        go_wp2
        go_roundw
        case rel =>
          refine ⟨k + 1, by omega, by go_num, ?_, rfl⟩
          rw [or_join V x hx0 hx1, HV.out, List.take_succ_eq_append_getElem hkl, numOf_snoc, ← HX.out]
          congr 1
          unfold wrap64
          omega
        case measure => simp [intOf]; omega
      · obtain rfl : k = size := by omega
        go_wp2
        go_ret
        refine ⟨by rw [HV.out]; rfl, ⟨some ⟨B, off + k, none⟩, c - k, ?_, ?_, by omega, ?_⟩, (But.refl (fun j => j = g) _).setCell (.inl rfl) _⟩
        · rw [heap_setCell_same w g 0 _ _ _ HH.out, List.length_drop, ← HN.out]
          rfl
        · rw [List.length_drop, ← HN.out]; omega
        · exact BytAt.but (BytAt.drop (.inr ⟨B, off, rfl, HCELL.out⟩) k) ((But.refl (fun j => j = g) _).setCell (.inl rfl) _) (fun x hx _ e => by cases hx; exact hne e)
end Go.Proofs.YtlgbkbmjfmomkaaDoor
