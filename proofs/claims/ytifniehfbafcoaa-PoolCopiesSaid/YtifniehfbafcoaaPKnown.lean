/-
  The walk of known.
-/
import Derived.Test.YtifniehfbafcoaaGUno
import Derived.Test.YtifniehfbafcoaaPTakeB
import Derived.Test.YtifniehfbafcoaaPPutZ
import Derived.Test.YtifniehfbafcoaaPLaw
namespace Go.Proofs.Ytifniehfbafcoaa
open Go Go.RowKit Go.Lib Go.Sort Go.Proofs

/-- the i-th message, and so many -/
abbrev mI (i : Nat) : Ms := (((0, 0, 0), 0, 0, 0), (i : Int), false, false, 0)
def mL (n : Nat) : List Ms := (List.range n).map mI
theorem mL_len (n : Nat) : (mL n).length = n := by simp [mL]
theorem mL_get {n i : Nat} (h : i < n) : (mL n)[i]? = some (mI i) := by simp [mL, h]
theorem mL_succ (n : Nat) : mL (n + 1) = mL n ++ [mI n] := by simp [mL, List.range_succ]
/-- Put, where there is room -/
theorem uno_put {w W : World} {G : Nat} {x : List Ms × Nat} {X : List (Nat × Obj)} (h : Uno plT w W G x X) (y : Ms) (hn : x.2 < 1000000) (hf : x.1.length < 131072) :
    Calls Try.prog 15 #[.pointer (some ⟨G, 0, none⟩), MsV y] W (fun e W' => e = .returned (.tuple #[.int .i64 x.2, .int .i64 0]) ∧ Uno plT w W' G (x.1 ++ [y], x.2 + 1) X) := h.l fun _ hF => pl_put hF y hn hf
theorem uno_full {w W : World} {G : Nat} {x : List Ms × Nat} {X : List (Nat × Obj)} (h : Uno plT w W G x X) (y : Ms) (hf : 131072 ≤ x.1.length) :
    Calls Try.prog 15 #[.pointer (some ⟨G, 0, none⟩), MsV y] W (fun e W' => e = .returned (.tuple #[.int .i64 0, .int .i64 5]) ∧ Uno plT w W' G x X) := h.l0 fun _ hF => pl_full hF y hf
theorem uno_take {w W : World} {G : Nat} {x : List Ms × Nat} {X : List (Nat × Obj)} (h : Uno plT w W G x X) (i : Nat) (y : Ms) (hy : x.1[i]? = some y) :
    Calls Try.prog 16 #[.pointer (some ⟨G, 0, none⟩), .int .i64 i] W (fun e W' => e = .returned (.tuple #[MsV y, .int .i64 0]) ∧ Uno plT w W' G (x.1.eraseIdx i, x.2) X) := h.l fun _ hF => pl_take hF i y hy
theorem uno_new {w W : World} (hb : Below w.heap.size w W) : Calls Try.prog 7 #[] W (fun e W' => ∃ G, e = .returned (.pointer (some ⟨G, 0, none⟩)) ∧ Uno plT w W' G ([], 0) []) := Uno.new hb (pl_new W)
theorem uno_list {w W : World} {G : Nat} {x : List Ms × Nat} {X : List (Nat × Obj)} (h : Uno plT w W G x X) (m : Int) :
    Calls Try.prog 18 #[.pointer (some ⟨G, 0, none⟩), .int .i64 m] W (fun e W' => ∃ v, e = .returned (.tuple #[v, .bool true]) ∧ MsC.Own 36 0 W' v (upTo x.1 m) ∧ Uno plT w W' G x X) := by
  obtain ⟨F, hF⟩ := h.at_
  exact (list_any W G F x m hF).mono fun e W' ⟨v, he, ho, hb⟩ => ⟨v, he, ho.mono (Nat.zero_le _), h.below hb⟩
set_option maxHeartbeats 1000000 in
theorem known_any (w : World) : Calls Try.prog 6 #[] w (Tells (.bool true) w) := by
  go_enter Try.func6, Try.ntmps6
  go_wp2_with (go_at_call 7; refine (uno_new (w := w) (Below.refl _ _)).mono ?_; rintro e w1 ⟨G, rfl, h1⟩; have H1 := Lib.hid h1; clear h1)
  go_loopg [2] 3 (fun kx s2 wr => ∃ i : Nat, s2 = .int .i64 i ∧ i ≤ 3 ∧ 3 - i ≤ kx ∧ Aside (Uno plT w wr G (mL i, i) []))
  case atStart => exact ⟨0, by go_num, Nat.zero_le _, Nat.le_refl _, H1.out⟩
  case round =>
    clear H1
    obtain ⟨i, rfl, hin, hkx, A⟩ := hrel
    by_cases hlt : i < 3
    · have hlz : decide ((i : Int) < 3) = true := by simp; omega
      have hiz : (i : Int) < 3 := by omega
      have HP : Hid ((mL i, i).2 < 1000000 ∧ (mL i, i).1.length < 131072) := ⟨by show i < _; omega, by show (mL i).length < _; rw [mL_len]; omega⟩
      go_wp2_with (go_at_call 15; refine (uno_put A.out (mI i) HP.out.1 HP.out.2).mono ?_; rintro e w3 ⟨rfl, h3⟩; have H3 := Lib.hid h3; clear h3)
      go_roundg (3 - (i + 1))
      case measure => omega
      case rel => exact ⟨i + 1, by go_num, by omega, Nat.le_refl _, by rw [mL_succ]; exact H3.out⟩
    · have hlz : decide ((i : Int) < 3) = false := by simp; omega
      obtain rfl : i = 3 := by omega
      clear hin hkx hlt
      have he : upTo ((mL 3).eraseIdx 1) 0 = [mI 0, mI 2] := by decide
      have HE := Lib.hid he
      clear he
      go_wp2_with (first
        | (go_at_call 16; refine (uno_take A.out 1 (mI 1) (mL_get (by decide))).mono ?_; rintro e w3 ⟨rfl, h3⟩; have H3 := Lib.hid (h3.box (MsO (mI 1))); clear h3)
        | (go_at_call 18; refine (uno_list H3.out 0).mono ?_; rintro e w4 ⟨v, rfl, ho, h4⟩; rw [HE.out] at ho; obtain ⟨g, c, hv, hg, -⟩ := ho.some_ (by decide); obtain rfl : v = .slice (some ⟨g, 0, none⟩) 2 c := hv; have z0 : w4.cell? ⟨g, 6, none⟩ = some (.int .i64 0) := World.ownsRow.cellAt (h := ho) 6 (by decide); have z1 : w4.cell? ⟨g, 16, none⟩ = some (.int .i64 2) := World.ownsRow.cellAt (h := ho) 16 (by decide); have x6 := (box_lit (h4.get (List.Mem.head _))).1.2.2.2.2.2.2.1; have H4 := Lib.hid h4; clear ho hg h4))
      go_ret
      exact ⟨rfl, H4.out.out⟩
end Go.Proofs.Ytifniehfbafcoaa
