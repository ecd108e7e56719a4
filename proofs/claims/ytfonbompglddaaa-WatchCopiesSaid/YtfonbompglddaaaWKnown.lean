/-
  The walk of known.
-/
import Derived.Test.YtfonbompglddaaaGUno
import Derived.Test.YtfonbompglddaaaWMatch
namespace Go.Proofs.Ytfonbompglddaaa
open Go Go.RowKit Go.Lib Go.Sort Go.Proofs

theorem uno_set {w W : World} {G : Nat} {L : List On} {X : List (Nat × Obj)} (h : Uno wT w W G L X) (x : On) (hi : x.1 < 4294967296) (hm : bmay x.2 = true) (hg : lget L x.1 = none) (hl : L.length < 16) :
    Calls Try.prog 19 #[.pointer (some ⟨G, 0, none⟩), .int .u32 (x.1 : Nat), BkV x.2] W (fun e W' => e = .returned (.int .i64 0) ∧ Uno wT w W' G (ins x L) X) := h.l fun _ hF => set_put hF x hi hm hg hl
theorem uno_match {w W : World} {G : Nat} {L : List On} {X : List (Nat × Obj)} (h : Uno wT w W G L X) (ev : Ev) :
    Calls Try.prog 22 #[.pointer (some ⟨G, 0, none⟩), EvV ev] W (fun e W' => e = .returned (mtch (lmatch L ev)) ∧ Uno wT w W' G L X) := h.l0 fun _ hF => match_any hF ev
abbrev kL1 : List On := [(7, (2, -1, 10))]
abbrev kL2 : List On := [(3, (0, 1, 0)), (7, (2, -1, 10))]
theorem k_s1 {w W : World} {G : Nat} (h : Uno wT w W G [] []) : Calls Try.prog 19 #[.pointer (some ⟨G, 0, none⟩), .int .u32 7, .agg #[.int .i64 2, .int .i64 (-1), .int .i64 10]] W (fun e W' => e = .returned (.int .i64 0) ∧ Uno wT w W' G kL1 []) := uno_set h (7, (2, -1, 10)) (by decide) (by decide) (by decide) (by decide)
theorem k_s2 {w W : World} {G : Nat} (h : Uno wT w W G kL1 []) : Calls Try.prog 19 #[.pointer (some ⟨G, 0, none⟩), .int .u32 3, .agg #[.int .i64 0, .int .i64 1, .int .i64 0]] W (fun e W' => e = .returned (.int .i64 0) ∧ Uno wT w W' G kL2 []) := uno_set h (3, (0, 1, 0)) (by decide) (by decide) (by decide) (by decide)
theorem k_m1 {w W : World} {G : Nat} (h : Uno wT w W G kL2 []) : Calls Try.prog 22 #[.pointer (some ⟨G, 0, none⟩), .agg #[.int .i64 12, .int .i64 0, .int .i64 0, .int .i64 2, .int .i64 1, .int .i64 0]] W (fun e W' => e = .returned (.tuple #[.int .u32 3, .bool true]) ∧ Uno wT w W' G kL2 []) := uno_match h (12, 0, 0, 2, 1, 0)
theorem k_m2 {w W : World} {G : Nat} (h : Uno wT w W G kL2 []) : Calls Try.prog 22 #[.pointer (some ⟨G, 0, none⟩), .agg #[.int .i64 12, .int .i64 0, .int .i64 0, .int .i64 2, .int .i64 0, .int .i64 0]] W (fun e W' => e = .returned (.tuple #[.int .u32 7, .bool true]) ∧ Uno wT w W' G kL2 []) := uno_match h (12, 0, 0, 2, 0, 0)
theorem uno_new {w W : World} (hb : Below w.heap.size w W) : Calls Try.prog 8 #[] W (fun e W' => ∃ G, e = .returned (.pointer (some ⟨G, 0, none⟩)) ∧ Uno wT w W' G [] []) := Uno.new hb (new_any W)
set_option maxHeartbeats 1000000 in
theorem known_any (w : World) : Calls Try.prog 7 #[] w (Tells (.bool true) w) := by
  go_enter Try.func7, Try.ntmps7
  go_wp2_with (first
    | (go_at_call 8; refine (uno_new (w := w) (Below.refl _ _)).mono ?_; rintro e w1 ⟨G, rfl, h1⟩; have H1 := Lib.hid h1; clear h1)
    | (go_at_call 19; refine (k_s2 H2.out).mono ?_; rintro e w3 ⟨rfl, h3⟩; have H3 := Lib.hid h3; clear h3)
    | (go_at_call 19; refine (k_s1 H1.out).mono ?_; rintro e w2 ⟨rfl, h2⟩; have H2 := Lib.hid h2; clear h2)
    | (go_at_call 22; refine (k_m2 H4.out).mono ?_; rintro e w5 ⟨rfl, h5⟩; have H5 := Lib.hid h5; clear h5)
    | (go_at_call 22; refine (k_m1 H3.out).mono ?_; rintro e w4 ⟨rfl, h4⟩; have H4 := Lib.hid h4; clear h4))
  go_ret
  exact ⟨rfl, H5.out.out⟩
end Go.Proofs.Ytfonbompglddaaa
