/-
  The walk of known.
-/
import Derived.Test.YtgfoagpmkbdciaaHNew
namespace Go.Proofs.Ytgfoagpmkbdciaa
open Go Go.Shelf Go.RowKit Go.Lib Go.Sort Go.Proofs HpM

abbrev kA : It := itOf 7 1 4
abbrev kB : It := itOf 3 1 5
abbrev kC : It := itOf 9 2 5
theorem kn1 : (∀ y ∈ ([] : List It), nm y ≠ nm kA) ∧ ([] : List It).length < 1024 ∧ [kA] = ins iLt [] kA := ⟨by decide, by decide, by decide⟩
theorem kn2 : (∀ y ∈ [kA], nm y ≠ nm kB) ∧ [kA].length < 1024 ∧ [kB, kA] = ins iLt [kA] kB := ⟨by decide, by decide, by decide⟩
theorem kn3 : (∀ y ∈ [kB, kA], nm y ≠ nm kC) ∧ [kB, kA].length < 1024 ∧ [kB, kA, kC] = ins iLt [kB, kA] kC := ⟨by decide, by decide, by decide⟩
theorem kn4 : kA ∈ [kB, kA, kC] := by decide
theorem kn5 : [kB, kC] = [kB, kA, kC].erase kA := by decide
theorem known_any (w : World) : Calls Try.prog 7 #[] w (fun e w' => e = .returned (.bool true) ∧ Below w.heap.size w w') := by
  go_enter Try.func7, Try.ntmps7
  go_wp2_with (first
    | (go_at_call 24; refine (hk_len (H11.out.box (ItO kB))).mono ?_; rintro e w12 ⟨rfl, rfl⟩)
    | (go_at_call 19; refine (hk_take (H10.out.box (ItO kA)) kB true rfl rfl rfl).mono ?_; rintro e w11 ⟨rfl, h11⟩; have H11 := Lib.hid h11; have g11 := (h11.box (ItO kB)); obtain ⟨x0, x1, x2, x3, x4, x5, x6, -, -, -, -, -, -, -⟩ := box_here (g11.get (b := w11.heap.size) (List.Mem.head _)); obtain ⟨u0, u1, u2, u3, u4, u5, u6, -, -, -, -, -, -, -⟩ := box_here (x := kA) (g11.get (b := w10.heap.size) (List.Mem.tail _ (List.Mem.head _))); obtain ⟨y0, y1, y2, y3, y4, y5, y6, -, -, -, -, -, -, -⟩ := box_here (x := kC) (g11.get (b := w9.heap.size) (List.Mem.tail _ (List.Mem.tail _ (List.Mem.head _)))); obtain ⟨z0, z1, z2, z3, z4, z5, z6, -, -, -, -, -, -, -⟩ := box_here (x := kB) (g11.get (b := w8.heap.size) (List.Mem.tail _ (List.Mem.tail _ (List.Mem.tail _ (List.Mem.head _))))); clear h11 g11)
    | (go_at_call 17; refine (hk_drop1 (H9.out.box (ItO kC)) 1 4 kA kn4 rfl kn5).mono ?_; rintro e w10 ⟨rfl, h10⟩; have H10 := Lib.hid h10; clear h10)
    | (go_at_call 23; refine (hk_most (H8.out.box (ItO kB)) kC true rfl rfl).mono ?_; rintro e w9 ⟨rfl, h9⟩; have H9 := Lib.hid h9; clear h9)
    | (go_at_call 22; refine (hk_least H7.out kB true rfl rfl).mono ?_; rintro e w8 ⟨rfl, h8⟩; have H8 := Lib.hid h8; clear h8)
    | (go_at_call 15; refine (hk_put H6.out kC kn3.1 kn3.2.1 kn3.2.2).mono ?_; rintro e w7 ⟨rfl, h7⟩; have H7 := Lib.hid h7; clear h7)
    | (go_at_call 21; with_reducible refine (item_any 9 2 5 _).mono ?_; rintro e w6 ⟨rfl, h6⟩; have H6 := Lib.hid (H5.out.below h6); clear h6)
    | (go_at_call 15; refine (hk_put H4.out kB kn2.1 kn2.2.1 kn2.2.2).mono ?_; rintro e w5 ⟨rfl, h5⟩; have H5 := Lib.hid h5; clear h5)
    | (go_at_call 21; with_reducible refine (item_any 3 1 5 _).mono ?_; rintro e w4 ⟨rfl, h4⟩; have H4 := Lib.hid (H3.out.below h4); clear h4)
    | (go_at_call 15; refine (hk_put H2.out kA kn1.1 kn1.2.1 kn1.2.2).mono ?_; rintro e w3 ⟨rfl, h3⟩; have H3 := Lib.hid h3; clear h3)
    | (go_at_call 21; with_reducible refine (item_any 7 1 4 _).mono ?_; rintro e w2 ⟨rfl, h2⟩; have H2 := Lib.hid (H1.out.below h2); clear h2)
    | (go_at_call 8; refine (hk_new (w := w) (Below.refl _ _)).mono ?_; rintro e w1 ⟨G, rfl, h1⟩; have H1 := Lib.hid h1; clear h1))
  go_ret
  exact ⟨rfl, (H11.out.box (ItO kB)).out⟩
end Go.Proofs.Ytgfoagpmkbdciaa
