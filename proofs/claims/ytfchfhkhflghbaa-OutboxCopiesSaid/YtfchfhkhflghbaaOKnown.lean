/-
  The walk of known.
-/
import Derived.Test.YtfchfhkhflghbaaGUno
import Derived.Test.YtfchfhkhflghbaaOTake
import Derived.Lib.SlBytesConst
namespace Go.Proofs.Ytfchfhkhflghbaa
open Go Go.RowKit Go.Lib Go.Sort Go.Proofs

section
variable {w W : World} {G : Nat} {x : St} {X : List (Nat × Obj)}
theorem uno_put (h : Uno obT w W G x X) (p : Addr) (c n : Nat) (b : By) (hn : n = b.length) (hA : CB.At W (some p) b.length b) (h0 : b ≠ []) (hr : (x.2.1.length : Int) < x.1) (hs : x.2.1.flatten.length + b.length ≤ 100000) (hs2 : x.2.1.length + 1 ≤ 100000) :
    Calls Try.prog 16 #[.pointer (some ⟨G, 0, none⟩), .slice (some p) n c] W (fun e W' => e = .returned (.int .i64 0) ∧ Uno obT w W' G (x.1, x.2.1 ++ [b], x.2.2) X) := by
  subst hn
  exact h.l fun _ hF => put_there hF p c b hA h0 hr hs hs2
theorem uno_full (h : Uno obT w W G x X) (a : Option Addr) (n c : Nat) (hn : n ≠ 0) (hf : x.1 = (x.2.1.length : Nat)) : Calls Try.prog 16 #[.pointer (some ⟨G, 0, none⟩), .slice a n c] W (fun e W' => e = .returned (.int .i64 5) ∧ Uno obT w W' G x X) := h.l0 fun _ hF => put_full hF a n c hn hf
theorem uno_take (h : Uno obT w W G x X) (hne : ∀ t ∈ x.2.1, t ≠ []) (n : Int) (K : Nat) (hK : min n (x.2.1.flatten.length : Nat) = (K : Nat)) (hK0 : 0 < K) (hs : x.2.2 + K ≤ 100000) (t : By) (ht : t = x.2.1.flatten.take K) (x2 : St) (hx2 : x2 = (x.1, cutT K x.2.1, x.2.2 + K)) :
    Calls Try.prog 17 #[.pointer (some ⟨G, 0, none⟩), .int .i64 n] W (fun e W' => ∃ TB, e = .returned (.slice (some ⟨TB, 0, none⟩) K K) ∧ W'.heap[TB]? = some (BO t) ∧ Uno obT w W' G x2 X) := by
  subst ht hx2
  obtain ⟨F, h1, h2, h3, h4⟩ := h
  have hz := h3.size
  refine (take_any h2 hne n K hK hK0 hs).mono fun e W' ⟨TB, he, k0, k1, k2, k3⟩ => ⟨TB, he, k1, F, h1, k2, h3.trans (k3.below hz h1), fun p hp => ?_⟩
  obtain ⟨p1, p2⟩ := h4 p hp
  exact ⟨p1, (k3.block _ (heap_lt p2) p1).trans p2⟩
theorem uno_room (h : Uno obT w W G x X) (q : Int) (hq : q = x.1 - (x.2.1.length : Nat)) : Calls Try.prog 20 #[.pointer (some ⟨G, 0, none⟩)] W (fun e W' => e = .returned (.int .i64 q) ∧ Uno obT w W' G x X ∧ Gw W W') := by
  subst hq
  obtain ⟨F, hF⟩ := h.at_
  exact (room_any hF).mono fun e W' ⟨he, hg⟩ => ⟨he, h.below hg.below, hg⟩
theorem uno_new {w W : World} (hb : Below w.heap.size w W) (m : Int) (hm : m ≤ 9223372036854775807) : Calls Try.prog 8 #[.int .i64 m] W (fun e W' => ∃ G, e = .returned (.pointer (some ⟨G, 0, none⟩)) ∧ Uno obT w W' G (max m 0, [], 0) []) := Uno.new hb (new_any W m hm)
end
theorem bo_str {w : World} {b K : Nat} {l : By} (h : w.heap[b]? = some (BO l)) (hl : l.length = K) (hK : K ≤ 1000000) {W : World} (hb : Below w.heap.size w W) : (convert 30 9 (.slice (some ⟨b, 0, none⟩) K K)).run Try.prog W = .ok (.string (strB l)) W := by
  subst hl
  exact ((bo_at h hK).below hb).str _
theorem strB_list (l : List UInt8) : (strB l).toList = l := by rw [ByteArray.toList_eq]; rfl
theorem lit_at {w : World} {b m1 m2 : Nat} {l : By} (h : w.heap[b]? = some (.cells (CB.cells l).toArray 5 (m1, m2))) (hl : l.length ≤ 1000000) : CB.At w (some ⟨b, 0, none⟩) l.length l :=
  ⟨rfl, hl, .inr ⟨b, 0, rfl, heap_lt h, fun i hi c hc => by
    rw [cell_of_row _ _ _ _ _ _ h, ← CB.cells_get l i c hi hc, Nat.zero_add]
    simp⟩⟩
set_option maxHeartbeats 4000000 in
set_option maxRecDepth 100000 in
theorem known_any (w : World) : Calls Try.prog 7 #[] w (Tells (.bool true) w) := by
  have mixed : Try.prog.follows .mixedOrders = true := by kernel_rfl
  have kc := fun (w : World) (C : Array Value) (n c : Nat) => Lib.run_convert_bytes_const (P := Try.prog) w 30 5 C n c Try.underlying30 Try.underlying5
  go_enter Try.func7, Try.ntmps7
  go_wp2_with (first
    | (go_at_call 16; refine (uno_full (H3.out.below ((Below.refl _ _).alloc (Nat.le_refl _) _)) _ 1 1 (by decide) rfl).mono ?_; rintro e w4 ⟨rfl, h4⟩; have H4 := Lib.hid h4; clear h4)
    | (go_at_call 16; refine (uno_put (H2.out.below ((Below.refl _ _).alloc (Nat.le_refl _) _)) ⟨w2.heap.size, 0, none⟩ 1 1 [99] rfl (lit_at (l := [99]) (heap_alloc_new _ _) (by decide)) (by decide) (by decide) (by decide) (by decide)).mono ?_; rintro e w3 ⟨rfl, h3⟩; have H3 := Lib.hid h3; clear h3)
    | (go_at_call 16; refine (uno_put (H1.out.below ((Below.refl _ _).alloc (Nat.le_refl _) _)) ⟨w1.heap.size, 0, none⟩ 2 2 [97, 98] rfl (lit_at (l := [97, 98]) (heap_alloc_new _ _) (by decide)) (by decide) (by decide) (by decide) (by decide)).mono ?_; rintro e w2 ⟨rfl, h2⟩; have H2 := Lib.hid h2; clear h2)
    | (go_at_call 8; refine (uno_new (w := w) (Below.refl _ _) 2 (by decide)).mono ?_; rintro e w1 ⟨G, rfl, h1⟩; have H1 := Lib.hid h1; clear h1))
  have H5 : Hid (Uno obT w w4.drew G (2, [[97, 98], [99]], 0) []) := H4.out.below (Below.refl _ w4).drew
  go_region_law (first
    | (go_simp; go_at_call 17; refine (uno_take H5.out (by decide) 1 1 (by decide) (by decide) (by decide) [97] rfl (2, [[98], [99]], 1) rfl).mono ?_; rintro e w5 ⟨TB, rfl, ht5, h5⟩; have H6 := Lib.hid h5; have hc5 := bo_str (K := 1) ht5 rfl (by decide) (Below.refl _ _); have HB5 := Lib.hid ht5; clear ht5 h5; dsimp only)
    | (go_simp; go_at_call 20; refine (uno_room H6.out 0 rfl).mono ?_; rintro e w6 ⟨rfl, h6, hg6⟩; have H7 := Lib.hid h6; have hc6 := bo_str (K := 1) HB5.out rfl (by decide) hg6.below; clear h6 hg6; dsimp only))
  all_goals
    clear hc5 hc6
    have H8 : Hid (Uno obT w w6.drew G (2, [[98], [99]], 1) []) := H7.out.below (Below.refl _ w6).drew
    go_wp2_with fail
    go_region_law (first
      | (go_simp; go_at_call 17; refine (uno_take H8.out (by decide) 1 1 (by decide) (by decide) (by decide) [98] rfl (2, [[99]], 2) rfl).mono ?_; rintro e w7 ⟨TB2, rfl, ht7, h7⟩; have H9 := Lib.hid h7; have hc7 := bo_str (K := 1) ht7 rfl (by decide) (Below.refl _ _); have HB7 := Lib.hid ht7; clear ht7 h7; dsimp only)
      | (go_simp; go_at_call 20; refine (uno_room H9.out 1 rfl).mono ?_; rintro e w8 ⟨rfl, h8, hg8⟩; have H10 := Lib.hid h8; have hc8 := bo_str (K := 1) HB7.out rfl (by decide) hg8.below; clear h8 hg8; dsimp only))
  all_goals
    clear hc7 hc8
    have hs1 : ((strB [97]).toList == [97]) = true := by rw [strB_list]; rfl
    have hs2 : ((strB [98]).toList == [98]) = true := by rw [strB_list]; rfl
    have hs3 : ((strB [99]).toList == [99]) = true := by rw [strB_list]; rfl
    go_wp2_with (go_at_call 17; refine (uno_take H10.out (by decide) 9 1 (by decide) (by decide) (by decide) [99] rfl (2, [], 3) rfl).mono ?_; rintro e w9 ⟨TB3, rfl, ht9, h9⟩; have H11 := Lib.hid h9; have hc9 := bo_str (K := 1) ht9 rfl (by decide) (Below.refl _ _); clear ht9 h9)
    go_ret
    exact ⟨rfl, H11.out.out⟩
end Go.Proofs.Ytfchfhkhflghbaa
