/-
  The walks of the document's Least, Most, Take, Same; of Put where it is full.
-/
import Derived.Test.YtgfoagpmkbdciaaHRDrop
import Derived.BigRegion
namespace Go.Proofs.Ytgfoagpmkbdciaa
open Go Go.Shelf Go.RowKit Go.Lib Go.Sort Go.Proofs HpM

theorem rput_full (w : World) (R : Nat) (S : Nat → Prop) (L : List It) (x : It) (h : RfS w R S L) (hl : L.length ≤ 1000000) (hn : ∀ y ∈ L, nm y ≠ nm x) (hs : 1024 ≤ L.length) : Calls Try.prog 16 #[.pointer (some ⟨R, 0, none⟩), ItV x] w (TellsIB 5 w) := by
  have HH : Hid (RfS (w.alloc (ItO x)) R S L) := h.below ((Below.refl _ _).alloc (Nat.le_refl _) _)
  have HN := Lib.hid hn
  obtain ⟨a, n, c, hR, hn0, hnc, hA, hsome⟩ := HH.out.open hl
  have r0 : (w.alloc (ItO x)).cell? ⟨R, 0, none⟩ = some (.slice a n c) := by rw [cell_of_row _ _ _ _ _ _ hR]; rfl
  obtain ⟨x0, x1, x2, x3, x4, x5, x6, -, -, -, -, -, -, -⟩ := box_here (heap_alloc_new w (ItO x))
  have hn2 : decide ((n : Int) ≥ 1024) = true := by simp; omega
  clear h hn hs hR hn0 hnc hA hsome
  go_enter Try.func16, Try.ntmps16
  go_wp2_with (go_at_call 29; refine (of_any _ R S L _ _ HH.out hl).mono ?_; rintro e w1 ⟨r, rfl, hr, rfl⟩; obtain rfl := hr.none HN.out; clear hr)
  go_ret
  exact ⟨rfl, (Below.refl _ _).alloc (Nat.le_refl _) _⟩

theorem rleast0 (w : World) (R : Nat) (S : Nat → Prop) (h : RfS w R S []) : Calls Try.prog 26 #[.pointer (some ⟨R, 0, none⟩)] w (ItTo itZ false w) := by
  have hh : RfS (w.alloc ItZO) R S [] := h.below ((Below.refl _ _).alloc (Nat.le_refl _) _)
  obtain ⟨a, n, c, hR, hn0, hnc, hA, hsome⟩ := hh.open (by simp)
  have hn : n = 0 := hn0
  subst hn
  have r0 : (w.alloc ItZO).cell? ⟨R, 0, none⟩ = some (.slice a 0 c) := by rw [cell_of_row _ _ _ _ _ _ hR]; rfl
  clear h hh hR hn0 hnc hA hsome
  go_enter Try.func26, Try.ntmps26
  go_wp2
  exact bodyPost_ret (v := .tuple #[ItV itZ, .bool false]) (by simp [results, Try.results26, go_sem, itZ]) rfl ⟨rfl, (Below.refl _ _).alloc (Nat.le_refl _) _⟩
theorem rleast1 (w : World) (R : Nat) (S : Nat → Prop) (x : It) (t : List It) (h : RfS w R S (x :: t)) (hl : (x :: t).length ≤ 1000000) : Calls Try.prog 26 #[.pointer (some ⟨R, 0, none⟩)] w (ItTo x true w) := by
  have hh : RfS (w.alloc ItZO) R S (x :: t) := h.below ((Below.refl _ _).alloc (Nat.le_refl _) _)
  obtain ⟨a, n, c, hR, hn0, hnc, hA, hsome⟩ := hh.open hl
  have hnp : 0 < n := by rw [hn0]; simp
  obtain ⟨B, off, rfl, hB, x', hx', hc⟩ := hA.cell hnp
  obtain rfl : x = x' := by simpa using hx'
  have r0 : (w.alloc ItZO).cell? ⟨R, 0, none⟩ = some (.slice (some ⟨B, off, none⟩) n c) := by rw [cell_of_row _ _ _ _ _ _ hR]; rfl
  have x7 := hc.seven
  simp only [Nat.zero_mul, Nat.add_zero] at x7
  obtain ⟨x0, x1, x2, x3, x4, x5, x6⟩ := x7
  have hd : ((n : Int) == 0) = false := beq_eq_false_iff_ne.2 (by omega)
  have hz : (0 : Int) < (n : Int) := by omega
  clear h hh hR hn0 hnc hA hsome hl hx' hc
  go_enter Try.func26, Try.ntmps26
  go_wp2
  exact bodyPost_ret (v := .tuple #[ItV x, .bool true]) (by simp [results, Try.results26, go_sem]) rfl ⟨rfl, (Below.refl _ _).alloc (Nat.le_refl _) _⟩
theorem rmost0 (w : World) (R : Nat) (S : Nat → Prop) (h : RfS w R S []) : Calls Try.prog 27 #[.pointer (some ⟨R, 0, none⟩)] w (ItTo itZ false w) := by
  have hh : RfS (w.alloc ItZO) R S [] := h.below ((Below.refl _ _).alloc (Nat.le_refl _) _)
  obtain ⟨a, n, c, hR, hn0, hnc, hA, hsome⟩ := hh.open (by simp)
  have hn : n = 0 := hn0
  subst hn
  have r0 : (w.alloc ItZO).cell? ⟨R, 0, none⟩ = some (.slice a 0 c) := by rw [cell_of_row _ _ _ _ _ _ hR]; rfl
  clear h hh hR hn0 hnc hA hsome
  go_enter Try.func27, Try.ntmps27
  go_wp2
  exact bodyPost_ret (v := .tuple #[ItV itZ, .bool false]) (by simp [results, Try.results27, go_sem, itZ]) rfl ⟨rfl, (Below.refl _ _).alloc (Nat.le_refl _) _⟩
set_option maxHeartbeats 1000000 in
theorem rmost1 (w : World) (R : Nat) (S : Nat → Prop) (x : It) (t : List It) (h : RfS w R S (t ++ [x])) (hl : (t ++ [x]).length ≤ 1000000) : Calls Try.prog 27 #[.pointer (some ⟨R, 0, none⟩)] w (ItTo x true w) := by
  have hh : RfS (w.alloc ItZO) R S (t ++ [x]) := h.below ((Below.refl _ _).alloc (Nat.le_refl _) _)
  obtain ⟨a, n, c, hR, hn0, hnc, hA, hsome⟩ := hh.open hl
  have hnl : n = t.length + 1 := by rw [hn0]; simp
  obtain ⟨k, hk⟩ : ∃ k, k = t.length := ⟨_, rfl⟩
  have hkn : k < n := by omega
  obtain ⟨B, off, rfl, hB, x', hx', hc⟩ := hA.cell hkn
  obtain rfl : x = x' := by rw [hk] at hx'; simpa using hx'
  have r0 : (w.alloc ItZO).cell? ⟨R, 0, none⟩ = some (.slice (some ⟨B, off, none⟩) n c) := by rw [cell_of_row _ _ _ _ _ _ hR]; rfl
  obtain ⟨x0, x1, x2, x3, x4, x5, x6⟩ := hc.seven
  have hd : ((n : Int) == 0) = false := beq_eq_false_iff_ne.2 (by omega)
  have hkz : (n : Int) - 1 = (k : Int) := by omega
  have hz : (k : Int) < (n : Int) := by omega
  have hkw : IntKind.i64.wrap (k : Int) = (k : Int) := by simp at hl; rw [IntKind.wrap_i64]; omega
  obtain ⟨b0, b1, b2, b3, b4, b5, b6, f0, f1, f2, f3, f4, f5, f6⟩ := box_here (show (w.alloc ItZO).heap[w.heap.size]? = some (ItO itZ) from heap_alloc_new _ _)
  clear h hh hR hn0 hnc hA hsome hl hx' hc hnl hk
  go_enter Try.func27, Try.ntmps27
  have mixed : Try.prog.follows .mixedOrders = true := by kernel_rfl
  go_wp2_with fail
  have HW : Hid (Below w.heap.size w (w.alloc ItZO)) := (Below.refl w.heap.size w).alloc (Nat.le_refl _) ItZO
  generalize w.alloc ItZO = w1 at r0 x0 x1 x2 x3 x4 x5 x6 b0 b1 b2 b3 b4 b5 b6 f0 f1 f2 f3 f4 f5 f6 HW hB ⊢
  go_region
  all_goals
    go_wp2
    refine bodyPost_ret (v := .tuple #[ItV x, .bool true]) (by simp [results, Try.results27, go_sem, b0, b1, b2, b3, b4, b5, b6]) rfl ⟨rfl, ?_⟩
    exact (below_set7 HW.out (Nat.le_refl _) _ _ _ _ _ _ _).drew
end Go.Proofs.Ytgfoagpmkbdciaa
