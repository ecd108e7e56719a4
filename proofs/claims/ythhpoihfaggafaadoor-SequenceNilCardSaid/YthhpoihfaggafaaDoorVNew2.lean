/-
  (VNew again, and the copy of the program is known by its rows.)
  The walk of New, of a program that may be.
-/
import Derived.Test.YthhpoihfaggafaaDoorVMach
import Derived.Test.YthhpoihfaggafaaDoorD4
namespace Go.Proofs.YthhpoihfaggafaaDoor
open Go Go.RowKit Go.Sort Go.Proofs CodM VmM

def MadeC (w : World) (m : Mch) (p : Prg) (e : Ending) (w' : World) : Prop := ∃ M a n c, e = .returned (.tuple #[.pointer (some ⟨M, 0, none⟩), .int .i64 0]) ∧ MAt w' M m p a n c ∧ (∃ B, Cop B w' a n p.kinds) ∧ Below w.heap.size w w'
set_option maxHeartbeats 4000000 in
set_option maxRecDepth 100000 in
theorem New_cop (w : World) (p : Prg) (a : Option Addr) (n c : Nat) (hW : Wds w) (hp : ProgAt w a n p) (ha : SlOk a n c) (hmay : CodM.may (codeNk p) p = true) (m : Mch) (hpr : 1 ≤ m.procs ∧ m.procs ≤ 16) (hs : 1 ≤ m.self ∧ m.self ≤ m.procs) :
    Calls Tryd.prog 80 #[.agg #[.int .i64 p.vars, .slice a n c], .int .i64 m.self, .int .i64 m.procs, .int .i64 m.seed] w (MadeC w m p) := by
  have hq : p.kinds.length ≤ 8 ∧ ∀ l ∈ p.kinds, l.length ≤ 128 := by
    have h := hmay
    unfold CodM.may mayHead at h
    simp only [Bool.and_eq_true, decide_eq_true_eq, List.all_eq_true] at h
    refine ⟨h.1.2.2.2, fun l hl => ?_⟩
    have := h.2 l hl
    unfold CodM.mayKind at this
    simp only [Bool.and_eq_true, decide_eq_true_eq] at this
    exact this.1
  have hn : n ≤ 8 := by have := hp.2.1; omega
  have HM : Hid (∀ W, Below w.heap.size w W → Calls Tryd.prog 85 #[.agg #[.int .i64 p.vars, .slice a n c]] W (fun e w' => e = .returned (.bool true) ∧ Below W.heap.size W w')) := Lib.hid fun W hb => by
    have := may_any a n c p W (hW.next hb (Nat.le_refl _)) (hp.below hb (Nat.le_refl _))
    rw [hmay] at this
    exact this
  have HC : Hid (∀ W, Below w.heap.size w W → Calls Tryd.prog 101 #[.agg #[.int .i64 p.vars, .slice a n c]] W (CopyTo p.vars n p.kinds W)) := Lib.hid fun W hb => copy_any W a n c p.vars p.kinds (hp.2.below hb (Nat.le_refl _)) (by omega) (fun l hl => by have := hq.2 l hl; omega) ha
  have HMA : Hid (∀ (W : World) (M : Nat) (a2 : Option Addr) (c2 : Nat) (B : Nat), Cop B W a2 n p.kinds → W.heap[M]? = some (.cells (mcC p.vars a2 n c2 m) 132 (0, 0)) → MAt W M m p a2 n c2) := Lib.hid fun W M a2 c2 B h1 h2 => ⟨h2, ⟨hp.1, h1.kinds (by omega)⟩, hmay, hpr, hs⟩
  obtain ⟨w1, hw1⟩ : ∃ w1, w1 = w.alloc (.cells #[.int .i64 p.vars, .slice a n c] 70) := ⟨_, rfl⟩
  have hb1 : Below w.heap.size w w1 := by rw [hw1]; exact (Below.refl _ _).alloc (Nat.le_refl _) _
  have hx1 : w1.heap[w.heap.size]? = some (.cells #[.int .i64 p.vars, .slice a n c] 70 (0, 0)) := by rw [hw1]; exact heap_alloc_new _ _
  have e0 : w1.cell? ⟨w.heap.size, 0, none⟩ = some (.int .i64 p.vars) := by rw [cell_of_row _ _ _ _ _ _ hx1]; rfl
  have e1 : w1.cell? ⟨w.heap.size, 1, none⟩ = some (.slice a n c) := by rw [cell_of_row _ _ _ _ _ _ hx1]; rfl
  have HB := Lib.hid (And.intro hb1 hx1)
  have HW := Lib.hid hw1
  obtain ⟨hp1, hp2⟩ := hpr
  obtain ⟨hs1, hs2⟩ := hs
  have d1 : decide (m.procs < 1) = false := decide_eq_false (by omega)
  have d2 : decide (16 < m.procs) = false := decide_eq_false (by omega)
  have d3 : decide (m.self < 1) = false := decide_eq_false (by omega)
  have d4 : decide (m.procs < m.self) = false := decide_eq_false (by omega)
  clear hW hp ha hmay hq hw1 hb1 hx1
  go_enter Tryd.func80, Tryd.ntmps80
  go_upto_region 1 with fail
  rw [← HW.out]
  go_wp2_with (first
    | (go_at_call 85; refine (HM.out _ HB.out.1).mono ?_; rintro e w2 ⟨rfl, hb2⟩; have H2 := Lib.hid (HB.out.1.trans (hb2.mono HB.out.1.size)); have f0 : w2.cell? ⟨w.heap.size, 0, none⟩ = some (.int .i64 p.vars) := (hb2.cell (World.block_lt_of_cell? w1 _ e0)).trans e0; have f1 : w2.cell? ⟨w.heap.size, 1, none⟩ = some (.slice a n c) := (hb2.cell (World.block_lt_of_cell? w1 _ e1)).trans e1; clear hb2)
    | (go_at_call 101; refine (HC.out _ H2.out).mono ?_; rintro e w3 ⟨a3, c3, rfl, hsl, hcop, hb3⟩; have H3 := Lib.hid (And.intro (H2.out.trans (hb3.mono H2.out.size)) hcop); clear hsl hcop hb3))
  go_ret2
  have hk := fun (o : Obj) => H3.out.2.keep (X := w3.heap.size) (Keep.below _ ((Below.refl _ _).alloc (Nat.le_refl _) o)) (fun cur => by rw [Array.getElem?_eq_none (Nat.le_refl _)]; exact fun h => by cases h) (fun cur => by rw [Array.getElem?_eq_none (Nat.le_refl _)]; exact fun h => by cases h)
  exact ⟨w3.heap.size, a3, n, c3, rfl, HMA.out _ _ a3 c3 w2.heap.size (hk _) (heap_alloc_new _ _), ⟨_, hk _⟩, H3.out.1.alloc H3.out.1.size _⟩
end Go.Proofs.YthhpoihfaggafaaDoor
