/-
  Rows of numbers that are sorted: in memory; less; what a swap leaves.
-/
import Derived.Test.YtfonbompglddaaaGRound
import Derived.Test.YtfonbompglddaaaRows
import Derived.Sort.Row
import Derived.Sort.LotA
import Derived.Sort.LotD3
import Derived.Deep.LoopGhost
import Derived.BigRegion
namespace Go.Proofs.Ytfonbompglddaaa
open Go Go.RowKit Go.Lib Go.Sort Go.Proofs

abbrev uV (x : Nat) : Value := .int .u32 (x : Nat)
def ltN (x y : Nat) : Bool := decide (x < y)
theorem swoN : SWO ltN where
  irrefl x := by simp [ltN]
  trans x y z h1 h2 := by simp [ltN] at *; omega
  ntrans x y z h1 h2 := by simp [ltN] at *; omega
/-- a row of numbers at a block, and nothing else has turned since w0 -/
structure Rw (w0 w : World) (B : Nat) (d : Array Nat) : Prop where
  cell : ∀ j, j < d.size → w.cell? ⟨B, j, none⟩ = some (uV d[j]!)
  frozen : ∀ j, w.frozen? ⟨B, j, none⟩ = false
  lt : B < w0.heap.size
  but : But (fun b => b = B) w0 w
  shp : ∀ cur T, w0.heap[B]? = some (.cells cur T (0, 0)) → ∃ cur2, w.heap[B]? = some (.cells cur2 T (0, 0)) ∧ cur2.size = cur.size
theorem Rw.gw {w0 w w' : World} {B : Nat} {d : Array Nat} (h : Rw w0 w B d) (g : Gw w w') : Rw w0 w' B d := by
  have hB : B < w.heap.size := Nat.lt_of_lt_of_le h.lt h.but.size
  refine ⟨fun j hj => g.cell (h.cell j hj), fun j => ?_, h.lt, h.but.gw g, fun cur T e => ?_⟩
  · rw [← h.frozen j]
    unfold World.frozen?
    rw [show w'.heap[(⟨B, j, none⟩ : Addr).block]? = w.heap[(⟨B, j, none⟩ : Addr).block]? from g.block hB]
  · rw [g.block hB]
    exact h.shp cur T e
theorem Rw.drew {w0 w : World} {B : Nat} {d : Array Nat} (h : Rw w0 w B d) : Rw w0 w.drew B d := h.gw (Gw.refl _).drew
theorem Rw.next {w0 w1 w : World} {B : Nat} {d d1 : Array Nat} (h : Rw w0 w1 B d1) (k : Rw w1 w B d) : Rw w0 w B d := ⟨k.cell, k.frozen, h.lt, h.but.trans k.but, fun cur T e => by
  obtain ⟨c1, e1, z1⟩ := h.shp cur T e
  obtain ⟨c2, e2, z2⟩ := k.shp c1 T e1
  exact ⟨c2, e2, z2.trans z1⟩⟩
theorem Rw.start {w0 w : World} {B : Nat} {d : Array Nat} (h : Rw w0 w B d) : Rw w w B d := ⟨h.cell, h.frozen, Nat.lt_of_lt_of_le h.lt h.but.size, But.refl _ _, fun cur _ e => ⟨cur, e, rfl⟩⟩
theorem cell_setCell_same {w : World} {B j : Nat} {u v : Value} (h : w.cell? ⟨B, j, none⟩ = some u) : (w.setCell ⟨B, j, none⟩ v).cell? ⟨B, j, none⟩ = some v := by
  obtain ⟨c, e, fr, hb, hc⟩ := cells_of_cell? h
  rw [setCell_eq, cell?_mapBlock _ _ _ _ hb]
  have := (Array.getElem?_eq_some_iff.1 hc).1
  simp [this]
theorem cell_setCell_other {w : World} {B j k : Nat} {u v : Value} (h : w.cell? ⟨B, k, none⟩ = some u) (hk : k ≠ j) : (w.setCell ⟨B, j, none⟩ v).cell? ⟨B, k, none⟩ = some u := by
  obtain ⟨c, e, fr, hb, hc⟩ := cells_of_cell? h
  rw [setCell_eq, cell?_mapBlock _ _ _ _ hb]
  rw [Array.getElem?_setIfInBounds_ne (fun e => hk e.symm)]
  exact hc
theorem Rw.set {w0 w : World} {B : Nat} {d : Array Nat} (h : Rw w0 w B d) (j x : Nat) (hj : j < d.size) : Rw w0 (w.setCell ⟨B, j, none⟩ (uV x)) B (d.setIfInBounds j x) := by
  refine ⟨fun k hk => ?_, fun k => ?_, h.lt, h.but.setCell rfl _, fun cur T e => ?_⟩
  · rw [Array.size_setIfInBounds] at hk
    by_cases e : k = j
    · subst e
      rw [getElem!_set_same _ _ _ hj]
      exact cell_setCell_same (h.cell k hk)
    · rw [getElem!_set_other _ _ _ _ e]
      exact cell_setCell_other (h.cell k hk) e
  · rw [setCell_eq, frozen?_mapBlock]
    exact h.frozen k
  · obtain ⟨c1, e1, z1⟩ := h.shp cur T e
    exact ⟨c1.setIfInBounds j (uV x), heap_setCell_same w B j _ _ _ e1, by rw [Array.size_setIfInBounds, z1]⟩
theorem Rw.swp {w0 w : World} {B : Nat} {d : Array Nat} (h : Rw w0 w B d) (i j : Nat) (hi : i < d.size) (hj : j < d.size) : Rw w0 ((w.setCell ⟨B, i, none⟩ (uV d[j]!)).setCell ⟨B, j, none⟩ (uV d[i]!)) B (swp d i j) :=
  (h.set i d[j]! hi).set j d[i]! (by simpa using hj)
/-- its cells, met in a world of the class -/
theorem Rw.at_ {w0 w : World} {B : Nat} {d : Array Nat} (h : Rw w0 w B d) {j : Nat} (hj : j < d.size) : ∀ nq os, (grow (w.drewN nq) os).cell? ⟨B, j, none⟩ = some (uV d[j]!) := fun nq os => (h.gw (Gw.of w nq os)).cell j hj

theorem less_any (x y : Nat) (w : World) : Calls Try.prog 49 #[uV x, uV y] w fun e w' => e = .returned (.bool (ltN x y)) ∧ w' = w := by
  have hn : ∀ (z : Nat) (w : World), Calls Try.prog 59 #[uV z] w fun e w' => e = .returned (.bool false) ∧ w' = w := fun z w => by
    have hd : ((z : Int) != (z : Int)) = false := by simp
    go_enter Try.func59, Try.ntmps59
    go_wp2
    go_ret
    exact ⟨rfl, rfl⟩
  by_cases h : x < y
  · have he : ltN x y = true := decide_eq_true h
    rw [he]
    go_enter Try.func49, Try.ntmps49
    go_wp2_with (go_at_call 59; refine (hn _ _).mono ?_; rintro e w1 ⟨rfl, rfl⟩)
    go_ret
    exact ⟨by first | rfl | simp [h], rfl⟩
  · have he : ltN x y = false := decide_eq_false h
    rw [he]
    go_enter Try.func49, Try.ntmps49
    go_wp2_with (go_at_call 59; refine (hn _ _).mono ?_; rintro e w1 ⟨rfl, rfl⟩)
    go_ret
    exact ⟨by first | rfl | simp [h], rfl⟩
theorem less_g {x y : Nat} {t : Bool} (h : ltN x y = t) (w : World) (n : Nat) (os : Array Obj) : Calls Try.prog 49 #[uV x, uV y] (grow (w.drewN n) os) fun e w'' => e = .returned (.bool t) ∧ ∃ p : GrownBy, w'' = grow (w.drewN p.n) p.os :=
  h ▸ GwV.calls ((less_any x y _).mono fun _ _ ⟨he, hw⟩ => ⟨he, hw ▸ Gw.refl _⟩)
abbrev slU (B n c : Nat) : Value := .slice (some ⟨B, 0, none⟩) n c
end Go.Proofs.Ytfonbompglddaaa
