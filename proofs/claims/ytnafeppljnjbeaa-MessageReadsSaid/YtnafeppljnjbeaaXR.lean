/-
  The walk of the document's at.
-/
import Derived.Test.YtnafeppljnjbeaaDH
import Derived.Test.YtnafeppljnjbeaaE1
import Derived.Deep.RegionHeld3
import Derived.Deep.Slices
namespace Go.Proofs.Ytnafeppljnjbeaa
open Go Go.RowKit Go.Sort Go.Proofs

def TellsV (v : Value) (w : World) (e : Ending) (w' : World) : Prop := e = .returned v ∧ Below w.heap.size w w'
theorem CB_cell {w : World} {a : Option Addr} {n : Nat} {l : List UInt8} (h : CB.At w a n l) {i : Nat} (hi : i < n) : ∃ B off, a = some ⟨B, off, none⟩ ∧ ∃ x : UInt8, l[i]? = some x ∧ w.cell? ⟨B, off + i, none⟩ = some (.int .u8 (x.toNat : Int)) := by
  obtain ⟨B, off, rfl, hB, x, hx, hc⟩ := h.cell hi
  have := hc 0 (by decide)
  rw [show off + i * CB.k + 0 = off + i by show off + i * 1 + 0 = _; omega] at this
  exact ⟨B, off, rfl, x, hx, this⟩
theorem numOf_low (l : List UInt8) (k : Nat) (h : k < 8) : 0 ≤ numOf (l.take k) ∧ numOf (l.take k) < 72057594037927936 := by
  have h1 := numOf_bd (l.take k)
  have h2 : (l.take k).length ≤ 7 := by rw [List.length_take]; omega
  obtain ⟨n, hn⟩ : ∃ n, n = (l.take k).length := ⟨_, rfl⟩
  rw [← hn] at h1 h2
  have h3 : (256 : Int) ^ n ≤ 72057594037927936 := by
    rcases n with _ | _ | _ | _ | _ | _ | _ | _ | n
    · decide
    · decide
    · decide
    · decide
    · decide
    · decide
    · decide
    · decide
    · omega
  omega
def DNRel (w : World) (l : List UInt8) (n : Nat) (v i : Value) (wr : World) : Prop :=
  ∃ k j : Nat, k + j = n ∧ v = .int .u64 (numOf (l.take k)) ∧ i = .int .i64 (k : Int) ∧ w = wr
set_option maxHeartbeats 1000000 in
set_option maxRecDepth 100000 in
theorem dnum_eq (w : World) (a : Option Addr) (n c : Nat) (l : List UInt8) (hb : CB.At w a n l) (hn : n ≤ 8) : Calls Try.prog 44 #[.slice a n c] w (fun e w' => e = .returned (.int .u64 (numOf l)) ∧ w = w') := by
  have HB := Lib.hid hb
  clear hb
  go_enter Try.func44, Try.ntmps44
  go_wp2
  go_loopw [3, 4] (fun v i wr => DNRel w l n v i wr) (fun _ i _ => ((n : Int) - intOf i).toNat)
  case atStart => exact ⟨0, n, by omega, rfl, rfl, rfl⟩
  case round =>
    obtain ⟨k, j, hkj, rfl, rfl, rfl⟩ := hrel
    have HKJ := Lib.hid hkj
    rcases j with _ | j
    · obtain rfl : k = n := by omega
      have ht : l.take k = l := List.take_of_length_le (Nat.le_of_eq HB.out.1)
      rw [ht]
      go_wp2
      go_ret
      exact ⟨rfl, rfl⟩
    · have hk : k < n := by omega
      obtain ⟨B, off, rfl, x, hx, hc⟩ := CB_cell HB.out hk
      have hx8 := x.toNat_lt
      obtain ⟨y, hy⟩ : ∃ y : Int, y = (x.toNat : Int) := ⟨_, rfl⟩
      rw [← hy] at hc
      have hy0 : 0 ≤ y := by omega
      have hy1 : y < 256 := by omega
      obtain ⟨v, hv⟩ : ∃ v, v = numOf (l.take k) := ⟨_, rfl⟩
      have hv2 := numOf_low l k (by omega)
      rw [← hv] at hv2 ⊢
      have HX := Lib.hid (And.intro hx (And.intro hy (And.intro hv hv2)))
      clear hkj hx hx8 hy hv hv2
      go_wp2
      go_roundw
      case rel =>
        refine ⟨k + 1, j, by have := HKJ.out; omega, ?_, by simp, rfl⟩
        rw [List.take_add_one, HX.out.1, Option.toList_some, numOf_snoc, ← HX.out.2.1, ← HX.out.2.2.1]
        have := HX.out.2.2.2
        congr 1
        rw [wrapU, wrapU]
        omega
      case measure => first | (simp [intOf]; done) | (simp [intOf]; omega)
theorem dnum_any (w : World) (a : Option Addr) (n c : Nat) (l : List UInt8) (hb : CB.At w a n l) (hn : n ≤ 8) : Calls Try.prog 44 #[.slice a n c] w (TellsV (.int .u64 (numOf l)) w) :=
  (dnum_eq w a n c l hb hn).mono fun _ _ ⟨h1, h2⟩ => ⟨h1, by rw [← h2]; exact Below.refl _ _⟩
end Go.Proofs.Ytnafeppljnjbeaa
namespace Go.Proofs.Ytnafeppljnjbeaa
open Go Go.RowKit Go.Sort Go.Proofs

theorem cell_bel {w w' : World} {p : Addr} {v : Value} (h : w.cell? p = some v) (hb : Below w.heap.size w w') : w'.cell? p = some v := by rw [hb.cell (World.block_lt_of_cell? w _ h)]; exact h
/-- a row of three cells, whatever they are -/
def ThreeK (W : World) (R : Nat) : Prop := ∃ v0 v1 v2 : Value, W.heap[R]? = some (.cells #[v0, v1, v2] 26 (0, 0))
abbrev SAk (B off : Nat) (y : Int) (w W : World) : Prop := W.cell? ⟨B, off + 8, none⟩ = some (.int .u8 y) ∧ Hid (B < w.heap.size ∧ Below w.heap.size w W ∧ ThreeK W w.heap.size)
theorem sAk_below {B off : Nat} {y : Int} {w W w' : World} (h : SAk B off y w W) (hb : Below W.heap.size W w') : SAk B off y w w' := by
  obtain ⟨h1, h2⟩ := h
  obtain ⟨hB, h3, v0, v1, v2, h4⟩ := h2.out
  exact ⟨cell_bel h1 hb, Lib.hid ⟨hB, h3.trans (hb.mono h3.size), v0, v1, v2, (hb.block _ (Array.getElem?_eq_some_iff.1 h4).1).trans h4⟩⟩
theorem sAk_set {B off : Nat} {y : Int} {w W : World} (h : SAk B off y w W) (o : Nat) (ho : o < 3) (v : Value) : SAk B off y w (W.setCell ⟨w.heap.size, o, none⟩ v) := by
  obtain ⟨h1, h2⟩ := h
  obtain ⟨hB, h3, v0, v1, v2, h4⟩ := h2.out
  have hbs : But (fun k => k = w.heap.size) W (W.setCell ⟨w.heap.size, o, none⟩ v) := (But.refl (fun k => k = w.heap.size) _).setCell (p := ⟨w.heap.size, o, none⟩) rfl _
  have hlt := World.block_lt_of_cell? W _ h1
  refine ⟨by rw [← h1]; exact World.cell?_of_block (hbs.block B hlt (by omega)), Lib.hid ⟨hB, h3.trans (hbs.below h3.size fun k e => by omega), ?_⟩⟩
  have h5 := heap_setCell_same W w.heap.size o _ _ v h4
  rcases o with _ | _ | _ | o
  · exact ⟨_, _, _, h5⟩
  · exact ⟨_, _, _, h5⟩
  · exact ⟨_, _, _, h5⟩
  · omega
theorem sAk_num {B off : Nat} {y : Int} {w W : World} {f : FuncId} {args : Array Value} {v : Value} (hc : Calls Try.prog f args W (TellsV v W)) (h : SAk B off y w W) : Calls Try.prog f args W (fun e w' => e = .returned v ∧ SAk B off y w w') :=
  hc.mono fun _ _ ⟨h1, h2⟩ => ⟨h1, sAk_below h h2⟩
set_option maxHeartbeats 4000000 in
set_option maxRecDepth 100000 in
theorem at_any (w : World) (B off n c : Nat) (l : List UInt8) (hb : CB.At w (some ⟨B, off, none⟩) n l) (hn : 17 ≤ n) (hc : n ≤ c) (hcm : c ≤ 9223372036854775807) : Calls Try.prog 45 #[.slice (some ⟨B, off, none⟩) n c] w (TellsV (.agg #[.int .i64 (wrap64 (numOf (l.take 8))), .int .i64 ((l.getD 8 0).toNat : Int), .int .i64 (wrap64 (numOf ((l.drop 9).take 8)))]) w) := by
  have mixed : Try.prog.follows .mixedOrders = true := by kernel_rfl
  have hn6 : n ≤ 1000000 := hb.2.1
  have h1 : CB.At w (some ⟨B, off, none⟩) 8 (l.take 8) := hb.front 8 (by omega)
  have h2 : CB.At w (some ⟨B, off + 9, none⟩) 8 ((l.drop 9).take 8) := by
    have := hb.part 9 17 (by omega) (by omega) B off rfl
    rw [show 9 * CB.k = 9 from rfl, List.drop_take] at this
    exact this
  obtain ⟨B', off', e, y, hy, hc8⟩ := CB_cell hb (i := 8) (by omega)
  cases e
  obtain ⟨u1, hu1⟩ : ∃ u, u = numOf (l.take 8) := ⟨_, rfl⟩
  obtain ⟨u2, hu2⟩ : ∃ u, u = numOf ((l.drop 9).take 8) := ⟨_, rfl⟩
  have hy2 : (l.getD 8 0).toNat = y.toNat := by rw [List.getD, hy]; rfl
  rw [hy2, ← hu1, ← hu2]
  obtain ⟨z, hz⟩ : ∃ z : Int, z = (y.toNat : Int) := ⟨_, rfl⟩
  rw [← hz] at hc8 ⊢
  have hz8 := y.toNat_lt
  have hz0 : 0 ≤ z := by omega
  have hz1 : z < 256 := by omega
  have HN : Hid ((∀ W c', Below w.heap.size w W → Calls Try.prog 44 #[.slice (some ⟨B, off, none⟩) 8 c'] W (TellsV (.int .u64 u1) W)) ∧ (∀ W c', Below w.heap.size w W → Calls Try.prog 44 #[.slice (some ⟨B, off + 9, none⟩) 8 c'] W (TellsV (.int .u64 u2) W))) := by
    rw [hu1, hu2]
    exact ⟨fun W c' hW => dnum_any W _ 8 c' _ (h1.below hW) (by decide), fun W c' hW => dnum_any W _ 8 c' _ (h2.below hW) (by decide)⟩
  have f1 : (8 : Int) ≤ (c : Int) := by omega
  have f2 : (17 : Int) ≤ (c : Int) := by omega
  have f3 : (8 : Int) < (n : Int) := by omega
  clear hy hy2 h1 h2 hb hu1 hu2 hz hz8
  go_enter Try.func45, Try.ntmps45
  go_upto_region 1 with fail
  generalize hw3 : World.alloc _ _ = w3
  have hb3 : Below w.heap.size w w3 := by rw [← hw3]; exact (Below.refl _ _).alloc (Nat.le_refl _) _
  have hx3 : w3.heap[w.heap.size]? = some (.cells #[.int .i64 0, .int .i64 0, .int .i64 0] 26 (0, 0)) := by rw [← hw3]; exact heap_alloc_new _ _
  have d8 := cell_bel hc8 hb3
  have hst0 : SAk B off z w w3.drew := ⟨d8, Lib.hid ⟨World.block_lt_of_cell? w _ hc8, hb3.drew, _, _, _, hx3⟩⟩
  clear hb3 hw3 hc8 hx3
  go_region_held3 (fun W => SAk B off z w W) (first | assumption | exact hst0 | exact sAk_set (sAk_set (sAk_set h5 0 (by decide) _) 1 (by decide) _) 2 (by decide) _ | exact sAk_set (sAk_set (sAk_set h4 0 (by decide) _) 1 (by decide) _) 2 (by decide) _)
    (first
    | (go_at_call_of 44 (Value.slice (some (⟨B, off, none⟩ : Addr)) 8 c); have hS : SAk B off z w _ := (by first | assumption | (constructor <;> assumption)); refine (sAk_num (B := B) (off := off) (y := z) (w := w) (HN.out.1 _ _ hS.2.out.2.1) hS).mono ?_; rintro e w4 ⟨rfl, h4⟩; obtain ⟨v40, v41, v42, hr4⟩ := h4.2.out.2.2; have e40 := cell_of_row _ _ 0 _ _ _ hr4; have e41 := cell_of_row _ _ 1 _ _ _ hr4; have e42 := cell_of_row _ _ 2 _ _ _ hr4; have fz4 : ∀ o, w4.frozen? ⟨w.heap.size, o, none⟩ = false := (fun o => frozen_of_row _ _ _ _ _ hr4); simp only [List.getElem?_toArray, List.getElem?_cons_zero, List.getElem?_cons_succ] at e40 e41 e42; clear hr4)
    | (go_at_call 44; have hS : SAk B off z w _ := (by first | assumption | (constructor <;> assumption)); refine (sAk_num (B := B) (off := off) (y := z) (w := w) (HN.out.2 _ _ hS.2.out.2.1) hS).mono ?_; rintro e w5 ⟨rfl, h5⟩; obtain ⟨v50, v51, v52, hr5⟩ := h5.2.out.2.2; have e50 := cell_of_row _ _ 0 _ _ _ hr5; have e51 := cell_of_row _ _ 1 _ _ _ hr5; have e52 := cell_of_row _ _ 2 _ _ _ hr5; have fz5 : ∀ o, w5.frozen? ⟨w.heap.size, o, none⟩ = false := (fun o => frozen_of_row _ _ _ _ _ hr5); simp only [List.getElem?_toArray, List.getElem?_cons_zero, List.getElem?_cons_succ] at e50 e51 e52; clear hr5))
  all_goals
    generalize hwf : World.setCell (World.setCell (World.setCell _ _ _) _ _) _ _ = wf
    have hf : wf.heap[w.heap.size]? = some (.cells #[.int .i64 (wrap64 u1), .int .i64 z, .int .i64 (wrap64 u2)] 26 (0, 0)) := by
      rw [← hwf, wrapI u1, wrapI u2, wrapI z, wrap64_id (n := z) (by unfold I64; omega)]
      first
        | (obtain ⟨x0, x1, x2, hr⟩ := h5.2.out.2.2; rw [heap_setCell_same _ _ _ _ _ _ (heap_setCell_same _ _ _ _ _ _ (heap_setCell_same _ _ _ _ _ _ hr))]; rfl)
        | (obtain ⟨x0, x1, x2, hr⟩ := h4.2.out.2.2; rw [heap_setCell_same _ _ _ _ _ _ (heap_setCell_same _ _ _ _ _ _ (heap_setCell_same _ _ _ _ _ _ hr))]; rfl)
    have hb : Below w.heap.size w wf := by
      rw [← hwf]
      first
        | exact (sAk_set (sAk_set (sAk_set h5 0 (by decide) _) 1 (by decide) _) 2 (by decide) _).2.out.2.1
        | exact (sAk_set (sAk_set (sAk_set h4 0 (by decide) _) 1 (by decide) _) 2 (by decide) _).2.out.2.1
    clear hwf
    go_wp2
    exact ⟨rfl, _, results_cell_row rfl _ _ w.heap.size 26 #[.int .i64 (wrap64 u1), .int .i64 z, .int .i64 (wrap64 u2)] (0, 0) _ rfl hf Try.underlying26 rfl (by kernel_rfl), rfl, hb⟩
end Go.Proofs.Ytnafeppljnjbeaa
