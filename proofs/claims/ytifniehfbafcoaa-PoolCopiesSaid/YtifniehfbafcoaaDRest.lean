/-
  The least key, how many are below a colour; the walks of the document's Least, Older, Copy.
-/
import Derived.Test.YtifniehfbafcoaaDRef
import Derived.Test.YtifniehfbafcoaaGOwn
import Derived.Test.YtifniehfbafcoaaGRound
import Derived.Deep.RegionLaw
import Derived.OwnWalk
import Derived.TacticsIn
namespace Go.Proofs.Ytifniehfbafcoaa
open Go Go.RowKit Go.Lib Go.Sort Go.Proofs

/-- the least key so far, and is there one; with one message more -/
def stp (s : Ky × Bool) (x : Ms) : Ky × Bool := if (!s.2 || kLt x.1.1 s.1) = true then (x.1.1, true) else s
def lst (L : List Ms) : Ky × Bool := L.foldl stp ((0, 0, 0), false)
theorem lst_snoc (L : List Ms) (x : Ms) : lst (L ++ [x]) = stp (lst L) x := by simp [lst]
/-- how many have a colour below c -/
def old (c : Int) (L : List Ms) : Nat := (L.filter fun x => decide (x.2.2.2.2 < c)).length
theorem old_snoc (c : Int) (L : List Ms) (x : Ms) : old c (L ++ [x]) = if x.2.2.2.2 < c then old c L + 1 else old c L := by
  unfold old
  rw [List.filter_append, List.length_append]
  by_cases h : x.2.2.2.2 < c <;> simp [h]
theorem old_le (c : Int) (L : List Ms) : old c L ≤ L.length := List.length_filter_le _ _
/-- a key as a value, as an object -/
abbrev KyV (k : Ky) : Value := .agg #[.int .i64 k.1, .int .i64 k.2.1, .int .i64 k.2.2]
abbrev KyO (k : Ky) : Obj := .cells #[.int .i64 k.1, .int .i64 k.2.1, .int .i64 k.2.2] 32
abbrev LeastTo (s : Ky × Bool) (w : World) (e : Ending) (w' : World) : Prop := Tells (.tuple #[KyV s.1, .bool s.2]) w e w'

theorem older_any {w : World} {R : Nat} {S : Nat → Prop} {x : List Ms × Nat} (h : Rf w R S x) (col : Int) : Calls Try.prog 26 #[.pointer (some ⟨R, 0, none⟩), .int .i64 col] w (SameV (.int .i64 (old col x.1 : Nat)) w) := by
  obtain ⟨L, N⟩ := x
  obtain ⟨a, n, c, hR, hn0, hnc, hA, -⟩ := h.open
  have r0 : w.cell? ⟨R, 0, none⟩ = some (.slice a n c) := by rw [cell_of_row _ _ _ _ _ _ hR]; rfl
  have HA := Lib.hid hA
  have HN : Hid (n = L.length) := hn0
  have hnb : n ≤ 1000000 := hA.2.1
  clear h hR hn0 hnc hA
  go_enter Try.func26, Try.ntmps26
  go_wp2
  go_loopg [5, 6] n (fun kx s5 s6 wr => ∃ i k : Nat, s5 = .int .i64 k ∧ s6 = .int .i64 i ∧ i ≤ n ∧ k ≤ i ∧ n - i ≤ kx ∧ w = wr ∧ Aside (k = old col (L.take i)))
  case atStart => exact ⟨0, 0, by go_num, by go_num, Nat.zero_le _, Nat.le_refl _, Nat.le_refl _, rfl, rfl⟩
  case round =>
    obtain ⟨i, k, rfl, rfl, hin, hki, hkx, rfl, A⟩ := hrel
    by_cases hlt : i < n
    · have hlz : decide ((i : Int) < (n : Int)) = true := by simpa using hlt
      have hiz : (i : Int) < (n : Int) := by omega
      obtain ⟨B, off, rfl, hB, y, hy, hc⟩ := at_cell HA.out hlt
      obtain ⟨x0, x1, x2, x3, x4, x5, x6, x7, x8, x9⟩ := ten hc
      have HY := Lib.hid hy
      clear hc hy x0 x1 x2 x3 x4 x5 x6 x7 x8
      by_cases hcol : y.2.2.2.2 < col
      · have hd : decide (y.2.2.2.2 < col) = true := by simpa using hcol
        have HC := Lib.hid hcol
        clear hcol
        go_wp2
        go_roundg (n - (i + 1))
        case measure => omega
        case rel => exact ⟨i + 1, k + 1, by go_num, by go_num, by omega, by omega, Nat.le_refl _, rfl, by show _ = _; rw [List.take_add_one, HY.out]; show _ = old col (L.take i ++ [y]); rw [old_snoc, if_pos HC.out, A.out]⟩
      · have hd : decide (y.2.2.2.2 < col) = false := by simpa using hcol
        have HC := Lib.hid hcol
        clear hcol
        go_wp2
        go_roundg (n - (i + 1))
        case measure => omega
        case rel => exact ⟨i + 1, k, by go_num, by go_num, by omega, by omega, Nat.le_refl _, rfl, by show _ = _; rw [List.take_add_one, HY.out]; show _ = old col (L.take i ++ [y]); rw [old_snoc, if_neg (by have := HC.out; omega), A.out]⟩
    · have hlz : decide ((i : Int) < (n : Int)) = false := by simp; omega
      obtain rfl : i = n := by omega
      go_wp2
      go_ret
      refine ⟨?_, rfl⟩
      rw [A.out, List.take_of_length_le (by have := HN.out; omega)]
      rfl
theorem rless_g {x y : Ky} {t : Bool} (ht : t = kLt x y) (w : World) (n : Nat) (os : Array Obj) :
    Calls Try.prog 35 #[KyV x, KyV y] (grow (w.drewN n) os)
      fun e0 w'' => e0 = .returned (.bool t) ∧ ∃ p : GrownBy, w'' = grow (w.drewN p.n) p.os :=
  Calls.grown_of ((rless_any x.1 x.2.1 x.2.2 y.1 y.2.1 y.2.2 _).mono fun _ _ ⟨he, os, hw⟩ => ⟨by rw [he, ht], 0, os, by rw [hw]; rfl⟩)
set_option maxHeartbeats 4000000 in
theorem rleast_any {w : World} {R : Nat} {S : Nat → Prop} {x : List Ms × Nat} (h : Rf w R S x) : Calls Try.prog 24 #[.pointer (some ⟨R, 0, none⟩)] w (LeastTo (lst x.1) w) := by
  have mixed : Try.prog.follows .mixedOrders = true := by kernel_rfl
  obtain ⟨L, N⟩ := x
  have hal : Below w.heap.size w (w.alloc (KyO (0, 0, 0))) := (Below.refl _ _).alloc (Nat.le_refl _) _
  obtain ⟨a, n, c, hR, hn0, hnc, hA, -⟩ := (h.below hal).open
  have r0 : (w.alloc (KyO (0, 0, 0))).cell? ⟨R, 0, none⟩ = some (.slice a n c) := by rw [cell_of_row _ _ _ _ _ _ hR]; rfl
  have HA := Lib.hid hA
  have HN : Hid (n = L.length) := hn0
  have hnb : n ≤ 1000000 := hA.2.1
  have HX0 : Hid ((w.alloc (KyO (0, 0, 0))).heap[w.heap.size]? = some (KyO (0, 0, 0))) := heap_alloc_new _ _
  have HW : Hid (Below w.heap.size w (w.alloc (KyO (0, 0, 0)))) := hal
  clear h hR hn0 hnc hA hal
  go_enter Try.func24, Try.ntmps24
  go_wp2
  obtain ⟨w1, hw1⟩ : ∃ w1, w1 = w.alloc (KyO (0, 0, 0)) := ⟨_, rfl⟩
  rw [← hw1] at HA HX0 HW r0 ⊢
  clear hw1
  have HR0 := Lib.hid r0
  clear r0
  go_loopg [4, 5] n (fun kx s4 s5 wr => ∃ i : Nat, ∃ z : Int, s4 = .int .i64 z ∧ s5 = .int .i64 i ∧ i ≤ n ∧ n - i ≤ kx ∧ Aside (Gw w1 wr ∧ ((z = -1 ∧ i = 0) ∨ ∃ (j : Nat) (y : Ms), z = j ∧ j < i ∧ L[j]? = some y ∧ lst (L.take i) = (y.1.1, true))))
  case atStart => exact ⟨0, -1, by go_num, by go_num, Nat.zero_le _, Nat.le_refl _, Gw.refl _, .inl ⟨rfl, rfl⟩⟩
  case round =>
    obtain ⟨i, z, rfl, rfl, hin, hkx, A⟩ := hrel
    have r0 := fun nq os => (A.out.1.trans (Gw.of wr nq os)).cell HR0.out
    have r00 : wr.cell? ⟨R, 0, none⟩ = some (.slice a n c) := A.out.1.cell HR0.out
    by_cases hlt : i < n
    · have hlz : decide ((i : Int) < (n : Int)) = true := by simpa using hlt
      have hiz : (i : Int) < (n : Int) := by omega
      obtain ⟨B, off, rfl, hB, y, hy, hc⟩ := at_cell HA.out hlt
      have hcell : ∀ nq os, MsC.Cell (grow (wr.drewN nq) os) B (off + i * 10) y := fun nq os => hc.same ((A.out.1.trans (Gw.of wr nq os)).block hB)
      have x0 := fun nq os => (ten (hcell nq os)).1
      have x1 := fun nq os => (ten (hcell nq os)).2.1
      have x2 := fun nq os => (ten (hcell nq os)).2.2.1
      have HY := Lib.hid hy
      clear hcell hc hy
      have hA2 := A.out.2
      rcases hA2 with ⟨rfl, rfl⟩ | ⟨j, v, rfl, hji, hv, hls⟩
      · go_wp2_with fail
        refine wp_region_gw (by kernel_rfl) (by kernel_rfl) ?_
        iterate 23 (refine WQ.step (fun K hK => ?_); go_simp; first | (refine hK _ ?_; clear hK K))
        refine WQ.nil ?_
        intro _ hw'
        obtain ⟨⟨nq, osq⟩, hw''⟩ := hw'
        subst hw''
        have G2 : Hid (Gw w1 (grow (wr.drewN nq) osq)) := A.out.1.trans (Gw.of wr nq osq)
        clear r0 x0 x1 x2 r00
        generalize grow (wr.drewN nq) osq = w2 at G2 ⊢
        go_wp2
        go_roundg (n - 1)
        case measure => omega
        case rel => exact ⟨1, 0, by go_num, by go_num, by omega, Nat.le_refl _, G2.out, .inr ⟨0, y, rfl, by omega, HY.out, by rw [show L.take 1 = [] ++ [y] by rw [List.take_add_one, HY.out]; rfl, lst_snoc]; rfl⟩⟩
      · have hjz : (j : Int) < (n : Int) := by omega
        have hjn : ¬ (j : Int) < 0 := by omega
        have hjb : j < 1000000 := by omega
        obtain ⟨B', off', e, hB', v', hv', hc'⟩ := at_cell HA.out (i := j) (by omega)
        cases e
        obtain rfl : v = v' := by rw [hv] at hv'; exact Option.some.inj hv'
        have hcell : ∀ nq os, MsC.Cell (grow (wr.drewN nq) os) B (off + j * 10) v := fun nq os => hc'.same ((A.out.1.trans (Gw.of wr nq os)).block hB)
        have y0 := fun nq os => (ten (hcell nq os)).1
        have y1 := fun nq os => (ten (hcell nq os)).2.1
        have y2 := fun nq os => (ten (hcell nq os)).2.2.1
        have HV := Lib.hid (And.intro hv hls)
        have HJ := Lib.hid hji
        clear hcell hc' hv hv' hls hji hB'
        have hstep : lst (L.take (i + 1)) = stp (v.1.1, true) y := by
          rw [List.take_add_one, HY.out]
          show lst (L.take i ++ [y]) = _
          rw [lst_snoc, HV.out.2]
        have HST := Lib.hid hstep
        clear hstep
        cases ht : kLt y.1.1 v.1.1 with
        | true =>
          have HT : Hid (true = kLt y.1.1 v.1.1) := ht.symm
          clear ht
          go_wp2_with fail
          refine wp_region_gw (by kernel_rfl) (by kernel_rfl) ?_
          iterate 23 (refine WQ.step (fun K hK => ?_); go_simp; first | (refine hK _ ?_; clear hK K) | (apply Exists.intro; refine ⟨fun _ => ?_, hK _ ?_⟩; (first | (go_at_call 35; exact rless_g HT.out wr _ _)); clear hK K))
          refine WQ.nil ?_
          intro _ hw'
          obtain ⟨⟨nq, osq⟩, hw''⟩ := hw'
          subst hw''
          have G2 : Hid (Gw w1 (grow (wr.drewN nq) osq)) := A.out.1.trans (Gw.of wr nq osq)
          clear r0 x0 x1 x2 r00 y0 y1 y2
          generalize grow (wr.drewN nq) osq = w2 at G2 ⊢
          go_wp2
          go_roundg (n - (i + 1))
          case measure => omega
          case rel => exact ⟨i + 1, i, by go_num, by go_num, by omega, Nat.le_refl _, G2.out, .inr ⟨i, y, rfl, by omega, HY.out, by rw [HST.out]; simp [stp, ← HT.out]⟩⟩
        | false =>
          have HT : Hid (false = kLt y.1.1 v.1.1) := ht.symm
          clear ht
          go_wp2_with fail
          refine wp_region_gw (by kernel_rfl) (by kernel_rfl) ?_
          iterate 23 (refine WQ.step (fun K hK => ?_); go_simp; first | (refine hK _ ?_; clear hK K) | (apply Exists.intro; refine ⟨fun _ => ?_, hK _ ?_⟩; (first | (go_at_call 35; exact rless_g HT.out wr _ _)); clear hK K))
          refine WQ.nil ?_
          intro _ hw'
          obtain ⟨⟨nq, osq⟩, hw''⟩ := hw'
          subst hw''
          have G2 : Hid (Gw w1 (grow (wr.drewN nq) osq)) := A.out.1.trans (Gw.of wr nq osq)
          clear r0 x0 x1 x2 r00 y0 y1 y2
          generalize grow (wr.drewN nq) osq = w2 at G2 ⊢
          go_wp2
          go_roundg (n - (i + 1))
          case measure => omega
          case rel => exact ⟨i + 1, j, by go_num, by go_num, by omega, Nat.le_refl _, G2.out, .inr ⟨j, v, rfl, by have := HJ.out; omega, HV.out.1, by rw [HST.out]; simp [stp, ← HT.out]⟩⟩
    · have hlz : decide ((i : Int) < (n : Int)) = false := by simp; omega
      obtain rfl : i = n := by omega
      have HL : Hid (L.take i = L) := List.take_of_length_le (by have := HN.out; omega)
      have hx1 : wr.heap[w.heap.size]? = some (KyO (0, 0, 0)) := (A.out.1.block (Array.getElem?_eq_some_iff.1 HX0.out).1).trans HX0.out
      have f0 : wr.frozen? ⟨w.heap.size, 0, none⟩ = false := frozen_of_row _ _ _ _ _ hx1
      have f1 : wr.frozen? ⟨w.heap.size, 1, none⟩ = false := frozen_of_row _ _ _ _ _ hx1
      have f2 : wr.frozen? ⟨w.heap.size, 2, none⟩ = false := frozen_of_row _ _ _ _ _ hx1
      have k0 : wr.cell? ⟨w.heap.size, 0, none⟩ = some (.int .i64 0) := by rw [cell_of_row _ _ _ _ _ _ hx1]; rfl
      have k1 : wr.cell? ⟨w.heap.size, 1, none⟩ = some (.int .i64 0) := by rw [cell_of_row _ _ _ _ _ _ hx1]; rfl
      have k2 : wr.cell? ⟨w.heap.size, 2, none⟩ = some (.int .i64 0) := by rw [cell_of_row _ _ _ _ _ _ hx1]; rfl
      have HBW : Hid (Below w.heap.size w wr) := HW.out.trans (A.out.1.below.mono HW.out.size)
      clear r0 hx1
      have hA2 := A.out.2
      rcases hA2 with ⟨rfl, rfl⟩ | ⟨j, v, rfl, hji, hv, hls⟩
      · have HE : Hid (lst L = ((0, 0, 0), false)) := by
          show _ = _
          rw [List.eq_nil_of_length_eq_zero HN.out.symm]
          rfl
        go_wp2
        refine bodyPost_ret (v := .tuple #[KyV (0, 0, 0), .bool false]) (by simp [results, Try.results24, go_sem, k0, k1, k2]) rfl ?_
        refine ⟨by rw [HE.out], ((HBW.out.setCell (p := ⟨w.heap.size, 0, none⟩) (Nat.le_refl _) _).setCell (p := ⟨w.heap.size, 1, none⟩) (Nat.le_refl _) _).setCell (p := ⟨w.heap.size, 2, none⟩) (Nat.le_refl _) _⟩
      · have hjz : (j : Int) < (i : Int) := by omega
        have hjn : ¬ (j : Int) < 0 := by omega
        have hjb : j < 1000000 := by omega
        obtain ⟨B, off, rfl, hB', v', hv', hc'⟩ := at_cell HA.out (i := j) (by omega)
        obtain rfl : v = v' := by rw [hv] at hv'; exact Option.some.inj hv'
        have hcell : MsC.Cell wr B (off + j * 10) v := hc'.same (A.out.1.block hB')
        obtain ⟨y0, y1, y2, -⟩ := ten hcell
        have HE : Hid (lst L = (v.1.1, true)) := by
          show _ = _
          rw [← HL.out]
          exact hls
        clear hcell hc' hv hv' hls hji hB'
        go_wp2
        refine bodyPost_ret (v := .tuple #[KyV v.1.1, .bool true]) (by simp [results, Try.results24, go_sem, k0, k1, k2]) rfl ?_
        refine ⟨by rw [HE.out], ((HBW.out.setCell (p := ⟨w.heap.size, 0, none⟩) (Nat.le_refl _) _).setCell (p := ⟨w.heap.size, 1, none⟩) (Nat.le_refl _) _).setCell (p := ⟨w.heap.size, 2, none⟩) (Nat.le_refl _) _⟩
set_option maxHeartbeats 1000000 in
theorem rcopy_any {w : World} {R : Nat} {S : Nat → Prop} {x : List Ms × Nat} (h : Rf w R S x) : Calls Try.prog 11 #[.pointer (some ⟨R, 0, none⟩)] w (rfT.New x w) := by
  have mixed : Try.prog.follows .mixedOrders = true := by kernel_rfl
  obtain ⟨v, hR, hO, hSR, hSl, hSB, h1, h2⟩ := h
  obtain ⟨a, n, c, rfl⟩ := hO.shape
  obtain ⟨L, N⟩ := x
  have hst : ∀ W, Below w.heap.size w W → W.cell? ⟨R, 0, none⟩ = some (.slice a n c) ∧ W.cell? ⟨R, 1, none⟩ = some (.int .i64 (N : Nat)) ∧ MsC.Own 36 0 W (.slice a n c) L := fun W hb => by
    have hR2 := (hb.block _ (Array.getElem?_eq_some_iff.1 hR).1).trans hR
    exact ⟨by rw [cell_of_row _ _ _ _ _ _ hR2]; rfl, by rw [cell_of_row _ _ _ _ _ _ hR2]; rfl, hO.below hb⟩
  have HST := Lib.hid hst
  have hbd : Below w.heap.size w w.drew := (Below.refl _ _).drew
  have HBD : Hid (Below w.heap.size w w.drew) := hbd
  obtain ⟨a0, a1, -⟩ := hst _ hbd
  have HSZ : Hid (L.length ≤ 1000000 ∧ N ≤ 1000000) := ⟨h1, h2⟩
  clear hst hbd hR hO hSR hSl hSB h1 h2
  go_enter Try.func11, Try.ntmps11
  go_wp2_with fail
  go_region_law (first
    | (refine rowM.step_own rfl _ _ rfl w.heap.size 0 (.slice none 0 0) (.slice a n c) [] L rfl (World.ownsRow_nil _ _ _ _) rfl (HST.out _ HBD.out).2.2 (by have := HSZ.out.1; simp only [List.length_nil]; omega) (by have := HSZ.out.1; simp only [List.length_nil]; omega) HBD.out.size ?_; intro v6 w6 hown6 hgrow6 hnew6; obtain ⟨a6, n6, c6, rfl⟩ := hown6.shape; have HO6 := Lib.hid hown6; have HB6 : Hid (Below w.heap.size w w6) := HBD.out.trans ((But.grown hgrow6).below HBD.out.size fun _ e => by cases e); obtain ⟨b0, b1, -⟩ := HST.out _ HB6.out; clear hown6 hgrow6 hnew6))
  all_goals
    go_wp2
    go_ret
    have hs := HB6.out.size
    refine ⟨_, fun b => w.heap.size ≤ b ∧ b < w6.heap.size + 1, rfl, ⟨_, heap_alloc_new _ _, (HO6.out.mono (Nat.zero_le _)).but ((But.refl (fun _ => False) w6).alloc _) (fun _ _ e => e), ⟨hs, by omega⟩, fun b e => by simpa using e.2, fun b e => ?_, HSZ.out.1, HSZ.out.2⟩, fun b e => e.1, HB6.out.alloc hs _⟩
    have := HO6.out.lt b e
    exact ⟨⟨this.1, by omega⟩, by omega⟩
end Go.Proofs.Ytifniehfbafcoaa
