/-
  The document's Match, Copy, Same; Set and Clear where they tell an error.
-/
import Derived.Test.YtfonbompglddaaaDRef
import Derived.Test.YtfonbompglddaaaGOwn
namespace Go.Proofs.Ytfonbompglddaaa
open Go Go.RowKit Go.Lib Go.Sort Go.Proofs

abbrev mtch (o : Option On) : Value := .tuple #[.int .u32 ((o.map (·.1)).getD 0 : Nat), .bool o.isSome]
theorem find_take {p : On → Bool} {L : List On} {k : Nat} {x : On} (hx : L[k]? = some x) (h : ∀ (j : Nat) (y : On), j < k → L[j]? = some y → p y = false) (hp : p x = true) : L.find? p = some x := by
  induction L generalizing k with
  | nil => cases hx
  | cons a t ih =>
    cases k with
    | zero =>
      cases hx
      rw [List.find?_cons_of_pos hp]
    | succ k =>
      have ha : p a = false := h 0 a (Nat.succ_pos _) rfl
      rw [List.find?_cons_of_neg (by rw [ha]; simp)]
      exact ih (by simpa using hx) fun j y hj hy => h (j + 1) y (Nat.succ_lt_succ hj) (by simpa using hy)
theorem find_no {p : On → Bool} {L : List On} (h : ∀ (j : Nat) (y : On), L[j]? = some y → p y = false) : L.find? p = none := by
  rw [List.find?_eq_none]
  intro x hx
  obtain ⟨j, hj⟩ := List.mem_iff_getElem?.1 hx
  rw [h j x hj]
  simp
theorem rmat_g {b : Bk} {e : Ev} {t : Bool} (h : bmat b e = t) (w : World) (n : Nat) (os : Array Obj) : Calls Try.prog 18 #[BkV b, EvV e] (grow (w.drewN n) os) fun e w'' => e = .returned (.bool t) ∧ ∃ p : GrownBy, w'' = grow (w.drewN p.n) p.os := h ▸ GwV.calls (rmatches_any b e _)
set_option maxHeartbeats 2000000 in
set_option maxRecDepth 100000 in
theorem rmatch_any {w : World} {R : Nat} {S : Nat → Prop} {L : List On} (h : Rf w R S L) (ev : Ev) : Calls Try.prog 25 #[.pointer (some ⟨R, 0, none⟩), EvV ev] w (Tells (mtch (lmatch L ev)) w) := by
  obtain ⟨w1, hw1⟩ : ∃ w1, w1 = w.alloc (EvO ev) := ⟨_, rfl⟩
  have hb1 : Below w.heap.size w w1 := by rw [hw1]; exact (Below.refl _ _).alloc (Nat.le_refl _) _
  have hx1 : w1.heap[w.heap.size]? = some (EvO ev) := by rw [hw1]; exact heap_alloc_new _ _
  have hw := h.below hb1
  obtain ⟨a, n, c, hR, hn0, hnc, hA, hsome⟩ := hw.open
  have HA := Lib.hid hA
  have HR := Lib.hid hR
  have HX := Lib.hid hx1
  have HB := Lib.hid hb1
  have HN1 : Hid (L.length = n) := hn0.symm
  have hn2 : n ≤ 1000000 := hA.2.1
  clear h hw hR hn0 hnc hsome hA hx1 hb1
  go_enter Try.func25, Try.ntmps25
  go_wp2
  rw [← hw1]
  clear hw1
  go_loopg [6] n (fun kx s6 wr => ∃ k : Nat, s6 = .int .i64 k ∧ k ≤ n ∧ n - k ≤ kx ∧ Aside (Gw w1 wr ∧ ∀ (j : Nat) (y : On), j < k → L[j]? = some y → bmat y.2 ev = false))
  case atStart => exact ⟨0, by go_num, Nat.zero_le _, Nat.le_refl _, Gw.refl _, fun j y hj => absurd hj (Nat.not_lt_zero _)⟩
  case round =>
    obtain ⟨k, rfl, hkn, hkx, A⟩ := hrel
    have q0 : wr.cell? ⟨R, 0, none⟩ = some (.slice a n c) := A.out.1.cell (by rw [cell_of_row _ _ _ _ _ _ HR.out]; rfl)
    by_cases hlt : k < n
    · have hlz : decide ((k : Int) < (n : Int)) = true := by simpa using hlt
      have hiz : (k : Int) < (n : Int) := by omega
      have hbig : k < 1000000 := by omega
      obtain ⟨B, off, rfl, hB, x, hx, hc⟩ := HA.out.cell hlt
      have r0 := fun nq os => (Gw.of wr nq os).cell q0
      have hcell : ∀ nq os, FourC (grow (wr.drewN nq) os) B (off + k * 4) x := fun nq os => four (hc.same ((A.out.1.trans (Gw.of wr nq os)).block hB))
      have x1 := fun nq os => (hcell nq os).2.1
      have x2 := fun nq os => (hcell nq os).2.2.1
      have x3 := fun nq os => (hcell nq os).2.2.2
      have hbox : ∀ nq os, (grow (wr.drewN nq) os).heap[w.heap.size]? = some (EvO ev) := fun nq os => ((A.out.1.trans (Gw.of wr nq os)).block (Array.getElem?_eq_some_iff.1 HX.out).1).trans HX.out
      have e0 := fun nq os => (ev_box (hbox nq os)).1
      have e1 := fun nq os => (ev_box (hbox nq os)).2.1
      have e2 := fun nq os => (ev_box (hbox nq os)).2.2.1
      have e3 := fun nq os => (ev_box (hbox nq os)).2.2.2.1
      have e4 := fun nq os => (ev_box (hbox nq os)).2.2.2.2.1
      have e5 := fun nq os => (ev_box (hbox nq os)).2.2.2.2.2
      have HXX := Lib.hid hx
      have HC := Lib.hid hc
      obtain ⟨t, ht⟩ : ∃ t, bmat x.2 ev = t := ⟨_, rfl⟩
      have HT := Lib.hid ht
      clear hcell hbox hc hx ht
      go_wp2_with fail
      refine wp_region_gw (by kernel_rfl) (by kernel_rfl) ?_
      iterate 10 (refine WQ.step (fun K hK => ?_); go_simp; first | (refine hK _ ?_; clear hK K) | (apply Exists.intro; refine ⟨fun _ => ?_, hK _ ?_⟩; (go_at_call 18; exact rmat_g HT.out wr _ _); clear hK K))
      refine WQ.nil ?_
      intro _ hw'
      obtain ⟨⟨nq, osq⟩, hw''⟩ := hw'
      subst hw''
      have G2 : Hid (Gw w1 (grow (wr.drewN nq) osq)) := A.out.1.trans (Gw.of wr nq osq)
      clear r0 x1 x2 x3 e0 e1 e2 e3 e4 e5 q0
      generalize grow (wr.drewN nq) osq = w2 at G2 ⊢
      have q0 : w2.cell? ⟨R, 0, none⟩ = some (.slice (some ⟨B, off, none⟩) n c) := G2.out.cell (by rw [cell_of_row _ _ _ _ _ _ HR.out]; rfl)
      have y0 := (four (HC.out.same (G2.out.block hB))).1
      simp only [show OnC.k = 4 from rfl] at y0
      cases t with
      | true =>
        go_wp2
        go_ret2
        have hm : lmatch L ev = some x := find_take HXX.out A.out.2 HT.out
        refine ⟨by rw [hm]; rfl, HB.out.trans (G2.out.below.mono HB.out.size)⟩
      | false =>
        go_wp2
        go_roundg (n - (k + 1))
        case measure => omega
        case rel =>
          refine ⟨k + 1, by go_num, by omega, Nat.le_refl _, G2.out, fun j y hj hy => ?_⟩
          by_cases e : j = k
          · rw [e, HXX.out] at hy
            cases hy
            exact HT.out
          · exact A.out.2 j y (by omega) hy
    · have hlz : decide ((k : Int) < (n : Int)) = false := by simp; omega
      obtain rfl : k = n := by omega
      go_wp2
      go_ret2
      have hm : lmatch L ev = none := find_no fun j y hy => A.out.2 j y (by have := (List.getElem?_eq_some_iff.1 hy).1; have := HN1.out; omega) hy
      exact ⟨by rw [hm]; rfl, HB.out.trans (A.out.1.below.mono HB.out.size)⟩
end Go.Proofs.Ytfonbompglddaaa
