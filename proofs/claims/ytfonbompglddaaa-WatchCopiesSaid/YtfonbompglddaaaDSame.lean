/-
  The document's Copy, Same; Set and Clear where they tell an error.
-/
import Derived.Test.YtfonbompglddaaaDMatch
namespace Go.Proofs.Ytfonbompglddaaa
open Go Go.RowKit Go.Lib Go.Sort Go.Proofs

set_option maxHeartbeats 1000000 in
theorem rcopy_any {w : World} {R : Nat} {S : Nat → Prop} {L : List On} (h : Rf w R S L) : Calls Try.prog 12 #[.pointer (some ⟨R, 0, none⟩)] w (rfT.New L w) := by
  obtain ⟨v, hR, hO, hSR, hSl, hSB, h1⟩ := h
  obtain ⟨a, n, c, rfl⟩ := hO.shape
  have r0 : w.cell? ⟨R, 0, none⟩ = some (.slice a n c) := by rw [cell_of_row _ _ _ _ _ _ hR]; rfl
  have HO := Lib.hid hO
  have HSZ := Lib.hid h1
  clear hR hO hSR hSl hSB h1
  go_enter Try.func12, Try.ntmps12
  go_wp2_with (at_builtin; refine Hid.out ?_)
  refine Lib.hid ?_
  refine rowO.list_own rfl _ _ rfl w.heap.size 0 (.slice none 0 0) (.slice a n c) [] L rfl (World.ownsRow_nil _ _ _ _) rfl HO.out (by have := HSZ.out.le; simp only [List.length_nil]; omega) (by have := HSZ.out.le; simp only [List.length_nil]; omega) (Nat.le_refl _) ?_
  intro v6 w6 hown6 hgrow6 hnew6
  obtain ⟨a6, n6, c6, rfl⟩ := hown6.shape
  have HO6 := Lib.hid hown6
  have HB6 : Hid (Below w.heap.size w w6) := (But.grown hgrow6).below (Nat.le_refl _) fun _ e => by cases e
  clear hown6 hgrow6 hnew6
  go_wp2
  go_ret
  have hs := HB6.out.size
  refine ⟨_, fun b => w.heap.size ≤ b ∧ b < w6.heap.size + 1, rfl, ⟨_, heap_alloc_new _ _, (HO6.out.mono (Nat.zero_le _)).but ((But.refl (fun _ => False) w6).alloc _) (fun _ _ e => e), ⟨hs, by omega⟩, fun b e => by simpa using e.2, fun b e => ?_, HSZ.out⟩, fun b e => e.1, HB6.out.alloc hs _⟩
  have := HO6.out.lt b e
  exact ⟨⟨this.1, by omega⟩, by omega⟩

theorem list_ne {α : Type} {l m : List α} (h : l.length = m.length) (hne : l ≠ m) : ∃ k : Nat, ∃ x y : α, l[k]? = some x ∧ m[k]? = some y ∧ x ≠ y := by
  induction l generalizing m with
  | nil => cases m with
    | nil => exact absurd rfl hne
    | cons => cases h
  | cons a t ih => cases m with
    | nil => cases h
    | cons b s =>
      by_cases e : a = b
      · subst e
        obtain ⟨k, x, y, h1, h2, h3⟩ := ih (by simpa using h) fun e => hne (by rw [e])
        exact ⟨k + 1, x, y, by simpa using h1, by simpa using h2, h3⟩
      · exact ⟨0, a, b, rfl, rfl, e⟩
set_option maxHeartbeats 2000000 in
set_option maxRecDepth 100000 in
theorem rsame_any {w : World} {R R2 : Nat} {S S2 : Nat → Prop} {L M : List On} (h : Rf w R S L) (h2 : Rf w R2 S2 M) : Calls Try.prog 14 #[.pointer (some ⟨R, 0, none⟩), .pointer (some ⟨R2, 0, none⟩)] w (GwV (.bool (decide (L = M))) w) := by
  have mixed : Try.prog.follows .mixedOrders = true := by kernel_rfl
  obtain ⟨a, n, c, hR, hn0, hnc, hA, -⟩ := h.open
  obtain ⟨a2, n2, c2, hR2, hn2, hnc2, hA2, -⟩ := h2.open
  have q0 : w.cell? ⟨R, 0, none⟩ = some (.slice a n c) := by rw [cell_of_row _ _ _ _ _ _ hR]; rfl
  have q1 : w.cell? ⟨R2, 0, none⟩ = some (.slice a2 n2 c2) := by rw [cell_of_row _ _ _ _ _ _ hR2]; rfl
  have r0 := fun nq os => (Gw.of w nq os).cell q0
  have r1 := fun nq os => (Gw.of w nq os).cell q1
  have HA := Lib.hid hA
  have HA2 := Lib.hid hA2
  have HN : Hid (L.length = n ∧ M.length = n2) := ⟨hn0.symm, hn2.symm⟩
  have hbig : n ≤ 1000000 := hA.2.1
  have HQ := Lib.hid (And.intro q0 q1)
  clear h h2 hR hR2 hn0 hn2 hnc hnc2 hA hA2
  by_cases hl : n = n2
  · subst hl
    have hd : ((n : Int) == (n : Int)) = true := by simp
    have hd2 : ((n : Int) != (n : Int)) = false := by simp
    go_enter Try.func14, Try.ntmps14
    go_wp2_with fail
    refine wp_region_gw (by kernel_rfl) (by kernel_rfl) ?_
    iterate 11 (refine WQ.step (fun K hK => ?_); go_simp; first | (refine hK _ ?_; clear hK K))
    refine WQ.nil ?_
    intro _ hw'
    obtain ⟨⟨nq, osq⟩, hw''⟩ := hw'
    subst hw''
    have G1 : Hid (Gw w (grow (w.drewN nq) osq)) := Gw.of w nq osq
    clear r0 r1
    generalize grow (w.drewN nq) osq = w1 at G1 ⊢
    go_wp2_with fail
    go_loopg [5] n (fun kx s5 wr => ∃ k : Nat, s5 = .int .i64 k ∧ k ≤ n ∧ n - k ≤ kx ∧ Aside (Gw w wr ∧ ∀ (j : Nat) (x y : On), j < k → L[j]? = some x → M[j]? = some y → x = y))
    case atStart => exact ⟨0, by go_num, Nat.zero_le _, Nat.le_refl _, G1.out, fun j x y hj => absurd hj (Nat.not_lt_zero _)⟩
    case round =>
      obtain ⟨k, rfl, hkn, hkx, A⟩ := hrel
      have p0 : wr.cell? ⟨R, 0, none⟩ = some (.slice a n c) := A.out.1.cell HQ.out.1
      by_cases hlt : k < n
      · have hlz : decide ((k : Int) < (n : Int)) = true := by simpa using hlt
        have hiz : (k : Int) < (n : Int) := by omega
        have hkb : k < 1000000 := by omega
        obtain ⟨B, off, rfl, hB, x, hx, hc⟩ := HA.out.cell hlt
        obtain ⟨B2, off2, rfl, hB2, y, hy, hc2⟩ := HA2.out.cell hlt
        have r0 := fun nq os => (A.out.1.trans (Gw.of wr nq os)).cell HQ.out.1
        have r1 := fun nq os => (A.out.1.trans (Gw.of wr nq os)).cell HQ.out.2
        have hcell : ∀ nq os, FourC (grow (wr.drewN nq) os) B (off + k * 4) x := fun nq os => four (hc.same ((A.out.1.trans (Gw.of wr nq os)).block hB))
        have hcel2 : ∀ nq os, FourC (grow (wr.drewN nq) os) B2 (off2 + k * 4) y := fun nq os => four (hc2.same ((A.out.1.trans (Gw.of wr nq os)).block hB2))
        have x0 := fun nq os => (hcell nq os).1
        have x1 := fun nq os => (hcell nq os).2.1
        have x2 := fun nq os => (hcell nq os).2.2.1
        have x3 := fun nq os => (hcell nq os).2.2.2
        have y0 := fun nq os => (hcel2 nq os).1
        have y1 := fun nq os => (hcel2 nq os).2.1
        have y2 := fun nq os => (hcel2 nq os).2.2.1
        have y3 := fun nq os => (hcel2 nq os).2.2.2
        have HX := Lib.hid (And.intro hx hy)
        obtain ⟨t, ht⟩ : ∃ t, (!(decide (x = y))) = t := ⟨_, rfl⟩
        have he : ∀ w, (binOp .neq oT (OnV x) (OnV y)).run Try.prog w = .ok (.bool t) w := fun w => by rw [← ht]; exact onNe x y w
        have hgd := fun (op : BinOp) (x y : Operand) (xs ys : Array Value) (w : World) => run_eqGuard_agg (P := Try.prog) w op oT x y xs ys onGuard
        have HT := Lib.hid ht
        clear hcell hcel2 hc hc2 hx hy ht
        go_wp2_with fail
        refine wp_region_gw (by kernel_rfl) (by kernel_rfl) ?_
        iterate 15 (refine WQ.step (fun K hK => ?_); go_simp; first | (refine hK _ ?_; clear hK K))
        refine WQ.nil ?_
        intro _ hw'
        obtain ⟨⟨nq, osq⟩, hw''⟩ := hw'
        subst hw''
        have G2 : Hid (Gw w (grow (wr.drewN nq) osq)) := A.out.1.trans (Gw.of wr nq osq)
        clear r0 r1 x0 x1 x2 x3 y0 y1 y2 y3 p0
        generalize grow (wr.drewN nq) osq = w2 at G2 ⊢
        cases t with
        | true =>
          go_wp2_with fail
          go_ret
          have hne : ¬ L = M := fun e => by
            have h1 := HX.out.1
            rw [e, HX.out.2] at h1
            have := HT.out
            simp [Option.some.inj h1] at this
          rw [decide_eq_false hne]
          exact ⟨rfl, G2.out⟩
        | false =>
          go_wp2_with fail
          go_roundg (n - (k + 1))
          case measure => omega
          case rel =>
            refine ⟨k + 1, by go_num, by omega, Nat.le_refl _, G2.out, fun j u v hj hu hv => ?_⟩
            by_cases e : j = k
            · rw [e, HX.out.1] at hu
              rw [e, HX.out.2] at hv
              cases hu
              cases hv
              simpa using HT.out
            · exact A.out.2 j u v (by omega) hu hv
      · have hlz : decide ((k : Int) < (n : Int)) = false := by simp; omega
        obtain rfl : k = n := by omega
        go_wp2_with fail
        go_ret
        have hNN := HN.out
        have hLM : L = M := Classical.byContradiction fun hne => by
          obtain ⟨j, u, v, hu, hv, huv⟩ := list_ne (hNN.1.trans hNN.2.symm) hne
          exact huv (A.out.2 j u v (by have := (List.getElem?_eq_some_iff.1 hu).1; omega) hu hv)
        rw [decide_eq_true hLM]
        exact ⟨rfl, A.out.1⟩
  · have hd : ((n : Int) == (n2 : Int)) = false := by simp; omega
    have hd2 : ((n : Int) != (n2 : Int)) = true := by simp; omega
    have HL := Lib.hid hl
    clear hl
    go_enter Try.func14, Try.ntmps14
    go_wp2_with fail
    refine wp_region_gw (by kernel_rfl) (by kernel_rfl) ?_
    iterate 11 (refine WQ.step (fun K hK => ?_); go_simp; first | (refine hK _ ?_; clear hK K))
    refine WQ.nil ?_
    intro _ hw'
    obtain ⟨⟨nq, osq⟩, hw''⟩ := hw'
    subst hw''
    have G1 : Hid (Gw w (grow (w.drewN nq) osq)) := Gw.of w nq osq
    clear r0 r1
    generalize grow (w.drewN nq) osq = w1 at G1 ⊢
    go_wp2_with fail
    go_ret
    have hne : ¬ L = M := fun e => HL.out (by rw [← HN.out.1, ← HN.out.2, e])
    rw [decide_eq_false hne]
    exact ⟨rfl, G1.out⟩

theorem rmay_is {b : Bk} {w : World} {t : Bool} (h : bmay b = t) : Calls Try.prog 16 #[BkV b] w (Tells (.bool t) w) := h ▸ (rmay_any b w).mono fun _ _ h => h.tells
set_option maxHeartbeats 1000000 in
theorem rset_arg {w : World} {R : Nat} (x : On) (hm : bmay x.2 = false) : Calls Try.prog 20 #[.pointer (some ⟨R, 0, none⟩), .int .u32 (x.1 : Nat), BkV x.2] w (Tells (.int .i64 2) w) := by
  go_enter Try.func20, Try.ntmps20
  go_wp2_with (go_at_call 16; refine (rmay_is (b := x.2) hm).mono ?_; rintro e w1 ⟨rfl, hb⟩; have HB := Lib.hid hb; clear hb)
  go_ret
  exact ⟨rfl, ((Below.refl _ _).alloc (Nat.le_refl _) _).trans (HB.out.mono (by simp))⟩
set_option maxHeartbeats 1000000 in
theorem rset_twice {w : World} {R : Nat} {S : Nat → Prop} {L : List On} (h : Rf w R S L) (x : On) (hm : bmay x.2 = true) {c : Bk} (hg : lget L x.1 = some c) : Calls Try.prog 20 #[.pointer (some ⟨R, 0, none⟩), .int .u32 (x.1 : Nat), BkV x.2] w (Tells (.int .i64 7) w) := by
  have H := Lib.hid h
  have HG := Lib.hid hg
  clear h hg
  go_enter Try.func20, Try.ntmps20
  go_wp2_with (first
    | (go_at_call 32; refine (of_any (H.out.below H1.out) x.1).mono ?_; rintro e w2 ⟨r, rfl, hr, rfl⟩; obtain ⟨k, rfl, hk⟩ := hr.some HG.out; have hk0 : decide ((k : Int) ≥ 0) = true := (by simp); clear hr hk)
    | (go_at_call 16; refine (rmay_is (b := x.2) hm).mono ?_; rintro e w1 ⟨rfl, hb⟩; have H1 : Hid (Below w.heap.size w w1) := ((Below.refl _ _).alloc (Nat.le_refl _) _).trans (hb.mono (by simp)); clear hb))
  go_ret
  exact ⟨rfl, H1.out⟩
set_option maxHeartbeats 1000000 in
theorem rset_full {w : World} {R : Nat} {S : Nat → Prop} {L : List On} (h : Rf w R S L) (x : On) (hm : bmay x.2 = true) (hg : lget L x.1 = none) (hl : 16 ≤ L.length) : Calls Try.prog 20 #[.pointer (some ⟨R, 0, none⟩), .int .u32 (x.1 : Nat), BkV x.2] w (Tells (.int .i64 5) w) := by
  have H := Lib.hid h
  have HG := Lib.hid hg
  have HL := Lib.hid hl
  clear h hg hl
  go_enter Try.func20, Try.ntmps20
  go_wp2_with (first
    | (go_at_call 32; refine (of_any (H.out.below H1.out) x.1).mono ?_; rintro e w2 ⟨r, rfl, hr, rfl⟩; obtain rfl := hr.none HG.out; obtain ⟨a, n, c, hR, hn0, -⟩ := (H.out.below H1.out).open; have r0 : w1.cell? ⟨R, 0, none⟩ = some (.slice a n c) := (cell_of_row _ _ _ _ _ _ hR).trans rfl; have hd : decide ((n : Int) ≥ 16) = true := (by have := HL.out; simp; omega); clear hr hR hn0)
    | (go_at_call 16; refine (rmay_is (b := x.2) hm).mono ?_; rintro e w1 ⟨rfl, hb⟩; have H1 : Hid (Below w.heap.size w w1) := ((Below.refl _ _).alloc (Nat.le_refl _) _).trans (hb.mono (by simp)); clear hb))
  go_ret
  exact ⟨rfl, H1.out⟩
set_option maxHeartbeats 1000000 in
theorem rclear_none {w : World} {R : Nat} {S : Nat → Prop} {L : List On} (h : Rf w R S L) {i : Nat} (hg : lget L i = none) : Calls Try.prog 24 #[.pointer (some ⟨R, 0, none⟩), .int .u32 (i : Nat)] w (Tells (.int .i64 6) w) := by
  have H := Lib.hid h
  have HG := Lib.hid hg
  clear h hg
  go_enter Try.func24, Try.ntmps24
  go_wp2_with (go_at_call 32; refine (of_any H.out i).mono ?_; rintro e w2 ⟨r, rfl, hr, rfl⟩; obtain rfl := hr.none HG.out; clear hr)
  go_ret
  exact ⟨rfl, Below.refl _ _⟩
end Go.Proofs.Ytfonbompglddaaa
