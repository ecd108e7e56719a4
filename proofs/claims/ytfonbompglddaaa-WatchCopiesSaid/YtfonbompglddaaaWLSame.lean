/-
  The law's same: both have alike, and going over it tells it.
-/
import Derived.Test.YtfonbompglddaaaWMatch
import Derived.Sort.CutIn
namespace Go.Proofs.Ytfonbompglddaaa
open Go Go.Shelf Go.RowKit Go.Lib Go.Sort Go.Proofs

attribute [local go_sem] Oper.semAt_some

theorem wlen_g {w : World} {G : Nat} {F : Nat → Prop} {L : List On} {nq : Nat} {os : Array Obj} (h : Wt (grow (w.drewN nq) os) G F L) : Calls Try.prog 21 #[.pointer (some ⟨G, 0, none⟩)] (grow (w.drewN nq) os) fun e w'' => e = .returned (.int .i64 (L.length : Nat)) ∧ ∃ p : GrownBy, w'' = grow (w.drewN p.n) p.os :=
  GwV.calls ((wlen_any h).mono fun _ _ ⟨he, hw⟩ => ⟨he, hw ▸ Gw.refl _⟩)

theorem fn_nil (c : Fn) (a b : Array Value) (w : World) : (binOp .eql 63 (.func c a b) .nilFunc).run Try.prog w = .ok (.bool false) w := by
  have h : (Op.equalIn (9999 + 1) 63 (.func c a b) .nilFunc).run Try.prog w = .ok false w := by
    rw [Op.equalIn]
    simp [go_sem]
  unfold binOp Op.equal
  simp only [show Op.maxDepth = 9999 + 1 from rfl]
  simp only [Sem.run_bind, h, Result.andThen_ok, Sem.run_pure]
theorem block_two {i : Nat} {Q : Exit → Act → World → Prop} {e : Exit} {a : Act} {W : World} (he : e = .normal ∨ e = .exit i) (h : Q .normal a W) : Exit.inBlock i Q e a W := by
  rcases he with rfl | rfl
  · exact h
  · simp only [Exit.inBlock, if_true]
    exact h
theorem own_imp {β : Type} {n₀ : Nat} {p : β → Prop} {J : β → World → Prop} (h : OwnFrom n₀ J) : OwnFrom n₀ (fun s W => p s → J s W) := fun s A B row hs hg hr hp => h s A B row (hs hp) hg hr
theorem pre_get {pre L : List On} {x : On} (h : pre ++ [x] <+: L) : L[pre.length]? = some x := by
  obtain ⟨t, rfl⟩ := h
  rw [List.append_assoc, List.getElem?_append_right (Nat.le_refl _)]
  simp
theorem cell0 {w : World} {B : Nat} {v : Value} {T : TypeId} (h : w.heap[B]? = some (.cells #[v] T (0, 0))) : w.cell? ⟨B, 0, none⟩ = some v := by
  rw [cell_of_row _ _ _ _ _ _ h]
  rfl
set_option maxRecDepth 100000 in
set_option maxHeartbeats 4000000 in
theorem lsame_any {w : World} {G R : Nat} {F S : Nat → Prop} {L : List On} (h : Wt w G F L) (k : Rf w R S L) (most : Int) : Calls Try.prog 10 #[.pointer (some ⟨G, 0, none⟩), .pointer (some ⟨R, 0, none⟩), .int .i64 most] w (Tells (.bool true) w) := by
  obtain ⟨w0, hw0⟩ : ∃ w0, w0 = ((w.alloc (.cells #[.pointer (some ⟨R, 0, none⟩)] 26)).alloc (.cells #[.int .i64 most] 3)).alloc (.cells #[.bool false] 4) := ⟨_, rfl⟩
  have hb0 : Below w.heap.size w w0 := by rw [hw0]; exact (((Below.refl _ _).alloc (Nat.le_refl _) _).alloc (by simp) _).alloc (by simp; omega) _
  have hsz : w0.heap.size = w.heap.size + 3 := by rw [hw0]; simp
  have q4 : w0.heap[w.heap.size]? = some (.cells #[.pointer (some ⟨R, 0, none⟩)] 26 (0, 0)) := by
    rw [hw0, heap_alloc_old _ _ (by simp; omega), heap_alloc_old _ _ (by simp)]
    exact heap_alloc_new _ _
  have q5 : w0.heap[w.heap.size + 1]? = some (.cells #[.int .i64 most] 3 (0, 0)) := by
    have := heap_alloc_new (w.alloc (.cells #[.pointer (some ⟨R, 0, none⟩)] 26)) (.cells #[.int .i64 most] 3)
    rw [World.size_alloc] at this
    rw [hw0, heap_alloc_old _ _ (by simp)]
    exact this
  have q6 : w0.heap[w.heap.size + 1 + 1]? = some (.cells #[.bool false] 4 (0, 0)) := by
    have := heap_alloc_new ((w.alloc (.cells #[.pointer (some ⟨R, 0, none⟩)] 26)).alloc (.cells #[.int .i64 most] 3)) (.cells #[.bool false] 4)
    rw [World.size_alloc, World.size_alloc] at this
    rw [hw0]
    exact this
  obtain ⟨a, n, c, hR, hn, hnc, hA, hemp⟩ := k.open
  have HR : Hid (∀ W, Below w.heap.size w W → W.cell? ⟨R, 0, none⟩ = some (.slice a n c) ∧ OnC.At W a n L) := fun W hb => by
    refine ⟨?_, hA.below hb⟩
    rw [cell_of_row _ _ _ _ _ _ ((hb.block _ (Array.getElem?_eq_some_iff.1 hR).1).trans hR)]
    rfl
  have HH := Lib.hid (h.below hb0)
  have HL : Hid (Wl L) := h.wl
  have HN := Lib.hid hn
  have HK : Hid (Rf w0 R S L) := k.below hb0
  have H0 := Lib.hid (And.intro hb0 (And.intro hsz (And.intro q4 (And.intro q5 q6))))
  clear h k hb0 hsz q4 q5 q6 hR hn hA hemp
  refine (callsIn_wide (n := 6)).1 ?_
  refine callsIn_of_wp_marks Try.func10 rfl trivial ?_ rfl
  simp only [Try.ntmps10, List.size_toArray, List.length_cons, List.length_nil, Nat.reduceAdd, Nat.reduceSub, Array.replicate_succ, Array.replicate_zero, List.push_toArray, List.append_toArray, List.nil_append, List.cons_append]
  gi_wp2_with (refine ⟨trivial, ?_⟩; gi_at_call 28; (rw [← hw0]); refine (callsIn_wide.2 (all_any HH.out)).mono ?_; rintro e w1 ⟨S0, S1, ia, ic, rfl, hS, hit, hb1, hlo⟩; have H1 := Lib.hid (And.intro hS (And.intro hit (And.intro hb1 hlo))); clear hS hit hb1 hlo)
  obtain ⟨hb0, hsz, q4, q5, q6⟩ := H0.out
  have hb1 := H1.out.2.2.1
  have hsz1 := hb1.size
  have hb01 := hb0.trans (hb1.mono (by omega))
  have e4 := (hb1.block w.heap.size (by omega)).trans q4
  have e5 := (hb1.block (w.heap.size + 1) (by omega)).trans q5
  have e6 := (hb1.block (w.heap.size + 1 + 1) (by omega)).trans q6
  have c4 := fun nq os => (Gw.of w1 nq os).cell (cell0 e4)
  have r0 := fun nq os => (Gw.of w1 nq os).cell (HR.out w1 hb01).1
  have HW : Hid (∀ nq os, Wt (grow (w1.drewN nq) os) G F L) := fun nq os => (HH.out.below hb1).below (Gw.of w1 nq os).below
  have H01 := Lib.hid (And.intro hb01 (And.intro e4 (And.intro e5 e6)))
  have hnz : ((L.length : Int) != (n : Int)) = false := by simp [HN.out]
  have hfn := fn_nil
  clear hb0 hsz q4 q5 q6 hb1 hsz1 hb01 e4 e5 e6 hw0
  refine wpIn_wide.2 (wp_region_gw (by kernel_rfl) (by kernel_rfl) ?_)
  iterate 12 (refine WQ.step (fun K hK => ?_); go_simp; first | (refine hK _ ?_; clear hK K) | (apply Exists.intro; refine ⟨fun _ => ?_, hK _ ?_⟩; (go_at_call 21; exact wlen_g (HW.out _ _)); clear hK K))
  refine WQ.nil ?_
  intro _ hw'
  obtain ⟨⟨nq, osq⟩, hw''⟩ := hw'
  subst hw''
  have G2 : Hid (Gw w1 (grow (w1.drewN nq) osq)) := Gw.of w1 nq osq
  clear c4 r0 hfn hnz
  generalize grow (w1.drewN nq) osq = w2 at G2 ⊢
  have hb01 := H01.out.1
  have hb2 := G2.out.below
  have hsz2 := hb2.size
  have HE : Hid (∀ W, Below w1.heap.size w1 W → W.cell? ⟨w.heap.size, 0, none⟩ = some (.pointer (some ⟨R, 0, none⟩)) ∧ Boxed W (w.heap.size + 1) 3 (.int .i64 most) ∧ Boxed W (w.heap.size + 1 + 1) 4 (.bool false) ∧ W.cell? ⟨R, 0, none⟩ = some (.slice a n c) ∧ OnC.At W a n L) := fun W hb => by
    have l5 := H01.out.2.2.1
    have l6 := H01.out.2.2.2
    have kk := HR.out W (H01.out.1.trans (hb.mono (H01.out.1.size)))
    exact ⟨cell0 ((hb.block _ (Array.getElem?_eq_some_iff.1 H01.out.2.1).1).trans H01.out.2.1), (hb.block _ (Array.getElem?_eq_some_iff.1 l5).1).trans l5, (hb.block _ (Array.getElem?_eq_some_iff.1 l6).1).trans l6, kk.1, kk.2⟩
  have HW1s : Hid (w.heap.size + 1 + 1 < w1.heap.size) := (Array.getElem?_eq_some_iff.1 H01.out.2.2.2).1
  have HBP0 : Hid (Below w1.heap.size w1 w2) := hb2
  have HBP0s : Hid (w1.heap.size ≤ w2.heap.size) := hsz2
  clear hb01 hb2 hsz2 HR HW
  gi_wp2_with fail
  refine wpIn_loop_rounds 3 ?_
  rw [roundsIn_succ]
  gi_wp2_with fail
  obtain ⟨w3, hw3⟩ : ∃ wx, wx = (w2.alloc (.cells #[.int .i64 0] 3)).alloc (.cells #[.int .i64 0] 3) := ⟨_, rfl⟩
  rw [← hw3]
  have HB0 : Hid (Boxed w3 w2.heap.size 3 (.int .i64 0) ∧ Boxed w3 (w2.heap.size + 1) 3 (.int .i64 (0 : Nat)) ∧ Below w2.heap.size w2 w3 ∧ w3.heap.size = w2.heap.size + 2) := by
    refine Lib.hid ?_
    rw [hw3]
    have h9 := Boxed.new (w2.alloc (.cells #[.int .i64 0] 3)) 3 (.int .i64 (0 : Nat))
    rw [World.size_alloc] at h9
    exact ⟨(Boxed.new w2 3 (.int .i64 0)).alloc _, h9, ((Below.refl _ _).alloc (Nat.le_refl _) _).alloc (by simp) _, by simp⟩
  clear hw3
  have HE0 : Hid (∀ W, Below w2.heap.size w3 W → W.cell? ⟨w.heap.size, 0, none⟩ = some (.pointer (some ⟨R, 0, none⟩)) ∧ Boxed W (w.heap.size + 1) 3 (.int .i64 most) ∧ Boxed W (w.heap.size + 1 + 1) 4 (.bool false) ∧ W.cell? ⟨R, 0, none⟩ = some (.slice a n c) ∧ OnC.At W a n L) := fun W hb => by
    have hb3 := HBP0.out.trans (HB0.out.2.2.1.mono HBP0s.out)
    have hbw := hb3.trans (hb.mono (by have := HBP0s.out; have := HW1s.out; omega))
    have k1 := HE.out W (hbw.mono (by have := HW1s.out; omega))
    exact k1
  refine wpIn_mono (Q := fun e a' W => (e = .normal ∨ e = .exit 2) ∧ ∃ (D K : Nat), a' = { tmps := #[.pointer (some ⟨G, 0, none⟩), .pointer (some ⟨R, 0, none⟩), .int .i64 most, undef, .pointer (some ⟨w.heap.size, 0, none⟩), .pointer (some ⟨w.heap.size + 1, 0, none⟩), .pointer (some ⟨w.heap.size + 1 + 1, 0, none⟩), .func (.func 35) #[] #[.pointer (some ⟨S0, 0, none⟩), .pointer (some ⟨S1, 0, none⟩)], .pointer (some ⟨w2.heap.size, 0, none⟩), .pointer (some ⟨w2.heap.size + 1, 0, none⟩), undef, undef, .pointer (some ⟨G, 0, none⟩), .func (.func 35) #[] #[.pointer (some ⟨S0, 0, none⟩), .pointer (some ⟨S1, 0, none⟩)], .func (.func 35) #[] #[.pointer (some ⟨S0, 0, none⟩), .pointer (some ⟨S1, 0, none⟩)], .bool false, .bool false, .pointer (some ⟨G, 0, none⟩), .int .i64 L.length, .pointer (some ⟨R, 0, none⟩), .pointer (some ⟨R, 0, none⟩), .pointer (some ⟨R, 0, none⟩), .slice a n c, .int .i64 n, .bool false, .bool false, .int .i64 0, .bool true, undef, undef, .func (.func 35) #[] #[.pointer (some ⟨S0, 0, none⟩), .pointer (some ⟨S1, 0, none⟩)], undef, undef, undef, undef, undef, undef, undef, undef, undef, undef, undef, undef, undef, undef, undef, undef, undef, undef, undef, undef, undef, undef, undef, undef, undef, undef, undef, undef, undef, undef, undef, undef, undef, undef, undef, undef, undef, undef, undef, undef, undef, undef, undef, undef, undef, undef, undef, undef], defers := { target := .collected D, args := #[] } :: [] } ∧ (w3.heap.size ≤ D ∧ W.heap[D]? = some (.deferred (some [])) ∧ Boxed W w2.heap.size 3 (.int .i64 0) ∧ Boxed W (w2.heap.size + 1) 3 (.int .i64 (K : Nat)) ∧ Below w2.heap.size w3 W ∧ (K = n ∨ (K : Int) = most))) ?_ ?_
  · obtain ⟨b8, b9, hbX, hsX⟩ := HB0.out
    have hbF : Below w1.heap.size w1 w3 := HBP0.out.trans (hbX.mono HBP0s.out)
    have hszF := HBP0s.out
    refine wpIn_rangeFunc_ownH rfl (by decide) (gf := 35) (lb := #[.pointer (some ⟨S0, 0, none⟩), .pointer (some ⟨S1, 0, none⟩)]) rfl trivial (enters_of Try.func35 (by kernel_rfl) rfl)
      (iter_stops Fence.wide 5 trivial rfl (by decide) S0 S1 _ ia ic L HL.out w3 ((hbF.block _ (Array.getElem?_eq_some_iff.1 H1.out.1).1).trans H1.out.1) (H1.out.2.1.below hbF)) KpF.trans (kpF_b fun b e => by have := e.2; omega) (Below.refl _ _) (fun _ => rfl)
      (fun pre W => (Boxed W w2.heap.size 3 (.int .i64 0) ∧ Boxed W (w2.heap.size + 1) 3 (.int .i64 (pre.length : Nat))) ∧ Below w2.heap.size w3 W)
      (fun cd pre W => pre <+: L → (cd = .exit 2 ∧ ((Boxed W w2.heap.size 3 (.int .i64 0) ∧ Boxed W (w2.heap.size + 1) 3 (.int .i64 (pre.length : Nat))) ∧ (Below w2.heap.size w3 W ∧ (pre.length : Int) = most))))
      (OwnFrom.and (OwnFrom.and (Own.from (boxed_own _ _ _) _) (Own.from (boxed_own _ _ _) _)) (ownFrom_below (by omega) (by omega)))
      (fun cd => own_imp (OwnFrom.and (ownFrom_pure _ _) (OwnFrom.and (OwnFrom.and (Own.from (boxed_own _ _ _) _) (Own.from (boxed_own _ _ _) _)) (OwnFrom.and (ownFrom_below (by omega) (by omega)) (ownFrom_pure _ _)))))
      ⟨⟨b8, b9⟩, Below.refl _ _⟩
      (fun x a' W => ∃ Bx, w3.heap.size ≤ Bx ∧ W.heap[Bx]? = some (BkO x.2) ∧ a' = { tmps := #[.pointer (some ⟨G, 0, none⟩), .pointer (some ⟨R, 0, none⟩), .int .i64 most, undef, .pointer (some ⟨w.heap.size, 0, none⟩), .pointer (some ⟨w.heap.size + 1, 0, none⟩), .pointer (some ⟨w.heap.size + 1 + 1, 0, none⟩), .func (.func 35) #[] #[.pointer (some ⟨S0, 0, none⟩), .pointer (some ⟨S1, 0, none⟩)], .pointer (some ⟨w2.heap.size, 0, none⟩), .pointer (some ⟨w2.heap.size + 1, 0, none⟩), .int .u32 (x.1 : Nat), .pointer (some ⟨Bx, 0, none⟩), .pointer (some ⟨G, 0, none⟩), .func (.func 35) #[] #[.pointer (some ⟨S0, 0, none⟩), .pointer (some ⟨S1, 0, none⟩)], .func (.func 35) #[] #[.pointer (some ⟨S0, 0, none⟩), .pointer (some ⟨S1, 0, none⟩)], .bool false, .bool false, .pointer (some ⟨G, 0, none⟩), .int .i64 L.length, .pointer (some ⟨R, 0, none⟩), .pointer (some ⟨R, 0, none⟩), .pointer (some ⟨R, 0, none⟩), .slice a n c, .int .i64 n, .bool false, .bool false, .int .i64 0, .bool true, undef, undef, .func (.func 35) #[] #[.pointer (some ⟨S0, 0, none⟩), .pointer (some ⟨S1, 0, none⟩)], .int .u32 (x.1 : Nat), BkV x.2, undef, undef, undef, undef, undef, undef, undef, undef, undef, undef, undef, undef, undef, undef, undef, undef, undef, undef, undef, undef, undef, undef, undef, undef, undef, undef, undef, undef, undef, undef, undef, undef, undef, undef, undef, undef, undef, undef, undef, undef, undef, undef, undef, undef, undef, undef], defers := [] })
      (fun x a' _ A B row hs hg hr => by
        obtain ⟨Bx, h1, h2, h3⟩ := hs
        exact ⟨Bx, h1, (hg.block Bx (Array.getElem?_eq_some_iff.1 h2).1 (fun e => by obtain ⟨_, o, ho, hoc⟩ := hr Bx e.symm; rw [h2] at ho; cases ho; cases hoc)).trans h2, h3⟩)
      ?assign ?body ?done ?stop
    case assign =>
      rintro l pre x W K ⟨⟨hv8, hv9⟩, hB1⟩ hK
      gi_wp2
      exact hK _ _ ((KeepsOthers.alloc _ _).from _) ((KpF.refl _ _).alloc _) ⟨⟨hv8.alloc _, hv9.alloc _⟩, hB1.alloc (by have := hB1.size; omega) _⟩ ⟨W.heap.size, hB1.size, heap_alloc_new _ _, rfl⟩
    case body =>
      rintro l pre x a' W hl ⟨r, hr⟩ ⟨⟨hv8, hv9⟩, hB1⟩ ⟨Bx, hBx, bX, rfl⟩ hlt
      obtain ⟨k4, k5, k6, kR, kA⟩ := HE0.out W hB1
      obtain ⟨k, hk⟩ : ∃ k, k = pre.length := ⟨_, rfl⟩
      rw [← hk] at hv9 hlt
      have hkn : k < n := by rw [HN.out]; exact hlt
      have hkz : decide (n ≤ k) = false := by simp; omega
      have hki : (k : Int) < (n : Int) := by omega
      have hkb : k < 1000000 := by have := HL.out.le; omega
      obtain ⟨AB, off, rfl, hAB, y, hy, hc⟩ := kA.cell hkn
      obtain ⟨t, ht⟩ : ∃ t, (!(decide (y = x))) = t := ⟨_, rfl⟩
      have hne : ∀ w, (binOp .neq oT (OnV y) (OnV x)).run Try.prog w = .ok (.bool t) w := fun w => by rw [← ht]; exact onNe y x w
      have hgd := fun (op : BinOp) (x y : Operand) (xs ys : Array Value) (w : World) => run_eqGuard_agg (P := Try.prog) w op oT x y xs ys onGuard
      have x0 := fun nq os => (Gw.of W nq os).cell (bk_box bX).1
      have x1 := fun nq os => (Gw.of W nq os).cell (bk_box bX).2.1
      have x2 := fun nq os => (Gw.of W nq os).cell (bk_box bX).2.2
      have c4 := fun nq os => (Gw.of W nq os).cell k4
      have c9 := fun nq os => (Gw.of W nq os).cell hv9.cell
      have cR := fun nq os => (Gw.of W nq os).cell kR
      have hcel : ∀ nq os, FourC (grow (W.drewN nq) os) AB (off + k * 4) y := fun nq os => four (hc.same ((Gw.of W nq os).block hAB))
      have y0 := fun nq os => (hcel nq os).1
      have y1 := fun nq os => (hcel nq os).2.1
      have y2 := fun nq os => (hcel nq os).2.2.1
      have y3 := fun nq os => (hcel nq os).2.2.2
      have HV := Lib.hid (And.intro hv8 (And.intro hv9 (And.intro hB1 (And.intro hk (And.intro hy ht)))))
      have HV5 := Lib.hid (And.intro k5 k6)
      clear hv8 hv9 hB1 hk hy ht k4 k5 k6 kR kA hc bX hlt hAB hcel
      gi_wp2_with fail
      refine region_round (by kernel_rfl) (by kernel_rfl) (by kernel_rfl) ?_
      iterate 20 (refine WQ.step (fun K hK => ?_); go_simp; (refine hK _ ?_; clear hK K))
      refine WQ.nil ?_
      intro _ hw'
      obtain ⟨⟨nq, osq⟩, hw''⟩ := hw'
      subst hw''
      have HG : Hid (Gw W (grow (W.drewN nq) osq)) := Gw.of W nq osq
      clear x0 x1 x2 c4 c9 cR y0 y1 y2 y3 hne hgd
      generalize grow (W.drewN nq) osq = w5 at HG ⊢
      have v8 : Boxed w5 w2.heap.size 3 (.int .i64 0) := (HG.out.block HV.out.1.lt).trans HV.out.1
      have v9 : Boxed w5 (w2.heap.size + 1) 3 (.int .i64 (k : Nat)) := (HG.out.block HV.out.2.1.lt).trans HV.out.2.1
      have v5 : Boxed w5 (w.heap.size + 1) 3 (.int .i64 most) := (HG.out.block HV5.out.1.lt).trans HV5.out.1
      have v6 : Boxed w5 (w.heap.size + 1 + 1) 4 (.bool false) := (HG.out.block HV5.out.2.lt).trans HV5.out.2
      have hbe : Below w2.heap.size w3 w5 := HV.out.2.2.1.trans (HG.out.below.mono (by have := HV.out.2.2.1.size; omega))
      have HKO : Hid (KeepsOthers W w5 ∧ KpF (fun b => w0.heap.size ≤ b ∧ b < w1.heap.size) W w5) := ⟨keeps_gw HG.out, ⟨HG.out.size, fun b _ hp => HG.out.block hp⟩⟩
      cases t with
      | true =>
        have f6 := v6.frozen
        have c6 := v6.cell
        gi_wp2
        refine ⟨(HKO.out.1.trans (KeepsOthers.setCell _ _ _)).from _, fun hp => ?_⟩
        have q := pre_get hp
        rw [← HV.out.2.2.2.1, HV.out.2.2.2.2.1] at q
        have q2 := HV.out.2.2.2.2.2
        rw [Option.some.inj q] at q2
        simp at q2
      | false =>
        have f9 := v9.frozen
        have c9 := v9.cell
        have v9b := Boxed.set (.int .i64 ((k : Int) + 1)) v9
        have v8b := v8.other (B' := w2.heap.size + 1) (by omega) (.int .i64 ((k : Int) + 1))
        have v5b := v5.other (B' := w2.heap.size + 1) (by have := HBP0s.out; have := HW1s.out; omega) (.int .i64 ((k : Int) + 1))
        have c9b := v9b.cell
        have c8b := v8b.cell
        have c5b := v5b.cell
        have e9 : ((pre ++ [x]).length : Int) = (k : Int) + 1 := by rw [HV.out.2.2.2.1]; simp
        have hbe2 : Below w2.heap.size w3 (w5.setCell ⟨w2.heap.size + 1, 0, none⟩ (.int .i64 ((k : Int) + 1))) := hbe.setCell (p := ⟨w2.heap.size + 1, 0, none⟩) (Nat.le_succ _) _
        have HKP : Hid (KpF (fun b => w0.heap.size ≤ b ∧ b < w1.heap.size) W (w5.setCell ⟨w2.heap.size + 1, 0, none⟩ (.int .i64 ((k : Int) + 1)))) := HKO.out.2.trans (KpF.of_but (S := fun b => b = w2.heap.size + 1) ((But.refl (fun b => b = w2.heap.size + 1) w5).setCell (p := ⟨w2.heap.size + 1, 0, none⟩) rfl _) fun b e e2 => by have := e.2; have := HBP0s.out; omega)
        have HEND := Lib.hid (And.intro v8b (And.intro v9b (And.intro hbe2 e9)))
        clear v8 v9 v5 v6 v8b v9b v5b hbe hbe2 e9
        by_cases hmk : (k : Int) + 1 = most
        · have hd : ((k : Int) + 1 == most) = true := by simpa using hmk
          have HMK := Lib.hid hmk
          clear hmk
          gi_wp2
          refine ⟨(HKO.out.1.trans (KeepsOthers.setCell _ _ _)).from _, fun _ => ⟨rfl, ⟨HEND.out.1, ?_⟩, HEND.out.2.2.1, ?_⟩⟩
          · rw [HEND.out.2.2.2]; exact HEND.out.2.1
          · rw [HEND.out.2.2.2]; exact HMK.out
        · have hd : ((k : Int) + 1 == most) = false := by simpa using hmk
          clear hmk
          gi_wp2
          refine ⟨(HKO.out.1.trans (KeepsOthers.setCell _ _ _)).from _, HKP.out, ⟨HEND.out.1, ?_⟩, HEND.out.2.2.1⟩
          rw [HEND.out.2.2.2]
          exact HEND.out.2.1
    case done =>
      rintro D xs W hD rfl ⟨⟨hv8, hv9⟩, hB1⟩ hK
      exact ⟨.inl rfl, D, _, rfl, hD, hK, hv8, hv9, hB1, .inl HN.out.symm⟩
    case stop =>
      rintro D cd pre W hD hpre hst hK
      obtain ⟨rfl, ⟨hv8, hv9⟩, hB1, hm⟩ := hst hpre
      refine wpIn_exit ?_
      exact ⟨.inr rfl, D, _, rfl, hD, hK, hv8, hv9, hB1, .inr hm⟩
  rintro e a' W0 ⟨he, D0, K0, rfl, HM⟩
  have HM0 := Lib.hid HM
  clear HM
  refine block_two he ?_
  clear he
  gi_upto_region 15 with fail
  gi_cut [77] from 62 (fun s77 wz => s77 = .bool false ∧ Hid (Gw W0 wz))
  case first =>
    obtain ⟨hD, hdf, b8, b9, hB1, hK⟩ := HM0.out
    obtain ⟨k4, k5, k6, kR, kA⟩ := HE0.out W0 hB1
    have c4 := fun nq os => (Gw.of W0 nq os).cell k4
    have c5 := fun nq os => (Gw.of W0 nq os).cell k5.cell
    have c8 := fun nq os => (Gw.of W0 nq os).cell b8.cell
    have c9 := fun nq os => (Gw.of W0 nq os).cell b9.cell
    have cR := fun nq os => (Gw.of W0 nq os).cell kR
    clear hD hdf b8 b9 hB1 k4 k5 k6 kR kA
    by_cases hKn : K0 = n
    · have hd1 : ((K0 : Int) != (n : Int)) = false := by simp [hKn]
      clear hK hKn
      refine wpIn_wide.2 (wp_region_gw (by kernel_rfl) (by kernel_rfl) ?_)
      iterate 16 (refine WQ.step (fun K hK => ?_); go_simp; (refine hK _ ?_; clear hK K))
      refine WQ.nil ?_
      intro _ hw'
      obtain ⟨⟨nq, osq⟩, hw''⟩ := hw'
      subst hw''
      gi_wp2_with fail
      gi_meet
      case rel => exact ⟨rfl, Gw.of _ _ _⟩
    · have hm := hK.resolve_left hKn
      have hd1 : ((K0 : Int) != (n : Int)) = true := by simp; omega
      have hd2 : ((K0 : Int) != most) = false := by simp [hm]
      clear hK hKn hm
      refine wpIn_wide.2 (wp_region_gw (by kernel_rfl) (by kernel_rfl) ?_)
      iterate 16 (refine WQ.step (fun K hK => ?_); go_simp; (refine hK _ ?_; clear hK K))
      refine WQ.nil ?_
      intro _ hw'
      obtain ⟨⟨nq, osq⟩, hw''⟩ := hw'
      subst hw''
      gi_wp2_with fail
      gi_meet
      case rel => exact ⟨rfl, Gw.of _ _ _⟩
  case rest =>
    obtain ⟨rfl, HG0⟩ := hcut
    obtain ⟨V0, hV⟩ : ∃ V, V = wc := ⟨_, rfl⟩
    rw [← hV] at HG0 ⊢
    clear hV
    have b8 : Boxed V0 w2.heap.size 3 (.int .i64 0) := (HG0.out.block HM0.out.2.2.1.lt).trans HM0.out.2.2.1
    have c8 := b8.cell
    clear b8
    gi_wp2_with fail
    rw [roundsIn_succ]
    gi_wp2_with fail
    have hbV : Below w1.heap.size w1 V0 := by
      have g1 := HB0.out.2.2.1
      have g2 := HM0.out.2.2.2.2.1
      have s1 := HBP0s.out
      have s2 := g1.size
      exact ((HBP0.out.trans (g1.mono s1)).trans (g2.mono s1)).trans (HG0.out.below.mono (by have := g2.size; omega))
    have HBP1 := Lib.hid hbV
    have HBP1s : Hid (w1.heap.size ≤ V0.heap.size) := hbV.size
    have hd0 := HM0.out.2.1
    have HD0 : Hid (V0.heap[D0]? = some (.deferred (some [])) ∧ D0 < V0.heap.size ∧ w.heap.size + 1 + 1 < D0) := by
      have hl := (Array.getElem?_eq_some_iff.1 hd0).1
      have g1 := HB0.out.2.2.1.size
      have s1 := HBP0s.out
      have s3 := HW1s.out
      have s4 := HM0.out.1
      exact ⟨(HG0.out.block hl).trans hd0, Nat.lt_of_lt_of_le hl HG0.out.size, by omega⟩
    clear hbV hd0 c8
    obtain ⟨w6, hw6⟩ : ∃ wx, wx = (V0.alloc (.cells #[.int .i64 1] 3)).alloc (.cells #[.int .i64 0] 3) := ⟨_, rfl⟩
    rw [← hw6]
    have HB1 : Hid (Boxed w6 V0.heap.size 3 (.int .i64 1) ∧ Boxed w6 (V0.heap.size + 1) 3 (.int .i64 (0 : Nat)) ∧ Below V0.heap.size V0 w6 ∧ w6.heap.size = V0.heap.size + 2) := by
      refine Lib.hid ?_
      rw [hw6]
      have h9 := Boxed.new (V0.alloc (.cells #[.int .i64 1] 3)) 3 (.int .i64 (0 : Nat))
      rw [World.size_alloc] at h9
      exact ⟨(Boxed.new V0 3 (.int .i64 1)).alloc _, h9, ((Below.refl _ _).alloc (Nat.le_refl _) _).alloc (by simp) _, by simp⟩
    clear hw6
    have HE1 : Hid (∀ W, Below V0.heap.size w6 W → W.cell? ⟨w.heap.size, 0, none⟩ = some (.pointer (some ⟨R, 0, none⟩)) ∧ Boxed W (w.heap.size + 1) 3 (.int .i64 most) ∧ Boxed W (w.heap.size + 1 + 1) 4 (.bool false) ∧ W.cell? ⟨R, 0, none⟩ = some (.slice a n c) ∧ OnC.At W a n L) := fun W hb => by
      have hb3 := HBP1.out.trans (HB1.out.2.2.1.mono HBP1s.out)
      have hbw := hb3.trans (hb.mono (by have := HBP1s.out; have := HW1s.out; omega))
      have k1 := HE.out W (hbw.mono (by have := HW1s.out; omega))
      exact k1
    refine wpIn_mono (Q := fun e a' W => (e = .normal ∨ e = .exit 2) ∧ ∃ (D K : Nat), a' = { tmps := #[.pointer (some ⟨G, 0, none⟩), .pointer (some ⟨R, 0, none⟩), .int .i64 most, undef, .pointer (some ⟨w.heap.size, 0, none⟩), .pointer (some ⟨w.heap.size + 1, 0, none⟩), .pointer (some ⟨w.heap.size + 1 + 1, 0, none⟩), .func (.func 35) #[] #[.pointer (some ⟨S0, 0, none⟩), .pointer (some ⟨S1, 0, none⟩)], .pointer (some ⟨V0.heap.size, 0, none⟩), .pointer (some ⟨V0.heap.size + 1, 0, none⟩), undef, undef, .pointer (some ⟨G, 0, none⟩), .func (.func 35) #[] #[.pointer (some ⟨S0, 0, none⟩), .pointer (some ⟨S1, 0, none⟩)], .func (.func 35) #[] #[.pointer (some ⟨S0, 0, none⟩), .pointer (some ⟨S1, 0, none⟩)], .bool false, .bool false, .pointer (some ⟨G, 0, none⟩), .int .i64 L.length, .pointer (some ⟨R, 0, none⟩), .pointer (some ⟨R, 0, none⟩), .pointer (some ⟨R, 0, none⟩), .slice a n c, .int .i64 n, .bool false, .bool false, .int .i64 1, .bool true, .int .i64 0, .int .i64 1, .func (.func 35) #[] #[.pointer (some ⟨S0, 0, none⟩), .pointer (some ⟨S1, 0, none⟩)], undef, undef, undef, undef, undef, undef, undef, undef, undef, undef, undef, undef, undef, undef, undef, undef, undef, undef, undef, undef, undef, undef, undef, undef, undef, undef, undef, undef, undef, undef, undef, u62, u63, u64, u65, u66, u67, u68, u69, u70, u71, u72, u73, u74, u75, u76, .bool false, .int .i64 0], defers := { target := .collected D, args := #[] } :: [{ target := .collected D0, args := #[] }] } ∧ (w6.heap.size ≤ D ∧ W.heap[D]? = some (.deferred (some [])) ∧ Boxed W V0.heap.size 3 (.int .i64 1) ∧ Boxed W (V0.heap.size + 1) 3 (.int .i64 (K : Nat)) ∧ Below V0.heap.size w6 W ∧ K = n)) ?_ ?_
    · obtain ⟨b8, b9, hbX, hsX⟩ := HB1.out
      have hbF : Below w1.heap.size w1 w6 := HBP1.out.trans (hbX.mono HBP1s.out)
      have hszF := HBP1s.out
      refine wpIn_rangeFunc_ownH rfl (by decide) (gf := 35) (lb := #[.pointer (some ⟨S0, 0, none⟩), .pointer (some ⟨S1, 0, none⟩)]) rfl trivial (enters_of Try.func35 (by kernel_rfl) rfl)
        (iter_stops Fence.wide 5 trivial rfl (by decide) S0 S1 _ ia ic L HL.out w6 ((hbF.block _ (Array.getElem?_eq_some_iff.1 H1.out.1).1).trans H1.out.1) (H1.out.2.1.below hbF)) KpF.trans (kpF_b fun b e => by have := e.2; omega) (Below.refl _ _) (fun _ => rfl)
        (fun pre W => (Boxed W V0.heap.size 3 (.int .i64 1) ∧ Boxed W (V0.heap.size + 1) 3 (.int .i64 (pre.length : Nat))) ∧ Below V0.heap.size w6 W)
        (fun _ pre _ => pre <+: L → False)
        (OwnFrom.and (OwnFrom.and (Own.from (boxed_own _ _ _) _) (Own.from (boxed_own _ _ _) _)) (ownFrom_below (by omega) (by omega)))
        (fun _ => ownFrom_pure _ _)
        ⟨⟨b8, b9⟩, Below.refl _ _⟩
        (fun x a' W => ∃ Bx, w6.heap.size ≤ Bx ∧ W.heap[Bx]? = some (BkO x.2) ∧ a' = { tmps := #[.pointer (some ⟨G, 0, none⟩), .pointer (some ⟨R, 0, none⟩), .int .i64 most, undef, .pointer (some ⟨w.heap.size, 0, none⟩), .pointer (some ⟨w.heap.size + 1, 0, none⟩), .pointer (some ⟨w.heap.size + 1 + 1, 0, none⟩), .func (.func 35) #[] #[.pointer (some ⟨S0, 0, none⟩), .pointer (some ⟨S1, 0, none⟩)], .pointer (some ⟨V0.heap.size, 0, none⟩), .pointer (some ⟨V0.heap.size + 1, 0, none⟩), .int .u32 (x.1 : Nat), .pointer (some ⟨Bx, 0, none⟩), .pointer (some ⟨G, 0, none⟩), .func (.func 35) #[] #[.pointer (some ⟨S0, 0, none⟩), .pointer (some ⟨S1, 0, none⟩)], .func (.func 35) #[] #[.pointer (some ⟨S0, 0, none⟩), .pointer (some ⟨S1, 0, none⟩)], .bool false, .bool false, .pointer (some ⟨G, 0, none⟩), .int .i64 L.length, .pointer (some ⟨R, 0, none⟩), .pointer (some ⟨R, 0, none⟩), .pointer (some ⟨R, 0, none⟩), .slice a n c, .int .i64 n, .bool false, .bool false, .int .i64 1, .bool true, .int .i64 0, .int .i64 1, .func (.func 35) #[] #[.pointer (some ⟨S0, 0, none⟩), .pointer (some ⟨S1, 0, none⟩)], .int .u32 (x.1 : Nat), BkV x.2, undef, undef, undef, undef, undef, undef, undef, undef, undef, undef, undef, undef, undef, undef, undef, undef, undef, undef, undef, undef, undef, undef, undef, undef, undef, undef, undef, undef, undef, u62, u63, u64, u65, u66, u67, u68, u69, u70, u71, u72, u73, u74, u75, u76, .bool false, .int .i64 0], defers := [] })
        (fun x a' _ A B row hs hg hr => by
          obtain ⟨Bx, h1, h2, h3⟩ := hs
          exact ⟨Bx, h1, (hg.block Bx (Array.getElem?_eq_some_iff.1 h2).1 (fun e => by obtain ⟨_, o, ho, hoc⟩ := hr Bx e.symm; rw [h2] at ho; cases ho; cases hoc)).trans h2, h3⟩)
        ?assign ?body ?done ?stop
      case assign =>
        rintro l pre x W K ⟨⟨hv8, hv9⟩, hB1⟩ hK
        gi_wp2
        exact hK _ _ ((KeepsOthers.alloc _ _).from _) ((KpF.refl _ _).alloc _) ⟨⟨hv8.alloc _, hv9.alloc _⟩, hB1.alloc (by have := hB1.size; omega) _⟩ ⟨W.heap.size, hB1.size, heap_alloc_new _ _, rfl⟩
      case body =>
        rintro l pre x a' W hl ⟨r, hr⟩ ⟨⟨hv8, hv9⟩, hB1⟩ ⟨Bx, hBx, bX, rfl⟩ hlt
        obtain ⟨k4, k5, k6, kR, kA⟩ := HE1.out W hB1
        obtain ⟨k, hk⟩ : ∃ k, k = pre.length := ⟨_, rfl⟩
        rw [← hk] at hv9 hlt
        have hkn : k < n := by rw [HN.out]; exact hlt
        have hkz : decide (n ≤ k) = false := by simp; omega
        have hki : (k : Int) < (n : Int) := by omega
        have hkb : k < 1000000 := by have := HL.out.le; omega
        obtain ⟨AB, off, rfl, hAB, y, hy, hc⟩ := kA.cell hkn
        obtain ⟨t, ht⟩ : ∃ t, (!(decide (y = x))) = t := ⟨_, rfl⟩
        have hne : ∀ w, (binOp .neq oT (OnV y) (OnV x)).run Try.prog w = .ok (.bool t) w := fun w => by rw [← ht]; exact onNe y x w
        have hgd := fun (op : BinOp) (x y : Operand) (xs ys : Array Value) (w : World) => run_eqGuard_agg (P := Try.prog) w op oT x y xs ys onGuard
        have x0 := fun nq os => (Gw.of W nq os).cell (bk_box bX).1
        have x1 := fun nq os => (Gw.of W nq os).cell (bk_box bX).2.1
        have x2 := fun nq os => (Gw.of W nq os).cell (bk_box bX).2.2
        have c4 := fun nq os => (Gw.of W nq os).cell k4
        have c9 := fun nq os => (Gw.of W nq os).cell hv9.cell
        have cR := fun nq os => (Gw.of W nq os).cell kR
        have hcel : ∀ nq os, FourC (grow (W.drewN nq) os) AB (off + k * 4) y := fun nq os => four (hc.same ((Gw.of W nq os).block hAB))
        have y0 := fun nq os => (hcel nq os).1
        have y1 := fun nq os => (hcel nq os).2.1
        have y2 := fun nq os => (hcel nq os).2.2.1
        have y3 := fun nq os => (hcel nq os).2.2.2
        have HV := Lib.hid (And.intro hv8 (And.intro hv9 (And.intro hB1 (And.intro hk (And.intro hy ht)))))
        have HV5 := Lib.hid (And.intro k5 k6)
        clear hv8 hv9 hB1 hk hy ht k4 k5 k6 kR kA hc bX hlt hAB hcel
        gi_wp2_with fail
        refine region_round (by kernel_rfl) (by kernel_rfl) (by kernel_rfl) ?_
        iterate 20 (refine WQ.step (fun K hK => ?_); go_simp; (refine hK _ ?_; clear hK K))
        refine WQ.nil ?_
        intro _ hw'
        obtain ⟨⟨nq, osq⟩, hw''⟩ := hw'
        subst hw''
        have HG : Hid (Gw W (grow (W.drewN nq) osq)) := Gw.of W nq osq
        clear x0 x1 x2 c4 c9 cR y0 y1 y2 y3 hne hgd
        generalize grow (W.drewN nq) osq = w5 at HG ⊢
        have v8 : Boxed w5 V0.heap.size 3 (.int .i64 1) := (HG.out.block HV.out.1.lt).trans HV.out.1
        have v9 : Boxed w5 (V0.heap.size + 1) 3 (.int .i64 (k : Nat)) := (HG.out.block HV.out.2.1.lt).trans HV.out.2.1
        have v5 : Boxed w5 (w.heap.size + 1) 3 (.int .i64 most) := (HG.out.block HV5.out.1.lt).trans HV5.out.1
        have v6 : Boxed w5 (w.heap.size + 1 + 1) 4 (.bool false) := (HG.out.block HV5.out.2.lt).trans HV5.out.2
        have hbe : Below V0.heap.size w6 w5 := HV.out.2.2.1.trans (HG.out.below.mono (by have := HV.out.2.2.1.size; omega))
        have HKO : Hid (KeepsOthers W w5 ∧ KpF (fun b => w0.heap.size ≤ b ∧ b < w1.heap.size) W w5) := ⟨keeps_gw HG.out, ⟨HG.out.size, fun b _ hp => HG.out.block hp⟩⟩
        cases t with
        | true =>
          have f6 := v6.frozen
          have c6 := v6.cell
          gi_wp2
          refine ⟨(HKO.out.1.trans (KeepsOthers.setCell _ _ _)).from _, fun hp => ?_⟩
          have q := pre_get hp
          rw [← HV.out.2.2.2.1, HV.out.2.2.2.2.1] at q
          have q2 := HV.out.2.2.2.2.2
          rw [Option.some.inj q] at q2
          simp at q2
        | false =>
          have f9 := v9.frozen
          have c9 := v9.cell
          have v9b := Boxed.set (.int .i64 ((k : Int) + 1)) v9
          have v8b := v8.other (B' := V0.heap.size + 1) (by omega) (.int .i64 ((k : Int) + 1))
          have v5b := v5.other (B' := V0.heap.size + 1) (by have := HBP1s.out; have := HW1s.out; omega) (.int .i64 ((k : Int) + 1))
          have c9b := v9b.cell
          have c8b := v8b.cell
          have c5b := v5b.cell
          have e9 : ((pre ++ [x]).length : Int) = (k : Int) + 1 := by rw [HV.out.2.2.2.1]; simp
          have hbe2 : Below V0.heap.size w6 (w5.setCell ⟨V0.heap.size + 1, 0, none⟩ (.int .i64 ((k : Int) + 1))) := hbe.setCell (p := ⟨V0.heap.size + 1, 0, none⟩) (Nat.le_succ _) _
          have HKP : Hid (KpF (fun b => w0.heap.size ≤ b ∧ b < w1.heap.size) W (w5.setCell ⟨V0.heap.size + 1, 0, none⟩ (.int .i64 ((k : Int) + 1)))) := HKO.out.2.trans (KpF.of_but (S := fun b => b = V0.heap.size + 1) ((But.refl (fun b => b = V0.heap.size + 1) w5).setCell (p := ⟨V0.heap.size + 1, 0, none⟩) rfl _) fun b e e2 => by have := e.2; have := HBP1s.out; omega)
          have HEND := Lib.hid (And.intro v8b (And.intro v9b (And.intro hbe2 e9)))
          clear v8 v9 v5 v6 v8b v9b v5b hbe hbe2 e9
          gi_wp2
          refine ⟨(HKO.out.1.trans (KeepsOthers.setCell _ _ _)).from _, HKP.out, ⟨HEND.out.1, ?_⟩, HEND.out.2.2.1⟩
          rw [HEND.out.2.2.2]
          exact HEND.out.2.1
      case done =>
        rintro D xs W hD rfl ⟨⟨hv8, hv9⟩, hB1⟩ hK
        exact ⟨.inl rfl, D, _, rfl, hD, hK, hv8, hv9, hB1, HN.out.symm⟩
      case stop =>
        rintro D cd pre W hD hpre hst hK
        exact (hst hpre).elim
    rintro e a' W1 ⟨he, D1, K1, rfl, HM⟩
    have HM1 := Lib.hid HM
    clear HM
    refine block_two he ?_
    clear he
    gi_upto_region 15 with fail
    gi_cut [77] from 62 (fun s77 wz => s77 = .bool false ∧ Hid (Gw W1 wz))
    case first =>
      obtain ⟨hD, hdf, b8, b9, hB1, hK⟩ := HM1.out
      obtain ⟨k4, k5, k6, kR, kA⟩ := HE1.out W1 hB1
      have c4 := fun nq os => (Gw.of W1 nq os).cell k4
      have c5 := fun nq os => (Gw.of W1 nq os).cell k5.cell
      have c8 := fun nq os => (Gw.of W1 nq os).cell b8.cell
      have c9 := fun nq os => (Gw.of W1 nq os).cell b9.cell
      have cR := fun nq os => (Gw.of W1 nq os).cell kR
      clear hD hdf b8 b9 hB1 k4 k5 k6 kR kA
      by_cases hKn : K1 = n
      · have hd1 : ((K1 : Int) != (n : Int)) = false := by simp [hKn]
        clear hK hKn
        refine wpIn_wide.2 (wp_region_gw (by kernel_rfl) (by kernel_rfl) ?_)
        iterate 16 (refine WQ.step (fun K hK => ?_); go_simp; (refine hK _ ?_; clear hK K))
        refine WQ.nil ?_
        intro _ hw'
        obtain ⟨⟨nq, osq⟩, hw''⟩ := hw'
        subst hw''
        gi_wp2_with fail
        gi_meet
        case rel => exact ⟨rfl, Gw.of _ _ _⟩
      · exact absurd hK hKn
    case rest =>
      obtain ⟨rfl, HG1⟩ := hcut
      obtain ⟨V1, hV⟩ : ∃ V, V = wc := ⟨_, rfl⟩
      rw [← hV] at HG1 ⊢
      clear hV
      have b8 : Boxed V1 V0.heap.size 3 (.int .i64 1) := (HG1.out.block HM1.out.2.2.1.lt).trans HM1.out.2.2.1
      have c8 := b8.cell
      clear b8
      have hbW1 := HM1.out.2.2.2.2.1
      have hbV1 : Below V0.heap.size w6 V1 := hbW1.trans (HG1.out.below.mono (by have := hbW1.size; have := HB1.out.2.2.2; omega))
      obtain ⟨k4, k5, k6, kR, kA⟩ := HE1.out V1 hbV1
      have k7 := k6.alloc (.cells #[.int .i64 2] 3)
      have c6 := k7.cell
      have f6 := k7.frozen
      gi_wp2_with fail
      rw [roundsIn_succ]
      gi_wp2_with fail
      obtain ⟨VE, hVE⟩ : ∃ VE, VE = (V1.alloc (.cells #[.int .i64 2] 3)).setCell ⟨w.heap.size + 1 + 1, 0, none⟩ (.bool true) := ⟨_, rfl⟩
      rw [← hVE]
      have hd1 := HM1.out.2.1
      have hl1 := (Array.getElem?_eq_some_iff.1 hd1).1
      have h1s := HG1.out.size
      have hW1 := HM1.out.1
      have hV0 := hbV1.size
      have h6s := HB1.out.2.2.2
      have g0 := HD0.out
      have hVE1 : But (fun b => b = w.heap.size + 1 + 1) V1 VE := by
        rw [hVE]
        exact ((But.refl (fun b => b = w.heap.size + 1 + 1) V1).alloc _).setCell (p := ⟨w.heap.size + 1 + 1, 0, none⟩) rfl _
      have hVs := hVE1.size
      have hs1 := HW1s.out
      have hs2 := HBP1s.out
      have hx6 := HB1.out.2.2.1
      have q1 : VE.heap[D1]? = some (.deferred (some [])) := (hVE1.block _ (by omega) (by omega)).trans ((HG1.out.block hl1).trans hd1)
      have q0 : VE.heap[D0]? = some (.deferred (some [])) := (hVE1.block _ (by omega) (by omega)).trans ((hbV1.block _ g0.2.1).trans ((hx6.block _ g0.2.1).trans g0.1))
      have q0' : (VE.putObj D1 (.deferred none)).heap[D0]? = some (.deferred (some [])) := ((grownBy_putObj' VE D1 (.deferred none)).block _ (by omega) (fun e => by have := Option.some.inj e; omega)).trans q0
      have b6 : Boxed VE (w.heap.size + 1 + 1) 4 (.bool true) := hVE ▸ Boxed.set (.bool true) k7
      have g6 := ((b6.kept (grownBy_putObj' VE D1 (.deferred none)) (fun e => by have := Option.some.inj e; omega)).kept (grownBy_putObj' _ D0 (.deferred none)) (fun e => by have := Option.some.inj e; omega)).cell
      have bA : Below w.heap.size w V0 := H01.out.1.trans (HBP1.out.mono (by omega))
      have bB : Below w.heap.size w V1 := (bA.trans (hx6.mono (by omega))).trans (hbV1.mono (by omega))
      have bE : Below w.heap.size w VE := bB.trans (hVE1.below (by omega) fun k e => by omega)
      have bF := bE.grown (grownBy_putObj' VE D1 (.deferred none)) bE.size (fun k e => by have := Option.some.inj e; omega)
      have bG := bF.grown (grownBy_putObj' _ D0 (.deferred none)) bF.size (fun k e => by have := Option.some.inj e; omega)
      refine ⟨by simp, .inl ⟨_, _, rfl, run_takeDeferred q1, ?_⟩⟩
      refine ⟨by simp, .inl ⟨_, _, rfl, run_takeDeferred q0', ?_⟩⟩
      exact ⟨.bool true, by simp [results, Try.results10, go_sem, g6], rfl, bG⟩
end Go.Proofs.Ytfonbompglddaaa
