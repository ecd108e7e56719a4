/-
  The walk of list (the statements').
-/
import Derived.Test.YtifniehfbafcoaaPList
namespace Go.Proofs.Ytifniehfbafcoaa
open Go Go.Shelf Go.RowKit Go.Lib Go.Sort Go.Proofs

attribute [local go_sem] Oper.semAt_some

set_option maxRecDepth 100000 in
theorem fn_nil (c : Fn) (a b : Array Value) (w : World) : (binOp .eql 43 (.func c a b) .nilFunc).run Try.prog w = .ok (.bool false) w := by
  have h : (Op.equalIn (9999 + 1) 43 (.func c a b) .nilFunc).run Try.prog w = .ok false w := by
    rw [Op.equalIn]
    simp [go_sem]
  unfold binOp Op.equal
  simp only [show Op.maxDepth = 9999 + 1 from rfl]
  simp only [Sem.run_bind, h, Result.andThen_ok, Sem.run_pure]
/-- so many of them, if so many are asked for -/
def upTo (L : List Ms) (m : Int) : List Ms := if 0 < m ∧ m ≤ L.length then L.take m.toNat else L
def ListTo (L : List Ms) (m : Int) (w : World) (e : Ending) (w' : World) : Prop := ∃ v, e = .returned (.tuple #[v, .bool true]) ∧ MsC.Own 36 w.heap.size w' v (upTo L m) ∧ Below w.heap.size w w'

set_option maxRecDepth 100000 in
set_option maxHeartbeats 4000000 in
theorem list_any (w : World) (G : Nat) (F : Nat → Prop) (x : List Ms × Nat) (m : Int) (h : Pl w G F x) : Calls Try.prog 18 #[.pointer (some ⟨G, 0, none⟩), .int .i64 m] w (ListTo x.1 m w) := by
  obtain ⟨L, hL⟩ : ∃ L, L = x.1 := ⟨_, rfl⟩
  rw [← hL]
  have hll : L.length ≤ 1000000 := by
    obtain ⟨v, vs, bs, h1, h2, h3, h4, h5⟩ := h
    rw [hL]
    omega
  have hw : Pl ((w.alloc (.cells #[.int .i64 m] 3)).alloc (.cells #[.slice none 0 0] 27)) G F x := Thing.below (A := plT) h (((Below.refl w.heap.size w).alloc (Nat.le_refl _) _).alloc (by simp) _)
  have HW := Lib.hid hw
  have HL := Lib.hid hL
  have HLL := Lib.hid hll
  clear h hw hL hll
  have hfn := fn_nil
  refine (callsIn_wide (n := 6)).1 ?_
  refine callsIn_of_wp_marks Try.func18 rfl trivial ?_ rfl
  simp only [Try.ntmps18, List.size_toArray, List.length_cons, List.length_nil, Nat.reduceAdd, Nat.reduceSub, Array.replicate_succ, Array.replicate_zero, List.push_toArray, List.append_toArray, List.nil_append, List.cons_append]
  gi_wp2_with (refine ⟨trivial, ?_⟩; gi_at_call 12; refine (callsIn_wide.2 (all_any _ G F x HW.out)).mono ?_; rw [← HL.out]; rintro e w1 ⟨S0, a, c, rfl, hS, hat, hb1, hn0, hlo⟩; have H1 := Lib.hid (And.intro hS (And.intro hat (And.intro hb1 (And.intro hn0 hlo)))); clear hS hat hb1 hn0 hlo)
  all_goals
    obtain ⟨hS, hat, hb1, hn0, hlo⟩ := H1.out
    have hb2 : Below w.heap.size w w1 := (((Below.refl w.heap.size w).alloc (Nat.le_refl _) _).alloc (by simp) _).trans (hb1.mono (by simp; omega))
    have hsz : w.heap.size + 2 ≤ w1.heap.size := by have := hb1.size; simp at this; omega
    have hbm : Boxed w1 w.heap.size 3 (.int .i64 m) := (hb1.block _ (by simp; omega)).trans ((Boxed.new w 3 (.int .i64 m)).alloc _)
    have hbo : Boxed w1 (w.heap.size + 1) 27 (.slice none 0 0) := by
      have := Boxed.new (w.alloc (.cells #[.int .i64 m] 3)) 27 (.slice none 0 0)
      rw [World.size_alloc] at this
      exact (hb1.block _ (by simp)).trans this
    obtain ⟨b, hba, hbl⟩ : ∃ b : Option Addr, (L = [] ∨ b = a) ∧ ∀ p, b = some p → p.block < w1.heap.size ∧ p.block ≠ w.heap.size + 1 := by
      by_cases hL : L = []
      · exact ⟨none, .inl hL, fun p e => by cases e⟩
      · refine ⟨a, .inr rfl, fun p e => ?_⟩
        have hl0 : 0 < L.length := Nat.pos_of_ne_zero fun e => hL (List.length_eq_zero_iff.1 e)
        obtain ⟨B, off, rfl, hB, x, hx, hc⟩ := hat.cell hl0
        cases e
        have := hlo _ rfl
        simp at this
        exact ⟨hB, fun e2 => by have e3 : B = w.heap.size + 1 := e2; omega⟩
    have hll := HLL.out
    obtain ⟨i0, hi, hz0, hz1, hz2⟩ := info_parts infoM
    refine wpIn_rangeFunc_ownH rfl (by decide) (gf := 36) (lb := #[.pointer (some ⟨S0, 0, none⟩)]) rfl trivial (enters_of Try.func36 (by kernel_rfl) rfl)
      (iter_stops Fence.wide 5 trivial rfl (by decide) S0 a b c L hba w1 hS hat) KpB.trans (kpB_b fun p e => (hbl p e).1) (Below.refl _ _) (fun _ => rfl)
      (fun pre W => ((∃ v, Boxed W (w.heap.size + 1) 27 v ∧ W.ownsRow w1.heap.size 36 10 v pre.length (MsC.cells pre) ∧ True) ∧ Boxed W w.heap.size 3 (.int .i64 m)) ∧ Below w.heap.size w1 W ∧ (m ≤ 0 ∨ pre.length < m))
      (fun cd pre W => cd = .exit 0 ∧ (((∃ v, Boxed W (w.heap.size + 1) 27 v ∧ W.ownsRow w1.heap.size 36 10 v pre.length (MsC.cells pre) ∧ True) ∧ Boxed W w.heap.size 3 (.int .i64 m)) ∧ Below w.heap.size w1 W ∧ (0 < m ∧ pre.length = m)))
      (OwnFrom.and (OwnFrom.and (Own.from (holdsRow_own w1.heap.size (w.heap.size + 1) 27 36 10 (fun pre : List Ms => pre.length) (fun pre => MsC.cells pre) (fun _ _ => True)) _) (Own.from (boxed_own _ _ _) _)) (OwnFrom.and (ownFrom_below (by omega) (by omega)) (ownFrom_pure _ _)))
      (fun cd => OwnFrom.and (ownFrom_pure _ _) (OwnFrom.and (OwnFrom.and (Own.from (holdsRow_own w1.heap.size (w.heap.size + 1) 27 36 10 (fun pre : List Ms => pre.length) (fun pre => MsC.cells pre) (fun _ _ => True)) _) (Own.from (boxed_own _ _ _) _)) (OwnFrom.and (ownFrom_below (by omega) (by omega)) (ownFrom_pure _ _))))
      ⟨⟨⟨_, hbo, World.ownsRow_nil _ _ _ _, trivial⟩, hbm⟩, Below.refl _ _, by simp; omega⟩
      (fun x a' W => ∃ Bx, w1.heap.size ≤ Bx ∧ W.heap[Bx]? = some (MsO x) ∧ a' = { tmps := #[.pointer (some ⟨G, 0, none⟩), .int .i64 m, undef, .pointer (some ⟨w.heap.size, 0, none⟩), .slice none 0 0, .bool false, .pointer (some ⟨w.heap.size + 1, 0, none⟩), .func (.func 36) #[] #[.pointer (some ⟨S0, 0, none⟩)], .pointer (some ⟨Bx, 0, none⟩), .pointer (some ⟨G, 0, none⟩), .func (.func 36) #[] #[.pointer (some ⟨S0, 0, none⟩)], .func (.func 36) #[] #[.pointer (some ⟨S0, 0, none⟩)], .bool false, .func (.func 36) #[] #[.pointer (some ⟨S0, 0, none⟩)], MsV x, undef, undef, undef, undef, undef, undef, undef, undef, undef], defers := [] })
      (fun x a' _ X Y row hs hg hr => by
        obtain ⟨Bx, h1, h2, h3⟩ := hs
        exact ⟨Bx, h1, (hg.block Bx (Array.getElem?_eq_some_iff.1 h2).1 (fun e => by obtain ⟨_, o, ho, hoc⟩ := hr Bx e.symm; rw [h2] at ho; cases ho; cases hoc)).trans h2, h3⟩)
      ?assign ?body ?done ?stop
  case assign =>
    rintro l pre x W K ⟨⟨⟨v, hv, hrow, -⟩, hm1⟩, hB1, hnm⟩ hK
    gi_wp2
    exact hK _ _ ((KeepsOthers.alloc _ _).from _) ((KpB.refl _ _).alloc _) ⟨⟨⟨v, hv.alloc _, hrow.alloc _, trivial⟩, hm1.alloc _⟩, hB1.alloc (by have := hB1.size; omega) _, hnm⟩ ⟨W.heap.size, hB1.size, heap_alloc_new _ _, rfl⟩
  case body =>
    rintro l pre x a' W hl ⟨r, hr⟩ ⟨⟨⟨v, hv, hrow, -⟩, hm1⟩, hB1, hnm⟩ ⟨Bx, hBx, bX, rfl⟩ hlt
    have hc := hv.cell
    obtain ⟨⟨x0, x1, x2, x3, x4, x5, x6, x7, x8, x9⟩, -⟩ := box_here bX
    have hsW := hB1.size
    have hmne : some w.heap.size ≠ v.ownBlock := fun e => by have := (hrow.lt _ e.symm).1; omega
    have HPL : Hid (pre.length + 1 ≤ 1000000) := by show _ ≤ _; omega
    by_cases hm5 : (pre.length : Int) + 1 = m
    · have hd : ((pre.length : Int) + 1 == m) = true := by simpa using hm5
      have HM5 := Lib.hid hm5
      clear hm5
      gi_wp2_with (gi_at_builtin; refine wpListIn_append_own _ rfl _ _ 27 rfl w1.heap.size 36 i0 _ 10 72 Try.underlying27 hi hz0 hz1 hz2 rfl (by decide) _ _ _ rfl (hrow.alloc _) ⟨W.heap.size, 0, none⟩ 1 1 (encM x) rfl rfl (one_enc W x) (encM_one x) (by have := HPL.out; unfold maxLen; omega) (by have := HPL.out; omega) (by simp; omega) ?_; intro v' w2 hown' hgrow _; obtain ⟨g', cap', rfl⟩ := ownsRow_succ hown'; obtain ⟨hv1, hv2, hr2, hk2, hb2'⟩ := hv.appended (n₀ := w.heap.size) (by decide) (ownsRow_mono hrow (by omega)) (by omega) (by omega) (ownsRow_mono hown' (by omega)) hgrow; have hc1 := hv1.cell; have hf1 := hv1.frozen; have hm3 : Boxed w2 w.heap.size 3 (.int .i64 m) := (hm1.alloc _).kept hgrow hmne; have hm4 := hm3.other (B' := w.heap.size + 1) (by omega) (.slice (some ⟨g', 0, none⟩) (pre.length + 1) cap'); have hmc3 := hm3.cell; have hmc4 := hm4.cell)
      all_goals
        have hr3 := hown'.kept (grownBy_setCell' w2 (w.heap.size + 1) (.slice (some ⟨g', 0, none⟩) (pre.length + 1) cap')) (.inr (hv1.not_row (by decide) hown').symm)
        have hr4 : (w2.setCell ⟨w.heap.size + 1, 0, none⟩ (.slice (some ⟨g', 0, none⟩) (pre.length + 1) cap')).ownsRow w1.heap.size 36 10 (.slice (some ⟨g', 0, none⟩) (pre.length + 1) cap') (pre ++ [x]).length (MsC.cells (pre ++ [x])) := by
          rw [List.length_append, cells_snoc]
          exact hr3
        exact ⟨hk2.from _, rfl, ⟨⟨_, hv2, hr4, trivial⟩, hm4⟩, hB1.trans hb2', by have := HM5.out; omega, by have := HM5.out; simp; omega⟩
    · have hd : ((pre.length : Int) + 1 == m) = false := by simpa using hm5
      have HM5 := Lib.hid hm5
      clear hm5
      gi_wp2_with (gi_at_builtin; refine wpListIn_append_own _ rfl _ _ 27 rfl w1.heap.size 36 i0 _ 10 72 Try.underlying27 hi hz0 hz1 hz2 rfl (by decide) _ _ _ rfl (hrow.alloc _) ⟨W.heap.size, 0, none⟩ 1 1 (encM x) rfl rfl (one_enc W x) (encM_one x) (by have := HPL.out; unfold maxLen; omega) (by have := HPL.out; omega) (by simp; omega) ?_; intro v' w2 hown' hgrow _; obtain ⟨g', cap', rfl⟩ := ownsRow_succ hown'; obtain ⟨hv1, hv2, hr2, hk2, hb2'⟩ := hv.appended (n₀ := w.heap.size) (by decide) (ownsRow_mono hrow (by omega)) (by omega) (by omega) (ownsRow_mono hown' (by omega)) hgrow; have hc1 := hv1.cell; have hf1 := hv1.frozen; have hm3 : Boxed w2 w.heap.size 3 (.int .i64 m) := (hm1.alloc _).kept hgrow hmne; have hm4 := hm3.other (B' := w.heap.size + 1) (by omega) (.slice (some ⟨g', 0, none⟩) (pre.length + 1) cap'); have hmc3 := hm3.cell; have hmc4 := hm4.cell)
      all_goals
        have hkp : KpB b W (w2.setCell ⟨w.heap.size + 1, 0, none⟩ (.slice (some ⟨g', 0, none⟩) (pre.length + 1) cap')) := ((KpB.refl b W).alloc _).trans ((KpB.of_but (But.grown hgrow) (fun p e h => by have := (hrow.lt _ h.symm).1; have := (hbl p e).1; omega)).trans (KpB.of_but ((But.refl (fun k => k = w.heap.size + 1) w2).setCell rfl _) (fun p e => (hbl p e).2)))
        have hr3 := hown'.kept (grownBy_setCell' w2 (w.heap.size + 1) (.slice (some ⟨g', 0, none⟩) (pre.length + 1) cap')) (.inr (hv1.not_row (by decide) hown').symm)
        have hr4 : (w2.setCell ⟨w.heap.size + 1, 0, none⟩ (.slice (some ⟨g', 0, none⟩) (pre.length + 1) cap')).ownsRow w1.heap.size 36 10 (.slice (some ⟨g', 0, none⟩) (pre.length + 1) cap') (pre ++ [x]).length (MsC.cells (pre ++ [x])) := by
          rw [List.length_append, cells_snoc]
          exact hr3
        exact ⟨hk2.from _, hkp, ⟨⟨_, hv2, hr4, trivial⟩, hm4⟩, hB1.trans hb2', by have := HM5.out; simp; omega⟩
  case done =>
    rintro D xs W hD rfl ⟨⟨⟨v, hv, hrow, -⟩, hm1⟩, hB1, hnm⟩ hK
    have hc := hv.cell
    gi_wp2
    have hup : upTo xs m = xs := by unfold upTo; rw [if_neg (by omega)]
    refine ⟨by simp, .inl ⟨_, _, rfl, run_takeDeferred hK, ?_⟩⟩
    refine ⟨.tuple #[v, .bool true], by simp [results, Try.results18, go_sem], v, rfl, ?_, (hb2.trans hB1).trans (belowK_b (w := w) (Nat.le_refl _) W D _ _ (by omega) hK rfl rfl)⟩
    rw [hup]
    exact ownsRow_putObj (ownsRow_mono hrow (by omega)) _ hK rfl
  case stop =>
    rintro D cd pre W hD hpre ⟨rfl, ⟨⟨v, hv, hrow, -⟩, hm1⟩, hB1, hm0, hml⟩ hK
    have hc := hv.cell
    gi_wp2
    have hup : upTo L m = pre := by
      have hle := hpre.length_le
      unfold upTo
      rw [if_pos (by omega)]
      rw [show m.toNat = pre.length by omega]
      exact (List.prefix_iff_eq_take.1 hpre).symm
    refine ⟨by simp, .inl ⟨_, _, rfl, run_takeDeferred hK, ?_⟩⟩
    refine ⟨.tuple #[v, .bool true], by simp [results, Try.results18, go_sem], v, rfl, ?_, (hb2.trans hB1).trans (belowK_b (w := w) (Nat.le_refl _) W D _ _ (by omega) hK rfl rfl)⟩
    rw [hup]
    exact ownsRow_putObj (ownsRow_mono hrow (by omega)) _ hK rfl
end Go.Proofs.Ytifniehfbafcoaa
