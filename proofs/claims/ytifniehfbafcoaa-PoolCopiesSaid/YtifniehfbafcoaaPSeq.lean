/-
  The walk of slices.AppendSeq over what each tells.
-/
import Derived.Test.YtifniehfbafcoaaPValues
import Derived.Maps.AppendAt
namespace Go.Proofs.Ytifniehfbafcoaa
open Go Go.Shelf Go.RowKit Go.Lib Go.Sort Go.Proofs

attribute [local go_sem] Oper.semAt_some

theorem infoM : (Try.prog.info? 36).map (fun i => (i.zero, i.size, i.bytes)) = some (some (MsV msZ), 10, 72) := by kernel_rfl
theorem info_parts {T : TypeId} {z : Option Value} {k b : Nat} (h : (Try.prog.info? T).map (fun i => (i.zero, i.size, i.bytes)) = some (z, k, b)) : ∃ i, Try.prog.info? T = some i ∧ i.zero = z ∧ i.size = k ∧ i.bytes = b := info_of h
theorem one_enc (W : World) (x : Ms) : ∀ j u, (encM x)[j]? = some u → (W.alloc (MsO x)).cell? ((⟨W.heap.size, 0, none⟩ : Addr).add j) = some u := by
  intro j u hj
  have := Cod.news_one (C := MsC) _ x _ _ (heap_alloc_new W (MsO x)) j u
  rw [Cod.cells_single] at this
  exact this hj
theorem ownsRow_mono {B B' : Nat} {w : World} {e : TypeId} {size n : Nat} {v : Value} {xs : List Value} (h : w.ownsRow B e size v n xs) (hB : B' ≤ B) : w.ownsRow B' e size v n xs := by
  obtain ⟨h1, h2 | ⟨g, cap, cur, e, hg, r⟩⟩ := h
  · exact ⟨h1, .inl h2⟩
  · exact ⟨h1, .inr ⟨g, cap, cur, e, Nat.le_trans hB hg, r⟩⟩
theorem cells_snoc (l : List Ms) (x : Ms) : MsC.cells (l ++ [x]) = MsC.cells l ++ encM x := by rw [Cod.cells_app, Cod.cells_single]; rfl
/-- a row of them all; what was ahead of B stays -/
def SeqTo (B : Nat) (L : List Ms) (w : World) (e : Ending) (w' : World) : Prop := ∃ v, e = .returned v ∧ MsC.Own 36 B w' v L ∧ Below B w w'
set_option maxRecDepth 100000 in
set_option maxHeartbeats 4000000 in
theorem seq_any (w : World) (B : Nat) (hB : B ≤ w.heap.size) (v0 : Value) (hv0 : MsC.Own 36 B w v0 []) (S0 G : Nat) (F : Nat → Prop) (v : Value) (vs : List Sl) (bs : List (List Ms)) (m nn : Nat) (h : PlX w G F v vs bs m nn) (hF : ∀ b, F b → b < B) (hS : w.heap[S0]? = some (.cells #[.pointer (some ⟨G, 0, none⟩)] 24 (0, 0))) (hbl : bs.length ≤ 1000000) (hfl : bs.flatten.length ≤ 1000000) :
    Calls Try.prog 37 #[v0, .func (.func 40) #[] #[.pointer (some ⟨S0, 0, none⟩)]] w (SeqTo B bs.flatten w) := by
  obtain ⟨L, hL⟩ : ∃ L, L = bs.flatten := ⟨_, rfl⟩
  have HX : Hid (PlX (w.alloc (.cells #[v0] 27)) G F v vs bs m nn) := h.below ((Below.refl _ _).alloc (Nat.le_refl _) _)
  have HLN : Hid (L = bs.flatten ∧ bs.length ≤ 1000000 ∧ L.length ≤ 1000000) := ⟨hL, hbl, by rw [hL]; exact hfl⟩
  have HV0 : Hid ((w.alloc (.cells #[v0] 27)).ownsRow B 36 10 v0 0 []) := (hv0 : w.ownsRow B 36 10 v0 0 []).alloc _
  have HS : Hid ((w.alloc (.cells #[v0] 27)).heap[S0]? = some (.cells #[.pointer (some ⟨G, 0, none⟩)] 24 (0, 0))) := (heap_alloc_old _ _ (Array.getElem?_eq_some_iff.1 hS).1).trans hS
  rw [← hL]
  obtain ⟨a0, k0, c0, rfl⟩ := hv0.shape
  clear h hbl hfl hv0 hS hL
  refine (callsIn_wide (n := 6)).1 ?_
  refine callsIn_of_wp_marks Try.func37 rfl trivial ?_ rfl
  simp only [Try.ntmps37, List.size_toArray, List.length_cons, List.length_nil, Nat.reduceAdd, Nat.reduceSub, Array.replicate_succ, Array.replicate_zero, List.push_toArray, List.append_toArray, List.nil_append, List.cons_append]
  gi_wp2_with fail
  obtain ⟨w1, hw1⟩ : ∃ w1, w1 = w.alloc (.cells #[.slice a0 k0 c0] 27) := ⟨_, rfl⟩
  have hbo : Boxed w1 w.heap.size 27 (.slice a0 k0 c0) := by rw [hw1]; exact Boxed.new w 27 (.slice a0 k0 c0)
  have hsz : w1.heap.size = w.heap.size + 1 := by rw [hw1]; simp
  have hbw : Below B w w1 := by rw [hw1]; exact (Below.refl _ _).alloc hB _
  rw [← hw1] at HX HV0 HS ⊢
  obtain ⟨i0, hi, hz0, hz1, hz2⟩ := info_parts infoM
  refine wpIn_rangeFunc_ownH rfl (by decide) (gf := 40) (lb := #[.pointer (some ⟨S0, 0, none⟩)]) rfl trivial (enters_of Try.func40 (by kernel_rfl) rfl)
    (each_stops Fence.wide 5 trivial rfl (by decide) S0 G F v vs bs m nn w1 HS.out HX.out HLN.out.2.1) KpF.trans (kpF_b fun b e => by have := hF b e; omega) (Below.refl _ _) (fun _ => rfl)
    (fun pre W => (∃ v, Boxed W w.heap.size 27 v ∧ W.ownsRow B 36 10 v pre.length (MsC.cells pre) ∧ True) ∧ Below B w1 W)
    (fun cd pre W => False)
    (OwnFrom.and (Own.from (holdsRow_own B w.heap.size 27 36 10 (fun pre : List Ms => pre.length) (fun pre => MsC.cells pre) (fun _ _ => True)) _) (ownFrom_below (by omega) (by omega)))
    (fun cd => ownFrom_pure _ _)
    ⟨⟨_, hbo, HV0.out, trivial⟩, Below.refl _ _⟩
    (fun x a' W => ∃ Bx, w1.heap.size ≤ Bx ∧ W.heap[Bx]? = some (MsO x) ∧ a' = { tmps := #[.slice a0 k0 c0, .func (.func 40) #[] #[.pointer (some ⟨S0, 0, none⟩)], .pointer (some ⟨w.heap.size, 0, none⟩), undef, .slice none 0 0, .pointer (some ⟨Bx, 0, none⟩), .func (.func 40) #[] #[.pointer (some ⟨S0, 0, none⟩)], MsV x, undef, undef, undef, undef, undef], defers := [] })
    (fun x a' _ X Y row hs hg hr => by
      obtain ⟨Bx, h1, h2, h3⟩ := hs
      exact ⟨Bx, h1, (hg.block Bx (Array.getElem?_eq_some_iff.1 h2).1 (fun e => by obtain ⟨_, o, ho, hoc⟩ := hr Bx e.symm; rw [h2] at ho; cases ho; cases hoc)).trans h2, h3⟩)
    ?assign ?body ?done ?stop
  case assign =>
    rintro l pre x W K ⟨⟨v, hv, hrow, -⟩, hB1⟩ hK
    gi_wp2
    exact hK _ _ ((KeepsOthers.alloc _ _).from _) ((KpF.refl _ _).alloc _) ⟨⟨v, hv.alloc _, hrow.alloc _, trivial⟩, hB1.alloc (by have := hB1.size; omega) _⟩ ⟨W.heap.size, hB1.size, heap_alloc_new _ _, rfl⟩
  case body =>
    rintro l pre x a' W hl ⟨r, hr⟩ ⟨⟨v, hv, hrow, -⟩, hB1⟩ ⟨Bx, hBx, bX, rfl⟩ hlt
    have hc := hv.cell
    obtain ⟨⟨x0, x1, x2, x3, x4, x5, x6, x7, x8, x9⟩, -⟩ := box_here bX
    have hsW := hB1.size
    have HPL : Hid (pre.length + 1 ≤ 1000000) := by show _ ≤ _; have := HLN.out; rw [← this.1] at hlt; omega
    gi_wp2_with (gi_at_builtin; refine wpListIn_append_own _ rfl _ _ 27 rfl B 36 i0 _ 10 72 Try.underlying27 hi hz0 hz1 hz2 rfl (by decide) _ _ _ rfl (hrow.alloc _) ⟨W.heap.size, 0, none⟩ 1 1 (encM x) rfl rfl (one_enc W x) (encM_one x) (by have := HPL.out; unfold maxLen; omega) (by have := HPL.out; omega) (by simp; omega) ?_; intro v' w2 hown' hgrow _; obtain ⟨g', cap', rfl⟩ := ownsRow_succ hown'; obtain ⟨hv1, hv2, hr2, hk2, hb2'⟩ := hv.appended (n₀ := B) (by decide) hrow (by omega) (by omega) hown' hgrow; have hc1 := hv1.cell; have hf1 := hv1.frozen)
    all_goals
      have hkp : KpF F W (w2.setCell ⟨w.heap.size, 0, none⟩ (.slice (some ⟨g', 0, none⟩) (pre.length + 1) cap')) := ⟨hb2'.size, fun b e _ => hb2'.block _ (hF b e)⟩
      have hr3 := hown'.kept (grownBy_setCell' w2 w.heap.size (.slice (some ⟨g', 0, none⟩) (pre.length + 1) cap')) (.inr (hv1.not_row (by decide) hown').symm)
      have hr4 : (w2.setCell ⟨w.heap.size, 0, none⟩ (.slice (some ⟨g', 0, none⟩) (pre.length + 1) cap')).ownsRow B 36 10 (.slice (some ⟨g', 0, none⟩) (pre.length + 1) cap') (pre ++ [x]).length (MsC.cells (pre ++ [x])) := by
        rw [List.length_append, cells_snoc]
        exact hr3
      exact ⟨hk2.from _, hkp, ⟨_, hv2, hr4, trivial⟩, hB1.trans hb2'⟩
  case done =>
    rintro D xs W hD rfl ⟨⟨v, hv, hrow, -⟩, hB1⟩ hK
    have hc := hv.cell
    obtain ⟨a9, n9, c9, rfl⟩ := Cod.Own.shape (C := MsC) hrow
    gi_wp2
    refine ⟨by simp, .inl ⟨_, _, rfl, run_takeDeferred hK, ?_⟩⟩
    refine ⟨.slice a9 n9 c9, by simp [results, Try.results37, go_sem], _, rfl, ?_, (hbw.trans hB1).trans (belowK_b (w := w) (by omega) W D _ _ (by omega) hK rfl rfl)⟩
    rw [HLN.out.1]
    exact ownsRow_putObj hrow _ hK rfl
  case stop =>
    rintro D cd pre W hD hpre h hK
    exact h.elim
end Go.Proofs.Ytifniehfbafcoaa
