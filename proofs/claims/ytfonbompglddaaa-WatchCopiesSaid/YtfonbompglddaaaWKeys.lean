/-
  maps.Keys and what it tells; slices.AppendSeq and Collect over it.
-/
import Derived.Test.YtfonbompglddaaaWMem
import Derived.Test.YtfonbompglddaaaSBase
import Derived.Test.YtfonbompglddaaaGRow
import Derived.Test.YtfonbompglddaaaGRound
import Derived.Sort.MapsRangeIn
import Derived.RangeFuncSeq
import Derived.RangeFuncNested
import Derived.RangeFuncBound
import Derived.RangeFuncCalls
import Derived.RangeFuncLeaves
import Derived.RangeFuncBox
import Derived.RangeFuncKeeps
import Derived.Maps.AppendAt
import Derived.Shelf.Abstract
import Derived.Shelf.RegionOpen
import Derived.WalkKit
import Derived.OwnWalkIn
import Derived.TacticsInMore
import Derived.LoopNIn
import Derived.LoopIn
import Derived.Maps.RangeRun
namespace Go.Proofs.Ytfonbompglddaaa
open Go Go.Shelf Go.RowKit Go.Lib Go.Sort Go.Proofs

attribute [local go_sem] Oper.semAt_some

/-- the numbers -/
abbrev ids (L : List On) : List Nat := L.map (·.1)
theorem key_inv {key : Value} {l : Lit} (h : keyOf Try.prog uT key = some l) : ∃ x : Nat, key = .int .u32 (x : Nat) ∧ l = kl x := by
  obtain ⟨x, e, e2, hw⟩ := Maps.keyOf_int_inv Try.underlying31 h
  simp [Lit.wf, IntKind.min, IntKind.max, IntKind.signed, IntKind.bits] at hw
  exact ⟨x.toNat, by rw [e, Int.toNat_of_nonneg hw.1], by rw [e2]; unfold kl; rw [Int.toNat_of_nonneg hw.1]⟩
/-- what a range over a map has told -/
structure Told (D : DataW Unit) (left : Lit → Bool) (cnt : Nat) (pre : List Nat) : Prop where
  nodup : pre.Nodup
  mem : ∀ i, i ∈ pre ↔ Maps.has D (kl i) = true ∧ left (kl i) = false
  few : pre.length + cnt ≤ Maps.size D
theorem Told.start (D : DataW Unit) : Told D (Maps.has D) (Maps.size D) [] :=
  ⟨List.nodup_nil, fun i => Iff.intro (fun h => by cases h) (fun h => by rw [h.1] at h; cases h.2), by simp⟩
theorem Told.step {D : DataW Unit} {left : Lit → Bool} {cnt cnt' : Nat} {pre : List Nat} (h : Told D left cnt pre) {i : Nat} (hl : left (kl i) = true) (hh : Maps.has D (kl i) = true) (hc : cnt' < cnt) :
    Told D (fun z => left z && !z.sameKey (kl i)) cnt' (pre ++ [i]) := by
  have hn : i ∉ pre := fun e => by have := ((h.mem i).1 e).2; rw [hl] at this; cases this
  refine ⟨?_, fun j => ?_, by have := h.few; simp; omega⟩
  · refine List.nodup_append.2 ⟨h.nodup, by simp, fun x hx y hy e => ?_⟩
    rw [List.mem_singleton.1 hy] at e
    exact hn (e ▸ hx)
  · rw [List.mem_append, List.mem_singleton, h.mem j]
    by_cases e : j = i
    · subst e
      rw [WideAt.sameKey_self (kl_key j), hh]
      simp
    · rw [Maps.sameKey_ne fun e2 => e (kl_inj e2)]
      simp [e]
theorem Told.perm {D : DataW Unit} {left : Lit → Bool} {cnt : Nat} {pre : List Nat} {L : List On} (h : Told D left cnt pre) (hs : Says D L) (hL : Wl L) (hl : ∀ z, left z = false) : pre.Perm (ids L) := by
  refine (List.perm_ext_iff_of_nodup h.nodup ?_).2 fun i => ?_
  · exact (List.pairwise_map.2 hL.up).imp fun h e => by rw [e] at h; exact Nat.lt_irrefl _ h
  · rw [h.mem i, hl]
    refine ⟨fun ⟨h1, _⟩ => ?_, fun h => ?_⟩
    · obtain ⟨x, hx, e⟩ := hs.of _ h1
      exact List.mem_map.2 ⟨x, hx, (kl_inj e).symm⟩
    · obtain ⟨x, hx, rfl⟩ := List.mem_map.1 h
      exact ⟨(hs.has x hx).1, rfl⟩

set_option maxRecDepth 100000 in
set_option maxHeartbeats 2000000 in
theorem keys_in (F : Fence) (n : Nat) (hf : F.fn 39) (hro : F.round = none) (hn : 1 ≤ n) (l S0 M : Nat) (L : List On) (hL : Wl L) (J Jx : List Nat → World → Prop) (W : World)
    (hJ2 : AbidesFrom W.heap.size J) (hY : ∀ pre x W, J pre W → pre.length < L.length → YieldAt F (n - 1) Try.prog l #[uV x] W fun e W' => (e = .returned (.bool true) ∧ J (pre ++ [x]) W' ∧ KeepsWalks W W') ∨ (e = .returned (.bool false) ∧ Jx (pre ++ [x]) W'))
    (hc : W.cell? ⟨S0, 0, none⟩ = some (.map (some M))) (hM : MapL W M L) (h0 : J [] W) :
    CallsIn F n Try.prog 39 #[.func (.yield l) #[] #[], .pointer (some ⟨S0, 0, none⟩)] W fun e W' => (∃ v, e = .returned v) ∧ ((∃ ys : List Nat, ys.Perm (ids L) ∧ J ys W') ∨ ∃ pre : List Nat, True ∧ Jx pre W') := by
  obtain ⟨D, hown, hsay⟩ := hM
  refine callsIn_of_wp Try.func39 rfl hf ?_ hro
  simp only [Try.ntmps39, List.size_toArray, List.length_cons, List.length_nil, Nat.reduceAdd, Nat.reduceSub, Array.replicate_succ, Array.replicate_zero, List.push_toArray, List.append_toArray, List.nil_append, List.cons_append]
  gi_wp2_with (first
    | (gi_at_range; refine wpListIn_range_own _ rfl _ mT rfl uT 33 hK hMT bR M L.length D rfl hown ?_; intro w0 hrg0 hg0 hs0)
    | gi_in)
  go_frame
  gi_loopw [3] (fun _ wr => ∃ (left : Lit → Bool) (cnt : Nat) (pre : List Nat), wr.ranges Try.prog uT bR M W.heap.size L.length D left cnt ∧ Told D left cnt pre ∧ J pre wr)
    (fun _ wr => wr.rangeLeft M W.heap.size)
  case atStart => exact ⟨_, _, [], hrg0, Told.start D, hJ2 [] W w0 none h0 hg0 (fun r e => by cases e)⟩
  case round =>
    obtain ⟨left, cnt, pre, hrg, hT, hJp⟩ := hrel
    gi_wp2_with (first
      | (gi_at_next; refine wpListIn_next_ranges _ rfl _ rfl uT hK bR uV BkV (fun key kl hk => by obtain ⟨x, hx, _⟩ := key_inv hk; exact ⟨x, hx⟩) (fun v y hv => by obtain ⟨b, hb, _⟩ := bR_inv hv; exact ⟨b, hb⟩) M W.heap.size L.length _ _ _ rfl hrg ?_ ?_)
      | gi_in)
    · intro hc0 hl0
      gi_wp2
      go_end0
      exact ⟨⟨_, rfl⟩, .inl ⟨pre, hT.perm hsay hL hl0, hJp⟩⟩
    · intro x c1 c2 c3 kl0 yd yp w2 cnt2 hkey hlk hv hat hrg2 hlt hg2 hs2 hen
      obtain ⟨x', ex, rfl⟩ := key_inv hkey
      obtain rfl : x = x' := by have := Value.int.inj ex; omega
      have hJ3 : J pre w2 := hJ2 pre wr w2 (some W.heap.size) hJp hg2 (fun r e => by cases e; exact ⟨Nat.le_refl _, hrg.iter_walk⟩)
      have hhas : Maps.has D (kl x) = true := Maps.has_true_of_atKey hat
      have hT2 := hT.step hlk hhas hlt
      have hpl : pre.length < L.length := by have := hT.few; rw [hsay.size] at this; omega
      obtain ⟨fn, tmps, assign, body, hy, hR⟩ := hY pre x w2 hJ3 hpl
      clear hs2
      gi_wp2
      refine hR.mono ?_
      rintro e W3 (⟨rfl, hJ4, hk3⟩ | ⟨rfl, hJx⟩)
      · gi_wp2
        have hrg3 := hrg2.of_walks hk3
        go_roundw
        case rel => exact ⟨_, cnt2, pre ++ [x], hrg3, hT2, hJ4⟩
        case measure => rw [hrg3.left_eq, hrg.left_eq]; exact hlt
      · gi_wp2
        refine bodyPost_ret (results_none rfl _ _ _) rfl ?_
        exact ⟨⟨_, rfl⟩, .inr ⟨pre ++ [x], trivial, hJx⟩⟩
set_option maxRecDepth 100000 in
set_option maxHeartbeats 1000000 in
theorem keys_nil (F : Fence) (n : Nat) (hf : F.fn 39) (hro : F.round = none) (l S0 : Nat) (J : List Nat → World → Prop) (W : World) (hJ : AbidesFrom W.heap.size J)
    (hc : W.cell? ⟨S0, 0, none⟩ = some (.map none)) (h0 : J [] W) :
    CallsIn F n Try.prog 39 #[.func (.yield l) #[] #[], .pointer (some ⟨S0, 0, none⟩)] W fun e W' => (∃ v, e = .returned v) ∧ ∃ ys : List Nat, ys.Perm (ids []) ∧ J ys W' := by
  refine callsIn_of_wp Try.func39 rfl hf ?_ hro
  simp only [Try.ntmps39, List.size_toArray, List.length_cons, List.length_nil, Nat.reduceAdd, Nat.reduceSub, Array.replicate_succ, Array.replicate_zero, List.push_toArray, List.append_toArray, List.nil_append, List.cons_append]
  have hrg := run_range_nilMap (P := Try.prog) W mT uT 33 hMT
  have hnx : ∀ ty, (Instr.next (.pointer (some ⟨W.heap.size, 0, none⟩)) false ty).run Try.prog (W.alloc (.mapIter none 0 #[] 0)) = _ := fun ty => run_next_nilMap _ ty 0 0 #[]
  gi_wp2
  refine wpIn_loop_rounds 1 ?_
  rw [roundsIn_succ]
  gi_wp2
  go_end0
  exact ⟨⟨_, rfl⟩, [], List.Perm.refl _, hJ [] W _ none h0 (World.grownBy_alloc W _ none) (fun r e => by cases e)⟩

theorem rowU : RowT Try.prog IdC 70 uT 4 := ⟨Try.underlying70, .int .u32 0, by kernel_rfl, rfl⟩
theorem infoU : (Try.prog.info? uT).map (fun i => (i.zero, i.size, i.bytes)) = some (some (.int .u32 0), 1, 4) := by kernel_rfl
/-- a map's address in a box, and the map, if there is one -/
def MBox (w : World) (S0 : Nat) (L : List On) : Prop := ∃ m, w.heap[S0]? = some (.cells #[.map m] mT (0, 0)) ∧ ((m = none ∧ L = []) ∨ ∃ M, m = some M ∧ MapL w M L)
theorem MBox.below {w w' : World} {S0 : Nat} {L : List On} (h : MBox w S0 L) (hb : Below w.heap.size w w') : MBox w' S0 L := by
  obtain ⟨m, h1, h2⟩ := h
  refine ⟨m, (hb.block _ (Array.getElem?_eq_some_iff.1 h1).1).trans h1, ?_⟩
  rcases h2 with h2 | ⟨M, e, hM⟩
  · exact .inl h2
  · exact .inr ⟨M, e, hM.same (hb.block _ hM.lt)⟩
theorem keys_stops (F : Fence) (n : Nat) (hf : F.fn 39) (hro : F.round = none) (hn : 1 ≤ n) (S0 : Nat) (L : List On) (hL : Wl L) (w : World) (h : MBox w S0 L) :
    SeqStopsK F n Try.prog 39 #[.pointer (some ⟨S0, 0, none⟩)] (fun x : Nat => #[uV x]) KeepsWalks (fun ys => ys.Perm (ids L)) (fun _ => True) L.length w := fun l J Jx W hW hJ _ hY h0 => by
  obtain ⟨m, h1, h2⟩ := h.below hW
  have hc : W.cell? ⟨S0, 0, none⟩ = some (.map m) := by rw [cell_of_row _ _ _ _ _ _ h1]; rfl
  rcases h2 with ⟨rfl, rfl⟩ | ⟨M, rfl, hM⟩
  · exact (keys_nil F n hf hro l S0 J W hJ hc h0).mono fun e W' ⟨h1, h2⟩ => ⟨h1, .inl h2⟩
  · exact keys_in F n hf hro hn l S0 M L hL J Jx W hJ hY hc hM h0
/-- a closure over a box of the map's address -/
theorem keys_any (w : World) (m : Option Nat) : Calls Try.prog 34 #[.map m] w fun e w' => e = .returned (.func (.func 39) #[] #[.pointer (some ⟨w.heap.size, 0, none⟩)]) ∧ w' = w.alloc (.cells #[.map m] mT) := by
  go_enter Try.func34, Try.ntmps34
  go_wp2_with fail
  go_ret
  exact ⟨rfl, rfl⟩
theorem one_id (W : World) (x : Nat) : ∀ j u, (IdC.enc x)[j]? = some u → (W.alloc (.cells #[uV x] uT)).cell? ((⟨W.heap.size, 0, none⟩ : Addr).add j) = some u := by
  intro j u hj
  have := Cod.news_one (C := IdC) _ x _ _ (heap_alloc_new W (.cells #[uV x] uT)) j u
  rw [Cod.cells_single] at this
  exact this hj
theorem id_snoc (l : List Nat) (x : Nat) : IdC.cells (l ++ [x]) = IdC.cells l ++ IdC.enc x := by rw [Cod.cells_app, Cod.cells_single]
/-- a row of them all, in some order; what was ahead of B stays -/
def SeqTo (B : Nat) (L : List On) (w : World) (e : Ending) (w' : World) : Prop := ∃ v ys, e = .returned v ∧ IdC.Own uT B w' v ys ∧ ys.Perm (ids L) ∧ Below B w w'
abbrev suT : TypeId := 70
set_option maxRecDepth 100000 in
set_option maxHeartbeats 4000000 in
theorem seq_any (w : World) (S0 : Nat) (L : List On) (hL : Wl L) (h : MBox w S0 L) :
    Calls Try.prog 40 #[.slice none 0 0, .func (.func 39) #[] #[.pointer (some ⟨S0, 0, none⟩)]] w (SeqTo w.heap.size L w) := by
  have HS : Hid (MBox (w.alloc (.cells #[.slice none 0 0] suT)) S0 L) := h.below ((Below.refl _ _).alloc (Nat.le_refl _) _)
  have HL : Hid (Wl L) := hL
  clear h hL
  refine (callsIn_wide (n := 6)).1 ?_
  refine callsIn_of_wp_marks Try.func40 rfl trivial ?_ rfl
  simp only [Try.ntmps40, List.size_toArray, List.length_cons, List.length_nil, Nat.reduceAdd, Nat.reduceSub, Array.replicate_succ, Array.replicate_zero, List.push_toArray, List.append_toArray, List.nil_append, List.cons_append]
  gi_wp2_with fail
  obtain ⟨w1, hw1⟩ : ∃ w1, w1 = w.alloc (.cells #[.slice none 0 0] suT) := ⟨_, rfl⟩
  have hbo : Boxed w1 w.heap.size suT (.slice none 0 0) := by rw [hw1]; exact Boxed.new w suT (.slice none 0 0)
  have hsz : w1.heap.size = w.heap.size + 1 := by rw [hw1]; simp
  have hbw : Below w.heap.size w w1 := by rw [hw1]; exact (Below.refl _ _).alloc (Nat.le_refl _) _
  have hno : w1.ownsRow w.heap.size uT 1 (.slice none 0 0) 0 [] := World.ownsRow_nil _ _ _ _
  rw [← hw1] at HS ⊢
  obtain ⟨i0, hi, hz0, hz1, hz2⟩ := info_of infoU
  refine wpIn_rangeFunc_ownH rfl (by decide) (gf := 39) (lb := #[.pointer (some ⟨S0, 0, none⟩)]) rfl trivial (enters_of Try.func39 (by kernel_rfl) rfl)
    (keys_stops Fence.wide 5 trivial rfl (by decide) S0 L HL.out w1 HS.out) walksK_t (walksK_b (w := w1)) (Below.refl _ _) (fun _ => rfl)
    (fun pre W => (∃ v, Boxed W w.heap.size suT v ∧ W.ownsRow w.heap.size uT 1 v pre.length (IdC.cells pre) ∧ True) ∧ Below w.heap.size w1 W)
    (fun cd pre W => False)
    (OwnFrom.and (Own.from (holdsRow_own w.heap.size w.heap.size suT uT 1 (fun pre : List Nat => pre.length) (fun pre => IdC.cells pre) (fun _ _ => True)) _) (ownFrom_below (by omega) (by omega)))
    (fun cd => ownFrom_pure _ _)
    ⟨⟨_, hbo, hno, trivial⟩, Below.refl _ _⟩
    (fun x a' W => a' = { tmps := #[.slice none 0 0, .func (.func 39) #[] #[.pointer (some ⟨S0, 0, none⟩)], .pointer (some ⟨w.heap.size, 0, none⟩), undef, .slice none 0 0, uV x, .func (.func 39) #[] #[.pointer (some ⟨S0, 0, none⟩)], uV x, undef, undef, undef, undef, undef], defers := [] })
    (fun x a' => ownFrom_pure _ _)
    ?assign ?body ?done ?stop
  case assign =>
    rintro l pre x W K ⟨⟨v, hv, hrow, -⟩, hB1⟩ hK
    gi_wp2
    exact hK _ _ ((KeepsOthers.refl _).from _) (KeepsWalks.refl _) ⟨⟨v, hv, hrow, trivial⟩, hB1⟩ rfl
  case body =>
    rintro l pre x a' W hl ⟨r, hr⟩ ⟨⟨v, hv, hrow, -⟩, hB1⟩ rfl hlt
    have hc := hv.cell
    have hsW := hB1.size
    have HPL : Hid (pre.length + 1 ≤ 1000000) := by show _ ≤ _; have := HL.out.le; omega
    gi_wp2_with (gi_at_builtin; refine wpListIn_append_own _ rfl _ _ suT rfl w.heap.size uT i0 _ 1 4 Try.underlying70 hi hz0 hz1 hz2 rfl (by decide) _ _ _ rfl (hrow.alloc _) ⟨W.heap.size, 0, none⟩ 1 1 (IdC.enc x) rfl rfl (one_id W x) (IdC.one x) (by have := HPL.out; unfold maxLen; omega) (by have := HPL.out; omega) (by simp; omega) ?_; intro v' w2 hown' hgrow _; obtain ⟨g', cap', rfl⟩ := ownsRow_succ hown'; obtain ⟨hv1, hv2, hr2, hk2, hb2'⟩ := hv.appended (n₀ := w.heap.size) (by decide) hrow (by omega) (by omega) hown' hgrow; have hc1 := hv1.cell; have hf1 := hv1.frozen)
    all_goals
      have hr3 := hown'.kept (grownBy_setCell' w2 w.heap.size (.slice (some ⟨g', 0, none⟩) (pre.length + 1) cap')) (.inr (hv1.not_row (by decide) hown').symm)
      have hr4 : (w2.setCell ⟨w.heap.size, 0, none⟩ (.slice (some ⟨g', 0, none⟩) (pre.length + 1) cap')).ownsRow w.heap.size uT 1 (.slice (some ⟨g', 0, none⟩) (pre.length + 1) cap') (pre ++ [x]).length (IdC.cells (pre ++ [x])) := by
        rw [List.length_append, id_snoc]
        exact hr3
      exact ⟨hk2.from _, hk2.walks, ⟨_, hv2, hr4, trivial⟩, hB1.trans hb2'⟩
  case done =>
    rintro D xs W hD hxs ⟨⟨v, hv, hrow, -⟩, hB1⟩ hK
    have hc := hv.cell
    obtain ⟨a9, n9, c9, rfl⟩ := Cod.Own.shape (C := IdC) hrow
    gi_wp2
    refine ⟨by simp, .inl ⟨_, _, rfl, run_takeDeferred hK, ?_⟩⟩
    refine ⟨.slice a9 n9 c9, by simp [results, Try.results40, go_sem], _, xs, rfl, ?_, hxs, (hbw.trans hB1).trans (belowK_b (w := w) (by omega) W D _ _ (by omega) hK rfl rfl)⟩
    exact ownsRow_putObj hrow _ hK rfl
  case stop =>
    rintro D cd pre W hD hpre h hK
    exact h.elim
theorem collect_any (w : World) (S0 : Nat) (L : List On) (hL : Wl L) (h : MBox w S0 L) :
    Calls Try.prog 37 #[.func (.func 39) #[] #[.pointer (some ⟨S0, 0, none⟩)]] w (SeqTo w.heap.size L w) := by
  have HL : Hid (Wl L) := hL
  have H : Hid (MBox w S0 L) := h
  clear hL h
  go_enter Try.func37, Try.ntmps37
  go_wp2_with (go_at_call 40; refine (seq_any _ S0 L HL.out H.out).mono ?_; rintro e w1 ⟨v, ys, rfl, h1, h2, h3⟩; have H1 := Lib.hid (And.intro h1 (And.intro h2 h3)); clear h1 h2 h3)
  go_ret
  exact ⟨_, ys, rfl, H1.out⟩
end Go.Proofs.Ytfonbompglddaaa
