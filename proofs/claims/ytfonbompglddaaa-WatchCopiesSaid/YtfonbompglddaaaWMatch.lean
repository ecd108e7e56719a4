/-
  Match, walked; Copy.
-/
import Derived.Test.YtfonbompglddaaaWAll
import Derived.Test.YtfonbompglddaaaDMatch
namespace Go.Proofs.Ytfonbompglddaaa
open Go Go.Shelf Go.RowKit Go.Lib Go.Sort Go.Proofs

attribute [local go_sem] Oper.semAt_some

/-- cells that stay abide what turns no cells -/
theorem cells_own {β : Type} (n₀ b : Nat) (cs : Array Value) (T : TypeId) : OwnFrom n₀ (fun (_ : β) W => W.heap[b]? = some (.cells cs T (0, 0))) := fun _ X Y row hs hg hr =>
  (hg.block b (Array.getElem?_eq_some_iff.1 hs).1 (fun e => by obtain ⟨_, o, ho, hoc⟩ := hr b e.symm; rw [hs] at ho; cases ho; cases hoc)).trans hs
theorem matches_is {b : Bk} {e : Ev} {t : Bool} {w : World} (h : bmat b e = t) : Calls Try.prog 17 #[BkV b, EvV e] w (GwV (.bool t) w) := h ▸ matches_any b e w
/-- the number of the last -/
def lastId (l : List On) : Nat := (l.getLast?.map (·.1)).getD 0
theorem lastId_snoc (l : List On) (x : On) : lastId (l ++ [x]) = x.1 := by simp [lastId]
set_option maxRecDepth 100000 in
set_option maxHeartbeats 4000000 in
theorem match_any {w : World} {G : Nat} {F : Nat → Prop} {L : List On} (h : Wt w G F L) (ev : Ev) : Calls Try.prog 22 #[.pointer (some ⟨G, 0, none⟩), EvV ev] w (Tells (mtch (lmatch L ev)) w) := by
  obtain ⟨w0, hw0⟩ : ∃ w0, w0 = ((w.alloc (EvO ev)).alloc (.cells #[.int .u32 0] uT)).alloc (.cells #[.bool false] 4) := ⟨_, rfl⟩
  have hb0 : Below w.heap.size w w0 := by rw [hw0]; exact (((Below.refl _ _).alloc (Nat.le_refl _) _).alloc (by simp) _).alloc (by simp; omega) _
  have hsz : w0.heap.size = w.heap.size + 3 := by rw [hw0]; simp
  have q3 : w0.heap[w.heap.size]? = some (EvO ev) := by
    rw [hw0, heap_alloc_old _ _ (by simp; omega), heap_alloc_old _ _ (by simp)]
    exact heap_alloc_new _ _
  have q4 : Boxed w0 (w.heap.size + 1) uT (.int .u32 0) := by
    have := (Boxed.new (w.alloc (EvO ev)) uT (.int .u32 0)).alloc (.cells #[.bool false] 4)
    rw [World.size_alloc] at this
    rw [hw0]
    exact this
  have q5 : Boxed w0 (w.heap.size + 1 + 1) 4 (.bool false) := by
    have := Boxed.new ((w.alloc (EvO ev)).alloc (.cells #[.int .u32 0] uT)) 4 (.bool false)
    rw [World.size_alloc, World.size_alloc] at this
    rw [hw0]
    exact this
  have HH := Lib.hid (h.below hb0)
  have HL : Hid (Wl L) := h.wl
  have H0 := Lib.hid (And.intro hb0 (And.intro hsz (And.intro q3 (And.intro q4 q5))))
  clear h hb0 hsz q3 q4 q5
  refine (callsIn_wide (n := 6)).1 ?_
  refine callsIn_of_wp_marks Try.func22 rfl trivial ?_ rfl
  simp only [Try.ntmps22, List.size_toArray, List.length_cons, List.length_nil, Nat.reduceAdd, Nat.reduceSub, Array.replicate_succ, Array.replicate_zero, List.push_toArray, List.append_toArray, List.nil_append, List.cons_append]
  gi_wp2_with (refine ⟨trivial, ?_⟩; gi_at_call 28; (rw [← hw0]); refine (callsIn_wide.2 (all_any HH.out)).mono ?_; rintro e w1 ⟨S0, S1, a, c, rfl, hS, hit, hb1, hlo⟩; have H1 := Lib.hid (And.intro hS (And.intro hit (And.intro hb1 hlo))); clear hS hit hb1 hlo)
  obtain ⟨hS, hit, hb1, hlo⟩ := H1.out
  obtain ⟨hb0, hsz, q3, q4, q5⟩ := H0.out
  have hsz1 := hb1.size
  have hbw : Below w.heap.size w w1 := hb0.trans (hb1.mono (by omega))
  have e3 : w1.heap[w.heap.size]? = some (EvO ev) := (hb1.block _ (by omega)).trans q3
  have e4 : Boxed w1 (w.heap.size + 1) uT (.int .u32 0) := (hb1.block _ (by omega)).trans q4
  have e5 : Boxed w1 (w.heap.size + 1 + 1) 4 (.bool false) := (hb1.block _ (by omega)).trans q5
  refine wpIn_rangeFunc_ownH rfl (by decide) (gf := 35) (lb := #[.pointer (some ⟨S0, 0, none⟩), .pointer (some ⟨S1, 0, none⟩)]) rfl trivial (enters_of Try.func35 (by kernel_rfl) rfl)
    (iter_stops Fence.wide 5 trivial rfl (by decide) S0 S1 _ a c L HL.out w1 hS hit) KpF.trans (kpF_b fun b e => e.2) (Below.refl _ _) (fun _ => rfl)
    (fun pre W => ((Boxed W (w.heap.size + 1) uT (.int .u32 0) ∧ Boxed W (w.heap.size + 1 + 1) 4 (.bool false)) ∧ W.heap[w.heap.size]? = some (EvO ev)) ∧ Below w.heap.size w1 W ∧ (∀ y ∈ pre, bmat y.2 ev = false))
    (fun cd pre W => cd = .ret ∧ ((Boxed W (w.heap.size + 1) uT (.int .u32 (lastId pre : Nat)) ∧ Boxed W (w.heap.size + 1 + 1) 4 (.bool true)) ∧ (Below w.heap.size w1 W ∧ (∃ p x, pre = p ++ [x] ∧ (∀ y ∈ p, bmat y.2 ev = false) ∧ bmat x.2 ev = true))))
    (OwnFrom.and (OwnFrom.and (OwnFrom.and (Own.from (boxed_own _ _ _) _) (Own.from (boxed_own _ _ _) _)) (cells_own _ _ _ _)) (OwnFrom.and (ownFrom_below (by omega) (by omega)) (ownFrom_pure _ _)))
    (fun cd => OwnFrom.and (ownFrom_pure _ _) (OwnFrom.and (OwnFrom.and (Own.from (boxed_own _ _ _) _) (Own.from (boxed_own _ _ _) _)) (OwnFrom.and (ownFrom_below (by omega) (by omega)) (ownFrom_pure _ _))))
    ⟨⟨⟨e4, e5⟩, e3⟩, Below.refl _ _, fun y hy => absurd hy (List.not_mem_nil)⟩
    (fun x a' W => ∃ Bx, w1.heap.size ≤ Bx ∧ W.heap[Bx]? = some (BkO x.2) ∧ a' = { tmps := #[.pointer (some ⟨G, 0, none⟩), EvV ev, undef, .pointer (some ⟨w.heap.size, 0, none⟩), .pointer (some ⟨w.heap.size + 1, 0, none⟩), .pointer (some ⟨w.heap.size + 1 + 1, 0, none⟩), .int .u32 (x.1 : Nat), .pointer (some ⟨Bx, 0, none⟩), .pointer (some ⟨G, 0, none⟩), .func (.func 35) #[] #[.pointer (some ⟨S0, 0, none⟩), .pointer (some ⟨S1, 0, none⟩)], .int .u32 (x.1 : Nat), BkV x.2, undef, undef, undef, undef], defers := [] })
    (fun x a' _ X Y row hs hg hr => by
      obtain ⟨Bx, h1, h2, h3⟩ := hs
      exact ⟨Bx, h1, (hg.block Bx (Array.getElem?_eq_some_iff.1 h2).1 (fun e => by obtain ⟨_, o, ho, hoc⟩ := hr Bx e.symm; rw [h2] at ho; cases ho; cases hoc)).trans h2, h3⟩)
    ?assign ?body ?done ?stop
  case assign =>
    rintro l pre x W K ⟨⟨⟨hv4, hv5⟩, he⟩, hB1, hM⟩ hK
    gi_wp2
    exact hK _ _ ((KeepsOthers.alloc _ _).from _) ((KpF.refl _ _).alloc _) ⟨⟨⟨hv4.alloc _, hv5.alloc _⟩, (heap_alloc_old _ _ (Array.getElem?_eq_some_iff.1 he).1).trans he⟩, hB1.alloc (by have := hB1.size; omega) _, hM⟩ ⟨W.heap.size, hB1.size, heap_alloc_new _ _, rfl⟩
  case body =>
    rintro l pre x a' W hl ⟨r, hr⟩ ⟨⟨⟨hv4, hv5⟩, he⟩, hB1, hM⟩ ⟨Bx, hBx, bX, rfl⟩ hlt
    obtain ⟨x0, x1, x2⟩ := bk_box bX
    obtain ⟨y0, y1, y2, y3, y4, y5⟩ := ev_box he
    obtain ⟨t, ht⟩ : ∃ t, bmat x.2 ev = t := ⟨_, rfl⟩
    have HT := Lib.hid ht
    have HV := Lib.hid (And.intro hv4 (And.intro hv5 (And.intro he (And.intro hB1 hM))))
    clear ht hv4 hv5 he hB1 hM
    gi_wp2
    refine ⟨trivial, ?_⟩
    refine (CallsIn.inRound l (callsIn_wide.2 (matches_is HT.out))).mono ?_
    rintro e w2 ⟨rfl, hg⟩
    have v4 : Boxed w2 (w.heap.size + 1) uT (.int .u32 0) := (hg.block HV.out.1.lt).trans HV.out.1
    have v5 : Boxed w2 (w.heap.size + 1 + 1) 4 (.bool false) := (hg.block HV.out.2.1.lt).trans HV.out.2.1
    have v5b := v5.other (B' := w.heap.size + 1) (by omega) (.int .u32 (x.1 : Nat))
    have c4 := v4.cell
    have c5 := v5.cell
    have c5b := v5b.cell
    have f4 := v4.frozen
    have f5 := v5.frozen
    have f5b := v5b.frozen
    have hbx : w2.heap[w.heap.size]? = some (EvO ev) := (hg.block (Array.getElem?_eq_some_iff.1 HV.out.2.2.1).1).trans HV.out.2.2.1
    have hbe : Below w.heap.size w1 w2 := HV.out.2.2.2.1.trans (hg.below.mono (by have := HV.out.2.2.2.1.size; omega))
    have HVV := Lib.hid (And.intro v4 (And.intro v5 (And.intro v5b (And.intro hbx hbe))))
    have HKO : Hid (KeepsOthers W w2 ∧ KpF (fun b => w0.heap.size ≤ b ∧ b < w1.heap.size) W w2) := ⟨keeps_gw hg, ⟨hg.size, fun b _ hp => hg.block hp⟩⟩
    clear hg v4 v5 v5b hbx hbe
    cases t with
    | true =>
      gi_wp2
      have hb2 : But (fun b => b = w.heap.size + 1 ∨ b = w.heap.size + 1 + 1) w2 ((w2.setCell ⟨w.heap.size + 1, 0, none⟩ (.int .u32 (x.1 : Nat))).setCell ⟨w.heap.size + 1 + 1, 0, none⟩ (.bool true)) := ((But.refl _ w2).setCell (p := ⟨w.heap.size + 1, 0, none⟩) (.inl rfl) _).setCell (p := ⟨w.heap.size + 1 + 1, 0, none⟩) (.inr rfl) _
      refine ⟨((HKO.out.1.trans (KeepsOthers.setCell _ _ _)).trans (KeepsOthers.setCell _ _ _)).from _, rfl, ⟨?_, ?_⟩, ?_, pre, x, rfl, HV.out.2.2.2.2, HT.out⟩
      · rw [lastId_snoc]
        exact (Boxed.set (.int .u32 (x.1 : Nat)) HVV.out.1).other (by omega) _
      · exact Boxed.set (.bool true) HVV.out.2.2.1
      · exact (HVV.out.2.2.2.2).trans (hb2.below (by have := HVV.out.2.2.2.2.size; omega) fun k e => by omega)
    | false =>
      gi_wp2
      refine ⟨HKO.out.1.from _, HKO.out.2, ⟨⟨HVV.out.1, HVV.out.2.1⟩, HVV.out.2.2.2.1⟩, HVV.out.2.2.2.2, fun z hz => ?_⟩
      rcases List.mem_append.1 hz with hz | hz
      · exact HV.out.2.2.2.2 z hz
      · rw [List.mem_singleton.1 hz]
        exact HT.out
  case done =>
    rintro D xs W hD rfl ⟨⟨⟨hv4, hv5⟩, he⟩, hB1, hM⟩ hK
    have hm : lmatch xs ev = none := by
      unfold lmatch
      rw [List.find?_eq_none]
      exact fun y hy => by rw [hM y hy]; simp
    have v5b := hv5.other (B' := w.heap.size + 1) (by omega) (.int .u32 0)
    have c4 := hv4.cell
    have c5 := hv5.cell
    have c5b := v5b.cell
    have f4 := hv4.frozen
    have f5 := hv5.frozen
    have f5b := v5b.frozen
    gi_wp2
    have hK' := ((KeepsOthers.setCell W ⟨w.heap.size + 1, 0, none⟩ (.int .u32 0)).trans (KeepsOthers.setCell _ ⟨w.heap.size + 1 + 1, 0, none⟩ (.bool false))).same D _ hK rfl
    refine ⟨by simp, .inl ⟨_, _, rfl, run_takeDeferred hK', ?_⟩⟩
    have g4 := (((Boxed.set (.int .u32 0) hv4).other (B' := w.heap.size + 1 + 1) (by omega) (.bool false)).kept (grownBy_putObj' _ D (.deferred none)) (fun e => by have := Option.some.inj e; omega)).cell
    have g5 := ((Boxed.set (.bool false) v5b).kept (grownBy_putObj' _ D (.deferred none)) (fun e => by have := Option.some.inj e; omega)).cell
    have hb2 : But (fun b => b = w.heap.size + 1 ∨ b = w.heap.size + 1 + 1) W ((W.setCell ⟨w.heap.size + 1, 0, none⟩ (.int .u32 0)).setCell ⟨w.heap.size + 1 + 1, 0, none⟩ (.bool false)) := ((But.refl _ W).setCell (p := ⟨w.heap.size + 1, 0, none⟩) (.inl rfl) _).setCell (p := ⟨w.heap.size + 1 + 1, 0, none⟩) (.inr rfl) _
    refine ⟨.tuple #[.int .u32 0, .bool false], by simp [results, Try.results22, go_sem, g4, g5], by rw [hm]; rfl, ?_⟩
    exact ((hbw.trans hB1).trans (hb2.below (by have := (hbw.trans hB1).size; omega) fun k e => by omega)).trans (belowK_b (w := w) (Nat.le_refl _) _ D _ _ (by omega) hK' rfl rfl)
  case stop =>
    rintro D cd pre W hD hpre ⟨rfl, ⟨hv4, hv5⟩, hB1, p, x, rfl, hno, hyes⟩ hK
    rw [lastId_snoc] at hv4
    have hm : lmatch L ev = some x := by
      obtain ⟨s, hs⟩ := hpre
      unfold lmatch
      rw [← hs, List.append_assoc, List.find?_append, List.find?_eq_none.2 fun y hy => by rw [hno y hy]; simp]
      rw [Option.none_or]
      exact List.find?_cons_of_pos (p := fun x : On => bmat x.2 ev) hyes
    gi_wp2
    refine ⟨by simp, .inl ⟨_, _, rfl, run_takeDeferred hK, ?_⟩⟩
    have g4 := (hv4.kept (grownBy_putObj' _ D (.deferred none)) (fun e => by have := Option.some.inj e; omega)).cell
    have g5 := (hv5.kept (grownBy_putObj' _ D (.deferred none)) (fun e => by have := Option.some.inj e; omega)).cell
    refine ⟨.tuple #[.int .u32 (x.1 : Nat), .bool true], by simp [results, Try.results22, go_sem, g4, g5], by rw [hm]; rfl, ?_⟩
    exact (hbw.trans hB1).trans (belowK_b (w := w) (Nat.le_refl _) W D _ _ (by omega) hK rfl rfl)
/-- Copy: one in memory of its own -/
theorem copy_any {w : World} {G : Nat} {F : Nat → Prop} {L : List On} (h : Wt w G F L) : Calls Try.prog 11 #[.pointer (some ⟨G, 0, none⟩)] w (wT.New L w) := by
  obtain ⟨m, c0, -, -, h2⟩ := h.cell
  have HM : Hid ((m = none ∧ L = []) ∨ ∃ M, m = some M ∧ MapL w M L) := by
    rcases h2 with h2 | ⟨M, e, -, hM⟩
    · exact .inl h2
    · exact .inr ⟨M, e, hM⟩
  have HL : Hid (Wl L) := h.wl
  clear h h2
  go_enter Try.func11, Try.ntmps11
  go_wp2_with (go_at_call 29; refine (clone_any HM.out).mono ?_; rintro e w2 ⟨m', rfl, k1, k2⟩; have H2 := Lib.hid (And.intro k1 k2); clear k1 k2)
  go_ret
  obtain ⟨k1, k2⟩ := H2.out
  have hz := k2.size
  refine ⟨w2.heap.size, fun b => w.heap.size ≤ b ∧ b < w2.heap.size + 1, rfl, ⟨HL.out, ⟨hz, Nat.lt_succ_self _⟩, fun b e => by simpa using e.2, m', heap_alloc_new _ _, ?_⟩, fun b e => e.1, k2.alloc hz _⟩
  rcases k1 with ⟨-, e, e2, -⟩ | ⟨e, hM⟩
  · exact .inl ⟨e, e2⟩
  · exact .inr ⟨_, e, ⟨Nat.le_refl _, by have := hM.lt; omega⟩, hM.same (heap_alloc_old _ _ hM.lt)⟩
end Go.Proofs.Ytfonbompglddaaa
