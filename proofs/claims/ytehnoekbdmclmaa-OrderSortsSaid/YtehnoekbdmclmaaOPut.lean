/-
  The walks of the document's Put and Sorted.
-/
import Derived.Test.YtehnoekbdmclmaaOSame
namespace Go.Proofs.Ytehnoekbdmclmaa
open Go Go.RowKit Go.Sort Go.Proofs

theorem EvOwn.mono {B B' : Nat} {w : World} {v : Value} {l : List Ev} (h : EvOwn B w v l) (hB : B' ≤ B) : EvOwn B' w v l := by
  obtain ⟨h1, h2 | ⟨g, cap, cur, e, hg, r⟩⟩ := h
  · exact ⟨h1, .inl h2⟩
  · exact ⟨h1, .inr ⟨g, cap, cur, e, Nat.le_trans hB hg, r⟩⟩
theorem EvOwn.next {B : Nat} {w w' : World} {v : Value} {l : List Ev} (h : EvOwn B w v l) (hb : Below w.heap.size w w') : EvOwn B w' v l := by
  obtain ⟨h1, h2 | ⟨g, cap, cur, e, hg, hh, r⟩⟩ := h
  · exact ⟨h1, .inl h2⟩
  · exact ⟨h1, .inr ⟨g, cap, cur, e, hg, (hb.block g (heap_lt' hh)).trans hh, r⟩⟩
theorem EvOwn.of {B n : Nat} {w : World} {v : Value} {l : List Ev} {xs : List Value} (h : w.ownsRow B 28 6 v n xs) (hn : n = l.length) (hx : xs = evCells l) : EvOwn B w v l := by subst hn; subst hx; exact h
theorem EvOwn.nil (B : Nat) (w : World) : EvOwn B w (.slice none 0 0) [] := World.ownsRow_nil _ _ _ _
theorem ev_news (w : World) (x : Ev) : ∀ j u, (encE x)[j]? = some u → (w.alloc (.cells (encE x).toArray 28)).cell? ((⟨w.heap.size, 0, none⟩ : Addr).add j) = some u := by
  intro j u hj
  have hh := heap_alloc_new w (.cells (encE x).toArray 28)
  rw [add_spot, Nat.zero_add, cell_of_row _ _ _ _ _ _ hh]
  simpa using hj
theorem evSort_take (l : List Ev) (k : Nat) (x : Ev) (h : l[k]? = some x) : evSort (l.take (k + 1)) = evPut (evSort (l.take k)) x := by
  unfold evSort StM.isort
  rw [List.take_add_one, h, List.foldl_append]
  rfl
/-- how far Put has come -/
def PutSt (l : List Ev) (x : Ev) (k : Nat) (dn : Bool) (o : List Ev) : Prop :=
  (dn = true ∧ o.length = k + 1 ∧ evPut l x = o ++ l.drop k) ∨ (dn = false ∧ o.length = k ∧ evPut l x = o ++ evPut (l.drop k) x)
theorem PutSt.len {l : List Ev} {x : Ev} {k : Nat} {dn : Bool} {o : List Ev} (h : PutSt l x k dn o) : o.length ≤ k + 1 := by
  rcases h with ⟨_, h, _⟩ | ⟨_, h, _⟩ <;> omega
theorem drop_at {l : List Ev} {k : Nat} {y : Ev} (h : l[k]? = some y) : l.drop k = y :: l.drop (k + 1) := by
  obtain ⟨hk, e⟩ := List.getElem?_eq_some_iff.1 h
  rw [List.drop_eq_getElem_cons hk, e]
theorem PutSt.on {l : List Ev} {x y : Ev} {k : Nat} {o : List Ev} (h : PutSt l x k true o) (hy : l[k]? = some y) : PutSt l x (k + 1) true (o ++ [y]) := by
  rcases h with ⟨_, h1, h2⟩ | ⟨h, _⟩
  · refine .inl ⟨rfl, by simp [h1], ?_⟩
    rw [h2, drop_at hy, List.append_assoc]
    rfl
  · cases h
theorem PutSt.pass {l : List Ev} {x y : Ev} {k : Nat} {o : List Ev} (h : PutSt l x k false o) (hy : l[k]? = some y) (hl : evLt x y = false) : PutSt l x (k + 1) false (o ++ [y]) := by
  rcases h with ⟨h, _⟩ | ⟨_, h1, h2⟩
  · cases h
  · refine .inr ⟨rfl, by simp [h1], ?_⟩
    rw [h2, drop_at hy, List.append_assoc]
    show o ++ StM.put evLt (y :: l.drop (k + 1)) x = _
    rw [StM.put, if_neg (by simp [hl])]
    rfl
theorem PutSt.lay {l : List Ev} {x y : Ev} {k : Nat} {o : List Ev} (h : PutSt l x k false o) (hy : l[k]? = some y) (hl : evLt x y = true) : PutSt l x k true (o ++ [x]) := by
  rcases h with ⟨h, _⟩ | ⟨_, h1, h2⟩
  · cases h
  · refine .inl ⟨rfl, by simp [h1], ?_⟩
    rw [h2, drop_at hy, List.append_assoc]
    show o ++ StM.put evLt (y :: l.drop (k + 1)) x = _
    rw [StM.put, if_pos hl]
    rfl
theorem PutSt.fin {l : List Ev} {x : Ev} {k : Nat} {o : List Ev} (h : PutSt l x k true o) (hk : l.length ≤ k) : evPut l x = o := by
  rcases h with ⟨_, _, h2⟩ | ⟨h, _⟩
  · rw [h2, List.drop_eq_nil_of_le hk, List.append_nil]
  · cases h
theorem PutSt.last {l : List Ev} {x : Ev} {k : Nat} {o : List Ev} (h : PutSt l x k false o) (hk : l.length ≤ k) : evPut l x = o ++ [x] := by
  rcases h with ⟨h, _⟩ | ⟨_, _, h2⟩
  · cases h
  · rw [h2, List.drop_eq_nil_of_le hk]
    rfl

set_option maxHeartbeats 4000000 in
set_option maxRecDepth 100000 in
theorem put_any (w : World) (a : Option Addr) (n c : Nat) (l : List Ev) (x0 x1 x2 x3 x4 x5 : Int) (hl : EvAt w a n l) (hn : n ≤ 1000) :
    Calls Try.prog 23 #[.slice a n c, .agg #[.int .i64 x0, .int .i64 x1, .int .i64 x2, .int .i64 x3, .int .i64 x4, .int .i64 x5]] w (EvTo (evPut l ((x0, x1, x2), x3, x4, x5)) w) := by
  obtain ⟨i0, hi, hz0, hz1, hz2⟩ := info_parts infoE
  have hlen := hl.1
  have HLEN := Lib.hid hlen
  obtain ⟨x, hx⟩ : ∃ x : Ev, x = ((x0, x1, x2), x3, x4, x5) := ⟨_, rfl⟩
  rw [← hx]
  have HX := Lib.hid hx
  have HB1 := Lib.hid (EBox.mk' w x0 x1 x2 x3 x4 x5)
  have HL1 := Lib.hid (hl.below ((Below.refl _ w).alloc (Nat.le_refl _) (.cells #[.int .i64 x0, .int .i64 x1, .int .i64 x2, .int .i64 x3, .int .i64 x4, .int .i64 x5] 28)))
  clear hlen hx hl
  go_enter Try.func23, Try.ntmps23
  go_wp2
  generalize hw1 : w.alloc (.cells #[.int .i64 x0, .int .i64 x1, .int .i64 x2, .int .i64 x3, .int .i64 x4, .int .i64 x5] 28) = w1 at HB1 HL1 ⊢
  have hs1 : w1.heap.size = w.heap.size + 1 := by rw [← hw1]; simp
  have HS1 := Lib.hid hs1
  clear hw1 hs1
  go_loopg [5, 6, 7] n (fun kx s5 s6 s7 wr => ∃ (k : Nat) (v : Value) (dn : Bool) (o : List Ev), v = s5 ∧ s6 = .bool dn ∧ s7 = .int .i64 k ∧ k ≤ n ∧ n - k ≤ kx ∧ Aside (Below w1.heap.size w1 wr ∧ EvOwn w1.heap.size wr v o ∧ PutSt l x k dn o))
  case atStart => exact ⟨0, .slice none 0 0, false, [], rfl, rfl, rfl, Nat.zero_le _, Nat.le_refl _, ⟨Below.refl _ _, EvOwn.nil _ _, .inr ⟨rfl, rfl, rfl⟩⟩⟩
  case round =>
    obtain ⟨k, v, dn, o, rfl, rfl, rfl, hk, hkx, A⟩ := hrel
    have hol := A.out.2.2.len
    have hsz : w1.heap.size ≤ wr.heap.size := A.out.1.size
    by_cases hlt : k < n
    · obtain ⟨B, off, rfl, hB, ⟨⟨y0, y1, y2⟩, y3, y4, y5⟩, hy, hc⟩ := HL1.out.cell hlt
      have HC := Lib.hid hc
      have HY := Lib.hid hy
      clear hc hy
      have q0 := fun p : InB wr => (HC.out.below (A.out.1.trans (p.h.mono hsz)) hB).1
      have q1 := fun p : InB wr => (HC.out.below (A.out.1.trans (p.h.mono hsz)) hB).2.1
      have q2 := fun p : InB wr => (HC.out.below (A.out.1.trans (p.h.mono hsz)) hB).2.2.1
      have q3 := fun p : InB wr => (HC.out.below (A.out.1.trans (p.h.mono hsz)) hB).2.2.2.1
      have q4 := fun p : InB wr => (HC.out.below (A.out.1.trans (p.h.mono hsz)) hB).2.2.2.2.1
      have q5 := fun p : InB wr => (HC.out.below (A.out.1.trans (p.h.mono hsz)) hB).2.2.2.2.2
      have r0 := fun p : InB wr => (HB1.out.next (A.out.1.trans (p.h.mono hsz))).cells.1
      have r1 := fun p : InB wr => (HB1.out.next (A.out.1.trans (p.h.mono hsz))).cells.2.1
      have r2 := fun p : InB wr => (HB1.out.next (A.out.1.trans (p.h.mono hsz))).cells.2.2.1
      have r3 := fun p : InB wr => (HB1.out.next (A.out.1.trans (p.h.mono hsz))).cells.2.2.2.1
      have r4 := fun p : InB wr => (HB1.out.next (A.out.1.trans (p.h.mono hsz))).cells.2.2.2.2.1
      have r5 := fun p : InB wr => (HB1.out.next (A.out.1.trans (p.h.mono hsz))).cells.2.2.2.2.2
      rcases dn with _ | _
      · obtain ⟨tl, htl⟩ : ∃ t, t = kLt (x0, x1, x2) (y0, y1, y2) := ⟨_, rfl⟩
        have HTL := Lib.hid htl
        clear htl
        rcases tl with _ | _
        · have HLT : Hid (kLt (x0, x1, x2) (y0, y1, y2) = false) := HTL.out.symm
          have HP : Hid (PutSt l x (k + 1) false (o ++ [((y0, y1, y2), y3, y4, y5)])) := A.out.2.2.pass HY.out (by rw [HX.out]; exact HLT.out)
          go_wp2_with fail
          refine wp_region_below (by kernel_rfl) (by kernel_rfl) ?_
          repeat (refine WQ.step (fun K hK => ?_); go_simp; first | (refine hK _ ?_; clear hK K) | (apply Exists.intro; refine ⟨fun _ => ?_, hK _ ?_⟩; (first | (go_at_call 7; exact inb_b (rless_is HLT.out _))); clear hK K))
          refine WQ.nil ?_
          intro _ hw'
          obtain ⟨pq, hw''⟩ := hw'
          subst hw''
          have HBP := Lib.hid (A.out.1.trans (pq.h.mono hsz))
          have HOP : Hid (EvOwn w1.heap.size pq.w v o) := A.out.2.1.next pq.h
          have hszp : w1.heap.size ≤ pq.w.heap.size := HBP.out.size
          go_wp2_with (first
            | (at_builtin; refine wpList_append_own _ rfl _ _ 33 rfl w1.heap.size 28 i0 _ 6 48 Try.underlying33 hi hz0 hz1 hz2 rfl (by decide) _ _ _ rfl (World.ownsRow.alloc HOP.out _) ⟨_, 0, none⟩ 1 1 (encE ((y0, y1, y2), y3, y4, y5)) rfl rfl (ev_news _ ((y0, y1, y2), y3, y4, y5)) (encE_one _) (by unfold maxLen; omega) (by omega) (by simp; omega) ?_; intro v3 w3 hown hgrow _; refine Hid.out ?_))
          have HO3 : Hid (EvOwn w1.heap.size w3 v3 (o ++ [((y0, y1, y2), y3, y4, y5)])) := EvOwn.of hown (by simp) (evCells_snoc _ _).symm
          have HB3 : Hid (Below w1.heap.size w1 w3) := (HBP.out.alloc (by have := HBP.out.size; omega) _).grown hgrow (by have := HBP.out.size; simp; omega) (fun k' hk' => (World.ownsRow.lt HOP.out k' hk').1)
          clear hown hgrow
          refine Lib.hid ?_
          go_wp2
          go_roundg (n - (k + 1))
          case measure => omega
          case rel => exact ⟨k + 1, v3, false, o ++ [((y0, y1, y2), y3, y4, y5)], rfl, rfl, by go_num, by omega, Nat.le_refl _, ⟨HB3.out, HO3.out, HP.out⟩⟩
        · have HLT : Hid (kLt (x0, x1, x2) (y0, y1, y2) = true) := HTL.out.symm
          have HP : Hid (PutSt l x k true (o ++ [((x0, x1, x2), x3, x4, x5)])) := by
            have h := A.out.2.2.lay HY.out (by rw [HX.out]; exact HLT.out)
            rw [HX.out] at h ⊢
            exact h
          go_wp2_with fail
          refine wp_region_below (by kernel_rfl) (by kernel_rfl) ?_
          repeat (refine WQ.step (fun K hK => ?_); go_simp; first | (refine hK _ ?_; clear hK K) | (apply Exists.intro; refine ⟨fun _ => ?_, hK _ ?_⟩; (first | (go_at_call 7; exact inb_b (rless_is HLT.out _))); clear hK K))
          refine WQ.nil ?_
          intro _ hw'
          obtain ⟨pq, hw''⟩ := hw'
          subst hw''
          have HBP := Lib.hid (A.out.1.trans (pq.h.mono hsz))
          have HOP : Hid (EvOwn w1.heap.size pq.w v o) := A.out.2.1.next pq.h
          have hszp : w1.heap.size ≤ pq.w.heap.size := HBP.out.size
          go_wp2_with (first
            | (at_builtin; refine wpList_append_own _ rfl _ _ 33 rfl w1.heap.size 28 i0 _ 6 48 Try.underlying33 hi hz0 hz1 hz2 rfl (by decide) _ _ _ rfl (World.ownsRow.alloc HOP.out _) ⟨_, 0, none⟩ 1 1 (encE ((x0, x1, x2), x3, x4, x5)) rfl rfl (ev_news _ ((x0, x1, x2), x3, x4, x5)) (encE_one _) (by unfold maxLen; omega) (by omega) (by simp; omega) ?_; intro v2 w2 hown hgrow _; refine Hid.out ?_))
          have HO2 : Hid (EvOwn w1.heap.size w2 v2 (o ++ [((x0, x1, x2), x3, x4, x5)])) := EvOwn.of hown (by simp) (evCells_snoc _ _).symm
          have HB2 : Hid (Below w1.heap.size w1 w2) := (HBP.out.alloc (by have := HBP.out.size; omega) _).grown hgrow (by have := HBP.out.size; simp; omega) (fun k' hk' => (World.ownsRow.lt HOP.out k' hk').1)
          clear hown hgrow
          obtain ⟨c0, c1, c2, c3, c4, c5⟩ := HC.out.below HB2.out hB
          have hsz2 : w1.heap.size ≤ w2.heap.size := HB2.out.size
          refine Lib.hid ?_
          go_wp2_with (first
            | (at_builtin; refine wpList_append_own _ rfl _ _ 33 rfl w1.heap.size 28 i0 _ 6 48 Try.underlying33 hi hz0 hz1 hz2 rfl (by decide) _ _ _ rfl (World.ownsRow.alloc HO2.out _) ⟨_, 0, none⟩ 1 1 (encE ((y0, y1, y2), y3, y4, y5)) rfl rfl (ev_news _ ((y0, y1, y2), y3, y4, y5)) (encE_one _) (by unfold maxLen; simp; omega) (by simp; omega) (by simp; omega) ?_; intro v3 w3 hown hgrow _; refine Hid.out ?_))
          have HO3 : Hid (EvOwn w1.heap.size w3 v3 ((o ++ [((x0, x1, x2), x3, x4, x5)]) ++ [((y0, y1, y2), y3, y4, y5)])) := EvOwn.of hown (by simp) (evCells_snoc _ _).symm
          have HB3 : Hid (Below w1.heap.size w1 w3) := (HB2.out.alloc (by have := HB2.out.size; omega) _).grown hgrow (by have := HB2.out.size; simp; omega) (fun k' hk' => (World.ownsRow.lt HO2.out k' hk').1)
          clear hown hgrow
          refine Lib.hid ?_
          go_wp2
          go_roundg (n - (k + 1))
          case measure => omega
          case rel => exact ⟨k + 1, v3, true, o ++ [((x0, x1, x2), x3, x4, x5)] ++ [((y0, y1, y2), y3, y4, y5)], rfl, rfl, by go_num, by omega, Nat.le_refl _, ⟨HB3.out, HO3.out, HP.out.on HY.out⟩⟩
      · have HP : Hid (PutSt l x (k + 1) true (o ++ [((y0, y1, y2), y3, y4, y5)])) := A.out.2.2.on HY.out
        go_wp2_with fail
        refine wp_region_below (by kernel_rfl) (by kernel_rfl) ?_
        repeat (refine WQ.step (fun K hK => ?_); go_simp; first | (refine hK _ ?_; clear hK K) | (apply Exists.intro; refine ⟨fun _ => ?_, hK _ ?_⟩; (fail); clear hK K))
        refine WQ.nil ?_
        intro _ hw'
        obtain ⟨pq, hw''⟩ := hw'
        subst hw''
        have HBP := Lib.hid (A.out.1.trans (pq.h.mono hsz))
        have HOP : Hid (EvOwn w1.heap.size pq.w v o) := A.out.2.1.next pq.h
        have hszp : w1.heap.size ≤ pq.w.heap.size := HBP.out.size
        go_wp2_with (first
          | (at_builtin; refine wpList_append_own _ rfl _ _ 33 rfl w1.heap.size 28 i0 _ 6 48 Try.underlying33 hi hz0 hz1 hz2 rfl (by decide) _ _ _ rfl (World.ownsRow.alloc HOP.out _) ⟨_, 0, none⟩ 1 1 (encE ((y0, y1, y2), y3, y4, y5)) rfl rfl (ev_news _ ((y0, y1, y2), y3, y4, y5)) (encE_one _) (by unfold maxLen; omega) (by omega) (by simp; omega) ?_; intro v3 w3 hown hgrow _; refine Hid.out ?_))
        have HO3 : Hid (EvOwn w1.heap.size w3 v3 (o ++ [((y0, y1, y2), y3, y4, y5)])) := EvOwn.of hown (by simp) (evCells_snoc _ _).symm
        have HB3 : Hid (Below w1.heap.size w1 w3) := (HBP.out.alloc (by have := HBP.out.size; omega) _).grown hgrow (by have := HBP.out.size; simp; omega) (fun k' hk' => (World.ownsRow.lt HOP.out k' hk').1)
        clear hown hgrow
        refine Lib.hid ?_
        go_wp2
        go_roundg (n - (k + 1))
        case measure => omega
        case rel => exact ⟨k + 1, v3, true, o ++ [((y0, y1, y2), y3, y4, y5)], rfl, rfl, by go_num, by omega, Nat.le_refl _, ⟨HB3.out, HO3.out, HP.out⟩⟩
    · have hkn : l.length ≤ k := by have := HLEN.out; omega
      have HKN := Lib.hid hkn
      clear hkn
      rcases dn with _ | _
      · obtain ⟨c0, c1, c2, c3, c4, c5⟩ := (HB1.out.next A.out.1).cells
        have HOA : Hid (EvOwn w1.heap.size wr v o) := A.out.2.1
        have HBA : Hid (Below w1.heap.size w1 wr) := A.out.1
        go_wp2_with (first
          | (at_builtin; refine wpList_append_own _ rfl _ _ 33 rfl w1.heap.size 28 i0 _ 6 48 Try.underlying33 hi hz0 hz1 hz2 rfl (by decide) _ _ _ rfl (World.ownsRow.alloc HOA.out _) ⟨_, 0, none⟩ 1 1 (encE ((x0, x1, x2), x3, x4, x5)) rfl rfl (ev_news _ ((x0, x1, x2), x3, x4, x5)) (encE_one _) (by unfold maxLen; omega) (by omega) (by simp; omega) ?_; intro v3 w3 hown hgrow _; refine Hid.out ?_))
        have HO3 : Hid (EvOwn w1.heap.size w3 v3 (o ++ [((x0, x1, x2), x3, x4, x5)])) := EvOwn.of hown (by simp) (evCells_snoc _ _).symm
        have HB3 : Hid (Below w1.heap.size w1 w3) := (HBA.out.alloc (by have := HBA.out.size; omega) _).grown hgrow (by have := HBA.out.size; simp; omega) (fun k' hk' => (World.ownsRow.lt HOA.out k' hk').1)
        clear hown hgrow
        refine Lib.hid ?_
        go_wp2
        go_ret
        refine ⟨v3, rfl, ?_, HB1.out.bel.trans (HB3.out.mono HB1.out.bel.size)⟩
        rw [A.out.2.2.last HKN.out, HX.out]
        exact HO3.out.mono HB1.out.bel.size
      · go_wp2
        go_ret
        refine ⟨v, rfl, ?_, HB1.out.bel.trans (A.out.1.mono HB1.out.bel.size)⟩
        rw [A.out.2.2.fin HKN.out]
        exact A.out.2.1.mono HB1.out.bel.size
end Go.Proofs.Ytehnoekbdmclmaa
