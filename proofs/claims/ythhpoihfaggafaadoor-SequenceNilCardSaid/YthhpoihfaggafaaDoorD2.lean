/-
  The walks of the document's Same and Much.
-/
import Derived.Test.YthhpoihfaggafaaDoorD1
namespace Go.Proofs.YthhpoihfaggafaaDoor
open Go.RowKit CodM

/-- both programs lie boxed, at g and g + 1 -/
def Boxes (wb : World) (g : Nat) (x y : Int) (a b : Option Addr) (n m c d : Nat) : Prop :=
  wb.heap[g]? = some (.cells #[.int .i64 x, .slice a n c] 70) ∧ wb.heap[g + 1]? = some (.cells #[.int .i64 y, .slice b m d] 70)
theorem Boxes.mk' (w : World) (x y : Int) (a b : Option Addr) (n m c d : Nat) :
    Boxes ((w.alloc (.cells #[.int .i64 x, .slice a n c] 70)).alloc (.cells #[.int .i64 y, .slice b m d] 70)) w.heap.size x y a b n m c d := by
  refine ⟨(heap_alloc_old _ _ (by simp)).trans (heap_alloc_new _ _), ?_⟩
  have := heap_alloc_new (w.alloc (.cells #[.int .i64 x, .slice a n c] 70)) (.cells #[.int .i64 y, .slice b m d] 70)
  simpa using this
theorem Boxes.next {wb wr : World} {g : Nat} {x y : Int} {a b : Option Addr} {n m c d : Nat} (h : Boxes wb g x y a b n m c d) (hb : Below wb.heap.size wb wr) : Boxes wr g x y a b n m c d :=
  ⟨(hb.block _ (by rcases Nat.lt_or_ge g wb.heap.size with h' | h'; exact h'; have := h.1; rw [Array.getElem?_eq_none h'] at this; cases this)).trans h.1,
   (hb.block _ (by rcases Nat.lt_or_ge (g + 1) wb.heap.size with h' | h'; exact h'; have := h.2; rw [Array.getElem?_eq_none h'] at this; cases this)).trans h.2⟩
theorem Boxes.cells {wb : World} {g : Nat} {x y : Int} {a b : Option Addr} {n m c d : Nat} (h : Boxes wb g x y a b n m c d) :
    wb.cell? ⟨g, 1, none⟩ = some (.slice a n c) ∧ wb.cell? ⟨g + 1, 1, none⟩ = some (.slice b m d) :=
  ⟨by rw [cell_of_row _ _ _ _ _ _ h.1]; rfl, by rw [cell_of_row _ _ _ _ _ _ h.2]; rfl⟩

set_option maxHeartbeats 4000000 in
set_option maxRecDepth 100000 in
theorem rsame_any (w : World) (a b : Option Addr) (n m c d : Nat) (p q : Prg) (hp : ProgAt w a n p) (hq : ProgAt w b m q) :
    Calls Tryd.prog 29 #[.agg #[.int .i64 p.vars, .slice a n c], .agg #[.int .i64 q.vars, .slice b m d]] w (TellsBB (sameP p q) w) := by
  obtain ⟨x, ks⟩ := p
  obtain ⟨y, ls⟩ := q
  simp only
  have hnl : ks.length = n := hp.2.1
  have hnr : ls.length = m := hq.2.1
  have hmax := hp.2.2.1
  have hmax2 := hq.2.2.1
  by_cases he : x = y
  · subst he
    by_cases hnm : n = m
    · subst hnm
      obtain ⟨t, ht⟩ : ∃ t, t = sameP ⟨x, ks⟩ ⟨x, ls⟩ := ⟨_, rfl⟩
      rw [← ht]
      have HT := Lib.hid (show t = decide (ks = ls) from by rw [ht]; unfold sameP; simp)
      have HP := Lib.hid hp.2
      have HQ := Lib.hid hq.2
      have HNL := Lib.hid hnl
      have HNR := Lib.hid hnr
      clear ht hp hq hnl hnr hmax2
      go_enter Tryd.func29, Tryd.ntmps29
      go_wp2
      obtain ⟨wb, hwb⟩ : ∃ wb, wb = (w.alloc (.cells #[.int .i64 x, .slice a n c] 70)).alloc (.cells #[.int .i64 x, .slice b n d] 70) := ⟨_, rfl⟩
      have HB0 := Lib.hid (show Below w.heap.size w wb from by rw [hwb]; exact ((Below.refl _ _).alloc (Nat.le_refl _) _).alloc (by simp) _)
      have HBX := Lib.hid (show Boxes wb w.heap.size x x a b n n c d from by rw [hwb]; exact Boxes.mk' w x x a b n n c d)
      rw [← hwb]
      clear hwb
      go_loopw [5] (fun i wr => EqsRel wb n ks ls i wr) (fun i _ => n - (intOf i).toNat)
      case atStart => exact ⟨0, Nat.zero_le _, rfl, rfl, Below.refl _ _⟩
      case round =>
        obtain ⟨k, hk, rfl, htk, hbel⟩ := hrel
        have HTK := Lib.hid htk
        have HBEL := Lib.hid hbel
        clear htk hbel
        have HBW := Lib.hid (HB0.out.trans (HBEL.out.mono HB0.out.size))
        obtain ⟨q1, q2⟩ := (HBX.out.next HBEL.out).cells
        by_cases hlt : k < n
        · obtain ⟨B1, off1, a1, n1, d1, rfl, hB1, c1, l1, i1⟩ := HP.out.cell k hlt
          obtain ⟨B2, off2, a2, n2, d2, rfl, hB2, c2, l2, i2⟩ := HQ.out.cell k hlt
          have e1 := (HBW.out.cell (p := ⟨B1, off1 + k, none⟩) hB1).trans c1
          have e2 := (HBW.out.cell (p := ⟨B2, off2 + k, none⟩) hB2).trans c2
          have hm1 := i1.2.2.1
          have hm2 := i2.2.2.1
          have HC1 := Lib.hid c1
          have HC2 := Lib.hid c2
          obtain ⟨l, hl⟩ : ∃ l, l = ks.getD k [] := ⟨_, rfl⟩
          obtain ⟨r, hr⟩ : ∃ r, r = ls.getD k [] := ⟨_, rfl⟩
          rw [← hl] at i1
          rw [← hr] at i2
          have HI1 := Lib.hid i1
          have HI2 := Lib.hid i2
          have HL := Lib.hid hl
          have HR := Lib.hid hr
          clear i1 i2 c1 c2 hl hr
          by_cases hn12 : n1 = n2
          · subst hn12
            go_wp2
            go_quiet (fail)
            go_wp2
            clear q1 q2 e1 e2 hm2
            go_loopw [6] (fun i wr => EqRel wb n1 l r i wr) (fun i _ => n1 - (intOf i).toNat)
            case atStart => exact ⟨0, Nat.zero_le _, rfl, rfl, below_drewN HBEL.out _⟩
            case round =>
              obtain ⟨j, hj, rfl, htj, hbelj⟩ := hrel
              have HTJ := Lib.hid htj
              have HBELJ := Lib.hid hbelj
              clear htj hbelj
              have HBJ := Lib.hid (HB0.out.trans (HBELJ.out.mono HB0.out.size))
              obtain ⟨q1, q2⟩ := (HBX.out.next HBELJ.out).cells
              have e1 := (HBJ.out.cell (p := ⟨B1, off1 + k, none⟩) hB1).trans HC1.out
              have e2 := (HBJ.out.cell (p := ⟨B2, off2 + k, none⟩) hB2).trans HC2.out
              by_cases hltj : j < n1
              · obtain ⟨G1, of1, rfl, hG1, c1, c2⟩ := (HI1.out.below HBJ.out (Nat.le_refl _)).cell j hltj
                obtain ⟨G2, of2, rfl, hG2, c3, c4⟩ := (HI2.out.below HBJ.out (Nat.le_refl _)).cell j hltj
                obtain ⟨⟨o, u⟩, hx⟩ : ∃ x : Ins, x = l.getD j (0, 0) := ⟨_, rfl⟩
                obtain ⟨⟨v, y⟩, hy⟩ : ∃ x : Ins, x = r.getD j (0, 0) := ⟨_, rfl⟩
                rw [← hx] at c1 c2
                rw [← hy] at c3 c4
                have HX := Lib.hid hx
                have HY := Lib.hid hy
                clear hx hy
                simp only at c1 c2 c3 c4
                have hne := insNe o u v y
                have hgd := fun (op : BinOp) (x y : Operand) (xs ys : Array Value) (w : World) => run_eqGuard_agg (P := Tryd.prog) w op 66 x y xs ys insGuard
                by_cases he : o = v ∧ u = y
                · obtain ⟨rfl, rfl⟩ := he
                  have hne' : ∀ w, (binOp .neq 66 (.agg #[.int .i64 o, .int .i64 u]) (.agg #[.int .i64 o, .int .i64 u])).run Tryd.prog w = .ok (.bool false) w := fun w => by rw [hne]; simp
                  clear hne
                  go_wp2
                  go_quiet (fail)
                  go_wp2
                  go_roundw
                  case rel =>
                    exact ⟨j + 1, by omega, by go_num, take_eq_step l r j (0, 0) (by rw [HI1.out.1]; exact hltj) (by rw [HI2.out.1]; exact hltj) HTJ.out (by rw [← HX.out, ← HY.out]), below_drewN HBELJ.out _⟩
                  case measure => simp [intOf]; omega
                · have hne' : ∀ w, (binOp .neq 66 (.agg #[.int .i64 o, .int .i64 u]) (.agg #[.int .i64 v, .int .i64 y])).run Tryd.prog w = .ok (.bool true) w := fun w => by
                    rw [hne, show (decide (o = v) && decide (u = y)) = false from by simpa using he]; rfl
                  have HE := Lib.hid he
                  clear hne he
                  go_wp2
                  go_quiet (fail)
                  go_wp2
                  go_ret
                  refine ⟨?_, below_drewN HBJ.out _⟩
                  rw [HT.out, decide_eq_false (ne_at ks ls k [] (by rw [← HL.out, ← HR.out]; exact ne_at l r j (0, 0) (by rw [← HX.out, ← HY.out]; intro h; simp at h; exact HE.out h)))]
                  rfl
              · go_wp2
                go_roundw
                case rel =>
                  have h := HTJ.out
                  rw [List.take_of_length_le (by rw [HI1.out.1]; omega), List.take_of_length_le (by rw [HI2.out.1]; omega)] at h
                  exact ⟨k + 1, by omega, by go_num, take_eq_step ks ls k [] (by rw [HNL.out]; exact hlt) (by rw [HNR.out]; exact hlt) HTK.out (by rw [← HL.out, ← HR.out]; exact h), HBELJ.out⟩
                case measure => simp [intOf]; omega
          · have hd : (n1 != n2) = true := by simpa using hn12
            have HN12 := Lib.hid hn12
            clear hn12
            go_wp2
            go_quiet (fail)
            go_wp2
            go_ret
            refine ⟨?_, below_drewN HBW.out _⟩
            rw [HT.out, decide_eq_false (ne_at ks ls k [] (by rw [← HL.out, ← HR.out]; intro h; exact HN12.out (by rw [← HI1.out.1, ← HI2.out.1, h])))]
            rfl
        · go_wp2
          go_ret
          refine ⟨?_, HBW.out⟩
          have h := HTK.out
          rw [List.take_of_length_le (by rw [HNL.out]; omega), List.take_of_length_le (by rw [HNR.out]; omega)] at h
          rw [HT.out, decide_eq_true h]
          rfl
    · rw [show sameP ⟨x, ks⟩ ⟨x, ls⟩ = false from by unfold sameP; simp; intro h; exact hnm (by rw [← hnl, ← hnr, h])]
      clear hp hq hnl hnr
      have hd : (n != m) = true := by simpa using hnm
      go_enter Tryd.func29, Tryd.ntmps29
      go_wp2
      go_ret
      exact ⟨rfl, ((Below.refl _ _).alloc (Nat.le_refl _) _).alloc (by simp) _⟩
  · rw [show sameP ⟨x, ks⟩ ⟨y, ls⟩ = false from by unfold sameP; simp [he]]
    clear hp hq hnl hnr
    have hd : (x != y) = true := by simpa using he
    clear he
    go_enter Tryd.func29, Tryd.ntmps29
    go_wp2
    go_ret
    exact ⟨rfl, ((Below.refl _ _).alloc (Nat.le_refl _) _).alloc (by simp) _⟩
end Go.Proofs.YthhpoihfaggafaaDoor
