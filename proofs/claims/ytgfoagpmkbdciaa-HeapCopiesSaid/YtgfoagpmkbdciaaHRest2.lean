/-
  The walks of the document's Take, Same, Copy.
-/
import Derived.Test.YtgfoagpmkbdciaaHRest
import Derived.Test.YtgfoagpmkbdciaaHTwoT
namespace Go.Proofs.Ytgfoagpmkbdciaa
open Go Go.Shelf Go.RowKit Go.Lib Go.Sort Go.Proofs HpM

theorem RfS.wide {w : World} {R : Nat} {S T : Nat → Prop} {L : List It} (h : RfS w R S L) (h1 : ∀ b, S b → T b) (h2 : ∀ b, T b → b < w.heap.size) : RfS w R T L := by
  obtain ⟨v, hR, hO, hSR, hSl, hSB⟩ := h
  exact ⟨v, hR, hO, h1 _ hSR, h2, fun b e => ⟨h1 _ (hSB b e).1, (hSB b e).2⟩⟩
theorem RfS.lt {w : World} {R : Nat} {S : Nat → Prop} {L : List It} (h : RfS w R S L) : ∀ b, S b → b < w.heap.size := by
  obtain ⟨v, hR, hO, hSR, hSl, hSB⟩ := h
  exact hSl
theorem rf_next {w w1 w3 W : World} {R : Nat} {S : Nat → Prop} {L : List It} {v : Value} (hb : Below w.heap.size w w1) (hs : w.heap.size < w1.heap.size) (hl : ∀ b, S b → b < w.heap.size) (k : RfS w3 R (Ext S w1 w3) L) (k2 : But S w1 w3) (hB : But (fun b => b = w.heap.size) w3 W) : RfTo v R S L w (.returned v) W := by
  have hz := k2.size
  have hz2 := hB.size
  refine ⟨rfl, (k.but hB fun b e => ?_).wide (fun b e => ?_) fun b e => ?_, ((But.of hb).trans k2).next hB fun j hj e => by omega⟩
  · rcases e with e | e
    · have := hl b e
      omega
    · have := e.1
      omega
  · rcases e with e | e
    · exact .inl e
    · exact .inr ⟨by omega, by omega⟩
  · rcases e with e | e
    · have := hl b e
      omega
    · exact e.2

theorem rtake0 (w : World) (R : Nat) (S : Nat → Prop) (h : RfS w R S []) : Calls Try.prog 25 #[.pointer (some ⟨R, 0, none⟩)] w (ItTo itZ false w) := by
  have HH : Hid (RfS (w.alloc ItZO) R S []) := h.below ((Below.refl _ _).alloc (Nat.le_refl _) _)
  have HBZ : Hid ((w.alloc ItZO).heap[w.heap.size]? = some ItZO) := heap_alloc_new _ _
  have HSZ : Hid ((w.alloc ItZO).heap.size = w.heap.size + 1) := by show _ = _; simp
  clear h
  go_enter Try.func25, Try.ntmps25
  go_wp2_with (go_at_call 26; refine (rleast0 _ R S HH.out).mono ?_; rintro e w1 ⟨rfl, hb1⟩; have HB1 := Lib.hid hb1; obtain ⟨x0, x1, x2, x3, x4, x5, x6, f0, f1, f2, f3, f4, f5, f6⟩ := box_alloc (x := itZ) ((hb1.block _ (by have := HSZ.out; omega)).trans HBZ.out); clear hb1)
  refine bodyPost_ret (v := .tuple #[ItV itZ, .bool false]) (by simp [results, Try.results25, go_sem, itZ, x0, x1, x2, x3, x4, x5, x6]) rfl ⟨rfl, ?_⟩
  have hb := ((Below.refl w.heap.size w).alloc (Nat.le_refl _) ItZO).trans (HB1.out.mono (by have := HSZ.out; omega))
  exact below_set7 (hb.alloc hb.size _) (Nat.le_refl _) _ _ _ _ _ _ _
set_option maxHeartbeats 1000000 in
theorem rtake1 (w : World) (R : Nat) (S : Nat → Prop) (x : It) (t : List It) (h : RfS w R S (x :: t)) (hl : (x :: t).length ≤ 2000) : Calls Try.prog 25 #[.pointer (some ⟨R, 0, none⟩)] w (RfTo (.tuple #[ItV x, .bool true]) R S t w) := by
  have HH : Hid (RfS (w.alloc ItZO) R S (x :: t)) := h.below ((Below.refl _ _).alloc (Nat.le_refl _) _)
  have HLT := Lib.hid h.lt
  have HBZ : Hid ((w.alloc ItZO).heap[w.heap.size]? = some ItZO) := heap_alloc_new _ _
  have HSZ : Hid ((w.alloc ItZO).heap.size = w.heap.size + 1) := by show _ = _; simp
  have HL := Lib.hid hl
  have HL2 : Hid ((x :: t).length ≤ 1000000) := by show _ ≤ _; omega
  clear h hl
  go_enter Try.func25, Try.ntmps25
  go_wp2_with (first
    | (go_at_call 26; refine (rleast1 _ R S x t HH.out HL2.out).mono ?_; rintro e w1 ⟨rfl, hb1⟩; have HB1 := Lib.hid hb1; clear hb1)
    | (go_at_call 18; refine (rdrop_some (w1.alloc (ItO x)) R S (x :: t) _ _ 0 x (HH.out.below (HB1.out.alloc HB1.out.size _)) HL.out rfl rfl (fun j y hj => absurd hj (Nat.not_lt_zero _))).mono ?_; rintro e w3 ⟨rfl, h3, hb3⟩; have H3 := Lib.hid (And.intro h3 hb3); clear h3 hb3; refine Hid.out ?_))
  have hs1 : w.heap.size + 1 ≤ w1.heap.size := by have := HB1.out.size; have := HSZ.out; omega
  have e1 : w1.heap[w.heap.size]? = some ItZO := (HB1.out.block _ (by have := HSZ.out; omega)).trans HBZ.out
  have e2 : w3.heap[w.heap.size]? = some (ItO itZ) := (H3.out.2.block _ (by simp; omega) (fun e => by have := HLT.out _ e; omega)).trans ((heap_alloc_old _ _ (by omega)).trans e1)
  have e3 : w3.heap[w1.heap.size]? = some (ItO x) := (H3.out.2.block _ (by simp) (fun e => by have := HLT.out _ e; omega)).trans (heap_alloc_new _ _)
  obtain ⟨x0, x1, x2, x3, x4, x5, x6, f0, f1, f2, f3, f4, f5, f6⟩ := box_here e2
  obtain ⟨y0, y1, y2, y3, y4, y5, y6, -, -, -, -, -, -, -⟩ := box_here e3
  have HE := Lib.hid hs1
  clear e1 e2 e3 hs1
  refine Lib.hid ?_
  go_wp2
  refine bodyPost_ret (v := .tuple #[ItV x, .bool true]) (by simp [results, Try.results25, go_sem, x0, x1, x2, x3, x4, x5, x6]) rfl ?_
  refine rf_next (w1 := w1.alloc (ItO x)) ?_ (by have := HE.out; simp; omega) HLT.out H3.out.1 H3.out.2 (but_set7 _ _ _ _ _ _ _ _ _)
  exact (((Below.refl w.heap.size w).alloc (Nat.le_refl _) ItZO).trans (HB1.out.mono (by have := HSZ.out; omega))).alloc (by have := HE.out; omega) _

theorem eq_of_gets {l r : List It} {n : Nat} (hl : l.length = n) (hr : r.length = n) (h : ∀ j, j < n → l[j]? = r[j]?) : l = r := by
  refine List.ext_getElem? fun j => ?_
  by_cases hj : j < n
  · exact h j hj
  · rw [List.getElem?_eq_none (by omega), List.getElem?_eq_none (by omega)]
set_option maxHeartbeats 2000000 in
theorem rsame_any (w : World) (a b : Option Addr) (n m c e : Nat) (l r : List It) (hl : ItAt w a n l) (hr : ItAt w b m r) : Calls Try.prog 14 #[.slice a n c, .slice b m e] w (GwV (.bool (decide (l = r))) w) := by
  have mixed : Try.prog.follows .mixedOrders = true := by kernel_rfl
  obtain ⟨t, ht⟩ : ∃ t, t = decide (l = r) := ⟨_, rfl⟩
  rw [← ht]
  have HT := Lib.hid ht
  have HL := Lib.hid hl
  have HR := Lib.hid hr
  have hn2 := hl.2.1
  have hgd := fun (op : BinOp) (x y : Operand) (xs ys : Array Value) (w : World) => run_eqGuard_agg (P := Try.prog) w op 36 x y xs ys itGuard
  clear ht hl hr
  by_cases hnm : n = m
  · subst hnm
    go_enter Try.func14, Try.ntmps14
    go_wp2
    go_loopg [5] n (fun kx s5 wr => ∃ i : Nat, s5 = .int .i64 i ∧ i ≤ n ∧ n - i ≤ kx ∧ Aside (Gw w wr ∧ ∀ j, j < i → l[j]? = r[j]?))
    case atStart => exact ⟨0, by go_num, Nat.zero_le _, Nat.le_refl _, ⟨Gw.refl _, fun j hj => absurd hj (Nat.not_lt_zero _)⟩⟩
    case round =>
      obtain ⟨i, rfl, hin, hkx, A⟩ := hrel
      by_cases hlt : i < n
      · have hlz : decide ((i : Int) < (n : Int)) = true := by simpa using hlt
        have hiz : (i : Int) < (n : Int) := by omega
        obtain ⟨B, off, rfl, hB, x, hx, hc⟩ := (HL.out.below A.out.1.below).cell hlt
        obtain ⟨B', off', rfl, hB', y, hy, hc'⟩ := (HR.out.below A.out.1.below).cell hlt
        obtain ⟨x0, x1, x2, x3, x4, x5, x6⟩ := hc.seven
        obtain ⟨y0, y1, y2, y3, y4, y5, y6⟩ := hc'.seven
        have HX := Lib.hid (And.intro hx hy)
        clear hc hc' hx hy hB hB'
        by_cases hxy : x = y
        · subst hxy
          have hne : ∀ w, (binOp .neq 36 (ItV x) (ItV x)).run Try.prog w = .ok (.bool false) w := fun w => by rw [itNe]; simp
          go_wp2_with fail
          go_region
          all_goals
            go_wp2
            go_roundg (n - (i + 1))
            case measure => omega
            case rel =>
              refine ⟨i + 1, by go_num, by omega, Nat.le_refl _, ⟨A.out.1.drew, fun j hj => ?_⟩⟩
              by_cases e2 : j = i
              · subst e2
                exact HX.out.1.trans HX.out.2.symm
              · exact A.out.2 j (by omega)
        · have hne : ∀ w, (binOp .neq 36 (ItV x) (ItV y)).run Try.prog w = .ok (.bool true) w := fun w => by rw [itNe]; simp [hxy]
          have HNE := Lib.hid hxy
          clear hxy
          go_wp2_with fail
          go_region
          all_goals
            go_wp2
            go_ret
            have hlr : l ≠ r := fun e2 => by
              have h1 := HX.out.1
              rw [e2] at h1
              exact HNE.out (Option.some.inj (h1.symm.trans HX.out.2))
            refine ⟨?_, A.out.1.drew⟩
            rw [HT.out, decide_eq_false hlr]
            rfl
      · have hlz : decide ((i : Int) < (n : Int)) = false := by simp; omega
        obtain rfl : i = n := by omega
        go_wp2
        go_ret
        refine ⟨?_, A.out.1⟩
        rw [HT.out, decide_eq_true (eq_of_gets HL.out.1 HR.out.1 A.out.2)]
        rfl
  · have hd : ((n : Int) != (m : Int)) = true := bne_iff_ne.2 (by omega)
    have HNE := Lib.hid hnm
    clear hnm
    go_enter Try.func14, Try.ntmps14
    go_wp2
    go_ret
    refine ⟨?_, Gw.refl _⟩
    have hlr : l ≠ r := fun e2 => HNE.out (by rw [← HL.out.1, ← HR.out.1, e2])
    rw [HT.out, decide_eq_false hlr]
    rfl

theorem wpList_append_nil {ops : Array Oper} {rest : List Oper} {o : Oper} {a : Act} {w : World} {Q : Exit → Act → World → Prop} (hgd : o.guard = none) (s x : Operand)
    (ho : o.op = .call { callee := .builtin .append, args := #[s, x], argTypes := #[27, 27] })
    (base : Nat) (v : Value) (l : List It) (hs : a.eval s = v) (hown : ItOwn base w v l) (hx : a.eval x = .slice none 0 0) (h : wpList Try.prog ops Q rest (a.put o.dst v) w) : wpList Try.prog ops Q (o :: rest) a w :=
  wpList_plain hgd fun _ hK => by
    obtain ⟨i, hi, hz0, hz1, hz2⟩ := info_parts infoI
    have hrun := run_append_owned_none (P := Try.prog) (w := w) base 27 o.type 36 i 7 Try.underlying27 hi v l.length (itCells l) hown
    unfold Oper.wp execOp
    simp only [ho, resolve, invoke, builtin, Sem.run_bind, Sem.run_pure, Result.andThen_ok, List.map_toArray, List.map_cons, List.map_nil, hs, hx, hrun]
    exact hK _ _ h
/-- a document's heap of the same list, in memory of its own -/
def RCopyTo (L : List It) (w : World) (e : Ending) (w' : World) : Prop := ∃ R2 S2, e = .returned (.pointer (some ⟨R2, 0, none⟩)) ∧ RfS w' R2 S2 L ∧ (∀ b, S2 b → w.heap.size ≤ b) ∧ Below w.heap.size w w'
theorem rcopy_end {w w1 : World} {L : List It} {v : Value} (ho : ItOwn w.heap.size w1 v L) (hb : Below w.heap.size w w1) : RCopyTo L w (.returned (.pointer (some ⟨w1.heap.size, 0, none⟩))) (w1.alloc (.cells #[v] 29)) := by
  have hs := hb.size
  refine ⟨_, fun b => w.heap.size ≤ b ∧ b < w1.heap.size + 1, rfl, ⟨v, heap_alloc_new _ _, (ho.mono (Nat.zero_le _)).but' ((But.refl (fun _ => False) w1).alloc _) (fun _ _ e => e), ⟨hs, by omega⟩, fun b e => by simpa using e.2, fun b e => ?_⟩, fun b e => e.1, hb.alloc hs _⟩
  have := ho.lt b e
  exact ⟨⟨this.1, by omega⟩, by omega⟩
set_option maxHeartbeats 1000000 in
theorem rcopy_any (w : World) (R : Nat) (S : Nat → Prop) (L : List It) (h : RfS w R S L) (hl : L.length ≤ 10000) : Calls Try.prog 12 #[.pointer (some ⟨R, 0, none⟩)] w (RCopyTo L w) := by
  obtain ⟨a, n, c, hR, hn0, hnc, hA, hsome⟩ := h.open (by omega)
  have r0 : w.cell? ⟨R, 0, none⟩ = some (.slice a n c) := by rw [cell_of_row _ _ _ _ _ _ hR]; rfl
  have HA := Lib.hid hA
  have HN := Lib.hid hn0
  have HL := Lib.hid hl
  clear h hl hR hnc hA
  rcases hsome with ⟨rfl, rfl, rfl⟩ | ⟨g, rfl, -, -⟩
  · have h0 : n = 0 := hn0
    subst h0
    clear hn0
    go_enter Try.func12, Try.ntmps12
    go_wp2_with (at_builtin; refine wpList_append_nil rfl _ _ rfl 0 (.slice none 0 0) [] rfl (World.ownsRow_nil _ _ _ _) rfl ?_)
    go_ret
    exact rcopy_end (World.ownsRow_nil _ _ _ _) (Below.refl _ _)
  · clear hn0
    go_enter Try.func12, Try.ntmps12
    go_wp2_with (at_builtin; refine wpList_append_it rfl _ _ rfl w.heap.size (.slice none 0 0) [] rfl (World.ownsRow_nil _ _ _ _) ⟨g, 0, none⟩ n c L rfl HN.out HA.out.news (by have := HL.out; have := HN.out; simp only [List.length_nil]; omega) (Nat.le_refl _) ?_)
    intro v' w1 hown hgrow _
    obtain ⟨a2, n2, c2, rfl⟩ := hown.shape
    have HOWN := Lib.hid hown
    have HG := Lib.hid hgrow
    clear hown hgrow r0
    go_wp2
    go_ret
    refine rcopy_end HOWN.out ((But.grown HG.out).below (Nat.le_refl _) fun k e => ?_)
    cases e
end Go.Proofs.Ytgfoagpmkbdciaa
