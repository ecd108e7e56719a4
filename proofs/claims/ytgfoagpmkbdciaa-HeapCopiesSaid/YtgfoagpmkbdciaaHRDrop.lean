/-
  The walk of the document's Drop.
-/
import Derived.Test.YtgfoagpmkbdciaaHRef
namespace Go.Proofs.Ytgfoagpmkbdciaa
open Go Go.Shelf Go.RowKit Go.Lib Go.Sort Go.Proofs HpM

theorem rf_end2 {w w5 w' : World} {R : Nat} {S : Nat → Prop} {L L' : List It} {v v5 : Value} (h : RfS w R S L) (hb : Below w.heap.size w w5) (ho : ItOwn (w.heap.size + 1) w5 v5 L') (hB : But (fun b => b = w.heap.size) (w5.setCell ⟨R, 0, none⟩ v5) w') : RfTo v R S L' w (.returned v) w' := by
  obtain ⟨u, hR, hO, hSR, hSl, hSB⟩ := h
  have hRl := hSl _ hSR
  have h5 : w5.heap[R]? = some (.cells #[u] 29 (0, 0)) := (hb.block R hRl).trans hR
  have hs := heap_setCell_same w5 R 0 _ _ v5 h5
  have hbs : But S w (w5.setCell ⟨R, 0, none⟩ v5) := (But.of hb).setCell hSR _
  have hne : ∀ b, v5.ownBlock = some b → b ≠ R := fun b e e2 => by have := (ho.lt b e).1; omega
  have hbw : But S w w' := hbs.next hB fun j hj e => by omega
  have hlt : ∀ b, v5.ownBlock = some b → b < w'.heap.size := fun b e => by
    have h1 := (ho.lt b e).2
    have h2 : (w5.setCell ⟨R, 0, none⟩ v5).heap.size = w5.heap.size := by simp [World.setCell]
    have := hB.size
    omega
  refine ⟨rfl, ⟨v5, ?_, ((ho.mono (Nat.zero_le _)).but' ((But.refl (fun b => b = R) w5).setCell rfl _) (fun b e => hne b e)).but' hB fun b e e2 => ?_, .inl hSR, fun b hb' => ?_, fun b e => ⟨.inr ⟨by have := (ho.lt b e).1; omega, hlt b e⟩, hne b e⟩⟩, hbw⟩
  · rw [hB.block R (Array.getElem?_eq_some_iff.1 hs).1 (by omega), hs]
    simp
  · have := (ho.lt b e).1
    omega
  · rcases hb' with e | e
    · exact Nat.lt_of_lt_of_le (hSl b e) hbw.size
    · exact e.2
theorem but_set7 (w : World) (R : Nat) (v0 v1 v2 v3 v4 v5 v6 : Value) :
    But (fun b => b = R) w (((((((w.setCell ⟨R, 0, none⟩ v0).setCell ⟨R, 1, none⟩ v1).setCell ⟨R, 2, none⟩ v2).setCell ⟨R, 3, none⟩ v3).setCell ⟨R, 4, none⟩ v4).setCell ⟨R, 5, none⟩ v5).setCell ⟨R, 6, none⟩ v6) :=
  (((((((But.refl (fun b => b = R) w).setCell (p := ⟨R, 0, none⟩) rfl v0).setCell (p := ⟨R, 1, none⟩) rfl v1).setCell (p := ⟨R, 2, none⟩) rfl v2).setCell (p := ⟨R, 3, none⟩) rfl v3).setCell (p := ⟨R, 4, none⟩) rfl v4).setCell (p := ⟨R, 5, none⟩) rfl v5).setCell (p := ⟨R, 6, none⟩) rfl v6

set_option maxHeartbeats 1000000 in
theorem rdrop_none (w : World) (R : Nat) (S : Nat → Prop) (L : List It) (p q : Int) (h : RfS w R S L) (hl : L.length ≤ 1000000) (hn : ∀ y ∈ L, nm y ≠ (p, q)) : Calls Try.prog 18 #[.pointer (some ⟨R, 0, none⟩), .int .i64 p, .int .i64 q] w (ItTo itZ false w) := by
  have HH : Hid (RfS (w.alloc ItZO) R S L) := h.below ((Below.refl _ _).alloc (Nat.le_refl _) _)
  have HN := Lib.hid hn
  clear h hn
  go_enter Try.func18, Try.ntmps18
  go_wp2_with (go_at_call 29; refine (of_any _ R S L p q HH.out hl).mono ?_; rintro e w1 ⟨r, rfl, hr, rfl⟩; obtain rfl := hr.none HN.out; clear hr)
  exact bodyPost_ret (v := .tuple #[ItV itZ, .bool false]) (by simp [results, Try.results18, go_sem, itZ]) rfl ⟨rfl, (Below.refl _ _).alloc (Nat.le_refl _) _⟩
set_option maxHeartbeats 4000000 in
set_option maxRecDepth 100000 in
theorem rdrop_some (w : World) (R : Nat) (S : Nat → Prop) (L : List It) (p q : Int) (i : Nat) (x : It) (h : RfS w R S L) (hl : L.length ≤ 2000) (hx : L[i]? = some x) (hn : nm x = (p, q)) (hf : ∀ (j : Nat) (y : It), j < i → L[j]? = some y → nm y ≠ (p, q)) :
    Calls Try.prog 18 #[.pointer (some ⟨R, 0, none⟩), .int .i64 p, .int .i64 q] w (RfTo (.tuple #[ItV x, .bool true]) R S (L.take i ++ L.drop (i + 1)) w) := by
  have mixed : Try.prog.follows .mixedOrders = true := by kernel_rfl
  have hl2 : L.length ≤ 1000000 := by omega
  have HH : Hid (RfS (w.alloc ItZO) R S L) := h.below ((Below.refl _ _).alloc (Nat.le_refl _) _)
  have H0 := Lib.hid h
  obtain ⟨a, n, c, hR, hn0, hnc, hA, hsome⟩ := HH.out.open hl2
  have hin : i < n := by rw [hn0]; exact (List.getElem?_eq_some_iff.1 hx).1
  obtain ⟨B, rfl, hSB, hBR⟩ : ∃ B, a = some ⟨B, 0, none⟩ ∧ S B ∧ B ≠ R := by
    rcases hsome with ⟨_, e, _⟩ | h
    · rw [e] at hn0
      simp at hn0
      omega
    · exact h
  have r0 : (w.alloc ItZO).cell? ⟨R, 0, none⟩ = some (.slice (some ⟨B, 0, none⟩) n c) := by rw [cell_of_row _ _ _ _ _ _ hR]; rfl
  have hc : ItCell (w.alloc ItZO) B (i * 7) x := by
    obtain ⟨B', off, e, _, y, hy, hc⟩ := hA.cell hin
    cases e
    rw [hx] at hy
    cases hy
    rwa [Nat.zero_add] at hc
  obtain ⟨x0, x1, x2, x3, x4, x5, x6⟩ := hc.seven
  have hiz : (i : Int) < (n : Int) := by omega
  have hbig : i < 1000000 := by omega
  have HOF : Hid (∀ r, OfIs L (p, q) r → r = i) := fun r hr => by
    obtain ⟨j, y, hy, e, hj, rfl⟩ := hr.some ⟨x, List.mem_of_getElem? hx, hn⟩
    rcases Nat.lt_trichotomy i j with hlt | rfl | hlt
    · exact absurd hn (hj i x hlt hx)
    · rfl
    · exact absurd e (hf j y hlt hy)
  have HA := Lib.hid hA
  have HR := Lib.hid hR
  have HNC := Lib.hid hnc
  have HN0 := Lib.hid hn0
  have HL2 := Lib.hid hl2
  have HL4 := Lib.hid hl
  have hbz : (w.alloc ItZO).heap[w.heap.size]? = some ItZO := heap_alloc_new _ _
  have HBZ := Lib.hid hbz
  clear h hl hx hn hf hl2 hR hn0 hnc hA hsome hc hbz
  go_enter Try.func18, Try.ntmps18
  go_wp2_with (go_at_call 29; refine (of_any _ R S L p q HH.out HL2.out).mono ?_; rintro e w1 ⟨r, rfl, hr, rfl⟩; obtain rfl := HOF.out r hr; clear hr)
  obtain ⟨w1, hw1⟩ : ∃ w1, w1 = (w.alloc ItZO).alloc (ItO x) := ⟨_, rfl⟩
  have hs0 : (w.alloc ItZO).heap.size = w.heap.size + 1 := by simp
  have hb01 : Below w.heap.size w (w.alloc ItZO) := (Below.refl _ _).alloc (Nat.le_refl _) _
  have hb1 : Below (w.alloc ItZO).heap.size (w.alloc ItZO) w1 := hw1 ▸ (Below.refl _ _).alloc (Nat.le_refl _) _
  have HB1 : Hid (Below w.heap.size w w1) := hb01.trans (hb1.mono (by omega))
  have HR1 : Hid (w1.heap[R]? = some (.cells #[.slice (some ⟨B, 0, none⟩) n c] 29 (0, 0))) := (hb1.block _ (Array.getElem?_eq_some_iff.1 HR.out).1).trans HR.out
  have HA1 : Hid (ItAt w1 (some ⟨B, 0, none⟩) n L) := HA.out.below hb1
  have HBX : Hid (w1.heap[w.heap.size]? = some (ItO itZ) ∧ w1.heap[w.heap.size + 1]? = some (ItO x)) := by
    refine ⟨(hb1.block _ (by omega)).trans HBZ.out, ?_⟩
    rw [hw1, ← hs0]
    exact heap_alloc_new _ _
  have hRl : R < w.heap.size := by
    obtain ⟨u, hR, _⟩ := H0.out
    exact (Array.getElem?_eq_some_iff.1 hR).1
  have hs1 : w1.heap.size = w.heap.size + 1 + 1 := by rw [hw1]; simp
  have HLTS : Hid (w.heap.size ≠ R ∧ w.heap.size < w1.heap.size ∧ w.heap.size + 1 ≠ R ∧ w.heap.size + 1 < w1.heap.size) := by refine ⟨?_, ?_, ?_, ?_⟩ <;> omega
  have HN4 : Hid (n ≤ 2000) := by show _ ≤ _; rw [HN0.out]; exact HL4.out
  rw [← hw1]
  clear hw1 hs0 hb01 hb1 hRl hs1 r0 x0 x1 x2 x3 x4 x5 x6 HH
  obtain ⟨m, hm⟩ : ∃ m, m = i + 1 := ⟨_, rfl⟩
  have hmi : (i : Int) + 1 = (m : Int) := by omega
  have him : i ≤ m := by omega
  have hmn : m ≤ n := by omega
  have hmc : m ≤ c := by have := HNC.out; omega
  rw [← hm]
  have HM := Lib.hid hm
  have hmw : IntKind.i64.wrap (m : Int) = (m : Int) := by have := HN4.out; rw [IntKind.wrap_i64]; omega
  clear hm
  by_cases hck : c = m
  · have hnc : n = m := by have := HNC.out; omega
    obtain rfl : m = c := hck.symm
    obtain rfl : m = n := hnc.symm
    have hcl : w1.cell? ⟨R, 0, none⟩ = some (.slice (some ⟨B, 0, none⟩) m m) := by rw [cell_of_row _ _ _ _ _ _ HR1.out]; rfl
    have HRB : Hid (∀ W, Below w1.heap.size w1 W → W.heap[R]? = some (.cells #[.slice (some ⟨B, 0, none⟩) m m] 29 (0, 0))) := fun W hb => (hb.block _ (Array.getElem?_eq_some_iff.1 HR1.out).1).trans HR1.out
    have hst : ∀ W, Below w1.heap.size w1 W → W.cell? ⟨R, 0, none⟩ = some (.slice (some ⟨B, 0, none⟩) m m) ∧ ItAt W (some ⟨B, 0, none⟩) m L := fun W hb => ⟨(by rw [cell_of_row _ _ _ _ _ _ (HRB.out W hb)]; rfl), HA1.out.below hb⟩
    have HST := Lib.hid hst
    have HBD : Hid (Below w1.heap.size w1 w1.drew) := (Below.refl _ _).drew
    have hcd : w1.drew.cell? ⟨R, 0, none⟩ = some (.slice (some ⟨B, 0, none⟩) m m) := (hst _ HBD.out).1
    have hlt0 : L.length = m := HN0.out.symm
    have hic : i ≤ m := him
    have HLT : Hid ((L.take i).length = i) := by show _ = _; rw [List.length_take, hlt0]; omega
    have HSZ : Hid (i ≤ 100000) := by have := HN4.out; show _ ≤ _; omega
    have HS1 : Hid (∀ W, Below w1.heap.size w1 W → ∀ j u, (itCells (L.take i))[j]? = some u → W.cell? ((⟨B, 0, none⟩ : Addr).add j) = some u) := fun W hb => by
      have := (hst W hb).2.part 0 i (Nat.zero_le _) (by omega) B 0 rfl
      simp only [Nat.zero_mul, Nat.add_zero, List.drop_zero] at this
      exact this.news
    clear hst hlt0
    go_wp2_with fail
    go_region_law (first
      | (refine step_append_it rfl _ _ rfl w1.heap.size v6 _ rfl HO6.out _ _ _ [] rfl rfl (by intro j u hj; simp [itCells] at hj) (by have := HSZ.out; have := HLT.out; simp only [List.length_append, List.length_nil]; omega) HB6.out.size ?_; intro v5 w5 hown5 hgrow5 hnew5; obtain ⟨a5, n5, k5, rfl⟩ := hown5.shape; have HO5 := Lib.hid hown5; have HB5 : Hid (Below w1.heap.size w1 w5) := HB6.out.trans ((But.grown hgrow5).below HB6.out.size fun k e => (HO6.out.lt k e.symm).1); have c5 := (HST.out _ HB5.out).1; have f5 : w5.frozen? ⟨R, 0, none⟩ = false := frozen_of_row _ _ _ _ _ (HRB.out _ HB5.out); clear hown5 hgrow5 hnew5)
      | (refine step_append_it rfl _ _ rfl w1.heap.size (.slice none 0 0) [] rfl (World.ownsRow_nil _ _ _ _) ⟨B, 0, none⟩ i m (L.take i) rfl HLT.out.symm (HS1.out _ HBD.out) (by have := HSZ.out; simp only [List.length_nil]; omega) HBD.out.size ?_; intro v6 w6 hown6 hgrow6 hnew6; have HO6 := Lib.hid hown6; have HB6 : Hid (Below w1.heap.size w1 w6) := HBD.out.trans ((But.grown hgrow6).below HBD.out.size fun _ e => by cases e); have c6 := (HST.out _ HB6.out).1; clear hown6 hgrow6 hnew6))
    all_goals
      obtain ⟨w7, hw7⟩ : ∃ w7, w7 = w5.setCell ⟨R, 0, none⟩ (.slice a5 n5 k5) := ⟨_, rfl⟩
      rw [← hw7]
      have e2 : w7.heap[w.heap.size]? = some (ItO itZ) := by rw [hw7, heap_setCell_other _ _ _ _ HLTS.out.1]; exact (HB5.out.block _ HLTS.out.2.1).trans HBX.out.1
      have e3 : w7.heap[w.heap.size + 1]? = some (ItO x) := by rw [hw7, heap_setCell_other _ _ _ _ HLTS.out.2.2.1]; exact (HB5.out.block _ HLTS.out.2.2.2).trans HBX.out.2
      obtain ⟨x0, x1, x2, x3, x4, x5, x6, f0, f1, f2, f3, f4, f5, f6⟩ := box_here e2
      obtain ⟨y0, y1, y2, y3, y4, y5, y6, -, -, -, -, -, -, -⟩ := box_here e3
      have HW7 := Lib.hid hw7
      clear e2 e3 hw7
      go_wp2
      refine bodyPost_ret (v := .tuple #[ItV x, .bool true]) (by simp [results, Try.results18, go_sem, x0, x1, x2, x3, x4, x5, x6]) rfl ?_
      have hw : Below w.heap.size w w5 := HB1.out.trans (HB5.out.mono HB1.out.size)
      have ho := HO5.out.mono (show w.heap.size + 1 ≤ w1.heap.size by have := HLTS.out.2.2.2; omega)
      refine rf_end2 H0.out hw (by rw [List.drop_of_length_le (by have := HN0.out; omega)]; simpa using ho) ?_
      rw [← HW7.out]
      exact but_set7 _ _ _ _ _ _ _ _ _
  · have hck2 : ¬ c = m := hck
    have hcl : w1.cell? ⟨R, 0, none⟩ = some (.slice (some ⟨B, 0, none⟩) n c) := by rw [cell_of_row _ _ _ _ _ _ HR1.out]; rfl
    have HRB : Hid (∀ W, Below w1.heap.size w1 W → W.heap[R]? = some (.cells #[.slice (some ⟨B, 0, none⟩) n c] 29 (0, 0))) := fun W hb => (hb.block _ (Array.getElem?_eq_some_iff.1 HR1.out).1).trans HR1.out
    have hst : ∀ W, Below w1.heap.size w1 W → W.cell? ⟨R, 0, none⟩ = some (.slice (some ⟨B, 0, none⟩) n c) ∧ ItAt W (some ⟨B, 0, none⟩) n L := fun W hb => ⟨(by rw [cell_of_row _ _ _ _ _ _ (HRB.out W hb)]; rfl), HA1.out.below hb⟩
    have HST := Lib.hid hst
    have HBD : Hid (Below w1.heap.size w1 w1.drew) := (Below.refl _ _).drew
    have hcd : w1.drew.cell? ⟨R, 0, none⟩ = some (.slice (some ⟨B, 0, none⟩) n c) := (hst _ HBD.out).1
    have hlt0 : L.length = n := HN0.out.symm
    have hic : i ≤ c := by have := HNC.out; omega
    have HLT : Hid ((L.take i).length = i) := by show _ = _; rw [List.length_take, hlt0]; omega
    have HLD : Hid ((L.drop m).length = n - m) := by show _ = _; rw [List.length_drop, hlt0]
    have HSZ : Hid (i + (n - m) ≤ 100000) := by have := HN4.out; show _ ≤ _; omega
    have HS1 : Hid (∀ W, Below w1.heap.size w1 W → ∀ j u, (itCells (L.take i))[j]? = some u → W.cell? ((⟨B, 0, none⟩ : Addr).add j) = some u) := fun W hb => by
      have := (hst W hb).2.part 0 i (Nat.zero_le _) (by omega) B 0 rfl
      simp only [Nat.zero_mul, Nat.add_zero, List.drop_zero] at this
      exact this.news
    have HS2 : Hid (∀ W, Below w1.heap.size w1 W → ∀ j u, (itCells (L.drop m))[j]? = some u → W.cell? ((⟨B, m * 7, none⟩ : Addr).add j) = some u) := fun W hb => by
      have := (hst W hb).2.part m n (by omega) (Nat.le_refl _) B 0 rfl
      rw [List.take_of_length_le (by omega), Nat.zero_add] at this
      exact this.news
    clear hst hlt0
    go_wp2_with fail
    go_region_law (first
      | (refine step_append_it rfl _ _ rfl w1.heap.size v6 _ rfl HO6.out ⟨B, m * 7, none⟩ (n - m) (c - m) (L.drop m) rfl HLD.out.symm (HS2.out _ HB6.out) (by have := HSZ.out; have := HLT.out; simp only [List.length_append, List.length_nil]; omega) HB6.out.size ?_; intro v5 w5 hown5 hgrow5 hnew5; obtain ⟨a5, n5, k5, rfl⟩ := hown5.shape; have HO5 := Lib.hid hown5; have HB5 : Hid (Below w1.heap.size w1 w5) := HB6.out.trans ((But.grown hgrow5).below HB6.out.size fun k e => (HO6.out.lt k e.symm).1); have c5 := (HST.out _ HB5.out).1; have f5 : w5.frozen? ⟨R, 0, none⟩ = false := frozen_of_row _ _ _ _ _ (HRB.out _ HB5.out); clear hown5 hgrow5 hnew5)
      | (refine step_append_it rfl _ _ rfl w1.heap.size (.slice none 0 0) [] rfl (World.ownsRow_nil _ _ _ _) ⟨B, 0, none⟩ i c (L.take i) rfl HLT.out.symm (HS1.out _ HBD.out) (by have := HSZ.out; simp only [List.length_nil]; omega) HBD.out.size ?_; intro v6 w6 hown6 hgrow6 hnew6; have HO6 := Lib.hid hown6; have HB6 : Hid (Below w1.heap.size w1 w6) := HBD.out.trans ((But.grown hgrow6).below HBD.out.size fun _ e => by cases e); have c6 := (HST.out _ HB6.out).1; clear hown6 hgrow6 hnew6))
    all_goals
      obtain ⟨w7, hw7⟩ : ∃ w7, w7 = w5.setCell ⟨R, 0, none⟩ (.slice a5 n5 k5) := ⟨_, rfl⟩
      rw [← hw7]
      have e2 : w7.heap[w.heap.size]? = some (ItO itZ) := by rw [hw7, heap_setCell_other _ _ _ _ HLTS.out.1]; exact (HB5.out.block _ HLTS.out.2.1).trans HBX.out.1
      have e3 : w7.heap[w.heap.size + 1]? = some (ItO x) := by rw [hw7, heap_setCell_other _ _ _ _ HLTS.out.2.2.1]; exact (HB5.out.block _ HLTS.out.2.2.2).trans HBX.out.2
      obtain ⟨x0, x1, x2, x3, x4, x5, x6, f0, f1, f2, f3, f4, f5, f6⟩ := box_here e2
      obtain ⟨y0, y1, y2, y3, y4, y5, y6, -, -, -, -, -, -, -⟩ := box_here e3
      have HW7 := Lib.hid hw7
      clear e2 e3 hw7
      go_wp2
      refine bodyPost_ret (v := .tuple #[ItV x, .bool true]) (by simp [results, Try.results18, go_sem, x0, x1, x2, x3, x4, x5, x6]) rfl ?_
      have hw : Below w.heap.size w w5 := HB1.out.trans (HB5.out.mono HB1.out.size)
      have ho := HO5.out.mono (show w.heap.size + 1 ≤ w1.heap.size by have := HLTS.out.2.2.2; omega)
      refine rf_end2 H0.out hw (by rw [HM.out] at ho; simpa using ho) ?_
      rw [← HW7.out]
      exact but_set7 _ _ _ _ _ _ _ _ _
end Go.Proofs.Ytgfoagpmkbdciaa
