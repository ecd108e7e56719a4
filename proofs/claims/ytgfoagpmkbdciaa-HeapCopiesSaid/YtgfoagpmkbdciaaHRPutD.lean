/-
  The walk of the document's Put, of a name that is not there, behind all items, where there is room.
-/
import Derived.Test.YtgfoagpmkbdciaaHRef
namespace Go.Proofs.Ytgfoagpmkbdciaa
open Go Go.Shelf Go.RowKit Go.Lib Go.Sort Go.Proofs HpM

set_option maxHeartbeats 20000000 in
set_option maxRecDepth 100000 in
theorem rput_d (w : World) (R : Nat) (S : Nat → Prop) (L : List It) (x : It) (h : RfS w R S L) (hn : ∀ y ∈ L, nm y ≠ nm x) (hs : L.length < 1024) (B n c : Nat) (hR0 : w.heap[R]? = some (.cells #[.slice (some ⟨B, 0, none⟩) n c] 29 (0, 0))) (hn0 : n = L.length) (hnc : n ≤ c) (hA0 : ItAt w (some ⟨B, 0, none⟩) n L) (hSB : S B) (hBR : B ≠ R) (hck : ¬ c = n) (hp : ∀ y ∈ L, iLt y x = true) : Calls Try.prog 16 #[.pointer (some ⟨R, 0, none⟩), ItV x] w (RfTo (.int .i64 0) R S (ins iLt L x) w) := by
  have mixed : Try.prog.follows .mixedOrders = true := by kernel_rfl
  have hal : Below w.heap.size w (w.alloc (ItO x)) := (Below.refl _ _).alloc (Nat.le_refl _) _
  have hl : L.length ≤ 1000000 := by omega
  have HL := Lib.hid hl
  have HH : Hid (RfS (w.alloc (ItO x)) R S L) := h.below hal
  have HN := Lib.hid hn
  have H0 := Lib.hid h
  have hR : (w.alloc (ItO x)).heap[R]? = some (.cells #[.slice (some ⟨B, 0, none⟩) n c] 29 (0, 0)) := (hal.block _ (Array.getElem?_eq_some_iff.1 hR0).1).trans hR0
  have hA : ItAt (w.alloc (ItO x)) (some ⟨B, 0, none⟩) n L := hA0.below hal
  have hsome : S B ∧ B ≠ R := ⟨hSB, hBR⟩
  have HCK := Lib.hid hck
  have HP := Lib.hid hp
  clear hck hal hR0 hA0 hSB hBR hp
  have r0 : (w.alloc (ItO x)).cell? ⟨R, 0, none⟩ = some (.slice (some ⟨B, 0, none⟩) n c) := by rw [cell_of_row _ _ _ _ _ _ hR]; rfl
  have hn1 : n < 1024 := by omega
  have HA := Lib.hid hA
  have hX : (w.alloc (ItO x)).heap[w.heap.size]? = some (ItO x) := heap_alloc_new _ _
  obtain ⟨x0, x1, x2, x3, x4, x5, x6, -, -, -, -, -, -, -⟩ := box_here hX
  have HR := Lib.hid hR
  have HX := Lib.hid hX
  have HS := Lib.hid hsome
  have HNC := Lib.hid hnc
  have HN0 := Lib.hid hn0
  have hn2 : decide ((n : Int) ≥ 1024) = false := by simp; omega
  have HN1 := Lib.hid hn1
  clear h hn hs hA hR hn1 hn0 hnc hsome hX hl
  go_enter Try.func16, Try.ntmps16
  go_wp2_with (go_at_call 29; refine (of_any _ R S L _ _ HH.out HL.out).mono ?_; rintro e w1 ⟨r, rfl, hr, rfl⟩; obtain rfl := hr.none HN.out; clear hr)
  obtain ⟨w1, hw1⟩ : ∃ w1, w1 = w.alloc (ItO x) := ⟨_, rfl⟩
  rw [← hw1] at HA HR HX ⊢
  have HW1 := Lib.hid hw1
  clear r0 x0 x1 x2 x3 x4 x5 x6 hn2 HH hw1
  go_loopg [5] n (fun kx s5 wr => ∃ k : Nat, s5 = .int .i64 k ∧ k ≤ n ∧ n - k ≤ kx ∧ Aside (Gw w1 wr ∧ ∀ (j : Nat) (y : It), j < k → L[j]? = some y → iLt y x = true))
  case atStart => exact ⟨0, by go_num, Nat.zero_le _, Nat.le_refl _, Gw.refl _, fun j y hj => absurd hj (Nat.not_lt_zero _)⟩
  case round =>
    obtain ⟨k, rfl, hkn, hkx, A⟩ := hrel
    have r0 := fun nq os => (A.out.1.trans (gwOf wr nq os)).cell (show w1.cell? ⟨R, 0, none⟩ = some (.slice (some ⟨B, 0, none⟩) n c) by rw [cell_of_row _ _ _ _ _ _ HR.out]; rfl)
    by_cases hlt : k < n
    · have hlz : decide ((k : Int) < (n : Int)) = true := by simpa using hlt
      have hkz : (k : Int) < (n : Int) := by omega
      obtain ⟨B', off, e, hB, y, hy, hc⟩ := HA.out.cell hlt
      cases e
      rw [Nat.zero_add] at hc
      have hcell : ∀ nq os, ItCell (grow (wr.drewN nq) os) B (k * 7) y := fun nq os => hc.same ((A.out.1.trans (gwOf wr nq os)).block hB)
      have y0 := fun nq os => (hcell nq os).seven.1
      have y1 := fun nq os => (hcell nq os).seven.2.1
      have y2 := fun nq os => (hcell nq os).seven.2.2.1
      have y3 := fun nq os => (hcell nq os).seven.2.2.2.1
      have y4 := fun nq os => (hcell nq os).seven.2.2.2.2.1
      have y5 := fun nq os => (hcell nq os).seven.2.2.2.2.2.1
      have y6 := fun nq os => (hcell nq os).seven.2.2.2.2.2.2
      have hbox : ∀ nq os, (grow (wr.drewN nq) os).heap[w.heap.size]? = some (ItO x) := fun nq os => ((A.out.1.trans (gwOf wr nq os)).block (Array.getElem?_eq_some_iff.1 HX.out).1).trans HX.out
      have x0 := fun nq os => (box_here (hbox nq os)).1
      have x1 := fun nq os => (box_here (hbox nq os)).2.1
      have x2 := fun nq os => (box_here (hbox nq os)).2.2.1
      have x3 := fun nq os => (box_here (hbox nq os)).2.2.2.1
      have x4 := fun nq os => (box_here (hbox nq os)).2.2.2.2.1
      have x5 := fun nq os => (box_here (hbox nq os)).2.2.2.2.2.1
      have x6 := fun nq os => (box_here (hbox nq os)).2.2.2.2.2.2.1
      have HY := Lib.hid hy
      clear hcell hbox hc hy
      have HT : Hid (true = iLt y x) := (HP.out y (List.mem_of_getElem? HY.out)).symm
      go_wp2_with fail
      refine wp_region_gw (by kernel_rfl) (by kernel_rfl) ?_
      iterate 18 (refine WQ.step (fun K hK => ?_); go_simp; first | (refine hK _ ?_; clear hK K) | (apply Exists.intro; refine ⟨fun _ => ?_, hK _ ?_⟩; (first | (go_at_call 20; exact rlt_g HT.out wr _ _)); clear hK K))
      refine WQ.nil ?_
      intro _ hw'
      obtain ⟨⟨nq, osq⟩, hw''⟩ := hw'
      subst hw''
      have G2 : Hid (Gw w1 (grow (wr.drewN nq) osq)) := A.out.1.trans (gwOf wr nq osq)
      clear r0 x0 x1 x2 x3 x4 x5 x6 y0 y1 y2 y3 y4 y5 y6
      generalize grow (wr.drewN nq) osq = w2 at G2 ⊢
      have hbig : k < 1000000 := by have := HN1.out; omega
      go_wp2
      go_roundg (n - (k + 1))
      case measure => omega
      case rel =>
        refine ⟨k + 1, by go_num, by omega, Nat.le_refl _, G2.out, fun j z hj hz => ?_⟩
        by_cases e : j = k
        · rw [e, HY.out] at hz
          cases hz
          exact HT.out.symm
        · exact A.out.2 j z (by omega) hz
    · have hlz : decide ((k : Int) < (n : Int)) = false := by simp; omega
      go_wp2_with fail
      refine wp_region_gw (by kernel_rfl) (by kernel_rfl) ?_
      iterate 18 (refine WQ.step (fun K hK => ?_); go_simp; first | (refine hK _ ?_; clear hK K) | (apply Exists.intro; refine ⟨fun _ => ?_, hK _ ?_⟩; (first | (go_at_call 20; exact rlt_g HT.out wr _ _)); clear hK K))
      refine WQ.nil ?_
      intro _ hw'
      obtain ⟨⟨nq, osq⟩, hw''⟩ := hw'
      subst hw''
      have G2 : Hid (Gw w1 (grow (wr.drewN nq) osq)) := A.out.1.trans (gwOf wr nq osq)
      clear r0
      generalize grow (wr.drewN nq) osq = w2 at G2 ⊢
      obtain rfl : k = n := by omega
      have H2 : Hid (∀ z, L[k]? = some z → iLt z x = false) := fun z hz => by have := (List.getElem?_eq_some_iff.1 hz).1; have := HN0.out; omega
      have hck : ¬ c = k := HCK.out
      have hkc2 : ¬ c = k := hck
      have hkc : k ≤ c := HNC.out
      have hcl : w2.cell? ⟨R, 0, none⟩ = some (.slice (some ⟨B, 0, none⟩) k c) := G2.out.cell (show w1.cell? ⟨R, 0, none⟩ = some (.slice (some ⟨B, 0, none⟩) k c) by rw [cell_of_row _ _ _ _ _ _ HR.out]; rfl)
      have hb2 : Below w1.heap.size w1 w2 := G2.out.below
      obtain ⟨x0, x1, x2, x3, x4, x5, x6, -, -, -, -, -, -, -⟩ := box_here ((G2.out.block (Array.getElem?_eq_some_iff.1 HX.out).1).trans HX.out)
      have hst : ∀ W, Below w1.heap.size w1 W → W.cell? ⟨R, 0, none⟩ = some (.slice (some ⟨B, 0, none⟩) k c) ∧ W.heap[w.heap.size]? = some (ItO x) ∧ ItAt W (some ⟨B, 0, none⟩) k L := fun W hb => ⟨(by rw [cell_of_row _ _ _ _ _ _ ((hb.block _ (Array.getElem?_eq_some_iff.1 HR.out).1).trans HR.out)]; rfl), (hb.block _ (Array.getElem?_eq_some_iff.1 HX.out).1).trans HX.out, HA.out.below hb⟩
      have HST := Lib.hid hst
      have HRB : Hid (∀ W, Below w1.heap.size w1 W → W.heap[R]? = some (.cells #[.slice (some ⟨B, 0, none⟩) k c] 29 (0, 0))) := fun W hb => (hb.block _ (Array.getElem?_eq_some_iff.1 HR.out).1).trans HR.out
      have HBD : Hid (Below w1.heap.size w1 w2.drew) := hb2.drew
      have HBA : Hid (Below w1.heap.size w1 (w2.drew.alloc (ItO x))) := hb2.drew.alloc hb2.size _
      have HSZ : Hid (k + 1 ≤ 100000) := by have := HN1.out; show _ ≤ _; omega
      have a1 : (w2.alloc (ItO x)).cell? ⟨R, 0, none⟩ = some (.slice (some ⟨B, 0, none⟩) k c) := (hst _ (hb2.alloc hb2.size _)).1
      have a0 : (w2.drew.alloc (ItO x)).cell? ⟨R, 0, none⟩ = some (.slice (some ⟨B, 0, none⟩) k c) := (hst _ HBA.out).1
      have hlt0 : L.length = k := HN0.out.symm
      have HLT : Hid ((L.take k).length = k) := by show _ = _; rw [List.length_take, hlt0]; omega
      have HS1 : Hid (∀ W, Below w1.heap.size w1 W → ∀ j u, (itCells (L.take k))[j]? = some u → W.cell? ((⟨B, 0, none⟩ : Addr).add j) = some u) := fun W hb => by
        have := (hst W hb).2.2.part 0 k (Nat.zero_le _) (Nat.le_refl _) B 0 rfl
        simp only [Nat.zero_mul, Nat.add_zero, List.drop_zero] at this
        exact this.news
      clear hst hlt0 hb2
      go_wp2_with fail
      go_region_law (first
        | (refine step_append_it rfl _ _ rfl w1.heap.size v7 _ rfl HO7.out _ _ _ [] rfl rfl (by intro j u hj; simp [itCells] at hj) (by have := HSZ.out; have := HLT.out; simp only [List.length_append, List.length_nil, List.length_cons]; omega) HB7.out.size ?_; intro v5 w5 hown5 hgrow5 hnew5; obtain ⟨a5, n5, k5, rfl⟩ := hown5.shape; have HO5 := Lib.hid hown5; have HB5 : Hid (Below w1.heap.size w1 w5) := HB7.out.trans ((But.grown hgrow5).below HB7.out.size fun k e => (HO7.out.lt k e.symm).1); have c5 := (HST.out _ HB5.out).1; have f5 : w5.frozen? ⟨R, 0, none⟩ = false := frozen_of_row _ _ _ _ _ (HRB.out _ HB5.out); clear hown5 hgrow5 hnew5)
        | (refine step_append_it rfl _ _ rfl w1.heap.size v6 _ rfl (World.ownsRow.alloc HO6.out _) ⟨w6.heap.size, 0, none⟩ 1 1 [x] rfl rfl (one_item _ x _ (heap_alloc_new _ _)) (by have := HSZ.out; have := HLT.out; simp only [List.length_append, List.length_nil]; omega) (HB6.out.alloc HB6.out.size _).size ?_; intro v7 w7 hown7 hgrow7 hnew7; have HO7 := Lib.hid hown7; have HB7 : Hid (Below w1.heap.size w1 w7) := (HB6.out.alloc HB6.out.size _).trans ((But.grown hgrow7).below (HB6.out.alloc HB6.out.size _).size fun k e => (HO6.out.lt k e.symm).1); have c7 := (HST.out _ HB7.out).1; clear hown7 hgrow7 hnew7)
        | (refine step_append_it rfl _ _ rfl w1.heap.size v8 _ rfl HO8.out ⟨w2.heap.size, 0, none⟩ 1 1 [x] rfl rfl (one_item _ x _ HE8.out) (by have := HSZ.out; have := HLT.out; simp only [List.length_append, List.length_nil]; omega) HB8.out.size ?_; intro v7 w7 hown7 hgrow7 hnew7; have HO7 := Lib.hid hown7; have HB7 : Hid (Below w1.heap.size w1 w7) := HB8.out.trans ((But.grown hgrow7).below HB8.out.size fun k e => (HO8.out.lt k e.symm).1); have c7 := (HST.out _ HB7.out).1; clear hown7 hgrow7 hnew7)
        | (refine step_append_it rfl _ _ rfl w1.heap.size (.slice none 0 0) [] rfl (World.ownsRow_nil _ _ _ _) ⟨B, 0, none⟩ k c (L.take k) rfl HLT.out.symm (HS1.out _ HBD.out) (by have := HSZ.out; simp only [List.length_nil]; omega) HBD.out.size ?_; intro v6 w6 hown6 hgrow6 hnew6; have HO6 := Lib.hid hown6; have HB6 : Hid (Below w1.heap.size w1 w6) := HBD.out.trans ((But.grown hgrow6).below HBD.out.size fun _ e => by cases e); have c6 := (HST.out _ HB6.out).1; have c6a := (HST.out _ (HB6.out.alloc HB6.out.size (ItO x))).1; obtain ⟨z0, z1, z2, z3, z4, z5, z6, -, -, -, -, -, -, -⟩ := box_here (HST.out _ HB6.out).2.1; clear hown6 hgrow6 hnew6)
        | (refine step_append_it rfl _ _ rfl w1.heap.size (.slice none 0 0) [] rfl (World.ownsRow_nil _ _ _ _) ⟨B, 0, none⟩ k c (L.take k) rfl HLT.out.symm (HS1.out _ HBA.out) (by have := HSZ.out; simp only [List.length_nil]; omega) HBA.out.size ?_; intro v8 w8 hown8 hgrow8 hnew8; have HO8 := Lib.hid hown8; have HB8 : Hid (Below w1.heap.size w1 w8) := HBA.out.trans ((But.grown hgrow8).below HBA.out.size fun _ e => by cases e); have c8 := (HST.out _ HB8.out).1; have HE8 : Hid (w8.heap[w2.heap.size]? = some (ItO x)) := ((But.grown hgrow8).block _ (by simp) (fun e => by cases e)).trans (heap_alloc_new w2.drew _); clear hown8 hgrow8 hnew8))
      all_goals
        go_wp2
        go_ret
        have hw : Below w.heap.size w w5 := by
          have h1 : Below w.heap.size w w1 := HW1.out ▸ (Below.refl _ _).alloc (Nat.le_refl _) _
          exact h1.trans (HB5.out.mono h1.size)
        have hsz1 : w.heap.size ≤ w1.heap.size := by rw [HW1.out]; simp
        have he : (([] ++ L.take k) ++ [x]) ++ [] = ins iLt L x := by
          rw [ins_split L x k A.out.2 (by have := HN0.out; omega) H2.out]
          rw [List.drop_of_length_le (by have := HN0.out; omega)]
          simp
        exact rf_end H0.out hw (he ▸ HO5.out.mono hsz1)
end Go.Proofs.Ytgfoagpmkbdciaa
