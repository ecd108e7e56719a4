/-
  The walk of the document's Put, of a name that is not there, into no slice.
-/
import Derived.Test.YtgfoagpmkbdciaaHRef
namespace Go.Proofs.Ytgfoagpmkbdciaa
open Go Go.Shelf Go.RowKit Go.Lib Go.Sort Go.Proofs HpM

set_option maxHeartbeats 20000000 in
set_option maxRecDepth 100000 in
theorem rput_a (w : World) (R : Nat) (S : Nat → Prop) (L : List It) (x : It) (h : RfS w R S L) (hn : ∀ y ∈ L, nm y ≠ nm x) (hs : L.length < 1024) (n c : Nat) (hR0 : w.heap[R]? = some (.cells #[.slice none n c] 29 (0, 0))) (hn0 : n = L.length) (hnc : n ≤ c) (hsome : L = [] ∧ c = 0) : Calls Try.prog 16 #[.pointer (some ⟨R, 0, none⟩), ItV x] w (RfTo (.int .i64 0) R S (ins iLt L x) w) := by
  have mixed : Try.prog.follows .mixedOrders = true := by kernel_rfl
  have hal : Below w.heap.size w (w.alloc (ItO x)) := (Below.refl _ _).alloc (Nat.le_refl _) _
  have hl : L.length ≤ 1000000 := by omega
  have HL := Lib.hid hl
  have HH : Hid (RfS (w.alloc (ItO x)) R S L) := h.below hal
  have HN := Lib.hid hn
  have H0 := Lib.hid h
  have hR : (w.alloc (ItO x)).heap[R]? = some (.cells #[.slice none n c] 29 (0, 0)) := (hal.block _ (Array.getElem?_eq_some_iff.1 hR0).1).trans hR0
  have hA : L = [] := hsome.1
  clear hal hR0
  have r0 : (w.alloc (ItO x)).cell? ⟨R, 0, none⟩ = some (.slice none n c) := by rw [cell_of_row _ _ _ _ _ _ hR]; rfl
  have hn1 : n < 1024 := by omega
  have HA := Lib.hid hA
  have hX : (w.alloc (ItO x)).heap[w.heap.size]? = some (ItO x) := heap_alloc_new _ _
  obtain ⟨x0, x1, x2, x3, x4, x5, x6, -, -, -, -, -, -, -⟩ := box_here hX
  have HR := Lib.hid hR
  have HX := Lib.hid hX
  have HS := Lib.hid hsome
  have HNC := Lib.hid hnc
  have HN0 := Lib.hid hn0
  have hn2 : decide ((n : Int) ≥ 1024) = false := by simp; omega
  have HN1 := Lib.hid hn1
  clear h hn hs hA hR hn1 hn0 hnc hsome hX hl
  go_enter Try.func16, Try.ntmps16
  go_wp2_with (go_at_call 29; refine (of_any _ R S L _ _ HH.out HL.out).mono ?_; rintro e w1 ⟨r, rfl, hr, rfl⟩; obtain rfl := hr.none HN.out; clear hr)
  obtain ⟨w1, hw1⟩ : ∃ w1, w1 = w.alloc (ItO x) := ⟨_, rfl⟩
  rw [← hw1] at HR HX ⊢
  have HW1 := Lib.hid hw1
  clear r0 x0 x1 x2 x3 x4 x5 x6 hn2 HH hw1
  go_loopg [5] n (fun kx s5 wr => ∃ k : Nat, s5 = .int .i64 k ∧ k ≤ n ∧ n - k ≤ kx ∧ Aside (Gw w1 wr ∧ ∀ (j : Nat) (y : It), j < k → L[j]? = some y → iLt y x = true))
  case atStart => exact ⟨0, by go_num, Nat.zero_le _, Nat.le_refl _, Gw.refl _, fun j y hj => absurd hj (Nat.not_lt_zero _)⟩
  case round =>
    obtain ⟨k, rfl, hkn, hkx, A⟩ := hrel
    have r0 := fun nq os => (A.out.1.trans (gwOf wr nq os)).cell (show w1.cell? ⟨R, 0, none⟩ = some (.slice none n c) by rw [cell_of_row _ _ _ _ _ _ HR.out]; rfl)
    by_cases hlt : k < n
    · exfalso
      have := HN0.out
      rw [HA.out] at this
      simp at this
      omega
    · have hlz : decide ((k : Int) < (n : Int)) = false := by simp; omega
      go_wp2_with fail
      refine wp_region_gw (by kernel_rfl) (by kernel_rfl) ?_
      iterate 18 (refine WQ.step (fun K hK => ?_); go_simp; first | (refine hK _ ?_; clear hK K) | (apply Exists.intro; refine ⟨fun _ => ?_, hK _ ?_⟩; (first | (go_at_call 20; exact rlt_g HT.out wr _ _)); clear hK K))
      refine WQ.nil ?_
      intro _ hw'
      obtain ⟨⟨nq, osq⟩, hw''⟩ := hw'
      subst hw''
      have G2 : Hid (Gw w1 (grow (wr.drewN nq) osq)) := A.out.1.trans (gwOf wr nq osq)
      clear r0
      generalize grow (wr.drewN nq) osq = w2 at G2 ⊢
      obtain rfl : k = n := by omega
      have H2 : Hid (∀ z, L[k]? = some z → iLt z x = false) := fun z hz => by have := (List.getElem?_eq_some_iff.1 hz).1; have := HN0.out; omega
      obtain ⟨hLn, rfl⟩ := HS.out
      have hk0 : k = 0 := by rw [HN0.out, hLn]; rfl
      subst hk0
      have HLn := Lib.hid hLn
      clear hLn
      have hb2 : Below w1.heap.size w1 w2 := G2.out.below
      obtain ⟨x0, x1, x2, x3, x4, x5, x6, -, -, -, -, -, -, -⟩ := box_here ((G2.out.block (Array.getElem?_eq_some_iff.1 HX.out).1).trans HX.out)
      have HRB : Hid (∀ W, Below w1.heap.size w1 W → W.heap[R]? = some (.cells #[.slice none 0 0] 29 (0, 0))) := fun W hb => (hb.block _ (Array.getElem?_eq_some_iff.1 HR.out).1).trans HR.out
      have hst : ∀ W, Below w1.heap.size w1 W → W.cell? ⟨R, 0, none⟩ = some (.slice none 0 0) := fun W hb => by rw [cell_of_row _ _ _ _ _ _ (HRB.out W hb)]; rfl
      have HST := Lib.hid hst
      have HBD : Hid (Below w1.heap.size w1 w2.drew) := hb2.drew
      have HBA : Hid (Below w1.heap.size w1 (w2.drew.alloc (ItO x))) := hb2.drew.alloc hb2.size _
      have hcl : w2.cell? ⟨R, 0, none⟩ = some (.slice none 0 0) := hst _ hb2
      have a1 : (w2.alloc (ItO x)).cell? ⟨R, 0, none⟩ = some (.slice none 0 0) := hst _ (hb2.alloc hb2.size _)
      have a0 : (w2.drew.alloc (ItO x)).cell? ⟨R, 0, none⟩ = some (.slice none 0 0) := hst _ HBA.out
      clear hst hb2
      go_wp2_with fail
      go_region_law (first
        | (refine step_append_none rfl _ _ rfl w1.heap.size (.slice a5 n5 k5) _ rfl HO5.out rfl ?_)
        | (refine step_append_it rfl _ _ rfl w1.heap.size (.slice none 0 0) [] rfl (World.ownsRow_nil _ _ _ _) ⟨w2.heap.size, 0, none⟩ 1 1 [x] rfl rfl (one_item _ x _ (heap_alloc_new w2.drew _)) (by simp) HBA.out.size ?_; intro v5 w5 hown5 hgrow5 hnew5; obtain ⟨a5, n5, k5, rfl⟩ := hown5.shape; have HO5 := Lib.hid hown5; have HB5 : Hid (Below w1.heap.size w1 w5) := HBA.out.trans ((But.grown hgrow5).below HBA.out.size fun k e => by cases e); have c5 := HST.out _ HB5.out; have f5 : w5.frozen? ⟨R, 0, none⟩ = false := frozen_of_row _ _ _ _ _ (HRB.out _ HB5.out); clear hown5 hgrow5 hnew5)
        | (refine step_append_none rfl _ _ rfl w1.heap.size (.slice none 0 0) [] rfl (World.ownsRow_nil _ _ _ _) rfl ?_))
      all_goals
        go_wp2
        go_ret
        have hw : Below w.heap.size w w5 := by
          have h1 : Below w.heap.size w w1 := HW1.out ▸ (Below.refl _ _).alloc (Nat.le_refl _) _
          exact h1.trans (HB5.out.mono h1.size)
        have hsz1 : w.heap.size ≤ w1.heap.size := by rw [HW1.out]; simp
        have he : [] ++ [x] = ins iLt L x := by rw [HLn.out]; rfl
        exact rf_end H0.out hw (he ▸ HO5.out.mono hsz1)
end Go.Proofs.Ytgfoagpmkbdciaa
