/-
  The walk of the pool's Copy.
-/
import Derived.Test.YtifniehfbafcoaaPCopy
import Derived.BigRegion
namespace Go.Proofs.Ytifniehfbafcoaa
open Go Go.Shelf Go.RowKit Go.Lib Go.Sort Go.Proofs

/-- a new pool that has some of the blocks so far -/
def CpS (w wr : World) (C : Nat) (bs : List (List Ms)) (m n : Nat) : Prop := ∃ v vs FC, PlX wr C FC v vs bs m n ∧ (∀ b, FC b → w.heap.size ≤ b) ∧ Below w.heap.size w wr
set_option maxHeartbeats 4000000 in
set_option maxRecDepth 100000 in
theorem pl_copy {w : World} {G : Nat} {F : Nat → Prop} {x : List Ms × Nat} (h : Pl w G F x) : Calls Try.prog 10 #[.pointer (some ⟨G, 0, none⟩)] w (plT.New x w) := by
  have mixed : Try.prog.follows .mixedOrders = true := by kernel_rfl
  obtain ⟨v, vs, bs, hx, hfl, hn1, hn2, hn3⟩ := h
  obtain ⟨m, hm⟩ : ∃ m, m = x.1.length := ⟨_, rfl⟩
  obtain ⟨n, hn⟩ : ∃ n, n = x.2 := ⟨_, rfl⟩
  rw [← hm, ← hn] at hx
  obtain ⟨a, q, c, rfl⟩ := hx.row.shape
  have HQ : Hid (q = vs.length ∧ vs.length = bs.length) := ⟨hx.row.size.1, hx.len⟩
  have hqb : q ≤ 1000000 := by rw [HQ.out.1, HQ.out.2]; omega
  obtain ⟨c0, c1, c2, -⟩ := hx.cells
  have H0 := Lib.hid hx
  have HE : Hid (bs.flatten = x.1 ∧ bs.length ≤ x.2 ∧ x.1.length ≤ x.2 ∧ x.2 ≤ 1000000 ∧ m = x.1.length ∧ n = x.2) := ⟨hfl, hn1, hn2, hn3, hm, hn⟩
  clear hx hfl hn1 hn2 hn3 hm hn
  go_enter Try.func10, Try.ntmps10
  go_wp2_with fail
  go_region
  all_goals
    obtain ⟨w1, hw1⟩ : ∃ w1, w1 = (w.alloc (.cells #[.slice none 0 0, .int .i64 (m : Nat), .int .i64 (n : Nat)] 59)).drew := ⟨_, rfl⟩
    have hb1 : Below w.heap.size w w1 := by rw [hw1]; exact ((Below.refl _ _).alloc (Nat.le_refl _) _).drew
    have hC : w1.heap[w.heap.size]? = some (.cells #[.slice none 0 0, .int .i64 (m : Nat), .int .i64 (n : Nat)] 59 (0, 0)) := by rw [hw1]; exact heap_alloc_new w _
    have HS1 : Hid (CpS w w1 w.heap.size [] m n) := ⟨.slice none 0 0, [], fun b => b = w.heap.size, ⟨hC, rfl, fun b h => by subst h; exact (Array.getElem?_eq_some_iff.1 hC).1, World.ownsRow_nil _ _ _ _, (fun b e => by cases e), rfl, (fun j s l h => by simp at h), (fun j s b h => by simp at h), (fun i j s t b _ h => by simp at h), (fun l h => by simp at h)⟩, fun b h => by subst h; exact Nat.le_refl _, hb1⟩
    rw [← hw1]
    have d0 : w1.cell? ⟨G, 0, none⟩ = some (.slice a q c) := (H0.out.below hb1).cells.1
    clear hw1 hb1 hC c0 c1 c2
    go_wp2
    go_loopg [23] q (fun kx s23 wr => ∃ k : Nat, s23 = .int .i64 k ∧ k ≤ q ∧ q - k ≤ kx ∧ Aside (CpS w wr w.heap.size (bs.take k) m n))
    case atStart => exact ⟨0, by go_num, Nat.zero_le _, Nat.le_refl _, HS1.out⟩
    case round =>
      clear HS1 d0
      obtain ⟨k, rfl, hkq, hkx, A⟩ := hrel
      by_cases hlt : k < q
      · have hlz : decide ((k : Int) < (q : Int)) = true := by simpa using hlt
        have hkz : (k : Int) < (q : Int) := by omega
        obtain ⟨v, vs', FC, hp, hFC, hbw⟩ := A.out
        have HR : Hid (PlX wr G F (.slice a q c) vs bs m n) := H0.out.below hbw
        obtain ⟨s, hs⟩ := HR.out.ex2 (j := k) (by have := HQ.out; omega)
        obtain ⟨l, hl⟩ := HR.out.ex hs
        obtain ⟨g, c', e, -, -⟩ := HR.out.row.some_ (by have := HQ.out; omega)
        injection e with e1 e2 e3
        subst e1
        have hcell := sl_cell HR.out.row hs
        have ho := HR.out.own k s l hs hl
        obtain ⟨sa, sn, sc⟩ := s
        replace hcell : wr.cell? ⟨g, k, none⟩ = some (.slice sa sn sc) := hcell
        have h128 : l.length ≤ 128 := HR.out.le l (List.mem_of_getElem? hl)
        have hsn : sn = l.length := ho.size.1
        obtain ⟨sa', sc', e', -, hat, -, -⟩ := ho.at_ (by omega)
        injection e' with e4 e5 e6
        subst e4
        have HAT : Hid (MsC.At wr.drew sa l.length l) := hat.below (Below.refl _ _).drew
        obtain ⟨a1, n1, p1, rfl⟩ := hp.row.shape
        have hvl : vs'.length ≤ 1000000 := by
          have h0 := hp.len
          have h1 := HQ.out
          rw [List.length_take] at h0
          omega
        have HV := Lib.hid hvl
        have HP := Lib.hid hp
        have HW := Lib.hid (And.intro hFC hbw)
        have HL : Hid (bs.take (k + 1) = bs.take k ++ [l] ∧ l.length ≤ 128) := ⟨by rw [List.take_add_one, hl]; rfl, h128⟩
        have b0 : wr.cell? ⟨w.heap.size, 0, none⟩ = some (.slice a1 n1 p1) := hp.cells.1
        have b1 : wr.drew.cell? ⟨w.heap.size, 0, none⟩ = some (.slice a1 n1 p1) := b0
        have hP : ∀ W, Below wr.heap.size wr W → W.cell? ⟨w.heap.size, 0, none⟩ = some (.slice a1 n1 p1) ∧ SlC.Own 27 0 W (.slice a1 n1 p1) vs' := fun W hb => ⟨(hp.below hb).cells.1, hp.row.below hb⟩
        have HPB := Lib.hid hP
        rw [hsn] at hcell
        clear e2 e3 hs hl ho hsn hat h128 e5 e6 hp hFC hbw hvl hP
        go_wp2_with fail
        go_region_law (first
          | (go_simp; go_at_call 27; refine (clone_any wr.drew sa l.length sc l HAT.out).mono ?_; rintro e0 w2 ⟨v2, rfl, ho2, hb2⟩; obtain ⟨a2, n2, p2, rfl⟩ := ho2.shape; have HB2 : Hid (Below wr.heap.size wr w2) := ((Below.refl _ _).drew).trans hb2; have HO2 : Hid (MsC.Own 36 wr.heap.size w2 (.slice a2 n2 p2) l) := ho2; have HB3 : Hid (Below wr.heap.size wr (w2.alloc (.cells #[.slice a2 n2 p2] 27))) := HB2.out.alloc HB2.out.size _; have b2 := (HPB.out _ HB2.out).1; have b3 := (HPB.out _ HB3.out).1; clear ho2 hb2; dsimp only)
          | (refine rowS.step rfl _ _ rfl 0 (.slice a1 n1 p1) vs' rfl (HPB.out _ HB3.out).2 ⟨w2.heap.size, 0, none⟩ 1 1 [(a2, n2, p2)] rfl rfl (Cod.news_one (C := SlC) _ (a2, n2, p2) _ _ (heap_alloc_new _ _)) (by have := HV.out; omega) (by have := HV.out; omega) (Nat.zero_le _) ?_; intro v5 w5 hown5 hgrow5 hnew5; obtain ⟨a5, n5, p5, rfl⟩ := hown5.shape; obtain ⟨q0, q1, hp6, hb6⟩ := HP.out.add HB3.out (HO2.out.but ((But.refl (fun _ => False) w2).alloc _) (fun _ _ e => e)) HL.out.2 hgrow5 hown5 hnew5; have H6 := Lib.hid (And.intro hp6 hb6); clear hown5 hgrow5 hnew5 hp6 hb6))
        all_goals
          obtain ⟨w6, hw6⟩ : ∃ w6, w6 = w5.setCell ⟨w.heap.size, 0, none⟩ (.slice a5 n5 p5) := ⟨_, rfl⟩
          rw [← hw6] at H6 ⊢
          clear hw6 q0 q1 b0 b1 b2 b3 hcell
          have hs6 : CpS w w6 w.heap.size (bs.take (k + 1)) m n := by
            rw [HL.out.1]
            have hz := HW.out.2.size
            refine ⟨_, _, _, H6.out.1, fun b e => ?_, HW.out.2.trans (H6.out.2.below hz HW.out.1)⟩
            rcases e with e | e
            · exact HW.out.1 b e
            · exact Nat.le_trans hz e.1
          have HS6 := Lib.hid hs6
          clear hs6
          go_wp2
          go_roundg (q - (k + 1))
          case measure => omega
          case rel => exact ⟨k + 1, by go_num, by omega, Nat.le_refl _, HS6.out⟩
      · have hlz : decide ((k : Int) < (q : Int)) = false := by simp; omega
        obtain rfl : k = q := by omega
        go_wp2
        go_ret
        obtain ⟨v, vs', FC, hp, hFC, hbw⟩ := A.out
        rw [HQ.out.1, HQ.out.2, List.take_length] at hp
        obtain ⟨h1, h2, h3, h4, h5, h6⟩ := HE.out
        rw [h5, h6] at hp
        exact ⟨_, FC, rfl, ⟨v, vs', bs, hp, h1, h2, h3, h4⟩, hFC, hbw⟩
end Go.Proofs.Ytifniehfbafcoaa
