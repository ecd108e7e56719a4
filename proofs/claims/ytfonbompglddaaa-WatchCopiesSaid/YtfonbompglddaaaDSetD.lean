/-
  The walk of the document's Set, where it sets.
-/
import Derived.Test.YtfonbompglddaaaDSetA
import Derived.Deep.RegionLaw
import Derived.OwnWalk
import Derived.TacticsIn
namespace Go.Proofs.Ytfonbompglddaaa
open Go Go.RowKit Go.Lib Go.Sort Go.Proofs

set_option maxHeartbeats 8000000 in
set_option maxRecDepth 100000 in
theorem rset_d {w : World} {R : Nat} {B n c : Nat} {S : Nat → Prop} {L : List On} (h : Rf w R S L) (x : On) (hi : x.1 < 4294967296) (hm : bmay x.2 = true) (hg : lget L x.1 = none) (hl : L.length < 16) (hR : w.heap[R]? = some (RO (.slice (some ⟨B, 0, none⟩) n c))) (hn0 : n = L.length) (hnc : n ≤ c) (hA : OnC.At w (some ⟨B, 0, none⟩) n L) (hp : ∀ y ∈ L, y.1 < x.1) (hck : ¬ c = n) : Calls Try.prog 20 #[.pointer (some ⟨R, 0, none⟩), .int .u32 (x.1 : Nat), BkV x.2] w (rfT.To (.int .i64 0) R S (ins x L) w) := by
  have mixed : Try.prog.follows .mixedOrders = true := by kernel_rfl
  have H0 := Lib.hid h
  have HG := Lib.hid hg
  have HI := Lib.hid hi
  have HL := Lib.hid hl
  have HR := Lib.hid hR
  have HA := Lib.hid hA
  have HN0 := Lib.hid hn0
  have hnb : n < 16 := by omega
  have hd : decide ((n : Int) ≥ 16) = false := by simp; omega
  have HP := Lib.hid hp
  have HCK := Lib.hid hck
  clear hp hck
  have HNC := Lib.hid hnc
  clear h hi hg hl hR hA hn0 hnc
  go_enter Try.func20, Try.ntmps20
  go_wp2_with (first
    | (go_at_call 32; refine (of_any (H0.out.below H1.out.1) x.1).mono ?_; rintro e w2 ⟨r, rfl, hr, rfl⟩; obtain rfl := hr.none HG.out; have r0 : w1.cell? ⟨R, 0, none⟩ = some (.slice (some ⟨B, 0, none⟩) n c) := (cell_of_row _ _ _ _ _ _ ((H1.out.1.block _ (Array.getElem?_eq_some_iff.1 HR.out).1).trans HR.out)).trans rfl; clear hr)
    | (go_at_call 16; refine (rmay_is (b := x.2) hm).mono ?_; rintro e w1 ⟨rfl, hb⟩; have H1 : Hid (Below w.heap.size w w1 ∧ w1.heap[w.heap.size]? = some (BkO x.2)) := ⟨((Below.refl _ _).alloc (Nat.le_refl _) _).trans (hb.mono (by simp)), (hb.block _ (by simp)).trans (heap_alloc_new _ _)⟩; clear hb))
  go_loopg [7] n (fun kx s7 wr => ∃ k : Nat, s7 = .int .i64 k ∧ k ≤ n ∧ n - k ≤ kx ∧ w1 = wr ∧ Aside (∀ (j : Nat) (y : On), j < k → L[j]? = some y → y.1 < x.1))
  case atStart => exact ⟨0, by go_num, Nat.zero_le _, Nat.le_refl _, rfl, fun j y hj => absurd hj (Nat.not_lt_zero _)⟩
  case round =>
    obtain ⟨k, rfl, hkn, hkx, rfl, A⟩ := hrel
    have hkb : k < 1000000 := by omega
    by_cases hlt : k < n
    · have hlz : decide ((k : Int) < (n : Int)) = true := by simpa using hlt
      have hkz : (k : Int) < (n : Int) := by omega
      obtain ⟨B', off, e, hB, y, hy, hc⟩ := (HA.out.below H1.out.1).cell hlt
      cases e
      have y0 := (four hc).1
      simp only [show OnC.k = 4 from rfl, Nat.zero_add] at y0
      have HY := Lib.hid hy
      clear hc hy
      have HT : Hid (y.1 < x.1) := HP.out y (List.mem_of_getElem? HY.out)
      have hd2 : y.1 < x.1 := HT.out
      go_wp2
      go_roundg (n - (k + 1))
      case measure => omega
      case rel =>
        refine ⟨k + 1, by go_num, by omega, Nat.le_refl _, rfl, fun j z hj hz => ?_⟩
        by_cases e : j = k
        · rw [e, HY.out] at hz
          cases hz
          exact HT.out
        · exact A.out j z (by omega) hz
    · have hlz : decide ((k : Int) < (n : Int)) = false := by simp; omega
      obtain rfl : k = n := by omega
      have H2 : Hid (∀ z, L[k]? = some z → ¬ z.1 < x.1) := fun z hz => by have := (List.getElem?_eq_some_iff.1 hz).1; have := HN0.out; omega
      have hcl := r0
      have hkc : k ≤ c := by have := HNC.out; omega
      have hkc2 : ¬ c = k := HCK.out
      have HRB : Hid (∀ W, Below w1.heap.size w1 W → W.heap[R]? = some (RO (.slice (some ⟨B, 0, none⟩) k c))) := fun W hb => (hb.block _ (Nat.lt_of_lt_of_le (Array.getElem?_eq_some_iff.1 HR.out).1 H1.out.1.size)).trans ((H1.out.1.block _ (Array.getElem?_eq_some_iff.1 HR.out).1).trans HR.out)
      have hst : ∀ W, Below w1.heap.size w1 W → W.cell? ⟨R, 0, none⟩ = some (.slice (some ⟨B, 0, none⟩) k c) ∧ W.heap[w.heap.size]? = some (BkO x.2) ∧ OnC.At W (some ⟨B, 0, none⟩) k L := fun W hb => ⟨(by rw [cell_of_row _ _ _ _ _ _ (HRB.out W hb)]; rfl), (hb.block _ (Array.getElem?_eq_some_iff.1 H1.out.2).1).trans H1.out.2, (HA.out.below H1.out.1).below hb⟩
      have HST := Lib.hid hst
      have HBD : Hid (Below w1.heap.size w1 w1.drew) := (Below.refl _ _).drew
      have HBA : Hid (Below w1.heap.size w1 (w1.drew.alloc (OnO x))) := (Below.refl _ _).drew.alloc (Nat.le_refl _) _
      obtain ⟨b0, b1, b2⟩ := bk_box H1.out.2
      have a0 : (w1.drew.alloc (OnO x)).cell? ⟨R, 0, none⟩ = some (.slice (some ⟨B, 0, none⟩) k c) := (hst _ HBA.out).1
      have a1 : (w1.alloc (OnO x)).cell? ⟨R, 0, none⟩ = some (.slice (some ⟨B, 0, none⟩) k c) := (hst _ ((Below.refl _ _).alloc (Nat.le_refl _) _)).1
      have HSZ : Hid (k + 1 + (k - k) ≤ 100000) := by have := HN0.out; have := HL.out; show _ ≤ _; omega
      have HLT : Hid ((L.take k).length = k) := by show _ = _; rw [List.length_take, ← HN0.out]; omega
      have HLD : Hid ((L.drop k).length = k - k) := by show _ = _; rw [List.length_drop, ← HN0.out]
      have HS1 : Hid (∀ W, Below w1.heap.size w1 W → ∀ j u, (OnC.cells (L.take k))[j]? = some u → W.cell? ((⟨B, 0, none⟩ : Addr).add j) = some u) := fun W hb => by
        have := (hst W hb).2.2.part 0 k (Nat.zero_le _) (by omega) B 0 rfl
        simp only [Nat.zero_mul, Nat.add_zero, List.drop_zero] at this
        exact this.news
      clear hst
      go_wp2_with fail
      go_region_law (first
        | (refine rowO.step rfl _ _ rfl w1.heap.size v7 _ rfl HO7.out _ _ _ [] rfl rfl (by intro j u hj; simp [Cod.cells] at hj) (by have := HSZ.out; have := HLT.out; simp only [List.length_append, List.length_nil, List.length_cons]; omega) (by have := HSZ.out; have := HLT.out; simp only [List.length_append, List.length_nil, List.length_cons]; omega) HB7.out.size ?_; intro v5 w5 hown5 hgrow5 hnew5; obtain ⟨a5, n5, k5, rfl⟩ := hown5.shape; have HO5 := Lib.hid hown5; have HB5 : Hid (Below w1.heap.size w1 w5) := HB7.out.trans ((But.grown hgrow5).below HB7.out.size fun k e => (HO7.out.lt k e.symm).1); have c5 := (HST.out _ HB5.out).1; have f5 : w5.frozen? ⟨R, 0, none⟩ = false := frozen_of_row _ _ _ _ _ (HRB.out _ HB5.out); clear hown5 hgrow5 hnew5)
        | (refine rowO.step rfl _ _ rfl w1.heap.size v6 _ rfl (World.ownsRow.alloc HO6.out _) ⟨w6.heap.size, 0, none⟩ 1 1 [x] rfl rfl (Cod.news_one _ x _ (0, 0) (heap_alloc_new _ _)) (by have := HSZ.out; have := HLT.out; simp only [List.length_append, List.length_nil]; omega) (by have := HSZ.out; have := HLT.out; simp only [List.length_append, List.length_nil]; omega) (HB6.out.alloc HB6.out.size _).size ?_; intro v7 w7 hown7 hgrow7 hnew7; have HO7 := Lib.hid hown7; have HB7 : Hid (Below w1.heap.size w1 w7) := (HB6.out.alloc HB6.out.size _).trans ((But.grown hgrow7).below (HB6.out.alloc HB6.out.size _).size fun k e => (HO6.out.lt k e.symm).1); have c7 := (HST.out _ HB7.out).1; clear hown7 hgrow7 hnew7)
        | (refine rowO.step rfl _ _ rfl w1.heap.size v8 _ rfl HO8.out ⟨w1.heap.size, 0, none⟩ 1 1 [x] rfl rfl (Cod.news_one _ x _ (0, 0) HE8.out) (by have := HSZ.out; have := HLT.out; simp only [List.length_append, List.length_nil]; omega) (by have := HSZ.out; have := HLT.out; simp only [List.length_append, List.length_nil]; omega) HB8.out.size ?_; intro v7 w7 hown7 hgrow7 hnew7; have HO7 := Lib.hid hown7; have HB7 : Hid (Below w1.heap.size w1 w7) := HB8.out.trans ((But.grown hgrow7).below HB8.out.size fun k e => (HO8.out.lt k e.symm).1); have c7 := (HST.out _ HB7.out).1; clear hown7 hgrow7 hnew7)
        | (refine rowO.step rfl _ _ rfl w1.heap.size (.slice none 0 0) [] rfl (World.ownsRow_nil _ _ _ _) ⟨B, 0, none⟩ k c (L.take k) rfl HLT.out.symm (HS1.out _ HBD.out) (by have := HSZ.out; simp only [List.length_nil]; omega) (by have := HSZ.out; simp only [List.length_nil]; omega) HBD.out.size ?_; intro v6 w6 hown6 hgrow6 hnew6; have HO6 := Lib.hid hown6; have HB6 : Hid (Below w1.heap.size w1 w6) := HBD.out.trans ((But.grown hgrow6).below HBD.out.size fun _ e => by cases e); have c6 := (HST.out _ HB6.out).1; have c6a := (HST.out _ (HB6.out.alloc HB6.out.size (OnO x))).1; obtain ⟨z0, z1, z2⟩ := bk_box (HST.out _ HB6.out).2.1; clear hown6 hgrow6 hnew6)
        | (refine rowO.step rfl _ _ rfl w1.heap.size (.slice none 0 0) [] rfl (World.ownsRow_nil _ _ _ _) ⟨B, 0, none⟩ k c (L.take k) rfl HLT.out.symm (HS1.out _ HBA.out) (by have := HSZ.out; simp only [List.length_nil]; omega) (by have := HSZ.out; simp only [List.length_nil]; omega) HBA.out.size ?_; intro v8 w8 hown8 hgrow8 hnew8; have HO8 := Lib.hid hown8; have HB8 : Hid (Below w1.heap.size w1 w8) := HBA.out.trans ((But.grown hgrow8).below HBA.out.size fun _ e => by cases e); have c8 := (HST.out _ HB8.out).1; have HE8 : Hid (w8.heap[w1.heap.size]? = some (OnO x)) := ((But.grown hgrow8).block _ (by simp) (fun e => by cases e)).trans (heap_alloc_new w1.drew _); clear hown8 hgrow8 hnew8))
      all_goals
        go_wp2
        go_ret
        have hpos : pos L x.1 = k := pos_is A.out (by have := HN0.out; omega) H2.out
        have he : (([] ++ L.take k) ++ [x]) ++ [] = ins x L := by
          unfold ins
          rw [hpos]
          rw [List.drop_of_length_le (by have := HN0.out; omega)]
          simp
        have hw1 := H1.out.1
        exact ⟨rfl, rf_end H0.out (hw1.trans (HB5.out.mono hw1.size)) (H0.out.wl.ins HG.out HI.out HL.out) (he ▸ HO5.out.mono hw1.size)⟩
end Go.Proofs.Ytfonbompglddaaa
