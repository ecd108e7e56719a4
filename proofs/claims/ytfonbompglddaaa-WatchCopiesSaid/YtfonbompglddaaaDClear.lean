/-
  The walk of the document's Clear of one that is there.
-/
import Derived.Test.YtfonbompglddaaaDSame
import Derived.Deep.RegionLaw
import Derived.OwnWalk
import Derived.TacticsIn
namespace Go.Proofs.Ytfonbompglddaaa
open Go Go.RowKit Go.Lib Go.Sort Go.Proofs

theorem at_inj {L : List On} (h : Wl L) {j k : Nat} {x y : On} (hj : L[j]? = some x) (hk : L[k]? = some y) (e : x.1 = y.1) : j = k := by
  obtain ⟨hj1, hj2⟩ := List.getElem?_eq_some_iff.1 hj
  obtain ⟨hk1, hk2⟩ := List.getElem?_eq_some_iff.1 hk
  have hu := List.pairwise_iff_getElem.1 h.up
  rcases Nat.lt_trichotomy j k with h1 | h1 | h1
  · have := hu j k hj1 hk1 h1
    rw [hj2, hk2, e] at this
    exact absurd this (Nat.lt_irrefl _)
  · exact h1
  · have := hu k j hk1 hj1 h1
    rw [hj2, hk2, e] at this
    exact absurd this (Nat.lt_irrefl _)
set_option maxHeartbeats 4000000 in
set_option maxRecDepth 100000 in
theorem rclear_a {w : World} {R B n c k : Nat} {S : Nat → Prop} {L : List On} (h : Rf w R S L) (x : On) (hk : L[k]? = some x) (hg : lget L x.1 = some x.2) (hR : w.heap[R]? = some (RO (.slice (some ⟨B, 0, none⟩) n c))) (hn0 : n = L.length) (hnc : n ≤ c) (hA : OnC.At w (some ⟨B, 0, none⟩) n L) (hck : k + 1 = c) : Calls Try.prog 24 #[.pointer (some ⟨R, 0, none⟩), .int .u32 (x.1 : Nat)] w (rfT.To (.int .i64 0) R S (del x.1 L) w) := by
  have mixed : Try.prog.follows .mixedOrders = true := by kernel_rfl
  have H0 := Lib.hid h
  have HK := Lib.hid hk
  have HG := Lib.hid hg
  have HN0 := Lib.hid hn0
  have HN6 : Hid (L.length ≤ 16) := h.wl.le
  have hin : k < n := by rw [hn0]; exact (List.getElem?_eq_some_iff.1 hk).1
  have hkb : k < 1000000 := by have := h.wl.le; omega
  have hiz : (k : Int) < (n : Int) := by omega
  have hk0 : decide ((k : Int) < 0) = false := by simp
  obtain ⟨m, hm⟩ : ∃ m, m = k + 1 := ⟨_, rfl⟩
  have hmi : (k : Int) + 1 = (m : Int) := by omega
  have hwi : IntKind.i64.wrap ((k : Int) + 1) = (m : Int) := by rw [IntKind.wrap_i64]; omega
  have hmw : IntKind.i64.wrap (m : Int) = (m : Int) := by rw [IntKind.wrap_i64]; omega
  have hkm : k ≤ m := by omega
  have hmn : m ≤ n := by omega
  have hmc : m ≤ c := by omega
  have hkc : k ≤ c := by omega
  have HM := Lib.hid hm
  obtain rfl : m = n := by omega
  obtain rfl : m = c := by omega
  have HRB : Hid (∀ W, Below w.heap.size w W → W.heap[R]? = some (RO (.slice (some ⟨B, 0, none⟩) m m))) := fun W hb => (hb.block _ (Array.getElem?_eq_some_iff.1 hR).1).trans hR
  have hst : ∀ W, Below w.heap.size w W → W.cell? ⟨R, 0, none⟩ = some (.slice (some ⟨B, 0, none⟩) m m) ∧ OnC.At W (some ⟨B, 0, none⟩) m L := fun W hb => ⟨(by rw [cell_of_row _ _ _ _ _ _ (HRB.out W hb)]; rfl), hA.below hb⟩
  have HST := Lib.hid hst
  have HBD : Hid (Below w.heap.size w w.drew) := (Below.refl _ _).drew
  have hcl : w.cell? ⟨R, 0, none⟩ = some (.slice (some ⟨B, 0, none⟩) m m) := (hst _ (Below.refl _ _)).1
  have hcd : w.drew.cell? ⟨R, 0, none⟩ = some (.slice (some ⟨B, 0, none⟩) m m) := (hst _ HBD.out).1
  have HLT : Hid ((L.take k).length = k) := by show _ = _; rw [List.length_take, ← hn0]; omega
  have HLD : Hid ((L.drop m).length = m - m) := by show _ = _; rw [List.length_drop, ← hn0]
  have HS1 : Hid (∀ W, Below w.heap.size w W → ∀ j u, (OnC.cells (L.take k))[j]? = some u → W.cell? ((⟨B, 0, none⟩ : Addr).add j) = some u) := fun W hb => by
    have := (hst W hb).2.part 0 k (Nat.zero_le _) (by omega) B 0 rfl
    simp only [Nat.zero_mul, Nat.add_zero, List.drop_zero] at this
    exact this.news
  have HSZ : Hid (k + 16 ≤ 1000) := by have := h.wl.le; show _ ≤ _; omega
  clear h hk hg hR hn0 hnc hA hst hm
  go_enter Try.func24, Try.ntmps24
  go_wp2_with (go_at_call 32; refine (of_any H0.out x.1).mono ?_; rintro e w2 ⟨r, rfl, hr, rfl⟩; obtain ⟨k2, rfl, hk2⟩ := hr.some HG.out; obtain rfl : k = k2 := (at_inj H0.out.wl hk2 HK.out rfl).symm; clear hr hk2)
  go_region_law (first
    | (refine rowO.step rfl _ _ rfl w.heap.size v6 _ rfl HO6.out _ _ _ [] rfl rfl (by intro j u hj; simp [Cod.cells] at hj) (by have := HSZ.out; have := HLT.out; simp only [List.length_append, List.length_nil]; omega) (by have := HSZ.out; have := HLT.out; simp only [List.length_append, List.length_nil]; omega) HB6.out.size ?_; intro v5 w5 hown5 hgrow5 hnew5; obtain ⟨a5, n5, k5, rfl⟩ := hown5.shape; have HO5 := Lib.hid hown5; have HB5 : Hid (Below w.heap.size w w5) := HB6.out.trans ((But.grown hgrow5).below HB6.out.size fun k e => (HO6.out.lt k e.symm).1); have c5 := (HST.out _ HB5.out).1; have f5 : w5.frozen? ⟨R, 0, none⟩ = false := frozen_of_row _ _ _ _ _ (HRB.out _ HB5.out); clear hown5 hgrow5 hnew5)
    | (refine rowO.step rfl _ _ rfl w.heap.size (.slice none 0 0) [] rfl (World.ownsRow_nil _ _ _ _) ⟨B, 0, none⟩ k m (L.take k) rfl HLT.out.symm (HS1.out _ HBD.out) (by have := HSZ.out; simp only [List.length_nil]; omega) (by have := HSZ.out; simp only [List.length_nil]; omega) HBD.out.size ?_; intro v6 w6 hown6 hgrow6 hnew6; have HO6 := Lib.hid hown6; have HB6 : Hid (Below w.heap.size w w6) := HBD.out.trans ((But.grown hgrow6).below HBD.out.size fun _ e => by cases e); have c6 := (HST.out _ HB6.out).1; clear hown6 hgrow6 hnew6))
  all_goals
    go_wp2
    go_ret
    have hel : [] ++ L.take k ++ [] = del x.1 L := by
      rw [← del_at H0.out.wl.up HK.out, List.drop_of_length_le (by have := HN0.out; have := HM.out; omega)]
      rfl
    exact ⟨rfl, rf_end H0.out HB5.out (H0.out.wl.del x.1) (hel ▸ HO5.out)⟩
set_option maxHeartbeats 4000000 in
set_option maxRecDepth 100000 in
theorem rclear_b {w : World} {R B n c k : Nat} {S : Nat → Prop} {L : List On} (h : Rf w R S L) (x : On) (hk : L[k]? = some x) (hg : lget L x.1 = some x.2) (hR : w.heap[R]? = some (RO (.slice (some ⟨B, 0, none⟩) n c))) (hn0 : n = L.length) (hnc : n ≤ c) (hA : OnC.At w (some ⟨B, 0, none⟩) n L) (hck : ¬ k + 1 = c) : Calls Try.prog 24 #[.pointer (some ⟨R, 0, none⟩), .int .u32 (x.1 : Nat)] w (rfT.To (.int .i64 0) R S (del x.1 L) w) := by
  have mixed : Try.prog.follows .mixedOrders = true := by kernel_rfl
  have H0 := Lib.hid h
  have HK := Lib.hid hk
  have HG := Lib.hid hg
  have HN0 := Lib.hid hn0
  have HN6 : Hid (L.length ≤ 16) := h.wl.le
  have hin : k < n := by rw [hn0]; exact (List.getElem?_eq_some_iff.1 hk).1
  have hkb : k < 1000000 := by have := h.wl.le; omega
  have hiz : (k : Int) < (n : Int) := by omega
  have hk0 : decide ((k : Int) < 0) = false := by simp
  obtain ⟨m, hm⟩ : ∃ m, m = k + 1 := ⟨_, rfl⟩
  have hmi : (k : Int) + 1 = (m : Int) := by omega
  have hwi : IntKind.i64.wrap ((k : Int) + 1) = (m : Int) := by rw [IntKind.wrap_i64]; omega
  have hmw : IntKind.i64.wrap (m : Int) = (m : Int) := by rw [IntKind.wrap_i64]; omega
  have hkm : k ≤ m := by omega
  have hmn : m ≤ n := by omega
  have hmc : m ≤ c := by omega
  have hkc : k ≤ c := by omega
  have HM := Lib.hid hm
  have hcm : ¬ c = m := by omega
  have HRB : Hid (∀ W, Below w.heap.size w W → W.heap[R]? = some (RO (.slice (some ⟨B, 0, none⟩) n c))) := fun W hb => (hb.block _ (Array.getElem?_eq_some_iff.1 hR).1).trans hR
  have hst : ∀ W, Below w.heap.size w W → W.cell? ⟨R, 0, none⟩ = some (.slice (some ⟨B, 0, none⟩) n c) ∧ OnC.At W (some ⟨B, 0, none⟩) n L := fun W hb => ⟨(by rw [cell_of_row _ _ _ _ _ _ (HRB.out W hb)]; rfl), hA.below hb⟩
  have HST := Lib.hid hst
  have HBD : Hid (Below w.heap.size w w.drew) := (Below.refl _ _).drew
  have hcl : w.cell? ⟨R, 0, none⟩ = some (.slice (some ⟨B, 0, none⟩) n c) := (hst _ (Below.refl _ _)).1
  have hcd : w.drew.cell? ⟨R, 0, none⟩ = some (.slice (some ⟨B, 0, none⟩) n c) := (hst _ HBD.out).1
  have HLT : Hid ((L.take k).length = k) := by show _ = _; rw [List.length_take, ← hn0]; omega
  have HLD : Hid ((L.drop m).length = n - m) := by show _ = _; rw [List.length_drop, ← hn0]
  have HS1 : Hid (∀ W, Below w.heap.size w W → ∀ j u, (OnC.cells (L.take k))[j]? = some u → W.cell? ((⟨B, 0, none⟩ : Addr).add j) = some u) := fun W hb => by
    have := (hst W hb).2.part 0 k (Nat.zero_le _) (by omega) B 0 rfl
    simp only [Nat.zero_mul, Nat.add_zero, List.drop_zero] at this
    exact this.news
  have HS2 : Hid (∀ W, Below w.heap.size w W → ∀ j u, (OnC.cells (L.drop m))[j]? = some u → W.cell? ((⟨B, m * 4, none⟩ : Addr).add j) = some u) := fun W hb => by
    have := (hst W hb).2.part m n (by omega) (Nat.le_refl _) B 0 rfl
    rw [List.take_of_length_le (by omega), Nat.zero_add] at this
    exact this.news
  have HSZ : Hid (k + 16 ≤ 1000) := by have := h.wl.le; show _ ≤ _; omega
  clear h hk hg hR hn0 hnc hA hst hm
  go_enter Try.func24, Try.ntmps24
  go_wp2_with (go_at_call 32; refine (of_any H0.out x.1).mono ?_; rintro e w2 ⟨r, rfl, hr, rfl⟩; obtain ⟨k2, rfl, hk2⟩ := hr.some HG.out; obtain rfl : k = k2 := (at_inj H0.out.wl hk2 HK.out rfl).symm; clear hr hk2)
  go_region_law (first
    | (refine rowO.step rfl _ _ rfl w.heap.size v6 _ rfl HO6.out ⟨B, m * 4, none⟩ (n - m) (c - m) (L.drop m) rfl HLD.out.symm (HS2.out _ HB6.out) (by have := HN6.out; have := HN0.out; have := HLT.out; have := HSZ.out; simp only [List.length_append, List.length_nil]; omega) (by have := HN6.out; have := HN0.out; have := HLT.out; have := HSZ.out; simp only [List.length_append, List.length_nil]; omega) HB6.out.size ?_; intro v5 w5 hown5 hgrow5 hnew5; obtain ⟨a5, n5, k5, rfl⟩ := hown5.shape; have HO5 := Lib.hid hown5; have HB5 : Hid (Below w.heap.size w w5) := HB6.out.trans ((But.grown hgrow5).below HB6.out.size fun k e => (HO6.out.lt k e.symm).1); have c5 := (HST.out _ HB5.out).1; have f5 : w5.frozen? ⟨R, 0, none⟩ = false := frozen_of_row _ _ _ _ _ (HRB.out _ HB5.out); clear hown5 hgrow5 hnew5)
    | (refine rowO.step rfl _ _ rfl w.heap.size (.slice none 0 0) [] rfl (World.ownsRow_nil _ _ _ _) ⟨B, 0, none⟩ k c (L.take k) rfl HLT.out.symm (HS1.out _ HBD.out) (by have := HSZ.out; simp only [List.length_nil]; omega) (by have := HSZ.out; simp only [List.length_nil]; omega) HBD.out.size ?_; intro v6 w6 hown6 hgrow6 hnew6; have HO6 := Lib.hid hown6; have HB6 : Hid (Below w.heap.size w w6) := HBD.out.trans ((But.grown hgrow6).below HBD.out.size fun _ e => by cases e); have c6 := (HST.out _ HB6.out).1; clear hown6 hgrow6 hnew6))
  all_goals
    go_wp2
    go_ret
    have hel : [] ++ L.take k ++ L.drop m = del x.1 L := by
      rw [← del_at H0.out.wl.up HK.out, HM.out]
      rfl
    exact ⟨rfl, rf_end H0.out HB5.out (H0.out.wl.del x.1) (hel ▸ HO5.out)⟩
theorem rclear_one {w : World} {R : Nat} {S : Nat → Prop} {L : List On} (h : Rf w R S L) {i : Nat} {b : Bk} (hg : lget L i = some b) : Calls Try.prog 24 #[.pointer (some ⟨R, 0, none⟩), .int .u32 (i : Nat)] w (rfT.To (.int .i64 0) R S (del i L) w) := by
  obtain ⟨a, n, c, hR, hn0, hnc, hA, h3⟩ := h.open
  obtain ⟨k, hk⟩ := lget_at hg
  have hkn := (List.getElem?_eq_some_iff.1 hk).1
  rcases h3 with ⟨-, rfl, -⟩ | ⟨B, rfl, -, -⟩
  · cases hk
  · by_cases hck : k + 1 = c
    · exact rclear_a h (i, b) hk hg hR hn0 hnc hA hck
    · exact rclear_b h (i, b) hk hg hR hn0 hnc hA hck
end Go.Proofs.Ytfonbompglddaaa
