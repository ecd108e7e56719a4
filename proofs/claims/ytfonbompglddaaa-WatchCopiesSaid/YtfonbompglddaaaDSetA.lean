/-
  The walk of the document's Set, where it sets: into no slice; behind all.
-/
import Derived.Test.YtfonbompglddaaaDSame
import Derived.Deep.RegionLaw
import Derived.OwnWalk
import Derived.TacticsIn
namespace Go.Proofs.Ytfonbompglddaaa
open Go Go.RowKit Go.Lib Go.Sort Go.Proofs

/-- a number and its breakpoint, as an object -/
abbrev OnO (x : On) : Obj := .cells #[.int .u32 (x.1 : Nat), .int .i64 x.2.1, .int .i64 x.2.2.1, .int .i64 x.2.2.2] oT
theorem pos_is {L : List On} {i k : Nat} (h : ∀ (j : Nat) (y : On), j < k → L[j]? = some y → y.1 < i) (hk : k ≤ L.length) (h2 : ∀ z, L[k]? = some z → ¬ z.1 < i) : pos L i = k := by
  induction L generalizing k with
  | nil => simp at hk; subst hk; rfl
  | cons a t ih =>
    unfold pos
    rw [List.takeWhile_cons]
    cases k with
    | zero =>
      have := h2 a rfl
      rw [if_neg (by simpa using this)]
      rfl
    | succ k =>
      have h0 := h 0 a (Nat.succ_pos _) rfl
      rw [if_pos (by simpa using h0), List.length_cons]
      exact congrArg (· + 1) (ih (fun j y hj hy => h (j + 1) y (Nat.succ_lt_succ hj) (by simpa using hy)) (by simpa using hk) fun z hz => h2 z (by simpa using hz))
set_option maxHeartbeats 8000000 in
set_option maxRecDepth 100000 in
theorem rset_a {w : World} {R : Nat} {n c : Nat} {S : Nat → Prop} {L : List On} (h : Rf w R S L) (x : On) (hi : x.1 < 4294967296) (hm : bmay x.2 = true) (hg : lget L x.1 = none) (hl : L.length < 16) (hR : w.heap[R]? = some (RO (.slice none n c))) (hn0 : n = L.length) (hnc : n ≤ c) (hA : OnC.At w none n L) (h3 : L = [] ∧ c = 0) : Calls Try.prog 20 #[.pointer (some ⟨R, 0, none⟩), .int .u32 (x.1 : Nat), BkV x.2] w (rfT.To (.int .i64 0) R S (ins x L) w) := by
  have mixed : Try.prog.follows .mixedOrders = true := by kernel_rfl
  have H0 := Lib.hid h
  have HG := Lib.hid hg
  have HI := Lib.hid hi
  have HL := Lib.hid hl
  have HR := Lib.hid hR
  have HA := Lib.hid hA
  have HN0 := Lib.hid hn0
  have hnb : n < 16 := by omega
  have hd : decide ((n : Int) ≥ 16) = false := by simp; omega
  have HS := Lib.hid h3
  clear h3
  have HNC := Lib.hid hnc
  clear h hi hg hl hR hA hn0 hnc
  go_enter Try.func20, Try.ntmps20
  go_wp2_with (first
    | (go_at_call 32; refine (of_any (H0.out.below H1.out.1) x.1).mono ?_; rintro e w2 ⟨r, rfl, hr, rfl⟩; obtain rfl := hr.none HG.out; have r0 : w1.cell? ⟨R, 0, none⟩ = some (.slice none n c) := (cell_of_row _ _ _ _ _ _ ((H1.out.1.block _ (Array.getElem?_eq_some_iff.1 HR.out).1).trans HR.out)).trans rfl; clear hr)
    | (go_at_call 16; refine (rmay_is (b := x.2) hm).mono ?_; rintro e w1 ⟨rfl, hb⟩; have H1 : Hid (Below w.heap.size w w1 ∧ w1.heap[w.heap.size]? = some (BkO x.2)) := ⟨((Below.refl _ _).alloc (Nat.le_refl _) _).trans (hb.mono (by simp)), (hb.block _ (by simp)).trans (heap_alloc_new _ _)⟩; clear hb))
  go_loopg [7] n (fun kx s7 wr => ∃ k : Nat, s7 = .int .i64 k ∧ k ≤ n ∧ n - k ≤ kx ∧ w1 = wr ∧ Aside (∀ (j : Nat) (y : On), j < k → L[j]? = some y → y.1 < x.1))
  case atStart => exact ⟨0, by go_num, Nat.zero_le _, Nat.le_refl _, rfl, fun j y hj => absurd hj (Nat.not_lt_zero _)⟩
  case round =>
    obtain ⟨k, rfl, hkn, hkx, rfl, A⟩ := hrel
    have hkb : k < 1000000 := by omega
    by_cases hlt : k < n
    · exfalso
      have := HN0.out
      rw [HS.out.1] at this
      simp at this
      omega
    · have hlz : decide ((k : Int) < (n : Int)) = false := by simp; omega
      obtain rfl : k = n := by omega
      have H2 : Hid (∀ z, L[k]? = some z → ¬ z.1 < x.1) := fun z hz => by have := (List.getElem?_eq_some_iff.1 hz).1; have := HN0.out; omega
      obtain ⟨hLn, rfl⟩ := HS.out
      have hk0 : k = 0 := by rw [HN0.out, hLn]; rfl
      subst hk0
      clear hLn
      have hcl := r0
      have hkc : 0 ≤ 0 := by have := HNC.out; omega
      have HRB : Hid (∀ W, Below w1.heap.size w1 W → W.heap[R]? = some (RO (.slice none 0 0))) := fun W hb => (hb.block _ (Nat.lt_of_lt_of_le (Array.getElem?_eq_some_iff.1 HR.out).1 H1.out.1.size)).trans ((H1.out.1.block _ (Array.getElem?_eq_some_iff.1 HR.out).1).trans HR.out)
      have hst : ∀ W, Below w1.heap.size w1 W → W.cell? ⟨R, 0, none⟩ = some (.slice none 0 0) ∧ W.heap[w.heap.size]? = some (BkO x.2) ∧ OnC.At W none 0 L := fun W hb => ⟨(by rw [cell_of_row _ _ _ _ _ _ (HRB.out W hb)]; rfl), (hb.block _ (Array.getElem?_eq_some_iff.1 H1.out.2).1).trans H1.out.2, (HA.out.below H1.out.1).below hb⟩
      have HST := Lib.hid hst
      have HBD : Hid (Below w1.heap.size w1 w1.drew) := (Below.refl _ _).drew
      have HBA : Hid (Below w1.heap.size w1 (w1.drew.alloc (OnO x))) := (Below.refl _ _).drew.alloc (Nat.le_refl _) _
      obtain ⟨b0, b1, b2⟩ := bk_box H1.out.2
      have a0 : (w1.drew.alloc (OnO x)).cell? ⟨R, 0, none⟩ = some (.slice none 0 0) := (hst _ HBA.out).1
      have a1 : (w1.alloc (OnO x)).cell? ⟨R, 0, none⟩ = some (.slice none 0 0) := (hst _ ((Below.refl _ _).alloc (Nat.le_refl _) _)).1
      have HSZ : Hid (0 + 1 + (0 - 0) ≤ 100000) := by have := HN0.out; have := HL.out; show _ ≤ _; omega
      clear hst
      go_wp2_with fail
      go_region_law (first
        | (refine rowO.step_none rfl _ _ rfl w1.heap.size (.slice a5 n5 k5) _ rfl HO5.out rfl ?_)
        | (refine rowO.step rfl _ _ rfl w1.heap.size (.slice none 0 0) [] rfl (World.ownsRow_nil _ _ _ _) ⟨w1.heap.size, 0, none⟩ 1 1 [x] rfl rfl (Cod.news_one _ x _ (0, 0) (heap_alloc_new w1.drew _)) (by simp) (by simp) HBA.out.size ?_; intro v5 w5 hown5 hgrow5 hnew5; obtain ⟨a5, n5, k5, rfl⟩ := hown5.shape; have HO5 := Lib.hid hown5; have HB5 : Hid (Below w1.heap.size w1 w5) := HBA.out.trans ((But.grown hgrow5).below HBA.out.size fun k e => by cases e); have c5 := (HST.out _ HB5.out).1; have f5 : w5.frozen? ⟨R, 0, none⟩ = false := frozen_of_row _ _ _ _ _ (HRB.out _ HB5.out); clear hown5 hgrow5 hnew5)
        | (refine rowO.step_none rfl _ _ rfl w1.heap.size (.slice none 0 0) [] rfl (World.ownsRow_nil _ _ _ _) rfl ?_))
      all_goals
        go_wp2
        go_ret
        have hpos : pos L x.1 = 0 := pos_is A.out (by have := HN0.out; omega) H2.out
        have he : [] ++ [x] = ins x L := by
          unfold ins
          rw [hpos]
          rw [HS.out.1]
          rfl
        have hw1 := H1.out.1
        exact ⟨rfl, rf_end H0.out (hw1.trans (HB5.out.mono hw1.size)) (H0.out.wl.ins HG.out HI.out HL.out) (he ▸ HO5.out.mono hw1.size)⟩
end Go.Proofs.Ytfonbompglddaaa
