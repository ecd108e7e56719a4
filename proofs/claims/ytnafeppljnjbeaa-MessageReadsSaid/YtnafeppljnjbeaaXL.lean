/-
  The law MessageReads, walked.
-/
import Derived.Test.YtnafeppljnjbeaaXQ
import Derived.Test.YtnafeppljnjbeaaXT
import Derived.Test.YtnafeppljnjbeaaXH
import Derived.Test.YtnafeppljnjbeaaE5
namespace Go.Proofs.Ytnafeppljnjbeaa
open Go Go.RowKit Go.Sort Go.Proofs

theorem rDecodeRequest_any (w : World) (a : Option Addr) (n c : Nat) (b : List UInt8) (hb : CB.At w a n b) (hc : n ≤ c) (hcm : c ≤ 9223372036854775807) (hn : n ≤ 5000) : Calls Try.prog 21 #[.slice a n c] w (DecTo w (decQ b)) := by
  rw [← docQ_eq]
  cases b with
  | nil =>
    obtain rfl : 0 = n := hb.1
    exact rdq_nil w a c
  | cons x l =>
    have hlen : l.length + 1 = n := hb.1
    obtain ⟨B, off, rfl, -⟩ := hb.cell (i := 0) (by omega)
    by_cases hx : 1 ≤ (x.toNat : Int) ∧ (x.toNat : Int) ≤ 12
    · by_cases h5 : n < 5
      · have e : docQ (x :: l) = (zeroQ 0, 14) := by rw [docQ, if_pos hx, if_neg (by omega)]
        rw [e]
        exact rdq_short w B off n c x l hb hx h5
      · obtain ⟨m, rfl⟩ : ∃ m, n = m + 5 := ⟨n - 5, by omega⟩
        obtain ⟨d, rfl⟩ : ∃ d, c = d + 5 := ⟨c - 5, by omega⟩
        exact rdq_main w B off m d x l hb hx (by omega) (by omega) hcm
    · have e : docQ (x :: l) = (zeroQ 0, 12) := by rw [docQ, if_neg hx]
      rw [e]
      by_cases h1 : (x.toNat : Int) < 1
      · exact rdq_low w B off n c x l hb h1
      · exact rdq_high w B off n c x l hb (by omega)
end Go.Proofs.Ytnafeppljnjbeaa
namespace Go.Proofs.Ytnafeppljnjbeaa
open Go Go.RowKit Go.Sort Go.Proofs

theorem rDecodeResponse_any (w : World) (a : Option Addr) (n c : Nat) (b : List UInt8) (hb : CB.At w a n b) (hc : n ≤ c) (hcm : c ≤ 9223372036854775807) (hn : n ≤ 5000) : Calls Try.prog 22 #[.slice a n c] w (DecToS w (decS b)) := by
  rw [← docS_eq]
  cases b with
  | nil =>
    obtain rfl : 0 = n := hb.1
    exact rds_nil w a c
  | cons x l =>
    have hlen : l.length + 1 = n := hb.1
    obtain ⟨B, off, rfl, -⟩ := hb.cell (i := 0) (by omega)
    by_cases hx : 1 ≤ (x.toNat : Int) ∧ (x.toNat : Int) ≤ 5
    · obtain ⟨m, rfl⟩ : ∃ m, n = m + 1 := ⟨n - 1, by omega⟩
      obtain ⟨d, rfl⟩ : ∃ d, c = d + 1 := ⟨c - 1, by omega⟩
      exact rds_main w B off m d x l hb hx (by omega) (by omega) hcm
    · have e : docS (x :: l) = (zeroS 0, 12) := by rw [docS, if_neg hx]
      rw [e]
      by_cases h1 : (x.toNat : Int) < 1
      · exact rds_low w B off n c x l hb h1
      · exact rds_high w B off n c x l hb (by omega)
end Go.Proofs.Ytnafeppljnjbeaa
namespace Go.Proofs.Ytnafeppljnjbeaa
open Go Go.RowKit Go.Sort Go.Proofs

/-- a row of bytes, whatever they are -/
def Bys (W : World) (B n : Nat) : Prop := ∃ cs : Array Value, W.heap[B]? = some (.cells cs 5 (0, 0)) ∧ ∀ i, i < n → ∃ y : UInt8, cs[i]? = some (.int .u8 (y.toNat : Int))
theorem Bys.set {W : World} {B n i : Nat} {y : UInt8} (h : Bys W B n) : Bys (W.setCell ⟨B, i, none⟩ (.int .u8 (y.toNat : Int))) B n := by
  obtain ⟨cs, h1, h2⟩ := h
  refine ⟨_, heap_setCell_same _ _ _ _ _ _ h1, fun j hj => ?_⟩
  obtain ⟨u, hu⟩ := h2 j hj
  by_cases e : i = j
  · subst e
    exact ⟨y, by rw [Array.getElem?_setIfInBounds_self_of_lt (Array.getElem?_eq_some_iff.1 hu).1]⟩
  · exact ⟨u, by rw [Array.getElem?_setIfInBounds_ne e]; exact hu⟩
theorem Bys.next {W W' : World} {B n : Nat} (h : Bys W B n) (hb : Below W.heap.size W W') : Bys W' B n := by
  obtain ⟨cs, h1, h2⟩ := h
  exact ⟨cs, (hb.block _ (Array.getElem?_eq_some_iff.1 h1).1).trans h1, h2⟩
theorem Bys.cell {W : World} {B n i : Nat} (h : Bys W B n) (hi : i < n) : (∃ y : UInt8, W.cell? ⟨B, i, none⟩ = some (.int .u8 (y.toNat : Int))) ∧ W.frozen? ⟨B, i, none⟩ = false := by
  obtain ⟨cs, h1, h2⟩ := h
  obtain ⟨y, hy⟩ := h2 i hi
  exact ⟨⟨y, by rw [cell_of_row _ _ _ _ _ _ h1]; exact hy⟩, frozen_of_row _ _ _ _ _ h1⟩
theorem own_copyR (w : World) (a : Option Addr) (m cap : Nat) (l : List UInt8) (ty : TypeId) (hat : CB.At w a m l) (hnil : a = none → cap = 0) : ∃ a3 c3 w3, (Builtin.append_ #[24, 24] ty #[.slice none 0 0, .slice a m cap]).run Try.prog w = .ok (.slice a3 m c3) w3 ∧ CB.At w3 a3 m l ∧ m ≤ c3 ∧ c3 ≤ 9223372036854775807 ∧ Below w.heap.size w w3 ∧ ((m = 0 ∧ a3 = none) ∨ ∃ B3, a3 = some ⟨B3, 0, none⟩ ∧ w.heap.size ≤ B3 ∧ B3 < w3.heap.size ∧ Bys w3 B3 m) := by
  have hm := hat.1
  have hl := hat.2.1
  cases a with
  | none =>
    obtain rfl := hnil rfl
    have h0 : l = [] := by
      rcases hat.2.2 with h | ⟨_, _, h, _⟩
      · exact List.length_eq_zero_iff.1 (by omega)
      · cases h
    subst h0
    obtain rfl : m = 0 := hm.symm
    exact ⟨none, 0, w, rowB.run_none w ty w.heap.size _ [] (Cod.Own.nil _ _), hat, Nat.le_refl _, by decide, Below.refl _ _, .inl ⟨rfl, rfl⟩⟩
  | some ad =>
    obtain ⟨v', w', hr, ho, hg, hn⟩ := rowB.run w ty w.heap.size _ [] (Cod.Own.nil _ _) ad m cap l hm.symm hat.news (by simp; omega) (by simp; omega) (Nat.le_refl _)
    rw [List.nil_append] at ho
    obtain ⟨a3, c3, rfl, hle, hat3, hb3, hsh⟩ := ho.at_ (by omega)
    rw [hm] at hr hle hat3
    have hmx : c3 ≤ 9223372036854775807 := by rcases ho.2 with ⟨e, _⟩ | ⟨g, cp, cur, e, _, _, _, hm, _⟩; (injection e with e1 e2 e3; omega); (injection e with e1 e2 e3; unfold maxLen at hm; omega)
    refine ⟨a3, c3, w', hr, hat3, hle, hmx, (But.grown hg).below (Nat.le_refl _) (fun i e => by cases e), ?_⟩
    rcases hsh with ⟨h1, h2, _⟩ | ⟨g, h⟩
    · exact .inl ⟨by rw [h2] at hm; exact hm.symm, h1⟩
    · subst h
      obtain ⟨cur, hcur⟩ := ho.typ (b := g) rfl
      refine .inr ⟨g, rfl, (hb3 g rfl).2, (Array.getElem?_eq_some_iff.1 hcur).1, cur, hcur, fun i hi => ?_⟩
      obtain ⟨B, off, e, y, _, hc⟩ := CB_cell hat3 hi
      cases e
      rw [Nat.zero_add, cell_of_row _ _ _ _ _ _ hcur] at hc
      exact ⟨y, hc⟩
/-- what was decoded, in memory -/
structure RB (w W : World) (N b4 b6 : Nat) (q : Rq) (a4 : Option Addr) (c4 : Nat) (s : Rs) (a6 : Option Addr) (c6 : Nat) : Prop where
  below : Below w.heap.size w W
  r4 : W.heap[b4]? = some (.cells (RqC q (.slice a4 q.model.length c4)) 32 (0, 0))
  r6 : W.heap[b6]? = some (.cells (RsC s (.slice a6 s.vars.length c6)) 47 (0, 0))
  h4 : CB.At W a4 q.model.length q.model
  h6 : CV.At W a6 s.vars.length s.vars
  n4 : N ≤ b4
  n6 : N ≤ b6
  f4 : ∀ p, a4 = some p → q.model ≠ [] → N ≤ p.block
  f6 : ∀ p, a6 = some p → s.vars ≠ [] → N ≤ p.block
section
variable {w W : World} {N b4 b6 : Nat} {q : Rq} {a4 : Option Addr} {c4 : Nat} {s : Rs} {a6 : Option Addr} {c6 : Nat}
theorem RB.next {W' : World} (h : RB w W N b4 b6 q a4 c4 s a6 c6) (hb : Below W.heap.size W W') : RB w W' N b4 b6 q a4 c4 s a6 c6 :=
  ⟨h.below.trans (hb.mono h.below.size), (hb.block _ (Array.getElem?_eq_some_iff.1 h.r4).1).trans h.r4, (hb.block _ (Array.getElem?_eq_some_iff.1 h.r6).1).trans h.r6, h.h4.below hb, h.h6.below hb, h.n4, h.n6, h.f4, h.f6⟩
theorem RB.set (h : RB w W N b4 b6 q a4 c4 s a6 c6) {B i : Nat} {v : Value} (hB : w.heap.size ≤ B) (hN : B < N) : RB w (W.setCell ⟨B, i, none⟩ v) N b4 b6 q a4 c4 s a6 c6 := by
  have hbs : But (fun k => k = B) W (W.setCell ⟨B, i, none⟩ v) := (But.refl (fun k => k = B) _).setCell (p := ⟨B, i, none⟩) rfl _
  have h1 := h.n4
  have h2 := h.n6
  exact ⟨h.below.trans (hbs.below h.below.size fun k e => by omega), (hbs.block _ (Array.getElem?_eq_some_iff.1 h.r4).1 (by omega)).trans h.r4, (hbs.block _ (Array.getElem?_eq_some_iff.1 h.r6).1 (by omega)).trans h.r6,
    h.h4.but' hbs fun p e ne _ e2 => by have := h.f4 p e ne; omega, h.h6.but' hbs fun p e ne _ e2 => by have := h.f6 p e ne; omega, h1, h2, h.f4, h.f6⟩
end
/-- the bytes that were decoded are changed, one by one -/
def LRel (w : World) (N b4 b6 : Nat) (q : Rq) (a4 : Option Addr) (c4 : Nat) (s : Rs) (a6 : Option Addr) (c6 : Nat) (a : Option Addr) (n : Nat) (b : List UInt8) (a3 : Option Addr) (iv : Value) (wr : World) : Prop :=
  ∃ k j : Nat, k + j = n ∧ iv = .int .i64 (k : Int) ∧ RB w wr N b4 b6 q a4 c4 s a6 c6 ∧ CB.At wr a n b ∧ (n = 0 ∨ ∃ B3, a3 = some ⟨B3, 0, none⟩ ∧ w.heap.size ≤ B3 ∧ B3 < N ∧ Bys wr B3 n)
set_option maxHeartbeats 4000000 in
set_option maxRecDepth 100000 in
theorem reads_big (w : World) (a : Option Addr) (n c : Nat) (hlen : ¬ n ≤ 5000) : Calls Try.prog 5 #[.slice a n c] w (TellsB true w) := by
  go_enter Try.func5, Try.ntmps5
  go_wp2_with (first
    | (go_at_call 8; refine (known_any _).mono ?_; rintro e w2 ⟨rfl, hb2⟩))
  go_ret
  exact ⟨rfl, hb2⟩
set_option maxHeartbeats 40000000 in
set_option maxRecDepth 100000 in
theorem reads_law (w : World) (a : Option Addr) (n c : Nat) (b : List UInt8) (hb : CB.At w a n b) (hc : n ≤ c) (hcm : c ≤ 9223372036854775807) (hnil : a = none → c = 0) (hn : n ≤ 5000) : Calls Try.prog 5 #[.slice a n c] w (TellsB true w) := by
  have hlen : b.length = n := hb.1
  obtain ⟨q, e1, hq⟩ : ∃ q e, decQ b = (q, e) := ⟨_, _, rfl⟩
  obtain ⟨s, e2, hs⟩ : ∃ q e, decS b = (q, e) := ⟨_, _, rfl⟩
  have HCP : Hid (∀ ty, ∃ a3 c3 w3, (Builtin.append_ #[24, 24] ty #[.slice none 0 0, .slice a n c]).run Try.prog w = .ok (.slice a3 n c3) w3 ∧ CB.At w3 a3 n b ∧ n ≤ c3 ∧ c3 ≤ 9223372036854775807 ∧ Below w.heap.size w w3 ∧ ((n = 0 ∧ a3 = none) ∨ ∃ B3, a3 = some ⟨B3, 0, none⟩ ∧ w.heap.size ≤ B3 ∧ B3 < w3.heap.size ∧ Bys w3 B3 n)) := fun ty => own_copyR w a n c b ty hb hnil
  have HDQ : Hid (∀ W a3 c3, CB.At W a3 n b → n ≤ c3 → c3 ≤ 9223372036854775807 → Calls Try.prog 13 #[.slice a3 n c3] W (DecTo W (q, e1))) := fun W a3 c3 h1 h2 h3 => by rw [← hq, ← hlen]; rw [← hlen] at h1 h2; exact DecodeRequest_any W a3 c3 b h1 h2 h3 (by omega)
  have HDS : Hid (∀ W a3 c3, CB.At W a3 n b → n ≤ c3 → c3 ≤ 9223372036854775807 → Calls Try.prog 19 #[.slice a3 n c3] W (DecToS W (s, e2))) := fun W a3 c3 h1 h2 h3 => by rw [← hs, ← hlen]; rw [← hlen] at h1 h2; exact DecodeResponse_any W a3 c3 b h1 h2 h3 (by omega)
  have HRQ : Hid (∀ W, CB.At W a n b → Calls Try.prog 21 #[.slice a n c] W (DecTo W (q, e1))) := fun W h1 => by rw [← hq]; exact rDecodeRequest_any W a n c b h1 hc hcm hn
  have HRS : Hid (∀ W, CB.At W a n b → Calls Try.prog 22 #[.slice a n c] W (DecToS W (s, e2))) := fun W h1 => by rw [← hs]; exact rDecodeResponse_any W a n c b h1 hc hcm hn
  have HSQ : Hid (∀ W x y c d, CB.At W x q.model.length q.model → CB.At W y q.model.length q.model → Calls Try.prog 12 #[.agg (RqC q (.slice x q.model.length c)), .agg (RqC q (.slice y q.model.length d))] W (TellsB true W)) := fun W x y c d h1 h2 => by rw [← sameQ_self q]; exact rsameRequest_any W q q x y c d h1 h2
  have HSS : Hid (∀ W x y c d, CV.At W x s.vars.length s.vars → CV.At W y s.vars.length s.vars → Calls Try.prog 18 #[.agg (RsC s (.slice x s.vars.length c)), .agg (RsC s (.slice y s.vars.length d))] W (TellsB true W)) := fun W x y c d h1 h2 => by rw [← sameS_self s]; exact rsameResponse_any W s s x y c d h1 h2
  obtain ⟨t, ht⟩ : ∃ t, t = strB b := ⟨_, rfl⟩
  have HT := Lib.hid ht
  have HB := Lib.hid hb
  have hbl : ∀ p, a = some p → b ≠ [] → p.block < w.heap.size := CB_low hb
  have HBL := Lib.hid hbl
  have HL := Lib.hid hlen
  clear hq hs ht hb hbl hc hcm hnil hlen
  go_enter Try.func5, Try.ntmps5
  go_upto_region 6 with (first
    | (at_builtin; obtain ⟨a3, c3, w3, hr3, hat3, hle3, hmx3, hb3, hsh3⟩ := HCP.out _; refine wpList_run_appendB rfl _ _ 24 rfl _ _ _ _ rfl rfl hr3 ?_; have H3 := Lib.hid (And.intro hat3 (And.intro hle3 (And.intro hmx3 (And.intro hb3 hsh3)))); clear hr3 hat3 hle3 hmx3 hb3 hsh3)
    | (go_at_call 13; refine (HDQ.out w3 a3 c3 H3.out.1 H3.out.2.1 H3.out.2.2.1).mono ?_; rintro e w4 ⟨a4, c4, rfl, hle4, hat4, hf4, -, -, hb4⟩; have H4 := Lib.hid (And.intro hat4 (And.intro hf4 hb4)); clear hle4 hat4 hf4 hb4)
    | (show wpList _ _ _ (Oper.mk _ (.store _ (.tmp 4) (.tmp 22)) _ _ _ _ :: _) _ _; refine wpList_store_row rfl 32 (.tmp 4) (.tmp 22) rfl w4.heap.size (RqC q (.slice a4 q.model.length c4)) rfl rfl 32 (RqC (zeroQ 0) (.slice none 0 0)) (heap_alloc_new _ _) (infoQ _ _) rfl (RqC_one _ _ _ _) ?_; generalize hw5 : World.setRow _ _ _ = w5; have g1 : Below w4.heap.size w4 w5 := (by rw [← hw5]; exact (grow_row w4 _ _ _).1); have g2 : w5.heap[w4.heap.size]? = some (.cells (RqC q (.slice a4 q.model.length c4)) 32 (0, 0)) := (by rw [← hw5]; exact (grow_row w4 _ _ _).2); have H5 := Lib.hid (And.intro (H4.out.2.2.trans (g1.mono H4.out.2.2.size)) (And.intro g2 (H4.out.1.below g1))); clear hw5 g1 g2)
    | (go_at_call 19; refine (HDS.out w5 a3 c3 (H3.out.1.below H5.out.1) H3.out.2.1 H3.out.2.2.1).mono ?_; rintro e w6 ⟨a6, c6, rfl, hle6, hat6, hf6, -, -, hb6⟩; have H6 := Lib.hid (And.intro hat6 (And.intro hf6 hb6)); clear hle6 hat6 hf6 hb6)
    | (show wpList _ _ _ (Oper.mk _ (.store _ (.tmp 6) (.tmp 27)) _ _ _ _ :: _) _ _; refine wpList_store_row rfl 47 (.tmp 6) (.tmp 27) rfl w6.heap.size (RsC s (.slice a6 s.vars.length c6)) rfl rfl 47 (RsC (zeroS 0) (.slice none 0 0)) (heap_alloc_new _ _) (infoS _ _) rfl (RsC_one _ _ _ _) ?_; generalize hw7 : World.setRow _ _ _ = w7; have g1 : Below w6.heap.size w6 w7 := (by rw [← hw7]; exact (grow_row w6 _ _ _).1); have g2 : w7.heap[w6.heap.size]? = some (.cells (RsC s (.slice a6 s.vars.length c6)) 47 (0, 0)) := (by rw [← hw7]; exact (grow_row w6 _ _ _).2); have H7 := Lib.hid (And.intro g1 g2); clear hw7 g1 g2)
    | fail)
  have h57 : Below w5.heap.size w5 w7 := H6.out.2.2.trans (H7.out.1.mono H6.out.2.2.size)
  have h37 : Below w3.heap.size w3 w7 := H5.out.1.trans (h57.mono H5.out.1.size)
  have hz34 : w3.heap.size ≤ w4.heap.size := H4.out.2.2.size
  have hz36 : w3.heap.size ≤ w6.heap.size := Nat.le_trans H5.out.1.size H6.out.2.2.size
  have HR : Hid (RB w w7 w3.heap.size w4.heap.size w6.heap.size q a4 c4 s a6 c6) := Lib.hid ⟨H3.out.2.2.2.1.trans (h37.mono H3.out.2.2.2.1.size), (h57.block _ (Array.getElem?_eq_some_iff.1 H5.out.2.1).1).trans H5.out.2.1, H7.out.2, H5.out.2.2.below h57, H6.out.1.below H7.out.1, hz34, hz36, H4.out.2.1, fun p e ne => Nat.le_trans H5.out.1.size (H6.out.2.1 p e ne)⟩
  have HA3 : Hid (CB.At w7 a3 n b) := Lib.hid (H3.out.1.below h37)
  have HAB : Hid (CB.At w7 a n b) := Lib.hid (HB.out.below HR.out.below)
  have hs3 : (convert 24 9 (.slice a3 n c3)).run Try.prog w7 = .ok (.string t) w7 := by rw [HT.out]; exact HA3.out.str c3
  have hs9 : (convert 24 9 (.slice a n c)).run Try.prog w7 = .ok (.string t) w7 := by rw [HT.out]; exact HAB.out.str c
  have H37 := Lib.hid h37
  clear h57 h37 hz34 hz36
  have htt : (t.toList == t.toList) = true := by simp
  go_upto_region 8 with fail
  clear hs3 hs9 htt
  go_wp2_with fail
  go_loopw [8] (fun iv wr => LRel w w3.heap.size w4.heap.size w6.heap.size q a4 c4 s a6 c6 a n b a3 iv wr) (fun iv _ => ((n : Int) - intOf iv).toNat)
  case atStart =>
    refine ⟨0, n, by omega, rfl, HR.out, HAB.out, ?_⟩
    rcases H3.out.2.2.2.2 with ⟨h, _⟩ | ⟨B3, h1, h2, h3, h4⟩
    · exact .inl h
    · exact .inr ⟨B3, h1, h2, h3, h4.next H37.out⟩
  case round =>
    obtain ⟨k, j, hkj, rfl, hRB, hAt, hsh⟩ := hrel
    have HKJ := Lib.hid hkj
    have HRB := Lib.hid hRB
    have HAT := Lib.hid hAt
    clear hRB hAt
    rcases j with _ | j
    · obtain rfl : k = n := by omega
      have hlt : decide ((k : Int) < (k : Int)) = false := decide_eq_false (by omega)
      clear hkj hsh
      go_upto_region 14 with (first
        | (go_at_call 21; refine (HRQ.out wr HAT.out).mono ?_; rintro e w8 ⟨a9, c9, rfl, hle9, hat9, hf9, -, -, hb8⟩; have H8 := Lib.hid (And.intro hat9 hb8); clear hle9 hat9 hf9 hb8)
        | (show wpList _ _ _ (Oper.mk _ (.store _ (.tmp 9) (.tmp 49)) _ _ _ _ :: _) _ _; refine wpList_store_row rfl 32 (.tmp 9) (.tmp 49) rfl w8.heap.size (RqC q (.slice a9 q.model.length c9)) rfl rfl 32 (RqC (zeroQ 0) (.slice none 0 0)) (heap_alloc_new _ _) (infoQ _ _) rfl (RqC_one _ _ _ _) ?_; generalize hw9 : World.setRow _ _ _ = w9; have g1 : Below w8.heap.size w8 w9 := (by rw [← hw9]; exact (grow_row w8 _ _ _).1); have g2 : w9.heap[w8.heap.size]? = some (.cells (RqC q (.slice a9 q.model.length c9)) 32 (0, 0)) := (by rw [← hw9]; exact (grow_row w8 _ _ _).2); have H9 := Lib.hid (And.intro (H8.out.2.trans (g1.mono H8.out.2.size)) (And.intro g2 (H8.out.1.below g1))); clear hw9 g1 g2)
        | (go_at_call 22; refine (HRS.out w9 (HAT.out.below H9.out.1)).mono ?_; rintro e w10 ⟨a11, c11, rfl, hle11, hat11, hf11, -, -, hb10⟩; have H10 := Lib.hid (And.intro hat11 hb10); clear hle11 hat11 hf11 hb10)
        | (show wpList _ _ _ (Oper.mk _ (.store _ (.tmp 11) (.tmp 54)) _ _ _ _ :: _) _ _; refine wpList_store_row rfl 47 (.tmp 11) (.tmp 54) rfl w10.heap.size (RsC s (.slice a11 s.vars.length c11)) rfl rfl 47 (RsC (zeroS 0) (.slice none 0 0)) (heap_alloc_new _ _) (infoS _ _) rfl (RsC_one _ _ _ _) ?_; generalize hw11 : World.setRow _ _ _ = w11; have g1 : Below w10.heap.size w10 w11 := (by rw [← hw11]; exact (grow_row w10 _ _ _).1); have g2 : w11.heap[w10.heap.size]? = some (.cells (RsC s (.slice a11 s.vars.length c11)) 47 (0, 0)) := (by rw [← hw11]; exact (grow_row w10 _ _ _).2); have H11 := Lib.hid (And.intro (H10.out.2.trans (g1.mono H10.out.2.size)) (And.intro g2 (H10.out.1.below g1))); clear hw11 g1 g2)
        | fail)
      have HRC : Hid (RB w w11 w3.heap.size w4.heap.size w6.heap.size q a4 c4 s a6 c6) := Lib.hid (HRB.out.next (H9.out.1.trans (H11.out.1.mono H9.out.1.size)))
      have HT9 : Hid (w11.heap[w8.heap.size]? = some (.cells (RqC q (.slice a9 q.model.length c9)) 32 (0, 0)) ∧ CB.At w11 a9 q.model.length q.model) := Lib.hid ⟨(H11.out.1.block _ (Array.getElem?_eq_some_iff.1 H9.out.2.1).1).trans H9.out.2.1, H9.out.2.2.below H11.out.1⟩
      go_wp2_with (first
        | (show wpList _ _ _ (Oper.mk _ (.load _ (.tmp 4)) _ _ _ _ :: _) _ _; refine wpList_load_row_on rfl 32 (.tmp 4) rfl w4.heap.size rfl 32 (RqC q (.slice a4 q.model.length c4)) (0, 0) _ HRC.out.r4 Try.underlying32 rfl (infoQ _ _) ?_)
        | (show wpList _ _ _ (Oper.mk _ (.load _ (.tmp 9)) _ _ _ _ :: _) _ _; refine wpList_load_row_on rfl 32 (.tmp 9) rfl w8.heap.size rfl 32 (RqC q (.slice a9 q.model.length c9)) (0, 0) _ HT9.out.1 Try.underlying32 rfl (infoQ _ _) ?_)
        | (go_at_call 12; refine (HSQ.out w11 a4 a9 c4 c9 HRC.out.h4 HT9.out.2).mono ?_; rintro e w12 ⟨rfl, hb12⟩; have HRD := Lib.hid (HRC.out.next hb12); have HT12 := Lib.hid (And.intro ((hb12.block _ (Array.getElem?_eq_some_iff.1 H11.out.2.1).1).trans H11.out.2.1) (H11.out.2.2.below hb12)); clear hb12)
        | (show wpList _ _ _ (Oper.mk _ (.load _ (.tmp 6)) _ _ _ _ :: _) _ _; refine wpList_load_row_on rfl 47 (.tmp 6) rfl w6.heap.size rfl 47 (RsC s (.slice a6 s.vars.length c6)) (0, 0) _ HRD.out.r6 Try.underlying47 rfl (infoS _ _) ?_)
        | (show wpList _ _ _ (Oper.mk _ (.load _ (.tmp 11)) _ _ _ _ :: _) _ _; refine wpList_load_row_on rfl 47 (.tmp 11) rfl w10.heap.size rfl 47 (RsC s (.slice a11 s.vars.length c11)) (0, 0) _ HT12.out.1 Try.underlying47 rfl (infoS _ _) ?_)
        | (go_at_call 18; refine (HSS.out w12 a6 a11 c6 c11 HRD.out.h6 HT12.out.2).mono ?_; rintro e w13 ⟨rfl, hb13⟩; have HRE := Lib.hid (HRD.out.next hb13); clear hb13)
        | (go_at_call 8; refine (known_any w13).mono ?_; rintro e w14 ⟨rfl, hb14⟩; have HRF := Lib.hid (HRE.out.next hb14); clear hb14))
      go_ret
      exact ⟨rfl, HRF.out.below⟩
    · have hkn : k < n := by omega
      have hlt : decide ((k : Int) < (n : Int)) = true := decide_eq_true (by omega)
      have hkI : (k : Int) < (n : Int) := by omega
      rcases hsh with h0 | ⟨B3, rfl, hB1, hB2, hys⟩
      · omega
      obtain ⟨⟨y, hcy⟩, hfz⟩ := hys.cell hkn
      obtain ⟨yv, hyv⟩ : ∃ yv : Int, yv = (y.toNat : Int) := ⟨_, rfl⟩
      rw [← hyv] at hcy
      have hy8 := y.toNat_lt
      have hy0 : 0 ≤ yv := by omega
      have hy1 : yv < 256 := by omega
      have hw8 : IntKind.u8.wrap (yv + 1) = ((byteI (yv + 1)).toNat : Int) := wrapB_kind _
      have HYS := Lib.hid hys
      have HBB := Lib.hid (And.intro hB1 hB2)
      clear hkj hys hB1 hB2 hyv hy8 hkn
      go_wp2_with fail
      go_roundw
      case rel =>
        have hbs : But (fun i => i = B3) wr (wr.setCell ⟨B3, k, none⟩ (.int .u8 ((byteI (yv + 1)).toNat : Int))) := (But.refl (fun i => i = B3) _).setCell (p := ⟨B3, k, none⟩) rfl _
        refine ⟨k + 1, j, by have := HKJ.out; omega, by simp, HRB.out.set HBB.out.1 HBB.out.2, ?_, .inr ⟨B3, rfl, HBB.out.1, HBB.out.2, HYS.out.set⟩⟩
        exact HAT.out.but' hbs fun p e ne _ e2 => by have := HBL.out p e ne; have := HBB.out.1; omega
      case measure => first | (simp [intOf]; done) | (simp [intOf]; omega)
theorem reads_all (w : World) (a : Option Addr) (n c : Nat) (b : List UInt8) (hc : n ≤ c) (hcm : c ≤ 9223372036854775807) (hb : n ≤ 1000000 → CB.At w a n b) (hnil : a = none → c = 0) : Calls Try.prog 5 #[.slice a n c] w (TellsB true w) := by
  by_cases hn : n ≤ 5000
  · exact reads_law w a n c b (hb (by omega)) hc hcm hnil hn
  · exact reads_big w a n c hn
end Go.Proofs.Ytnafeppljnjbeaa
