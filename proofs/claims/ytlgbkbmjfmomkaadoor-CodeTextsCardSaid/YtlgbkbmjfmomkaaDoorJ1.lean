/-
  The walk of the document's OfBytes.
-/
import Derived.Test.YtlgbkbmjfmomkaaDoorJ0
import Derived.Test.YtlgbkbmjfmomkaaDoorF2
namespace Go.Proofs.YtlgbkbmjfmomkaaDoor
open Go.RowKit CodM

/-- the program whose bytes stand ahead, if it may be -/
def goodP (l : List UInt8) : Option (Prg × List UInt8) := match rdProg l with
  | some (p, r) => if CodM.may (codeNk p) p then some (p, r) else none
  | none => none
theorem goodP_none {l : List UInt8} (h : rdProg l = none) : goodP l = none := by unfold goodP; rw [h]
theorem goodP_bad {l r : List UInt8} {p : Prg} (h : rdProg l = some (p, r)) (hm : CodM.may (codeNk p) p = false) : goodP l = none := by unfold goodP; rw [h]; simp [hm]
theorem goodP_good {l r : List UInt8} {p : Prg} (h : rdProg l = some (p, r)) (hm : CodM.may (codeNk p) p = true) : goodP l = some (p, r) := by unfold goodP; rw [h]; simp [hm]
/-- what the document's OfBytes answers -/
def ROfTo (l : List UInt8) (w : World) (e : Ending) (w' : World) : Prop :=
  Below w.heap.size w w' ∧ match goodP l with
  | none => e = .returned (.tuple #[.agg #[.int .i64 0, .slice none 0 0], .int .i64 0, .bool false])
  | some (p, r) => ∃ a n c, e = .returned (.tuple #[.agg #[.int .i64 p.vars, .slice a n c], .int .i64 (l.length - r.length : Nat), .bool true]) ∧ SlOk a n c ∧ Cop w.heap.size w' a n p.kinds
theorem rofTo_no {l : List UInt8} {w w' : World} (h : goodP l = none) (hb : Below w.heap.size w w') : ROfTo l w (.returned (.tuple #[.agg #[.int .i64 0, .slice none 0 0], .int .i64 0, .bool false])) w' := by
  refine ⟨hb, ?_⟩
  rw [h]
theorem rdIns_end {l : List UInt8} {k : Nat} (h : l.length ≤ k) : rdIns (l.drop k) = none := by rw [List.drop_eq_nil_of_le h]; rfl
theorem rdKind_end {l : List UInt8} {k : Nat} (h : l.length ≤ k) : rdKind (l.drop k) = none := by rw [List.drop_eq_nil_of_le h]; rfl
theorem rdIns_plain {l : List UInt8} {k : Nat} (h : k < l.length) (hn : numbered (l[k].toNat : Int) = false) : rdIns (l.drop k) = some (((l[k].toNat : Int), 0), l.drop (k + 1)) := by
  rw [List.drop_eq_getElem_cons h]
  simp [rdIns, hn]
theorem rdIns_short {l : List UInt8} {k : Nat} (h : k < l.length) (hn : numbered (l[k].toNat : Int) = true) (hs : l.length < k + 9) : rdIns (l.drop k) = none := by
  rw [List.drop_eq_getElem_cons h]
  simp [rdIns, hn]
  omega
theorem rdIns_full {l : List UInt8} {k : Nat} (h : k < l.length) (hn : numbered (l[k].toNat : Int) = true) (hs : k + 9 ≤ l.length) : rdIns (l.drop k) = some (((l[k].toNat : Int), wrap64 (numOf ((l.drop (k + 1)).take 8))), l.drop (k + 9)) := by
  rw [List.drop_eq_getElem_cons h]
  have : ¬ (l.length - (k + 1) < 8) := by omega
  simp [rdIns, hn, this]
theorem rdKind_at {l : List UInt8} {k : Nat} (h : k < l.length) : rdKind (l.drop k) = rdN l[k].toNat (l.drop (k + 1)) := by
  rw [List.drop_eq_getElem_cons h]
  rfl
theorem rdProg_at {l : List UInt8} (h : 2 ≤ l.length) : rdProg l = (rdKs l[1].toNat (l.drop 2)).map fun q => (⟨(l[0].toNat : Int), q.1⟩, q.2) := by
  match l, h with
  | x :: y :: t, _ => rfl
theorem rdProg_short {l : List UInt8} (h : l.length < 2) : rdProg l = none := by
  match l, h with
  | [], _ => rfl
  | [x], _ => rfl
  | x :: y :: t, h => simp at h; omega
/-- the boxes of the result and of the program -/
def Two (w : World) (R : Nat) (x : Int) (kv : Value) : Prop := w.heap[R]? = some (.cells #[.int .i64 0, .slice none 0 0] 24) ∧ w.heap[R + 1]? = some (.cells #[.int .i64 x, kv] 24)
/-- so many kinds are read -/
def ORel (w : World) (x : Int) (n : Nat) (l : List UInt8) (at' i : Value) (wr : World) : Prop :=
  ∃ (k p : Nat) (ks : List (List Ins)) (kv : Value) (vs : List Value), k ≤ n ∧ i = .int .i64 k ∧ at' = .int .i64 p ∧ p ≤ l.length ∧ rdKs k (l.drop 2) = some (ks, l.drop p) ∧ Two wr w.heap.size x kv ∧ KRow (w.heap.size + 2) wr kv vs ks ∧ Below w.heap.size w wr
/-- so many instructions of a kind are read -/
def IRel (wo : World) (s m : Nat) (l : List UInt8) (at' v i : Value) (wr : World) : Prop :=
  ∃ (k p : Nat) (xs : List Ins), k ≤ m ∧ i = .int .i64 k ∧ at' = .int .i64 p ∧ p ≤ l.length ∧ rdN k (l.drop s) = some (xs, l.drop p) ∧ IOwn wo.heap.size wr v xs ∧ Below wo.heap.size wo wr
theorem Two.next {w w' : World} {R : Nat} {x : Int} {kv : Value} (h : Two w R x kv) (hb : Below w.heap.size w w') : Two w' R x kv := ⟨(hb.block _ (heap_lt h.1)).trans h.1, (hb.block _ (heap_lt h.2)).trans h.2⟩
theorem Two.cells {w : World} {R : Nat} {x : Int} {kv : Value} (h : Two w R x kv) :
    w.cell? ⟨R, 0, none⟩ = some (.int .i64 0) ∧ w.cell? ⟨R, 1, none⟩ = some (.slice none 0 0) ∧ w.cell? ⟨R + 1, 0, none⟩ = some (.int .i64 x) ∧ w.cell? ⟨R + 1, 1, none⟩ = some kv ∧
    w.frozen? ⟨R, 0, none⟩ = false ∧ w.frozen? ⟨R, 1, none⟩ = false ∧ w.frozen? ⟨R + 1, 0, none⟩ = false ∧ w.frozen? ⟨R + 1, 1, none⟩ = false :=
  ⟨by rw [cell_of_row _ _ _ _ _ _ h.1]; rfl, by rw [cell_of_row _ _ _ _ _ _ h.1]; rfl, by rw [cell_of_row _ _ _ _ _ _ h.2]; rfl, by rw [cell_of_row _ _ _ _ _ _ h.2]; rfl,
   frozen_of_row _ _ _ _ _ h.1, frozen_of_row _ _ _ _ _ h.1, frozen_of_row _ _ _ _ _ h.2, frozen_of_row _ _ _ _ _ h.2⟩
theorem below_two {w wr : World} (hb : Below w.heap.size w wr) (a b : Value) : Below w.heap.size w ((wr.setCell ⟨w.heap.size, 0, none⟩ a).setCell ⟨w.heap.size, 1, none⟩ b) := (hb.setCell (Nat.le_refl _) _).setCell (Nat.le_refl _) _

set_option maxHeartbeats 8000000 in
set_option maxRecDepth 100000 in
theorem rofBytes_any (l : List UInt8) (a : Option Addr) (c : Nat) (w : World) (h1 : l.length ≤ c) (h2 : l.length ≤ 3000) (hb : BytAt w a l) :
    Calls Tryd.prog 21 #[.slice a l.length c] w (ROfTo l w) := by
  obtain ⟨i0, hi, hz0, hz1, hz2⟩ := info_parts infoI
  obtain ⟨j0, hj, hy0, hy1, hy2⟩ := info_parts infoS
  obtain ⟨N, hN⟩ : ∃ N, N = l.length := ⟨_, rfl⟩
  rw [← hN] at h1 h2 ⊢
  by_cases hs : N < 2
  · have HS := Lib.hid (goodP_none (rdProg_short (l := l) (by omega)))
    clear hb hN
    go_enter Tryd.func21, Tryd.ntmps21
    go_wp2
    refine bodyPost_ret (v := .tuple #[.agg #[.int .i64 0, .slice none 0 0], .int .i64 0, .bool false]) (by simp [results, Tryd.results21, go_sem]) rfl (rofTo_no HS.out ?_)
    exact ((Below.refl _ _).alloc (Nat.le_refl _) _).alloc (by simp) _
  · have hl2 : 2 ≤ l.length := by omega
    obtain ⟨B, off, rfl, hcell⟩ : ∃ B off, a = some ⟨B, off, none⟩ ∧ ∀ i (h : i < l.length), w.cell? ⟨B, off + i, none⟩ = some (.int .u8 (l[i].toNat : Int)) := by
      rcases hb with h | h
      · rw [h] at hl2; simp at hl2
      · exact h
    have hPR := rdProg_at hl2
    have e0 := hcell 0 (by omega)
    have e1 := hcell 1 (by omega)
    have hB := World.block_lt_of_cell? w _ e0
    simp only at hB
    obtain ⟨n, hn⟩ : ∃ n : Nat, n = l[1].toNat := ⟨_, rfl⟩
    have hn255 : n < 256 := by rw [hn]; exact l[1].toNat_lt
    obtain ⟨x, hx⟩ : ∃ x : Int, x = (l[0].toNat : Int) := ⟨_, rfl⟩
    rw [← hn, ← hx] at hPR
    rw [← hx, Nat.add_zero] at e0
    rw [← hn] at e1
    have hx0 : 0 ≤ x := by omega
    have hx1 : x < 256 := by have := l[0].toNat_lt; omega
    have HC := Lib.hid hcell
    have HPR := Lib.hid hPR
    have HN := Lib.hid hN
    clear hb hcell hPR hn hx hN
    go_enter Tryd.func21, Tryd.ntmps21
    go_wp2
    obtain ⟨w1, hw1⟩ : ∃ w1, w1 = (w.alloc (.cells #[.int .i64 0, .slice none 0 0] 24)).alloc (.cells #[.int .i64 x, .slice none 0 0] 24) := ⟨_, rfl⟩
    have hT1 : Two w1 w.heap.size x (.slice none 0 0) := by
      rw [hw1]
      refine ⟨(heap_alloc_old _ _ (by simp)).trans (heap_alloc_new _ _), ?_⟩
      have := heap_alloc_new (w.alloc (.cells #[.int .i64 0, .slice none 0 0] 24)) (.cells #[.int .i64 x, .slice none 0 0] 24)
      simpa using this
    have HT1 := Lib.hid hT1
    have HW1 := Lib.hid (show Below w.heap.size w w1 from by rw [hw1]; exact ((Below.refl _ _).alloc (Nat.le_refl _) _).alloc (by simp) _)
    rw [← hw1]
    clear hw1 hT1 e0
    go_loopw [6, 7] (fun p i wr => ORel w x n l p i wr) (fun _ i _ => n - (intOf i).toNat)
    case atStart => exact ⟨0, 2, [], _, [], Nat.zero_le _, rfl, rfl, hl2, rfl, HT1.out, ⟨World.ownsRow_nil _ _ _ _, KV.nil _ _⟩, HW1.out⟩
    case round =>
      obtain ⟨wo, rfl⟩ : ∃ wo : World, wo = wr := ⟨_, rfl⟩
      obtain ⟨k, p, ks, kv, vs, hk, rfl, rfl, hp, hrd, htw, hrow, hbel⟩ := hrel
      obtain ⟨r0, r1, p0, p1, f0, f1, g0, g1⟩ := htw.cells
      have hTsz := heap_lt htw.2
      have d1 := hbel.cell (p := ⟨B, off + 1, none⟩) hB |>.trans e1
      have HRD := Lib.hid hrd
      have HTW := Lib.hid htw
      have HROW := Lib.hid hrow
      have HBEL := Lib.hid hbel
      clear hrd htw hrow hbel
      by_cases hlt : k < n
      · by_cases hend : N ≤ p
        · have HNO := Lib.hid (goodP_none (l := l) (by rw [HPR.out, rdKs_stop HRD.out (rdKind_end (by have := HN.out; omega)) hlt]; rfl))
          go_wp2
          obtain ⟨k0, k1⟩ := fin_cells HTW.out.1 (.int .i64 0) (.slice none 0 0)
          refine bodyPost_ret (v := .tuple #[.agg #[.int .i64 0, .slice none 0 0], .int .i64 0, .bool false]) (by simp [results, Tryd.results21, go_sem, k0, k1]) rfl (rofTo_no HNO.out ?_)
          exact below_two HBEL.out _ _
        · have hpl : p < l.length := by have := HN.out; omega
          have d2 := HBEL.out.cell (p := ⟨B, off + p, none⟩) hB |>.trans (HC.out p hpl)
          obtain ⟨m, hm⟩ : ∃ m : Nat, m = l[p].toNat := ⟨_, rfl⟩
          have hm255 : m < 256 := by rw [hm]; exact l[p].toNat_lt
          rw [← hm] at d2
          have HM := Lib.hid hm
          clear hm
          go_wp2
          have HSZ := Lib.hid hTsz
          have HE1 := Lib.hid e1
          clear r0 r1 p0 p1 f0 f1 g0 g1 d1 d2 e1
          go_loopw [6, 9, 10] (fun q v i wr => IRel wo (p + 1) m l q v i wr) (fun _ _ i _ => m - (intOf i).toNat)
          case atStart => exact ⟨0, p + 1, [], Nat.zero_le _, rfl, by go_num, hpl, rfl, World.ownsRow_nil _ _ _ _, Below.refl _ _⟩
          case round =>
            obtain ⟨i, q, xs, hi', rfl, rfl, hq, hrn, hown, hbi⟩ := hrel
            have HRN := Lib.hid hrn
            have HOWN := Lib.hid hown
            have HBI := Lib.hid hbi
            have HTWi := Lib.hid (HTW.out.next hbi)
            have HBW := Lib.hid (HBEL.out.trans (hbi.mono HBEL.out.size))
            have hsz : wo.heap.size ≤ wr.heap.size := hbi.size
            have hsw : w.heap.size ≤ wo.heap.size := HBEL.out.size
            clear hrn hown hbi
            by_cases hlti : i < m
            · by_cases hende : N ≤ q
              · have HNO := Lib.hid (goodP_none (l := l) (by rw [HPR.out, rdKs_stop HRD.out (by rw [rdKind_at hpl, ← HM.out]; exact rdN_stop HRN.out (rdIns_end (by have := HN.out; omega)) hlti) hlt]; rfl))
                obtain ⟨r0, r1, _, _, f0, f1, _, _⟩ := HTWi.out.cells
                go_wp2
                obtain ⟨k0, k1⟩ := fin_cells HTWi.out.1 (.int .i64 0) (.slice none 0 0)
                refine bodyPost_ret (v := .tuple #[.agg #[.int .i64 0, .slice none 0 0], .int .i64 0, .bool false]) (by simp [results, Tryd.results21, go_sem, k0, k1]) rfl (rofTo_no HNO.out ?_)
                exact below_two HBW.out _ _
              · have hql : q < l.length := by have := HN.out; omega
                have d2 := HBW.out.cell (p := ⟨B, off + q, none⟩) hB |>.trans (HC.out q hql)
                obtain ⟨o, ho⟩ : ∃ o : Int, o = (l[q].toNat : Int) := ⟨_, rfl⟩
                have ho0 : 0 ≤ o := by omega
                have ho1 : o < 256 := by have := l[q].toNat_lt; omega
                rw [← ho] at d2
                have HO := Lib.hid ho
                clear ho
                have hBr : B < wr.heap.size := by omega
                rcases hnum : numbered o with _ | _
                · have HNUM := Lib.hid hnum
                  have HRI := Lib.hid (rdIns_plain hql (by rw [← HO.out]; exact hnum))
                  clear hnum
                  go_wp2_with (first
                    | (go_at_call 27; refine (rnumbered_any _ _).mono ?_; rintro e w2 ⟨rfl, hb2⟩; rw [HNUM.out]; refine Hid.out ?_))
                  have hbx : w2.heap[wr.heap.size]? = some (.cells #[.int .i64 o, .int .i64 0] 49) := (hb2.block _ (by simp)).trans (heap_alloc_new _ _)
                  have c0 : w2.cell? ⟨wr.heap.size, 0, none⟩ = some (.int .i64 o) := by rw [cell_of_row _ _ _ _ _ _ hbx]; rfl
                  have c1 : w2.cell? ⟨wr.heap.size, 1, none⟩ = some (.int .i64 0) := by rw [cell_of_row _ _ _ _ _ _ hbx]; rfl
                  have hlx := rdN_length HRN.out
                  have HO2 := Lib.hid (IOwn.next (IOwn.alloc HOWN.out (.cells #[.int .i64 o, .int .i64 0] 49)) hb2)
                  have HB2 := Lib.hid (HBI.out.trans ((((Below.refl wr.heap.size wr).alloc (Nat.le_refl _) _).trans (hb2.mono (by simp))).mono hsz))
                  have hs2 : wo.heap.size ≤ w2.heap.size := HB2.out.size
                  have hs2r : wr.heap.size < w2.heap.size := heap_lt hbx
                  clear hb2 hbx d2
                  refine Lib.hid ?_
                  go_wp2_with (first
                    | (at_builtin; refine wpList_append_own _ rfl _ _ 46 rfl wo.heap.size 49 i0 (.agg #[.int .i64 0, .int .i64 0]) 2 16 Tryd.underlying46 hi hz0 hz1 hz2 rfl (by decide) _ _ _ rfl (IOwn.alloc HO2.out _) ⟨w2.heap.size, 0, none⟩ 1 1 [.int .i64 o, .int .i64 0] rfl rfl (two_cells _ _ _ _ _) (two_one _ _) (by unfold maxLen; omega) (by omega) (by simp; omega) ?_; intro v3 w3 hown3 hgrow3 _; refine Hid.out ?_))
                  have HO3 : Hid (IOwn wo.heap.size w3 v3 (xs ++ [(o, 0)])) := IOwn.of hown3 (by simp) (insCells_snoc xs (o, 0))
                  have HB3 := Lib.hid (HB2.out.trans (IOwn.grown (IOwn.alloc HO2.out (.cells #[.int .i64 o, .int .i64 0] 49)) ((Below.refl wo.heap.size w2).alloc hs2 _) (by simp; omega) hgrow3))
                  clear hown3 hgrow3 c0 c1
                  refine Lib.hid ?_
                  go_wp2
                  go_roundw
                  case rel =>
                    (try ((repeat apply Exists.intro); refine And.intro ?_ rfl))
                    refine ⟨i + 1, q + 1, xs ++ [(o, 0)], by omega, by go_num, by go_num, hql, ?_, HO3.out, HB3.out⟩
                    rw [← HO.out] at HRI
                    exact rdN_step HRN.out HRI.out
                  case measure => simp [intOf]; omega
                · have HNUM := Lib.hid hnum
                  by_cases hfull : N < q + 9
                  · have HNO := Lib.hid (goodP_none (l := l) (by rw [HPR.out, rdKs_stop HRD.out (by rw [rdKind_at hpl, ← HM.out]; exact rdN_stop HRN.out (rdIns_short hql (by rw [← HO.out]; exact hnum) (by have := HN.out; omega)) hlti) hlt]; rfl))
                    clear hnum
                    go_wp2_with (first
                      | (go_at_call 27; refine (rnumbered_any _ _).mono ?_; rintro e w2 ⟨rfl, hb2⟩; rw [HNUM.out]; refine Hid.out ?_))
                    have HBW2 := Lib.hid (HBW.out.trans ((((Below.refl wr.heap.size wr).alloc (Nat.le_refl _) _).trans (hb2.mono (by simp))).mono HBW.out.size))
                    have HT2 := Lib.hid ((HTWi.out.next ((Below.refl wr.heap.size wr).alloc (Nat.le_refl _) _)).next hb2)
                    obtain ⟨r0, r1, _, _, f0, f1, _, _⟩ := HT2.out.cells
                    clear hb2 d2
                    refine Lib.hid ?_
                    go_wp2
                    obtain ⟨k0, k1⟩ := fin_cells HT2.out.1 (.int .i64 0) (.slice none 0 0)
                    refine bodyPost_ret (v := .tuple #[.agg #[.int .i64 0, .slice none 0 0], .int .i64 0, .bool false]) (by simp [results, Tryd.results21, go_sem, k0, k1]) rfl (rofTo_no HNO.out ?_)
                    exact below_two HBW2.out _ _
                  · have HRI := Lib.hid (rdIns_full hql (by rw [← HO.out]; exact hnum) (by have := HN.out; omega))
                    clear hnum
                    go_wp2_with (first
                      | (go_at_call 27; refine (rnumbered_any _ _).mono ?_; rintro e w2 ⟨rfl, hb2⟩; rw [HNUM.out]; refine Hid.out ?_))
                    have hbx : w2.heap[wr.heap.size]? = some (.cells #[.int .i64 o, .int .i64 0] 49) := (hb2.block _ (by simp)).trans (heap_alloc_new _ _)
                    have c0 : w2.cell? ⟨wr.heap.size, 0, none⟩ = some (.int .i64 o) := by rw [cell_of_row _ _ _ _ _ _ hbx]; rfl
                    have c1 : w2.cell? ⟨wr.heap.size, 1, none⟩ = some (.int .i64 0) := by rw [cell_of_row _ _ _ _ _ _ hbx]; rfl
                    have y1 : w2.frozen? ⟨wr.heap.size, 1, none⟩ = false := frozen_of_row _ _ _ _ _ hbx
                    have hlx := rdN_length HRN.out
                    have HO2 := Lib.hid (IOwn.next (IOwn.alloc HOWN.out (.cells #[.int .i64 o, .int .i64 0] 49)) hb2)
                    have HB2r := Lib.hid (((Below.refl wr.heap.size wr).alloc (Nat.le_refl _) (.cells #[.int .i64 o, .int .i64 0] 49)).trans (hb2.mono (by simp)))
                    have HB2 := Lib.hid (HBI.out.trans (HB2r.out.mono hsz))
                    have hs2 : wo.heap.size ≤ w2.heap.size := HB2.out.size
                    have hs2r : wr.heap.size < w2.heap.size := heap_lt hbx
                    have HBX := Lib.hid hbx
                    have HCB : Hid (∀ j (h : j < ((l.drop (q + 1)).take 8).length), w2.cell? ⟨B, off + (q + 1) + j, none⟩ = some (.int .u8 (((l.drop (q + 1)).take 8)[j].toNat : Int))) := by
                      intro j hj
                      have hjl : q + 1 + j < l.length := by simp at hj; omega
                      have h := HC.out (q + 1 + j) hjl
                      rw [show off + (q + 1 + j) = off + (q + 1) + j from by omega] at h
                      rw [HB2r.out.cell (p := ⟨B, off + (q + 1) + j, none⟩) hBr, HBW.out.cell (p := ⟨B, off + (q + 1) + j, none⟩) hB, h]
                      simp
                    have HL8 : Hid (((l.drop (q + 1)).take 8).length = 8) := by have := HN.out; show _ = _; simp; omega
                    clear hb2 hbx d2
                    refine Lib.hid ?_
                    go_wp2_with (first
                      | (go_at_call 41; refine (rnum_any ((l.drop (q + 1)).take 8) _ _ _ _ HL8.out HCB.out).mono ?_; rintro e w' ⟨rfl, rfl⟩; refine Hid.out ?_))
                    obtain ⟨V, hV⟩ : ∃ V, V = numOf ((l.drop (q + 1)).take 8) % 18446744073709551616 := ⟨_, rfl⟩
                    have hV0 : 0 ≤ V := by omega
                    have hV1 : V < 18446744073709551616 := by omega
                    rw [← hV]
                    have HV : Hid (IntKind.i64.wrap V = wrap64 (numOf ((l.drop (q + 1)).take 8))) := by
                      show _ = _
                      rw [wrapI, hV]
                      unfold wrap64
                      omega
                    clear hV
                    have HO2s := Lib.hid (IOwn.set HO2.out wr.heap.size 1 (.int .i64 (wrap64 V)) (fun k e => by have := (World.ownsRow.lt HOWN.out k e).2; omega))
                    have HB2s := Lib.hid (HB2.out.setCell (p := ⟨wr.heap.size, 1, none⟩) (by show wo.heap.size ≤ wr.heap.size; omega) (.int .i64 (wrap64 V)))
                    have hss : (w2.setCell ⟨wr.heap.size, 1, none⟩ (.int .i64 (wrap64 V))).heap.size = w2.heap.size := by simp [World.setCell]
                    refine Lib.hid ?_
                    go_wp2_with (first
                      | (at_builtin; refine wpList_append_own _ rfl _ _ 46 rfl wo.heap.size 49 i0 (.agg #[.int .i64 0, .int .i64 0]) 2 16 Tryd.underlying46 hi hz0 hz1 hz2 rfl (by decide) _ _ _ rfl (IOwn.alloc HO2s.out _) ⟨w2.heap.size, 0, none⟩ 1 1 [.int .i64 o, .int .i64 (wrap64 V)] rfl rfl (by rw [← hss]; exact two_cells _ _ _ _ _) (two_one _ _) (by unfold maxLen; omega) (by omega) (by simp; omega) ?_; intro v3 w3 hown3 hgrow3 _; refine Hid.out ?_))
                    have HO3 : Hid (IOwn wo.heap.size w3 v3 (xs ++ [(o, wrap64 V)])) := IOwn.of hown3 (by simp) (insCells_snoc xs (o, wrap64 V))
                    have HB3 := Lib.hid (HB2s.out.trans (IOwn.grown (IOwn.alloc HO2s.out (.cells #[.int .i64 o, .int .i64 (wrap64 V)] 49)) ((Below.refl wo.heap.size _).alloc (by rw [hss]; exact hs2) _) (by simp; omega) hgrow3))
                    clear hown3 hgrow3 c0 c1 y1 hss
                    refine Lib.hid ?_
                    go_wp2
                    go_roundw
                    case rel =>
                      (try ((repeat apply Exists.intro); refine And.intro ?_ rfl))
                      refine ⟨i + 1, q + 9, xs ++ [(o, wrap64 V)], by omega, by go_num, by go_num, by have := HN.out; omega, ?_, HO3.out, HB3.out⟩
                      have h := HRI.out
                      rw [← HO.out, ← HV.out, wrapI] at h
                      exact rdN_step HRN.out h
                    case measure => simp [intOf]; omega
            · obtain rfl : i = m := by omega
              have hlx := rdN_length HRN.out
              have hlk := rdKs_length HRD.out
              have hown := HOWN.out
              unfold IOwn at hown
              rw [hlx] at hown
              obtain ⟨a3, c3, rfl, hsl3, hio3⟩ := insOwn_of hown hlx (rdN_wf HRN.out) (by omega)
              clear hown
              have HSL3 := Lib.hid hsl3
              have HIO3 := Lib.hid (hio3.mono (B' := w.heap.size + 2) (by omega))
              have HRW := Lib.hid (HROW.out.next HBI.out)
              obtain ⟨_, _, _, p1, _, _, _, _⟩ := HTWi.out.cells
              have hTi := heap_lt HTWi.out.2
              clear hsl3 hio3
              go_wp2_with (first
                | (at_builtin; refine wpList_append_own _ rfl _ _ 22 rfl (w.heap.size + 2) 46 j0 (.slice none 0 0) 1 24 Tryd.underlying22 hj hy0 hy1 hy2 rfl (by decide) _ _ _ rfl (World.ownsRow.alloc HRW.out.1 _) ⟨wr.heap.size, 0, none⟩ 1 1 [.slice a3 i c3] rfl rfl (one_val _ _ _ _) (sl_one _ _ _) (by unfold maxLen; omega) (by omega) (by simp; omega) ?_; intro v4 w4 hown4 hgrow4 _; refine Hid.out ?_))
              have hrwa : KRow (w.heap.size + 2) (wr.alloc (.cells #[.slice a3 i c3] 46)) kv vs ks := HRW.out.next ((Below.refl _ _).alloc (Nat.le_refl _) _)
              have hio4 : InsOwn (w.heap.size + 2) (wr.alloc (.cells #[.slice a3 i c3] 46)) a3 i xs := HIO3.out.keep (Keep.below (wr.heap.size + 5) ((Below.refl wr.heap.size wr).alloc (Nat.le_refl _) _)) (fun cur e => by have := heap_lt e; omega)
              have hrow4 := hrwa.snoc hown4 hgrow4 HSL3.out hio4
              obtain ⟨a4, c4, rfl, hsl4, hcop4⟩ := hrow4.cop
              have htw4 : Two w4 w.heap.size x kv := ⟨hrwa.keep hgrow4 ((heap_alloc_old _ _ (by omega)).trans HTWi.out.1) (by decide), hrwa.keep hgrow4 ((heap_alloc_old _ _ (by omega)).trans HTWi.out.2) (by decide)⟩
              have HB4 := Lib.hid (HBW.out.trans (hrwa.grown ((Below.refl (w.heap.size + 2) wr).alloc (by omega) _) (by simp; omega) hgrow4 |>.mono (by omega)))
              have g1 : w4.cell? ⟨w.heap.size + 1, 1, none⟩ = some kv := by rw [cell_of_row _ _ _ _ _ _ htw4.2]; rfl
              have f1 : w4.frozen? ⟨w.heap.size + 1, 1, none⟩ = false := frozen_of_row _ _ _ _ _ htw4.2
              have HT4 := Lib.hid htw4
              have HR4 := Lib.hid hrow4
              have HS4 := Lib.hid hsl4
              clear hown4 hgrow4 hrwa hio4 hrow4 hsl4 hcop4 htw4 p1
              refine Lib.hid ?_
              go_wp2
              go_roundw
              case rel =>
                (try ((repeat apply Exists.intro); refine And.intro ?_ rfl))
                have hset := heap_setCell_same w4 (w.heap.size + 1) 1 _ _ (.slice a4 (k + 1) c4) HT4.out.2
                refine ⟨k + 1, q, ks ++ [xs], .slice a4 (k + 1) c4, vs ++ [.slice a3 i c3], by omega, by go_num, rfl, hq, ?_, ⟨?_, ?_⟩, ?_, ?_⟩
                · refine rdKs_step HRD.out ?_
                  rw [rdKind_at hpl, ← HM.out]
                  exact HRN.out
                · exact (Below.heap_setCell _ _ _ _ (by show w.heap.size ≠ w.heap.size + 1; omega)).trans HT4.out.1
                · exact hset
                · have h := HR4.out
                  rw [show (ks ++ [xs]).length = k + 1 from by simp [hlk]] at h
                  exact h.but ((But.refl (fun j => j = w.heap.size + 1) w4).setCell (.inl rfl) _) (fun j cur e hh => by subst e; rw [HT4.out.2] at hh; cases hh) (fun j cur e hh => by subst e; rw [HT4.out.2] at hh; cases hh)
                · exact HB4.out.setCell (by show w.heap.size ≤ w.heap.size + 1; omega) _
              case measure => simp [intOf]; omega
      · obtain rfl : k = n := by omega
        have hlk := rdKs_length HRD.out
        obtain ⟨ka, kc, rfl, hksl, hkcop, hkat⟩ := HROW.out.kinds (by omega)
        rw [hlk] at hksl hkcop hkat
        have hPE : rdProg l = some (⟨x, ks⟩, l.drop p) := by rw [HPR.out, HRD.out]; rfl
        have HPE := Lib.hid hPE
        have HKSL := Lib.hid hksl
        have HKC := Lib.hid hkcop
        have HPA := Lib.hid (show ProgAt wo ka k ⟨x, ks⟩ from ⟨by show -9223372036854775808 ≤ x ∧ x ≤ 9223372036854775807; omega, hkat⟩)
        have HLK := Lib.hid hlk
        clear hPE hksl hkcop hkat
        rcases hmay : CodM.may k ⟨x, ks⟩ with _ | _
        · have HMAY := Lib.hid hmay
          have HNO := Lib.hid (goodP_bad HPE.out (by show CodM.may (ks.length : Nat) _ = false; rw [HLK.out]; exact hmay))
          clear hmay
          go_wp2_with (first
            | (go_at_call 11; refine (rmay_any _ _ _ ⟨x, ks⟩ _ HPA.out).mono ?_; rintro e w2 ⟨rfl, hb2⟩; rw [HMAY.out]; refine Hid.out ?_))
          have HT2 := Lib.hid (HTW.out.next hb2)
          obtain ⟨q0, q1, _, _, y0, y1, _, _⟩ := HT2.out.cells
          have HB2 := Lib.hid (HBEL.out.trans (hb2.mono HBEL.out.size))
          clear hb2 r0 r1 p0 p1 f0 f1 g0 g1
          refine Lib.hid ?_
          go_wp2
          obtain ⟨k0, k1⟩ := fin_cells HT2.out.1 (.int .i64 0) (.slice none 0 0)
          refine bodyPost_ret (v := .tuple #[.agg #[.int .i64 0, .slice none 0 0], .int .i64 0, .bool false]) (by simp [results, Tryd.results21, go_sem, k0, k1]) rfl (rofTo_no HNO.out ?_)
          exact below_two HB2.out _ _
        · have HMAY := Lib.hid hmay
          have HYES := Lib.hid (goodP_good HPE.out (by show CodM.may (ks.length : Nat) _ = true; rw [HLK.out]; exact hmay))
          clear hmay
          go_wp2_with (first
            | (go_at_call 11; refine (rmay_any _ _ _ ⟨x, ks⟩ _ HPA.out).mono ?_; rintro e w2 ⟨rfl, hb2⟩; rw [HMAY.out]; refine Hid.out ?_))
          have HT2 := Lib.hid (HTW.out.next hb2)
          obtain ⟨q0, q1, q2, q3, y0, y1, _, _⟩ := HT2.out.cells
          have HB2 := Lib.hid (HBEL.out.trans (hb2.mono HBEL.out.size))
          have HBL := Lib.hid hb2
          clear hb2 r0 r1 p0 p1 f0 f1 g0 g1
          refine Lib.hid ?_
          go_wp2
          obtain ⟨k0, k1⟩ := fin_cells HT2.out.1 (.int .i64 x) (.slice ka k kc)
          refine bodyPost_ret (v := .tuple #[.agg #[.int .i64 x, .slice ka k kc], .int .i64 p, .bool true]) (by simp [results, Tryd.results21, go_sem, k0, k1]) rfl ⟨below_two HB2.out _ _, ?_⟩
          rw [HYES.out]
          refine ⟨ka, k, kc, ?_, HKSL.out, ?_⟩
          · have hnp := HN.out
            rw [show ((l.length - (l.drop p).length : Nat) : Int) = p from by simp; omega]
          · have hn1 : ∀ t cur', t ≠ 24 → w2.heap[w.heap.size]? ≠ some (.cells cur' t (0, 0)) := fun t cur' ht h => by rw [HT2.out.1] at h; cases h; exact ht rfl
            have hn0 : ∀ t cur', t ≠ 24 → wo.heap[w.heap.size]? ≠ some (.cells cur' t (0, 0)) := fun t cur' ht h => by rw [HTW.out.1] at h; cases h; exact ht rfl
            exact Cop.mono (C := w.heap.size) ((HKC.out.keep (Keep.below w.heap.size HBL.out) (fun cur' => hn0 _ cur' (by decide)) (fun cur' => hn0 _ cur' (by decide))).keep ((Keep.set w.heap.size 0 (.int .i64 x)).trans (Keep.set w.heap.size 1 (.slice ka k kc))) (fun cur' => hn1 _ cur' (by decide)) (fun cur' => hn1 _ cur' (by decide))) (by omega)
end Go.Proofs.YtlgbkbmjfmomkaaDoor
