/-
  The walk of the document's Bytes.
-/
import Derived.Test.YtlgbkbmjfmomkaaDoorG2
import Derived.Test.YtlgbkbmjfmomkaaDoorG3
namespace Go.Proofs.YtlgbkbmjfmomkaaDoor
open Go.RowKit CodM

theorem wrapU (m : Int) : IntKind.u64.wrap m = m % 18446744073709551616 := by simp [IntKind.wrap, IntKind.signed, IntKind.bits]
theorem high_cells {w : World} {g : Nat} {cur : Array Value} {t : TypeId} {z : Int} (hh : w.heap[g]? = some (.cells cur t (0, 0))) (hc : ∀ j, j < 8 → cur[j]? = some (.int .u8 ((beAt z j).toNat : Int))) :
    ∀ j u, (Lib.byteCells (be8 z))[j]? = some u → w.cell? ((⟨g, 0, none⟩ : Addr).add j) = some u := by
  intro j u hu
  have hj : j < 8 := by
    rcases Nat.lt_or_ge j 8 with h | h
    · exact h
    · rw [List.getElem?_eq_none (by simp [Lib.byteCells, be8_length]; omega)] at hu; cases hu
  have hadd : (⟨g, 0, none⟩ : Addr).add j = ⟨g, j, none⟩ := by unfold Addr.add; split <;> simp_all
  rw [hadd, cell_of_row _ _ _ _ _ _ hh, hc j hj, ← hu]
  simp [Lib.byteCells, be8, hj]
theorem bytes_one (l : List UInt8) : ∀ u ∈ Lib.byteCells l, u.oneCell' = true := by
  intro u hu
  unfold Lib.byteCells at hu
  obtain ⟨b, _, rfl⟩ := List.mem_map.1 hu
  rfl
theorem Buf.next {B : Nat} {w w' : World} {v : Value} {l : List UInt8} (h : Buf B w v l) (hb : Below w.heap.size w w') : Buf B w' v l := by
  refine ⟨h.1, ?_⟩
  rcases h.2 with h2 | ⟨g, cap, cur, e, hg, hh, r⟩
  · exact .inl h2
  · refine .inr ⟨g, cap, cur, e, hg, (hb.block g ?_).trans hh, r⟩
    rcases Nat.lt_or_ge g w.heap.size with h' | h'
    · exact h'
    · rw [Array.getElem?_eq_none h'] at hh; cases hh
def RBytesTo (l : List UInt8) (w : World) (e : Ending) (w' : World) : Prop := ∃ v, e = .returned v ∧ Buf w.heap.size w' v l ∧ Below w.heap.size w w'

set_option maxHeartbeats 4000000 in
set_option maxRecDepth 100000 in
theorem rbytes_any (w : World) (a : Option Addr) (n c : Nat) (k : Nat) (ks : List (List Ins)) (hp : ProgAt w a n ⟨k, ks⟩) (hk10 : k ≤ 8) (hn8 : n ≤ 8) (h128 : ∀ l ∈ ks, l.length ≤ 128) :
    Calls Tryd.prog 16 #[.agg #[.int .i64 k, .slice a n c]] w (RBytesTo (bytesP ⟨k, ks⟩) w) := by
  obtain ⟨i0, hi, hz0, hz1, hz2⟩ := info_parts infoB
  have hkl := hp.2.1
  simp only at hkl
  obtain ⟨t, ht⟩ : ∃ t, t = bytesP ⟨k, ks⟩ := ⟨_, rfl⟩
  rw [← ht]
  have HTX := Lib.hid ht
  have HP := Lib.hid hp
  have H128 := Lib.hid h128
  have HKL := Lib.hid hkl
  clear ht hp h128 hkl
  go_enter Tryd.func16, Tryd.ntmps16
  go_wp2
  obtain ⟨w1, hw1⟩ : ∃ w1, w1 = w.alloc (.cells #[.int .i64 k, .slice a n c] 24) := ⟨_, rfl⟩
  have hbox : w1.heap[w.heap.size]? = some (.cells #[.int .i64 k, .slice a n c] 24) := by rw [hw1]; exact heap_alloc_new _ _
  have hsw : w1.heap.size = w.heap.size + 1 := by rw [hw1]; simp
  have hb1 : Below w.heap.size w w1 := by rw [hw1]; exact (Below.refl _ _).alloc (Nat.le_refl _) _
  obtain ⟨B, hBB⟩ : ∃ B, B = w.heap.size + 1 := ⟨_, rfl⟩
  have hB1 : B ≤ w1.heap.size := by omega
  have hBw : w.heap.size < B := by omega
  have hB0 := two_buf w1 B k n (by omega) (by omega) hB1
  rw [← hw1]
  rw [hsw] at hB0
  have HB0 := Lib.hid hB0
  have HW1 := Lib.hid hb1
  have HBX := Lib.hid hbox
  have HW2 := Lib.hid (show Below B w1 (w1.alloc (.cells #[.int .u8 k, .int .u8 n] 5)) from (Below.refl _ _).alloc hB1 _)
  clear hw1 hbox hsw hb1 hBB hB0
  go_loopw [3, 4] (fun v i wr => BytesRel B w1 n [byteI k, byteI n] ks v i wr) (fun _ i _ => n - (intOf i).toNat)
  case atStart => exact ⟨0, Nat.zero_le _, rfl, by simpa using HB0.out, HW2.out⟩
  case round =>
    obtain ⟨wo, rfl⟩ : ∃ wo : World, wo = wr := ⟨_, rfl⟩
    obtain ⟨j, hj, rfl, hbuf, hbel⟩ := hrel
    obtain ⟨h0, hh0⟩ : ∃ h0, h0 = [byteI k, byteI n] ++ (ks.take j).flatMap kindBytes := ⟨_, rfl⟩
    rw [← hh0] at hbuf
    have hlen : h0.length ≤ 40000 := by
      have h1 := kindsB_length (ks.take j) (fun l hl => H128.out l (List.mem_of_mem_take hl))
      have h3 : (ks.take j).length ≤ n := by rw [List.length_take]; omega
      rw [hh0, List.length_append]
      simp only [List.length_cons, List.length_nil]
      omega
    have HH0 := Lib.hid hh0
    have HBUF := Lib.hid hbuf
    have HBEL := Lib.hid hbel
    clear hbuf hbel hh0
    have HWo := Lib.hid (HW1.out.trans (HBEL.out.mono (by omega)))
    have hso : w1.heap.size ≤ wo.heap.size := HBEL.out.size
    have c1 : wo.cell? ⟨w.heap.size, 1, none⟩ = some (.slice a n c) := by rw [cell_of_row _ _ _ _ _ _ ((HBEL.out.block _ hBw).trans HBX.out)]; rfl
    by_cases hlt : j < n
    · obtain ⟨Bk, off, a', n', c', rfl, hBk, d0, hle, hin⟩ := HP.out.2.cell j hlt
      have d1 := cellN d0 HWo.out
      obtain ⟨l, hl⟩ : ∃ l, l = ks.getD j [] := ⟨_, rfl⟩
      simp only at hin
      rw [← hl] at hin
      have HIN := Lib.hid hin
      have hmax := hin.2.2.1
      have hl128 : n' ≤ 128 := by
        rw [← hin.1, hl]
        have hjl : j < ks.length := by rw [HKL.out]; exact hlt
        exact H128.out _ (by simp [List.getD, hjl])
      have HLL := Lib.hid hl
      have HD0 := Lib.hid d0
      clear hin hl d0
      go_wp2_with (first
        | (at_builtin; refine wpList_append_own _ rfl _ _ 25 rfl B 5 i0 (.int .u8 0) 1 1 Tryd.underlying25 hi hz0 hz1 hz2 rfl (by decide) _ _ _ rfl (HBUF.out.alloc _) ⟨wo.heap.size, 0, none⟩ 1 1 [Value.int .u8 (n' : Int)] rfl rfl (one_cell _ _ _ _) (one_one _) (by unfold maxLen; omega) (by omega) (by simp; omega) ?_; intro v4 w4 hown4 hgrow4 _; refine Hid.out ?_))
      have HB4 : Hid (Buf B w4 v4 (h0 ++ [byteI l.length] ++ (l.take 0).flatMap insBytes)) := by
        refine Buf.of hown4 ?_ ?_
        · simp
        · rw [show [Value.int .u8 (n' : Int)] = Lib.byteCells [byteI l.length] from by rw [HIN.out.1]; show _ = [Value.int .u8 ((byteI (n' : Int)).toNat : Int)]; rw [byteI_nat n' (by omega)], byteCells_append]; simp
      have HW4 := Lib.hid (HBEL.out.trans (HBUF.out.grown ((Below.refl _ _).alloc (by omega) _) (by simp; omega) hgrow4))
      clear hown4 hgrow4 c1 d1
      refine Lib.hid ?_
      go_wp2
      go_loopw [3, 5] (fun v i wr => InsBRel B w1 n' (h0 ++ [byteI l.length]) l v i wr) (fun _ i _ => n' - (intOf i).toNat)
      case atStart => exact ⟨0, Nat.zero_le _, rfl, HB4.out, HW4.out⟩
      case round =>
        obtain ⟨i, hi', rfl, hbuf, hbel⟩ := hrel
        obtain ⟨h1, hh1⟩ : ∃ h1, h1 = h0 ++ [byteI l.length] ++ (l.take i).flatMap insBytes := ⟨_, rfl⟩
        rw [← hh1] at hbuf
        have hll : l.length = n' := HIN.out.1
        have hlen1 : h1.length ≤ 50000 := by
          have h2 := insB_length (l.take i)
          have h3 : (l.take i).length ≤ 128 := by rw [List.length_take]; omega
          rw [hh1]
          simp only [List.length_append, List.length_cons, List.length_nil]
          omega
        have HLEN := Lib.hid hll
        have HH1 := Lib.hid hh1
        have HBUFi := Lib.hid hbuf
        have HBELi := Lib.hid hbel
        clear hbuf hbel hh1 hll
        have hsi : w1.heap.size ≤ wr.heap.size := HBELi.out.size
        have HWi := Lib.hid (HW1.out.trans (HBELi.out.mono (by omega)))
        have c1 : wr.cell? ⟨w.heap.size, 1, none⟩ = some (.slice (some ⟨Bk, off, none⟩) n c) := by rw [cell_of_row _ _ _ _ _ _ ((HBELi.out.block _ hBw).trans HBX.out)]; rfl
        have d1 := cellN HD0.out HWi.out
        by_cases hlti : i < n'
        · obtain ⟨Bi, offi, rfl, hBi, e1, e2⟩ := (HIN.out.below HWi.out (Nat.le_refl _)).cell i hlti
          obtain ⟨b1, b2⟩ := HIN.out.bounds i hlti
          obtain ⟨⟨o, m⟩, hx⟩ : ∃ x : Ins, x = l.getD i (0, 0) := ⟨_, rfl⟩
          rw [← hx] at e1 e2 b1 b2
          have HX := Lib.hid hx
          clear hx
          simp only at e1 e2 b1 b2
          obtain ⟨m0, m1⟩ := b2
          obtain ⟨o0, o1⟩ := b1
          go_wp2_with (first
            | (at_builtin; refine wpList_append_own _ rfl _ _ 25 rfl B 5 i0 (.int .u8 0) 1 1 Tryd.underlying25 hi hz0 hz1 hz2 rfl (by decide) _ _ _ rfl ((HBUFi.out.alloc _).alloc _) ⟨wr.heap.size + 1, 0, none⟩ 1 1 [Value.int .u8 (o % 256)] rfl rfl (by have := one_cell (wr.alloc (.cells #[.int .i64 o, .int .i64 m] 49)) (o % 256) 5 (0, 0); simpa using this) (one_one _) (by unfold maxLen; omega) (by omega) (by simp; omega) ?_; intro v5 w5 hown5 hgrow5 _; refine Hid.out ?_))
          have HB5 : Hid (Buf B w5 v5 (h1 ++ [byteI o])) := by
            refine Buf.of hown5 ?_ ?_
            · simp
            · rw [cell_byteI, byteCells_append]
          have HN5 := Lib.hid (HBUFi.out.grown (((Below.refl _ _).alloc (by omega) _).alloc (by simp; omega) _) (by simp; omega) hgrow5)
          have hbox5 := ((HBUFi.out.alloc _).alloc _).keep hgrow5 ((heap_alloc_old _ _ (by simp)).trans (heap_alloc_new _ _)) (by decide)
          have y0 : w5.cell? ⟨wr.heap.size, 0, none⟩ = some (.int .i64 o) := by rw [cell_of_row _ _ _ _ _ _ hbox5]; rfl
          have hsz5 : wr.heap.size < w5.heap.size := by have := hgrow5.size; simp at this; omega
          have HX5 := Lib.hid hbox5
          clear hown5 hgrow5 hbox5 c1 d1 e1 e2
          refine Lib.hid ?_
          rcases hnum : numbered o with _ | _
          · have HNUM := Lib.hid hnum
            clear hnum
            go_wp2_with (first
              | (go_at_call 27; refine (rnumbered_any _ _).mono ?_; rintro e w6 ⟨rfl, hb6⟩; rw [HNUM.out]; have HB6 := Lib.hid hb6; clear hb6))
            go_roundw
            case rel =>
              (try ((repeat apply Exists.intro); refine And.intro ?_ rfl))
              refine ⟨i + 1, by omega, by go_num, ?_, HBELi.out.trans (HN5.out.trans (HB6.out.mono (by omega)))⟩
              rw [flat_step insBytes l i (0, 0) (by rw [HLEN.out]; exact hlti), ← HX.out, ← List.append_assoc, ← HH1.out]
              have h := HB5.out.next HB6.out
              unfold insBytes
              simp only [HNUM.out]
              exact h
            case measure => simp [intOf]; omega
          · have HNUM := Lib.hid hnum
            clear hnum
            go_wp2_with (first
              | (go_at_call 27; refine (rnumbered_any _ _).mono ?_; rintro e w6 ⟨rfl, hb6⟩; rw [HNUM.out]; refine Hid.out ?_))
            have y1 : w6.cell? ⟨wr.heap.size, 1, none⟩ = some (.int .i64 m) := by rw [cell_of_row _ _ _ _ _ _ ((hb6.block _ hsz5).trans HX5.out)]; rfl
            have HB6 := Lib.hid hb6
            have hsz6 : w5.heap.size ≤ w6.heap.size := hb6.size
            clear hb6 y0
            refine Lib.hid ?_
            go_wp2_with (first
              | (go_at_call 34; refine (rhigh_any m (IntKind.u64.wrap m) _ (by rw [wrapU]; omega) (by rw [wrapU]; omega) (wrapU m)).mono ?_; rintro e w7 ⟨cur, rfl, hh7, hc7, hb7⟩; refine Hid.out ?_))
            have HB7 := Lib.hid ((HB5.out.next HB6.out).next hb7)
            have HSRC := Lib.hid (high_cells hh7 hc7)
            have HN7 := Lib.hid (HB6.out.trans (hb7.mono hsz6))
            have hsz7 : w6.heap.size ≤ w7.heap.size := hb7.size
            clear hh7 hc7 hb7 y1
            refine Lib.hid ?_
            go_wp2_with (first
              | (at_builtin; refine wpList_append_own _ rfl _ _ 25 rfl B 5 i0 (.int .u8 0) 1 1 Tryd.underlying25 hi hz0 hz1 hz2 rfl (by decide) _ _ _ rfl HB7.out ⟨w6.heap.size, 0, none⟩ 8 8 (Lib.byteCells (be8 m)) rfl (by simp [Lib.byteCells, be8_length]) HSRC.out (bytes_one _) (by unfold maxLen; simp; omega) (by simp; omega) (by omega) ?_; intro v8 w8 hown8 hgrow8 _; refine Hid.out ?_))
            have HB8 : Hid (Buf B w8 v8 (h1 ++ insBytes (o, m))) := by
              refine Buf.of hown8 ?_ ?_
              · unfold insBytes; simp only [HNUM.out]; simp [be8_length]
              · rw [byteCells_append]; unfold insBytes; simp only [HNUM.out]; simp
            have HN8 := Lib.hid (HN5.out.trans ((HN7.out.mono (by omega)).trans (HB7.out.grown (Below.refl _ _) (by omega) hgrow8)))
            clear hown8 hgrow8
            refine Lib.hid ?_
            go_wp2
            go_roundw
            case rel =>
              (try ((repeat apply Exists.intro); refine And.intro ?_ rfl))
              refine ⟨i + 1, by omega, by go_num, ?_, HBELi.out.trans HN8.out⟩
              rw [flat_step insBytes l i (0, 0) (by rw [HLEN.out]; exact hlti), ← HX.out, ← List.append_assoc, ← HH1.out]
              exact HB8.out
            case measure => simp [intOf]; omega
        · go_wp2
          go_roundw
          case rel =>
            refine ⟨j + 1, by omega, by go_num, ?_, HBELi.out⟩
            have hjl : j < ks.length := by rw [HKL.out]; exact hlt
            rw [flat_step kindBytes ks j [] hjl, ← HLL.out, ← List.append_assoc, ← HH0.out]
            have := HBUFi.out
            rw [HH1.out, List.take_of_length_le (by rw [HLEN.out]; omega)] at this
            unfold kindBytes
            simpa using this
          case measure => simp [intOf]; omega
    · have hte : h0 = t := by
        rw [HH0.out, HTX.out, List.take_of_length_le (by rw [HKL.out]; omega)]
        unfold bytesP
        rw [HKL.out]
        rfl
      have HTE := Lib.hid hte
      clear hte
      go_wp2
      go_ret
      refine ⟨_, rfl, ?_, HWo.out⟩
      rw [← HTE.out]
      exact HBUF.out.mono (by omega)
end Go.Proofs.YtlgbkbmjfmomkaaDoor
