/-
  The walk of Bytes.
-/
import Derived.Test.YtlgbkbmjfmomkaaDoorG1
import Derived.Test.YtlgbkbmjfmomkaaDoorC8
namespace Go.Proofs.YtlgbkbmjfmomkaaDoor
open Go.RowKit CodM

theorem insBytes_length (x : Ins) : (insBytes x).length ≤ 9 := by
  unfold insBytes
  split
  · simp [be8_length]
  · simp
theorem insB_length : ∀ (l : List Ins), (l.flatMap insBytes).length ≤ 9 * l.length
  | [] => by simp
  | x :: r => by
    have h1 := insBytes_length x
    have h2 := insB_length r
    rw [List.flatMap_cons, List.length_append, List.length_cons]
    omega
theorem kindBytes_length (l : List Ins) (hl : l.length ≤ 128) : (kindBytes l).length ≤ 1153 := by
  have := insB_length l
  unfold kindBytes
  simp only [List.length_cons]
  omega
theorem kindsB_length : ∀ (ks : List (List Ins)), (∀ l ∈ ks, l.length ≤ 128) → (ks.flatMap kindBytes).length ≤ 1153 * ks.length
  | [], _ => by simp
  | x :: r, h => by
    have h1 := kindBytes_length x (h x (by simp))
    have h2 := kindsB_length r (fun y hy => h y (by simp [hy]))
    rw [List.flatMap_cons, List.length_append, List.length_cons]
    omega

def BytesRel (B : Nat) (w0 : World) (n : Nat) (hd : List UInt8) (ks : List (List Ins)) (v i : Value) (wr : World) : Prop :=
  ∃ k : Nat, k ≤ n ∧ i = .int .i64 k ∧ Buf B wr v (hd ++ (ks.take k).flatMap kindBytes) ∧ Below B w0 wr
def InsBRel (B : Nat) (w0 : World) (n : Nat) (h : List UInt8) (l : List Ins) (v i : Value) (wr : World) : Prop :=
  ∃ k : Nat, k ≤ n ∧ i = .int .i64 k ∧ Buf B wr v (h ++ (l.take k).flatMap insBytes) ∧ Below B w0 wr
def BytesTo (l : List UInt8) (w : World) (e : Ending) (w' : World) : Prop := ∃ v, e = .returned (.tuple #[v, .int .i64 0]) ∧ Buf w.heap.size w' v l ∧ Below w.heap.size w w'
theorem Buf.mono {B B' : Nat} {w : World} {v : Value} {l : List UInt8} (h : Buf B w v l) (hB : B' ≤ B) : Buf B' w v l := by
  refine ⟨h.1, ?_⟩
  rcases h.2 with h2 | ⟨g, cap, cur, e, hg, r⟩
  · exact .inl h2
  · exact .inr ⟨g, cap, cur, e, by omega, r⟩

def BytesNo (w : World) (e : Ending) (w' : World) : Prop := e = .returned (.tuple #[.slice none 0 0, .int .i64 3]) ∧ Below w.heap.size w w'
set_option maxHeartbeats 1000000 in
theorem bytes_no (w : World) (a : Option Addr) (n c : Nat) (p : Prg) (hG : Glo w) (hp : ProgAt w a n p) (hm : CodM.may (codeNk p) p = false) :
    Calls Tryd.prog 13 #[.agg #[.int .i64 p.vars, .slice a n c]] w (BytesNo w) := by
  have HG := Lib.hid hG
  have HP := Lib.hid hp
  have HM := Lib.hid hm
  clear hG hp hm
  go_enter Tryd.func13, Tryd.ntmps13
  go_wp2_with (first
    | (go_at_call 14; refine (may_any _ _ _ p _ ?_ ?_).mono ?_; (exact HG.out.words.alloc _); (exact HP.out.below ((Below.refl _ _).alloc (Nat.le_refl _) _) (Nat.le_refl _)); rintro e w1 ⟨rfl, hb⟩; rw [HM.out]; have HB := Lib.hid hb; clear hb))
  go_ret2
  exact ⟨rfl, ((Below.refl _ _).alloc (Nat.le_refl _) _).trans (HB.out.mono (by simp))⟩

theorem byteI_nat (k : Nat) (h : k < 256) : ((byteI (k : Int)).toNat : Int) = k := by rw [byteI_val]; omega
theorem two_buf (w : World) (B k n : Nat) (hk : k < 256) (hn : n < 256) (hB : B ≤ w.heap.size) :
    Buf B (w.alloc (.cells #[.int .u8 k, .int .u8 n] 5)) (.slice (some ⟨w.heap.size, 0, none⟩) 2 2) [byteI k, byteI n] := by
  refine ⟨rfl, .inr ⟨w.heap.size, 2, _, rfl, hB, heap_alloc_new _ _, Nat.le_refl _, by decide, rfl, ?_⟩⟩
  show [Value.int .u8 (k : Int), Value.int .u8 (n : Int)] = [Value.int .u8 ((byteI (k : Int)).toNat : Int), Value.int .u8 ((byteI (n : Int)).toNat : Int)]
  rw [byteI_nat k hk, byteI_nat n hn]

set_option maxHeartbeats 4000000 in
set_option maxRecDepth 100000 in
theorem bytes_yes (w : World) (a : Option Addr) (n c : Nat) (k : Nat) (ks : List (List Ins)) (hG : Glo w) (hp : ProgAt w a n ⟨k, ks⟩) (hm : CodM.may (codeNk ⟨k, ks⟩) ⟨k, ks⟩ = true) :
    Calls Tryd.prog 13 #[.agg #[.int .i64 k, .slice a n c]] w (BytesTo (bytesP ⟨k, ks⟩) w) := by
  obtain ⟨i0, hi, hz0, hz1, hz2⟩ := info_parts infoB
  obtain ⟨⟨hv0, hv8, hk1, hk8⟩, h128⟩ := may_parts hm
  have hkl := hp.2.1
  simp only at hv0 hv8 hk1 hk8 h128 hkl
  have hk10 : k ≤ 8 := by omega
  have hn1 : 1 ≤ n := by omega
  have hn8 : n ≤ 8 := by omega
  obtain ⟨t, ht⟩ : ∃ t, t = bytesP ⟨k, ks⟩ := ⟨_, rfl⟩
  rw [← ht]
  have HTX := Lib.hid ht
  have HG := Lib.hid hG
  have HP := Lib.hid hp
  have HM := Lib.hid hm
  have H128 := Lib.hid h128
  have HKL := Lib.hid hkl
  clear ht hG hp hm h128 hkl hv0 hv8 hk1 hk8
  go_enter Tryd.func13, Tryd.ntmps13
  go_wp2_with (first
    | (go_at_call 14; refine (may_any _ _ _ ⟨k, ks⟩ _ ?_ ?_).mono ?_; (exact HG.out.words.alloc _); (exact HP.out.below ((Below.refl _ _).alloc (Nat.le_refl _) _) (Nat.le_refl _)); rintro e w1 ⟨rfl, hb⟩; rw [HM.out]; have HB1 := Lib.hid hb; clear hb; refine Hid.out ?_))
  have hsz1 : w.heap.size + 1 ≤ w1.heap.size := by have := HB1.out.size; simpa using this
  have hbox : w1.heap[w.heap.size]? = some (.cells #[.int .i64 k, .slice a n c] 24) := (HB1.out.block _ (by simp)).trans (heap_alloc_new _ _)
  have c0 : w1.cell? ⟨w.heap.size, 0, none⟩ = some (.int .i64 k) := by rw [cell_of_row _ _ _ _ _ _ hbox]; rfl
  have c1 : w1.cell? ⟨w.heap.size, 1, none⟩ = some (.slice a n c) := by rw [cell_of_row _ _ _ _ _ _ hbox]; rfl
  obtain ⟨B, hBB⟩ : ∃ B, B = w.heap.size + 1 := ⟨_, rfl⟩
  have hB1 : B ≤ w1.heap.size := by omega
  have hBw : w.heap.size < B := by omega
  have HBX := Lib.hid hbox
  have HW1 := Lib.hid (show Below w.heap.size w w1 from ((Below.refl _ _).alloc (Nat.le_refl _) _).trans (HB1.out.mono (by simp)))
  have hszl : w.heap.size < w1.heap.size := by omega
  clear hbox hBB
  refine Lib.hid ?_
  go_wp2
  have HB0 := Lib.hid (two_buf w1 B k n (by omega) (by omega) hB1)
  have HW2 := Lib.hid (show Below B w1 (w1.alloc (.cells #[.int .u8 k, .int .u8 n] 5)) from (Below.refl _ _).alloc hB1 _)
  clear c0 c1
  go_loopw [4, 23] (fun v i wr => BytesRel B w1 n [byteI k, byteI n] ks v i wr) (fun _ i _ => n - (intOf i).toNat)
  case atStart => exact ⟨0, Nat.zero_le _, rfl, by simpa using HB0.out, HW2.out⟩
  case round =>
    obtain ⟨wo, rfl⟩ : ∃ wo : World, wo = wr := ⟨_, rfl⟩
    obtain ⟨j, hj, rfl, hbuf, hbel⟩ := hrel
    obtain ⟨h0, hh0⟩ : ∃ h0, h0 = [byteI k, byteI n] ++ (ks.take j).flatMap kindBytes := ⟨_, rfl⟩
    rw [← hh0] at hbuf
    have hlen : h0.length ≤ 40000 := by
      have h1 := kindsB_length (ks.take j) (fun l hl => H128.out l (List.mem_of_mem_take hl))
      have h3 : (ks.take j).length ≤ n := by rw [List.length_take]; omega
      rw [hh0, List.length_append]
      simp only [List.length_cons, List.length_nil]
      omega
    have HH0 := Lib.hid hh0
    have HBUF := Lib.hid hbuf
    have HBEL := Lib.hid hbel
    clear hbuf hbel hh0
    have HWo := Lib.hid (HW1.out.trans (HBEL.out.mono (by omega)))
    have hso : w1.heap.size ≤ wo.heap.size := HBEL.out.size
    by_cases hlt : j < n
    · obtain ⟨Bk, off, a', n', c', rfl, hBk, d0, hle, hin⟩ := HP.out.2.cell j hlt
      have d1 := cellN d0 HWo.out
      clear d0
      obtain ⟨l, hl⟩ : ∃ l, l = ks.getD j [] := ⟨_, rfl⟩
      simp only at hin
      rw [← hl] at hin
      have HIN := Lib.hid hin
      have hmax := hin.2.2.1
      have hl128 : n' ≤ 128 := by
        rw [← hin.1, hl]
        have hjl : j < ks.length := by rw [HKL.out]; exact hlt
        exact H128.out _ (by simp [List.getD, hjl])
      have HLL := Lib.hid hl
      clear hin hl
      go_wp2_with (first
        | (at_builtin; refine wpList_append_own _ rfl _ _ 25 rfl B 5 i0 (.int .u8 0) 1 1 Tryd.underlying25 hi hz0 hz1 hz2 rfl (by decide) _ _ _ rfl (HBUF.out.alloc _) ⟨wo.heap.size, 0, none⟩ 1 1 [Value.int .u8 (n' : Int)] rfl rfl (one_cell _ _ _ _) (one_one _) (by unfold maxLen; omega) (by omega) (by simp; omega) ?_; intro v4 w4 hown4 hgrow4 _; refine Hid.out ?_))
      have HB4 : Hid (Buf B w4 v4 (h0 ++ [byteI l.length] ++ (l.take 0).flatMap insBytes)) := by
        refine Buf.of hown4 ?_ ?_
        · simp
        · rw [show [Value.int .u8 (n' : Int)] = Lib.byteCells [byteI l.length] from by rw [HIN.out.1]; show _ = [Value.int .u8 ((byteI (n' : Int)).toNat : Int)]; rw [byteI_nat n' (by omega)], byteCells_append]; simp
      have HW4 := Lib.hid (HBEL.out.trans (HBUF.out.grown ((Below.refl _ _).alloc (by omega) _) (by simp; omega) hgrow4))
      clear hown4 hgrow4
      refine Lib.hid ?_
      go_wp2
      go_loopw [4, 35] (fun v i wr => InsBRel B w1 n' (h0 ++ [byteI l.length]) l v i wr) (fun _ i _ => n' - (intOf i).toNat)
      case atStart => exact ⟨0, Nat.zero_le _, rfl, HB4.out, HW4.out⟩
      case round =>
        obtain ⟨i, hi', rfl, hbuf, hbel⟩ := hrel
        obtain ⟨h1, hh1⟩ : ∃ h1, h1 = h0 ++ [byteI l.length] ++ (l.take i).flatMap insBytes := ⟨_, rfl⟩
        rw [← hh1] at hbuf
        have hll : l.length = n' := HIN.out.1
        have hlen1 : h1.length ≤ 50000 := by
          have h2 := insB_length (l.take i)
          have h3 : (l.take i).length ≤ 128 := by rw [List.length_take]; omega
          rw [hh1]
          simp only [List.length_append, List.length_cons, List.length_nil]
          omega
        have HLEN := Lib.hid hll
        have HH1 := Lib.hid hh1
        have HBUFi := Lib.hid hbuf
        have HBELi := Lib.hid hbel
        clear hbuf hbel hh1 hll
        have hsi : w1.heap.size ≤ wr.heap.size := HBELi.out.size
        have HWi := Lib.hid (HW1.out.trans (HBELi.out.mono (by omega)))
        by_cases hlti : i < n'
        · obtain ⟨Bi, offi, rfl, hBi, e1, e2⟩ := (HIN.out.below HWi.out (Nat.le_refl _)).cell i hlti
          obtain ⟨b1, b2⟩ := HIN.out.bounds i hlti
          obtain ⟨⟨o, m⟩, hx⟩ : ∃ x : Ins, x = l.getD i (0, 0) := ⟨_, rfl⟩
          rw [← hx] at e1 e2 b1 b2
          have HX := Lib.hid hx
          clear hx
          simp only at e1 e2 b1 b2
          go_wp2_with (first
            | (go_at_call 31; refine (appendInstruction_any B _ h1 o m _ ?_ ?_ b1 b2 (by omega)).mono ?_; (simp; omega); (exact HBUFi.out.alloc _); rintro e w5 ⟨v5, rfl, hb5, hg5⟩; have HB5 := Lib.hid hb5; have HG5 := Lib.hid hg5; clear hb5 hg5))
          go_roundw
          case rel =>
            refine ⟨i + 1, by omega, by go_num, ?_, HBELi.out.trans (((Below.refl _ _).alloc (by omega) _).trans HG5.out)⟩
            rw [flat_step insBytes l i (0, 0) (by rw [HLEN.out]; exact hlti), ← HX.out, ← List.append_assoc, ← HH1.out]
            exact HB5.out
          case measure => simp [intOf]; omega
        · go_wp2
          go_roundw
          case rel =>
            refine ⟨j + 1, by omega, by go_num, ?_, HBELi.out⟩
            have hjl : j < ks.length := by rw [HKL.out]; exact hlt
            rw [flat_step kindBytes ks j [] hjl, ← HLL.out, ← List.append_assoc, ← HH0.out]
            have := HBUFi.out
            rw [HH1.out, List.take_of_length_le (by rw [HLEN.out]; omega)] at this
            unfold kindBytes
            simpa using this
          case measure => simp [intOf]; omega
    · have hte : h0 = t := by
        rw [HH0.out, HTX.out, List.take_of_length_le (by rw [HKL.out]; omega)]
        unfold bytesP
        rw [HKL.out]
        rfl
      have HTE := Lib.hid hte
      clear hte
      go_wp2
      go_ret2
      refine ⟨_, rfl, ?_, HWo.out⟩
      rw [← HTE.out]
      exact HBUF.out.mono (by omega)
end Go.Proofs.YtlgbkbmjfmomkaaDoor
