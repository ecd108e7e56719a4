/-
  The walk of Text.
-/
import Derived.Test.YtclbbpkphfllbaaDoorC7
import Derived.Deep.Cut
namespace Go.Proofs.YtclbbpkphfllbaaDoor
open Go.RowKit CodM

/-- the variables that the code layer reads -/
structure Glo (w : World) : Prop where
  words : Wds w
  pow : Lib.TabIs Tryd.prog w "internal/strconv.uint64pow10" .u64 Lib.pow10Tab
theorem Glo.next {B : Nat} {w w' : World} (h : Glo w) (hb : Below B w w') (hB : w.heap.size ≤ B) : Glo w' :=
  ⟨h.words.next hb hB, Lib.tabBelow_of_tabIs h.pow w' (hb.mono hB)⟩

theorem pow_of {B : Nat} {w wr : World} (hG : Lib.TabIs Tryd.prog w "internal/strconv.uint64pow10" .u64 Lib.pow10Tab) (hb : Below w.heap.size w wr) (hB : w.heap.size ≤ B) : pow10 B wr :=
  fun w' h => Lib.tabBelow_of_tabIs hG w' (hb.trans (h.mono hB))
theorem KindsAt.wf {w : World} {a : Option Addr} {n : Nat} {ks : List (List Ins)} (h : KindsAt w a n ks) : ∀ l ∈ ks, ∀ x ∈ l, I64 x.1 ∧ I64 x.2 := by
  intro l hl
  obtain ⟨i, hi, rfl⟩ := List.getElem_of_mem hl
  obtain ⟨_, _, _, _, _, _, _, _, _, hin⟩ := h.cell i (by rw [← h.1]; exact hi)
  have := hin.2.1
  simpa [List.getD, hi] using this
def headT (vars : Int) : List UInt8 := [118, 97, 114, 115, 32] ++ Lib.itoa vars ++ [10]
def TextRel (B : Nat) (w0 : World) (vars : Int) (n : Nat) (ks : List (List Ins)) (v i : Value) (wr : World) : Prop :=
  ∃ k : Nat, k ≤ n ∧ i = .int .i64 k ∧ Buf B wr v (headT vars ++ (ks.take k).flatMap kindText) ∧ Below B w0 wr
def LinesRel (B : Nat) (w0 : World) (n : Nat) (h : List UInt8) (l : List Ins) (v i : Value) (wr : World) : Prop :=
  ∃ k : Nat, k ≤ n ∧ i = .int .i64 k ∧ Buf B wr v (h ++ (l.take k).flatMap line) ∧ Below B w0 wr

theorem text_no (w : World) (a : Option Addr) (n c : Nat) (p : Prg) (hG : Glo w) (hp : ProgAt w a n p) (hm : CodM.may (codeNk p) p = false) :
    Calls Tryd.prog 38 #[.agg #[.int .i64 p.vars, .slice a n c]] w (TellsSB [] w) := by
  have HG := Lib.hid hG
  have HP := Lib.hid hp
  have HM := Lib.hid hm
  clear hG hp hm
  go_enter Tryd.func38, Tryd.ntmps38
  go_wp2_with (first
    | (go_at_call 57; refine (may_any _ _ _ p _ ?_ ?_).mono ?_; (exact HG.out.words.alloc _); (exact HP.out.below ((Below.refl _ _).alloc (Nat.le_refl _) _) (Nat.le_refl _)); rintro e w1 ⟨rfl, hb⟩; rw [HM.out]; have HB := Lib.hid hb; clear hb))
  go_ret
  exact ⟨rfl, ((Below.refl _ _).alloc (Nat.le_refl _) _).trans (HB.out.mono (by simp))⟩

theorem itoa_digit (k : Nat) : Lib.itoa (k : Int) = Lib.decDigits k := by
  unfold Lib.itoa; rw [if_neg (by omega)]; rfl

theorem vars_cells (w : World) (t : TypeId) (fr : Nat × Nat) : ∀ j u, (Lib.byteCells [118, 97, 114, 115, 32])[j]? = some u → (w.alloc (.cells #[.int .u8 118, .int .u8 97, .int .u8 114, .int .u8 115, .int .u8 32] t fr)).cell? ⟨w.heap.size, j, none⟩ = some u := by
  intro j u hj
  rw [cell_of_row _ _ _ _ _ _ (heap_alloc_new _ _), show (#[.int .u8 118, .int .u8 97, .int .u8 114, .int .u8 115, .int .u8 32] : Array Value) = (Lib.byteCells [118, 97, 114, 115, 32]).toArray from rfl, List.getElem?_toArray]
  exact hj

set_option maxHeartbeats 4000000 in
set_option maxRecDepth 100000 in
theorem text_yes (w : World) (a : Option Addr) (n c : Nat) (k : Nat) (ks : List (List Ins)) (hG : Glo w) (hp : ProgAt w a n ⟨k, ks⟩) (hm : CodM.may (codeNk ⟨k, ks⟩) ⟨k, ks⟩ = true) :
    Calls Tryd.prog 38 #[.agg #[.int .i64 k, .slice a n c]] w (TellsSB (text ⟨k, ks⟩) w) := by
  obtain ⟨i0, hi, hz0, hz1, hz2⟩ := info_parts infoB
  have kc := fun (w : World) (C : Array Value) (n c : Nat) => Lib.run_convert_bytes_const (P := Tryd.prog) w 22 5 C n c Tryd.underlying22 Tryd.underlying5
  obtain ⟨⟨hv0, hv8, hk1, hk8⟩, h128⟩ := may_parts hm
  have hkl := hp.2.1
  simp only at hv0 hv8 hk1 hk8 h128 hkl
  have hk10 : k < 10 := by omega
  have hn1 : 1 ≤ n := by omega
  have hn8 : n ≤ 8 := by omega
  obtain ⟨t, ht⟩ : ∃ t, t = text ⟨k, ks⟩ := ⟨_, rfl⟩
  rw [← ht]
  have HTX := Lib.hid ht
  have HG := Lib.hid hG
  have HP := Lib.hid hp
  have HM := Lib.hid hm
  have H128 := Lib.hid h128
  have HKL := Lib.hid hkl
  clear ht hG hp hm h128 hkl hv0 hv8 hk1 hk8
  go_enter Tryd.func38, Tryd.ntmps38
  go_wp2_with (first
    | (go_at_call 57; refine (may_any _ _ _ ⟨k, ks⟩ _ ?_ ?_).mono ?_; (exact HG.out.words.alloc _); (exact HP.out.below ((Below.refl _ _).alloc (Nat.le_refl _) _) (Nat.le_refl _)); rintro e w1 ⟨rfl, hb⟩; rw [HM.out]; have HB1 := Lib.hid hb; clear hb; refine Hid.out ?_))
  have hsz1 : w.heap.size + 1 ≤ w1.heap.size := by have := HB1.out.size; simpa using this
  have hbox : w1.heap[w.heap.size]? = some (.cells #[.int .i64 k, .slice a n c] 45) := (HB1.out.block _ (by simp)).trans (heap_alloc_new _ _)
  have HBOX := Lib.hid hbox
  have c0 : (w1.alloc (.cells #[.int .u8 118, .int .u8 97, .int .u8 114, .int .u8 115, .int .u8 32] 5 (5, 6))).cell? ⟨w.heap.size, 0, none⟩ = some (.int .i64 k) := by rw [cell_of_row _ _ _ _ _ _ ((heap_alloc_old _ _ (by omega)).trans hbox)]; rfl
  obtain ⟨B, hBB⟩ : ∃ B, B = w.heap.size + 1 := ⟨_, rfl⟩
  have hB1 : B ≤ w1.heap.size := by omega
  have hBw : w.heap.size < B := by omega
  have HW1 := Lib.hid (show Below w.heap.size w w1 from ((Below.refl _ _).alloc (Nat.le_refl _) _).trans (HB1.out.mono (by simp)))
  clear hbox hBB
  refine Lib.hid ?_
  go_wp2_with (first
    | (go_at_call 56; refine (appendInt_full B w1.heap.size k [118, 97, 114, 115, 32] _ hk10 (vars_cells _ _ _) (by decide) (by simp; omega)).mono ?_; rintro e w2 ⟨v2, rfl, hb2, hg2⟩; refine Hid.out ?_))
  have HB2 := Lib.hid hb2
  have HW2 := Lib.hid (((Below.refl _ _).alloc hB1 _).trans hg2)
  have hsz2 : w1.heap.size < w2.heap.size := by have := hg2.size; simp at this; omega
  have hdl : (Lib.decDigits k).length = 1 := by rw [Lib.decDigits_one hk10]; rfl
  have HDL := Lib.hid hdl
  clear hb2 hg2 c0 hdl
  refine Lib.hid ?_
  go_wp2_with (first
    | (at_builtin; refine wpList_append_own _ rfl _ _ 22 rfl B 5 i0 (.int .u8 0) 1 1 Tryd.underlying22 hi hz0 hz1 hz2 rfl (by decide) _ _ _ rfl (HB2.out.alloc _) ⟨w2.heap.size, 0, none⟩ 1 1 [Value.int .u8 10] rfl rfl (one_cell _ _ _ _) (one_one _) (by rw [List.length_append, HDL.out]; decide) (by rw [List.length_append, HDL.out]; decide) (by simp; omega) ?_; intro v3 w3 hown3 hgrow3 _; refine Hid.out ?_))
  have HB3 : Hid (Buf B w3 v3 (headT k ++ (ks.take 0).flatMap kindText)) := by
    refine Buf.of hown3 ?_ ?_
    · simp [headT, itoa_digit]
    · rw [show [Value.int .u8 10] = Lib.byteCells [10] from rfl, byteCells_append]; simp [headT, itoa_digit]
  have HW3 := Lib.hid (HW2.out.trans (HB2.out.grown ((Below.refl _ _).alloc (by omega) _) (by simp; omega) hgrow3))
  have hsz3 : w2.heap.size < w3.heap.size := by have := hgrow3.size; simp at this; omega
  have hbox3 : w3.heap[w.heap.size]? = some (.cells #[.int .i64 k, .slice a n c] 45) := (HW3.out.block _ hBw).trans HBOX.out
  have c1 : w3.cell? ⟨w.heap.size, 1, none⟩ = some (.slice a n c) := by rw [cell_of_row _ _ _ _ _ _ hbox3]; rfl
  clear hown3 hgrow3 hbox3
  refine Lib.hid ?_
  go_wp2
  clear c1
  go_loopw [3, 22] (fun v i wr => TextRel B w1 k n ks v i wr) (fun _ i _ => n - (intOf i).toNat)
  case atStart => exact ⟨0, Nat.zero_le _, rfl, HB3.out, HW3.out⟩
  case round =>
    obtain ⟨wo, rfl⟩ : ∃ wo : World, wo = wr := ⟨_, rfl⟩
    obtain ⟨j, hj, rfl, hbuf, hbel⟩ := hrel
    obtain ⟨h0, hh0⟩ : ∃ h0, h0 = headT k ++ (ks.take j).flatMap kindText := ⟨_, rfl⟩
    rw [← hh0] at hbuf
    have hlen : h0.length ≤ 40000 := by
      have h1 := kinds_length (ks.take j) (fun l hl => ⟨HP.out.2.wf l (List.mem_of_mem_take hl), H128.out l (List.mem_of_mem_take hl)⟩)
      have h2 : (headT k).length = 7 := by simp [headT, itoa_digit, HDL.out]
      have h3 : (ks.take j).length ≤ n := by rw [List.length_take]; omega
      rw [hh0, List.length_append, h2]
      omega
    have HH0 := Lib.hid hh0
    have HBUF := Lib.hid hbuf
    have HBEL := Lib.hid hbel
    clear hbuf hbel hh0
    have HWo := Lib.hid (HW1.out.trans (HBEL.out.mono (by omega)))
    have hso : w1.heap.size ≤ wo.heap.size := HBEL.out.size
    by_cases hlt : j < n
    · obtain ⟨Bk, off, a', n', c', rfl, hBk, d0, hle, hin⟩ := HP.out.2.cell j hlt
      have d1 := (HWo.out.cell (p := ⟨Bk, off + j, none⟩) hBk).trans d0
      clear d0
      obtain ⟨l, hl⟩ : ∃ l, l = ks.getD j [] := ⟨_, rfl⟩
      have hin0 := hin
      simp only at hin0
      rw [← hl] at hin0
      have HIN := Lib.hid hin0
      have hmax := hin0.2.2.1
      have hl128 : n' ≤ 128 := by
        rw [← hin0.1, hl]
        have hjl : j < ks.length := by rw [HKL.out]; exact hlt
        exact H128.out _ (by simp [List.getD, hjl])
      have HLL := Lib.hid hl
      clear hin hin0 hl
      go_wp2_with (first
        | (at_builtin; refine Lib.wpList_append_own_string _ rfl _ _ 22 9 rfl B 5 i0 Tryd.underlying22 Tryd.underlying9 hi hz0 hz1 hz2 _ _ _ rfl HBUF.out _ rfl (by show h0.length + 5 ≤ maxLen; unfold maxLen; omega) (by show h0.length + 5 ≤ _; omega) (by omega) ?_; intro v4 w4 hown4 hgrow4 _; refine Hid.out ?_))
      have HB4 : Hid (Buf B w4 v4 (h0 ++ [107, 105, 110, 100, 10] ++ (l.take 0).flatMap line)) := by
        refine Buf.of hown4 ?_ ?_
        · simp; rfl
        · rw [show Lib.strCells ⟨#[107, 105, 110, 100, 10]⟩ = Lib.byteCells [107, 105, 110, 100, 10] from rfl, byteCells_append]; simp
      have HW4 := Lib.hid (HBEL.out.trans (HBUF.out.grown (Below.refl _ _) (by omega) hgrow4))
      clear hown4 hgrow4
      refine Lib.hid ?_
      go_wp2
      go_loopw [3, 30] (fun v i wr => LinesRel B w1 n' (h0 ++ [107, 105, 110, 100, 10]) l v i wr) (fun _ i _ => n' - (intOf i).toNat)
      case atStart => exact ⟨0, Nat.zero_le _, rfl, HB4.out, HW4.out⟩
      case round =>
        obtain ⟨i, hi', rfl, hbuf, hbel⟩ := hrel
        obtain ⟨h1, hh1⟩ : ∃ h1, h1 = h0 ++ [107, 105, 110, 100, 10] ++ (l.take i).flatMap line := ⟨_, rfl⟩
        rw [← hh1] at hbuf
        have hll : l.length = n' := HIN.out.1
        have hlen1 : h1.length ≤ 50000 := by
          have h2 := lines_length (l.take i) (fun x hx => HIN.out.2.1 x (List.mem_of_mem_take hx))
          have h3 : (l.take i).length ≤ 128 := by rw [List.length_take]; omega
          rw [hh1]
          simp only [List.length_append, List.length_cons, List.length_nil]
          omega
        have HLEN := Lib.hid hll
        have HH1 := Lib.hid hh1
        have HBUFi := Lib.hid hbuf
        have HBELi := Lib.hid hbel
        clear hbuf hbel hh1 hll
        have hsi : w1.heap.size ≤ wr.heap.size := HBELi.out.size
        have HWi := Lib.hid (HW1.out.trans (HBELi.out.mono (by omega)))
        have HGi := Lib.hid (HG.out.next HWi.out (Nat.le_refl _))
        by_cases hlti : i < n'
        · obtain ⟨Bi, offi, rfl, hBi, e1, e2⟩ := (HIN.out.below HWi.out (Nat.le_refl _)).cell i hlti
          obtain ⟨b1, b2⟩ := HIN.out.bounds i hlti
          obtain ⟨⟨o, m⟩, hx⟩ : ∃ x : Ins, x = l.getD i (0, 0) := ⟨_, rfl⟩
          rw [← hx] at e1 e2 b1 b2
          have HX := Lib.hid hx
          clear hx
          simp only at e1 e2 b1 b2
          go_wp2_with (first
            | (go_at_call 58; refine (appendLine_any B _ h1 o m _ ?_ ?_ ?_ ?_ b2 (by omega)).mono ?_; (exact HGi.out.words.alloc _); (exact pow_of HG.out.pow (HWi.out.alloc (by have := HWi.out.size; omega) _) (by omega)); (simp; omega); (exact HBUFi.out.alloc _); rintro e w5 ⟨v5, rfl, hb5, hg5⟩; have HB5 := Lib.hid hb5; have HG5 := Lib.hid hg5; clear hb5 hg5))
          go_roundw
          case rel =>
            refine ⟨i + 1, by omega, by go_num, ?_, HBELi.out.trans (((Below.refl _ _).alloc (by omega) _).trans HG5.out)⟩
            rw [flat_step line l i (0, 0) (by rw [HLEN.out]; exact hlti), ← HX.out, ← List.append_assoc, ← HH1.out]
            exact HB5.out
          case measure => simp [intOf]; omega
        · go_wp2
          go_roundw
          case rel =>
            refine ⟨j + 1, by omega, by go_num, ?_, HBELi.out⟩
            have hjl : j < ks.length := by rw [HKL.out]; exact hlt
            rw [flat_step kindText ks j [] hjl, ← HLL.out, ← List.append_assoc, ← HH0.out]
            have := HBUFi.out
            rw [HH1.out, List.take_of_length_le (by rw [HLEN.out]; omega)] at this
            unfold kindText
            rw [← List.append_assoc]
            exact this
          case measure => simp [intOf]; omega
    · have hte : h0 = t := by
        rw [HH0.out, HTX.out, List.take_of_length_le (by rw [HKL.out]; omega)]
        rfl
      have hpos : 0 < h0.length := by rw [HH0.out]; simp [headT]
      rcases HBUF.out.2 with ⟨-, hz⟩ | ⟨g, cap, cur, rfl, -, -, -, -, -, -⟩
      · omega
      · have hcv := run_convert_bytes_back (P := Tryd.prog) wo 22 9 5 ⟨g, 0, none⟩ cap h0 Tryd.underlying22 Tryd.underlying5 Tryd.underlying9 (fun j hj => HBUF.out.cells (g := g) rfl j _ (by simp [Lib.byteCells, hj]))
        have HTE := Lib.hid hte
        clear hte
        go_wp2
        go_ret
        refine ⟨?_, HWo.out⟩
        rw [← HTE.out]
        rfl
end Go.Proofs.YtclbbpkphfllbaaDoor
