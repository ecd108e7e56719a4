/-
  The walk of the document's Text.
-/
import Derived.Test.YtlgbkbmjfmomkaaDoorF2
import Derived.Test.YtlgbkbmjfmomkaaDoorF3
import Derived.Test.YtlgbkbmjfmomkaaDoorC8
namespace Go.Proofs.YtlgbkbmjfmomkaaDoor
open Go.RowKit CodM

theorem strU_add (l m : List UInt8) : strU l ++ strU m = strU (l ++ m) := by unfold strU; apply ByteArray.ext; simp
def STextRel (wb : World) (vars : Int) (n : Nat) (ks : List (List Ins)) (v i : Value) (wr : World) : Prop :=
  ∃ k : Nat, k ≤ n ∧ i = .int .i64 k ∧ v = .string (strU (headT vars ++ (ks.take k).flatMap kindText)) ∧ Below wb.heap.size wb wr
def SLinesRel (wb : World) (n : Nat) (h : List UInt8) (l : List Ins) (v i : Value) (wr : World) : Prop :=
  ∃ k : Nat, k ≤ n ∧ i = .int .i64 k ∧ v = .string (strU (h ++ (l.take k).flatMap line)) ∧ Below wb.heap.size wb wr

set_option maxHeartbeats 1000000 in
theorem rtext_no (w : World) (a : Option Addr) (n c : Nat) (p : Prg) (hp : ProgAt w a n p) (hm : CodM.may n p = false) :
    Calls Tryd.prog 15 #[.agg #[.int .i64 p.vars, .slice a n c]] w (TellsSB [] w) := by
  have HP := Lib.hid hp
  have HM := Lib.hid hm
  clear hp hm
  go_enter Tryd.func15, Tryd.ntmps15
  go_wp2_with (first
    | (go_at_call 11; refine (rmay_any _ _ _ p _ (HP.out.below ((Below.refl _ _).alloc (Nat.le_refl _) _) (Nat.le_refl _))).mono ?_; rintro e w1 ⟨rfl, hb⟩; rw [HM.out]; have HB := Lib.hid hb; clear hb))
  go_ret
  exact ⟨rfl, ((Below.refl _ _).alloc (Nat.le_refl _) _).trans (HB.out.mono (by simp))⟩

theorem vars_str (v : List UInt8) : (⟨#[118, 97, 114, 115, 32]⟩ : ByteArray) ++ strU v ++ ⟨#[10]⟩ = strU ([118, 97, 114, 115, 32] ++ v ++ [10]) := by
  rw [show (⟨#[118, 97, 114, 115, 32]⟩ : ByteArray) = strU [118, 97, 114, 115, 32] from rfl, show (⟨#[10]⟩ : ByteArray) = strU [10] from rfl, strU_add, strU_add]
theorem kind_str (v : List UInt8) : strU v ++ ⟨#[107, 105, 110, 100, 10]⟩ = strU (v ++ [107, 105, 110, 100, 10]) := by
  rw [show (⟨#[107, 105, 110, 100, 10]⟩ : ByteArray) = strU [107, 105, 110, 100, 10] from rfl, strU_add]
theorem line_str_no (v d : List UInt8) : strU v ++ ⟨#[32, 32]⟩ ++ strU d ++ ⟨#[10]⟩ = strU (v ++ ([32, 32] ++ d ++ [] ++ [10])) := by
  rw [show (⟨#[32, 32]⟩ : ByteArray) = strU [32, 32] from rfl, show (⟨#[10]⟩ : ByteArray) = strU [10] from rfl, strU_add, strU_add, strU_add]; simp
theorem line_str_yes (v d e : List UInt8) : strU v ++ ⟨#[32, 32]⟩ ++ strU d ++ ⟨#[32]⟩ ++ strU e ++ ⟨#[10]⟩ = strU (v ++ ([32, 32] ++ d ++ (32 :: e) ++ [10])) := by
  rw [show (⟨#[32, 32]⟩ : ByteArray) = strU [32, 32] from rfl, show (⟨#[32]⟩ : ByteArray) = strU [32] from rfl, show (⟨#[10]⟩ : ByteArray) = strU [10] from rfl, strU_add, strU_add, strU_add, strU_add, strU_add]; simp

set_option maxHeartbeats 4000000 in
set_option maxRecDepth 100000 in
theorem rtext_yes (w : World) (a : Option Addr) (n c : Nat) (vars : Int) (ks : List (List Ins)) (hp : ProgAt w a n ⟨vars, ks⟩) (hm : CodM.may n ⟨vars, ks⟩ = true) :
    Calls Tryd.prog 15 #[.agg #[.int .i64 vars, .slice a n c]] w (TellsSB (text ⟨vars, ks⟩) w) := by
  obtain ⟨⟨hv0, hv8, hk1, hk8⟩, h128⟩ := may_parts hm
  have hkl := hp.2.1
  have hvv := hp.1
  simp only at hv0 hv8 hk1 hk8 h128 hkl hvv
  have hn8 : n ≤ 8 := by omega
  obtain ⟨t, ht⟩ : ∃ t, t = text ⟨vars, ks⟩ := ⟨_, rfl⟩
  rw [← ht]
  have hil := Lib.itoa_length_le vars hvv.1 hvv.2
  have HTX := Lib.hid ht
  have HP := Lib.hid hp
  have HM := Lib.hid hm
  have H128 := Lib.hid h128
  have HKL := Lib.hid hkl
  have HVV := Lib.hid hvv
  obtain ⟨V, hV⟩ : ∃ V, V = strU (Lib.itoa vars) := ⟨_, rfl⟩
  have hVs : V.size ≤ 21 := by rw [hV, strU_size]; exact hil
  have HV := Lib.hid hV
  clear ht hp hm h128 hkl hvv hk1 hk8 hV
  go_enter Tryd.func15, Tryd.ntmps15
  go_wp2_with (first
    | (go_at_call 11; refine (rmay_any _ _ _ ⟨vars, ks⟩ _ (HP.out.below ((Below.refl _ _).alloc (Nat.le_refl _) _) (Nat.le_refl _))).mono ?_; rintro e w1 ⟨rfl, hb⟩; rw [HM.out]; refine Hid.out ?_))
  have hsz1 : w.heap.size + 1 ≤ w1.heap.size := by have := hb.size; simpa using this
  have hbox : w1.heap[w.heap.size]? = some (.cells #[.int .i64 vars, .slice a n c] 24) := (hb.block _ (by simp)).trans (heap_alloc_new _ _)
  have c0 : w1.cell? ⟨w.heap.size, 0, none⟩ = some (.int .i64 vars) := by rw [cell_of_row _ _ _ _ _ _ hbox]; rfl
  have HBOX := Lib.hid hbox
  have HW1 := Lib.hid (show Below w.heap.size w w1 from ((Below.refl _ _).alloc (Nat.le_refl _) _).trans (hb.mono (by simp)))
  clear hbox hb
  refine Lib.hid ?_
  go_wp2_with (first
    | (go_at_call 33; refine (rdigits_any _ _ HVV.out).mono ?_; rintro e w2 ⟨rfl, hb2⟩; rw [← HV.out]; have HB2 := Lib.hid hb2; clear hb2))
  clear c0
  rw [HV.out, vars_str]
  have HLEN0 : Hid ((headT vars).length ≤ 27) := by simp [headT, Hid]; omega
  go_loopw [3, 4] (fun v i wr => STextRel w2 vars n ks v i wr) (fun _ i _ => n - (intOf i).toNat)
  case atStart => exact ⟨0, Nat.zero_le _, rfl, by simp [headT], Below.refl _ _⟩
  case round =>
    obtain ⟨wo, rfl⟩ : ∃ wo : World, wo = wr := ⟨_, rfl⟩
    obtain ⟨j, hj, rfl, rfl, hbel⟩ := hrel
    obtain ⟨h0, hh0⟩ : ∃ h0, h0 = headT vars ++ (ks.take j).flatMap kindText := ⟨_, rfl⟩
    have hlen : h0.length ≤ 40000 := by
      have h1 := kinds_length (ks.take j) (fun l hl => ⟨HP.out.2.wf l (List.mem_of_mem_take hl), H128.out l (List.mem_of_mem_take hl)⟩)
      have h3 : (ks.take j).length ≤ n := by rw [List.length_take]; omega
      have h2 := HLEN0.out
      rw [hh0, List.length_append]
      omega
    rw [← hh0]
    obtain ⟨S, hS⟩ : ∃ S, S = strU h0 := ⟨_, rfl⟩
    have hSs : S.size ≤ 40000 := by rw [hS, strU_size]; exact hlen
    rw [← hS]
    have HS := Lib.hid hS
    have HH0 := Lib.hid hh0
    have HBEL := Lib.hid hbel
    clear hbel hh0 hS
    have HW2 := Lib.hid (HW1.out.trans (HB2.out.mono (by omega)))
    have HWo := Lib.hid (HW2.out.trans (HBEL.out.mono (by have := HW2.out.size; omega)))
    have hboxo : wo.heap[w.heap.size]? = some (.cells #[.int .i64 vars, .slice a n c] 24) := (HBEL.out.block _ (by have := HB2.out.size; omega)).trans ((HB2.out.block _ (by omega)).trans HBOX.out)
    have c1 : wo.cell? ⟨w.heap.size, 1, none⟩ = some (.slice a n c) := by rw [cell_of_row _ _ _ _ _ _ hboxo]; rfl
    clear hboxo
    by_cases hlt : j < n
    · obtain ⟨Bk, off, a', n', c', rfl, hBk, d0, hle, hin⟩ := HP.out.2.cell j hlt
      obtain ⟨l, hl⟩ : ∃ l, l = ks.getD j [] := ⟨_, rfl⟩
      simp only at hin
      rw [← hl] at hin
      have HIN := Lib.hid hin
      have hmax := hin.2.2.1
      have hl128 : n' ≤ 128 := by
        rw [← hin.1, hl]
        have hjl : j < ks.length := by rw [HKL.out]; exact hlt
        exact H128.out _ (by simp [List.getD, hjl])
      have HLL := Lib.hid hl
      have HD0 := Lib.hid d0
      clear hin hl d0
      go_wp2
      rw [HS.out, kind_str]
      clear c1
      go_loopw [3, 5] (fun v i wr => SLinesRel w2 n' (h0 ++ [107, 105, 110, 100, 10]) l v i wr) (fun _ i _ => n' - (intOf i).toNat)
      case atStart => exact ⟨0, Nat.zero_le _, rfl, by simp, HBEL.out⟩
      case round =>
        obtain ⟨i, hi', rfl, rfl, hbel⟩ := hrel
        obtain ⟨h1, hh1⟩ : ∃ h1, h1 = h0 ++ [107, 105, 110, 100, 10] ++ (l.take i).flatMap line := ⟨_, rfl⟩
        have hll : l.length = n' := HIN.out.1
        have hlen1 : h1.length ≤ 50000 := by
          have h2 := lines_length (l.take i) (fun x hx => HIN.out.2.1 x (List.mem_of_mem_take hx))
          have h3 : (l.take i).length ≤ 128 := by rw [List.length_take]; omega
          rw [hh1]
          simp only [List.length_append, List.length_cons, List.length_nil]
          omega
        rw [← hh1]
        obtain ⟨S1, hS1⟩ : ∃ S, S = strU h1 := ⟨_, rfl⟩
        have hS1s : S1.size ≤ 50000 := by rw [hS1, strU_size]; exact hlen1
        rw [← hS1]
        have HS1 := Lib.hid hS1
        have HLEN := Lib.hid hll
        have HH1 := Lib.hid hh1
        have HBELi := Lib.hid hbel
        clear hbel hh1 hll hS1
        have hs2 : w1.heap.size ≤ w2.heap.size := HB2.out.size
        have hsi : w2.heap.size ≤ wr.heap.size := HBELi.out.size
        have HWi := Lib.hid (HW2.out.trans (HBELi.out.mono (by omega)))
        have hboxi : wr.heap[w.heap.size]? = some (.cells #[.int .i64 vars, .slice (some ⟨Bk, off, none⟩) n c] 24) := (HBELi.out.block _ (by omega)).trans ((HB2.out.block _ (by omega)).trans HBOX.out)
        have c1 : wr.cell? ⟨w.heap.size, 1, none⟩ = some (.slice (some ⟨Bk, off, none⟩) n c) := by rw [cell_of_row _ _ _ _ _ _ hboxi]; rfl
        have d1 := cellN HD0.out HWi.out
        clear hboxi
        by_cases hlti : i < n'
        · obtain ⟨Bi, offi, rfl, hBi, e1, e2⟩ := (HIN.out.below HWi.out (Nat.le_refl _)).cell i hlti
          obtain ⟨b1, b2⟩ := HIN.out.bounds i hlti
          obtain ⟨⟨o, m⟩, hx⟩ : ∃ x : Ins, x = l.getD i (0, 0) := ⟨_, rfl⟩
          rw [← hx] at e1 e2 b1 b2
          have HX := Lib.hid hx
          clear hx
          simp only at e1 e2 b1 b2
          obtain ⟨Wd, hWd⟩ : ∃ S, S = strU (word o) := ⟨_, rfl⟩
          have hWs : Wd.size ≤ 5 := by rw [hWd, strU_size]; exact word_length o
          obtain ⟨Dg, hDg⟩ : ∃ S, S = strU (Lib.itoa m) := ⟨_, rfl⟩
          have hDs : Dg.size ≤ 21 := by rw [hDg, strU_size]; exact Lib.itoa_length_le m b2.1 b2.2
          have HWD := Lib.hid hWd
          have HDG := Lib.hid hDg
          have HB2' := Lib.hid b2
          clear hWd hDg b1 b2
          go_wp2_with (first
            | (go_at_call 25; refine (rword_any _ _).mono ?_; rintro e w5 ⟨rfl, hb5⟩; rw [← HWD.out]; refine Hid.out ?_))
          have x5 : w5.heap[wr.heap.size]? = some (.cells #[.int .i64 o, .int .i64 m] 49) := (hb5.block _ (by simp)).trans (heap_alloc_new _ _)
          have y0 : w5.cell? ⟨wr.heap.size, 0, none⟩ = some (.int .i64 o) := by rw [cell_of_row _ _ _ _ _ _ x5]; rfl
          have HB5 := Lib.hid (show Below wr.heap.size wr w5 from ((Below.refl _ _).alloc (Nat.le_refl _) _).trans (hb5.mono (by simp)))
          have hsz5 : wr.heap.size < w5.heap.size := by have := hb5.size; simp at this; omega
          have HX5 := Lib.hid x5
          clear x5 hb5 c1 d1 e1 e2
          refine Lib.hid ?_
          rcases hnum : numbered o with _ | _
          · have HNUM := Lib.hid hnum
            clear hnum
            go_wp2_with (first
              | (go_at_call 27; refine (rnumbered_any _ _).mono ?_; rintro e w6 ⟨rfl, hb6⟩; rw [HNUM.out]; have HB6 := Lib.hid hb6; clear hb6))
            go_roundw
            case rel =>
              (repeat apply Exists.intro)
              refine And.intro ?_ rfl
              refine ⟨i + 1, by omega, by go_num, ?_, HBELi.out.trans ((HB5.out.trans (HB6.out.mono (by omega))).mono hsi)⟩
              rw [flat_step line l i (0, 0) (by rw [HLEN.out]; exact hlti), ← HX.out, ← List.append_assoc, ← HH1.out, HS1.out, HWD.out, line_str_no]
              simp [line, HNUM.out]
            case measure => simp [intOf]; omega
          · have HNUM := Lib.hid hnum
            clear hnum
            go_wp2_with (first
              | (go_at_call 27; refine (rnumbered_any _ _).mono ?_; rintro e w6 ⟨rfl, hb6⟩; rw [HNUM.out]; refine Hid.out ?_))
            have x6 := (hb6.block _ hsz5).trans HX5.out
            have y1 : w6.cell? ⟨wr.heap.size, 1, none⟩ = some (.int .i64 m) := by rw [cell_of_row _ _ _ _ _ _ x6]; rfl
            have HB6 := Lib.hid (HB5.out.trans (hb6.mono (by omega)))
            clear x6 hb6 y0
            refine Lib.hid ?_
            go_wp2_with (first
              | (go_at_call 33; refine (rdigits_any _ _ HB2'.out).mono ?_; rintro e w7 ⟨rfl, hb7⟩; rw [← HDG.out]; have HB7 := Lib.hid hb7; clear hb7))
            go_roundw
            case rel =>
              (repeat apply Exists.intro)
              refine And.intro ?_ rfl
              refine ⟨i + 1, by omega, by go_num, ?_, HBELi.out.trans ((HB6.out.trans (HB7.out.mono (by have := HB6.out.size; omega))).mono hsi)⟩
              rw [flat_step line l i (0, 0) (by rw [HLEN.out]; exact hlti), ← HX.out, ← List.append_assoc, ← HH1.out, HS1.out, HWD.out, HDG.out, line_str_yes]
              simp [line, HNUM.out]
            case measure => simp [intOf]; omega
        · go_wp2
          go_roundw
          case rel =>
            refine ⟨j + 1, by omega, by go_num, ?_, HBELi.out⟩
            have hjl : j < ks.length := by rw [HKL.out]; exact hlt
            rw [flat_step kindText ks j [] hjl, ← HLL.out, ← List.append_assoc, ← HH0.out, HS1.out, HH1.out, List.take_of_length_le (by rw [HLEN.out]; omega)]
            unfold kindText
            rw [← List.append_assoc]
          case measure => simp [intOf]; omega
    · go_wp2
      go_ret
      refine ⟨?_, HWo.out⟩
      rw [HS.out, HH0.out, HTX.out, List.take_of_length_le (by rw [HKL.out]; omega)]
      rfl
end Go.Proofs.YtlgbkbmjfmomkaaDoor
