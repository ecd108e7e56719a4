/-
  The law CodeMay, walked: a program that may be.
-/
import Derived.Test.YtlgbkbmjfmomkaaDoorN1
namespace Go.Proofs.YtlgbkbmjfmomkaaDoor
open Go.RowKit CodM

theorem GloT.glo {w : World} (h : GloT w) : Glo w := ⟨h.words, h.pow⟩
theorem text_no' {p : Prg} (h : CodM.may (codeNk p) p = false) : textB p = [] := by unfold textB; rw [h]; rfl
theorem text_yes' {p : Prg} (h : CodM.may (codeNk p) p = true) : textB p = text p := by unfold textB; rw [h]; rfl
def BoxAt (w : World) (g : Nat) (x : Int) (a : Option Addr) (n c : Nat) : Prop := w.cell? ⟨g, 0, none⟩ = some (.int .i64 x) ∧ w.cell? ⟨g, 1, none⟩ = some (.slice a n c)

set_option maxHeartbeats 2000000 in
set_option maxRecDepth 100000 in
theorem mayLaw_much (w : World) (a b : Option Addr) (n c m d : Nat) (x : Int) (ks : List (List Ins)) (hG : GloT w) (hp : ProgAt w a n ⟨x, ks⟩) (hm : muchB ⟨x, ks⟩ = true) :
    Calls Tryd.prog 3 #[.agg #[.int .i64 x, .slice a n c], .slice b m d] w (TellsBB true w) := by
  have HG := Lib.hid hG
  have HM := Lib.hid hm
  have hb0 : Below w.heap.size w (w.alloc (.cells #[.int .i64 x, .slice a n c] 24)) := (Below.refl _ _).alloc (Nat.le_refl _) _
  have HP := Lib.hid (hp.below hb0 (Nat.le_refl _))
  have HB0 := Lib.hid hb0
  clear hG hm hp hb0
  go_enter Tryd.func3, Tryd.ntmps3
  go_wp2_with (first
    | (go_at_call 9; refine (much_any _ _ _ _ ⟨x, ks⟩ HP.out).mono ?_; rintro e w1 ⟨rfl, hb⟩; rw [HM.out]; have HB1 := Lib.hid (HB0.out.trans (hb.mono HB0.out.size)); clear hb)
    | (go_at_call 10; refine (known_any _ (HG.out.glo.next HB1.out (Nat.le_refl _))).mono ?_; rintro e w3 ⟨rfl, hb⟩; have HB3 := Lib.hid (HB1.out.trans (hb.mono HB1.out.size)); clear hb))
  go_ret
  exact ⟨rfl, HB3.out⟩
set_option maxHeartbeats 2000000 in
set_option maxRecDepth 100000 in
theorem mayLaw_long (w : World) (a b : Option Addr) (n c m d : Nat) (x : Int) (ks : List (List Ins)) (hG : GloT w) (hp : ProgAt w a n ⟨x, ks⟩) (hm : muchB ⟨x, ks⟩ = false) (h100 : 100 < m) :
    Calls Tryd.prog 3 #[.agg #[.int .i64 x, .slice a n c], .slice b m d] w (TellsBB true w) := by
  have HG := Lib.hid hG
  have HM := Lib.hid hm
  have hb0 : Below w.heap.size w (w.alloc (.cells #[.int .i64 x, .slice a n c] 24)) := (Below.refl _ _).alloc (Nat.le_refl _) _
  have HP := Lib.hid (hp.below hb0 (Nat.le_refl _))
  have HB0 := Lib.hid hb0
  clear hG hm hp hb0
  go_enter Tryd.func3, Tryd.ntmps3
  go_wp2_with (first
    | (go_at_call 9; refine (much_any _ _ _ _ ⟨x, ks⟩ HP.out).mono ?_; rintro e w1 ⟨rfl, hb⟩; rw [HM.out]; have HB1 := Lib.hid (HB0.out.trans (hb.mono HB0.out.size)); clear hb)
    | (go_at_call 10; refine (known_any _ (HG.out.glo.next HB1.out (Nat.le_refl _))).mono ?_; rintro e w3 ⟨rfl, hb⟩; have HB3 := Lib.hid (HB1.out.trans (hb.mono HB1.out.size)); clear hb))
  go_ret
  exact ⟨rfl, HB3.out⟩

set_option maxHeartbeats 2000000 in
set_option maxRecDepth 100000 in
theorem mayLaw_no (w : World) (a b : Option Addr) (n c m d : Nat) (x : Int) (ks : List (List Ins)) (hG : GloT w) (hp : ProgAt w a n ⟨x, ks⟩) (hm : muchB ⟨x, ks⟩ = false) (h100 : m ≤ 100) (hmay : CodM.may (codeNk ⟨x, ks⟩) ⟨x, ks⟩ = false) :
    Calls Tryd.prog 3 #[.agg #[.int .i64 x, .slice a n c], .slice b m d] w (TellsBB true w) := by
  have HG := Lib.hid hG
  have HM := Lib.hid hm
  have HMAY := Lib.hid hmay
  have hnk : (n : Int) = codeNk ⟨x, ks⟩ := by rw [← hp.2.1]
  have HMN : Hid (CodM.may n ⟨x, ks⟩ = false) := by show _ = _; rw [hnk]; exact hmay
  obtain ⟨wb, hwb⟩ : ∃ wb, wb = w.alloc (.cells #[.int .i64 x, .slice a n c] 24) := ⟨_, rfl⟩
  have hb0 : Below w.heap.size w wb := by rw [hwb]; exact (Below.refl _ _).alloc (Nat.le_refl _) _
  have hbx : wb.heap[w.heap.size]? = some (.cells #[.int .i64 x, .slice a n c] 24) := by rw [hwb]; exact heap_alloc_new _ _
  have HP := Lib.hid (hp.below hb0 (Nat.le_refl _))
  have HB0 := Lib.hid hb0
  have HBOX : Hid (∀ W, Below wb.heap.size wb W → BoxAt W w.heap.size x a n c) := fun W hb => by
    have h := (hb.block _ (heap_lt hbx)).trans hbx
    exact ⟨by rw [cell_of_row _ _ _ _ _ _ h]; rfl, by rw [cell_of_row _ _ _ _ _ _ h]; rfl⟩
  have hE : (strU []).toList.isEmpty = true := by rw [strU_toList]; rfl
  have HB := Lib.hid (Below.refl wb.heap.size wb)
  have HWB := Lib.hid hwb
  clear hG hm hp hb0 hwb hbx hmay hnk
  go_enter Tryd.func3, Tryd.ntmps3
  go_wp2_with (first
    | (go_at_call 9; rw [← HWB.out]; refine (much_any _ _ _ _ ⟨x, ks⟩ HP.out).mono ?_; rintro e w1 ⟨rfl, hb⟩; rw [HM.out]; replace HB := Lib.hid (HB.out.trans (hb.mono HB.out.size)); obtain ⟨c0, c1⟩ := HBOX.out _ HB.out; clear hb)
    | (go_at_call 11; refine (rmay_any _ _ _ ⟨x, ks⟩ _ (HP.out.below HB.out (Nat.le_refl _))).mono ?_; rintro e w2 ⟨rfl, hb⟩; rw [HMN.out]; replace HB := Lib.hid (HB.out.trans (hb.mono HB.out.size)); obtain ⟨c0, c1⟩ := HBOX.out _ HB.out; clear hb)
    | (go_at_call 12; refine (text_any _ _ _ _ ⟨x, ks⟩ (HG.out.glo.next (HB0.out.trans (HB.out.mono HB0.out.size)) (Nat.le_refl _)) (HP.out.below HB.out (Nat.le_refl _))).mono ?_; rintro e w3 ⟨rfl, hb⟩; rw [text_no' HMAY.out]; replace HB := Lib.hid (HB.out.trans (hb.mono HB.out.size)); obtain ⟨c0, c1⟩ := HBOX.out _ HB.out; clear hb)
    | (go_at_call 13; refine (bytes_no _ _ _ _ ⟨x, ks⟩ (HG.out.glo.next (HB0.out.trans (HB.out.mono HB0.out.size)) (Nat.le_refl _)) (HP.out.below HB.out (Nat.le_refl _)) HMAY.out).mono ?_; rintro e w4 ⟨rfl, hb⟩; replace HB := Lib.hid (HB.out.trans (hb.mono HB.out.size)); obtain ⟨c0, c1⟩ := HBOX.out _ HB.out; clear hb)
    | (go_at_call 14; refine (may_any _ _ _ ⟨x, ks⟩ _ (HG.out.glo.next (HB0.out.trans (HB.out.mono HB0.out.size)) (Nat.le_refl _)).words (HP.out.below HB.out (Nat.le_refl _))).mono ?_; rintro e w5 ⟨rfl, hb⟩; rw [HMAY.out]; replace HB := Lib.hid (HB.out.trans (hb.mono HB.out.size)); obtain ⟨c0, c1⟩ := HBOX.out _ HB.out; clear hb)
    | (go_at_call 15; refine (rtext_no _ _ _ _ ⟨x, ks⟩ (HP.out.below HB.out (Nat.le_refl _)) HMN.out).mono ?_; rintro e w6 ⟨rfl, hb⟩; replace HB := Lib.hid (HB.out.trans (hb.mono HB.out.size)); obtain ⟨c0, c1⟩ := HBOX.out _ HB.out; clear hb)
    | (go_at_call 10; refine (known_any _ (HG.out.glo.next (HB0.out.trans (HB.out.mono HB0.out.size)) (Nat.le_refl _))).mono ?_; rintro e w7 ⟨rfl, hb⟩; replace HB := Lib.hid (HB.out.trans (hb.mono HB.out.size)); clear hb))
  go_ret
  exact ⟨rfl, HB0.out.trans (HB.out.mono HB0.out.size)⟩
end Go.Proofs.YtlgbkbmjfmomkaaDoor
namespace Go.Proofs.YtlgbkbmjfmomkaaDoor
open Go.RowKit CodM

theorem app_own (w : World) (B : Nat) (v : Value) (t : List UInt8) (a : Option Addr) (l : List UInt8) (c : Nat) (ho : Buf B w v t) (hsrc : (a = none ∧ c = 0 ∧ l = []) ∨ ∃ y, a = some y ∧ ∀ j u, (Lib.byteCells l)[j]? = some u → w.cell? (y.add j) = some u) (hl : t.length + l.length ≤ 1000000) (hB : B ≤ w.heap.size) (ty : TypeId) :
    ∃ v' w', (Builtin.append_ #[25, 25] ty #[v, .slice a l.length c]).run Tryd.prog w = .ok v' w' ∧ Buf B w' v' (t ++ l) ∧ Below B w w' := by
  obtain ⟨i0, hi, hz0, hz1, hz2⟩ := info_parts infoB
  rcases hsrc with ⟨rfl, rfl, rfl⟩ | ⟨y, rfl, hc⟩
  · exact ⟨_, _, run_append_owned_none (P := Tryd.prog) (w := w) B 25 ty 5 i0 1 Tryd.underlying25 hi v t.length (Lib.byteCells t) ho, by rw [List.append_nil]; exact ho, Below.refl _ _⟩
  · obtain ⟨v', w', h1, h2, h3, _⟩ := run_append_own (P := Tryd.prog) w B 25 ty 5 i0 (.int .u8 0) 1 1 Tryd.underlying25 hi hz0 hz1 hz2 rfl (by decide) v t.length (Lib.byteCells t) ho y l.length c (Lib.byteCells l) (by simp [Lib.byteCells]) hc (bytes_one l) (by unfold maxLen; omega) (by omega) hB
    exact ⟨v', w', h1, Buf.of h2 (by simp) (byteCells_append t l), (Below.refl _ _).grown h3 hB (fun k hk => (World.ownsRow.lt ho k hk).1)⟩
theorem byt_src {w : World} {a : Option Addr} {l : List UInt8} (h : BytAt w a l) (hl : l ≠ []) : ∃ y, a = some y ∧ ∀ j u, (Lib.byteCells l)[j]? = some u → w.cell? (y.add j) = some u := by
  rcases h with h | ⟨B, off, rfl, hc⟩
  · exact absurd h hl
  · refine ⟨_, rfl, fun j u hu => ?_⟩
    have hj : j < l.length := by
      rcases Nat.lt_or_ge j l.length with h' | h'
      · exact h'
      · rw [List.getElem?_eq_none (by simpa [Lib.byteCells] using h')] at hu; cases hu
    have hadd : (⟨B, off, none⟩ : Addr).add j = ⟨B, off + j, none⟩ := by unfold Addr.add; split <;> simp_all
    rw [hadd, hc j hj]
    simp [Lib.byteCells, hj] at hu
    rw [← hu]
abbrev StM (w4 : World) (g k : Nat) (a : Option Addr) (n c : Nat) (vb : Value) (T : ByteArray) (W : World) : Prop :=
  W.cell? ⟨g, 0, none⟩ = some (.int .i64 k) ∧ W.cell? ⟨g, 1, none⟩ = some (.slice a n c) ∧ (convert 25 9 vb).run Tryd.prog W = .ok (.string T) W ∧ Hid (Below w4.heap.size w4 W)
theorem src_below {w w' : World} {a : Option Addr} {l : List UInt8} {c : Nat} (h : (a = none ∧ c = 0 ∧ l = []) ∨ ∃ y, a = some y ∧ ∀ j u, (Lib.byteCells l)[j]? = some u → w.cell? (y.add j) = some u) (hb : Below w.heap.size w w') :
    (a = none ∧ c = 0 ∧ l = []) ∨ ∃ y, a = some y ∧ ∀ j u, (Lib.byteCells l)[j]? = some u → w'.cell? (y.add j) = some u := by
  rcases h with h | ⟨y, e, hc⟩
  · exact .inl h
  · exact .inr ⟨y, e, fun j u hu => (hb.cell (World.block_lt_of_cell? w _ (hc j u hu))).trans (hc j u hu)⟩

set_option maxHeartbeats 4000000 in
set_option maxRecDepth 100000 in
theorem mayLaw_yes (w : World) (a b : Option Addr) (n c d k : Nat) (ks : List (List Ins)) (l : List UInt8) (hG : GloT w) (hp : ProgAt w a n ⟨k, ks⟩) (hm : muchB ⟨k, ks⟩ = false) (h100 : l.length ≤ 100) (hmay : CodM.may (codeNk ⟨k, ks⟩) ⟨k, ks⟩ = true)
    (hsrc : (b = none ∧ d = 0 ∧ l = []) ∨ ∃ y, b = some y ∧ ∀ j u, (Lib.byteCells l)[j]? = some u → w.cell? (y.add j) = some u) :
    Calls Tryd.prog 3 #[.agg #[.int .i64 k, .slice a n c], .slice b l.length d] w (TellsBB true w) := by
  have hwf := hp.2.wf
  have HWF := Lib.hid hwf
  have HG := Lib.hid hG
  have HM := Lib.hid hm
  have HMAY := Lib.hid hmay
  have HSRC := Lib.hid hsrc
  have hnk : (n : Int) = codeNk ⟨k, ks⟩ := by rw [← hp.2.1]
  have HMN : Hid (CodM.may n ⟨k, ks⟩ = true) := by show _ = _; rw [hnk]; exact hmay
  obtain ⟨hhead, h128⟩ := may_parts hmay
  have hk8 : k ≤ 8 := by have := hhead.2.1; simp only at this; omega
  have hn8 : n ≤ 8 := by rw [← hp.2.1]; exact hhead.2.2.2
  have H128 := Lib.hid h128
  obtain ⟨wb, hwb⟩ : ∃ wb, wb = w.alloc (.cells #[.int .i64 k, .slice a n c] 24) := ⟨_, rfl⟩
  have hb0 : Below w.heap.size w wb := by rw [hwb]; exact (Below.refl _ _).alloc (Nat.le_refl _) _
  have hbx : wb.heap[w.heap.size]? = some (.cells #[.int .i64 k, .slice a n c] 24) := by rw [hwb]; exact heap_alloc_new _ _
  have HP := Lib.hid (hp.below hb0 (Nat.le_refl _))
  have HB0 := Lib.hid hb0
  have HBOX : Hid (∀ W, Below wb.heap.size wb W → BoxAt W w.heap.size k a n c) := fun W hb => by
    have h := (hb.block _ (heap_lt hbx)).trans hbx
    exact ⟨by rw [cell_of_row _ _ _ _ _ _ h]; rfl, by rw [cell_of_row _ _ _ _ _ _ h]; rfl⟩
  have HB := Lib.hid (Below.refl wb.heap.size wb)
  have HWB := Lib.hid hwb
  obtain ⟨m, hml⟩ : ∃ m, m = l.length := ⟨_, rfl⟩
  rw [← hml] at h100 ⊢
  have HML := Lib.hid hml
  obtain ⟨X, hX⟩ : ∃ X, X = strU (text ⟨k, ks⟩) := ⟨_, rfl⟩
  have HX := Lib.hid hX
  have hxe : (X.toList == X.toList) = true := by simp
  obtain ⟨N4, hN4⟩ : ∃ N4, N4 = (bytesP ⟨k, ks⟩).length := ⟨_, rfl⟩
  have HN4 := Lib.hid hN4
  clear hG hm hp hb0 hwb hbx hmay hnk hhead h128 hwf hsrc hml hX hN4
  go_enter Tryd.func3, Tryd.ntmps3
  go_wp2_with (first
    | (go_at_call 9; rw [← HWB.out]; refine (much_any _ _ _ _ ⟨k, ks⟩ HP.out).mono ?_; rintro e w1 ⟨rfl, hb⟩; rw [HM.out]; replace HB := Lib.hid (HB.out.trans (hb.mono HB.out.size)); obtain ⟨c0, c1⟩ := HBOX.out _ HB.out; clear hb)
    | (go_at_call 11; refine (rmay_any _ _ _ ⟨k, ks⟩ _ (HP.out.below HB.out (Nat.le_refl _))).mono ?_; rintro e w2 ⟨rfl, hb⟩; rw [HMN.out]; replace HB := Lib.hid (HB.out.trans (hb.mono HB.out.size)); obtain ⟨c0, c1⟩ := HBOX.out _ HB.out; clear hb)
    | (go_at_call 12; refine (text_yes _ _ _ _ k ks (HG.out.glo.next (HB0.out.trans (HB.out.mono HB0.out.size)) (Nat.le_refl _)) (HP.out.below HB.out (Nat.le_refl _)) HMAY.out).mono ?_; rintro e w3 ⟨rfl, hb⟩; rw [← HX.out]; replace HB := Lib.hid (HB.out.trans (hb.mono HB.out.size)); obtain ⟨c0, c1⟩ := HBOX.out _ HB.out; clear hb)
    | (go_at_call 13; refine (bytes_yes _ _ _ _ k ks (HG.out.glo.next (HB0.out.trans (HB.out.mono HB0.out.size)) (Nat.le_refl _)) (HP.out.below HB.out (Nat.le_refl _)) HMAY.out).mono ?_; rintro e w4 ⟨v4, rfl, hbuf4, hb⟩; obtain ⟨a4, c4, rfl, hlc4, hc4, hby4⟩ := hbuf4.byt; rw [← HN4.out]; have HBY4 := Lib.hid hby4; replace HB := Lib.hid (HB.out.trans (hb.mono HB.out.size)); have HB4 := HB; obtain ⟨c0, c1⟩ := HBOX.out _ HB.out; clear hb hbuf4 hby4 hlc4)
    | (go_at_call 14; refine (may_any _ _ _ ⟨k, ks⟩ _ (HG.out.glo.next (HB0.out.trans (HB.out.mono HB0.out.size)) (Nat.le_refl _)).words (HP.out.below HB.out (Nat.le_refl _))).mono ?_; rintro e w5 ⟨rfl, hb⟩; rw [HMAY.out]; have HB45 := Lib.hid hb; replace HB := Lib.hid (HB.out.trans (hb.mono HB.out.size)); obtain ⟨c0, c1⟩ := HBOX.out _ HB.out; clear hb)
    | (go_at_call 15; refine (rtext_yes _ _ _ _ k ks (HP.out.below HB.out (Nat.le_refl _)) HMN.out).mono ?_; rintro e w6 ⟨rfl, hb⟩; rw [← HX.out]; have HB46 := Lib.hid (HB45.out.trans (hb.mono HB45.out.size)); replace HB := Lib.hid (HB.out.trans (hb.mono HB.out.size)); obtain ⟨c0, c1⟩ := HBOX.out _ HB.out; clear hb))
  obtain ⟨S, hS⟩ : ∃ S, S = strU (bytesP ⟨k, ks⟩) := ⟨_, rfl⟩
  have hse : (S.toList == S.toList) = true := by simp
  have HST : Hid (∀ W, Hid (Below w4.heap.size w4 W) → StM w4 w.heap.size k a n c (.slice a4 N4 c4) S W) := fun W hb => by
    obtain ⟨h1, h2⟩ := HBOX.out W (HB4.out.trans (hb.out.mono HB4.out.size))
    exact ⟨h1, h2, byt_str HN4.out (HBY4.out.below hb.out (Nat.le_refl _)) c4 S hS, hb⟩
  have HRB : Hid (∀ W, Hid (Below w4.heap.size w4 W) → Calls Tryd.prog 16 #[.agg #[.int .i64 k, .slice a n c]] W fun e w' => ∃ a n' c', e = .returned (.slice a n' c') ∧ (convert 25 9 (.slice a n' c')).run Tryd.prog w' = .ok (.string S) w' ∧ StM w4 w.heap.size k _ n c (.slice a4 N4 c4) S w') := fun W hb =>
    (rbytes_any W a n c k ks (HP.out.below (HB4.out.trans (hb.out.mono HB4.out.size)) (Nat.le_refl _)) (by omega) (by omega) H128.out).mono fun e w' ⟨v, h1, h2, h3⟩ => by
      obtain ⟨a9, c9, rfl, _, _, h4⟩ := h2.byt
      exact ⟨a9, _, c9, h1, byt_str rfl h4 c9 S hS, HST.out w' (Lib.hid (hb.out.trans (h3.mono hb.out.size)))⟩
  have HSS := Lib.hid hS
  clear hS
  go_region_held (fun W => StM w4 w.heap.size k a n c (.slice a4 N4 c4) S W) (first | assumption | exact HST.out _ (Lib.hid HB46.out.drew))
    (first
      | (go_at_call 16; ((with_reducible refine (HRB.out _ ?_).mono ?_)); (go_split_ands; assumption); rintro e w' ⟨a9, n9, c9, rfl, hcv9, hst'⟩))
  have hb4w := hst'.2.2.2.out
  have HB4W := Lib.hid hb4w
  have HBW := Lib.hid (HB4.out.trans (hb4w.mono HB4.out.size))
  have HGW := Lib.hid (HG.out.but (But.of (S := fun _ => False) (HB0.out.trans (HBW.out.mono HB0.out.size))) (fun _ h => h.elim))
  have HTL := Lib.hid (text_length HMAY.out HWF.out)
  have HGT := Lib.hid (goodT_of HMAY.out HWF.out)
  clear hst' hb4w hcv9 hse
  go_wp2_with (first
    | (go_at_call 17; rw [HX.out]; refine (of_yes (text ⟨k, ks⟩) ⟨k, ks⟩ _ HGW.out (by have := HTL.out; omega) HGT.out).mono ?_; rintro e w7 ⟨a7, n7, c7, rfl, -, hp7, hb7⟩; rw [← HX.out]; refine Hid.out ?_))
  have HB7 := Lib.hid (HBW.out.trans (hb7.mono HBW.out.size))
  have HB47 := Lib.hid (HB4W.out.trans (hb7.mono HB4W.out.size))
  obtain ⟨w8, hw8⟩ : ∃ w8, w8 = w7.alloc (.cells #[.int .i64 k, .slice a7 n7 c7] 24) := ⟨_, rfl⟩
  have hb78 : Below w7.heap.size w7 w8 := by rw [hw8]; exact (Below.refl _ _).alloc (Nat.le_refl _) _
  have hq8 : w8.heap[w7.heap.size]? = some (.cells #[.int .i64 k, .slice a7 n7 c7] 24) := by rw [hw8]; exact heap_alloc_new _ _
  have hp8 := hp7.below hb78 (Nat.le_refl _)
  have hb48 : Below w4.heap.size w4 w8 := HB47.out.trans (hb78.mono HB47.out.size)
  have hne : bytesP ⟨k, ks⟩ ≠ [] := by simp [bytesP]
  have hbl := bytes_length HMAY.out
  have hlen := HML.out
  have hnl := HN4.out
  obtain ⟨v9, w9, hr9, hbuf9, hb89⟩ := app_own w8 w8.heap.size (.slice none 0 0) [] a4 (bytesP ⟨k, ks⟩) c4 (World.ownsRow_nil _ _ _ _) (.inr (byt_src (HBY4.out.below hb48 (Nat.le_refl _)) hne)) (by simp; omega) (Nat.le_refl _) 25
  have hbw9 : Below w.heap.size w w9 := HB0.out.trans ((HB7.out.trans ((hb78.trans (hb89.mono hb78.size)).mono HB7.out.size)).mono HB0.out.size)
  obtain ⟨v10, w10, hr10, hbuf10, hb910⟩ := app_own w9 w8.heap.size v9 ([] ++ bytesP ⟨k, ks⟩) b l d hbuf9 (src_below HSRC.out hbw9) (by simp; omega) hb89.size 25
  rw [List.nil_append] at hbuf10
  obtain ⟨a10, c10, rfl, hlc10, hc10, hby10⟩ := hbuf10.byt
  obtain ⟨M, hM⟩ : ∃ M, M = (bytesP ⟨k, ks⟩ ++ l).length := ⟨_, rfl⟩
  rw [← hM] at hr10 hlc10
  rw [← hnl, hw8] at hr9
  rw [← hlen] at hr10
  have HR9 := Lib.hid hr9
  have HR10 := Lib.hid hr10
  have HM' := Lib.hid hM
  have HBY10 := Lib.hid hby10
  have hb810 : Below w8.heap.size w8 w10 := hb89.trans hb910
  have HQ10 := Lib.hid ((hb810.block _ (heap_lt hq8)).trans hq8)
  have HPQ10 := Lib.hid (hp8.below hb810 (Nat.le_refl _))
  have HB10 := Lib.hid (HB7.out.trans ((hb78.trans (hb810.mono hb78.size)).mono HB7.out.size))
  have HGP := Lib.hid (goodP_of HMAY.out HWF.out l)
  have HN4M := Lib.hid (show N4 = (bytesP ⟨k, ks⟩ ++ l).length - l.length by rw [hnl]; simp)
  have HW10 := Lib.hid (HG.out.words.next (HB0.out.trans (HB10.out.mono HB0.out.size)) (Nat.le_refl _))
  clear hb7 hp7 hb78 hq8 hp8 hb48 hne hbl hr9 hbuf9 hb89 hbw9 hr10 hbuf10 hb910 hM hby10 hb810 hw8 hnl hlen
  refine Lib.hid ?_
  go_wp2_with (first
    | (at_builtin; refine wpList_run_append rfl _ _ 25 _ _ _ rfl rfl rfl HR9.out ?_)
    | (at_builtin; refine wpList_run_append rfl _ _ 25 _ _ _ rfl rfl rfl HR10.out ?_)
    | (go_at_call 18; refine (cof_some (bytesP ⟨k, ks⟩ ++ l) l ⟨k, ks⟩ M a10 c10 _ HW10.out HM'.out hlc10 hc10 HBY10.out HGP.out N4 HN4M.out).mono ?_; rintro e w11 ⟨a11, n11, c11, rfl, -, hp11, hb11⟩; refine Hid.out ?_))
  have HB11 := Lib.hid (HB10.out.trans (hb11.mono HB10.out.size))
  have HQ11 := Lib.hid ((hb11.block _ (heap_lt HQ10.out)).trans HQ10.out)
  have HPQ11 := Lib.hid (HPQ10.out.below hb11 (Nat.le_refl _))
  have hal := (Below.refl w11.heap.size w11).alloc (Nat.le_refl _) (.cells #[.int .i64 k, .slice a11 n11 c11] 24)
  obtain ⟨w12, hw12⟩ : ∃ w12, w12 = w11.alloc (.cells #[.int .i64 k, .slice a11 n11 c11] 24) := ⟨_, rfl⟩
  have ho12 : w12.heap[w11.heap.size]? = some (.cells #[.int .i64 k, .slice a11 n11 c11] 24) := by rw [hw12]; exact heap_alloc_new _ _
  rw [← hw12] at hal
  have HO12 := Lib.hid ho12
  have HPO12 := Lib.hid (hp11.below hal (Nat.le_refl _))
  have HPQ12 := Lib.hid (HPQ11.out.below hal (Nat.le_refl _))
  have HB12 := Lib.hid (HB11.out.trans (hal.mono HB11.out.size))
  have HPP12 := Lib.hid (HP.out.below HB12.out (Nat.le_refl _))
  have HC := Lib.hid (Below.refl w12.heap.size w12)
  have HF : Hid (∀ W, Below w12.heap.size w12 W → BoxAt W w.heap.size k a n c ∧ BoxAt W w11.heap.size k a11 n11 c11) := fun W hb => by
    have h := (hb.block _ (heap_lt HO12.out)).trans HO12.out
    exact ⟨HBOX.out W (HB12.out.trans (hb.mono HB12.out.size)), by rw [cell_of_row _ _ _ _ _ _ h]; rfl, by rw [cell_of_row _ _ _ _ _ _ h]; rfl⟩
  have HS1 : Hid (∀ W, Below w12.heap.size w12 W → Calls Tryd.prog 19 #[.agg #[.int .i64 k, .slice a7 n7 c7], .agg #[.int .i64 k, .slice a n c]] W (TellsBB true W)) := fun W hb => by
    have := rsame_any W a7 a n7 n c7 c ⟨k, ks⟩ ⟨k, ks⟩ (HPQ12.out.below hb (Nat.le_refl _)) (HPP12.out.below hb (Nat.le_refl _))
    rwa [sameP_self] at this
  have HS2 : Hid (∀ W, Below w12.heap.size w12 W → Calls Tryd.prog 19 #[.agg #[.int .i64 k, .slice a11 n11 c11], .agg #[.int .i64 k, .slice a n c]] W (TellsBB true W)) := fun W hb => by
    have := rsame_any W a11 a n11 n c11 c ⟨k, ks⟩ ⟨k, ks⟩ (HPO12.out.below hb (Nat.le_refl _)) (HPP12.out.below hb (Nat.le_refl _))
    rwa [sameP_self] at this
  have HW12 := Lib.hid hw12
  obtain ⟨c0', c1'⟩ := HBOX.out _ HB11.out
  have q0 : w11.cell? ⟨w7.heap.size, 0, none⟩ = some (.int .i64 k) := by rw [cell_of_row _ _ _ _ _ _ HQ11.out]; rfl
  have q1 : w11.cell? ⟨w7.heap.size, 1, none⟩ = some (.slice a7 n7 c7) := by rw [cell_of_row _ _ _ _ _ _ HQ11.out]; rfl
  have z1 := World.block_lt_of_cell? w11 _ c0'
  have z2 := World.block_lt_of_cell? w11 _ q0
  simp only at z1 z2
  clear hb11 hp11 hal hw12 ho12
  refine Lib.hid ?_
  go_wp2_with (first
    | (go_at_call 19; rw [← HW12.out]; ((with_reducible refine (HS1.out _ ?_).mono ?_)); (exact HC.out); rintro e w13 ⟨rfl, hb⟩; replace HC := Lib.hid (HC.out.trans (hb.mono HC.out.size)); obtain ⟨⟨e0, e1⟩, e2, e3⟩ := HF.out _ HC.out; clear hb)
    | (go_at_call 19; ((with_reducible refine (HS2.out _ ?_).mono ?_)); (exact HC.out); rintro e w14 ⟨rfl, hb⟩; replace HC := Lib.hid (HC.out.trans (hb.mono HC.out.size)); clear hb)
    | (go_at_call 10; refine (known_any _ (HG.out.glo.next (HB0.out.trans ((HB12.out.trans (HC.out.mono HB12.out.size)).mono HB0.out.size)) (Nat.le_refl _))).mono ?_; rintro e w15 ⟨rfl, hb⟩; replace HC := Lib.hid (HC.out.trans (hb.mono HC.out.size)); clear hb))
  go_ret
  exact ⟨rfl, HB0.out.trans ((HB12.out.trans (HC.out.mono HB12.out.size)).mono HB0.out.size)⟩
/-- the law at every program, and every slice of bytes -/
theorem mayLaw_any (w : World) (a b : Option Addr) (n c d : Nat) (x : Int) (ks : List (List Ins)) (l : List UInt8) (hG : GloT w) (hp : ProgAt w a n ⟨x, ks⟩)
    (hsrc : (b = none ∧ d = 0 ∧ l = []) ∨ ∃ y, b = some y ∧ ∀ j u, (Lib.byteCells l)[j]? = some u → w.cell? (y.add j) = some u) :
    Calls Tryd.prog 3 #[.agg #[.int .i64 x, .slice a n c], .slice b l.length d] w (TellsBB true w) := by
  rcases hm : muchB ⟨x, ks⟩ with _ | _
  · by_cases h100 : 100 < l.length
    · exact mayLaw_long w a b n c l.length d x ks hG hp hm h100
    · rcases hmay : CodM.may (codeNk ⟨x, ks⟩) ⟨x, ks⟩ with _ | _
      · exact mayLaw_no w a b n c l.length d x ks hG hp hm (by omega) hmay
      · obtain ⟨hh, _⟩ := may_parts hmay
        simp only at hh
        obtain ⟨k, rfl⟩ : ∃ k : Nat, x = (k : Int) := ⟨x.toNat, by omega⟩
        exact mayLaw_yes w a b n c d k ks l hG hp hm (by omega) hmay hsrc
  · exact mayLaw_much w a b n c l.length d x ks hG hp hm
end Go.Proofs.YtlgbkbmjfmomkaaDoor
