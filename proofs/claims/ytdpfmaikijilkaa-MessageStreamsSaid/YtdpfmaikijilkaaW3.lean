/-
  The walks of what is left of a wire: written, read; and of bytes.Clone.
-/
import Derived.Test.YtdpfmaikijilkaaW2
import Derived.Lib.SliceRun
import Derived.Lib.Slices
namespace Go.Proofs.Ytdpfmaikijilkaa
open Go Go.RowKit Go.Sort Go.Proofs

/-- .. what is left: the bytes, or the panic -/
def RestTo (a0 : Option Addr) (l0 : List UInt8) (P g : Nat) (F : Nat → Prop) (w : World) (r : Option (List UInt8 × Wi)) (e : Ending) (w' : World) : Prop :=
  But F w w' ∧ match r with
    | none => e = .panicked fieldPanic
    | some (l, S) => ∃ a c, e = .returned (.slice a l.length c) ∧ l.length ≤ c ∧ (a = a0 ∧ l = l0 ∨ ∀ p, a = some p → w.heap.size ≤ p.block) ∧ CB.At w' a l.length l ∧ ∃ F', (∀ b, F' b → F b ∨ w.heap.size ≤ b) ∧ WAt w' P g F' S ∧ ∀ p, a = some p → ¬ F' p.block

def CloneTo (l : List UInt8) (w : World) (e : Ending) (w' : World) : Prop := ∃ v, e = .returned v ∧ CB.Own 5 w.heap.size w' v l ∧ Below w.heap.size w w'
set_option maxHeartbeats 1000000 in
set_option maxRecDepth 100000 in
theorem clone_any (w : World) (p : Addr) (c : Nat) (l : List UInt8) (hl : CB.At w (some p) l.length l) (h0 : 1 ≤ l.length) : Calls Try.prog 86 #[.slice (some p) l.length c] w (CloneTo l w) := by
  have hmx := hl.2.1
  have hnil := fun (w : World) => Lib.run_eql_slice_nil (P := Try.prog) w 24 5 (some p) l.length c 0 0 Try.underlying24
  have hown : CB.Own 5 w.heap.size (w.alloc (.cells #[] 5)) (.slice (some ⟨w.heap.size, 0, none⟩) 0 0) [] := World.ownsRow_made w #[] 0 (Nat.le_refl _) (by decide) rfl
  have HO := Lib.hid hown
  have HB : Hid (Below w.heap.size w (w.alloc (.cells #[] 5))) := (Below.refl _ _).alloc (Nat.le_refl _) _
  have HN := Lib.hid ((hl.below HB.out).news)
  clear hl hown
  go_enter Try.func86, Try.ntmps86
  go_wp2_with (at_builtin; refine rowB.list rfl _ _ rfl w.heap.size (.slice (some ⟨w.heap.size, 0, none⟩) 0 0) [] rfl HO.out p l.length c l rfl rfl HN.out (by simp only [List.length_nil]; omega) (by simp only [List.length_nil]; omega) HB.out.size ?_; intro v1 w1 hown1 hgrow1 _; have H1 := Lib.hid (And.intro hown1 hgrow1); clear hown1 hgrow1)
  go_ret
  exact ⟨_, rfl, H1.out.1, HB.out.trans ((But.grown H1.out.2).below HB.out.size fun k e => (HO.out.lt k e.symm).1)⟩

set_option maxHeartbeats 1000000 in
set_option maxRecDepth 100000 in
theorem rest_wr_no (P g : Nat) (F : Nat → Prop) (o : List UInt8) (a : Option Addr) (c : Nat) (l : List UInt8) (w : World) (h : ¬ (1 ≤ l.length ∧ l.length ≤ 4091)) :
    Calls Try.prog 82 #[.slice a l.length c, .int .i64 4091, .pointer (some ⟨P, 0, none⟩)] w (RestTo a l P g F w ((Wi.wr o).rest l)) := by
  have HR : Hid ((Wi.wr o).rest l = none) := by
    show (if 1 ≤ l.length ∧ l.length ≤ 4091 then some (l, Wi.wr (o ++ l)) else none) = _
    rw [if_neg h]
  by_cases h1 : 1 ≤ l.length
  · have h2 : ¬ l.length ≤ 4091 := fun e => h ⟨h1, e⟩
    obtain ⟨m, hm⟩ : ∃ m, m = l.length := ⟨_, rfl⟩
    rw [← hm] at h1 h2 ⊢
    have HD : Hid (decide ((m : Int) ≤ 4091) = false) := decide_eq_false (by omega)
    clear h hm
    go_enter Try.func82, Try.ntmps82
    go_wp2_with (first
      | (go_at_call 83; rw [HD.out]; refine (must_no _).mono ?_; rintro e w' ⟨rfl, rfl⟩))
    refine ⟨rfl, But.refl _ _, ?_⟩
    rw [HR.out]
  · obtain ⟨m, hm⟩ : ∃ m, m = l.length := ⟨_, rfl⟩
    rw [← hm] at h1 ⊢
    clear h hm
    go_enter Try.func82, Try.ntmps82
    go_wp2_with (first
      | (go_at_call 83; refine (must_no _).mono ?_; rintro e w' ⟨rfl, rfl⟩))
    refine ⟨rfl, But.refl _ _, ?_⟩
    rw [HR.out]

set_option maxHeartbeats 2000000 in
set_option maxRecDepth 100000 in
theorem rest_wr_yes (P g : Nat) (F : Nat → Prop) (o : List UInt8) (p : Addr) (c : Nat) (l : List UInt8) (w : World) (h : WAt w P g F (.wr o)) (hl : CB.At w (some p) l.length l) (hc : l.length ≤ c) (hF : ¬ F p.block) (h1 : 1 ≤ l.length) (h2 : l.length ≤ 4091) (ho : o.length ≤ 1000000) :
    Calls Try.prog 82 #[.slice (some p) l.length c, .int .i64 4091, .pointer (some ⟨P, 0, none⟩)] w (RestTo (some p) l P g F w ((Wi.wr o).rest l)) := by
  have HR : Hid ((Wi.wr o).rest l = some (l, .wr (o ++ l))) := by
    show (if 1 ≤ l.length ∧ l.length ≤ 4091 then some (l, Wi.wr (o ++ l)) else none) = _
    rw [if_pos ⟨h1, h2⟩]
  obtain ⟨hP, hnP, hfg, hlt, v, hg, hown, hvb⟩ := h
  have c1 : w.cell? ⟨P, 0, none⟩ = some (.pointer (some ⟨g, 0, none⟩)) := by rw [cell_of_row _ _ _ _ _ _ hP]; rfl
  have c2 : w.cell? ⟨g, 0, none⟩ = some v := by rw [cell_of_row _ _ _ _ _ _ hg]; rfl
  have hpl : p.block < w.heap.size := by
    obtain ⟨B, off, e, hB, -⟩ := hl.cell (i := 0) (by omega)
    cases e
    exact hB
  obtain ⟨a0, n0, p0, rfl⟩ := hown.shape
  obtain ⟨hz, -⟩ := Cod.Own.size hown
  have hgw := (Array.getElem?_eq_some_iff.1 hg).1
  have hPw := (Array.getElem?_eq_some_iff.1 hP).1
  obtain ⟨m, hm⟩ : ∃ m, m = l.length := ⟨_, rfl⟩
  rw [← hm] at h1 h2 hc ⊢
  have hn0 : n0 ≤ 1000000 := by omega
  have HD : Hid (decide ((m : Int) ≤ 4091) = true) := decide_eq_true (by omega)
  have HM := Lib.hid (And.intro hm (And.intro hz ho))
  have HP := Lib.hid hP
  have HG := Lib.hid hg
  have HO := Lib.hid hown
  have HV := Lib.hid hvb
  have HN := Lib.hid (And.intro hnP (And.intro hfg hlt))
  have HL := Lib.hid hl
  have HF := Lib.hid hF
  clear hm hz ho hP hg hown hvb hnP hfg hlt hl hF
  go_enter Try.func82, Try.ntmps82
  go_wp2_with (first
    | (go_at_call 83; rw [HD.out]; refine (must_ok _).mono ?_; rintro e w' ⟨rfl, rfl⟩))
  go_region_law (first
    | (refine rowB.step rfl _ _ rfl 0 (.slice a0 n0 p0) o rfl (HO.out.but ((But.refl (fun _ => False) w).drew) (fun _ _ e => e)) p m c l rfl HM.out.1 (HL.out.but ((But.refl (fun _ => False) w).drew) (fun _ _ e => e)).news (by have := HM.out.2; omega) (by have := HM.out.2; omega) (Nat.zero_le _) ?_; intro v5 w5 hown5 hgrow5 hnew5; obtain ⟨a5, n5, q5, rfl⟩ := hown5.shape; have g5 := (hgrow5.block g hgw (fun e => (HV.out g e.symm).2 rfl)).trans HG.out; have c5 : w5.cell? ⟨g, 0, none⟩ = some (.slice a0 n0 p0) := (by rw [cell_of_row _ _ _ _ _ _ g5]; rfl); have f5 : w5.frozen? ⟨g, 0, none⟩ = false := frozen_of_row _ _ _ _ _ g5; have q5 := (hgrow5.block P hPw (fun e => HN.out.1 (HV.out P e.symm).1)).trans HP.out; have d5 : w5.cell? ⟨P, 0, none⟩ = some (.pointer (some ⟨g, 0, none⟩)) := (by rw [cell_of_row _ _ _ _ _ _ q5]; rfl); have H5 := Lib.hid (And.intro g5 q5); clear g5 q5; have HO5 := Lib.hid hown5; have HG5 := Lib.hid hgrow5; have HN5 := Lib.hid hnew5; clear hown5 hgrow5 hnew5))
  all_goals
    go_wp2
    go_ret
    have hb5 := HG5.out
    have hb : But F w (w5.setCell ⟨g, 0, none⟩ (.slice a5 n5 q5)) := ((But.refl F w).drew.trans ((But.grown hb5).mono fun b _ e => (HV.out b e.symm).1)).setCell HN.out.2.1 _
    have hbg : But (fun b => b = g) w5 (w5.setCell ⟨g, 0, none⟩ (.slice a5 n5 q5)) := (But.refl (fun b => b = g) _).setCell (p := ⟨g, 0, none⟩) rfl _
    have hbl : ∀ b, (Value.slice a5 n5 q5).ownBlock = some b → (F b ∨ w.heap.size ≤ b) ∧ b ≠ g := fun b e => by
      rcases HN5.out.1 b e with e2 | e2
      · exact ⟨.inl (HV.out b e2).1, (HV.out b e2).2⟩
      · exact ⟨.inr e2, fun e3 => by have e4 : w.heap.size ≤ b := e2; omega⟩
    rw [HR.out]
    have hm := HM.out.1
    refine ⟨hb, some p, c, by rw [← hm]; rfl, by omega, .inl ⟨rfl, rfl⟩, HL.out.but hb fun q e => by cases e; exact HF.out, fun b => b = g ∨ (Value.slice a5 n5 q5).ownBlock = some b, fun b e => ?_, ⟨?_, ?_, .inl rfl, ?_, _, heap_setCell_same _ _ _ _ _ _ H5.out.1, HO5.out.but hbg fun b e => (hbl b e).2, fun b e => ⟨.inr e, (hbl b e).2⟩⟩, ?_⟩
    · rcases e with rfl | e
      · exact .inl HN.out.2.1
      · exact (hbl b e).1
    · rw [hbg.block P (Array.getElem?_eq_some_iff.1 H5.out.2).1 (fun e => HN.out.1 (by rw [e]; exact HN.out.2.1))]
      exact H5.out.2
    · rintro (e | e)
      · exact HN.out.1 (by rw [e]; exact HN.out.2.1)
      · exact (hbl _ e).1.elim HN.out.1 (by omega)
    · rintro b (rfl | e)
      · exact Nat.lt_of_lt_of_le hgw hb.size
      · have := (HO5.out.lt b e).2
        simpa [World.setCell] using this
    · intro q e
      cases e
      rintro (e | e)
      · exact HF.out (by rw [e]; exact HN.out.2.1)
      · exact (hbl _ e).1.elim HF.out (by omega)

set_option maxHeartbeats 1000000 in
set_option maxRecDepth 100000 in
theorem rest_rd_no (P g : Nat) (F : Nat → Prop) (l l0 : List UInt8) (a0 : Option Addr) (v0 : Value) (w : World) (h : WAt w P g F (.rd l)) (hs : ¬ (1 ≤ l.length ∧ l.length ≤ 4091)) :
    Calls Try.prog 85 #[v0, .int .i64 4091, .pointer (some ⟨P, 0, none⟩)] w (RestTo a0 l0 P g F w ((Wi.rd l).rest l0)) := by
  obtain ⟨hP, hnP, hfg, hlt, a, c, hg, hat, hlc, hc, hF⟩ := h
  have c1 : w.cell? ⟨P, 0, none⟩ = some (.pointer (some ⟨g, 0, none⟩)) := by rw [cell_of_row _ _ _ _ _ _ hP]; rfl
  have c2 : w.cell? ⟨g, 0, none⟩ = some (.slice a l.length c) := by rw [cell_of_row _ _ _ _ _ _ hg]; rfl
  have HR : Hid ((Wi.rd l).rest l0 = none) := by
    show (if 1 ≤ l.length ∧ l.length ≤ 4091 then some (l, Wi.rd []) else none) = _
    rw [if_neg hs]
  obtain ⟨m, hm⟩ : ∃ m, m = l.length := ⟨_, rfl⟩
  rw [← hm] at hs c2
  clear hP hg hat hF hlt hm hlc
  by_cases h1 : 1 ≤ m
  · have h2 : ¬ m ≤ 4091 := fun e => hs ⟨h1, e⟩
    have HD : Hid (decide ((m : Int) ≤ 4091) = false) := decide_eq_false (by omega)
    clear hs
    go_enter Try.func85, Try.ntmps85
    go_wp2_with (first
      | (go_at_call 83; rw [HD.out]; refine (must_no _).mono ?_; rintro e w' ⟨rfl, rfl⟩)
      | (go_at_call 83; refine (must_no _).mono ?_; rintro e w' ⟨rfl, rfl⟩))
    refine ⟨rfl, But.refl _ _, ?_⟩
    rw [HR.out]
  · clear hs
    go_enter Try.func85, Try.ntmps85
    go_wp2_with (first
      | (go_at_call 83; refine (must_no _).mono ?_; rintro e w' ⟨rfl, rfl⟩))
    refine ⟨rfl, But.refl _ _, ?_⟩
    rw [HR.out]

set_option maxHeartbeats 1000000 in
set_option maxRecDepth 100000 in
theorem rest_rd_yes (P g : Nat) (F : Nat → Prop) (l l0 : List UInt8) (a0 : Option Addr) (v0 : Value) (w : World) (h : WAt w P g F (.rd l)) (h1 : 1 ≤ l.length) (h2 : l.length ≤ 4091) :
    Calls Try.prog 85 #[v0, .int .i64 4091, .pointer (some ⟨P, 0, none⟩)] w (RestTo a0 l0 P g F w ((Wi.rd l).rest l0)) := by
  have HW := Lib.hid h
  obtain ⟨hP, hnP, hfg, hlt, a, c, hg, hat, hlc, hc, hF⟩ := h
  have HR : Hid ((Wi.rd l).rest l0 = some (l, .rd [])) := by
    show (if 1 ≤ l.length ∧ l.length ≤ 4091 then some (l, Wi.rd []) else none) = _
    rw [if_pos ⟨h1, h2⟩]
  obtain ⟨B, off, rfl, hB, -⟩ := hat.cell (i := 0) (by omega)
  have c1 : w.cell? ⟨P, 0, none⟩ = some (.pointer (some ⟨g, 0, none⟩)) := by rw [cell_of_row _ _ _ _ _ _ hP]; rfl
  have c2 : w.cell? ⟨g, 0, none⟩ = some (.slice (some ⟨B, off, none⟩) l.length c) := by rw [cell_of_row _ _ _ _ _ _ hg]; rfl
  have HA : Hid (∀ w1, Below w.heap.size w w1 → w1.cell? ⟨P, 0, none⟩ = some (.pointer (some ⟨g, 0, none⟩)) ∧ w1.frozen? ⟨g, 0, none⟩ = false ∧ w1.cell? ⟨g, 0, none⟩ = some (.slice (some ⟨B, off, none⟩) l.length c)) := fun w1 hb1 =>
    ⟨by rw [cell_of_row _ _ _ _ _ _ ((hb1.block _ (Array.getElem?_eq_some_iff.1 hP).1).trans hP)]; rfl, frozen_of_row _ _ _ _ _ ((hb1.block _ (Array.getElem?_eq_some_iff.1 hg).1).trans hg), by rw [cell_of_row _ _ _ _ _ _ ((hb1.block _ (Array.getElem?_eq_some_iff.1 hg).1).trans hg)]; rfl⟩
  obtain ⟨m, hm⟩ : ∃ m, m = l.length := ⟨_, rfl⟩
  rw [← hm] at c2
  have hm1 : 1 ≤ m := by omega
  have HD : Hid (decide ((m : Int) ≤ 4091) = true) := decide_eq_true (by omega)
  have HM := Lib.hid hm
  have HAT := Lib.hid hat
  have HH1 := Lib.hid h1
  clear hP hg hat hF hlt hm hlc h1 h2
  go_enter Try.func85, Try.ntmps85
  go_wp2_with (first
    | (go_at_call 83; rw [HD.out]; refine (must_ok _).mono ?_; rintro e w' ⟨rfl, rfl⟩)
    | (go_at_call 86; rw [HM.out]; refine (clone_any _ _ c l HAT.out HH1.out).mono ?_; rintro e w1 ⟨v1, rfl, hown1, hb1⟩; obtain ⟨a1, n1, k1, rfl⟩ := hown1.shape; obtain ⟨d1, f1, d2⟩ := HA.out _ hb1; have H1 := Lib.hid (And.intro hown1 hb1); clear hown1 hb1))
  go_ret
  obtain ⟨hown, hb1⟩ := H1.out
  obtain ⟨hP, hnP, hfg, hlt, a, c, hg, hat, hlc, hc, hF⟩ := HW.out
  obtain ⟨a2, c2, e2, hle, hat2, hblk, -⟩ := hown.at_ (by have := HAT.out.2.1; omega)
  cases e2
  have hbg : But (fun b => b = g) w1 (w1.setCell ⟨g, 0, none⟩ (.slice none 0 0)) := (But.refl (fun b => b = g) _).setCell (p := ⟨g, 0, none⟩) rfl _
  have hb : But F w (w1.setCell ⟨g, 0, none⟩ (.slice none 0 0)) := (But.of hb1).next hbg fun j _ e => e ▸ hfg
  have hgw := (Array.getElem?_eq_some_iff.1 hg).1
  have hlow : ∀ p, a1 = some p → w.heap.size ≤ p.block := fun p e => by
    subst e
    rcases hown.2 with ⟨e3, _⟩ | ⟨g3, cap, cur, e3, h3, _⟩
    · cases e3
    · cases e3; exact h3
  rw [HR.out]
  refine ⟨hb, a1, k1, rfl, hle, .inr hlow, hat2.but hbg fun p e e2 => ?_, F, fun b e => .inl e, ⟨?_, hnP, hfg, fun b e => Nat.lt_of_lt_of_le (hlt b e) hb.size, none, 0, ?_, Cod.At.nil _, Nat.le_refl _, by omega, fun p e => by cases e⟩, fun p e e2 => ?_⟩
  · have := hlow p e; have e2' : p.block = g := e2; omega
  · rw [hb.block P (Array.getElem?_eq_some_iff.1 hP).1 hnP]; exact hP
  · rw [heap_setCell_same _ _ _ _ _ _ ((hb1.block _ hgw).trans hg)]; rfl
  · have := hlow p e; have := hlt _ e2; omega
end Go.Proofs.Ytdpfmaikijilkaa
