/-
  The walk of the text reader's kind.
-/
import Derived.Test.YtlgbkbmjfmomkaaDoorL1
namespace Go.Proofs.YtlgbkbmjfmomkaaDoor
open Go.RowKit CodM

theorem tline_no (g : Nat) (l : List UInt8) (w : World) (hr : RtAt w g (strU l)) (hG : GloT w) (hs : l.length < 4294967281) (h : cutAt 10 l = none) : Calls Tryd.prog 51 #[.pointer (some ⟨g, 0, none⟩)] w (LineNo g w) :=
  line_no g (strU l) w hr hG.max (by rw [strU_size]; exact hs) (by rw [strU_data, lib_cut_none h])
theorem tline_yes (g : Nat) (l x r : List UInt8) (w : World) (hr : RtAt w g (strU l)) (hG : GloT w) (hs : l.length < 4294967281) (h : cutAt 10 l = some (x, r)) : Calls Tryd.prog 51 #[.pointer (some ⟨g, 0, none⟩)] w (LineRd g (strU x) (strU r) w) :=
  line_yes g (strU l) x r w hr hG.max (by rw [strU_size]; exact hs) (by rw [strU_data]; exact lib_cut_some h)
theorem RtAt.but {S : Nat → Prop} {w w' : World} {g : Nat} {s : ByteArray} (h : RtAt w g s) (hb : But S w w') (hg : ¬ S g) : RtAt w' g s := hb.heap h hg
theorem RtAt.cell {w : World} {g : Nat} {s : ByteArray} (h : RtAt w g s) : w.cell? ⟨g, 0, none⟩ = some (.string s) := by rw [cell_of_row _ _ _ _ _ _ h]; rfl
theorem RtAt.lt {w : World} {g : Nat} {s : ByteArray} (h : RtAt w g s) : g < w.heap.size := heap_lt h
theorem cut_le {b : UInt8} {l x r : List UInt8} (h : cutAt b l = some (x, r)) : x.length + r.length + 1 = l.length := by
  have := congrArg List.length (cutAt_some h).1
  simp at this
  omega
theorem str_drop2 (w : List UInt8) : (strU (32 :: 32 :: w)).extract 2 (strU (32 :: 32 :: w)).size = strU w := by
  rw [strU_size]
  unfold strU
  apply ByteArray.ext
  simp

def KTo (g : Nat) (l : List UInt8) (w : World) (e : Ending) (w' : World) : Prop :=
  But (fun k => k = g) w w' ∧ match rdTK l with
  | none => e = .panicked codePanic
  | some (xs, r) => ∃ a c, e = .returned (.slice a xs.length c) ∧ SlOk a xs.length c ∧ InsOwn w.heap.size w' a xs.length xs ∧ RtAt w' g (strU r)
theorem kTo_no {g : Nat} {l : List UInt8} {w w' : World} (h : rdTK l = none) (hb : But (fun k => k = g) w w') : KTo g l w (.panicked codePanic) w' := by
  refine ⟨hb, ?_⟩
  rw [h]
/-- so many instructions are read -/
def TRel (w : World) (g B : Nat) (t : List UInt8) (v : Value) (wr : World) : Prop :=
  ∃ (xs : List Ins) (r : List UInt8), rdBody 128 t = (rdBody (128 - xs.length) r).map (fun q => (xs ++ q.1, q.2)) ∧ xs.length ≤ 128 ∧ r.length ≤ t.length ∧ (∀ x ∈ xs, I64 x.1 ∧ I64 x.2) ∧ RtAt wr g (strU r) ∧ IOwn B wr v xs ∧ But (fun k => k = g) w wr
theorem rdBody_end {n : Nat} {r : List UInt8} (h : pre2 r = false) : rdBody n r = some ([], r) := by cases n <;> simp [rdBody, h]
theorem rdBody_full {r : List UInt8} (h : pre2 r = true) : rdBody 0 r = none := by simp [rdBody, h]
theorem rdBody_cut {n : Nat} {r : List UInt8} (h : pre2 r = true) (hc : cutAt 10 r = none) : rdBody n r = none := by cases n <;> simp [rdBody, h, hc]
theorem rdBody_bad {n : Nat} {r w t : List UInt8} (h : pre2 r = true) (hc : cutAt 10 r = some (32 :: 32 :: w, t)) (hi : rdI w = none) : rdBody n r = none := by cases n <;> simp [rdBody, h, hc, hi]
theorem rdBody_more {n : Nat} {r w t : List UInt8} {i : Ins} (h : pre2 r = true) (hc : cutAt 10 r = some (32 :: 32 :: w, t)) (hi : rdI w = some i) : rdBody (n + 1) r = (rdBody n t).map (fun q => (i :: q.1, q.2)) := by simp [rdBody, h, hc, hi]
/-- the measure: the bytes that a reader has left -/
noncomputable def leftAt (g : Nat) (w : World) : Nat := match w.cell? ⟨g, 0, none⟩ with | some (.string s) => s.size | _ => 0
theorem leftAt_eq {g : Nat} {w : World} {l : List UInt8} (h : RtAt w g (strU l)) : leftAt g w = l.length := by
  unfold leftAt
  rw [h.cell]
  exact strU_size l

set_option maxHeartbeats 1000000 in
set_option maxRecDepth 100000 in
theorem tkind_none (g : Nat) (l : List UInt8) (w : World) (hr : RtAt w g (strU l)) (hG : GloT w) (hs : l.length < 4294967281) (h : cutAt 10 l = none) : Calls Tryd.prog 53 #[.pointer (some ⟨g, 0, none⟩)] w (KTo g l w) := by
  have HNO := Lib.hid (show rdTK l = none by unfold rdTK; rw [h]; rfl)
  have HR := Lib.hid hr
  have HG := Lib.hid hG
  have HC := Lib.hid h
  clear hr hG h
  go_enter Tryd.func53, Tryd.ntmps53
  go_wp2_with (first
    | (go_at_call 51; refine (tline_no g l _ HR.out HG.out hs HC.out).mono ?_; rintro e w1 ⟨rfl, hb1⟩))
  exact ⟨rfl, kTo_no HNO.out hb1⟩
set_option maxHeartbeats 1000000 in
set_option maxRecDepth 100000 in
theorem tkind_odd (g : Nat) (l x t : List UInt8) (w : World) (hr : RtAt w g (strU l)) (hG : GloT w) (hs : l.length < 4294967281) (h : cutAt 10 l = some (x, t)) (hx : x ≠ kindW) : Calls Tryd.prog 53 #[.pointer (some ⟨g, 0, none⟩)] w (KTo g l w) := by
  have HNO := Lib.hid (show rdTK l = none by unfold rdTK; rw [h]; simp [hx])
  have hd : ((strU x).toList == [107, 105, 110, 100]) = false := by
    have := neq_bytes (strU_ne hx)
    rwa [strU_toList kindW] at this
  obtain ⟨X, hX⟩ : ∃ X, X = strU x := ⟨_, rfl⟩
  rw [← hX] at hd
  have HX := Lib.hid hX
  have HR := Lib.hid hr
  have HG := Lib.hid hG
  have HC := Lib.hid h
  clear hr hG h hX hx
  go_enter Tryd.func53, Tryd.ntmps53
  go_wp2_with (first
    | (go_at_call 51; refine (tline_yes g l x t _ HR.out HG.out hs HC.out).mono ?_; rintro e w1 ⟨rfl, hr1, hb1⟩; rw [← HX.out])
    | (go_at_call 49; refine (must_no _).mono ?_; rintro e w' ⟨rfl, rfl⟩))
  exact ⟨rfl, kTo_no HNO.out hb1⟩

set_option maxHeartbeats 4000000 in
set_option maxRecDepth 100000 in
theorem tkind_yes (g : Nat) (l t : List UInt8) (w : World) (hr : RtAt w g (strU l)) (hG : GloT w) (hg7 : 5 ≤ g) (hs : l.length < 4294967281) (h : cutAt 10 l = some (kindW, t)) : Calls Tryd.prog 53 #[.pointer (some ⟨g, 0, none⟩)] w (KTo g l w) := by
  obtain ⟨i0, hi, hz0, hz1, hz2⟩ := info_parts infoI
  have HTK := Lib.hid (show rdTK l = rdBody 128 t by unfold rdTK; rw [h]; simp)
  have hd : ((strU kindW).toList == (strU kindW).toList) = true := by simp
  have hk : strU kindW = ⟨#[107, 105, 110, 100]⟩ := rfl
  rw [hk] at hd
  have HK := Lib.hid hk
  have HR := Lib.hid hr
  have HG := Lib.hid hG
  have HC := Lib.hid h
  have hle := cut_le h
  have hgw := hr.lt
  clear hr hG h hk
  go_enter Tryd.func53, Tryd.ntmps53
  go_wp2_with (first
    | (go_at_call 51; refine (tline_yes g l kindW t _ HR.out HG.out hs HC.out).mono ?_; rintro e w1 ⟨rfl, hr1, hb1⟩; rw [HK.out]; have HR1 := Lib.hid hr1; have HB1 := Lib.hid hb1; clear hr1 hb1)
    | (go_at_call 49; refine (must_ok _).mono ?_; rintro e w' ⟨rfl, rfl⟩))
  have hsz1 : w.heap.size ≤ w1.heap.size := HB1.out.size
  clear hd
  go_loopw [3] (fun v wr => TRel w g w.heap.size t v wr) (fun _ wr => leftAt g wr)
  case atStart =>
    refine ⟨[], t, ?_, by simp, Nat.le_refl _, by simp, (HR1.out.but ((But.refl (fun _ => False) w1).alloc _) (fun h => h)), World.ownsRow_made w1 #[] 0 hsz1 (by decide) rfl, HB1.out.alloc _⟩
    rcases rdBody 128 t with _ | ⟨a, b⟩ <;> simp
  case round =>
    obtain ⟨xs, r, hrd, hx128, hrt, hwf, hrr, hown, hbut⟩ := hrel
    have c0 := hrr.cell
    obtain ⟨X, hX⟩ : ∃ X, X = strU r := ⟨_, rfl⟩
    rw [← hX] at c0
    have HX := Lib.hid hX
    have HRD := Lib.hid hrd
    have HWF := Lib.hid hwf
    have HRR := Lib.hid hrr
    have HOWN := Lib.hid hown
    have HBUT := Lib.hid hbut
    have HGr := Lib.hid (HG.out.but hbut (fun k e => by omega))
    have hszr : w.heap.size ≤ wr.heap.size := hbut.size
    obtain ⟨va, vc, rfl, -⟩ := insOwn_of hown rfl hwf (by omega)
    have HOWN := Lib.hid hown
    have hpf : Lib.hasPrefix X.data.toList [32, 32] = pre2 r := by rw [hX, strU_data]; rfl
    have HPF := Lib.hid hpf
    clear hrd hwf hrr hown hbut hX hpf
    rcases hp : pre2 r with _ | _
    · have HP := Lib.hid hp
      have HYES := Lib.hid (show rdTK l = some (xs, r) by rw [HTK.out, HRD.out, rdBody_end hp]; simp)
      clear hp
      go_wp2_with (first
        | (go_at_call 61; refine (Tryd.strings_HasPrefix _ _ _).mono ?_; rintro e w2 ⟨rfl, rfl⟩; rw [show Lib.hasPrefix X.data.toList _ = false from HPF.out.trans HP.out]))
      go_ret
      refine ⟨HBUT.out, ?_⟩
      rw [HYES.out]
      obtain ⟨a', c', e', hsl, hio⟩ := insOwn_of HOWN.out rfl HWF.out (by omega)
      cases e'
      exact ⟨_, _, rfl, hsl, hio, HRR.out⟩
    · have HP := Lib.hid hp
      by_cases hfull : xs.length = 128
      · have HNO := Lib.hid (show rdTK l = none by rw [HTK.out, HRD.out, hfull, rdBody_full hp]; rfl)
        clear hp
        go_wp2_with (first
          | (go_at_call 61; refine (Tryd.strings_HasPrefix _ _ _).mono ?_; rintro e w2 ⟨rfl, rfl⟩; rw [show Lib.hasPrefix X.data.toList _ = true from HPF.out.trans HP.out])
          | (go_at_call 49; refine (must_no _).mono ?_; rintro e w' ⟨rfl, rfl⟩))
        exact ⟨rfl, kTo_no HNO.out HBUT.out⟩
      · have hsr : r.length < 4294967281 := by omega
        have HDEC : Hid (decide ((xs.length : Int) < 128) = true) := decide_eq_true (by omega)
        rcases hc : cutAt 10 r with _ | ⟨x, t'⟩
        · have HNO := Lib.hid (show rdTK l = none by rw [HTK.out, HRD.out, rdBody_cut hp hc]; rfl)
          have HCT := Lib.hid hc
          clear hp hc
          go_wp2_with (first
            | (go_at_call 61; refine (Tryd.strings_HasPrefix _ _ _).mono ?_; rintro e w2 ⟨rfl, rfl⟩; rw [show Lib.hasPrefix X.data.toList _ = true from HPF.out.trans HP.out])
            | (go_at_call 49; rw [HDEC.out]; refine (must_ok _).mono ?_; rintro e w' ⟨rfl, rfl⟩)
            | (go_at_call 51; refine (tline_no g r _ HRR.out HGr.out hsr HCT.out).mono ?_; rintro e w2 ⟨rfl, hb2⟩; have HB2 := Lib.hid hb2; clear hb2))
          exact ⟨rfl, kTo_no HNO.out (HBUT.out.trans HB2.out)⟩
        · obtain ⟨w', rfl⟩ := pre2_cut hp hc
          have hle2 := cut_le hc
          have hwl : w'.length < 4294967281 := by simp at hle2; omega
          rcases hii : rdI w' with _ | i
          · have HNO := Lib.hid (show rdTK l = none by rw [HTK.out, HRD.out, rdBody_bad hp hc hii]; rfl)
            have HCT := Lib.hid hc
            have HII := Lib.hid hii
            clear hp hc hii
            obtain ⟨Y, hY⟩ : ∃ Y, Y = strU (32 :: 32 :: w') := ⟨_, rfl⟩
            have HY := Lib.hid hY
            have hy2 : 2 ≤ Y.size := by rw [hY, strU_size]; simp
            clear hY
            go_wp2_with (first
              | (go_at_call 61; refine (Tryd.strings_HasPrefix _ _ _).mono ?_; rintro e w2 ⟨rfl, rfl⟩; rw [show Lib.hasPrefix X.data.toList _ = true from HPF.out.trans HP.out])
              | (go_at_call 49; rw [HDEC.out]; refine (must_ok _).mono ?_; rintro e w' ⟨rfl, rfl⟩)
              | (go_at_call 51; refine (tline_yes g r (32 :: 32 :: w') t' _ HRR.out HGr.out hsr HCT.out).mono ?_; rintro e w2 ⟨rfl, hr2, hb2⟩; rw [← HY.out]; have HB2 := Lib.hid hb2; have HG2 := Lib.hid (HGr.out.but hb2 (fun k e => by omega)); clear hb2 hr2))
            have HYX : Hid (Y.extract 2 Y.size = strU w') := by show _ = _; rw [HY.out]; exact str_drop2 w'
            go_wp2_with (first
              | (go_at_call 62; rw [HYX.out]; refine (instructionOf_no w' _ HG2.out hwl HII.out).mono ?_; rintro e w3 ⟨rfl, hb3⟩; have HB3 := Lib.hid hb3; clear hb3))
            exact ⟨rfl, kTo_no HNO.out (HBUT.out.trans (HB2.out.trans (But.of HB3.out)))⟩
          · have HCT := Lib.hid hc
            have HII := Lib.hid hii
            have HMO := Lib.hid (show rdBody 128 t = (rdBody (128 - (xs ++ [i]).length) t').map (fun q => ((xs ++ [i]) ++ q.1, q.2)) by
              rw [HRD.out, show 128 - xs.length = (128 - (xs ++ [i]).length) + 1 from by simp; omega, rdBody_more hp hc hii]
              rcases rdBody (128 - (xs ++ [i]).length) t' with _ | ⟨a, b⟩ <;> simp)
            have hwi := rdI_wf hii
            obtain ⟨o, m⟩ := i
            clear hp hc hii
            obtain ⟨Y, hY⟩ : ∃ Y, Y = strU (32 :: 32 :: w') := ⟨_, rfl⟩
            have HY := Lib.hid hY
            have hy2 : 2 ≤ Y.size := by rw [hY, strU_size]; simp
            clear hY
            go_wp2_with (first
              | (go_at_call 61; refine (Tryd.strings_HasPrefix _ _ _).mono ?_; rintro e w2 ⟨rfl, rfl⟩; rw [show Lib.hasPrefix X.data.toList _ = true from HPF.out.trans HP.out])
              | (go_at_call 49; rw [HDEC.out]; refine (must_ok _).mono ?_; rintro e w' ⟨rfl, rfl⟩)
              | (go_at_call 51; refine (tline_yes g r (32 :: 32 :: w') t' _ HRR.out HGr.out hsr HCT.out).mono ?_; rintro e w2 ⟨rfl, hr2, hb2⟩; rw [← HY.out]; have HB2 := Lib.hid hb2; have HR2 := Lib.hid hr2; have HG2 := Lib.hid (HGr.out.but hb2 (fun k e => by omega)); clear hb2 hr2))
            have HYX : Hid (Y.extract 2 Y.size = strU w') := by show _ = _; rw [HY.out]; exact str_drop2 w'
            go_wp2_with (first
              | (go_at_call 62; rw [HYX.out]; refine (instructionOf_ok w' (o, m) _ HG2.out hwl HII.out).mono ?_; rintro e w3 ⟨rfl, hb3⟩; refine Hid.out ?_))
            have HB23 := Lib.hid hb3
            have HR3 := Lib.hid (HR2.out.but (But.of (S := fun _ => False) hb3) (fun h => h))
            have HO3 := Lib.hid (IOwn.next (IOwn.but HOWN.out HB2.out (fun k cur e hh => by subst e; have := HRR.out; rw [this] at hh; cases hh)) hb3)
            have HBW3 := Lib.hid (HBUT.out.trans (HB2.out.trans (But.of hb3)))
            have hs3 : w.heap.size ≤ w3.heap.size := HBW3.out.size
            clear hb3
            refine Lib.hid ?_
            go_wp2_with (first
              | (at_builtin; refine wpList_append_own _ rfl _ _ 46 rfl w.heap.size 49 i0 (.agg #[.int .i64 0, .int .i64 0]) 2 16 Tryd.underlying46 hi hz0 hz1 hz2 rfl (by decide) _ _ _ rfl (IOwn.alloc HO3.out _) ⟨w3.heap.size, 0, none⟩ 1 1 [.int .i64 o, .int .i64 m] rfl rfl (two_cells _ _ _ _ _) (two_one _ _) (by unfold maxLen; omega) (by omega) (by simp; omega) ?_; intro v4 w4 hown4 hgrow4 _; refine Hid.out ?_))
            have HO4 : Hid (IOwn w.heap.size w4 v4 (xs ++ [(o, m)])) := IOwn.of hown4 (by simp) (insCells_snoc xs (o, m))
            have hbg : But (fun k => w.heap.size ≤ k) w3 w4 := by
              refine But.trans ((But.refl _ w3).alloc (.cells #[.int .i64 o, .int .i64 m] 49)) ⟨hgrow4.os, hgrow4.tape, hgrow4.output, hgrow4.size, fun k hk hs => hgrow4.block k hk (fun e => hs ?_)⟩
              exact (World.ownsRow.lt (IOwn.alloc HO3.out (.cells #[.int .i64 o, .int .i64 m] 49)) k e.symm).1
            have HR4 := Lib.hid (HR3.out.but hbg (by show ¬ w.heap.size ≤ g; omega))
            have HBW4 : Hid (But (fun k => k = g) w w4) := HBW3.out.next hbg (fun j hj hs => by omega)
            clear hown4 hgrow4 hbg
            refine Lib.hid ?_
            go_wp2
            go_roundw
            case rel =>
              (try ((repeat apply Exists.intro); refine And.intro ?_ rfl))
              exact ⟨xs ++ [(o, m)], t', HMO.out, by simp; omega, by omega, fun y hy => by rcases List.mem_append.1 hy with h | h; exact HWF.out y h; (simp at h; subst h; exact hwi), HR4.out, HO4.out, HBW4.out⟩
            case measure =>
              rw [leftAt_eq HR4.out, leftAt_eq HRR.out]
              omega
end Go.Proofs.YtlgbkbmjfmomkaaDoor
