/-
  The walk of the text reader's program: its kinds.
-/
import Derived.Test.YtlgbkbmjfmomkaaDoorL1
import Derived.Deep.RegionLaw
namespace Go.Proofs.YtlgbkbmjfmomkaaDoor
open Go.RowKit CodM

theorem tline_no (g : Nat) (l : List UInt8) (w : World) (hr : RtAt w g (strU l)) (hG : GloT w) (hs : l.length < 4294967281) (h : cutAt 10 l = none) : Calls Tryd.prog 51 #[.pointer (some ⟨g, 0, none⟩)] w (LineNo g w) :=
  line_no g (strU l) w hr hG.max (by rw [strU_size]; exact hs) (by rw [strU_data, lib_cut_none h])
theorem tline_yes (g : Nat) (l x r : List UInt8) (w : World) (hr : RtAt w g (strU l)) (hG : GloT w) (hs : l.length < 4294967281) (h : cutAt 10 l = some (x, r)) : Calls Tryd.prog 51 #[.pointer (some ⟨g, 0, none⟩)] w (LineRd g (strU x) (strU r) w) :=
  line_yes g (strU l) x r w hr hG.max (by rw [strU_size]; exact hs) (by rw [strU_data]; exact lib_cut_some h)
theorem RtAt.but {S : Nat → Prop} {w w' : World} {g : Nat} {s : ByteArray} (h : RtAt w g s) (hb : But S w w') (hg : ¬ S g) : RtAt w' g s := hb.heap h hg
theorem RtAt.cell {w : World} {g : Nat} {s : ByteArray} (h : RtAt w g s) : w.cell? ⟨g, 0, none⟩ = some (.string s) := by rw [cell_of_row _ _ _ _ _ _ h]; rfl
theorem RtAt.lt {w : World} {g : Nat} {s : ByteArray} (h : RtAt w g s) : g < w.heap.size := heap_lt h
theorem cut_le {b : UInt8} {l x r : List UInt8} (h : cutAt b l = some (x, r)) : x.length + r.length + 1 = l.length := by
  have := congrArg List.length (cutAt_some h).1
  simp at this
  omega
theorem str_drop2 (w : List UInt8) : (strU (32 :: 32 :: w)).extract 2 (strU (32 :: 32 :: w)).size = strU w := by
  rw [strU_size]
  unfold strU
  apply ByteArray.ext
  simp

def KTo (g : Nat) (l : List UInt8) (w : World) (e : Ending) (w' : World) : Prop :=
  But (fun k => k = g) w w' ∧ match rdTK l with
  | none => e = .panicked codePanic
  | some (xs, r) => ∃ a c, e = .returned (.slice a xs.length c) ∧ SlOk a xs.length c ∧ InsOwn w.heap.size w' a xs.length xs ∧ RtAt w' g (strU r)
theorem kTo_no {g : Nat} {l : List UInt8} {w w' : World} (h : rdTK l = none) (hb : But (fun k => k = g) w w') : KTo g l w (.panicked codePanic) w' := by
  refine ⟨hb, ?_⟩
  rw [h]
/-- so many instructions are read -/
def TRel (w : World) (g B : Nat) (t : List UInt8) (v : Value) (wr : World) : Prop :=
  ∃ (xs : List Ins) (r : List UInt8), rdBody 128 t = (rdBody (128 - xs.length) r).map (fun q => (xs ++ q.1, q.2)) ∧ xs.length ≤ 128 ∧ r.length ≤ t.length ∧ (∀ x ∈ xs, I64 x.1 ∧ I64 x.2) ∧ RtAt wr g (strU r) ∧ IOwn B wr v xs ∧ But (fun k => k = g) w wr
theorem rdBody_end {n : Nat} {r : List UInt8} (h : pre2 r = false) : rdBody n r = some ([], r) := by cases n <;> simp [rdBody, h]
theorem rdBody_full {r : List UInt8} (h : pre2 r = true) : rdBody 0 r = none := by simp [rdBody, h]
theorem rdBody_cut {n : Nat} {r : List UInt8} (h : pre2 r = true) (hc : cutAt 10 r = none) : rdBody n r = none := by cases n <;> simp [rdBody, h, hc]
theorem rdBody_bad {n : Nat} {r w t : List UInt8} (h : pre2 r = true) (hc : cutAt 10 r = some (32 :: 32 :: w, t)) (hi : rdI w = none) : rdBody n r = none := by cases n <;> simp [rdBody, h, hc, hi]
theorem rdBody_more {n : Nat} {r w t : List UInt8} {i : Ins} (h : pre2 r = true) (hc : cutAt 10 r = some (32 :: 32 :: w, t)) (hi : rdI w = some i) : rdBody (n + 1) r = (rdBody n t).map (fun q => (i :: q.1, q.2)) := by simp [rdBody, h, hc, hi]
/-- the measure: the bytes that a reader has left -/
noncomputable def leftAt (g : Nat) (w : World) : Nat := match w.cell? ⟨g, 0, none⟩ with | some (.string s) => s.size | _ => 0
theorem leftAt_eq {g : Nat} {w : World} {l : List UInt8} (h : RtAt w g (strU l)) : leftAt g w = l.length := by
  unfold leftAt
  rw [h.cell]
  exact strU_size l

set_option maxHeartbeats 1000000 in
set_option maxRecDepth 100000 in
theorem tkind_none (g : Nat) (l : List UInt8) (w : World) (hr : RtAt w g (strU l)) (hG : GloT w) (hs : l.length < 4294967281) (h : cutAt 10 l = none) : Calls Tryd.prog 53 #[.pointer (some ⟨g, 0, none⟩)] w (KTo g l w) := by
  have HNO := Lib.hid (show rdTK l = none by unfold rdTK; rw [h]; rfl)
  have HR := Lib.hid hr
  have HG := Lib.hid hG
  have HC := Lib.hid h
  clear hr hG h
  go_enter Tryd.func53, Tryd.ntmps53
  go_wp2_with (first
    | (go_at_call 51; refine (tline_no g l _ HR.out HG.out hs HC.out).mono ?_; rintro e w1 ⟨rfl, hb1⟩))
  exact ⟨rfl, kTo_no HNO.out hb1⟩
set_option maxHeartbeats 1000000 in
set_option maxRecDepth 100000 in
theorem tkind_odd (g : Nat) (l x t : List UInt8) (w : World) (hr : RtAt w g (strU l)) (hG : GloT w) (hs : l.length < 4294967281) (h : cutAt 10 l = some (x, t)) (hx : x ≠ kindW) : Calls Tryd.prog 53 #[.pointer (some ⟨g, 0, none⟩)] w (KTo g l w) := by
  have HNO := Lib.hid (show rdTK l = none by unfold rdTK; rw [h]; simp [hx])
  have hd : ((strU x).toList == [107, 105, 110, 100]) = false := by
    have := neq_bytes (strU_ne hx)
    rwa [strU_toList kindW] at this
  obtain ⟨X, hX⟩ : ∃ X, X = strU x := ⟨_, rfl⟩
  rw [← hX] at hd
  have HX := Lib.hid hX
  have HR := Lib.hid hr
  have HG := Lib.hid hG
  have HC := Lib.hid h
  clear hr hG h hX hx
  go_enter Tryd.func53, Tryd.ntmps53
  go_wp2_with (first
    | (go_at_call 51; refine (tline_yes g l x t _ HR.out HG.out hs HC.out).mono ?_; rintro e w1 ⟨rfl, hr1, hb1⟩; rw [← HX.out])
    | (go_at_call 49; refine (must_no _).mono ?_; rintro e w' ⟨rfl, rfl⟩))
  exact ⟨rfl, kTo_no HNO.out hb1⟩

set_option maxHeartbeats 4000000 in
set_option maxRecDepth 100000 in
theorem tkind_yes (g : Nat) (l t : List UInt8) (w : World) (hr : RtAt w g (strU l)) (hG : GloT w) (hg7 : 5 ≤ g) (hs : l.length < 4294967281) (h : cutAt 10 l = some (kindW, t)) : Calls Tryd.prog 53 #[.pointer (some ⟨g, 0, none⟩)] w (KTo g l w) := by
  obtain ⟨i0, hi, hz0, hz1, hz2⟩ := info_parts infoI
  have HTK := Lib.hid (show rdTK l = rdBody 128 t by unfold rdTK; rw [h]; simp)
  have hd : ((strU kindW).toList == (strU kindW).toList) = true := by simp
  have hk : strU kindW = ⟨#[107, 105, 110, 100]⟩ := rfl
  rw [hk] at hd
  have HK := Lib.hid hk
  have HR := Lib.hid hr
  have HG := Lib.hid hG
  have HC := Lib.hid h
  have hle := cut_le h
  have hgw := hr.lt
  clear hr hG h hk
  go_enter Tryd.func53, Tryd.ntmps53
  go_wp2_with (first
    | (go_at_call 51; refine (tline_yes g l kindW t _ HR.out HG.out hs HC.out).mono ?_; rintro e w1 ⟨rfl, hr1, hb1⟩; rw [HK.out]; have HR1 := Lib.hid hr1; have HB1 := Lib.hid hb1; clear hr1 hb1)
    | (go_at_call 49; refine (must_ok _).mono ?_; rintro e w' ⟨rfl, rfl⟩))
  have hsz1 : w.heap.size ≤ w1.heap.size := HB1.out.size
  clear hd
  go_loopw [3] (fun v wr => TRel w g w.heap.size t v wr) (fun _ wr => leftAt g wr)
  case atStart =>
    refine ⟨[], t, ?_, by simp, Nat.le_refl _, by simp, (HR1.out.but ((But.refl (fun _ => False) w1).alloc _) (fun h => h)), World.ownsRow_made w1 #[] 0 hsz1 (by decide) rfl, HB1.out.alloc _⟩
    rcases rdBody 128 t with _ | ⟨a, b⟩ <;> simp
  case round =>
    obtain ⟨xs, r, hrd, hx128, hrt, hwf, hrr, hown, hbut⟩ := hrel
    have c0 := hrr.cell
    obtain ⟨X, hX⟩ : ∃ X, X = strU r := ⟨_, rfl⟩
    rw [← hX] at c0
    have HX := Lib.hid hX
    have HRD := Lib.hid hrd
    have HWF := Lib.hid hwf
    have HRR := Lib.hid hrr
    have HOWN := Lib.hid hown
    have HBUT := Lib.hid hbut
    have HGr := Lib.hid (HG.out.but hbut (fun k e => by omega))
    have hszr : w.heap.size ≤ wr.heap.size := hbut.size
    obtain ⟨va, vc, rfl, -⟩ := insOwn_of hown rfl hwf (by omega)
    have HOWN := Lib.hid hown
    have hpf : Lib.hasPrefix X.data.toList [32, 32] = pre2 r := by rw [hX, strU_data]; rfl
    have HPF := Lib.hid hpf
    clear hrd hwf hrr hown hbut hX hpf
    rcases hp : pre2 r with _ | _
    · have HP := Lib.hid hp
      have HYES := Lib.hid (show rdTK l = some (xs, r) by rw [HTK.out, HRD.out, rdBody_end hp]; simp)
      clear hp
      go_wp2_with (first
        | (go_at_call 61; refine (Tryd.strings_HasPrefix _ _ _).mono ?_; rintro e w2 ⟨rfl, rfl⟩; rw [show Lib.hasPrefix X.data.toList _ = false from HPF.out.trans HP.out]))
      go_ret
      refine ⟨HBUT.out, ?_⟩
      rw [HYES.out]
      obtain ⟨a', c', e', hsl, hio⟩ := insOwn_of HOWN.out rfl HWF.out (by omega)
      cases e'
      exact ⟨_, _, rfl, hsl, hio, HRR.out⟩
    · have HP := Lib.hid hp
      by_cases hfull : xs.length = 128
      · have HNO := Lib.hid (show rdTK l = none by rw [HTK.out, HRD.out, hfull, rdBody_full hp]; rfl)
        clear hp
        go_wp2_with (first
          | (go_at_call 61; refine (Tryd.strings_HasPrefix _ _ _).mono ?_; rintro e w2 ⟨rfl, rfl⟩; rw [show Lib.hasPrefix X.data.toList _ = true from HPF.out.trans HP.out])
          | (go_at_call 49; refine (must_no _).mono ?_; rintro e w' ⟨rfl, rfl⟩))
        exact ⟨rfl, kTo_no HNO.out HBUT.out⟩
      · have hsr : r.length < 4294967281 := by omega
        have HDEC : Hid (decide ((xs.length : Int) < 128) = true) := decide_eq_true (by omega)
        rcases hc : cutAt 10 r with _ | ⟨x, t'⟩
        · have HNO := Lib.hid (show rdTK l = none by rw [HTK.out, HRD.out, rdBody_cut hp hc]; rfl)
          have HCT := Lib.hid hc
          clear hp hc
          go_wp2_with (first
            | (go_at_call 61; refine (Tryd.strings_HasPrefix _ _ _).mono ?_; rintro e w2 ⟨rfl, rfl⟩; rw [show Lib.hasPrefix X.data.toList _ = true from HPF.out.trans HP.out])
            | (go_at_call 49; rw [HDEC.out]; refine (must_ok _).mono ?_; rintro e w' ⟨rfl, rfl⟩)
            | (go_at_call 51; refine (tline_no g r _ HRR.out HGr.out hsr HCT.out).mono ?_; rintro e w2 ⟨rfl, hb2⟩; have HB2 := Lib.hid hb2; clear hb2))
          exact ⟨rfl, kTo_no HNO.out (HBUT.out.trans HB2.out)⟩
        · obtain ⟨w', rfl⟩ := pre2_cut hp hc
          have hle2 := cut_le hc
          have hwl : w'.length < 4294967281 := by simp at hle2; omega
          rcases hii : rdI w' with _ | i
          · have HNO := Lib.hid (show rdTK l = none by rw [HTK.out, HRD.out, rdBody_bad hp hc hii]; rfl)
            have HCT := Lib.hid hc
            have HII := Lib.hid hii
            clear hp hc hii
            obtain ⟨Y, hY⟩ : ∃ Y, Y = strU (32 :: 32 :: w') := ⟨_, rfl⟩
            have HY := Lib.hid hY
            have hy2 : 2 ≤ Y.size := by rw [hY, strU_size]; simp
            clear hY
            go_wp2_with (first
              | (go_at_call 61; refine (Tryd.strings_HasPrefix _ _ _).mono ?_; rintro e w2 ⟨rfl, rfl⟩; rw [show Lib.hasPrefix X.data.toList _ = true from HPF.out.trans HP.out])
              | (go_at_call 49; rw [HDEC.out]; refine (must_ok _).mono ?_; rintro e w' ⟨rfl, rfl⟩)
              | (go_at_call 51; refine (tline_yes g r (32 :: 32 :: w') t' _ HRR.out HGr.out hsr HCT.out).mono ?_; rintro e w2 ⟨rfl, hr2, hb2⟩; rw [← HY.out]; have HB2 := Lib.hid hb2; have HG2 := Lib.hid (HGr.out.but hb2 (fun k e => by omega)); clear hb2 hr2))
            have HYX : Hid (Y.extract 2 Y.size = strU w') := by show _ = _; rw [HY.out]; exact str_drop2 w'
            go_wp2_with (first
              | (go_at_call 62; rw [HYX.out]; refine (instructionOf_no w' _ HG2.out hwl HII.out).mono ?_; rintro e w3 ⟨rfl, hb3⟩; have HB3 := Lib.hid hb3; clear hb3))
            exact ⟨rfl, kTo_no HNO.out (HBUT.out.trans (HB2.out.trans (But.of HB3.out)))⟩
          · have HCT := Lib.hid hc
            have HII := Lib.hid hii
            have HMO := Lib.hid (show rdBody 128 t = (rdBody (128 - (xs ++ [i]).length) t').map (fun q => ((xs ++ [i]) ++ q.1, q.2)) by
              rw [HRD.out, show 128 - xs.length = (128 - (xs ++ [i]).length) + 1 from by simp; omega, rdBody_more hp hc hii]
              rcases rdBody (128 - (xs ++ [i]).length) t' with _ | ⟨a, b⟩ <;> simp)
            have hwi := rdI_wf hii
            obtain ⟨o, m⟩ := i
            clear hp hc hii
            obtain ⟨Y, hY⟩ : ∃ Y, Y = strU (32 :: 32 :: w') := ⟨_, rfl⟩
            have HY := Lib.hid hY
            have hy2 : 2 ≤ Y.size := by rw [hY, strU_size]; simp
            clear hY
            go_wp2_with (first
              | (go_at_call 61; refine (Tryd.strings_HasPrefix _ _ _).mono ?_; rintro e w2 ⟨rfl, rfl⟩; rw [show Lib.hasPrefix X.data.toList _ = true from HPF.out.trans HP.out])
              | (go_at_call 49; rw [HDEC.out]; refine (must_ok _).mono ?_; rintro e w' ⟨rfl, rfl⟩)
              | (go_at_call 51; refine (tline_yes g r (32 :: 32 :: w') t' _ HRR.out HGr.out hsr HCT.out).mono ?_; rintro e w2 ⟨rfl, hr2, hb2⟩; rw [← HY.out]; have HB2 := Lib.hid hb2; have HR2 := Lib.hid hr2; have HG2 := Lib.hid (HGr.out.but hb2 (fun k e => by omega)); clear hb2 hr2))
            have HYX : Hid (Y.extract 2 Y.size = strU w') := by show _ = _; rw [HY.out]; exact str_drop2 w'
            go_wp2_with (first
              | (go_at_call 62; rw [HYX.out]; refine (instructionOf_ok w' (o, m) _ HG2.out hwl HII.out).mono ?_; rintro e w3 ⟨rfl, hb3⟩; refine Hid.out ?_))
            have HB23 := Lib.hid hb3
            have HR3 := Lib.hid (HR2.out.but (But.of (S := fun _ => False) hb3) (fun h => h))
            have HO3 := Lib.hid (IOwn.next (IOwn.but HOWN.out HB2.out (fun k cur e hh => by subst e; have := HRR.out; rw [this] at hh; cases hh)) hb3)
            have HBW3 := Lib.hid (HBUT.out.trans (HB2.out.trans (But.of hb3)))
            have hs3 : w.heap.size ≤ w3.heap.size := HBW3.out.size
            clear hb3
            refine Lib.hid ?_
            go_wp2_with (first
              | (at_builtin; refine wpList_append_own _ rfl _ _ 46 rfl w.heap.size 49 i0 (.agg #[.int .i64 0, .int .i64 0]) 2 16 Tryd.underlying46 hi hz0 hz1 hz2 rfl (by decide) _ _ _ rfl (IOwn.alloc HO3.out _) ⟨w3.heap.size, 0, none⟩ 1 1 [.int .i64 o, .int .i64 m] rfl rfl (two_cells _ _ _ _ _) (two_one _ _) (by unfold maxLen; omega) (by omega) (by simp; omega) ?_; intro v4 w4 hown4 hgrow4 _; refine Hid.out ?_))
            have HO4 : Hid (IOwn w.heap.size w4 v4 (xs ++ [(o, m)])) := IOwn.of hown4 (by simp) (insCells_snoc xs (o, m))
            have hbg : But (fun k => w.heap.size ≤ k) w3 w4 := by
              refine But.trans ((But.refl _ w3).alloc (.cells #[.int .i64 o, .int .i64 m] 49)) ⟨hgrow4.os, hgrow4.tape, hgrow4.output, hgrow4.size, fun k hk hs => hgrow4.block k hk (fun e => hs ?_)⟩
              exact (World.ownsRow.lt (IOwn.alloc HO3.out (.cells #[.int .i64 o, .int .i64 m] 49)) k e.symm).1
            have HR4 := Lib.hid (HR3.out.but hbg (by show ¬ w.heap.size ≤ g; omega))
            have HBW4 : Hid (But (fun k => k = g) w w4) := HBW3.out.next hbg (fun j hj hs => by omega)
            clear hown4 hgrow4 hbg
            refine Lib.hid ?_
            go_wp2
            go_roundw
            case rel =>
              (try ((repeat apply Exists.intro); refine And.intro ?_ rfl))
              exact ⟨xs ++ [(o, m)], t', HMO.out, by simp; omega, by omega, fun y hy => by rcases List.mem_append.1 hy with h | h; exact HWF.out y h; (simp at h; subst h; exact hwi), HR4.out, HO4.out, HBW4.out⟩
            case measure =>
              rw [leftAt_eq HR4.out, leftAt_eq HRR.out]
              omega
end Go.Proofs.YtlgbkbmjfmomkaaDoor
namespace Go.Proofs.YtlgbkbmjfmomkaaDoor
open Go.RowKit CodM

/-- append to a row of the call's own, as one step of a region that draws -/
theorem step_append_own {P : Program} {ops : Array Oper} {o : Oper} {a : Act} {w : World} {K : Act → World → Prop} {Q : Exit → Act → World → Prop} {E : Prop}
    (hgd : o.guard = none) (s x : Operand) (t : TypeId) (ho : o.op = .call { callee := .builtin .append, args := #[s, x], argTypes := #[t, t] })
    (base : Nat) (e : TypeId) (i : TypeInfo) (z : Value) (size bytes : Nat) (ht : P.underlying t = some (.slice e)) (hi : P.info? e = some i) (hz : i.zero = some z)
    (hsize : i.size = size) (hby : i.bytes = bytes) (hzs : z.cells.size = size) (hsz : 0 < size)
    (v : Value) (n : Nat) (xs : List Value) (hs : a.eval s = v) (hown : w.ownsRow base e size v n xs)
    (ad : Addr) (m c : Nat) (news : List Value) (hx : a.eval x = .slice (some ad) m c) (hl : news.length = m * size) (hnews : ∀ j u, news[j]? = some u → w.cell? (ad.add j) = some u) (h1 : ∀ u ∈ news, u.oneCell' = true)
    (h63 : n + m ≤ maxLen) (hbytes : (n + m) * bytes ≤ 140737488355328) (hbase : base ≤ w.heap.size)
    (hK : ∀ v' w', w'.ownsRow base e size v' (n + m) (xs ++ news) → w.grownBy w' v.ownBlock → K (a.put o.dst v') w') :
    if Region.wanted o (yielded ops a.tmps) = true then Oper.wp P o a w K Q else E := by
  have hw : Region.wanted o (yielded ops a.tmps) = true := by simp [Region.wanted, hgd]
  rw [if_pos hw]
  exact wp_append_own w s x t ho base e i z size bytes ht hi hz hsize hby hzs hsz v n xs hs hown ad m c news hx hl hnews h1 h63 hbytes hbase fun v' w' h2 h3 _ => hK v' w' h2 h3

def PTo (g : Nat) (l : List UInt8) (w : World) (e : Ending) (w' : World) : Prop :=
  But (fun k => k = g) w w' ∧ match rdText l with
  | none => e = .panicked codePanic
  | some p => ∃ a n c, e = .returned (.agg #[.int .i64 p.vars, .slice a n c]) ∧ SlOk a n c ∧ Cop w.heap.size w' a n p.kinds ∧ I64 p.vars
theorem pTo_no {g : Nat} {l : List UInt8} {w w' : World} (h : rdText l = none) (hb : But (fun k => k = g) w w') : PTo g l w (.panicked codePanic) w' := by
  refine ⟨hb, ?_⟩
  rw [h]
theorem rdText_cut {l : List UInt8} (h : cutAt 10 l = none) : rdText l = none := by unfold rdText; rw [h]; rfl
theorem rdText_head {l x t : List UInt8} (h : cutAt 10 l = some (x, t)) (hp : varsW.isPrefixOf x = false) : rdText l = none := by
  unfold rdText
  rw [h]
  simp only [Option.bind_some]
  rw [if_neg (by rw [hp]; decide)]
theorem rdText_num {l x t : List UInt8} (h : cutAt 10 l = some (x, t)) (hn : numRd (x.drop 5) = none) : rdText l = none := by
  unfold rdText
  rw [h]
  simp only [Option.bind_some]
  split
  · rw [hn]; rfl
  · rfl
theorem rdText_go {l x t : List UInt8} {v : Int} (h : cutAt 10 l = some (x, t)) (hp : varsW.isPrefixOf x = true) (hn : numRd (x.drop 5) = some v) : rdText l = (rdTKs 8 t).map fun ks => ⟨v, ks⟩ := by
  unfold rdText
  rw [h]
  simp only [Option.bind_some]
  rw [if_pos hp, hn]
  rfl
theorem rdTKs_full {r : List UInt8} (h : r ≠ []) : rdTKs 0 r = none := by simp [rdTKs, h]
theorem rdTKs_end (n : Nat) : rdTKs n [] = some [] := by cases n <;> simp [rdTKs]
theorem rdTKs_bad {n : Nat} {r : List UInt8} (h : r ≠ []) (hk : rdTK r = none) : rdTKs n r = none := by cases n <;> simp [rdTKs, h, hk]
theorem rdTKs_more {n : Nat} {r t : List UInt8} {xs : List Ins} (h : r ≠ []) (hk : rdTK r = some (xs, t)) : rdTKs (n + 1) r = (rdTKs n t).map fun ks => xs :: ks := by simp [rdTKs, h, hk]
theorem rdTK_less {r t : List UInt8} {xs : List Ins} (hk : rdTK r = some (xs, t)) : t.length < r.length := by
  have := congrArg List.length (rdTK_text hk).1
  simp [kindText] at this
  omega
theorem tkind_any (g : Nat) (l : List UInt8) (w : World) (hr : RtAt w g (strU l)) (hG : GloT w) (hg7 : 5 ≤ g) (hs : l.length < 4294967281) : Calls Tryd.prog 53 #[.pointer (some ⟨g, 0, none⟩)] w (KTo g l w) := by
  rcases h : cutAt 10 l with _ | ⟨x, t⟩
  · exact tkind_none g l w hr hG hs h
  · by_cases hx : x = kindW
    · subst hx; exact tkind_yes g l t w hr hG hg7 hs h
    · exact tkind_odd g l x t w hr hG hs h hx
theorem tkind_bad (g : Nat) (l : List UInt8) (w : World) (hr : RtAt w g (strU l)) (hG : GloT w) (hg7 : 5 ≤ g) (hs : l.length < 4294967281) (h : rdTK l = none) : Calls Tryd.prog 53 #[.pointer (some ⟨g, 0, none⟩)] w (PanicsB g w) :=
  (tkind_any g l w hr hG hg7 hs).mono fun e w' ⟨h1, h2⟩ => by
    rw [h] at h2
    exact ⟨h2, h1⟩
theorem tkind_good (g : Nat) (l : List UInt8) (xs : List Ins) (r : List UInt8) (w : World) (hr : RtAt w g (strU l)) (hG : GloT w) (hg7 : 5 ≤ g) (hs : l.length < 4294967281) (h : rdTK l = some (xs, r)) : Calls Tryd.prog 53 #[.pointer (some ⟨g, 0, none⟩)] w fun e w' =>
    ∃ a c, e = .returned (.slice a xs.length c) ∧ SlOk a xs.length c ∧ InsOwn w.heap.size w' a xs.length xs ∧ RtAt w' g (strU r) ∧ But (fun k => k = g) w w' :=
  (tkind_any g l w hr hG hg7 hs).mono fun e w' ⟨h1, h2⟩ => by
    rw [h] at h2
    obtain ⟨a, c, h3, h4, h5, h6⟩ := h2
    exact ⟨a, c, h3, h4, h5, h6, h1⟩
/-- so many kinds are read -/
def QRel (w : World) (g Pb : Nat) (v : Int) (t : List UInt8) (wr : World) : Prop :=
  ∃ (ks : List (List Ins)) (r : List UInt8) (kv : Value) (vs : List Value), rdTKs 8 t = (rdTKs (8 - ks.length) r).map (fun q => ks ++ q) ∧ ks.length ≤ 8 ∧ r.length ≤ t.length ∧ RtAt wr g (strU r) ∧
    wr.heap[w.heap.size]? = some (.cells #[.int .i64 0, .slice none 0 0] 24) ∧ wr.heap[Pb]? = some (.cells #[.int .i64 v, kv] 24) ∧ KRow w.heap.size wr kv vs ks ∧ But (fun k => k = g) w wr

set_option maxHeartbeats 1000000 in
set_option maxRecDepth 100000 in
theorem tprog_cut (g : Nat) (l : List UInt8) (w : World) (hr : RtAt w g (strU l)) (hG : GloT w) (hs : l.length < 4294967281) (h : cutAt 10 l = none) : Calls Tryd.prog 36 #[.pointer (some ⟨g, 0, none⟩)] w (PTo g l w) := by
  have HNO := Lib.hid (rdText_cut h)
  have hb0 : But (fun _ => False) w (w.alloc (.cells #[.int .i64 0, .slice none 0 0] 24)) := (But.refl _ w).alloc _
  have HR := Lib.hid (hr.but hb0 (fun h => h))
  have HG := Lib.hid (hG.but hb0 (fun _ h => h.elim))
  have HC := Lib.hid h
  clear hr hG h hb0
  go_enter Tryd.func36, Tryd.ntmps36
  go_wp2_with (first
    | (go_at_call 51; refine (tline_no g l _ HR.out HG.out hs HC.out).mono ?_; rintro e w1 ⟨rfl, hb1⟩))
  exact ⟨rfl, pTo_no HNO.out (((But.refl _ w).alloc _).trans hb1)⟩
set_option maxHeartbeats 1000000 in
set_option maxRecDepth 100000 in
theorem tprog_head (g : Nat) (l x t : List UInt8) (w : World) (hr : RtAt w g (strU l)) (hG : GloT w) (hs : l.length < 4294967281) (h : cutAt 10 l = some (x, t)) (hp : varsW.isPrefixOf x = false) : Calls Tryd.prog 36 #[.pointer (some ⟨g, 0, none⟩)] w (PTo g l w) := by
  have HNO := Lib.hid (rdText_head h hp)
  have hb0 : But (fun _ => False) w (w.alloc (.cells #[.int .i64 0, .slice none 0 0] 24)) := (But.refl _ w).alloc _
  have HR := Lib.hid (hr.but hb0 (fun h => h))
  have HG := Lib.hid (hG.but hb0 (fun _ h => h.elim))
  have HC := Lib.hid h
  have HP : Hid (Lib.hasPrefix (strU x).data.toList [118, 97, 114, 115, 32] = false) := by show _ = _; rw [strU_data]; exact hp
  clear hr hG h hb0 hp
  go_enter Tryd.func36, Tryd.ntmps36
  go_wp2_with (first
    | (go_at_call 51; refine (tline_yes g l x t _ HR.out HG.out hs HC.out).mono ?_; rintro e w1 ⟨rfl, -, hb1⟩; have HB1 := Lib.hid (((But.refl (fun k => k = g) w).alloc _).trans hb1); clear hb1)
    | (go_at_call 50; refine (Tryd.strings_CutPrefix _ _ _).mono ?_; rintro e w2 ⟨rfl, rfl⟩; rw [show Lib.hasPrefix (strU x).data.toList _ = false from HP.out])
    | (go_at_call 49; refine (must_no _).mono ?_; rintro e w' ⟨rfl, rfl⟩))
  exact ⟨rfl, pTo_no HNO.out HB1.out⟩
set_option maxHeartbeats 1000000 in
set_option maxRecDepth 100000 in
theorem tprog_num (g : Nat) (l x t : List UInt8) (w : World) (hr : RtAt w g (strU l)) (hG : GloT w) (hg7 : 5 ≤ g) (hs : l.length < 4294967281) (h : cutAt 10 l = some (x, t)) (hp : varsW.isPrefixOf x = true) (hn : CodM.numRd (x.drop 5) = none) : Calls Tryd.prog 36 #[.pointer (some ⟨g, 0, none⟩)] w (PTo g l w) := by
  have HNO := Lib.hid (rdText_num h hn)
  have hb0 : But (fun _ => False) w (w.alloc (.cells #[.int .i64 0, .slice none 0 0] 24)) := (But.refl _ w).alloc _
  have HR := Lib.hid (hr.but hb0 (fun h => h))
  have HG := Lib.hid (hG.but hb0 (fun _ h => h.elim))
  have hle := cut_le h
  have HC := Lib.hid h
  have HN := Lib.hid hn
  have hp' : Lib.hasPrefix (strU x).data.toList [118, 97, 114, 115, 32] = true := by rw [strU_data]; exact hp
  have HP := Lib.hid hp'
  have HT : Hid ((⟨(Lib.trimPrefix (strU x).data.toList [118, 97, 114, 115, 32]).toArray⟩ : ByteArray) = strU (x.drop 5)) := by
    show _ = _
    unfold Lib.trimPrefix
    rw [if_pos hp', strU_data]
    rfl
  have hxl : (x.drop 5).length ≤ 281474976710656 := by simp; omega
  have HXL := Lib.hid hxl
  clear hr hG h hb0 hp hp' hn hxl
  go_enter Tryd.func36, Tryd.ntmps36
  go_wp2_with (first
    | (go_at_call 51; refine (tline_yes g l x t _ HR.out HG.out hs HC.out).mono ?_; rintro e w1 ⟨rfl, -, hb1⟩; have HB1 := Lib.hid (((But.refl (fun k => k = g) w).alloc _).trans hb1); have HG1 := Lib.hid (HG.out.but hb1 (fun k e => by omega)); clear hb1)
    | (go_at_call 50; refine (Tryd.strings_CutPrefix _ _ _).mono ?_; rintro e w2 ⟨rfl, rfl⟩; rw [show Lib.hasPrefix (strU x).data.toList _ = true from HP.out, show (⟨(Lib.trimPrefix (strU x).data.toList _).toArray⟩ : ByteArray) = strU (x.drop 5) from HT.out])
    | (go_at_call 49; refine (must_ok _).mono ?_; rintro e w' ⟨rfl, rfl⟩)
    | (go_at_call 52; refine (numRd_no HN.out _ HG1.out HXL.out).mono ?_; rintro e w3 ⟨rfl, hb3⟩))
  exact ⟨rfl, pTo_no HNO.out (HB1.out.trans (But.of hb3))⟩
end Go.Proofs.YtlgbkbmjfmomkaaDoor
namespace Go.Proofs.YtlgbkbmjfmomkaaDoor
open Go.RowKit CodM

set_option maxHeartbeats 4000000 in
set_option maxRecDepth 100000 in
theorem tprog_go (g : Nat) (l x t : List UInt8) (v : Int) (w : World) (hr : RtAt w g (strU l)) (hG : GloT w) (hg7 : 5 ≤ g) (hs : l.length < 4294967281) (h : cutAt 10 l = some (x, t)) (hp : varsW.isPrefixOf x = true) (hn : CodM.numRd (x.drop 5) = some v) (hv : I64 v) : Calls Tryd.prog 36 #[.pointer (some ⟨g, 0, none⟩)] w (PTo g l w) := by
  obtain ⟨j0, hj, hy0, hy1, hy2⟩ := info_parts infoS
  have HTX := Lib.hid (rdText_go h hp hn)
  have hgw := hr.lt
  have hb0 : But (fun _ => False) w (w.alloc (.cells #[.int .i64 0, .slice none 0 0] 24)) := (But.refl _ w).alloc _
  have HR := Lib.hid (hr.but hb0 (fun h => h))
  have HGW := Lib.hid hG
  have HG := Lib.hid (hG.but hb0 (fun _ h => h.elim))
  have hle := cut_le h
  have HC := Lib.hid h
  have HN := Lib.hid hn
  have HV := Lib.hid hv
  have hp' : Lib.hasPrefix (strU x).data.toList [118, 97, 114, 115, 32] = true := by rw [strU_data]; exact hp
  have HP := Lib.hid hp'
  have HT : Hid ((⟨(Lib.trimPrefix (strU x).data.toList [118, 97, 114, 115, 32]).toArray⟩ : ByteArray) = strU (x.drop 5)) := by
    show _ = _
    unfold Lib.trimPrefix
    rw [if_pos hp', strU_data]
    rfl
  have hxl : (x.drop 5).length ≤ 281474976710656 := by simp; omega
  have HXL := Lib.hid hxl
  clear hr hG h hb0 hp hp' hn hxl hv
  go_enter Tryd.func36, Tryd.ntmps36
  go_wp2_with (first
    | (go_at_call 51; refine (tline_yes g l x t _ HR.out HG.out hs HC.out).mono ?_; rintro e w1 ⟨rfl, hr1, hb1⟩; have HB1 := Lib.hid hb1; have HR1 := Lib.hid hr1; have HG1 := Lib.hid (HG.out.but hb1 (fun k e => by omega)); clear hb1 hr1)
    | (go_at_call 50; refine (Tryd.strings_CutPrefix _ _ _).mono ?_; rintro e w2 ⟨rfl, rfl⟩; rw [show Lib.hasPrefix (strU x).data.toList _ = true from HP.out, show (⟨(Lib.trimPrefix (strU x).data.toList _).toArray⟩ : ByteArray) = strU (x.drop 5) from HT.out])
    | (go_at_call 49; refine (must_ok _).mono ?_; rintro e w' ⟨rfl, rfl⟩)
    | (go_at_call 52; refine (numRd_yes HN.out _ HG1.out HXL.out).mono ?_; rintro e w3 ⟨rfl, hb3⟩; refine Hid.out ?_))
  have hres := HB1.out.heap (heap_alloc_new w (.cells #[.int .i64 0, .slice none 0 0] 24)) (by omega)
  have hres3 := (But.of (S := fun _ => False) hb3).heap hres (fun h => h)
  have hs3 := heap_lt hres3
  have hb13 : But (fun k => k = g) w w3 := (((But.refl (fun k => k = g) w).alloc _).trans HB1.out).trans (But.of hb3)
  have hr3 := HR1.out.but (But.of (S := fun _ => False) hb3) (fun h => h)
  obtain ⟨w4, hw4⟩ : ∃ w4, w4 = w3.alloc (.cells #[.int .i64 v, .slice none 0 0] 24) := ⟨_, rfl⟩
  have HRES := Lib.hid (show w4.heap[w.heap.size]? = some (.cells #[.int .i64 0, .slice none 0 0] 24) from by rw [hw4]; exact (heap_alloc_old _ _ hs3).trans hres3)
  have HPB := Lib.hid (show w4.heap[w3.heap.size]? = some (.cells #[.int .i64 v, .slice none 0 0] 24) from by rw [hw4]; exact heap_alloc_new _ _)
  have HR4 := Lib.hid (show RtAt w4 g (strU t) from by rw [hw4]; exact hr3.but ((But.refl (fun _ => False) w3).alloc _) (fun h => h))
  have HB4 := Lib.hid (show But (fun k => k = g) w w4 from by rw [hw4]; exact hb13.alloc _)
  have HW4 := Lib.hid hw4
  have hgx : g < w3.heap.size := hr3.lt
  clear hb3 hres hres3 hb13 hr3 hw4
  refine Lib.hid ?_
  go_wp2
  rw [← HW4.out]
  go_loopw [] (fun wr => QRel w g w3.heap.size v t wr) (fun wr => leftAt g wr)
  case atStart =>
    refine ⟨[], t, _, [], ?_, by simp, Nat.le_refl _, HR4.out, HRES.out, HPB.out, ⟨World.ownsRow_nil _ _ _ _, KV.nil _ _⟩, HB4.out⟩
    rcases rdTKs 8 t with _ | a <;> simp
  case round =>
    obtain ⟨ks, r, kv, vs, hrd, hk8, hrt, hrr, hrb, hpb, hrow, hbut⟩ := hrel
    obtain ⟨ka, kc, rfl, hksl, hkcop⟩ := hrow.cop
    have c0 := hrr.cell
    obtain ⟨X, hX⟩ : ∃ X, X = strU r := ⟨_, rfl⟩
    rw [← hX] at c0
    have p0 : wr.cell? ⟨w3.heap.size, 0, none⟩ = some (.int .i64 v) := by rw [cell_of_row _ _ _ _ _ _ hpb]; rfl
    have p1 : wr.cell? ⟨w3.heap.size, 1, none⟩ = some (.slice ka ks.length kc) := by rw [cell_of_row _ _ _ _ _ _ hpb]; rfl
    have q1 : wr.frozen? ⟨w3.heap.size, 1, none⟩ = false := frozen_of_row _ _ _ _ _ hpb
    have r0 : wr.cell? ⟨w.heap.size, 0, none⟩ = some (.int .i64 0) := by rw [cell_of_row _ _ _ _ _ _ hrb]; rfl
    have r1 : wr.cell? ⟨w.heap.size, 1, none⟩ = some (.slice none 0 0) := by rw [cell_of_row _ _ _ _ _ _ hrb]; rfl
    have f0 : wr.frozen? ⟨w.heap.size, 0, none⟩ = false := frozen_of_row _ _ _ _ _ hrb
    have f1 : wr.frozen? ⟨w.heap.size, 1, none⟩ = false := frozen_of_row _ _ _ _ _ hrb
    have HX := Lib.hid hX
    have HRD := Lib.hid hrd
    have HRR := Lib.hid hrr
    have HRB := Lib.hid hrb
    have HPBr := Lib.hid hpb
    have HROW := Lib.hid hrow
    have HBUT := Lib.hid hbut
    have HSL := Lib.hid hksl
    have HCOP := Lib.hid hkcop
    have HGr := Lib.hid (HGW.out.but hbut (fun k e => by omega))
    have hpl := heap_lt hpb
    have hszr : w.heap.size ≤ wr.heap.size := hbut.size
    clear hrd hrr hrb hpb hrow hbut hX hksl hkcop
    by_cases hr0 : r = []
    · have hE : X.toList.isEmpty = true := by rw [HX.out, hr0, strU_toList]; rfl
      have HYES := Lib.hid (show rdText l = some ⟨v, ks⟩ by rw [HTX.out, HRD.out, hr0, rdTKs_end]; simp)
      go_wp2
      obtain ⟨k0, k1⟩ := fin_cells HRB.out (.int .i64 v) (.slice ka ks.length kc)
      refine bodyPost_ret (v := .agg #[.int .i64 v, .slice ka ks.length kc]) (by simp [results, Tryd.results36, go_sem, k0, k1]) rfl ⟨(HBUT.out.setCell (.inr (Nat.le_refl _)) _).setCell (.inr (Nat.le_refl _)) _, ?_⟩
      rw [HYES.out]
      have hn1 : ∀ t cur', t ≠ 24 → wr.heap[w.heap.size]? ≠ some (.cells cur' t (0, 0)) := fun t cur' ht h => by rw [HRB.out] at h; cases h; exact ht rfl
      exact ⟨ka, ks.length, kc, rfl, HSL.out, HCOP.out.keep ((Keep.set _ 0 _).trans (Keep.set _ 1 _)) (fun cur' => hn1 _ cur' (by decide)) (fun cur' => hn1 _ cur' (by decide)), HV.out⟩
    · have hE : X.toList.isEmpty = false := by
        rw [HX.out, strU_toList]
        cases r with
        | nil => exact absurd rfl hr0
        | cons => rfl
      have hsr : r.length < 4294967281 := by omega
      by_cases hfull : ks.length = 8
      · have HNO := Lib.hid (show rdText l = none by rw [HTX.out, HRD.out, hfull, rdTKs_full hr0]; rfl)
        go_wp2_with (first
          | (go_at_call 49; refine (must_no _).mono ?_; rintro e w' ⟨rfl, rfl⟩))
        exact ⟨rfl, pTo_no HNO.out HBUT.out⟩
      · have HDEC : Hid (decide ((ks.length : Int) < 8) = true) := decide_eq_true (by omega)
        rcases htk : rdTK r with _ | ⟨xs, r'⟩
        · have HNO := Lib.hid (show rdText l = none by rw [HTX.out, HRD.out, rdTKs_bad hr0 htk]; rfl)
          have HTK := Lib.hid htk
          clear htk
          go_wp2_with (first
            | (go_at_call 49; rw [HDEC.out]; refine (must_ok _).mono ?_; rintro e w' ⟨rfl, rfl⟩))
          go_region_dies
          all_goals (go_at_call 53; refine (tkind_bad g r _ ?_ ?_ hg7 hsr HTK.out).mono ?_; (exact HRR.out); (exact HGr.out.but ((But.refl (fun _ => False) _).drew) (fun _ h => h.elim)); rintro e w5 ⟨rfl, hb5⟩; exact ⟨rfl, pTo_no HNO.out (HBUT.out.drew.trans hb5)⟩)
        · have HTK := Lib.hid htk
          have hless := rdTK_less htk
          have HMO := Lib.hid (show rdTKs 8 t = (rdTKs (8 - (ks ++ [xs]).length) r').map (fun q => (ks ++ [xs]) ++ q) by
            rw [HRD.out, show 8 - ks.length = (8 - (ks ++ [xs]).length) + 1 from by simp; omega, rdTKs_more hr0 htk]
            rcases rdTKs (8 - (ks ++ [xs]).length) r' with _ | a <;> simp)
          clear htk
          go_wp2_with (first
            | (go_at_call 49; rw [HDEC.out]; refine (must_ok _).mono ?_; rintro e w' ⟨rfl, rfl⟩))
          have hgs : ∀ k cur, k = g → wr.drew.heap[k]? ≠ some (.cells cur 49 (0, 0)) := fun k cur e hh => by subst e; have h' : wr.heap[k]? = some (.cells cur 49 (0, 0)) := hh; rw [HRR.out] at h'; cases h'
          have hgs2 : ∀ k cur, k = g → wr.drew.heap[k]? ≠ some (.cells cur 46 (0, 0)) := fun k cur e hh => by subst e; have h' : wr.heap[k]? = some (.cells cur 46 (0, 0)) := hh; rw [HRR.out] at h'; cases h'
          have HGS := Lib.hid hgs
          have HGS2 := Lib.hid hgs2
          have HROWd := Lib.hid (show KRow w.heap.size wr.drew (.slice ka ks.length kc) vs ks from HROW.out.but ((But.refl (fun _ => False) wr).drew) (fun _ _ h => h.elim) (fun _ _ h => h.elim))
          clear hgs hgs2 r0 r1 f0 f1
          go_region_law (first
            | (go_simp; go_at_call 53; refine (tkind_good g r xs r' _ ?_ ?_ hg7 hsr HTK.out).mono ?_; (exact HRR.out); (exact HGr.out.but ((But.refl (fun _ => False) _).drew) (fun _ h => h.elim)); rintro e w5 ⟨a5, c5, rfl, hsl5, hio5, hr5, hb5⟩; have p15 := hb5.cell (p := ⟨w3.heap.size, 1, none⟩) p1 (by show ¬ w3.heap.size = g; omega); have HSL5 := Lib.hid hsl5; have HIO5 := Lib.hid (hio5.mono (B' := w.heap.size) hszr); have HR5 := Lib.hid hr5; have HRW5 := Lib.hid (HROWd.out.but hb5 HGS.out HGS2.out); have HPB5 := Lib.hid (hb5.heap HPBr.out (by omega)); have HRB5 := Lib.hid (hb5.heap HRB.out (by omega)); have HB5 := Lib.hid (HBUT.out.drew.trans hb5); have hs5 : wr.heap.size ≤ w5.heap.size := hb5.size; have hpl5 : w3.heap.size < w5.heap.size := Nat.lt_of_lt_of_le hpl hs5; clear hsl5 hio5 hr5 hb5; dsimp only)
            | (refine step_append_own rfl _ _ 22 rfl w.heap.size 46 j0 (.slice none 0 0) 1 24 Tryd.underlying22 hj hy0 hy1 hy2 rfl (by decide) (.slice ka ks.length kc) _ _ (by simp [Act.eval]) (World.ownsRow.alloc HRW5.out.1 _) ⟨w5.heap.size, 0, none⟩ 1 1 [.slice a5 xs.length c5] (by simp [Act.eval]) rfl (one_val _ _ _ _) (sl_one _ _ _) (by unfold maxLen; omega) (by omega) (by simp; omega) ?_; intro v6 w6 hown6 hgrow6; have hrwa : KRow w.heap.size (w5.alloc (.cells #[.slice a5 xs.length c5] 46)) (.slice ka ks.length kc) vs ks := HRW5.out.next ((Below.refl _ _).alloc (Nat.le_refl _) _); have hio6 : InsOwn w.heap.size (w5.alloc (.cells #[.slice a5 xs.length c5] 46)) a5 xs.length xs := HIO5.out.keep (Keep.below (w5.heap.size + 5) ((Below.refl w5.heap.size w5).alloc (Nat.le_refl _) _)) (fun cur e => by have := heap_lt e; omega); have hrow6 := hrwa.snoc hown6 hgrow6 HSL5.out hio6; obtain ⟨a6, c6, rfl, -, -⟩ := hrow6.cop; have hpb6 := hrwa.keep hgrow6 ((heap_alloc_old _ _ (by omega)).trans HPB5.out) (by decide); have hrb6 := hrwa.keep hgrow6 ((heap_alloc_old _ _ (by omega)).trans HRB5.out) (by decide); have hr6 : RtAt w6 g (strU r') := hrwa.keep hgrow6 ((heap_alloc_old _ _ HR5.out.lt).trans HR5.out) (by decide); have g1 : w6.cell? ⟨w3.heap.size, 1, none⟩ = some (.slice ka ks.length kc) := (by rw [cell_of_row _ _ _ _ _ _ hpb6]; rfl); have f1 : w6.frozen? ⟨w3.heap.size, 1, none⟩ = false := frozen_of_row _ _ _ _ _ hpb6; have HPB6 := Lib.hid hpb6; have HRB6 := Lib.hid hrb6; have HR6 := Lib.hid hr6; have HROW6 := Lib.hid hrow6; have HB6 : Hid (But (fun k => k = g) w w6) := HB5.out.next (But.trans ((But.refl (fun k => w.heap.size ≤ k) w5).alloc (.cells #[.slice a5 xs.length c5] 46)) ⟨hgrow6.os, hgrow6.tape, hgrow6.output, hgrow6.size, fun k hk hs => hgrow6.block k hk (fun e => hs (World.ownsRow.lt hrwa.1 k e.symm).1)⟩) (fun j hj hs => by omega); clear hown6 hgrow6 hrwa hio6 hrow6 hpb6 hrb6 hr6))
          all_goals
            go_wp2
            have hRT : RtAt (w6.setCell ⟨w3.heap.size, 1, none⟩ (.slice a6 (ks.length + 1) c6)) g (strU r') := HR6.out.but ((But.refl (fun k => k = w3.heap.size) w6).setCell (.inl rfl) _) (by show ¬ g = w3.heap.size; omega)
            go_roundw
            case rel =>
              have hset := heap_setCell_same w6 w3.heap.size 1 _ _ (.slice a6 (ks.length + 1) c6) HPB6.out
              have hro := HROW6.out
              simp only [List.length_append, List.length_singleton] at hro
              have e8 : (ks ++ [xs]).length ≤ 8 := by simp; omega
              have hsr0 : (w6.setCell ⟨w3.heap.size, 1, none⟩ (.slice a6 (ks.length + 1) c6)).heap[w.heap.size]? = some (.cells #[.int .i64 0, .slice none 0 0] 24) := (Below.heap_setCell _ _ _ _ (by show w.heap.size ≠ w3.heap.size; omega)).trans HRB6.out
              have hkr : KRow w.heap.size (w6.setCell ⟨w3.heap.size, 1, none⟩ (.slice a6 (ks.length + 1) c6)) (.slice a6 (ks.length + 1) c6) (vs ++ [.slice a5 xs.length c5]) (ks ++ [xs]) :=
                hro.but ((But.refl (fun j => j = w3.heap.size) w6).setCell (.inl rfl) _) (fun j cur e hh => by subst e; rw [HPB6.out] at hh; cases hh) (fun j cur e hh => by subst e; rw [HPB6.out] at hh; cases hh)
              have hbf : But (fun k => k = g) w (w6.setCell ⟨w3.heap.size, 1, none⟩ (.slice a6 (ks.length + 1) c6)) := HB6.out.setCell (.inr (by show w.heap.size ≤ w3.heap.size; omega)) _
              exact ⟨ks ++ [xs], r', .slice a6 (ks.length + 1) c6, vs ++ [.slice a5 xs.length c5], HMO.out, e8, by omega, hRT, hsr0, hset, hkr, hbf⟩
            case measure =>
              rw [leftAt_eq hRT, leftAt_eq HRR.out]
              exact hless
theorem numRd_wf {d : List UInt8} {v : Int} (hv : CodM.numRd d = some v) : I64 v := by
  unfold CodM.numRd at hv
  split at hv
  · rename_i v' he
    have := Lib.parseIntB_bounds he
    split at hv
    · cases hv
      have h1 := this.1
      have h2 := this.2
      simp at h1 h2
      exact ⟨by omega, by omega⟩
    · cases hv
  · cases hv
theorem tprog_any (g : Nat) (l : List UInt8) (w : World) (hr : RtAt w g (strU l)) (hG : GloT w) (hg7 : 5 ≤ g) (hs : l.length < 4294967281) : Calls Tryd.prog 36 #[.pointer (some ⟨g, 0, none⟩)] w (PTo g l w) := by
  rcases h : cutAt 10 l with _ | ⟨x, t⟩
  · exact tprog_cut g l w hr hG hs h
  · rcases hp : varsW.isPrefixOf x with _ | _
    · exact tprog_head g l x t w hr hG hs h hp
    · rcases hn : CodM.numRd (x.drop 5) with _ | v
      · exact tprog_num g l x t w hr hG hg7 hs h hp hn
      · exact tprog_go g l x t v w hr hG hg7 hs h hp hn (numRd_wf hn)
theorem tprog_no (g : Nat) (l : List UInt8) (w : World) (hr : RtAt w g (strU l)) (hG : GloT w) (hg7 : 5 ≤ g) (hs : l.length < 4294967281) (h : rdText l = none) : Calls Tryd.prog 36 #[.pointer (some ⟨g, 0, none⟩)] w (PanicsB g w) :=
  (tprog_any g l w hr hG hg7 hs).mono fun e w' ⟨h1, h2⟩ => by
    rw [h] at h2
    exact ⟨h2, h1⟩
def ProgTx (g : Nat) (p : Prg) (w : World) (e : Ending) (w' : World) : Prop :=
  ∃ a n c, e = .returned (.agg #[.int .i64 p.vars, .slice a n c]) ∧ SlOk a n c ∧ Cop w.heap.size w' a n p.kinds ∧ I64 p.vars ∧ But (fun k => k = g) w w'
theorem tprog_yes (g : Nat) (l : List UInt8) (p : Prg) (w : World) (hr : RtAt w g (strU l)) (hG : GloT w) (hg7 : 5 ≤ g) (hs : l.length < 4294967281) (h : rdText l = some p) : Calls Tryd.prog 36 #[.pointer (some ⟨g, 0, none⟩)] w (ProgTx g p w) :=
  (tprog_any g l w hr hG hg7 hs).mono fun e w' ⟨h1, h2⟩ => by
    rw [h] at h2
    obtain ⟨a, n, c, h3, h4, h5, h6⟩ := h2
    exact ⟨a, n, c, h3, h4, h5, h6, h1⟩
end Go.Proofs.YtlgbkbmjfmomkaaDoor
