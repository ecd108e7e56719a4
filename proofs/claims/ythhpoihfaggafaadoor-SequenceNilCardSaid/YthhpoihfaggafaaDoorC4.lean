/-
  The walks of mayKind and May.
-/
import Derived.Test.YthhpoihfaggafaaDoorC3
namespace Go.Proofs.YthhpoihfaggafaaDoor
open Go.RowKit CodM

theorem mk_long (nk vars : Int) (l : List Ins) (h : 128 < l.length) : CodM.mayKind nk vars l = false := by unfold CodM.mayKind; simp; omega
theorem mk_no (nk vars : Int) (l : List Ins) (k : Nat) (hk : k < l.length) (h : mayIns nk vars l.length (l.getD k (0, 0)) = false) : CodM.mayKind nk vars l = false := by
  unfold CodM.mayKind; rw [all_no _ l k (0, 0) hk h]; simp
theorem mk_yes (nk vars : Int) (l : List Ins) (h : l.length ≤ 128) (h2 : l.all (mayIns nk vars l.length) = true) : CodM.mayKind nk vars l = true := by
  unfold CodM.mayKind; rw [h2]; simp; omega

def KindRel (w : World) (nk vars : Int) (n : Nat) (l : List Ins) (i : Value) (wr : World) : Prop :=
  ∃ k : Nat, k ≤ n ∧ i = .int .i64 k ∧ (l.take k).all (mayIns nk vars n) = true ∧ Below w.heap.size w wr

set_option maxHeartbeats 1000000 in
theorem mayKind_any (a pa : Option Addr) (n c pn pc : Nat) (vars : Int) (l : List Ins) (w : World) (hW : Wds w) (hl : InsAt w a n l) :
    Calls Tryd.prog 104 #[.agg #[.int .i64 vars, .slice pa pn pc], .slice a n c] w (TellsBB (CodM.mayKind pn vars l) w) := by
  have hlen := hl.1
  have hmax := hl.2.2.1
  by_cases hb : 128 < n
  · rw [mk_long _ _ _ (by omega)]
    clear hlen hW hl
    go_enter Tryd.func104, Tryd.ntmps104
    go_wp2
    go_ret
    exact ⟨rfl, (Below.refl _ _).alloc (Nat.le_refl _) _⟩
  · obtain ⟨r, hr⟩ : ∃ r, r = CodM.mayKind pn vars l := ⟨_, rfl⟩
    rw [← hr]
    have HR := Lib.hid hr
    have HW := Lib.hid hW
    have HL := Lib.hid hl
    have HLEN := Lib.hid hlen
    clear hr hW hl hlen
    go_enter Tryd.func104, Tryd.ntmps104
    go_wp2
    obtain ⟨wb, hwb⟩ : ∃ wb, wb = w.alloc (.cells #[.int .i64 vars, .slice pa pn pc] 70) := ⟨_, rfl⟩
    have HB0 := Lib.hid (show Below w.heap.size w wb from by rw [hwb]; exact (Below.refl _ _).alloc (Nat.le_refl _) _)
    have HV := Lib.hid (show wb.cell? ⟨w.heap.size, 0, none⟩ = some (.int .i64 vars) from by rw [hwb]; simp)
    have HV1 := Lib.hid (show wb.cell? ⟨w.heap.size, 1, none⟩ = some (.slice pa pn pc) from by rw [hwb]; simp)
    have HSZ := Lib.hid (show w.heap.size < wb.heap.size from by rw [hwb]; simp)
    rw [← hwb]
    clear hwb
    go_loopw [12] (fun i wr => KindRel wb pn vars n l i wr) (fun i _ => n - (intOf i).toNat)
    case atStart => exact ⟨0, Nat.zero_le _, rfl, rfl, Below.refl _ _⟩
    case round =>
      obtain ⟨k, hk, rfl, hall, hbel⟩ := hrel
      have HALL := Lib.hid hall
      have HBEL := Lib.hid hbel
      clear hall hbel
      have HBW := Lib.hid (HB0.out.trans (HBEL.out.mono HB0.out.size))
      by_cases hlt : k < n
      · obtain ⟨B, off, rfl, hB, c1, c2⟩ := (HL.out.below HBW.out (Nat.le_refl _)).cell k hlt
        obtain ⟨b1, b2⟩ := HL.out.bounds k hlt
        obtain ⟨⟨o, m⟩, hx⟩ : ∃ x : Ins, x = l.getD k (0, 0) := ⟨_, rfl⟩
        rw [← hx] at c1 c2 b1 b2
        have HX := Lib.hid hx
        clear hx
        simp only at c1 c2 b1 b2
        have hs0 : w.heap.size < wr.heap.size := Nat.lt_of_lt_of_le HSZ.out HBEL.out.size
        have cv := (HBEL.out.cell (p := ⟨w.heap.size, 0, none⟩) HSZ.out).trans HV.out
        have cv1 := (HBEL.out.cell (p := ⟨w.heap.size, 1, none⟩) HSZ.out).trans HV1.out
        have HWr := Lib.hid (HW.out.next HBW.out (Nat.le_refl _))
        by_cases hin : 1 ≤ o ∧ o ≤ 17
        · have hE : (strU (word o)).toList.isEmpty = false := by
            rw [strU_toList]
            obtain ⟨j, hj, rfl⟩ := op_cases o hin
            rw [word_in j hj]
            simpa using wordAt_ne j hj
          rcases hb2 : mayNum pn vars n (o, m) with _ | _
          · have HB2 := Lib.hid hb2
            clear hb2
            go_wp2_with (first
              | (go_at_call 105; refine (word_any _ _ ?_).mono ?_; (exact HWr.out.alloc _); rintro e w' ⟨rfl, rfl⟩)
              | (go_at_call 135; refine (mayNumber_any _ _ _ _ _ _ b2 (by omega) (by omega)).mono ?_; rintro e w2 ⟨rfl, hbel⟩; rw [HB2.out]; have HBEL2 := Lib.hid hbel; clear hbel))
            go_ret
            have hno : mayIns pn vars (l.length : Nat) (l.getD k (0, 0)) = false := by
              rw [HLEN.out, ← HX.out]; unfold mayIns; rw [HB2.out]; simp
            refine ⟨?_, HBW.out.trans (((Below.refl _ _).alloc (Nat.le_refl _) _).trans (HBEL2.out.mono (by simp)) |>.mono HBW.out.size)⟩
            rw [HR.out, mk_no pn vars l k (by rw [HLEN.out]; exact hlt) hno]
            rfl
          · have HB2 := Lib.hid hb2
            clear hb2
            go_wp2_with (first
              | (go_at_call 105; refine (word_any _ _ ?_).mono ?_; (exact HWr.out.alloc _); rintro e w' ⟨rfl, rfl⟩)
              | (go_at_call 135; refine (mayNumber_any _ _ _ _ _ _ b2 (by omega) (by omega)).mono ?_; rintro e w2 ⟨rfl, hbel⟩; rw [HB2.out]; have HBEL2 := Lib.hid hbel; clear hbel))
            go_roundw
            case rel =>
              refine ⟨k + 1, by omega, by go_num, ?_, HBEL.out.trans (((Below.refl _ _).alloc (Nat.le_refl _) _).trans (HBEL2.out.mono (by simp)) |>.mono HBEL.out.size)⟩
              rw [all_step _ l k (0, 0) (by rw [HLEN.out]; exact hlt), HALL.out, ← HX.out]
              unfold mayIns
              rw [HB2.out]
              simp [hin]
            case measure => simp [intOf]; omega
        · have hE : (strU (word o)).toList.isEmpty = true := by rw [strU_toList, word_out o (by omega)]; rfl
          go_wp2_with (first
            | (go_at_call 105; refine (word_any _ _ ?_).mono ?_; (exact HWr.out.alloc _); rintro e w' ⟨rfl, rfl⟩))
          go_ret
          have hno : mayIns pn vars (l.length : Nat) (l.getD k (0, 0)) = false := by
            rw [HLEN.out, ← HX.out]; unfold mayIns; simp [hin]
          refine ⟨?_, HBW.out.trans (((Below.refl _ _).alloc (Nat.le_refl _) _).mono HBW.out.size)⟩
          rw [HR.out, mk_no pn vars l k (by rw [HLEN.out]; exact hlt) hno]
          rfl
      · go_wp2
        go_ret
        refine ⟨?_, HBW.out⟩
        rw [HR.out, mk_yes pn vars l (by have := HLEN.out; omega) (by rw [HLEN.out]; exact all_end _ l k (by have := HLEN.out; omega) HALL.out)]
        rfl
end Go.Proofs.YthhpoihfaggafaaDoor
