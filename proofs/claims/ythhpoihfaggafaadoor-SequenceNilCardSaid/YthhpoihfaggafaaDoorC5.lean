/-
  The walk of May.
-/
import Derived.Test.YthhpoihfaggafaaDoorC4
namespace Go.Proofs.YthhpoihfaggafaaDoor
open Go.RowKit CodM

theorem may_head (nk : Int) (p : Prg) (h : p.vars < 0 ∨ 8 < p.vars ∨ p.kinds.length < 1 ∨ 8 < p.kinds.length) : CodM.may nk p = false := by
  unfold CodM.may mayHead
  rw [decide_eq_false (by omega)]
  rfl
theorem may_no (nk : Int) (p : Prg) (k : Nat) (hk : k < p.kinds.length) (h : CodM.mayKind nk p.vars (p.kinds.getD k []) = false) : CodM.may nk p = false := by
  unfold CodM.may; rw [all_no _ p.kinds k [] hk h]; simp
theorem may_yes (nk : Int) (p : Prg) (h : 0 ≤ p.vars ∧ p.vars ≤ 8 ∧ 1 ≤ p.kinds.length ∧ p.kinds.length ≤ 8) (h2 : p.kinds.all (CodM.mayKind nk p.vars) = true) : CodM.may nk p = true := by
  unfold CodM.may mayHead; rw [h2, decide_eq_true h]; rfl

/-- the bound of the kind of OpSend: the program's own kinds -/
abbrev codeNk (p : Prg) : Int := p.kinds.length

def BoxRel (box : World) (nk vars : Int) (n : Nat) (ks : List (List Ins)) (i : Value) (wr : World) : Prop :=
  ∃ k : Nat, k ≤ n ∧ i = .int .i64 k ∧ (ks.take k).all (CodM.mayKind nk vars) = true ∧ Below box.heap.size box wr

set_option maxHeartbeats 1000000 in
theorem may_any (a : Option Addr) (n c : Nat) (p : Prg) (w : World) (hW : Wds w) (hp : ProgAt w a n p) :
    Calls Tryd.prog 85 #[.agg #[.int .i64 p.vars, .slice a n c]] w (TellsBB (CodM.may (codeNk p) p) w) := by
  obtain ⟨vars, ks⟩ := p
  obtain ⟨⟨hv0, hv1⟩, hk⟩ := hp
  have hlen := hk.1
  have hmax := hk.2.1
  simp only at hlen hv0 hv1 ⊢
  by_cases h1 : vars < 0
  · rw [may_head _ _ (.inl h1)]
    clear hlen hW hk
    go_enter Tryd.func85, Tryd.ntmps85; go_wp2; go_ret
    exact ⟨rfl, (Below.refl _ _).alloc (Nat.le_refl _) _⟩
  by_cases h2 : 8 < vars
  · rw [may_head _ _ (.inr (.inl h2))]
    clear hlen hW hk
    go_enter Tryd.func85, Tryd.ntmps85; go_wp2; go_ret
    exact ⟨rfl, (Below.refl _ _).alloc (Nat.le_refl _) _⟩
  by_cases h3 : n < 1
  · rw [may_head _ _ (.inr (.inr (.inl (by show ks.length < 1; omega))))]
    clear hlen hW hk
    go_enter Tryd.func85, Tryd.ntmps85; go_wp2; go_ret
    exact ⟨rfl, (Below.refl _ _).alloc (Nat.le_refl _) _⟩
  by_cases h4 : 8 < n
  · rw [may_head _ _ (.inr (.inr (.inr (by show 8 < ks.length; omega))))]
    clear hlen hW hk
    go_enter Tryd.func85, Tryd.ntmps85; go_wp2; go_ret
    exact ⟨rfl, (Below.refl _ _).alloc (Nat.le_refl _) _⟩
  obtain ⟨r, hr⟩ : ∃ r, r = CodM.may n ⟨vars, ks⟩ := ⟨_, rfl⟩
  rw [show codeNk ⟨vars, ks⟩ = (n : Int) from by show (ks.length : Int) = n; rw [hlen]]
  rw [← hr]
  have HR := Lib.hid hr
  have HW := Lib.hid hW
  have HK := Lib.hid hk
  have HLEN := Lib.hid hlen
  clear hr hW hk hlen
  go_enter Tryd.func85, Tryd.ntmps85
  go_wp2
  obtain ⟨wb, hwb⟩ : ∃ wb, wb = w.alloc (.cells #[.int .i64 vars, .slice a n c] 70) := ⟨_, rfl⟩
  have HB0 := Lib.hid (show Below w.heap.size w wb from by rw [hwb]; exact (Below.refl _ _).alloc (Nat.le_refl _) _)
  have HV := Lib.hid (show wb.cell? ⟨w.heap.size, 0, none⟩ = some (.int .i64 vars) from by rw [hwb]; simp)
  have HV1 := Lib.hid (show wb.cell? ⟨w.heap.size, 1, none⟩ = some (.slice a n c) from by rw [hwb]; simp)
  have HSZ := Lib.hid (show w.heap.size < wb.heap.size from by rw [hwb]; simp)
  rw [← hwb]
  clear hwb
  go_loopw [26] (fun i wr => BoxRel wb n vars n ks i wr) (fun i _ => n - (intOf i).toNat)
  case atStart => exact ⟨0, Nat.zero_le _, rfl, rfl, Below.refl _ _⟩
  case round =>
    obtain ⟨k, hk, rfl, hall, hbel⟩ := hrel
    have HALL := Lib.hid hall
    have HBEL := Lib.hid hbel
    clear hall hbel
    have HBW := Lib.hid (HB0.out.trans (HBEL.out.mono HB0.out.size))
    by_cases hlt : k < n
    · obtain ⟨B, off, a', n', c', rfl, hB, c1, hle, hin⟩ := (HK.out.below HBW.out (Nat.le_refl _)).cell k hlt
      have cv := (HBEL.out.cell (p := ⟨w.heap.size, 0, none⟩) HSZ.out).trans HV.out
      have cv1 := (HBEL.out.cell (p := ⟨w.heap.size, 1, none⟩) HSZ.out).trans HV1.out
      have HIN := Lib.hid hin
      have HWr := Lib.hid (HW.out.next HBW.out (Nat.le_refl _))
      clear hin
      rcases hb2 : CodM.mayKind n vars (ks.getD k []) with _ | _
      · have HB2 := Lib.hid hb2
        clear hb2
        go_wp2_with (first
          | (go_at_call 104; refine (mayKind_any _ _ _ _ _ _ _ _ _ HWr.out HIN.out).mono ?_; rintro e w2 ⟨rfl, hbel⟩; rw [HB2.out]; have HBEL2 := Lib.hid hbel; clear hbel))
        go_ret
        refine ⟨?_, HBW.out.trans (HBEL2.out.mono HBW.out.size)⟩
        rw [HR.out, may_no n ⟨vars, ks⟩ k (by show k < ks.length; rw [HLEN.out]; exact hlt) HB2.out]
        rfl
      · have HB2 := Lib.hid hb2
        clear hb2
        go_wp2_with (first
          | (go_at_call 104; refine (mayKind_any _ _ _ _ _ _ _ _ _ HWr.out HIN.out).mono ?_; rintro e w2 ⟨rfl, hbel⟩; rw [HB2.out]; have HBEL2 := Lib.hid hbel; clear hbel))
        go_roundw
        case rel =>
          refine ⟨k + 1, by omega, by go_num, ?_, HBEL.out.trans (HBEL2.out.mono HBEL.out.size)⟩
          rw [all_step _ ks k [] (by rw [HLEN.out]; exact hlt), HALL.out, HB2.out]
          rfl
        case measure => simp [intOf]; omega
    · go_wp2
      go_ret
      refine ⟨?_, HBW.out⟩
      have hn : ks.length = n := HLEN.out
      rw [HR.out, may_yes n ⟨vars, ks⟩ ⟨by show 0 ≤ vars; omega, by show vars ≤ 8; omega, by show 1 ≤ ks.length; omega, by show ks.length ≤ 8; omega⟩ (all_end _ ks k (by omega) HALL.out)]
      rfl
end Go.Proofs.YthhpoihfaggafaaDoor
