/-
  The walk of the document's May.
-/
import Derived.Test.YtppidbnbfipgnaaDoorC5
import Derived.Test.YtppidbnbfipgnaaDoorD2
import Derived.Test.YtppidbnbfipgnaaDoorF1
import Derived.Deep.RegionHeld3
namespace Go.Proofs.YtppidbnbfipgnaaDoor
open Go.RowKit CodM

def InRel (wb : World) (nk vars : Int) (n : Nat) (l : List Ins) (i : Value) (wr : World) : Prop :=
  ∃ k : Nat, k ≤ n ∧ i = .int .i64 k ∧ (l.take k).all (mayIns nk vars n) = true ∧ Below wb.heap.size wb wr
/-- what is held of the world while an instruction is looked at -/
abbrev StI (wb : World) (g : Nat) (x : Int) (vA : Value) (B1 o1 : Nat) (v1 : Value) (B2 o2 : Nat) (o u : Int) (W : World) : Prop :=
  W.cell? ⟨g, 0, none⟩ = some (.int .i64 x) ∧ W.cell? ⟨g, 1, none⟩ = some vA ∧ W.cell? ⟨B1, o1, none⟩ = some v1 ∧ W.cell? ⟨B2, o2, none⟩ = some (.int .i64 o) ∧ W.cell? ⟨B2, o2 + 1, none⟩ = some (.int .i64 u) ∧ Hid (Below wb.heap.size wb W)
def TellsI (t : Bool) (S : World → Prop) (e : Ending) (w' : World) : Prop := e = .returned (.bool t) ∧ S w'

set_option maxHeartbeats 4000000 in
set_option maxRecDepth 100000 in
theorem rmay_any (a : Option Addr) (n c : Nat) (p : Prg) (w : World) (hp : ProgAt w a n p) :
    Calls Tryd.prog 21 #[.agg #[.int .i64 p.vars, .slice a n c]] w (TellsBB (CodM.may n p) w) := by
  obtain ⟨vars, ks⟩ := p
  obtain ⟨⟨hv0, hv1⟩, hk⟩ := hp
  have hlen := hk.1
  have hmax := hk.2.1
  simp only at hlen hv0 hv1 ⊢
  by_cases h1 : vars < 0
  · rw [may_head _ _ (.inl h1)]
    clear hlen hk
    go_enter Tryd.func21, Tryd.ntmps21; go_wp2; go_ret
    exact ⟨rfl, (Below.refl _ _).alloc (Nat.le_refl _) _⟩
  by_cases h2 : 8 < vars
  · rw [may_head _ _ (.inr (.inl h2))]
    clear hlen hk
    go_enter Tryd.func21, Tryd.ntmps21; go_wp2; go_ret
    exact ⟨rfl, (Below.refl _ _).alloc (Nat.le_refl _) _⟩
  by_cases h3 : n < 1
  · rw [may_head _ _ (.inr (.inr (.inl (by show ks.length < 1; omega))))]
    clear hlen hk
    go_enter Tryd.func21, Tryd.ntmps21; go_wp2; go_ret
    exact ⟨rfl, (Below.refl _ _).alloc (Nat.le_refl _) _⟩
  by_cases h4 : 8 < n
  · rw [may_head _ _ (.inr (.inr (.inr (by show 8 < ks.length; omega))))]
    clear hlen hk
    go_enter Tryd.func21, Tryd.ntmps21; go_wp2; go_ret
    exact ⟨rfl, (Below.refl _ _).alloc (Nat.le_refl _) _⟩
  obtain ⟨r, hr⟩ : ∃ r, r = CodM.may n ⟨vars, ks⟩ := ⟨_, rfl⟩
  rw [← hr]
  have HR := Lib.hid hr
  have HK := Lib.hid hk
  have HLEN := Lib.hid hlen
  clear hr hk hlen
  go_enter Tryd.func21, Tryd.ntmps21
  go_wp2
  obtain ⟨wb, hwb⟩ : ∃ wb, wb = w.alloc (.cells #[.int .i64 vars, .slice a n c] 24) := ⟨_, rfl⟩
  have HB0 := Lib.hid (show Below w.heap.size w wb from by rw [hwb]; exact (Below.refl _ _).alloc (Nat.le_refl _) _)
  have HV := Lib.hid (show wb.cell? ⟨w.heap.size, 0, none⟩ = some (.int .i64 vars) from by rw [hwb]; simp)
  have HV1 := Lib.hid (show wb.cell? ⟨w.heap.size, 1, none⟩ = some (.slice a n c) from by rw [hwb]; simp)
  rw [← hwb]
  clear hwb
  go_loopw [3] (fun i wr => BoxRel wb n vars n ks i wr) (fun i _ => n - (intOf i).toNat)
  case atStart => exact ⟨0, Nat.zero_le _, rfl, rfl, Below.refl _ _⟩
  case round =>
    obtain ⟨k, hk, rfl, hall, hbel⟩ := hrel
    have HALL := Lib.hid hall
    have HBEL := Lib.hid hbel
    clear hall hbel
    have HBW := Lib.hid (HB0.out.trans (HBEL.out.mono HB0.out.size))
    have q1 := cellN HV1.out HBEL.out
    by_cases hlt : k < n
    · obtain ⟨B1, off1, a1, n1, d1, rfl, hB1, c1, l1, i1⟩ := HK.out.cell k hlt
      have e1 := cellN c1 HBW.out
      have hm1 := i1.2.2.1
      obtain ⟨l, hl⟩ : ∃ l, l = ks.getD k [] := ⟨_, rfl⟩
      rw [← hl] at i1
      have HC1 := Lib.hid c1
      have HI1 := Lib.hid i1
      have HL := Lib.hid hl
      have HN1 := Lib.hid i1.1
      clear i1 c1 hl
      by_cases hb : 128 < n1
      · go_wp2
        go_ret
        refine ⟨?_, HBW.out⟩
        rw [HR.out, may_no n ⟨vars, ks⟩ k (by show k < ks.length; rw [HLEN.out]; exact hlt) (by show CodM.mayKind n vars (ks.getD k []) = false; rw [← HL.out]; exact mk_long _ _ _ (by rw [HN1.out]; exact hb))]
        rfl
      · go_wp2
        clear q1 e1
        go_loopw [4] (fun i wr => InRel wb n vars n1 l i wr) (fun i _ => n1 - (intOf i).toNat)
        case atStart => exact ⟨0, Nat.zero_le _, rfl, rfl, HBEL.out⟩
        case round =>
          obtain ⟨j, hj, rfl, hallj, hbelj⟩ := hrel
          have HALLJ := Lib.hid hallj
          have HBELJ := Lib.hid hbelj
          clear hallj hbelj
          have HBJ := Lib.hid (HB0.out.trans (HBELJ.out.mono HB0.out.size))
          have q0 := cellN HV.out HBELJ.out
          have q1 := cellN HV1.out HBELJ.out
          have e1 := cellN HC1.out HBJ.out
          by_cases hltj : j < n1
          · obtain ⟨B2, off2, rfl, hB2, c1, c2⟩ := HI1.out.cell j hltj
            obtain ⟨b1, b2⟩ := HI1.out.bounds j hltj
            obtain ⟨⟨o, u⟩, hx⟩ : ∃ x : Ins, x = l.getD j (0, 0) := ⟨_, rfl⟩
            rw [← hx] at c1 c2 b1 b2
            simp only at c1 c2 b1 b2
            have e2 := cellN c1 HBJ.out
            have e3 := cellN c2 HBJ.out
            have HX := Lib.hid hx
            clear hx
            obtain ⟨t, ht⟩ : ∃ t, mayIns n vars n1 (o, u) = t := ⟨_, rfl⟩
            have HT := Lib.hid ht
            have hcn := cellN c1 HB0.out
            have hcn2 := cellN c2 HB0.out
            have HSTOF : Hid (∀ W, Below wb.heap.size wb W → StI wb w.heap.size vars (.slice (some ⟨B1, off1, none⟩) n c) B1 (off1 + k) (.slice (some ⟨B2, off2, none⟩) n1 d1) B2 (off2 + j * 2) o u W) := fun W hb =>
              ⟨cellN HV.out hb, cellN HV1.out hb, cellN (cellN HC1.out HB0.out) hb, cellN hcn hb, cellN hcn2 hb, hb⟩
            have HCALL : Hid (∀ W, Hid (Below wb.heap.size wb W) → Calls Tryd.prog 36 #[.agg #[.int .i64 vars, .slice (some ⟨B1, off1, none⟩) n c], .agg #[.int .i64 o, .int .i64 u], .int .i64 n1] W (TellsI t (fun W => StI wb w.heap.size vars (.slice (some ⟨B1, off1, none⟩) n c) B1 (off1 + k) (.slice (some ⟨B2, off2, none⟩) n1 d1) B2 (off2 + j * 2) o u W))) := fun W hb => by
              rw [← ht]
              exact (rinstr_any W _ n c vars o u n1 ⟨hv0, hv1⟩ b2 (by omega) (by omega)).mono fun _ _ ⟨he, h⟩ => ⟨he, HSTOF.out _ (hb.out.trans (h.mono hb.out.size))⟩
            have HSTD := Lib.hid (HSTOF.out wr.drew HBELJ.out.drew)
            clear ht c1 c2 b1 b2 hcn hcn2
            rcases hb2 : t with _ | _
            · subst hb2
              go_wp2
              go_region_held3 (fun W => StI wb w.heap.size vars (.slice (some ⟨B1, off1, none⟩) n c) B1 (off1 + k) (.slice (some ⟨B2, off2, none⟩) n1 d1) B2 (off2 + j * 2) o u W) (first | assumption | exact HSTD.out)
                (first
                  | (go_at_call 36; ((with_reducible refine (HCALL.out _ ?_).mono ?_)); (go_split_ands; assumption); rintro e w' ⟨rfl, hst'⟩))
              have HFIN := Lib.hid hst'.2.2.2.2.2.out
              clear hst'
              go_wp2
              go_ret
              refine ⟨?_, HB0.out.trans (HFIN.out.mono HB0.out.size)⟩
              have hno : mayIns n vars (l.length : Nat) (l.getD j (0, 0)) = false := by rw [HN1.out, ← HX.out]; exact HT.out
              rw [HR.out, may_no n ⟨vars, ks⟩ k (by show k < ks.length; rw [HLEN.out]; exact hlt) (by show CodM.mayKind n vars (ks.getD k []) = false; rw [← HL.out]; exact mk_no n vars l j (by rw [HN1.out]; exact hltj) hno)]
              rfl
            · subst hb2
              go_wp2
              go_region_held3 (fun W => StI wb w.heap.size vars (.slice (some ⟨B1, off1, none⟩) n c) B1 (off1 + k) (.slice (some ⟨B2, off2, none⟩) n1 d1) B2 (off2 + j * 2) o u W) (first | assumption | exact HSTD.out)
                (first
                  | (go_at_call 36; ((with_reducible refine (HCALL.out _ ?_).mono ?_)); (go_split_ands; assumption); rintro e w' ⟨rfl, hst'⟩))
              have HFIN := Lib.hid hst'.2.2.2.2.2.out
              clear hst'
              go_wp2
              go_roundw
              case rel =>
                refine ⟨j + 1, by omega, by go_num, ?_, HFIN.out⟩
                rw [all_step _ l j (0, 0) (by rw [HN1.out]; exact hltj), HALLJ.out, ← HX.out, HT.out]
                rfl
              case measure => simp [intOf]; omega
          · go_wp2
            go_roundw
            case rel =>
              refine ⟨k + 1, by omega, by go_num, ?_, HBELJ.out⟩
              rw [all_step _ ks k [] (by rw [HLEN.out]; exact hlt), HALL.out, ← HL.out, mk_yes n vars l (by rw [HN1.out]; omega) (by rw [HN1.out]; exact all_end _ l j (by rw [HN1.out]; omega) HALLJ.out)]
              rfl
            case measure => simp [intOf]; omega
    · go_wp2
      go_ret
      refine ⟨?_, HBW.out⟩
      have hn : ks.length = n := HLEN.out
      rw [HR.out, may_yes n ⟨vars, ks⟩ ⟨by show 0 ≤ vars; omega, by show vars ≤ 8; omega, by show 1 ≤ ks.length; omega, by show ks.length ≤ 8; omega⟩ (all_end _ ks k (by omega) HALL.out)]
      rfl
end Go.Proofs.YtppidbnbfipgnaaDoor
