/-
  The walks of the fields of responses, but variables.
-/
import Derived.Test.YtdpfmaikijilkaaW9
namespace Go.Proofs.Ytdpfmaikijilkaa
open Go Go.RowKit Go.Sort Go.Proofs

/-- a response, as numbers -/
structure Rs where
  kind : Int
  id : Int
  err : Int
  floor : Int
  vars : List Int
  rt : Int
  ro : Int
  rs : Int
  rp : Int
  rn : Int
  rv : Int
  num : Int
  time : Int
  org : Int
  seq : Int
  pt : Int
  ek : Int
  dat : Int
/-- .. its cells, with the variables' slice -/
def RsC (q : Rs) (mv : Value) : Array Value := #[.int .i64 q.kind, .int .u32 q.id, .int .i64 q.err, .int .i64 q.floor, mv, .int .i64 q.rt, .int .i64 q.ro, .int .i64 q.rs, .int .i64 q.rp, .int .i64 q.rn, .int .i64 q.rv,
  .int .u32 q.num, .int .i64 q.time, .int .i64 q.org, .int .i64 q.seq, .int .i64 q.pt, .int .i64 q.ek, .int .i64 q.dat]
/-- what passes of it -/
abbrev FldS := Rs → Wi → Option (Rs × Wi)
def gID : FldS := fun q S => (wordW S q.id).map fun p => ({ q with id := p.1 }, p.2)
def gNum : FldS := fun q S => (wordW S q.num).map fun p => ({ q with num := p.1 }, p.2)
def gErr : FldS := fun q S => (octW S q.err 16).map fun p => ({ q with err := p.1 }, p.2)
def gFloor : FldS := fun q S => (wholeW S q.floor).map fun p => ({ q with floor := p.1 }, p.2)
def gRecord : FldS := fun q S => (keyV S q.rt q.ro q.rs).bind fun p1 => (octW p1.2 q.rp 255).bind fun p2 => (octW p2.2 q.rn 255).bind fun p3 => (wholeW p3.2 q.rv).map fun p4 => ({ q with rt := p1.1.1, ro := p1.1.2.1, rs := p1.1.2.2, rp := p2.1, rn := p3.1, rv := p4.1 }, p4.2)
def gEvent : FldS := fun q S => (keyV S q.time q.org q.seq).bind fun p1 => (contentV p1.2 q.pt q.ek q.dat).map fun p2 => ({ q with time := p1.1.1, org := p1.1.2.1, seq := p1.1.2.2, pt := p2.1.1, ek := p2.1.2.1, dat := p2.1.2.2 }, p2.2)
set_option maxHeartbeats 1000000 in
set_option maxRecDepth 100000 in
theorem sid_bx {f1 f2 : FuncId} {P g M : Nat} {F : Nat → Prop} {w : World} {S : Wi} {K : Nat} {q : Rs} {mv : Value} (h : BAt f1 f2 w P g F S M 47 (RsC q mv) K) (hu : U32 q.id) (hK : K ≤ 999000) :
    Calls Try.prog 64 #[wv f1 f2 P, .pointer (some ⟨M, 0, none⟩)] w (BxTo f1 f2 P g M 47 F w (K + 8) ((gID q S).map fun p => (RsC p.1 mv, p.2))) := by
  obtain ⟨w1, hw1⟩ : ∃ w1, w1 = w.alloc (wbox f1 f2 P) := ⟨_, rfl⟩
  have hm1 := (h.below ((Below.refl _ _).alloc (Nat.le_refl _) (wbox f1 f2 P))).mid
  rw [← hw1] at hm1
  have hend : ∀ w2 e r, BxTo f1 f2 P g M 47 F w1 (K + 8) r e w2 → BxTo f1 f2 P g M 47 F w (K + 8) r e w2 := fun w2 e r hx => BxTo.chain (w := w) (F := F) (by rw [hw1]; exact (But.refl _ w).alloc _) (fun b e => .inl e) hx
  have hown : ∀ c S K w2, Mid f1 f2 P g M 47 F w1 c S K w2 → _ := fun c S K w2 hx => Mid.own hw1 h.wire.lt h.lt hx
  have HK := Lib.hid hK
  have HUc := Lib.hid hu
  have HE := Lib.hid hend
  have HB := Lib.hid hown
  have HM1 := Lib.hid hm1
  obtain ⟨a1, b1⟩ := hown _ _ _ _ hm1
  obtain ⟨R, hR⟩ : ∃ R, R = (gID q S).map fun p => (RsC p.1 mv, p.2) := ⟨_, rfl⟩
  rw [← hR]
  have HR := Lib.hid hR
  clear hu hK hend hown h hm1 hR
  go_enter Try.func64, Try.ntmps64
  go_wp2
  rw [← hw1]
  have HW1 := Lib.hid hw1
  clear hw1
  have hc1 := word_mid (o := 1) (v := q.id) HM1.out.drew rfl HUc.out (by have := HK.out; omega)
  cases hq1 : wordW S q.id with
  | none =>
    rw [hq1] at hc1
    have HRN : Hid (R = none) := by rw [Lib.hid_eq, HR.out]; simp only [gID, hq1, Option.map_none]
    have HC := Lib.hid hc1
    clear hc1
    go_region_dies
    all_goals
      refine HC.out.mono ?_
      rintro e w2 ⟨hb, rfl⟩
      exact ⟨rfl, HE.out _ _ _ (by rw [HRN.out]; exact ⟨hb, rfl⟩)⟩
  | some p1 =>
    obtain ⟨v1, S1⟩ := p1
    rw [hq1] at hc1
    have HC1 := Lib.hid hc1
    clear hc1
    go_region_law (first
      | (go_simp; refine HC1.out.mono ?_; rintro e w2 ⟨rfl, hm2⟩; obtain ⟨a2, b2⟩ := HB.out _ _ _ _ hm2; have HM2 := Lib.hid hm2; clear hm2; dsimp only))
    all_goals
      go_wp2
      go_end0
      exact HE.out _ _ _ (by rw [HR.out]; simp only [gID, hq1, Option.map_some]; exact ⟨rfl, HM2.out⟩)
set_option maxHeartbeats 1000000 in
set_option maxRecDepth 100000 in
theorem snum_bx {f1 f2 : FuncId} {P g M : Nat} {F : Nat → Prop} {w : World} {S : Wi} {K : Nat} {q : Rs} {mv : Value} (h : BAt f1 f2 w P g F S M 47 (RsC q mv) K) (hu : U32 q.num) (hK : K ≤ 999000) :
    Calls Try.prog 69 #[wv f1 f2 P, .pointer (some ⟨M, 0, none⟩)] w (BxTo f1 f2 P g M 47 F w (K + 8) ((gNum q S).map fun p => (RsC p.1 mv, p.2))) := by
  obtain ⟨w1, hw1⟩ : ∃ w1, w1 = w.alloc (wbox f1 f2 P) := ⟨_, rfl⟩
  have hm1 := (h.below ((Below.refl _ _).alloc (Nat.le_refl _) (wbox f1 f2 P))).mid
  rw [← hw1] at hm1
  have hend : ∀ w2 e r, BxTo f1 f2 P g M 47 F w1 (K + 8) r e w2 → BxTo f1 f2 P g M 47 F w (K + 8) r e w2 := fun w2 e r hx => BxTo.chain (w := w) (F := F) (by rw [hw1]; exact (But.refl _ w).alloc _) (fun b e => .inl e) hx
  have hown : ∀ c S K w2, Mid f1 f2 P g M 47 F w1 c S K w2 → _ := fun c S K w2 hx => Mid.own hw1 h.wire.lt h.lt hx
  have HK := Lib.hid hK
  have HUc := Lib.hid hu
  have HE := Lib.hid hend
  have HB := Lib.hid hown
  have HM1 := Lib.hid hm1
  obtain ⟨a1, b1⟩ := hown _ _ _ _ hm1
  obtain ⟨R, hR⟩ : ∃ R, R = (gNum q S).map fun p => (RsC p.1 mv, p.2) := ⟨_, rfl⟩
  rw [← hR]
  have HR := Lib.hid hR
  clear hu hK hend hown h hm1 hR
  go_enter Try.func69, Try.ntmps69
  go_wp2
  rw [← hw1]
  have HW1 := Lib.hid hw1
  clear hw1
  have hc1 := word_mid (o := 11) (v := q.num) HM1.out.drew rfl HUc.out (by have := HK.out; omega)
  cases hq1 : wordW S q.num with
  | none =>
    rw [hq1] at hc1
    have HRN : Hid (R = none) := by rw [Lib.hid_eq, HR.out]; simp only [gNum, hq1, Option.map_none]
    have HC := Lib.hid hc1
    clear hc1
    go_region_dies
    all_goals
      refine HC.out.mono ?_
      rintro e w2 ⟨hb, rfl⟩
      exact ⟨rfl, HE.out _ _ _ (by rw [HRN.out]; exact ⟨hb, rfl⟩)⟩
  | some p1 =>
    obtain ⟨v1, S1⟩ := p1
    rw [hq1] at hc1
    have HC1 := Lib.hid hc1
    clear hc1
    go_region_law (first
      | (go_simp; refine HC1.out.mono ?_; rintro e w2 ⟨rfl, hm2⟩; obtain ⟨a2, b2⟩ := HB.out _ _ _ _ hm2; have HM2 := Lib.hid hm2; clear hm2; dsimp only))
    all_goals
      go_wp2
      go_end0
      exact HE.out _ _ _ (by rw [HR.out]; simp only [gNum, hq1, Option.map_some]; exact ⟨rfl, HM2.out⟩)
set_option maxHeartbeats 1000000 in
set_option maxRecDepth 100000 in
theorem serr_bx {f1 f2 : FuncId} {P g M : Nat} {F : Nat → Prop} {w : World} {S : Wi} {K : Nat} {q : Rs} {mv : Value} (h : BAt f1 f2 w P g F S M 47 (RsC q mv) K)  (hK : K ≤ 999000) :
    Calls Try.prog 65 #[wv f1 f2 P, .pointer (some ⟨M, 0, none⟩)] w (BxTo f1 f2 P g M 47 F w (K + 8) ((gErr q S).map fun p => (RsC p.1 mv, p.2))) := by
  obtain ⟨w1, hw1⟩ : ∃ w1, w1 = w.alloc (wbox f1 f2 P) := ⟨_, rfl⟩
  have hm1 := (h.below ((Below.refl _ _).alloc (Nat.le_refl _) (wbox f1 f2 P))).mid
  rw [← hw1] at hm1
  have hend : ∀ w2 e r, BxTo f1 f2 P g M 47 F w1 (K + 8) r e w2 → BxTo f1 f2 P g M 47 F w (K + 8) r e w2 := fun w2 e r hx => BxTo.chain (w := w) (F := F) (by rw [hw1]; exact (But.refl _ w).alloc _) (fun b e => .inl e) hx
  have hown : ∀ c S K w2, Mid f1 f2 P g M 47 F w1 c S K w2 → _ := fun c S K w2 hx => Mid.own hw1 h.wire.lt h.lt hx
  have HK := Lib.hid hK
  have HE := Lib.hid hend
  have HB := Lib.hid hown
  have HM1 := Lib.hid hm1
  obtain ⟨a1, b1⟩ := hown _ _ _ _ hm1
  obtain ⟨R, hR⟩ : ∃ R, R = (gErr q S).map fun p => (RsC p.1 mv, p.2) := ⟨_, rfl⟩
  rw [← hR]
  have HR := Lib.hid hR
  clear  hK hend hown h hm1 hR
  go_enter Try.func65, Try.ntmps65
  go_wp2
  rw [← hw1]
  have HW1 := Lib.hid hw1
  clear hw1
  have hc1 := octetE_mid (o := 2) (v := q.err) HM1.out.drew 16 rfl (by have := HK.out; omega)
  cases hq1 : octW S q.err 16 with
  | none =>
    rw [hq1] at hc1
    have HRN : Hid (R = none) := by rw [Lib.hid_eq, HR.out]; simp only [gErr, hq1, Option.map_none]
    have HC := Lib.hid hc1
    clear hc1
    go_region_dies
    all_goals
      refine HC.out.mono ?_
      rintro e w2 ⟨hb, rfl⟩
      exact ⟨rfl, HE.out _ _ _ (by rw [HRN.out]; exact ⟨hb, rfl⟩)⟩
  | some p1 =>
    obtain ⟨v1, S1⟩ := p1
    rw [hq1] at hc1
    have HC1 := Lib.hid hc1
    clear hc1
    go_region_law (first
      | (go_simp; refine HC1.out.mono ?_; rintro e w2 ⟨rfl, hm2⟩; obtain ⟨a2, b2⟩ := HB.out _ _ _ _ hm2; have HM2 := Lib.hid hm2; clear hm2; dsimp only))
    all_goals
      go_wp2
      go_end0
      exact HE.out _ _ _ (by rw [HR.out]; simp only [gErr, hq1, Option.map_some]; exact ⟨rfl, HM2.out⟩)
set_option maxHeartbeats 1000000 in
set_option maxRecDepth 100000 in
theorem sfloor_bx {f1 f2 : FuncId} {P g M : Nat} {F : Nat → Prop} {w : World} {S : Wi} {K : Nat} {q : Rs} {mv : Value} (h : BAt f1 f2 w P g F S M 47 (RsC q mv) K)  (hK : K ≤ 999000) :
    Calls Try.prog 66 #[wv f1 f2 P, .pointer (some ⟨M, 0, none⟩)] w (BxTo f1 f2 P g M 47 F w (K + 8) ((gFloor q S).map fun p => (RsC p.1 mv, p.2))) := by
  obtain ⟨w1, hw1⟩ : ∃ w1, w1 = w.alloc (wbox f1 f2 P) := ⟨_, rfl⟩
  have hm1 := (h.below ((Below.refl _ _).alloc (Nat.le_refl _) (wbox f1 f2 P))).mid
  rw [← hw1] at hm1
  have hend : ∀ w2 e r, BxTo f1 f2 P g M 47 F w1 (K + 8) r e w2 → BxTo f1 f2 P g M 47 F w (K + 8) r e w2 := fun w2 e r hx => BxTo.chain (w := w) (F := F) (by rw [hw1]; exact (But.refl _ w).alloc _) (fun b e => .inl e) hx
  have hown : ∀ c S K w2, Mid f1 f2 P g M 47 F w1 c S K w2 → _ := fun c S K w2 hx => Mid.own hw1 h.wire.lt h.lt hx
  have HK := Lib.hid hK
  have HE := Lib.hid hend
  have HB := Lib.hid hown
  have HM1 := Lib.hid hm1
  obtain ⟨a1, b1⟩ := hown _ _ _ _ hm1
  obtain ⟨R, hR⟩ : ∃ R, R = (gFloor q S).map fun p => (RsC p.1 mv, p.2) := ⟨_, rfl⟩
  rw [← hR]
  have HR := Lib.hid hR
  clear  hK hend hown h hm1 hR
  go_enter Try.func66, Try.ntmps66
  go_wp2
  rw [← hw1]
  have HW1 := Lib.hid hw1
  clear hw1
  have hc1 := whole_mid (o := 3) (v := q.floor) HM1.out.drew rfl (by have := HK.out; omega)
  cases hq1 : wholeW S q.floor with
  | none =>
    rw [hq1] at hc1
    have HRN : Hid (R = none) := by rw [Lib.hid_eq, HR.out]; simp only [gFloor, hq1, Option.map_none]
    have HC := Lib.hid hc1
    clear hc1
    go_region_dies
    all_goals
      refine HC.out.mono ?_
      rintro e w2 ⟨hb, rfl⟩
      exact ⟨rfl, HE.out _ _ _ (by rw [HRN.out]; exact ⟨hb, rfl⟩)⟩
  | some p1 =>
    obtain ⟨v1, S1⟩ := p1
    rw [hq1] at hc1
    have HC1 := Lib.hid hc1
    clear hc1
    go_region_law (first
      | (go_simp; refine HC1.out.mono ?_; rintro e w2 ⟨rfl, hm2⟩; obtain ⟨a2, b2⟩ := HB.out _ _ _ _ hm2; have HM2 := Lib.hid hm2; clear hm2; dsimp only))
    all_goals
      go_wp2
      go_end0
      exact HE.out _ _ _ (by rw [HR.out]; simp only [gFloor, hq1, Option.map_some]; exact ⟨rfl, HM2.out⟩)
set_option maxHeartbeats 1000000 in
set_option maxRecDepth 100000 in
theorem srecord_bx {f1 f2 : FuncId} {P g M : Nat} {F : Nat → Prop} {w : World} {S : Wi} {K : Nat} {q : Rs} {mv : Value} (h : BAt f1 f2 w P g F S M 47 (RsC q mv) K)  (hK : K ≤ 999000) :
    Calls Try.prog 68 #[wv f1 f2 P, .pointer (some ⟨M, 0, none⟩)] w (BxTo f1 f2 P g M 47 F w (K + 48) ((gRecord q S).map fun p => (RsC p.1 mv, p.2))) := by
  obtain ⟨w1, hw1⟩ : ∃ w1, w1 = w.alloc (wbox f1 f2 P) := ⟨_, rfl⟩
  have hm1 := (h.below ((Below.refl _ _).alloc (Nat.le_refl _) (wbox f1 f2 P))).mid
  rw [← hw1] at hm1
  have hend : ∀ w2 e r, BxTo f1 f2 P g M 47 F w1 (K + 48) r e w2 → BxTo f1 f2 P g M 47 F w (K + 48) r e w2 := fun w2 e r hx => BxTo.chain (w := w) (F := F) (by rw [hw1]; exact (But.refl _ w).alloc _) (fun b e => .inl e) hx
  have hown : ∀ c S K w2, Mid f1 f2 P g M 47 F w1 c S K w2 → _ := fun c S K w2 hx => Mid.own hw1 h.wire.lt h.lt hx
  have HK := Lib.hid hK
  have HE := Lib.hid hend
  have HB := Lib.hid hown
  have HM1 := Lib.hid hm1
  obtain ⟨a1, b1⟩ := hown _ _ _ _ hm1
  obtain ⟨R, hR⟩ : ∃ R, R = (gRecord q S).map fun p => (RsC p.1 mv, p.2) := ⟨_, rfl⟩
  rw [← hR]
  have HR := Lib.hid hR
  clear  hK hend hown h hm1 hR
  go_enter Try.func68, Try.ntmps68
  go_wp2
  rw [← hw1]
  have HW1 := Lib.hid hw1
  clear hw1
  have hc1 := key_mid (o := 5) (t := q.rt) (og := q.ro) (sq := q.rs) HM1.out.drew rfl rfl rfl (by have := HK.out; omega)
  cases hq1 : keyV S q.rt q.ro q.rs with
  | none =>
    rw [hq1] at hc1
    have HRN : Hid (R = none) := by rw [Lib.hid_eq, HR.out]; simp only [gRecord, hq1, Option.map_none, Option.bind_none]
    have HC := Lib.hid hc1
    clear hc1
    go_region_dies
    all_goals
      refine HC.out.mono ?_
      rintro e w2 ⟨hb, rfl⟩
      exact ⟨rfl, HE.out _ _ _ (by rw [HRN.out]; exact ⟨hb, rfl⟩)⟩
  | some p1 =>
    obtain ⟨v1, S1⟩ := p1
    rw [hq1] at hc1
    have HC1 := Lib.hid hc1
    clear hc1
    go_region_law (first
      | (go_simp; refine HC1.out.mono ?_; rintro e w2 ⟨rfl, hm2⟩; obtain ⟨a2, b2⟩ := HB.out _ _ _ _ hm2; have HM2 := Lib.hid hm2; clear hm2; dsimp only))
    all_goals
      go_wp2
      have hc2 := octet_mid (o := 8) (v := q.rp) HM2.out.drew 255 rfl (by have := HK.out; omega)
      cases hq2 : octW S1 q.rp 255 with
      | none =>
        rw [hq2] at hc2
        have HRN : Hid (R = none) := by rw [Lib.hid_eq, HR.out]; simp only [gRecord, hq1, hq2, Option.map_none, Option.bind_some, Option.bind_none]
        have HC := Lib.hid hc2
        clear hc2
        go_region_dies
        all_goals
          refine HC.out.mono ?_
          rintro e w2 ⟨hb, rfl⟩
          exact ⟨rfl, HE.out _ _ _ (by rw [HRN.out]; exact ⟨hb, rfl⟩)⟩
      | some p2 =>
        obtain ⟨v2, S2⟩ := p2
        rw [hq2] at hc2
        have HC2 := Lib.hid hc2
        clear hc2
        go_region_law (first
          | (go_simp; refine HC2.out.mono ?_; rintro e w3 ⟨rfl, hm3⟩; obtain ⟨a3, b3⟩ := HB.out _ _ _ _ hm3; have HM3 := Lib.hid hm3; clear hm3; dsimp only))
        all_goals
          go_wp2
          have hc3 := octet_mid (o := 9) (v := q.rn) HM3.out.drew 255 rfl (by have := HK.out; omega)
          cases hq3 : octW S2 q.rn 255 with
          | none =>
            rw [hq3] at hc3
            have HRN : Hid (R = none) := by rw [Lib.hid_eq, HR.out]; simp only [gRecord, hq1, hq2, hq3, Option.map_none, Option.bind_some, Option.bind_none]
            have HC := Lib.hid hc3
            clear hc3
            go_region_dies
            all_goals
              refine HC.out.mono ?_
              rintro e w2 ⟨hb, rfl⟩
              exact ⟨rfl, HE.out _ _ _ (by rw [HRN.out]; exact ⟨hb, rfl⟩)⟩
          | some p3 =>
            obtain ⟨v3, S3⟩ := p3
            rw [hq3] at hc3
            have HC3 := Lib.hid hc3
            clear hc3
            go_region_law (first
              | (go_simp; refine HC3.out.mono ?_; rintro e w4 ⟨rfl, hm4⟩; obtain ⟨a4, b4⟩ := HB.out _ _ _ _ hm4; have HM4 := Lib.hid hm4; clear hm4; dsimp only))
            all_goals
              go_wp2
              have hc4 := whole_mid (o := 10) (v := q.rv) HM4.out.drew rfl (by have := HK.out; omega)
              cases hq4 : wholeW S3 q.rv with
              | none =>
                rw [hq4] at hc4
                have HRN : Hid (R = none) := by rw [Lib.hid_eq, HR.out]; simp only [gRecord, hq1, hq2, hq3, hq4, Option.map_none, Option.bind_some]
                have HC := Lib.hid hc4
                clear hc4
                go_region_dies
                all_goals
                  refine HC.out.mono ?_
                  rintro e w2 ⟨hb, rfl⟩
                  exact ⟨rfl, HE.out _ _ _ (by rw [HRN.out]; exact ⟨hb, rfl⟩)⟩
              | some p4 =>
                obtain ⟨v4, S4⟩ := p4
                rw [hq4] at hc4
                have HC4 := Lib.hid hc4
                clear hc4
                go_region_law (first
                  | (go_simp; refine HC4.out.mono ?_; rintro e w5 ⟨rfl, hm5⟩; obtain ⟨a5, b5⟩ := HB.out _ _ _ _ hm5; have HM5 := Lib.hid hm5; clear hm5; dsimp only))
                all_goals
                  go_wp2
                  go_end0
                  exact HE.out _ _ _ (by rw [HR.out]; simp only [gRecord, hq1, hq2, hq3, hq4, Option.map_some, Option.bind_some]; exact ⟨rfl, HM5.out⟩)
set_option maxHeartbeats 1000000 in
set_option maxRecDepth 100000 in
theorem sevent_bx {f1 f2 : FuncId} {P g M : Nat} {F : Nat → Prop} {w : World} {S : Wi} {K : Nat} {q : Rs} {mv : Value} (h : BAt f1 f2 w P g F S M 47 (RsC q mv) K)  (hK : K ≤ 999000) :
    Calls Try.prog 70 #[wv f1 f2 P, .pointer (some ⟨M, 0, none⟩)] w (BxTo f1 f2 P g M 47 F w (K + 48) ((gEvent q S).map fun p => (RsC p.1 mv, p.2))) := by
  obtain ⟨w1, hw1⟩ : ∃ w1, w1 = w.alloc (wbox f1 f2 P) := ⟨_, rfl⟩
  have hm1 := (h.below ((Below.refl _ _).alloc (Nat.le_refl _) (wbox f1 f2 P))).mid
  rw [← hw1] at hm1
  have hend : ∀ w2 e r, BxTo f1 f2 P g M 47 F w1 (K + 48) r e w2 → BxTo f1 f2 P g M 47 F w (K + 48) r e w2 := fun w2 e r hx => BxTo.chain (w := w) (F := F) (by rw [hw1]; exact (But.refl _ w).alloc _) (fun b e => .inl e) hx
  have hown : ∀ c S K w2, Mid f1 f2 P g M 47 F w1 c S K w2 → _ := fun c S K w2 hx => Mid.own hw1 h.wire.lt h.lt hx
  have HK := Lib.hid hK
  have HE := Lib.hid hend
  have HB := Lib.hid hown
  have HM1 := Lib.hid hm1
  obtain ⟨a1, b1⟩ := hown _ _ _ _ hm1
  obtain ⟨R, hR⟩ : ∃ R, R = (gEvent q S).map fun p => (RsC p.1 mv, p.2) := ⟨_, rfl⟩
  rw [← hR]
  have HR := Lib.hid hR
  clear  hK hend hown h hm1 hR
  go_enter Try.func70, Try.ntmps70
  go_wp2
  rw [← hw1]
  have HW1 := Lib.hid hw1
  clear hw1
  have hc1 := key_mid (o := 12) (t := q.time) (og := q.org) (sq := q.seq) HM1.out.drew rfl rfl rfl (by have := HK.out; omega)
  cases hq1 : keyV S q.time q.org q.seq with
  | none =>
    rw [hq1] at hc1
    have HRN : Hid (R = none) := by rw [Lib.hid_eq, HR.out]; simp only [gEvent, hq1, Option.map_none, Option.bind_none]
    have HC := Lib.hid hc1
    clear hc1
    go_region_dies
    all_goals
      refine HC.out.mono ?_
      rintro e w2 ⟨hb, rfl⟩
      exact ⟨rfl, HE.out _ _ _ (by rw [HRN.out]; exact ⟨hb, rfl⟩)⟩
  | some p1 =>
    obtain ⟨v1, S1⟩ := p1
    rw [hq1] at hc1
    have HC1 := Lib.hid hc1
    clear hc1
    go_region_law (first
      | (go_simp; refine HC1.out.mono ?_; rintro e w2 ⟨rfl, hm2⟩; obtain ⟨a2, b2⟩ := HB.out _ _ _ _ hm2; have HM2 := Lib.hid hm2; clear hm2; dsimp only))
    all_goals
      go_wp2
      have hc2 := content_mid (o := 12) (pt := q.pt) (ek := q.ek) (d := q.dat) HM2.out.drew rfl rfl rfl (by have := HK.out; omega)
      cases hq2 : contentV S1 q.pt q.ek q.dat with
      | none =>
        rw [hq2] at hc2
        have HRN : Hid (R = none) := by rw [Lib.hid_eq, HR.out]; simp only [gEvent, hq1, hq2, Option.map_none, Option.bind_some]
        have HC := Lib.hid hc2
        clear hc2
        go_region_dies
        all_goals
          refine HC.out.mono ?_
          rintro e w2 ⟨hb, rfl⟩
          exact ⟨rfl, HE.out _ _ _ (by rw [HRN.out]; exact ⟨hb, rfl⟩)⟩
      | some p2 =>
        obtain ⟨v2, S2⟩ := p2
        rw [hq2] at hc2
        have HC2 := Lib.hid hc2
        clear hc2
        go_region_law (first
          | (go_simp; refine HC2.out.mono ?_; rintro e w3 ⟨rfl, hm3⟩; obtain ⟨a3, b3⟩ := HB.out _ _ _ _ hm3; have HM3 := Lib.hid hm3; clear hm3; dsimp only))
        all_goals
          go_wp2
          go_end0
          exact HE.out _ _ _ (by rw [HR.out]; simp only [gEvent, hq1, hq2, Option.map_some, Option.bind_some]; exact ⟨rfl, HM3.out⟩)
end Go.Proofs.Ytdpfmaikijilkaa
