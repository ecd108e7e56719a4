/-
  The walks of the fields of requests, but a model's.
-/
import Derived.Test.YtdpfmaikijilkaaW9
namespace Go.Proofs.Ytdpfmaikijilkaa
open Go Go.RowKit Go.Sort Go.Proofs

/-- a request, as numbers and bytes -/
structure Rq where
  kind : Int
  id : Int
  ver : Int
  model : List UInt8
  time : Int
  org : Int
  seq : Int
  pt : Int
  ek : Int
  dat : Int
  num : Int
  bp : Int
  bk : Int
  bt : Int
  pr : Int
  nm : Int
  dn : Int
/-- .. its cells, with the model's slice -/
def RqC (q : Rq) (mv : Value) : Array Value := #[.int .i64 q.kind, .int .u32 q.id, .int .i64 q.ver, mv, .int .i64 q.time, .int .i64 q.org, .int .i64 q.seq, .int .i64 q.pt, .int .i64 q.ek, .int .i64 q.dat,
  .int .u32 q.num, .int .i64 q.bp, .int .i64 q.bk, .int .i64 q.bt, .int .i64 q.pr, .int .i64 q.nm, .int .i64 q.dn]
/-- what passes of it -/
abbrev FldQ := Rq → Wi → Option (Rq × Wi)
def fID : FldQ := fun q S => (wordW S q.id).map fun p => ({ q with id := p.1 }, p.2)
def fNum : FldQ := fun q S => (wordW S q.num).map fun p => ({ q with num := p.1 }, p.2)
def fVer : FldQ := fun q S => (octW S q.ver 255).map fun p => ({ q with ver := p.1 }, p.2)
def fProc : FldQ := fun q S => (octW S q.pr 255).map fun p => ({ q with pr := p.1 }, p.2)
def fModel : FldQ := fun q S => (S.rest q.model).map fun p => ({ q with model := p.1 }, p.2)
def fEvent : FldQ := fun q S => (wholeW S q.time).bind fun p1 => (contentV p1.2 q.pt q.ek q.dat).map fun p2 => ({ q with time := p1.1, pt := p2.1.1, ek := p2.1.2.1, dat := p2.1.2.2 }, p2.2)
def fBreak : FldQ := fun q S => (octW S q.bp 255).bind fun p1 => (anyW p1.2 q.bk).bind fun p2 => (wholeW p2.2 q.bt).map fun p3 => ({ q with bp := p1.1, bk := p2.1, bt := p3.1 }, p3.2)
def fRate : FldQ := fun q S => (wholeW S q.nm).bind fun p1 => (wholeW p1.2 q.dn).map fun p2 => ({ q with nm := p1.1, dn := p2.1 }, p2.2)
set_option maxHeartbeats 1000000 in
set_option maxRecDepth 100000 in
theorem id_bx {f1 f2 : FuncId} {P g M : Nat} {F : Nat → Prop} {w : World} {S : Wi} {K : Nat} {q : Rq} {mv : Value} (h : BAt f1 f2 w P g F S M 32 (RqC q mv) K) (hu : U32 q.id) (hK : K ≤ 999000) :
    Calls Try.prog 52 #[wv f1 f2 P, .pointer (some ⟨M, 0, none⟩)] w (BxTo f1 f2 P g M 32 F w (K + 8) ((fID q S).map fun p => (RqC p.1 mv, p.2))) := by
  obtain ⟨w1, hw1⟩ : ∃ w1, w1 = w.alloc (wbox f1 f2 P) := ⟨_, rfl⟩
  have hm1 := (h.below ((Below.refl _ _).alloc (Nat.le_refl _) (wbox f1 f2 P))).mid
  rw [← hw1] at hm1
  have hend : ∀ w2 e r, BxTo f1 f2 P g M 32 F w1 (K + 8) r e w2 → BxTo f1 f2 P g M 32 F w (K + 8) r e w2 := fun w2 e r hx => BxTo.chain (w := w) (F := F) (by rw [hw1]; exact (But.refl _ w).alloc _) (fun b e => .inl e) hx
  have hown : ∀ c S K w2, Mid f1 f2 P g M 32 F w1 c S K w2 → _ := fun c S K w2 hx => Mid.own hw1 h.wire.lt h.lt hx
  have HK := Lib.hid hK
  have HUc := Lib.hid hu
  have HE := Lib.hid hend
  have HB := Lib.hid hown
  have HM1 := Lib.hid hm1
  obtain ⟨a1, b1⟩ := hown _ _ _ _ hm1
  obtain ⟨R, hR⟩ : ∃ R, R = (fID q S).map fun p => (RqC p.1 mv, p.2) := ⟨_, rfl⟩
  rw [← hR]
  have HR := Lib.hid hR
  clear hu hK hend hown h hm1 hR
  go_enter Try.func52, Try.ntmps52
  go_wp2
  rw [← hw1]
  have HW1 := Lib.hid hw1
  clear hw1
  have hc1 := word_mid (o := 1) (v := q.id) HM1.out.drew rfl HUc.out (by have := HK.out; omega)
  cases hq1 : wordW S q.id with
  | none =>
    rw [hq1] at hc1
    have HRN : Hid (R = none) := by rw [Lib.hid_eq, HR.out]; simp only [fID, hq1, Option.map_none]
    have HC := Lib.hid hc1
    clear hc1
    go_region_dies
    all_goals
      refine HC.out.mono ?_
      rintro e w2 ⟨hb, rfl⟩
      exact ⟨rfl, HE.out _ _ _ (by rw [HRN.out]; exact ⟨hb, rfl⟩)⟩
  | some p1 =>
    obtain ⟨v1, S1⟩ := p1
    rw [hq1] at hc1
    have HC1 := Lib.hid hc1
    clear hc1
    go_region_law (first
      | (go_simp; refine HC1.out.mono ?_; rintro e w2 ⟨rfl, hm2⟩; obtain ⟨a2, b2⟩ := HB.out _ _ _ _ hm2; have HM2 := Lib.hid hm2; clear hm2; dsimp only))
    all_goals
      go_wp2
      go_end0
      exact HE.out _ _ _ (by rw [HR.out]; simp only [fID, hq1, Option.map_some]; exact ⟨rfl, HM2.out⟩)
set_option maxHeartbeats 1000000 in
set_option maxRecDepth 100000 in
theorem num_bx {f1 f2 : FuncId} {P g M : Nat} {F : Nat → Prop} {w : World} {S : Wi} {K : Nat} {q : Rq} {mv : Value} (h : BAt f1 f2 w P g F S M 32 (RqC q mv) K) (hu : U32 q.num) (hK : K ≤ 999000) :
    Calls Try.prog 56 #[wv f1 f2 P, .pointer (some ⟨M, 0, none⟩)] w (BxTo f1 f2 P g M 32 F w (K + 8) ((fNum q S).map fun p => (RqC p.1 mv, p.2))) := by
  obtain ⟨w1, hw1⟩ : ∃ w1, w1 = w.alloc (wbox f1 f2 P) := ⟨_, rfl⟩
  have hm1 := (h.below ((Below.refl _ _).alloc (Nat.le_refl _) (wbox f1 f2 P))).mid
  rw [← hw1] at hm1
  have hend : ∀ w2 e r, BxTo f1 f2 P g M 32 F w1 (K + 8) r e w2 → BxTo f1 f2 P g M 32 F w (K + 8) r e w2 := fun w2 e r hx => BxTo.chain (w := w) (F := F) (by rw [hw1]; exact (But.refl _ w).alloc _) (fun b e => .inl e) hx
  have hown : ∀ c S K w2, Mid f1 f2 P g M 32 F w1 c S K w2 → _ := fun c S K w2 hx => Mid.own hw1 h.wire.lt h.lt hx
  have HK := Lib.hid hK
  have HUc := Lib.hid hu
  have HE := Lib.hid hend
  have HB := Lib.hid hown
  have HM1 := Lib.hid hm1
  obtain ⟨a1, b1⟩ := hown _ _ _ _ hm1
  obtain ⟨R, hR⟩ : ∃ R, R = (fNum q S).map fun p => (RqC p.1 mv, p.2) := ⟨_, rfl⟩
  rw [← hR]
  have HR := Lib.hid hR
  clear hu hK hend hown h hm1 hR
  go_enter Try.func56, Try.ntmps56
  go_wp2
  rw [← hw1]
  have HW1 := Lib.hid hw1
  clear hw1
  have hc1 := word_mid (o := 10) (v := q.num) HM1.out.drew rfl HUc.out (by have := HK.out; omega)
  cases hq1 : wordW S q.num with
  | none =>
    rw [hq1] at hc1
    have HRN : Hid (R = none) := by rw [Lib.hid_eq, HR.out]; simp only [fNum, hq1, Option.map_none]
    have HC := Lib.hid hc1
    clear hc1
    go_region_dies
    all_goals
      refine HC.out.mono ?_
      rintro e w2 ⟨hb, rfl⟩
      exact ⟨rfl, HE.out _ _ _ (by rw [HRN.out]; exact ⟨hb, rfl⟩)⟩
  | some p1 =>
    obtain ⟨v1, S1⟩ := p1
    rw [hq1] at hc1
    have HC1 := Lib.hid hc1
    clear hc1
    go_region_law (first
      | (go_simp; refine HC1.out.mono ?_; rintro e w2 ⟨rfl, hm2⟩; obtain ⟨a2, b2⟩ := HB.out _ _ _ _ hm2; have HM2 := Lib.hid hm2; clear hm2; dsimp only))
    all_goals
      go_wp2
      go_end0
      exact HE.out _ _ _ (by rw [HR.out]; simp only [fNum, hq1, Option.map_some]; exact ⟨rfl, HM2.out⟩)
set_option maxHeartbeats 1000000 in
set_option maxRecDepth 100000 in
theorem ver_bx {f1 f2 : FuncId} {P g M : Nat} {F : Nat → Prop} {w : World} {S : Wi} {K : Nat} {q : Rq} {mv : Value} (h : BAt f1 f2 w P g F S M 32 (RqC q mv) K)  (hK : K ≤ 999000) :
    Calls Try.prog 53 #[wv f1 f2 P, .pointer (some ⟨M, 0, none⟩)] w (BxTo f1 f2 P g M 32 F w (K + 8) ((fVer q S).map fun p => (RqC p.1 mv, p.2))) := by
  obtain ⟨w1, hw1⟩ : ∃ w1, w1 = w.alloc (wbox f1 f2 P) := ⟨_, rfl⟩
  have hm1 := (h.below ((Below.refl _ _).alloc (Nat.le_refl _) (wbox f1 f2 P))).mid
  rw [← hw1] at hm1
  have hend : ∀ w2 e r, BxTo f1 f2 P g M 32 F w1 (K + 8) r e w2 → BxTo f1 f2 P g M 32 F w (K + 8) r e w2 := fun w2 e r hx => BxTo.chain (w := w) (F := F) (by rw [hw1]; exact (But.refl _ w).alloc _) (fun b e => .inl e) hx
  have hown : ∀ c S K w2, Mid f1 f2 P g M 32 F w1 c S K w2 → _ := fun c S K w2 hx => Mid.own hw1 h.wire.lt h.lt hx
  have HK := Lib.hid hK
  have HE := Lib.hid hend
  have HB := Lib.hid hown
  have HM1 := Lib.hid hm1
  obtain ⟨a1, b1⟩ := hown _ _ _ _ hm1
  obtain ⟨R, hR⟩ : ∃ R, R = (fVer q S).map fun p => (RqC p.1 mv, p.2) := ⟨_, rfl⟩
  rw [← hR]
  have HR := Lib.hid hR
  clear  hK hend hown h hm1 hR
  go_enter Try.func53, Try.ntmps53
  go_wp2
  rw [← hw1]
  have HW1 := Lib.hid hw1
  clear hw1
  have hc1 := octet_mid (o := 2) (v := q.ver) HM1.out.drew 255 rfl (by have := HK.out; omega)
  cases hq1 : octW S q.ver 255 with
  | none =>
    rw [hq1] at hc1
    have HRN : Hid (R = none) := by rw [Lib.hid_eq, HR.out]; simp only [fVer, hq1, Option.map_none]
    have HC := Lib.hid hc1
    clear hc1
    go_region_dies
    all_goals
      refine HC.out.mono ?_
      rintro e w2 ⟨hb, rfl⟩
      exact ⟨rfl, HE.out _ _ _ (by rw [HRN.out]; exact ⟨hb, rfl⟩)⟩
  | some p1 =>
    obtain ⟨v1, S1⟩ := p1
    rw [hq1] at hc1
    have HC1 := Lib.hid hc1
    clear hc1
    go_region_law (first
      | (go_simp; refine HC1.out.mono ?_; rintro e w2 ⟨rfl, hm2⟩; obtain ⟨a2, b2⟩ := HB.out _ _ _ _ hm2; have HM2 := Lib.hid hm2; clear hm2; dsimp only))
    all_goals
      go_wp2
      go_end0
      exact HE.out _ _ _ (by rw [HR.out]; simp only [fVer, hq1, Option.map_some]; exact ⟨rfl, HM2.out⟩)
set_option maxHeartbeats 1000000 in
set_option maxRecDepth 100000 in
theorem proc_bx {f1 f2 : FuncId} {P g M : Nat} {F : Nat → Prop} {w : World} {S : Wi} {K : Nat} {q : Rq} {mv : Value} (h : BAt f1 f2 w P g F S M 32 (RqC q mv) K)  (hK : K ≤ 999000) :
    Calls Try.prog 58 #[wv f1 f2 P, .pointer (some ⟨M, 0, none⟩)] w (BxTo f1 f2 P g M 32 F w (K + 8) ((fProc q S).map fun p => (RqC p.1 mv, p.2))) := by
  obtain ⟨w1, hw1⟩ : ∃ w1, w1 = w.alloc (wbox f1 f2 P) := ⟨_, rfl⟩
  have hm1 := (h.below ((Below.refl _ _).alloc (Nat.le_refl _) (wbox f1 f2 P))).mid
  rw [← hw1] at hm1
  have hend : ∀ w2 e r, BxTo f1 f2 P g M 32 F w1 (K + 8) r e w2 → BxTo f1 f2 P g M 32 F w (K + 8) r e w2 := fun w2 e r hx => BxTo.chain (w := w) (F := F) (by rw [hw1]; exact (But.refl _ w).alloc _) (fun b e => .inl e) hx
  have hown : ∀ c S K w2, Mid f1 f2 P g M 32 F w1 c S K w2 → _ := fun c S K w2 hx => Mid.own hw1 h.wire.lt h.lt hx
  have HK := Lib.hid hK
  have HE := Lib.hid hend
  have HB := Lib.hid hown
  have HM1 := Lib.hid hm1
  obtain ⟨a1, b1⟩ := hown _ _ _ _ hm1
  obtain ⟨R, hR⟩ : ∃ R, R = (fProc q S).map fun p => (RqC p.1 mv, p.2) := ⟨_, rfl⟩
  rw [← hR]
  have HR := Lib.hid hR
  clear  hK hend hown h hm1 hR
  go_enter Try.func58, Try.ntmps58
  go_wp2
  rw [← hw1]
  have HW1 := Lib.hid hw1
  clear hw1
  have hc1 := octet_mid (o := 14) (v := q.pr) HM1.out.drew 255 rfl (by have := HK.out; omega)
  cases hq1 : octW S q.pr 255 with
  | none =>
    rw [hq1] at hc1
    have HRN : Hid (R = none) := by rw [Lib.hid_eq, HR.out]; simp only [fProc, hq1, Option.map_none]
    have HC := Lib.hid hc1
    clear hc1
    go_region_dies
    all_goals
      refine HC.out.mono ?_
      rintro e w2 ⟨hb, rfl⟩
      exact ⟨rfl, HE.out _ _ _ (by rw [HRN.out]; exact ⟨hb, rfl⟩)⟩
  | some p1 =>
    obtain ⟨v1, S1⟩ := p1
    rw [hq1] at hc1
    have HC1 := Lib.hid hc1
    clear hc1
    go_region_law (first
      | (go_simp; refine HC1.out.mono ?_; rintro e w2 ⟨rfl, hm2⟩; obtain ⟨a2, b2⟩ := HB.out _ _ _ _ hm2; have HM2 := Lib.hid hm2; clear hm2; dsimp only))
    all_goals
      go_wp2
      go_end0
      exact HE.out _ _ _ (by rw [HR.out]; simp only [fProc, hq1, Option.map_some]; exact ⟨rfl, HM2.out⟩)
set_option maxHeartbeats 1000000 in
set_option maxRecDepth 100000 in
theorem event_bx {f1 f2 : FuncId} {P g M : Nat} {F : Nat → Prop} {w : World} {S : Wi} {K : Nat} {q : Rq} {mv : Value} (h : BAt f1 f2 w P g F S M 32 (RqC q mv) K)  (hK : K ≤ 999000) :
    Calls Try.prog 55 #[wv f1 f2 P, .pointer (some ⟨M, 0, none⟩)] w (BxTo f1 f2 P g M 32 F w (K + 32) ((fEvent q S).map fun p => (RqC p.1 mv, p.2))) := by
  obtain ⟨w1, hw1⟩ : ∃ w1, w1 = w.alloc (wbox f1 f2 P) := ⟨_, rfl⟩
  have hm1 := (h.below ((Below.refl _ _).alloc (Nat.le_refl _) (wbox f1 f2 P))).mid
  rw [← hw1] at hm1
  have hend : ∀ w2 e r, BxTo f1 f2 P g M 32 F w1 (K + 32) r e w2 → BxTo f1 f2 P g M 32 F w (K + 32) r e w2 := fun w2 e r hx => BxTo.chain (w := w) (F := F) (by rw [hw1]; exact (But.refl _ w).alloc _) (fun b e => .inl e) hx
  have hown : ∀ c S K w2, Mid f1 f2 P g M 32 F w1 c S K w2 → _ := fun c S K w2 hx => Mid.own hw1 h.wire.lt h.lt hx
  have HK := Lib.hid hK
  have HE := Lib.hid hend
  have HB := Lib.hid hown
  have HM1 := Lib.hid hm1
  obtain ⟨a1, b1⟩ := hown _ _ _ _ hm1
  obtain ⟨R, hR⟩ : ∃ R, R = (fEvent q S).map fun p => (RqC p.1 mv, p.2) := ⟨_, rfl⟩
  rw [← hR]
  have HR := Lib.hid hR
  clear  hK hend hown h hm1 hR
  go_enter Try.func55, Try.ntmps55
  go_wp2
  rw [← hw1]
  have HW1 := Lib.hid hw1
  clear hw1
  have hc1 := whole_mid (o := 4) (v := q.time) HM1.out.drew rfl (by have := HK.out; omega)
  cases hq1 : wholeW S q.time with
  | none =>
    rw [hq1] at hc1
    have HRN : Hid (R = none) := by rw [Lib.hid_eq, HR.out]; simp only [fEvent, hq1, Option.map_none, Option.bind_none]
    have HC := Lib.hid hc1
    clear hc1
    go_region_dies
    all_goals
      refine HC.out.mono ?_
      rintro e w2 ⟨hb, rfl⟩
      exact ⟨rfl, HE.out _ _ _ (by rw [HRN.out]; exact ⟨hb, rfl⟩)⟩
  | some p1 =>
    obtain ⟨v1, S1⟩ := p1
    rw [hq1] at hc1
    have HC1 := Lib.hid hc1
    clear hc1
    go_region_law (first
      | (go_simp; refine HC1.out.mono ?_; rintro e w2 ⟨rfl, hm2⟩; obtain ⟨a2, b2⟩ := HB.out _ _ _ _ hm2; have HM2 := Lib.hid hm2; clear hm2; dsimp only))
    all_goals
      go_wp2
      have hc2 := content_mid (o := 4) (pt := q.pt) (ek := q.ek) (d := q.dat) HM2.out.drew rfl rfl rfl (by have := HK.out; omega)
      cases hq2 : contentV S1 q.pt q.ek q.dat with
      | none =>
        rw [hq2] at hc2
        have HRN : Hid (R = none) := by rw [Lib.hid_eq, HR.out]; simp only [fEvent, hq1, hq2, Option.map_none, Option.bind_some]
        have HC := Lib.hid hc2
        clear hc2
        go_region_dies
        all_goals
          refine HC.out.mono ?_
          rintro e w2 ⟨hb, rfl⟩
          exact ⟨rfl, HE.out _ _ _ (by rw [HRN.out]; exact ⟨hb, rfl⟩)⟩
      | some p2 =>
        obtain ⟨v2, S2⟩ := p2
        rw [hq2] at hc2
        have HC2 := Lib.hid hc2
        clear hc2
        go_region_law (first
          | (go_simp; refine HC2.out.mono ?_; rintro e w3 ⟨rfl, hm3⟩; obtain ⟨a3, b3⟩ := HB.out _ _ _ _ hm3; have HM3 := Lib.hid hm3; clear hm3; dsimp only))
        all_goals
          go_wp2
          go_end0
          exact HE.out _ _ _ (by rw [HR.out]; simp only [fEvent, hq1, hq2, Option.map_some, Option.bind_some]; exact ⟨rfl, HM3.out⟩)
set_option maxHeartbeats 1000000 in
set_option maxRecDepth 100000 in
theorem break_bx {f1 f2 : FuncId} {P g M : Nat} {F : Nat → Prop} {w : World} {S : Wi} {K : Nat} {q : Rq} {mv : Value} (h : BAt f1 f2 w P g F S M 32 (RqC q mv) K)  (hK : K ≤ 999000) :
    Calls Try.prog 57 #[wv f1 f2 P, .pointer (some ⟨M, 0, none⟩)] w (BxTo f1 f2 P g M 32 F w (K + 24) ((fBreak q S).map fun p => (RqC p.1 mv, p.2))) := by
  obtain ⟨w1, hw1⟩ : ∃ w1, w1 = w.alloc (wbox f1 f2 P) := ⟨_, rfl⟩
  have hm1 := (h.below ((Below.refl _ _).alloc (Nat.le_refl _) (wbox f1 f2 P))).mid
  rw [← hw1] at hm1
  have hend : ∀ w2 e r, BxTo f1 f2 P g M 32 F w1 (K + 24) r e w2 → BxTo f1 f2 P g M 32 F w (K + 24) r e w2 := fun w2 e r hx => BxTo.chain (w := w) (F := F) (by rw [hw1]; exact (But.refl _ w).alloc _) (fun b e => .inl e) hx
  have hown : ∀ c S K w2, Mid f1 f2 P g M 32 F w1 c S K w2 → _ := fun c S K w2 hx => Mid.own hw1 h.wire.lt h.lt hx
  have HK := Lib.hid hK
  have HE := Lib.hid hend
  have HB := Lib.hid hown
  have HM1 := Lib.hid hm1
  obtain ⟨a1, b1⟩ := hown _ _ _ _ hm1
  obtain ⟨R, hR⟩ : ∃ R, R = (fBreak q S).map fun p => (RqC p.1 mv, p.2) := ⟨_, rfl⟩
  rw [← hR]
  have HR := Lib.hid hR
  clear  hK hend hown h hm1 hR
  go_enter Try.func57, Try.ntmps57
  go_wp2
  rw [← hw1]
  have HW1 := Lib.hid hw1
  clear hw1
  have hc1 := octet_mid (o := 11) (v := q.bp) HM1.out.drew 255 rfl (by have := HK.out; omega)
  cases hq1 : octW S q.bp 255 with
  | none =>
    rw [hq1] at hc1
    have HRN : Hid (R = none) := by rw [Lib.hid_eq, HR.out]; simp only [fBreak, hq1, Option.map_none, Option.bind_none]
    have HC := Lib.hid hc1
    clear hc1
    go_region_dies
    all_goals
      refine HC.out.mono ?_
      rintro e w2 ⟨hb, rfl⟩
      exact ⟨rfl, HE.out _ _ _ (by rw [HRN.out]; exact ⟨hb, rfl⟩)⟩
  | some p1 =>
    obtain ⟨v1, S1⟩ := p1
    rw [hq1] at hc1
    have HC1 := Lib.hid hc1
    clear hc1
    go_region_law (first
      | (go_simp; refine HC1.out.mono ?_; rintro e w2 ⟨rfl, hm2⟩; obtain ⟨a2, b2⟩ := HB.out _ _ _ _ hm2; have HM2 := Lib.hid hm2; clear hm2; dsimp only))
    all_goals
      go_wp2
      have hc2 := kind_mid (o := 12) (v := q.bk) HM2.out.drew rfl (by have := HK.out; omega)
      cases hq2 : anyW S1 q.bk with
      | none =>
        rw [hq2] at hc2
        have HRN : Hid (R = none) := by rw [Lib.hid_eq, HR.out]; simp only [fBreak, hq1, hq2, Option.map_none, Option.bind_some, Option.bind_none]
        have HC := Lib.hid hc2
        clear hc2
        go_region_dies
        all_goals
          refine HC.out.mono ?_
          rintro e w2 ⟨hb, rfl⟩
          exact ⟨rfl, HE.out _ _ _ (by rw [HRN.out]; exact ⟨hb, rfl⟩)⟩
      | some p2 =>
        obtain ⟨v2, S2⟩ := p2
        rw [hq2] at hc2
        have HC2 := Lib.hid hc2
        clear hc2
        go_region_law (first
          | (go_simp; refine HC2.out.mono ?_; rintro e w3 ⟨rfl, hm3⟩; obtain ⟨a3, b3⟩ := HB.out _ _ _ _ hm3; have HM3 := Lib.hid hm3; clear hm3; dsimp only))
        all_goals
          go_wp2
          have hc3 := whole_mid (o := 13) (v := q.bt) HM3.out.drew rfl (by have := HK.out; omega)
          cases hq3 : wholeW S2 q.bt with
          | none =>
            rw [hq3] at hc3
            have HRN : Hid (R = none) := by rw [Lib.hid_eq, HR.out]; simp only [fBreak, hq1, hq2, hq3, Option.map_none, Option.bind_some]
            have HC := Lib.hid hc3
            clear hc3
            go_region_dies
            all_goals
              refine HC.out.mono ?_
              rintro e w2 ⟨hb, rfl⟩
              exact ⟨rfl, HE.out _ _ _ (by rw [HRN.out]; exact ⟨hb, rfl⟩)⟩
          | some p3 =>
            obtain ⟨v3, S3⟩ := p3
            rw [hq3] at hc3
            have HC3 := Lib.hid hc3
            clear hc3
            go_region_law (first
              | (go_simp; refine HC3.out.mono ?_; rintro e w4 ⟨rfl, hm4⟩; obtain ⟨a4, b4⟩ := HB.out _ _ _ _ hm4; have HM4 := Lib.hid hm4; clear hm4; dsimp only))
            all_goals
              go_wp2
              go_end0
              exact HE.out _ _ _ (by rw [HR.out]; simp only [fBreak, hq1, hq2, hq3, Option.map_some, Option.bind_some]; exact ⟨rfl, HM4.out⟩)
set_option maxHeartbeats 1000000 in
set_option maxRecDepth 100000 in
theorem rate_bx {f1 f2 : FuncId} {P g M : Nat} {F : Nat → Prop} {w : World} {S : Wi} {K : Nat} {q : Rq} {mv : Value} (h : BAt f1 f2 w P g F S M 32 (RqC q mv) K)  (hK : K ≤ 999000) :
    Calls Try.prog 59 #[wv f1 f2 P, .pointer (some ⟨M, 0, none⟩)] w (BxTo f1 f2 P g M 32 F w (K + 16) ((fRate q S).map fun p => (RqC p.1 mv, p.2))) := by
  obtain ⟨w1, hw1⟩ : ∃ w1, w1 = w.alloc (wbox f1 f2 P) := ⟨_, rfl⟩
  have hm1 := (h.below ((Below.refl _ _).alloc (Nat.le_refl _) (wbox f1 f2 P))).mid
  rw [← hw1] at hm1
  have hend : ∀ w2 e r, BxTo f1 f2 P g M 32 F w1 (K + 16) r e w2 → BxTo f1 f2 P g M 32 F w (K + 16) r e w2 := fun w2 e r hx => BxTo.chain (w := w) (F := F) (by rw [hw1]; exact (But.refl _ w).alloc _) (fun b e => .inl e) hx
  have hown : ∀ c S K w2, Mid f1 f2 P g M 32 F w1 c S K w2 → _ := fun c S K w2 hx => Mid.own hw1 h.wire.lt h.lt hx
  have HK := Lib.hid hK
  have HE := Lib.hid hend
  have HB := Lib.hid hown
  have HM1 := Lib.hid hm1
  obtain ⟨a1, b1⟩ := hown _ _ _ _ hm1
  obtain ⟨R, hR⟩ : ∃ R, R = (fRate q S).map fun p => (RqC p.1 mv, p.2) := ⟨_, rfl⟩
  rw [← hR]
  have HR := Lib.hid hR
  clear  hK hend hown h hm1 hR
  go_enter Try.func59, Try.ntmps59
  go_wp2
  rw [← hw1]
  have HW1 := Lib.hid hw1
  clear hw1
  have hc1 := whole_mid (o := 15) (v := q.nm) HM1.out.drew rfl (by have := HK.out; omega)
  cases hq1 : wholeW S q.nm with
  | none =>
    rw [hq1] at hc1
    have HRN : Hid (R = none) := by rw [Lib.hid_eq, HR.out]; simp only [fRate, hq1, Option.map_none, Option.bind_none]
    have HC := Lib.hid hc1
    clear hc1
    go_region_dies
    all_goals
      refine HC.out.mono ?_
      rintro e w2 ⟨hb, rfl⟩
      exact ⟨rfl, HE.out _ _ _ (by rw [HRN.out]; exact ⟨hb, rfl⟩)⟩
  | some p1 =>
    obtain ⟨v1, S1⟩ := p1
    rw [hq1] at hc1
    have HC1 := Lib.hid hc1
    clear hc1
    go_region_law (first
      | (go_simp; refine HC1.out.mono ?_; rintro e w2 ⟨rfl, hm2⟩; obtain ⟨a2, b2⟩ := HB.out _ _ _ _ hm2; have HM2 := Lib.hid hm2; clear hm2; dsimp only))
    all_goals
      go_wp2
      have hc2 := whole_mid (o := 16) (v := q.dn) HM2.out.drew rfl (by have := HK.out; omega)
      cases hq2 : wholeW S1 q.dn with
      | none =>
        rw [hq2] at hc2
        have HRN : Hid (R = none) := by rw [Lib.hid_eq, HR.out]; simp only [fRate, hq1, hq2, Option.map_none, Option.bind_some]
        have HC := Lib.hid hc2
        clear hc2
        go_region_dies
        all_goals
          refine HC.out.mono ?_
          rintro e w2 ⟨hb, rfl⟩
          exact ⟨rfl, HE.out _ _ _ (by rw [HRN.out]; exact ⟨hb, rfl⟩)⟩
      | some p2 =>
        obtain ⟨v2, S2⟩ := p2
        rw [hq2] at hc2
        have HC2 := Lib.hid hc2
        clear hc2
        go_region_law (first
          | (go_simp; refine HC2.out.mono ?_; rintro e w3 ⟨rfl, hm3⟩; obtain ⟨a3, b3⟩ := HB.out _ _ _ _ hm3; have HM3 := Lib.hid hm3; clear hm3; dsimp only))
        all_goals
          go_wp2
          go_end0
          exact HE.out _ _ _ (by rw [HR.out]; simp only [fRate, hq1, hq2, Option.map_some, Option.bind_some]; exact ⟨rfl, HM3.out⟩)
end Go.Proofs.Ytdpfmaikijilkaa
