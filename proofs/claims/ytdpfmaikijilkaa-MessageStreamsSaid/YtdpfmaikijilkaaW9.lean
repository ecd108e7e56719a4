/-
  The walks of what an event has besides its key, and of a key, in a box.
-/
import Derived.Test.YtdpfmaikijilkaaW8
namespace Go.Proofs.Ytdpfmaikijilkaa
open Go Go.RowKit Go.Sort Go.Proofs

theorem get_set_ne {c : Array Value} {i j : Nat} {v : Value} {x : Option Value} (h : i ≠ j) (e : c[j]? = x) : (c.setIfInBounds i v)[j]? = x := by
  rw [Array.getElem?_setIfInBounds_ne h]; exact e
section
variable {f1 f2 : FuncId} {P g M : Nat} {T : TypeId} {F : Nat → Prop} {w w' : World} {c : Array Value} {S : Wi} {K : Nat}
abbrev wbox (f1 f2 : FuncId) (P : Nat) : Obj := .cells #[.func (.func f1) #[] #[.pointer (some ⟨P, 0, none⟩)], .func (.func f2) #[] #[.pointer (some ⟨P, 0, none⟩)]] 103
/-- the wire's own box stands -/
theorem Mid.own {w0 : World} (hw : w = w0.alloc (wbox f1 f2 P)) (hF : ∀ b, F b → b < w0.heap.size) (hM : M < w0.heap.size) (h : Mid f1 f2 P g M T F w c S K w') :
    w'.cell? ⟨w0.heap.size, 0, none⟩ = some (.func (.func f1) #[] #[.pointer (some ⟨P, 0, none⟩)]) ∧ w'.cell? ⟨w0.heap.size, 1, none⟩ = some (.func (.func f2) #[] #[.pointer (some ⟨P, 0, none⟩)]) := by
  have e : w'.heap[w0.heap.size]? = some (wbox f1 f2 P) := by
    rw [h.1.block w0.heap.size (by rw [hw]; simp) (fun e => e.elim (fun e => by have := hF _ e; omega) (fun e => by omega)), hw, heap_alloc_new]
  exact ⟨by rw [cell_of_row _ _ _ _ _ _ e]; rfl, by rw [cell_of_row _ _ _ _ _ _ e]; rfl⟩
end
theorem Lib.hid_eq (p : Prop) : Hid p = p := rfl
/-- .. as values -/
def contentV (S : Wi) (pt ek d : Int) : Option ((Int × Int × Int) × Wi) :=
  (octW S pt 255).bind fun p1 => (octW p1.2 ek 255).bind fun p2 => (wholeW p2.2 d).map fun p3 => ((p1.1, p2.1, p3.1), p3.2)
def keyV (S : Wi) (t og sq : Int) : Option ((Int × Int × Int) × Wi) :=
  (wholeW S t).bind fun p1 => (octW p1.2 og 255).bind fun p2 => (wholeW p2.2 sq).map fun p3 => ((p1.1, p2.1, p3.1), p3.2)
def set3 (c : Array Value) (o : Nat) (v : Int × Int × Int) : Array Value := ((c.setIfInBounds o (.int .i64 v.1)).setIfInBounds (o + 1) (.int .i64 v.2.1)).setIfInBounds (o + 2) (.int .i64 v.2.2)
set_option maxHeartbeats 1000000 in
set_option maxRecDepth 100000 in
theorem content_bx {f1 f2 : FuncId} {P g M : Nat} {T : TypeId} {F : Nat → Prop} {w : World} {S : Wi} {K : Nat} {c : Array Value} (h : BAt f1 f2 w P g F S M T c K) {o : Nat} {pt ek d : Int} (h1 : c[o + 3]? = some (.int .i64 pt)) (h2 : c[o + 4]? = some (.int .i64 ek)) (h3 : c[o + 5]? = some (.int .i64 d)) (hK : K ≤ 999900) :
    Calls Try.prog 78 #[wv f1 f2 P, .pointer (some ⟨M, o, none⟩)] w (BxTo f1 f2 P g M T F w (K + 24) ((contentV S pt ek d).map fun p => (set3 c (o + 3) p.1, p.2))) := by
  obtain ⟨w1, hw1⟩ : ∃ w1, w1 = w.alloc (wbox f1 f2 P) := ⟨_, rfl⟩
  have hm1 := (h.below ((Below.refl _ _).alloc (Nat.le_refl _) (wbox f1 f2 P))).mid
  rw [← hw1] at hm1
  have hend : ∀ w2 e r, BxTo f1 f2 P g M T F w1 (K + 24) r e w2 → BxTo f1 f2 P g M T F w (K + 24) r e w2 := fun w2 e r hx => BxTo.chain (w := w) (F := F) (by rw [hw1]; exact (But.refl _ w).alloc _) (fun b e => .inl e) hx
  have hown : ∀ c S K w2, Mid f1 f2 P g M T F w1 c S K w2 → _ := fun c S K w2 hx => Mid.own hw1 h.wire.lt h.lt hx
  have HK := Lib.hid hK
  have H1c := Lib.hid h1
  have H2c := Lib.hid h2
  have H3c := Lib.hid h3
  have HE := Lib.hid hend
  have HB := Lib.hid hown
  have HM1 := Lib.hid hm1
  obtain ⟨a1, b1⟩ := hown _ _ _ _ hm1
  obtain ⟨R, hR⟩ : ∃ R, R = (contentV S pt ek d).map fun p => (set3 c (o + 3) p.1, p.2) := ⟨_, rfl⟩
  rw [← hR]
  have HR := Lib.hid hR
  clear h1 h2 h3 hK hend hown h hm1 hR
  go_enter Try.func78, Try.ntmps78
  go_wp2
  rw [← hw1]
  have HW1 := Lib.hid hw1
  clear hw1
  have hc1 := octet_mid HM1.out.drew 255 H1c.out (by have := HK.out; omega)
  cases hq1 : octW S pt 255 with
  | none =>
    rw [hq1] at hc1
    have HRN : Hid (R = none) := by rw [Lib.hid_eq, HR.out]; simp only [contentV, hq1, Option.map_none, Option.bind_none]
    have HC := Lib.hid hc1
    clear hc1
    go_region_dies
    all_goals
      refine HC.out.mono ?_
      rintro e w2 ⟨hb, rfl⟩
      exact ⟨rfl, HE.out _ _ _ (by rw [HRN.out]; exact ⟨hb, rfl⟩)⟩
  | some p1 =>
    obtain ⟨v1, S1⟩ := p1
    rw [hq1] at hc1
    have HC1 := Lib.hid hc1
    clear hc1
    go_region_law (first
      | (go_simp; refine HC1.out.mono ?_; rintro e w2 ⟨rfl, hm2⟩; obtain ⟨a2, b2⟩ := HB.out _ _ _ _ hm2; have HM2 := Lib.hid hm2; clear hm2; dsimp only))
    all_goals
      go_wp2
      have hc2 := octet_mid HM2.out.drew 255 (get_set_ne (by omega) H2c.out) (by have := HK.out; omega)
      cases hq2 : octW S1 ek 255 with
      | none =>
        rw [hq2] at hc2
        have HRN : Hid (R = none) := by rw [Lib.hid_eq, HR.out]; simp only [contentV, hq1, hq2, Option.map_none, Option.bind_some, Option.bind_none]
        have HC := Lib.hid hc2
        clear hc2
        go_region_dies
        all_goals
          refine HC.out.mono ?_
          rintro e w2 ⟨hb, rfl⟩
          exact ⟨rfl, HE.out _ _ _ (by rw [HRN.out]; exact ⟨hb, rfl⟩)⟩
      | some p2 =>
        obtain ⟨v2, S2⟩ := p2
        rw [hq2] at hc2
        have HC2 := Lib.hid hc2
        clear hc2
        go_region_law (first
          | (go_simp; refine HC2.out.mono ?_; rintro e w3 ⟨rfl, hm3⟩; obtain ⟨a3, b3⟩ := HB.out _ _ _ _ hm3; have HM3 := Lib.hid hm3; clear hm3; dsimp only))
        all_goals
          go_wp2
          have hc3 := whole_mid HM3.out.drew (get_set_ne (by omega) (get_set_ne (by omega) H3c.out)) (by have := HK.out; omega)
          cases hq3 : wholeW S2 d with
          | none =>
            rw [hq3] at hc3
            have HRN : Hid (R = none) := by rw [Lib.hid_eq, HR.out]; simp only [contentV, hq1, hq2, hq3, Option.map_none, Option.bind_some]
            have HC := Lib.hid hc3
            clear hc3
            go_region_dies
            all_goals
              refine HC.out.mono ?_
              rintro e w2 ⟨hb, rfl⟩
              exact ⟨rfl, HE.out _ _ _ (by rw [HRN.out]; exact ⟨hb, rfl⟩)⟩
          | some p3 =>
            obtain ⟨v3, S3⟩ := p3
            rw [hq3] at hc3
            have HC3 := Lib.hid hc3
            clear hc3
            go_region_law (first
              | (go_simp; refine HC3.out.mono ?_; rintro e w4 ⟨rfl, hm4⟩; obtain ⟨a4, b4⟩ := HB.out _ _ _ _ hm4; have HM4 := Lib.hid hm4; clear hm4; dsimp only))
            all_goals
              go_wp2
              go_end0
              exact HE.out _ _ _ (by rw [HR.out]; simp only [contentV, hq1, hq2, hq3, Option.map_some, Option.bind_some]; exact ⟨rfl, HM4.out⟩)
set_option maxHeartbeats 1000000 in
set_option maxRecDepth 100000 in
theorem key_bx {f1 f2 : FuncId} {P g M : Nat} {T : TypeId} {F : Nat → Prop} {w : World} {S : Wi} {K : Nat} {c : Array Value} (h : BAt f1 f2 w P g F S M T c K) {o : Nat} {t og sq : Int} (h1 : c[o + 0]? = some (.int .i64 t)) (h2 : c[o + 1]? = some (.int .i64 og)) (h3 : c[o + 2]? = some (.int .i64 sq)) (hK : K ≤ 999900) :
    Calls Try.prog 88 #[wv f1 f2 P, .pointer (some ⟨M, o, none⟩)] w (BxTo f1 f2 P g M T F w (K + 24) ((keyV S t og sq).map fun p => (set3 c (o + 0) p.1, p.2))) := by
  obtain ⟨w1, hw1⟩ : ∃ w1, w1 = w.alloc (wbox f1 f2 P) := ⟨_, rfl⟩
  have hm1 := (h.below ((Below.refl _ _).alloc (Nat.le_refl _) (wbox f1 f2 P))).mid
  rw [← hw1] at hm1
  have hend : ∀ w2 e r, BxTo f1 f2 P g M T F w1 (K + 24) r e w2 → BxTo f1 f2 P g M T F w (K + 24) r e w2 := fun w2 e r hx => BxTo.chain (w := w) (F := F) (by rw [hw1]; exact (But.refl _ w).alloc _) (fun b e => .inl e) hx
  have hown : ∀ c S K w2, Mid f1 f2 P g M T F w1 c S K w2 → _ := fun c S K w2 hx => Mid.own hw1 h.wire.lt h.lt hx
  have HK := Lib.hid hK
  have H1c := Lib.hid h1
  have H2c := Lib.hid h2
  have H3c := Lib.hid h3
  have HE := Lib.hid hend
  have HB := Lib.hid hown
  have HM1 := Lib.hid hm1
  obtain ⟨a1, b1⟩ := hown _ _ _ _ hm1
  obtain ⟨R, hR⟩ : ∃ R, R = (keyV S t og sq).map fun p => (set3 c (o + 0) p.1, p.2) := ⟨_, rfl⟩
  rw [← hR]
  have HR := Lib.hid hR
  clear h1 h2 h3 hK hend hown h hm1 hR
  go_enter Try.func88, Try.ntmps88
  go_wp2
  rw [← hw1]
  have HW1 := Lib.hid hw1
  clear hw1
  have hc1 := whole_mid HM1.out.drew H1c.out (by have := HK.out; omega)
  cases hq1 : wholeW S t with
  | none =>
    rw [hq1] at hc1
    have HRN : Hid (R = none) := by rw [Lib.hid_eq, HR.out]; simp only [keyV, hq1, Option.map_none, Option.bind_none]
    have HC := Lib.hid hc1
    clear hc1
    go_region_dies
    all_goals
      refine HC.out.mono ?_
      rintro e w2 ⟨hb, rfl⟩
      exact ⟨rfl, HE.out _ _ _ (by rw [HRN.out]; exact ⟨hb, rfl⟩)⟩
  | some p1 =>
    obtain ⟨v1, S1⟩ := p1
    rw [hq1] at hc1
    have HC1 := Lib.hid hc1
    clear hc1
    go_region_law (first
      | (go_simp; refine HC1.out.mono ?_; rintro e w2 ⟨rfl, hm2⟩; obtain ⟨a2, b2⟩ := HB.out _ _ _ _ hm2; have HM2 := Lib.hid hm2; clear hm2; dsimp only))
    all_goals
      go_wp2
      have hc2 := octet_mid HM2.out.drew 255 (get_set_ne (by omega) H2c.out) (by have := HK.out; omega)
      cases hq2 : octW S1 og 255 with
      | none =>
        rw [hq2] at hc2
        have HRN : Hid (R = none) := by rw [Lib.hid_eq, HR.out]; simp only [keyV, hq1, hq2, Option.map_none, Option.bind_some, Option.bind_none]
        have HC := Lib.hid hc2
        clear hc2
        go_region_dies
        all_goals
          refine HC.out.mono ?_
          rintro e w2 ⟨hb, rfl⟩
          exact ⟨rfl, HE.out _ _ _ (by rw [HRN.out]; exact ⟨hb, rfl⟩)⟩
      | some p2 =>
        obtain ⟨v2, S2⟩ := p2
        rw [hq2] at hc2
        have HC2 := Lib.hid hc2
        clear hc2
        go_region_law (first
          | (go_simp; refine HC2.out.mono ?_; rintro e w3 ⟨rfl, hm3⟩; obtain ⟨a3, b3⟩ := HB.out _ _ _ _ hm3; have HM3 := Lib.hid hm3; clear hm3; dsimp only))
        all_goals
          go_wp2
          have hc3 := whole_mid HM3.out.drew (get_set_ne (by omega) (get_set_ne (by omega) H3c.out)) (by have := HK.out; omega)
          cases hq3 : wholeW S2 sq with
          | none =>
            rw [hq3] at hc3
            have HRN : Hid (R = none) := by rw [Lib.hid_eq, HR.out]; simp only [keyV, hq1, hq2, hq3, Option.map_none, Option.bind_some]
            have HC := Lib.hid hc3
            clear hc3
            go_region_dies
            all_goals
              refine HC.out.mono ?_
              rintro e w2 ⟨hb, rfl⟩
              exact ⟨rfl, HE.out _ _ _ (by rw [HRN.out]; exact ⟨hb, rfl⟩)⟩
          | some p3 =>
            obtain ⟨v3, S3⟩ := p3
            rw [hq3] at hc3
            have HC3 := Lib.hid hc3
            clear hc3
            go_region_law (first
              | (go_simp; refine HC3.out.mono ?_; rintro e w4 ⟨rfl, hm4⟩; obtain ⟨a4, b4⟩ := HB.out _ _ _ _ hm4; have HM4 := Lib.hid hm4; clear hm4; dsimp only))
            all_goals
              go_wp2
              go_end0
              exact HE.out _ _ _ (by rw [HR.out]; simp only [keyV, hq1, hq2, hq3, Option.map_some, Option.bind_some]; exact ⟨rfl, HM4.out⟩)
section
variable {f1 f2 : FuncId} {P g M : Nat} {T : TypeId} {F : Nat → Prop} {w w' : World} {c : Array Value} {S : Wi} {K : Nat}
theorem content_mid (h : Mid f1 f2 P g M T F w c S K w') {o : Nat} {pt ek d : Int} (h1 : c[o + 3]? = some (.int .i64 pt)) (h2 : c[o + 4]? = some (.int .i64 ek)) (h3 : c[o + 5]? = some (.int .i64 d)) (hK : K ≤ 999900) :
    Calls Try.prog 78 #[wv f1 f2 P, .pointer (some ⟨M, o, none⟩)] w' (BxTo f1 f2 P g M T F w (K + 24) ((contentV S pt ek d).map fun p => (set3 c (o + 3) p.1, p.2))) := by
  obtain ⟨hb, F', hsub, hx⟩ := h
  exact (content_bx hx h1 h2 h3 hK).mono fun e w'' hl => BxTo.chain hb hsub hl
theorem key_mid (h : Mid f1 f2 P g M T F w c S K w') {o : Nat} {t og sq : Int} (h1 : c[o + 0]? = some (.int .i64 t)) (h2 : c[o + 1]? = some (.int .i64 og)) (h3 : c[o + 2]? = some (.int .i64 sq)) (hK : K ≤ 999900) :
    Calls Try.prog 88 #[wv f1 f2 P, .pointer (some ⟨M, o, none⟩)] w' (BxTo f1 f2 P g M T F w (K + 24) ((keyV S t og sq).map fun p => (set3 c (o + 0) p.1, p.2))) := by
  obtain ⟨hb, F', hsub, hx⟩ := h
  exact (key_bx hx h1 h2 h3 hK).mono fun e w'' hl => BxTo.chain hb hsub hl
end
end Go.Proofs.Ytdpfmaikijilkaa
