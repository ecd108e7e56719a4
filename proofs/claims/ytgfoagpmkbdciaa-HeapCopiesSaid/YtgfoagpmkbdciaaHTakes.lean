/-
  The walk of the law HeapTakes.
-/
import Derived.Test.YtgfoagpmkbdciaaHTwo
import Derived.Test.YtgfoagpmkbdciaaHRDrop
import Derived.Test.YtgfoagpmkbdciaaHKnown
namespace Go.Proofs.Ytgfoagpmkbdciaa
open Go Go.Shelf Go.RowKit Go.Lib Go.Sort Go.Proofs HpM

/-- what the document's Put does of a name that is not there (HRPut) -/
def RPutNew : Prop := ∀ (w : World) (R : Nat) (S : Nat → Prop) (L : List It) (x : It), RfS w R S L → (∀ y ∈ L, nm y ≠ nm x) → L.length < 1024 → Calls Try.prog 16 #[.pointer (some ⟨R, 0, none⟩), ItV x] w (RfTo (.int .i64 0) R S (ins iLt L x) w)
theorem Two.asc {w W : World} {G R : Nat} {L L' : List It} (h : Two w W G R L L') : Asc1 iLt L := by
  obtain ⟨F, S, h1, h2, h3, ⟨d, f, h4, h5⟩, h6, h7⟩ := h
  exact h5.asc
theorem Two.rf {w W : World} {G R : Nat} {L L' : List It} (h : Two w W G R L L') (hl : L'.length ≤ 1000000) : ∃ a n c, W.cell? ⟨R, 0, none⟩ = some (.slice a n c) ∧ n = L'.length ∧ n ≤ c ∧ ItAt W a n L' := by
  obtain ⟨F, S, h1, h2, h3, h4, h5, h6⟩ := h
  obtain ⟨a, n, c, hR, hn, hc, hA, _⟩ := h5.open hl
  exact ⟨a, n, c, by rw [cell_of_row _ _ _ _ _ _ hR]; rfl, hn, hc, hA⟩
theorem asc_step {L : List It} (h : Asc1 iLt L) {i : Nat} {y x : It} (hy : L[i]? = some y) (hx : L[i + 1]? = some x) : iLt y x = true := by
  obtain ⟨h1, e1⟩ := List.getElem?_eq_some_iff.1 hy
  obtain ⟨h2, e2⟩ := List.getElem?_eq_some_iff.1 hx
  have := List.pairwise_iff_getElem.1 h i (i + 1) h1 h2 (Nat.lt_succ_self i)
  rwa [e1, e2] at this
theorem drop_cons {L : List It} {i : Nat} {x : It} (h : L[i]? = some x) : L.drop i = x :: L.drop (i + 1) := by
  obtain ⟨hk, e⟩ := List.getElem?_eq_some_iff.1 h
  rw [List.drop_eq_getElem_cons hk, e]
theorem erase_at (L : List It) (i : Nat) (x : It) (hx : L[i]? = some x) (hf : ∀ (j : Nat) (y : It), j < i → L[j]? = some y → nm y ≠ nm x) : L.erase x = L.take i ++ L.drop (i + 1) := by
  induction L generalizing i with
  | nil => simp at hx
  | cons a t ih =>
    cases i with
    | zero =>
      have : a = x := by simpa using hx
      subst this
      simp
    | succ i =>
      have hne : a ≠ x := fun e => hf 0 a (by omega) rfl (by rw [e])
      have := ih i (by simpa using hx) fun j y hj hy => hf (j + 1) y (by omega) (by simpa using hy)
      rw [List.erase_cons_tail (by simpa using hne), this]
      simp
/-- the first of a name -/
theorem first_of (L : List It) (n : Nm) (h : ∃ y ∈ L, nm y = n) : ∃ (i : Nat) (x : It), L[i]? = some x ∧ nm x = n ∧ ∀ (j : Nat) (y : It), j < i → L[j]? = some y → nm y ≠ n := by
  induction L with
  | nil =>
    obtain ⟨y, hy, _⟩ := h
    cases hy
  | cons a t ih =>
    by_cases ha : nm a = n
    · exact ⟨0, a, rfl, ha, fun j y hj => absurd hj (Nat.not_lt_zero _)⟩
    · obtain ⟨y, hy, e⟩ := h
      have : y ∈ t := by
        rcases List.mem_cons.1 hy with rfl | h
        · exact absurd e ha
        · exact h
      obtain ⟨i, x, h1, h2, h3⟩ := ih ⟨y, this, e⟩
      refine ⟨i + 1, x, by simpa using h1, h2, fun j z hj hz => ?_⟩
      cases j with
      | zero =>
        have : a = z := by simpa using hz
        rw [← this]
        exact ha
      | succ j => exact h3 j z (by omega) (by simpa using hz)
theorem ins_len (L : List It) (x : It) : (ins iLt L x).length = L.length + 1 := by
  rw [(ins_perm L x).length_eq]
  simp
set_option maxHeartbeats 8000000 in
set_option maxRecDepth 100000 in
theorem takes_law (hput : RPutNew) (W : World) (a b : Option Addr) (n m c e : Nat) (l r : List It) (hln : l.length = n) (hrm : r.length = m) (hl : n ≤ 1000000 → ItAt W a n l) (hr : m ≤ 1000000 → ItAt W b m r) (hn : n ≤ maxLen) (hm : m ≤ maxLen) :
    Calls Try.prog 5 #[.slice a n c, .slice b m e] W (fun e w' => e = .returned (.bool true) ∧ Below W.heap.size W w') := by
  have hn' : n ≤ 9223372036854775807 := hn
  have hm' : m ≤ 9223372036854775807 := hm
  clear hn hm
  go_enter Try.func5, Try.ntmps5
  go_wp2_with (first
    | (go_at_call 7; refine (known_any _).mono ?_; rintro e w1 ⟨rfl, h1⟩)
    | (go_at_call 8; refine (hp_new _).mono ?_; rintro e w1 ⟨G, rfl, h1, h2, h3⟩; have H1 := Lib.hid (Two.new (w := W) (fun b e => e.1) h2 h3); clear h1 h2 h3))
  all_goals first
    | (go_ret; exact ⟨rfl, h1⟩)
    | skip
  have hA := hl (by omega)
  have hB := hr (by omega)
  have hn1 : n ≤ 100 := by omega
  have hm1 : m ≤ 100 := by omega
  obtain ⟨R, hR⟩ : ∃ R, R = w1.heap.size := ⟨_, rfl⟩
  rw [← hR] at H1 ⊢
  obtain ⟨w2, hw2⟩ : ∃ w2, w2 = w1.alloc (.cells #[.slice none 0 0] 29) := ⟨_, rfl⟩
  rw [← hw2] at H1 ⊢
  have HA := Lib.hid hA
  have HB := Lib.hid hB
  have HN1 := Lib.hid hn1
  have HM1 := Lib.hid hm1
  clear hA hB hl hr hR hw2 hn1 hm1 hln hrm
  go_loopg [7] n (fun kx s7 wr => ∃ (i : Nat) (L : List It), s7 = .int .i64 i ∧ i ≤ n ∧ n - i ≤ kx ∧ Aside (Two W wr G R L L ∧ L.length ≤ i))
  case atStart => exact ⟨0, [], by go_num, Nat.zero_le _, Nat.le_refl _, ⟨H1.out, Nat.le_refl _⟩⟩
  case round =>
    obtain ⟨i, L, rfl, hin, hkx, A⟩ := hrel
    by_cases hlt : i < n
    · have hlz : decide ((i : Int) < (n : Int)) = true := by simpa using hlt
      have hiz : (i : Int) < (n : Int) := by omega
      have hbig : i < 1000000 := by have := HN1.out; omega
      obtain ⟨B, off, rfl, hB, x, hx, hc⟩ := HA.out.cell hlt
      have HC : Hid (∀ W', Below W.heap.size W W' → Cells7 W' B (off + i * 7) x) := fun W' hb => (hc.below hb hB).seven
      obtain ⟨x0, x1, x2, x3, x4, x5, x6⟩ := HC.out wr A.out.1.out
      have HLL : Hid (L.length < 1024) := by show _ < _; have := A.out.2; have := HN1.out; omega
      clear hx hc hB
      by_cases hex : ∃ y ∈ L, nm y = nm x
      · have HEX := Lib.hid hex
        clear hex
        go_wp2_with (first
          | (go_at_call 16; refine (H3.out.rn fun S hS => rput_there _ R S L x hS (Nat.le_of_lt (Nat.lt_trans HLL.out (by decide))) HEX.out).mono ?_; rintro e w4 ⟨rfl, h4⟩; have H4 := Lib.hid h4; clear h4)
          | (go_at_call 15; refine (A.out.1.hn fun F hF => hp_there hF x HEX.out).mono ?_; rintro e w3 ⟨rfl, h3⟩; have H3 := Lib.hid h3; obtain ⟨y0, y1, y2, y3, y4, y5, y6⟩ := HC.out w3 h3.out; clear h3))
        go_roundg (n - (i + 1))
        case measure => omega
        case rel => exact ⟨i + 1, L, by go_num, by omega, Nat.le_refl _, ⟨H4.out, by have := A.out.2; omega⟩⟩
      · have HEX : Hid (∀ y ∈ L, nm y ≠ nm x) := fun y hy e => hex ⟨y, hy, e⟩
        clear hex
        go_wp2_with (first
          | (go_at_call 16; refine (H3.out.r fun S hS => hput _ R S L x hS HEX.out HLL.out).mono ?_; rintro e w4 ⟨rfl, h4⟩; have H4 := Lib.hid h4; clear h4)
          | (go_at_call 15; refine (A.out.1.h fun F hF => hp_put hF x HEX.out HLL.out rfl).mono ?_; rintro e w3 ⟨rfl, h3⟩; have H3 := Lib.hid h3; obtain ⟨y0, y1, y2, y3, y4, y5, y6⟩ := HC.out w3 h3.out; clear h3))
        go_roundg (n - (i + 1))
        case measure => omega
        case rel => exact ⟨i + 1, ins iLt L x, by go_num, by omega, Nat.le_refl _, ⟨H4.out, by have := A.out.2; rw [ins_len]; omega⟩⟩
    · have hlz : decide ((i : Int) < (n : Int)) = false := by simp; omega
      have HLL : Hid (L.length ≤ 100) := by show _ ≤ _; have := A.out.2; have := HN1.out; omega
      go_wp2_with fail
      obtain ⟨L0, hL0⟩ : ∃ L0, L0 = L := ⟨_, rfl⟩
      have A1 : Hid (Two W wr G R L0 L0 ∧ L0.length ≤ 100) := by rw [hL0]; exact ⟨A.out.1, HLL.out⟩
      clear hL0 A HLL hlt hlz hkx hin H1 HA HN1
      go_loopg [8] m (fun kx s8 wr => ∃ (i : Nat) (L : List It), s8 = .int .i64 i ∧ i ≤ m ∧ m - i ≤ kx ∧ Aside (Two W wr G R L L ∧ L.length ≤ 100))
      case atStart => exact ⟨0, L0, by go_num, Nat.zero_le _, Nat.le_refl _, A1.out⟩
      case round =>
        clear A1
        obtain ⟨i, L, rfl, hin, hkx, A⟩ := hrel
        by_cases hlt : i < m
        · have hlz : decide ((i : Int) < (m : Int)) = true := by simpa using hlt
          have hiz : (i : Int) < (m : Int) := by omega
          have hbig : i < 1000000 := by have := HM1.out; omega
          obtain ⟨B, off, rfl, hB, x, hx, hc⟩ := HB.out.cell hlt
          have HC : Hid (∀ W', Below W.heap.size W W' → Cells7 W' B (off + i * 7) x) := fun W' hb => (hc.below hb hB).seven
          obtain ⟨x0, x1, x2, x3, x4, x5, x6⟩ := HC.out _ A.out.1.out
          have HLL : Hid (L.length ≤ 2000) := by show _ ≤ _; have := A.out.2; omega
          have HLM : Hid (L.length ≤ 1000000) := by show _ ≤ _; have := A.out.2; omega
          have AD : Hid (Two W _ G R L L) := A.out.1.below (Below.refl _ _).drew
          clear hx hc hB
          by_cases hex : ∃ y ∈ L, nm y = nm x
          · obtain ⟨k, z, hz, hzn, hzf⟩ := first_of L (nm x) hex
            have HZ := Lib.hid (And.intro hz (And.intro hzn hzf))
            have HEQ : Hid (L.erase z = L.take k ++ L.drop (k + 1)) := erase_at L k z hz (by rw [hzn]; exact hzf)
            have HMEM : Hid (z ∈ L) := List.mem_of_getElem? hz
            have HLE : Hid ((L.erase z).length ≤ 100) := by show _ ≤ _; have := A.out.2; have := (List.erase_sublist (a := z) (l := L)).length_le; omega
            clear hex hz hzn hzf
            go_wp2_with fail
            go_region_with (go_at_call 17; refine (AD.out.h fun F hF => hp_drop1 hF _ _ z HMEM.out HZ.out.2.1 rfl).mono ?_; rintro e w3 ⟨rfl, h3⟩; have H3 := Lib.hid h3; obtain ⟨y0, y1, y2, y3, y4, y5, y6⟩ := HC.out w3 h3.out; clear h3)
            all_goals
              have H3D : Hid (Two W w3.drew G R (L.erase z) L) := H3.out.below (Below.refl _ _).drew
              go_wp2_with fail
              go_region_with (go_at_call 18; refine (H3D.out.r fun S hS => rdrop_some _ R S L _ _ k z hS HLL.out HZ.out.1 HZ.out.2.1 HZ.out.2.2).mono ?_; rintro e w4 ⟨rfl, h4⟩; have H4 := Lib.hid h4; clear h4)
              all_goals
                go_wp2
                go_roundg (m - (i + 1))
                case measure => omega
                case rel => exact ⟨i + 1, L.erase z, by go_num, by omega, Nat.le_refl _, ⟨HEQ.out ▸ H4.out, HLE.out⟩⟩
          · have HEX : Hid (∀ y ∈ L, nm y ≠ nm x) := fun y hy e => hex ⟨y, hy, e⟩
            clear hex
            go_wp2_with fail
            go_region_with (go_at_call 17; refine (AD.out.h0 fun F hF => hp_drop0 hF _ _ HEX.out).mono ?_; rintro e w3 ⟨rfl, h3⟩; have H3 := Lib.hid h3; obtain ⟨y0, y1, y2, y3, y4, y5, y6⟩ := HC.out w3 h3.out; clear h3)
            all_goals
              have H3D : Hid (Two W w3.drew G R L L) := H3.out.below (Below.refl _ _).drew
              go_wp2_with fail
              go_region_with (go_at_call 18; refine (H3D.out.r0 fun S hS => rdrop_none _ R S L _ _ hS HLM.out HEX.out).mono ?_; rintro e w4 ⟨rfl, h4⟩; have H4 := Lib.hid h4; clear h4)
              all_goals
                go_wp2
                go_roundg (m - (i + 1))
                case measure => omega
                case rel => exact ⟨i + 1, L, by go_num, by omega, Nat.le_refl _, ⟨H4.out, A.out.2⟩⟩
        · have hlz : decide ((i : Int) < (m : Int)) = false := by simp; omega
          have hl1 : L.length ≤ 100 := A.out.2
          have HT0 : Hid (Two W wr G R (L.drop 0) L) := A.out.1
          have HAS : Hid (Asc1 iLt L) := A.out.1.asc
          have HL1 := Lib.hid hl1
          obtain ⟨q, hq⟩ : ∃ q, q = L.length := ⟨_, rfl⟩
          have HQ := Lib.hid hq
          go_wp2_with fail
          clear A hlt hlz hkx hin hl1 hq HM1 HB
          go_loopg [9] q (fun kx s9 wr => ∃ i : Nat, s9 = .int .i64 i ∧ i ≤ q ∧ q - i ≤ kx ∧ Aside (Two W wr G R (L.drop i) L))
          case atStart => exact ⟨0, by go_num, Nat.zero_le _, Nat.le_refl _, HT0.out⟩
          case round =>
            clear HT0
            obtain ⟨i, rfl, hin, hkx, A⟩ := hrel
            obtain ⟨ra, rn, rc, r0, hrn, hrc, hrA⟩ := A.out.rf (by have := HL1.out; omega)
            obtain rfl : rn = q := hrn.trans HQ.out.symm
            clear hrn
            by_cases hlt : i < rn
            · have hlz : decide ((i : Int) < (rn : Int)) = true := by simpa using hlt
              have hiz : (i : Int) < (rn : Int) := by omega
              have hbig : i < 1000000 := by have := HL1.out; have := HQ.out; omega
              obtain ⟨x, hx⟩ : ∃ x, L[i]? = some x := ⟨L[i]'(by have := HQ.out; omega), List.getElem?_eq_getElem _⟩
              have HX := Lib.hid hx
              have HTX : Hid (Two W wr G R (x :: L.drop (i + 1)) L) := drop_cons hx ▸ A.out
              have hne : ∀ w, (binOp .neq 36 (ItV x) (ItV x)).run Try.prog w = .ok (.bool false) w := fun w => by rw [itNe]; simp
              have hgd := fun (op : BinOp) (x y : Operand) (xs ys : Array Value) (w : World) => run_eqGuard_agg (P := Try.prog) w op 36 x y xs ys itGuard
              clear hx hrc hrA
              by_cases hi0 : i = 0
              · subst hi0
                clear hbig hin
                go_wp2_with (go_at_call 19; refine (HTX.out.h fun F hF => hp_take1 hF).mono ?_; rintro e w3 ⟨rfl, h3⟩; have H3 := Lib.hid h3; clear h3)
                obtain ⟨w4, hw4⟩ : ∃ w4, w4 = w3.alloc (ItO x) := ⟨_, rfl⟩
                have H4 : Hid (Two W w4 G R (L.drop (0 + 1)) L) := hw4 ▸ H3.out.below ((Below.refl _ _).alloc (Nat.le_refl _) _)
                have HB4 : Hid (w4.heap[w3.heap.size]? = some (ItO x)) := hw4 ▸ heap_alloc_new _ _
                rw [← hw4]
                clear hw4 r0
                obtain ⟨ra4, rn4, rc4, r4, hrn4, hrc4, hA4⟩ := H4.out.rf (by have := HL1.out; omega)
                obtain rfl : rn4 = rn := hrn4.trans HQ.out.symm
                clear hrn4
                obtain ⟨B, off, rfl, hB, x', hx', hc⟩ := hA4.cell hlt
                obtain rfl : x' = x := by rw [HX.out] at hx'; cases hx'; rfl
                simp only [Nat.zero_mul, Nat.add_zero] at hc
                have hrc := fun nq os => (gwOf w4 nq os).cell r4
                have hbox := fun nq os => box_here (((gwOf w4 nq os).block (Array.getElem?_eq_some_iff.1 HB4.out).1).trans HB4.out)
                have hz := fun nq os => (hc.same ((gwOf w4 nq os).block hB)).seven
                have x0 := fun nq os => (hbox nq os).1
                have x1 := fun nq os => (hbox nq os).2.1
                have x2 := fun nq os => (hbox nq os).2.2.1
                have x3 := fun nq os => (hbox nq os).2.2.2.1
                have x4 := fun nq os => (hbox nq os).2.2.2.2.1
                have x5 := fun nq os => (hbox nq os).2.2.2.2.2.1
                have x6 := fun nq os => (hbox nq os).2.2.2.2.2.2.1
                have z0 := fun nq os => (hz nq os).1
                have z1 := fun nq os => (hz nq os).2.1
                have z2 := fun nq os => (hz nq os).2.2.1
                have z3 := fun nq os => (hz nq os).2.2.2.1
                have z4 := fun nq os => (hz nq os).2.2.2.2.1
                have z5 := fun nq os => (hz nq os).2.2.2.2.2.1
                have z6 := fun nq os => (hz nq os).2.2.2.2.2.2
                clear hbox hz hc hx' hA4 r4 hrc4
                refine wp_region_gw (by kernel_rfl) (by kernel_rfl) ?_
                iterate 30 (refine WQ.step (fun K hK => ?_); go_simp; first | (refine hK _ ?_; clear hK K) | (apply Exists.intro; refine ⟨fun _ => ?_, hK _ ?_⟩; (first | (go_at_call 20; exact rlt_g HT.out w4 _ _)); clear hK K))
                refine WQ.nil ?_
                intro _ hw'
                obtain ⟨⟨nq, osq⟩, hw''⟩ := hw'
                subst hw''
                have H5 : Hid (Two W (grow (w4.drewN nq) osq) G R (L.drop (0 + 1)) L) := H4.out.below (gwOf w4 nq osq).below
                clear hrc x0 x1 x2 x3 x4 x5 x6 z0 z1 z2 z3 z4 z5 z6
                generalize grow (w4.drewN nq) osq = w5 at H5 ⊢
                go_wp2
                go_roundg (rn4 - (0 + 1))
                case measure => omega
                case rel => exact ⟨0 + 1, by go_num, by omega, Nat.le_refl _, H5.out⟩
              · obtain ⟨p, hp⟩ : ∃ p, i = p + 1 := ⟨i - 1, by omega⟩
                have HP := Lib.hid hp
                have hpi : (i : Int) - 1 = (p : Int) := by omega
                have hpw : IntKind.i64.wrap (p : Int) = (p : Int) := by rw [IntKind.wrap_i64]; omega
                have hpr : p < rn := by omega
                have hi1 : (0 : Int) < (i : Int) := by omega
                have hi2 : 0 < i := by omega
                clear hp hi0
                go_wp2_with (go_at_call 19; refine (HTX.out.h fun F hF => hp_take1 hF).mono ?_; rintro e w3 ⟨rfl, h3⟩; have H3 := Lib.hid h3; clear h3)
                obtain ⟨w4, hw4⟩ : ∃ w4, w4 = w3.alloc (ItO x) := ⟨_, rfl⟩
                have H4 : Hid (Two W w4 G R (L.drop (i + 1)) L) := hw4 ▸ H3.out.below ((Below.refl _ _).alloc (Nat.le_refl _) _)
                have HB4 : Hid (w4.heap[w3.heap.size]? = some (ItO x)) := hw4 ▸ heap_alloc_new _ _
                rw [← hw4]
                clear hw4 r0
                obtain ⟨ra4, rn4, rc4, r4, hrn4, hrc4, hA4⟩ := H4.out.rf (by have := HL1.out; omega)
                obtain rfl : rn4 = rn := hrn4.trans HQ.out.symm
                clear hrn4
                obtain ⟨B, off, rfl, hB, x', hx', hc⟩ := hA4.cell hlt
                obtain rfl : x' = x := by rw [HX.out] at hx'; cases hx'; rfl
                have hrc := fun nq os => (gwOf w4 nq os).cell r4
                have hbox := fun nq os => box_here (((gwOf w4 nq os).block (Array.getElem?_eq_some_iff.1 HB4.out).1).trans HB4.out)
                have hz := fun nq os => (hc.same ((gwOf w4 nq os).block hB)).seven
                obtain ⟨B', off', e', hB', y, hy, hcy⟩ := hA4.cell hpr
                cases e'
                have HT : Hid (true = iLt y x') := (asc_step HAS.out hy (HP.out ▸ HX.out)).symm
                have hyy := fun nq os => (hcy.same ((gwOf w4 nq os).block hB')).seven
                have hpz : (p : Int) < (rn4 : Int) := by omega
                have x0 := fun nq os => (hbox nq os).1
                have x1 := fun nq os => (hbox nq os).2.1
                have x2 := fun nq os => (hbox nq os).2.2.1
                have x3 := fun nq os => (hbox nq os).2.2.2.1
                have x4 := fun nq os => (hbox nq os).2.2.2.2.1
                have x5 := fun nq os => (hbox nq os).2.2.2.2.2.1
                have x6 := fun nq os => (hbox nq os).2.2.2.2.2.2.1
                have z0 := fun nq os => (hz nq os).1
                have z1 := fun nq os => (hz nq os).2.1
                have z2 := fun nq os => (hz nq os).2.2.1
                have z3 := fun nq os => (hz nq os).2.2.2.1
                have z4 := fun nq os => (hz nq os).2.2.2.2.1
                have z5 := fun nq os => (hz nq os).2.2.2.2.2.1
                have z6 := fun nq os => (hz nq os).2.2.2.2.2.2
                have y0 := fun nq os => (hyy nq os).1
                have y1 := fun nq os => (hyy nq os).2.1
                have y2 := fun nq os => (hyy nq os).2.2.1
                have y3 := fun nq os => (hyy nq os).2.2.2.1
                have y4 := fun nq os => (hyy nq os).2.2.2.2.1
                have y5 := fun nq os => (hyy nq os).2.2.2.2.2.1
                have y6 := fun nq os => (hyy nq os).2.2.2.2.2.2
                clear hbox hz hc hx' hA4 r4 hrc4 hyy hcy hy hB'
                refine wp_region_gw (by kernel_rfl) (by kernel_rfl) ?_
                iterate 30 (refine WQ.step (fun K hK => ?_); go_simp; first | (refine hK _ ?_; clear hK K) | (apply Exists.intro; refine ⟨fun _ => ?_, hK _ ?_⟩; (first | (go_at_call 20; exact rlt_g HT.out w4 _ _)); clear hK K))
                refine WQ.nil ?_
                intro _ hw'
                obtain ⟨⟨nq, osq⟩, hw''⟩ := hw'
                subst hw''
                have H5 : Hid (Two W (grow (w4.drewN nq) osq) G R (L.drop (i + 1)) L) := H4.out.below (gwOf w4 nq osq).below
                clear hrc x0 x1 x2 x3 x4 x5 x6 z0 z1 z2 z3 z4 z5 z6 y0 y1 y2 y3 y4 y5 y6
                generalize grow (w4.drewN nq) osq = w5 at H5 ⊢
                go_wp2
                go_roundg (rn4 - (i + 1))
                case measure => omega
                case rel => exact ⟨i + 1, by go_num, by omega, Nat.le_refl _, H5.out⟩
            · have hlz : decide ((i : Int) < (rn : Int)) = false := by simp; omega
              obtain rfl : i = rn := by omega
              have HE : Hid (Two W wr G R [] L) := by
                have := A.out
                rwa [List.drop_of_length_le (by have := HQ.out; omega)] at this
              go_wp2_with (first
                | (go_at_call 7; refine (known_any _).mono ?_; rintro e w4 ⟨rfl, h4⟩; have H4 := Lib.hid ((H3.out.below ((Below.refl _ _).alloc (Nat.le_refl _) (ItO itZ))).below h4); clear h4)
                | (go_at_call 19; refine (HE.out.h0 fun F hF => hp_take0 hF).mono ?_; rintro e w3 ⟨rfl, h3⟩; have H3 := Lib.hid h3; clear h3))
              go_ret
              exact ⟨rfl, H4.out.out⟩
end Go.Proofs.Ytgfoagpmkbdciaa
