/-
  The walk of the document's Of.
-/
import Derived.Test.YtlgbkbmjfmomkaaDoorO6b
import Derived.Deep.LoopGhost
namespace Go.Proofs.YtlgbkbmjfmomkaaDoor
open Go.RowKit CodM

set_option maxHeartbeats 20000000 in
set_option maxRecDepth 100000 in
theorem rof_any (l : List UInt8) (w : World) (_hG : GloT w) (hl : l.length ≤ 1000000) : Calls Tryd.prog 20 #[.string (strU l)] w (OfTo l w) := by
  obtain ⟨i0, hi, hz0, hz1, hz2⟩ := info_parts infoI
  obtain ⟨j0, hj, hy0, hy1, hy2⟩ := info_parts infoS
  obtain ⟨ls, hls⟩ : ∃ ls, ls = linesAcc [] l := ⟨_, rfl⟩
  have HLS := Lib.hid hls
  clear hls
  go_enter Tryd.func20, Tryd.ntmps20
  go_wp2_with (first
    | (go_at_call 38; refine (rlines_any l _ hl).mono ?_; rintro e w1 ⟨lv, b, rfl, hown, hb1⟩; rw [← HLS.out] at hown; refine Hid.out ?_))
  have hres := (hb1.block w.heap.size (by simp)).trans (heap_alloc_new w (.cells #[.int .i64 0, .slice none 0 0] 24))
  have hs1 := heap_lt hres
  have hbw : Below w.heap.size w w1 := ((Below.refl w.heap.size w).alloc (Nat.le_refl _) _).trans (hb1.mono (by simp))
  obtain ⟨w2, hw2⟩ : ∃ w2, w2 = w1.alloc (.cells #[.int .i64 0, .slice none 0 0] 24) := ⟨_, rfl⟩
  have HRES := Lib.hid (show w2.heap[w.heap.size]? = some (.cells #[.int .i64 0, .slice none 0 0] 24) from by rw [hw2]; exact (heap_alloc_old _ _ hs1).trans hres)
  have HPB := Lib.hid (show w2.heap[w1.heap.size]? = some (.cells #[.int .i64 0, .slice none 0 0] 24) from by rw [hw2]; exact heap_alloc_new _ _)
  have HOWN := Lib.hid (show SOwn (w.heap.size + 1) w2 lv ls from by rw [hw2]; have := World.ownsRow.alloc hown (.cells #[.int .i64 0, .slice none 0 0] 24); simpa using this)
  have HB2 := Lib.hid (show Below w.heap.size w w2 from by rw [hw2]; exact hbw.alloc (Nat.le_of_lt hs1) _)
  have HW2 := Lib.hid hw2
  clear hown hb1 hres hbw hw2
  refine Lib.hid ?_
  go_wp2
  rw [← HW2.out]
  go_loopw [7] (fun i wr => OfRel w w1.heap.size ls lv i wr) (fun i _ => ls.length - (intOf i).toNat)
  case atStart => exact ⟨0, 0, .slice none 0 0, [], Nat.zero_le _, rfl, ⟨by simp, fun _ => ⟨rfl, rfl⟩, ⟨by decide, by decide⟩, (by intro y hy; cases hy), Nat.zero_le _, (by intro y hy; cases hy), .inl ⟨rfl, rfl⟩⟩, HOWN.out, HRES.out, HPB.out, HB2.out⟩
  case round =>
    obtain ⟨k, v, kv, ks, hk, rfl, hst, hown, hrb, hpb, hbel⟩ := hrel
    have hlsl : ls.length ≤ l.length := by rw [HLS.out]; exact linesAcc_len l []
    obtain ⟨la, lc, rfl, hread⟩ := hown.read
    have HST := Lib.hid hst
    have HOW := Lib.hid hown
    have HRB := Lib.hid hrb
    have HPBr := Lib.hid hpb
    have HB := Lib.hid hbel
    have hszr : w.heap.size ≤ wr.heap.size := hbel.size
    have hpl := heap_lt hpb
    have p0 : wr.cell? ⟨w1.heap.size, 0, none⟩ = some (.int .i64 v) := by rw [cell_of_row _ _ _ _ _ _ hpb]; rfl
    have p1 : wr.cell? ⟨w1.heap.size, 1, none⟩ = some kv := by rw [cell_of_row _ _ _ _ _ _ hpb]; rfl
    have q0 : wr.frozen? ⟨w1.heap.size, 0, none⟩ = false := frozen_of_row _ _ _ _ _ hpb
    have q1 : wr.frozen? ⟨w1.heap.size, 1, none⟩ = false := frozen_of_row _ _ _ _ _ hpb
    clear hst hown hrb hpb hbel
    by_cases hlt : k < ls.length
    · obtain ⟨lg, rfl, hcell⟩ : ∃ g, la = some ⟨g, 0, none⟩ ∧ ∀ j (hj : j < ls.length), wr.cell? ⟨g, j, none⟩ = some (.string (strU ls[j])) := by
        rcases hread with h | h
        · omega
        · exact h
      have hck := hcell k hlt
      have hxl : ls[k].length ≤ l.length := by
        have := linesAcc_le l [] ls[k] (by rw [← HLS.out]; exact List.getElem_mem hlt)
        simpa using this
      have HDR : Hid (ls.drop k = ls[k] :: ls.drop (k + 1)) := List.drop_eq_getElem_cons hlt
      obtain ⟨x, hx⟩ : ∃ x, x = ls[k] := ⟨_, rfl⟩
      rw [← hx] at hck hxl
      have HX := Lib.hid hx
      have hsz : (strU x).size = x.length := strU_size _
      clear hx
      by_cases hk0 : k = 0
      · as_aux_lemma =>
        subst hk0
        by_cases h5 : 5 < x.length
        · have HE5 : Hid ((strU x).extract 5 x.length = strU (x.drop 5)) := by
            show _ = _
            rw [strU_extract, List.take_of_length_le (by simp)]
          have hvl : (x.drop 5).length ≤ 1000000 := by simp; omega
          have if5 : (5 : Int) < (x.length : Int) := by omega
          clear hread hcell
          go_wp2_with (first
            | (go_at_call 39; go_loud (rw [HE5.out]; refine (rvalue_any (x.drop 5) _ hvl).mono ?_; rintro e w3 ⟨rfl, rfl⟩)))
          go_roundw
          case rel =>
            have hset := heap_setCell_same wr w1.heap.size 0 _ _ (.int .i64 (valF (x.drop 5))) HPBr.out
            have hb := But.setCell (But.refl (fun k => k = w1.heap.size) wr) (p := ⟨w1.heap.size, 0, none⟩) (.inl rfl) (.int .i64 (valF (x.drop 5)))
            exact ⟨1, valF (x.drop 5), kv, ks, hlt, rfl, HST.out.head _ hlt HX.out (by rw [if_pos h5]), HOW.out.but hb (fun k cur e hh => by subst e; rw [HPBr.out] at hh; cases hh), (hb.heap HRB.out (by omega)), hset, HB.out.setCell (by show w.heap.size ≤ w1.heap.size; omega) _⟩
          case measure => simp [intOf]; omega
        · have if5 : ¬ (5 : Int) < (x.length : Int) := by omega
          clear hread hcell
          go_wp2
          go_roundw
          case rel =>
            have hst := HST.out.head wr hlt HX.out (v' := 0) (by rw [if_neg h5])
            have hv0 := (HST.out.2.1 rfl).2
            exact ⟨1, v, kv, ks, hlt, rfl, by rw [hv0]; exact hst, HOW.out, HRB.out, HPBr.out, HB.out⟩
          case measure => simp [intOf]; omega
      · have hdrx := HDR.out
        rw [← HX.out] at hdrx
        have HDX := Lib.hid hdrx
        have HK0 := Lib.hid hk0
        have hd0 : ((k : Int) == 0) = false := by simp; omega
        have hsz1 : w1.heap.size ≤ wr.heap.size := Nat.le_of_lt hpl
        clear hk0 hdrx hcell hread
        by_cases hkw : x = kindW
        · as_aux_lemma =>
          have hd : ((strU x).toList == [107, 105, 110, 100]) = true := by rw [hkw, strU_toList]; decide
          have HKW : Hid (ls.drop k = kindW :: ls.drop (k + 1)) := by show _ = _; rw [HDX.out, hkw]
          clear hkw
          obtain ⟨_, _, _, hwf, hksl, hky, h7⟩ := id HST.out
          have HKY := Lib.hid hky
          have HWF := Lib.hid hwf
          clear hky hwf
          rcases h7 with ⟨hks, rfl⟩ | ⟨B2, vs, pre, lv, last, hks, hrow⟩
          · as_aux_lemma =>
            have HKS := Lib.hid hks
            clear hks
            go_wp2_with (first
              | (at_builtin; refine wpList_append_own _ rfl _ _ 22 rfl w.heap.size 46 j0 (.slice none 0 0) 1 24 Tryd.underlying22 hj hy0 hy1 hy2 rfl (by decide) _ _ _ rfl (World.ownsRow_nil _ _ _ _) ⟨wr.heap.size, 0, none⟩ 1 1 [.slice none 0 0] rfl rfl (one_val _ _ _ _) (sl_one _ _ _) (by unfold maxLen; omega) (by omega) (by simp; omega) ?_; intro v3 w3 hown3 hgrow3 _; refine Hid.out ?_))
            have hb3 : Below wr.heap.size wr w3 := ((Below.refl _ wr).alloc (Nat.le_refl _) _).grown hgrow3 (by simp) (fun k' hk' => by cases hk')
            have hrow3 : OfRow w.heap.size w3.heap.size w3 v3 [] [] (.slice none 0 0) [] := OfRow.first hown3 (Nat.le_trans hszr hb3.size)
            have hpb3 := (hb3.block _ hpl).trans HPBr.out
            obtain ⟨g, c3, cur3, rfl, hg3, hh3, _⟩ := hrow3.block
            have HB3 := Lib.hid hb3
            have HR3 := Lib.hid hrow3
            have HP3 := Lib.hid hpb3
            have f1 : w3.frozen? ⟨w1.heap.size, 1, none⟩ = false := frozen_of_row _ _ _ _ _ hpb3
            have c1 : w3.cell? ⟨w1.heap.size, 1, none⟩ = some (.slice none 0 0) := by rw [cell_of_row _ _ _ _ _ _ hpb3]; rfl
            clear hown3 hgrow3 hb3 hrow3 hpb3 hh3
            refine Lib.hid ?_
            go_wp2
            go_roundw
            case rel =>
              have hbs := But.setCell (But.refl (fun j => j = w1.heap.size) w3) (p := ⟨w1.heap.size, 1, none⟩) (.inl rfl) (.slice (some ⟨g, 0, none⟩) (([] : List (List Ins)).length + 1) c3)
              have hS : ∀ j, j = w1.heap.size → w.heap.size < j ∧ ∀ cur, wr.heap[j]? ≠ some (.cells cur 9 (0, 0)) := by
                rintro j rfl
                exact ⟨hs1, fun cur e => by rw [HPBr.out] at e; cases e⟩
              refine of_close ((But.of HB3.out).trans hbs) hS HOW.out HRB.out (heap_setCell_same w3 w1.heap.size 1 _ _ _ HP3.out) HB.out hlt (HST.out.kindTo HK0.out HKW.out ⟨_, [], [], _, [], by rw [HKS.out], HR3.out.but hbs ?_ ?_⟩)
              · rintro j cur rfl e
                rw [HP3.out] at e
                cases e
              · rintro j cur rfl e
                rw [HP3.out] at e
                cases e
            case measure => simp [intOf]; omega
          · as_aux_lemma =>
            obtain ⟨g0, c0, cur0, rfl, hg0, hh0, hne0⟩ := hrow.block
            have hksl' : pre.length + 1 ≤ k := by rw [hks] at hksl; simpa using hksl
            have HKS := Lib.hid hks
            have HROW := Lib.hid hrow
            have HH0 := Lib.hid hh0
            have hgp : g0 ≠ w1.heap.size := fun e => by rw [e, HPBr.out] at hh0; cases hh0
            have hgw : g0 ≠ w.heap.size := fun e => by rw [e, HRB.out] at hh0; cases hh0
            have HGP := Lib.hid (And.intro hgp hgw)
            clear hks hrow hh0 hne0 hgp hgw hksl
            go_wp2_with (first
              | (at_builtin; refine wpList_append_own _ rfl _ _ 22 rfl w.heap.size 46 j0 (.slice none 0 0) 1 24 Tryd.underlying22 hj hy0 hy1 hy2 rfl (by decide) _ _ _ rfl (World.ownsRow.alloc HROW.out.row _) ⟨wr.heap.size, 0, none⟩ 1 1 [.slice none 0 0] rfl rfl (one_val _ _ _ _) (sl_one _ _ _) (by unfold maxLen; omega) (by omega) (by simp; omega) ?_; intro v3 w3 hown3 hgrow3 _; refine Hid.out ?_))
            have hgrow3 : (wr.alloc (.cells #[.slice none 0 0] 46)).grownBy w3 (some g0) := hgrow3
            have hb3 : But (fun j => j = g0 ∨ j = w1.heap.size) wr w3 := ((But.refl _ wr).alloc _).trans ⟨hgrow3.os, hgrow3.tape, hgrow3.output, hgrow3.size, fun j hj hs => hgrow3.block j hj (fun e => hs (.inl (Option.some.inj e)))⟩
            have hrow3 : OfRow w.heap.size w3.heap.size w3 v3 (vs ++ [lv]) (pre ++ [last]) (.slice none 0 0) [] := (HROW.out.next ((Below.refl _ wr).alloc (Nat.le_refl _) _)).kind (fun y hy => HWF.out last (by rw [HKS.out]; simp) y hy) (by have := HKY.out last (by rw [HKS.out]; simp); omega) hown3 hgrow3
            have hpb3 : w3.heap[w1.heap.size]? = some (.cells #[.int .i64 v, .slice (some ⟨g0, 0, none⟩) (pre.length + 1) c0] 24 (0, 0)) := by
              rw [hgrow3.block w1.heap.size (by simp; omega) (fun e => HGP.out.1 (Option.some.inj e).symm)]
              exact (heap_alloc_old _ _ hpl).trans HPBr.out
            obtain ⟨g, c3, cur3, hv3, hg3, hh3, _⟩ := hrow3.block
            rw [show (pre ++ [last]).length = pre.length + 1 by simp] at hv3
            subst hv3
            have HB3 := Lib.hid hb3
            have HR3 := Lib.hid hrow3
            have HP3 := Lib.hid hpb3
            have f1 : w3.frozen? ⟨w1.heap.size, 1, none⟩ = false := frozen_of_row _ _ _ _ _ hpb3
            have c1 : w3.cell? ⟨w1.heap.size, 1, none⟩ = some (.slice (some ⟨g0, 0, none⟩) (pre.length + 1) c0) := by rw [cell_of_row _ _ _ _ _ _ hpb3]; rfl
            clear hown3 hgrow3 hb3 hrow3 hpb3 hh3
            refine Lib.hid ?_
            go_wp2
            go_roundw
            case rel =>
              have hbs := But.setCell (But.refl (fun j => j = w1.heap.size) w3) (p := ⟨w1.heap.size, 1, none⟩) (.inl rfl) (.slice (some ⟨g, 0, none⟩) (pre.length + 1 + 1) c3)
              have hS : ∀ j, j = g0 ∨ j = w1.heap.size → w.heap.size < j ∧ ∀ cur, wr.heap[j]? ≠ some (.cells cur 9 (0, 0)) := by
                rintro j (rfl | rfl)
                · exact ⟨by have := HGP.out.2; omega, fun cur e => by rw [HH0.out] at e; cases e⟩
                · exact ⟨hs1, fun cur e => by rw [HPBr.out] at e; cases e⟩
              refine of_close (HB3.out.trans (hbs.mono fun j _ h => .inr h)) hS HOW.out HRB.out (heap_setCell_same w3 w1.heap.size 1 _ _ _ HP3.out) HB.out hlt (HST.out.kindTo HK0.out HKW.out ⟨_, vs ++ [lv], pre ++ [last], _, [], by rw [HKS.out], HR3.out.but hbs ?_ ?_⟩)
              · rintro j cur rfl e
                rw [HP3.out] at e
                cases e
              · rintro j cur rfl e
                rw [HP3.out] at e
                cases e
            case measure => simp [intOf]; omega
        · as_aux_lemma =>
          have hd : ((strU x).toList == [107, 105, 110, 100]) = false := by
            rw [strU_toList, beq_eq_false_iff_ne]
            exact hkw
          have HKW := Lib.hid hkw
          clear hkw
          obtain ⟨_, _, _, hwf, hksl, hky, h7⟩ := id HST.out
          have HKY := Lib.hid hky
          have HWF := Lib.hid hwf
          clear hky hwf
          have r0 : wr.cell? ⟨w.heap.size, 0, none⟩ = some (.int .i64 0) := by rw [cell_of_row _ _ _ _ _ _ HRB.out]; rfl
          have r1 : wr.cell? ⟨w.heap.size, 1, none⟩ = some (.slice none 0 0) := by rw [cell_of_row _ _ _ _ _ _ HRB.out]; rfl
          have f0 : wr.frozen? ⟨w.heap.size, 0, none⟩ = false := frozen_of_row _ _ _ _ _ HRB.out
          have f1 : wr.frozen? ⟨w.heap.size, 1, none⟩ = false := frozen_of_row _ _ _ _ _ HRB.out
          rcases h7 with ⟨hks, rfl⟩ | ⟨B2, vs, pre, lv, last, hks, hrow⟩
          · have HNO : Hid (slopT l = none) := by
              show _ = _
              unfold slopT
              rw [← HLS.out, HST.out.given HK0.out HDX.out HKW.out (.inl hks)]
            clear hks
            go_wp2
            obtain ⟨k0, k1⟩ := fin_cells HRB.out (.int .i64 0) (.slice none 0 0)
            refine bodyPost_ret (v := .tuple #[.agg #[.int .i64 0, .slice none 0 0], .bool false]) (by simp [results, Tryd.results20, go_sem, k0, k1]) rfl ⟨?_, ?_⟩
            · exact ((HB.out.setCell (Nat.le_refl _) _).setCell (Nat.le_refl _) _)
            · rw [HNO.out]
          · as_aux_lemma =>
            obtain ⟨g0, c0, cur0, rfl, hg0, hh0, hne0⟩ := hrow.block
            have hksl' : pre.length + 1 ≤ k := by rw [hks] at hksl; simpa using hksl
            have HKS := Lib.hid hks
            have HROW := Lib.hid hrow
            have HH0 := Lib.hid hh0
            have hgp : g0 ≠ w1.heap.size := fun e => by rw [e, HPBr.out] at hh0; cases hh0
            have hgw : g0 ≠ w.heap.size := fun e => by rw [e, HRB.out] at hh0; cases hh0
            have HGP := Lib.hid (And.intro hgp hgw)
            clear hks hrow hh0 hne0 hgp hgw hksl
            by_cases h3 : x.length < 3
            · have HNO : Hid (slopT l = none) := by
                show _ = _
                unfold slopT
                rw [← HLS.out, HST.out.given HK0.out HDX.out HKW.out (.inr h3)]
              go_wp2
              obtain ⟨k0, k1⟩ := fin_cells HRB.out (.int .i64 0) (.slice none 0 0)
              refine bodyPost_ret (v := .tuple #[.agg #[.int .i64 0, .slice none 0 0], .bool false]) (by simp [results, Tryd.results20, go_sem, k0, k1]) rfl ⟨?_, ?_⟩
              · exact ((HB.out.setCell (Nat.le_refl _) _).setCell (Nat.le_refl _) _)
              · rw [HNO.out]
            · have h3' : (2 : Int) ≤ (x.length : Int) := by omega
              obtain ⟨y, hy⟩ : ∃ y, y = x.drop 2 := ⟨_, rfl⟩
              have hyl : y.length + 2 = x.length := by rw [hy, List.length_drop]; omega
              obtain ⟨Y, hY⟩ : ∃ Y, Y = strU y := ⟨_, rfl⟩
              have hYs : Y.size = y.length := by rw [hY, strU_size]
              have HE2 : Hid ((strU x).extract 2 x.length = Y) := by
                show _ = _
                rw [strU_extract, List.take_of_length_le (by simp), hY, hy]
              obtain ⟨aa, haa⟩ : ∃ aa, aa = cutPos y := ⟨_, rfl⟩
              have haa1 : aa ≤ y.length := by rw [haa]; exact cutPos_le y
              have HY := Lib.hid hy
              have HYY := Lib.hid hY
              have HAA := Lib.hid haa
              have hdp : ((pre.length : Int) + 1 == 0) = false := by simp; omega
              clear hy hY haa r0 r1 f0 f1
              by_cases hay : aa < y.length
              · as_aux_lemma =>
                go_wp2
                rw [HE2.out]
                go_loopg [9] aa (fun kx s9 wx => ∃ i : Nat, s9 = .int .i64 i ∧ i ≤ aa ∧ aa - i ≤ kx ∧ wr = wx)
                case atStart => exact ⟨0, rfl, Nat.zero_le _, Nat.le_refl _, rfl⟩
                case round =>
                  obtain ⟨i, rfl, hia, hkx, rfl⟩ := hrel
                  by_cases hlt9 : i < aa
                  · as_aux_lemma =>
                    have hi2 : i < Y.size := by omega
                    have hyi : y[i]'(by omega) ≠ 32 := cutPos_ne y i (by rw [← HAA.out]; exact hlt9) (by omega)
                    have hYi : Y[i] = y[i]'(by omega) := by
                      have := HYY.out
                      subst this
                      exact strU_get y i hi2 (by omega)
                    have hn : ((Y[i].toNat : Int) != 32) = true := by
                      rw [hYi, bne_iff_ne]
                      intro e
                      exact hyi (UInt8.toNat_inj.1 (by simpa using Int.ofNat.inj e))
                    clear hyi hYi
                    go_wp2
                    go_roundg (aa - (i + 1))
                    case measure => omega
                    case rel => exact ⟨i + 1, by go_num, by omega, Nat.le_refl _, rfl⟩
                  · as_aux_lemma =>
                    have hie : aa = i := by omega
                    subst hie
                    have hi2 : aa < Y.size := by omega
                    have hyi : y[aa]'(by omega) = 32 := by
                      have e := cutPos_at y (by rw [← HAA.out]; exact hay)
                      have e2 : y[cutPos y]? = some 32 := by rw [← e]; exact List.getElem?_eq_getElem _
                      rw [← HAA.out, List.getElem?_eq_getElem (show aa < y.length by omega)] at e2
                      exact Option.some.inj e2
                    have hYi : Y[aa] = y[aa]'(by omega) := by
                      have := HYY.out
                      subst this
                      exact strU_get y aa hi2 (by omega)
                    have hn : ((Y[aa].toNat : Int) != 32) = false := by rw [hYi, hyi]; rfl
                    clear hyi hYi
                    clear hlt9 hkx
                    obtain ⟨wo, rfl⟩ : ∃ wo, wo = wr := ⟨_, rfl⟩
                    obtain ⟨u, hu⟩ : ∃ u, u = y.take aa := ⟨_, rfl⟩
                    obtain ⟨U, hU⟩ : ∃ U, U = strU u := ⟨_, rfl⟩
                    have HEU : Hid (Y.extract 0 aa = U) := by
                      show _ = _
                      rw [HYY.out, strU_extract, hU, hu]
                      rfl
                    have HU := Lib.hid hU
                    have HUU := Lib.hid hu
                    clear hu hU
                    have hbx0 : Below wo.heap.size wo (wo.alloc (.cells #[.int .i64 0, .int .i64 0] 49)) := (Below.refl _ wo).alloc (Nat.le_refl _) _
                    have HBX0 := Lib.hid hbx0
                    clear hbx0
                    go_wp2
                    go_loopg [11] 17 (fun kx s11 wx => ∃ o : Nat, s11 = .int .i64 o ∧ o ≤ 17 ∧ 17 - o ≤ kx ∧ Aside (Below wo.heap.size wo wx ∧ wx.heap[wo.heap.size]? = some (.cells #[.int .i64 (opUp u o), .int .i64 0] 49 (0, 0))))
                    case atStart => exact ⟨0, rfl, by omega, Nat.le_refl _, ⟨HBX0.out, heap_alloc_new _ _⟩⟩
                    case round =>
                      obtain ⟨o, rfl, ho, hkx, A⟩ := hrel
                      have hwo : wo.heap.size < wr.heap.size := heap_lt A.out.2
                      have xb0 : wr.cell? ⟨wo.heap.size, 0, none⟩ = some (.int .i64 (opUp u o)) := by rw [cell_of_row _ _ _ _ _ _ A.out.2]; rfl
                      have xb1 : wr.cell? ⟨wo.heap.size, 1, none⟩ = some (.int .i64 0) := by rw [cell_of_row _ _ _ _ _ _ A.out.2]; rfl
                      have xf0 : wr.frozen? ⟨wo.heap.size, 0, none⟩ = false := frozen_of_row _ _ _ _ _ A.out.2
                      have xf1 : wr.frozen? ⟨wo.heap.size, 1, none⟩ = false := frozen_of_row _ _ _ _ _ A.out.2
                      by_cases ho17 : o < 17
                      · as_aux_lemma =>
                        have ho17z : (o : Int) < 17 := by omega
                        obtain ⟨Wd, hWd⟩ : ∃ Wd, Wd = strU (wordAt o) := ⟨_, rfl⟩
                        have WC := Lib.hid hWd
                        obtain ⟨tw, htw⟩ : ∃ tw, tw = (Wd.toList == U.toList) := ⟨_, rfl⟩
                        have hiff : tw = true ↔ wordAt o = u := by
                          rw [htw, hWd, HU.out, strU_toList, strU_toList, beq_iff_eq]
                        have HTW := Lib.hid hiff
                        have hle := HEU.out
                        clear hWd hiff
                        rcases tw with _ | _
                        all_goals
                          have htw' := htw.symm
                          clear htw
                          go_wp2_with fail
                          go_region_with ((go_at_call 40; refine (rwords_o o ho17 _).mono ?_; rintro e w7 ⟨rfl, wc0, hb7⟩; have wc : w7.cell? ⟨wr.heap.size, o, none⟩ = some (.string Wd) := (by rw [WC.out]; exact wc0); have HB7 : Hid (Below wr.heap.size wr w7) := ⟨hb7.os, hb7.tape, hb7.output, hb7.size, hb7.block⟩; clear wc0 hb7))
                          all_goals
                            have hx7 : w7.heap[wo.heap.size]? = some (.cells #[.int .i64 (opUp u o), .int .i64 0] 49 (0, 0)) := (HB7.out.block _ hwo).trans A.out.2
                            have HX7 := Lib.hid hx7
                            have y0 : w7.cell? ⟨wo.heap.size, 0, none⟩ = some (.int .i64 (opUp u o)) := by rw [cell_of_row _ _ _ _ _ _ hx7]; rfl
                            have yf0 : w7.frozen? ⟨wo.heap.size, 0, none⟩ = false := frozen_of_row _ _ _ _ _ hx7
                            have HB77 : Hid (Below wo.heap.size wo w7) := A.out.1.trans (HB7.out.mono A.out.1.size)
                            clear hx7 xb0 xb1 xf0 xf1 wc htw'
                            go_wp2
                            go_roundg (17 - (o + 1))
                            case measure => omega
                            case rel =>
                              first
                                | exact ⟨o + 1, by go_num, by omega, Nat.le_refl _, ⟨HB77.out, by
                                    rw [HX7.out, show opUp u (o + 1) = opUp u o from by rw [opUp, if_neg (fun e => by have := HTW.out.2 e; cases this)]]⟩⟩
                                | exact ⟨o + 1, by go_num, by omega, Nat.le_refl _, ⟨HB77.out.setCell (Nat.le_refl _) _, by
                                    have hs := heap_setCell_same w7 wo.heap.size 0 _ _ (.int .i64 ((o : Int) + 1)) HX7.out
                                    rw [show opUp u (o + 1) = (o : Int) + 1 from by rw [opUp, if_pos (by simpa using HTW.out)]]
                                    exact hs⟩⟩
                      · as_aux_lemma =>
                        have ho' : o = 17 := by omega
                        have hox : wr.heap[wo.heap.size]? = some (.cells #[.int .i64 (opZ u), .int .i64 0] 49 (0, 0)) := by rw [A.out.2, ho', opUp_all]
                        have HOX := Lib.hid hox
                        have HA1 : Hid (Below wo.heap.size wo wr) := A.out.1
                        have hox17 : ¬ (o : Int) < 17 := by omega
                        clear A hox xb0
                        have xb0 : wr.cell? ⟨wo.heap.size, 0, none⟩ = some (.int .i64 (opZ u)) := by rw [cell_of_row _ _ _ _ _ _ HOX.out]; rfl
                        have pw0 : wr.cell? ⟨w1.heap.size, 0, none⟩ = some (.int .i64 v) := (HA1.out.cell (p := ⟨w1.heap.size, 0, none⟩) hpl).trans p0
                        have pw1 : wr.cell? ⟨w1.heap.size, 1, none⟩ = some (.slice (some ⟨g0, 0, none⟩) (pre.length + 1) c0) := (HA1.out.cell (p := ⟨w1.heap.size, 1, none⟩) hpl).trans p1
                        have hvl : (y.drop (aa + 1)).length ≤ 1000000 := by simp; omega
                        have HEV : Hid (Y.extract (aa + 1) y.length = strU (y.drop (aa + 1))) := by
                          show _ = _
                          rw [HYY.out, strU_extract, List.take_of_length_le (by simp)]
                        go_wp2_with (first
                          | (go_at_call 39; rw [HEV.out]; refine (rvalue_any (y.drop (aa + 1)) _ hvl).mono ?_; rintro e w8 ⟨rfl, rfl⟩))
                        obtain ⟨z2, hz2'⟩ : ∃ z2, z2 = valF (y.drop (aa + 1)) := ⟨_, rfl⟩
                        rw [← hz2']
                        obtain ⟨wv, hwv⟩ : ∃ wv, wv = wr.setCell ⟨wo.heap.size, 1, none⟩ (.int .i64 z2) := ⟨_, rfl⟩
                        rw [← hwv]
                        have hbv : Below wo.heap.size wo wv := by rw [hwv]; exact HA1.out.setCell (Nat.le_refl _) _
                        have hxv : wv.heap[wo.heap.size]? = some (.cells #[.int .i64 (opZ u), .int .i64 z2] 49 (0, 0)) := by rw [hwv]; exact heap_setCell_same wr wo.heap.size 1 _ _ _ HOX.out
                        have HZ : Hid (slopIns (x.drop 2) = (opZ u, z2)) := by show _ = _; rw [← HY.out, slopIns_at, ← HAA.out, if_pos hay, ← HUU.out, hz2']
                        clear hwv hz2'
                        have HBV := Lib.hid hbv
                        have HXV := Lib.hid hxv
                        have hpv := (hbv.block _ hpl).trans HPBr.out
                        have HPV := Lib.hid hpv
                        have hhv := (hbv.block _ (heap_lt HH0.out)).trans HH0.out
                        have HHV := Lib.hid hhv
                        obtain ⟨la, lcap, hlv⟩ : ∃ a c, lv = .slice a last.length c := by
                          obtain ⟨_, ⟨e, hn⟩ | ⟨g', cap', cur', e, _⟩⟩ := HROW.out.own
                          · exact ⟨none, 0, by rw [e, hn]⟩
                          · exact ⟨_, cap', e⟩
                        have kc0 : wo.cell? ⟨g0, pre.length, none⟩ = some lv := by
                          rw [World.ownsRow.cellAt HROW.out.row pre.length (by omega), ← HROW.out.pre.1]
                          simp
                        have kc : wv.cell? ⟨g0, pre.length, none⟩ = some (.slice la last.length lcap) := by
                          rw [← hlv]
                          exact (hbv.cell (p := ⟨g0, pre.length, none⟩) (heap_lt HH0.out)).trans kc0
                        have kf : wv.frozen? ⟨g0, pre.length, none⟩ = false := frozen_of_row _ _ _ _ _ hhv
                        have xv0 : wv.cell? ⟨wo.heap.size, 0, none⟩ = some (.int .i64 (opZ u)) := by rw [cell_of_row _ _ _ _ _ _ hxv]; rfl
                        have xv1 : wv.cell? ⟨wo.heap.size, 1, none⟩ = some (.int .i64 z2) := by rw [cell_of_row _ _ _ _ _ _ hxv]; rfl
                        have pv1 : wv.cell? ⟨w1.heap.size, 1, none⟩ = some (.slice (some ⟨g0, 0, none⟩) (pre.length + 1) c0) := by rw [cell_of_row _ _ _ _ _ _ hpv]; rfl
                        have hlast : last.length ≤ k := HKY.out last (by rw [HKS.out]; simp)
                        have hne : ∀ j, lv.ownBlock = some j → j ≠ g0 ∧ j ≠ w1.heap.size ∧ w.heap.size < j ∧ ∀ cur, wo.heap[j]? ≠ some (.cells cur 9 (0, 0)) := by
                          intro j hj
                          obtain ⟨_, ⟨e, _⟩ | ⟨g', cap', cur', e, hg', hh', _⟩⟩ := HROW.out.own
                          · rw [e] at hj; cases hj
                          · rw [e] at hj
                            have hj' : g' = j := Option.some.inj hj
                            subst hj'
                            refine ⟨fun e2 => ?_, fun e2 => ?_, ?_, fun cur e2 => ?_⟩
                            · rw [e2, HH0.out] at hh'; cases hh'
                            · rw [e2, HPBr.out] at hh'; cases hh'
                            · have h1 := HROW.out.le
                              rcases Nat.lt_or_ge w.heap.size g' with h | h
                              · exact h
                              · have e3 : g' = w.heap.size := by omega
                                rw [e3, HRB.out] at hh'; cases hh'
                            · rw [hh'] at e2; cases e2
                        have HNE2 := Lib.hid hne
                        have hrv : OfRow w.heap.size B2 wv.drew (.slice (some ⟨g0, 0, none⟩) (pre.length + 1) c0) vs pre lv last := (HROW.out.but (S := fun _ => False) (But.of hbv) (fun _ _ h => h.elim) (fun _ _ h => h.elim)).but (S := fun _ => False) ((But.refl _ wv).drew) (fun _ _ h => h.elim) (fun _ _ h => h.elim)
                        have HRV := Lib.hid hrv
                        have HLV := Lib.hid hlv
                        have hB2 : B2 ≤ wv.heap.size := hrv.hi
                        have hwov : wo.heap.size ≤ wv.heap.size := hbv.size
                        have hown0 : wv.drew.ownsRow B2 49 2 (.slice la last.length lcap) last.length (insCells last) := by rw [← hlv]; exact hrv.own
                        have HOWN0 := Lib.hid hown0
                        have hip : (pre.length : Int) < (pre.length : Int) + 1 := by omega
                        have hg0v : g0 < wv.heap.size := heap_lt HHV.out
                        have hw1v : w1.heap.size < wv.heap.size := heap_lt HPV.out
                        have hwov2 : wo.heap.size < wv.heap.size := heap_lt HXV.out
                        clear hbv hxv hpv hhv hlv kc0 hne hrv hown0 xb0 xb1 xf0 xf1 pw0 pw1
                        go_region_law (first
                          | (refine step_append_own rfl _ _ 46 rfl B2 49 i0 (.agg #[.int .i64 0, .int .i64 0]) 2 16 Tryd.underlying46 hi hz0 hz1 hz2 rfl (by decide) (.slice la last.length lcap) _ _ (by simp [Act.eval]) (World.ownsRow.alloc HOWN0.out _) ⟨wv.heap.size, 0, none⟩ 1 1 [.int .i64 (opZ u), .int .i64 z2] (by simp [Act.eval]) rfl (two_cells _ _ _ _ _) (two_one _ _) (by unfold maxLen; omega) (by omega) (by simp; omega) ?_; intro v6 w6 hown6 hgrow6; have hgrow6 : (wv.drew.alloc (.cells #[.int .i64 (opZ u), .int .i64 z2] 49)).grownBy w6 (Value.slice la last.length lcap).ownBlock := hgrow6; have ho6 : IOwn B2 w6 v6 (last ++ [(opZ u, z2)]) := IOwn.of hown6 (by simp) (insCells_snoc last (opZ u, z2)); have hbl : ∀ j, j < wv.heap.size → (Value.slice la last.length lcap).ownBlock ≠ some j → w6.heap[j]? = wv.heap[j]? := (fun j hj hn => (hgrow6.block j (Nat.lt_of_lt_of_le hj (by simp)) (fun e => hn e.symm)).trans (heap_alloc_old _ _ hj)); have HBL := Lib.hid hbl; have HO6 := Lib.hid ho6; have HG6 := Lib.hid hgrow6; obtain ⟨a6, c6, hv6⟩ : ∃ a c, v6 = .slice a (last.length + 1) c := (by obtain ⟨_, ⟨e, hn⟩ | ⟨g', cap', cur', e, _⟩⟩ := hown6; exact absurd hn (by omega); exact ⟨_, cap', e⟩); subst hv6; have h6 : w6.heap[g0]? = some (.cells cur0 46 (0, 0)) := (hbl g0 (heap_lt HHV.out) (fun e => (HNE2.out g0 (by rw [HLV.out]; exact e)).1 rfl)).trans HHV.out; have kf6 : w6.frozen? ⟨g0, pre.length, none⟩ = false := frozen_of_row _ _ _ _ _ h6; have kc6 : w6.cell? ⟨g0, pre.length, none⟩ = some (.slice la last.length lcap) := (World.cell?_of_block (a := ⟨g0, pre.length, none⟩) (h6.trans HHV.out.symm)).trans kc; have H6 := Lib.hid h6; have hp6 := (hbl w1.heap.size hw1v (fun e => (HNE2.out w1.heap.size (by rw [HLV.out]; exact e)).2.1 rfl)).trans HPV.out; have pv6 : w6.cell? ⟨w1.heap.size, 1, none⟩ = some (.slice (some ⟨g0, 0, none⟩) (pre.length + 1) c0) := (by rw [cell_of_row _ _ _ _ _ _ hp6]; rfl); have HP6 := Lib.hid hp6; clear hown6 hgrow6 ho6 hbl h6 hp6; dsimp only))
                        all_goals
                          go_wp2
                          go_roundw
                          case rel =>
                            have hfin := (HRV.out.next ((Below.refl _ wv.drew).alloc (Nat.le_refl _) (.cells #[.int .i64 (opZ u), .int .i64 z2] 49))).put (by rw [HLV.out]; exact HG6.out) HO6.out rfl
                            rw [← HZ.out] at hfin
                            have hst2 : OfSt w.heap.size ls k wo v (.slice (some ⟨g0, 0, none⟩) (pre.length + 1) c0) (pre ++ [last]) := by have h := HST.out; rw [HKS.out] at h; exact h
                            have hbut : But (fun j => j = g0 ∨ lv.ownBlock = some j) wo (w6.setCell ⟨g0, pre.length, none⟩ (.slice a6 (last.length + 1) c6)) :=
                              (((((But.of HBV.out).drew).alloc _).trans ⟨HG6.out.os, HG6.out.tape, HG6.out.output, HG6.out.size, fun j hj hs => HG6.out.block j hj (fun e => hs (.inr (by rw [HLV.out]; exact e.symm)))⟩).setCell (.inl (.inl rfl)) _)
                            refine of_close hbut ?_ HOW.out HRB.out ((Below.heap_setCell _ _ _ _ (fun e => HGP.out.1 e.symm)).trans HP6.out) HB.out hlt (hst2.insTo HK0.out HDX.out HKW.out (by omega) hfin)
                            rintro j (hj | hj)
                            · subst hj
                              exact ⟨by have := HGP.out.2; omega, fun cur e => by rw [HH0.out] at e; cases e⟩
                            · exact ⟨(HNE2.out j hj).2.2.1, (HNE2.out j hj).2.2.2⟩
                          case measure => simp [intOf]; omega
              · as_aux_lemma =>
                go_wp2
                rw [HE2.out]
                go_loopg [9] aa (fun kx s9 wx => ∃ i : Nat, s9 = .int .i64 i ∧ i ≤ aa ∧ aa - i ≤ kx ∧ wr = wx)
                case atStart => exact ⟨0, rfl, Nat.zero_le _, Nat.le_refl _, rfl⟩
                case round =>
                  obtain ⟨i, rfl, hia, hkx, rfl⟩ := hrel
                  by_cases hlt9 : i < aa
                  · as_aux_lemma =>
                    have hi2 : i < Y.size := by omega
                    have hyi : y[i]'(by omega) ≠ 32 := cutPos_ne y i (by rw [← HAA.out]; exact hlt9) (by omega)
                    have hYi : Y[i] = y[i]'(by omega) := by
                      have := HYY.out
                      subst this
                      exact strU_get y i hi2 (by omega)
                    have hn : ((Y[i].toNat : Int) != 32) = true := by
                      rw [hYi, bne_iff_ne]
                      intro e
                      exact hyi (UInt8.toNat_inj.1 (by simpa using Int.ofNat.inj e))
                    clear hyi hYi
                    go_wp2
                    go_roundg (aa - (i + 1))
                    case measure => omega
                    case rel => exact ⟨i + 1, by go_num, by omega, Nat.le_refl _, rfl⟩
                  · as_aux_lemma =>
                    have hie : aa = i := by omega
                    subst hie
                    have hayz : ¬ (aa : Int) < (y.length : Int) := by omega
                    clear hlt9 hkx
                    obtain ⟨wo, rfl⟩ : ∃ wo, wo = wr := ⟨_, rfl⟩
                    obtain ⟨u, hu⟩ : ∃ u, u = y.take aa := ⟨_, rfl⟩
                    obtain ⟨U, hU⟩ : ∃ U, U = strU u := ⟨_, rfl⟩
                    have HEU : Hid (Y.extract 0 aa = U) := by
                      show _ = _
                      rw [HYY.out, strU_extract, hU, hu]
                      rfl
                    have HU := Lib.hid hU
                    have HUU := Lib.hid hu
                    clear hu hU
                    have hbx0 : Below wo.heap.size wo (wo.alloc (.cells #[.int .i64 0, .int .i64 0] 49)) := (Below.refl _ wo).alloc (Nat.le_refl _) _
                    have HBX0 := Lib.hid hbx0
                    clear hbx0
                    go_wp2
                    go_loopg [11] 17 (fun kx s11 wx => ∃ o : Nat, s11 = .int .i64 o ∧ o ≤ 17 ∧ 17 - o ≤ kx ∧ Aside (Below wo.heap.size wo wx ∧ wx.heap[wo.heap.size]? = some (.cells #[.int .i64 (opUp u o), .int .i64 0] 49 (0, 0))))
                    case atStart => exact ⟨0, rfl, by omega, Nat.le_refl _, ⟨HBX0.out, heap_alloc_new _ _⟩⟩
                    case round =>
                      obtain ⟨o, rfl, ho, hkx, A⟩ := hrel
                      have hwo : wo.heap.size < wr.heap.size := heap_lt A.out.2
                      have xb0 : wr.cell? ⟨wo.heap.size, 0, none⟩ = some (.int .i64 (opUp u o)) := by rw [cell_of_row _ _ _ _ _ _ A.out.2]; rfl
                      have xb1 : wr.cell? ⟨wo.heap.size, 1, none⟩ = some (.int .i64 0) := by rw [cell_of_row _ _ _ _ _ _ A.out.2]; rfl
                      have xf0 : wr.frozen? ⟨wo.heap.size, 0, none⟩ = false := frozen_of_row _ _ _ _ _ A.out.2
                      have xf1 : wr.frozen? ⟨wo.heap.size, 1, none⟩ = false := frozen_of_row _ _ _ _ _ A.out.2
                      by_cases ho17 : o < 17
                      · as_aux_lemma =>
                        have ho17z : (o : Int) < 17 := by omega
                        obtain ⟨Wd, hWd⟩ : ∃ Wd, Wd = strU (wordAt o) := ⟨_, rfl⟩
                        have WC := Lib.hid hWd
                        obtain ⟨tw, htw⟩ : ∃ tw, tw = (Wd.toList == U.toList) := ⟨_, rfl⟩
                        have hiff : tw = true ↔ wordAt o = u := by
                          rw [htw, hWd, HU.out, strU_toList, strU_toList, beq_iff_eq]
                        have HTW := Lib.hid hiff
                        have hle := HEU.out
                        clear hWd hiff
                        rcases tw with _ | _
                        all_goals
                          have htw' := htw.symm
                          clear htw
                          go_wp2_with fail
                          go_region_with ((go_at_call 40; refine (rwords_o o ho17 _).mono ?_; rintro e w7 ⟨rfl, wc0, hb7⟩; have wc : w7.cell? ⟨wr.heap.size, o, none⟩ = some (.string Wd) := (by rw [WC.out]; exact wc0); have HB7 : Hid (Below wr.heap.size wr w7) := ⟨hb7.os, hb7.tape, hb7.output, hb7.size, hb7.block⟩; clear wc0 hb7))
                          all_goals
                            have hx7 : w7.heap[wo.heap.size]? = some (.cells #[.int .i64 (opUp u o), .int .i64 0] 49 (0, 0)) := (HB7.out.block _ hwo).trans A.out.2
                            have HX7 := Lib.hid hx7
                            have y0 : w7.cell? ⟨wo.heap.size, 0, none⟩ = some (.int .i64 (opUp u o)) := by rw [cell_of_row _ _ _ _ _ _ hx7]; rfl
                            have yf0 : w7.frozen? ⟨wo.heap.size, 0, none⟩ = false := frozen_of_row _ _ _ _ _ hx7
                            have HB77 : Hid (Below wo.heap.size wo w7) := A.out.1.trans (HB7.out.mono A.out.1.size)
                            clear hx7 xb0 xb1 xf0 xf1 wc htw'
                            go_wp2
                            go_roundg (17 - (o + 1))
                            case measure => omega
                            case rel =>
                              first
                                | exact ⟨o + 1, by go_num, by omega, Nat.le_refl _, ⟨HB77.out, by
                                    rw [HX7.out, show opUp u (o + 1) = opUp u o from by rw [opUp, if_neg (fun e => by have := HTW.out.2 e; cases this)]]⟩⟩
                                | exact ⟨o + 1, by go_num, by omega, Nat.le_refl _, ⟨HB77.out.setCell (Nat.le_refl _) _, by
                                    have hs := heap_setCell_same w7 wo.heap.size 0 _ _ (.int .i64 ((o : Int) + 1)) HX7.out
                                    rw [show opUp u (o + 1) = (o : Int) + 1 from by rw [opUp, if_pos (by simpa using HTW.out)]]
                                    exact hs⟩⟩
                      · as_aux_lemma =>
                        have ho' : o = 17 := by omega
                        have hox : wr.heap[wo.heap.size]? = some (.cells #[.int .i64 (opZ u), .int .i64 0] 49 (0, 0)) := by rw [A.out.2, ho', opUp_all]
                        have HOX := Lib.hid hox
                        have HA1 : Hid (Below wo.heap.size wo wr) := A.out.1
                        have hox17 : ¬ (o : Int) < 17 := by omega
                        clear A hox xb0
                        have xb0 : wr.cell? ⟨wo.heap.size, 0, none⟩ = some (.int .i64 (opZ u)) := by rw [cell_of_row _ _ _ _ _ _ HOX.out]; rfl
                        have pw0 : wr.cell? ⟨w1.heap.size, 0, none⟩ = some (.int .i64 v) := (HA1.out.cell (p := ⟨w1.heap.size, 0, none⟩) hpl).trans p0
                        have pw1 : wr.cell? ⟨w1.heap.size, 1, none⟩ = some (.slice (some ⟨g0, 0, none⟩) (pre.length + 1) c0) := (HA1.out.cell (p := ⟨w1.heap.size, 1, none⟩) hpl).trans p1
                        go_wp2
                        obtain ⟨z2, hz2'⟩ : ∃ z2 : Int, z2 = 0 := ⟨_, rfl⟩
                        obtain ⟨wv, hwv⟩ : ∃ wv, wv = wr := ⟨_, rfl⟩
                        have hbv : Below wo.heap.size wo wv := by rw [hwv]; exact HA1.out
                        have hxv : wv.heap[wo.heap.size]? = some (.cells #[.int .i64 (opZ u), .int .i64 z2] 49 (0, 0)) := by rw [hwv, hz2']; exact HOX.out
                        have HZ : Hid (slopIns (x.drop 2) = (opZ u, z2)) := by show _ = _; rw [← HY.out, slopIns_at, ← HAA.out, if_neg hay, ← HUU.out, hz2']
                        rw [← hwv]
                        clear hwv hz2'
                        have HBV := Lib.hid hbv
                        have HXV := Lib.hid hxv
                        have hpv := (hbv.block _ hpl).trans HPBr.out
                        have HPV := Lib.hid hpv
                        have hhv := (hbv.block _ (heap_lt HH0.out)).trans HH0.out
                        have HHV := Lib.hid hhv
                        obtain ⟨la, lcap, hlv⟩ : ∃ a c, lv = .slice a last.length c := by
                          obtain ⟨_, ⟨e, hn⟩ | ⟨g', cap', cur', e, _⟩⟩ := HROW.out.own
                          · exact ⟨none, 0, by rw [e, hn]⟩
                          · exact ⟨_, cap', e⟩
                        have kc0 : wo.cell? ⟨g0, pre.length, none⟩ = some lv := by
                          rw [World.ownsRow.cellAt HROW.out.row pre.length (by omega), ← HROW.out.pre.1]
                          simp
                        have kc : wv.cell? ⟨g0, pre.length, none⟩ = some (.slice la last.length lcap) := by
                          rw [← hlv]
                          exact (hbv.cell (p := ⟨g0, pre.length, none⟩) (heap_lt HH0.out)).trans kc0
                        have kf : wv.frozen? ⟨g0, pre.length, none⟩ = false := frozen_of_row _ _ _ _ _ hhv
                        have xv0 : wv.cell? ⟨wo.heap.size, 0, none⟩ = some (.int .i64 (opZ u)) := by rw [cell_of_row _ _ _ _ _ _ hxv]; rfl
                        have xv1 : wv.cell? ⟨wo.heap.size, 1, none⟩ = some (.int .i64 z2) := by rw [cell_of_row _ _ _ _ _ _ hxv]; rfl
                        have pv1 : wv.cell? ⟨w1.heap.size, 1, none⟩ = some (.slice (some ⟨g0, 0, none⟩) (pre.length + 1) c0) := by rw [cell_of_row _ _ _ _ _ _ hpv]; rfl
                        have hlast : last.length ≤ k := HKY.out last (by rw [HKS.out]; simp)
                        have hne : ∀ j, lv.ownBlock = some j → j ≠ g0 ∧ j ≠ w1.heap.size ∧ w.heap.size < j ∧ ∀ cur, wo.heap[j]? ≠ some (.cells cur 9 (0, 0)) := by
                          intro j hj
                          obtain ⟨_, ⟨e, _⟩ | ⟨g', cap', cur', e, hg', hh', _⟩⟩ := HROW.out.own
                          · rw [e] at hj; cases hj
                          · rw [e] at hj
                            have hj' : g' = j := Option.some.inj hj
                            subst hj'
                            refine ⟨fun e2 => ?_, fun e2 => ?_, ?_, fun cur e2 => ?_⟩
                            · rw [e2, HH0.out] at hh'; cases hh'
                            · rw [e2, HPBr.out] at hh'; cases hh'
                            · have h1 := HROW.out.le
                              rcases Nat.lt_or_ge w.heap.size g' with h | h
                              · exact h
                              · have e3 : g' = w.heap.size := by omega
                                rw [e3, HRB.out] at hh'; cases hh'
                            · rw [hh'] at e2; cases e2
                        have HNE2 := Lib.hid hne
                        have hrv : OfRow w.heap.size B2 wv.drew (.slice (some ⟨g0, 0, none⟩) (pre.length + 1) c0) vs pre lv last := (HROW.out.but (S := fun _ => False) (But.of hbv) (fun _ _ h => h.elim) (fun _ _ h => h.elim)).but (S := fun _ => False) ((But.refl _ wv).drew) (fun _ _ h => h.elim) (fun _ _ h => h.elim)
                        have HRV := Lib.hid hrv
                        have HLV := Lib.hid hlv
                        have hB2 : B2 ≤ wv.heap.size := hrv.hi
                        have hwov : wo.heap.size ≤ wv.heap.size := hbv.size
                        have hown0 : wv.drew.ownsRow B2 49 2 (.slice la last.length lcap) last.length (insCells last) := by rw [← hlv]; exact hrv.own
                        have HOWN0 := Lib.hid hown0
                        have hip : (pre.length : Int) < (pre.length : Int) + 1 := by omega
                        have hg0v : g0 < wv.heap.size := heap_lt HHV.out
                        have hw1v : w1.heap.size < wv.heap.size := heap_lt HPV.out
                        have hwov2 : wo.heap.size < wv.heap.size := heap_lt HXV.out
                        clear hbv hxv hpv hhv hlv kc0 hne hrv hown0 xb0 xb1 xf0 xf1 pw0 pw1
                        go_region_law (first
                          | (refine step_append_own rfl _ _ 46 rfl B2 49 i0 (.agg #[.int .i64 0, .int .i64 0]) 2 16 Tryd.underlying46 hi hz0 hz1 hz2 rfl (by decide) (.slice la last.length lcap) _ _ (by simp [Act.eval]) (World.ownsRow.alloc HOWN0.out _) ⟨wv.heap.size, 0, none⟩ 1 1 [.int .i64 (opZ u), .int .i64 z2] (by simp [Act.eval]) rfl (two_cells _ _ _ _ _) (two_one _ _) (by unfold maxLen; omega) (by omega) (by simp; omega) ?_; intro v6 w6 hown6 hgrow6; have hgrow6 : (wv.drew.alloc (.cells #[.int .i64 (opZ u), .int .i64 z2] 49)).grownBy w6 (Value.slice la last.length lcap).ownBlock := hgrow6; have ho6 : IOwn B2 w6 v6 (last ++ [(opZ u, z2)]) := IOwn.of hown6 (by simp) (insCells_snoc last (opZ u, z2)); have hbl : ∀ j, j < wv.heap.size → (Value.slice la last.length lcap).ownBlock ≠ some j → w6.heap[j]? = wv.heap[j]? := (fun j hj hn => (hgrow6.block j (Nat.lt_of_lt_of_le hj (by simp)) (fun e => hn e.symm)).trans (heap_alloc_old _ _ hj)); have HBL := Lib.hid hbl; have HO6 := Lib.hid ho6; have HG6 := Lib.hid hgrow6; obtain ⟨a6, c6, hv6⟩ : ∃ a c, v6 = .slice a (last.length + 1) c := (by obtain ⟨_, ⟨e, hn⟩ | ⟨g', cap', cur', e, _⟩⟩ := hown6; exact absurd hn (by omega); exact ⟨_, cap', e⟩); subst hv6; have h6 : w6.heap[g0]? = some (.cells cur0 46 (0, 0)) := (hbl g0 (heap_lt HHV.out) (fun e => (HNE2.out g0 (by rw [HLV.out]; exact e)).1 rfl)).trans HHV.out; have kf6 : w6.frozen? ⟨g0, pre.length, none⟩ = false := frozen_of_row _ _ _ _ _ h6; have kc6 : w6.cell? ⟨g0, pre.length, none⟩ = some (.slice la last.length lcap) := (World.cell?_of_block (a := ⟨g0, pre.length, none⟩) (h6.trans HHV.out.symm)).trans kc; have H6 := Lib.hid h6; have hp6 := (hbl w1.heap.size hw1v (fun e => (HNE2.out w1.heap.size (by rw [HLV.out]; exact e)).2.1 rfl)).trans HPV.out; have pv6 : w6.cell? ⟨w1.heap.size, 1, none⟩ = some (.slice (some ⟨g0, 0, none⟩) (pre.length + 1) c0) := (by rw [cell_of_row _ _ _ _ _ _ hp6]; rfl); have HP6 := Lib.hid hp6; clear hown6 hgrow6 ho6 hbl h6 hp6; dsimp only))
                        all_goals
                          go_wp2
                          go_roundw
                          case rel =>
                            have hfin := (HRV.out.next ((Below.refl _ wv.drew).alloc (Nat.le_refl _) (.cells #[.int .i64 (opZ u), .int .i64 z2] 49))).put (by rw [HLV.out]; exact HG6.out) HO6.out rfl
                            rw [← HZ.out] at hfin
                            have hst2 : OfSt w.heap.size ls k wo v (.slice (some ⟨g0, 0, none⟩) (pre.length + 1) c0) (pre ++ [last]) := by have h := HST.out; rw [HKS.out] at h; exact h
                            have hbut : But (fun j => j = g0 ∨ lv.ownBlock = some j) wo (w6.setCell ⟨g0, pre.length, none⟩ (.slice a6 (last.length + 1) c6)) :=
                              (((((But.of HBV.out).drew).alloc _).trans ⟨HG6.out.os, HG6.out.tape, HG6.out.output, HG6.out.size, fun j hj hs => HG6.out.block j hj (fun e => hs (.inr (by rw [HLV.out]; exact e.symm)))⟩).setCell (.inl (.inl rfl)) _)
                            refine of_close hbut ?_ HOW.out HRB.out ((Below.heap_setCell _ _ _ _ (fun e => HGP.out.1 e.symm)).trans HP6.out) HB.out hlt (hst2.insTo HK0.out HDX.out HKW.out (by omega) hfin)
                            rintro j (hj | hj)
                            · subst hj
                              exact ⟨by have := HGP.out.2; omega, fun cur e => by rw [HH0.out] at e; cases e⟩
                            · exact ⟨(HNE2.out j hj).2.2.1, (HNE2.out j hj).2.2.2⟩
                          case measure => simp [intOf]; omega
    · as_aux_lemma =>
      obtain rfl : k = ls.length := by omega
      have HF := Lib.hid HST.out.fin
      obtain ⟨pa, pc, rfl, hsl, hcop, hpg⟩ := HST.out.prog (by omega)
      have HSL := Lib.hid hsl
      have HCOP := Lib.hid hcop
      have HPG := Lib.hid hpg
      clear hread hsl hcop hpg
      rcases hmay : CodM.may ks.length ⟨v, ks⟩ with _ | _
      · have HMAY := Lib.hid hmay
        have HNO : Hid (slopT l = none) := by
          show _ = _
          unfold slopT
          rw [← HLS.out, HF.out]
          simp only
          rw [if_neg (by rintro ⟨h, _⟩; rw [show CodM.may (codeNk ⟨v, ks⟩) ⟨v, ks⟩ = false from HMAY.out] at h; cases h)]
        clear hmay
        have r0 : wr.cell? ⟨w.heap.size, 0, none⟩ = some (.int .i64 0) := by rw [cell_of_row _ _ _ _ _ _ HRB.out]; rfl
        have r1 : wr.cell? ⟨w.heap.size, 1, none⟩ = some (.slice none 0 0) := by rw [cell_of_row _ _ _ _ _ _ HRB.out]; rfl
        have hsw : w.heap.size < wr.heap.size := heap_lt HRB.out
        go_wp2_with (first
          | (go_at_call 11; refine (rmay_any pa _ pc ⟨v, ks⟩ _ HPG.out).mono ?_; rintro e w3 ⟨rfl, hb3⟩; rw [HMAY.out]; have HRB3 := Lib.hid ((hb3.block w.heap.size hsw).trans HRB.out); have HB3 := Lib.hid hb3; clear hb3 r0 r1; have r0 : w3.cell? ⟨w.heap.size, 0, none⟩ = some (.int .i64 0) := (by rw [cell_of_row _ _ _ _ _ _ HRB3.out]; rfl); have r1 : w3.cell? ⟨w.heap.size, 1, none⟩ = some (.slice none 0 0) := (by rw [cell_of_row _ _ _ _ _ _ HRB3.out]; rfl); have f0 : w3.frozen? ⟨w.heap.size, 0, none⟩ = false := frozen_of_row _ _ _ _ _ HRB3.out; have f1 : w3.frozen? ⟨w.heap.size, 1, none⟩ = false := frozen_of_row _ _ _ _ _ HRB3.out))
        obtain ⟨k0, k1⟩ := fin_cells HRB3.out (.int .i64 0) (.slice none 0 0)
        refine bodyPost_ret (v := .tuple #[.agg #[.int .i64 0, .slice none 0 0], .bool false]) (by simp [results, Tryd.results20, go_sem, k0, k1]) rfl ⟨?_, ?_⟩
        · exact (((HB.out.trans (HB3.out.mono hszr)).setCell (Nat.le_refl _) _).setCell (Nat.le_refl _) _)
        · rw [HNO.out]
      · have HMAY := Lib.hid hmay
        have hsw : w.heap.size < wr.heap.size := heap_lt HRB.out
        clear hmay p0 p1 q0 q1
        have p0 : wr.cell? ⟨w1.heap.size, 0, none⟩ = some (.int .i64 v) := by rw [cell_of_row _ _ _ _ _ _ HPBr.out]; rfl
        have p1 : wr.cell? ⟨w1.heap.size, 1, none⟩ = some (.slice pa ks.length pc) := by rw [cell_of_row _ _ _ _ _ _ HPBr.out]; rfl
        go_wp2_with (first
          | (go_at_call 11; refine (rmay_any pa _ pc ⟨v, ks⟩ _ HPG.out).mono ?_; rintro e w3 ⟨rfl, hb3⟩; rw [HMAY.out]; have HPG3 := Lib.hid (ProgAt.below HPG.out hb3 (Nat.le_refl _)); have HRB3 := Lib.hid ((hb3.block w.heap.size hsw).trans HRB.out); have HPB3 := Lib.hid ((hb3.block w1.heap.size hpl).trans HPBr.out); have HB3 := Lib.hid hb3; have hs3 := hb3.size; clear hb3; have p0 : w3.cell? ⟨w1.heap.size, 0, none⟩ = some (.int .i64 v) := (by rw [cell_of_row _ _ _ _ _ _ HPB3.out]; rfl); have p1 : w3.cell? ⟨w1.heap.size, 1, none⟩ = some (.slice pa ks.length pc) := (by rw [cell_of_row _ _ _ _ _ _ HPB3.out]; rfl))
          | (go_at_call 15; refine (rtext_yes _ pa _ pc v ks HPG3.out HMAY.out).mono ?_; rintro e w4 ⟨rfl, hb4⟩; refine Hid.out ?_))
        have hb34 : Below wr.heap.size wr w4 := HB3.out.trans (hb4.mono hs3)
        have hrb4 := (hb34.block w.heap.size hsw).trans HRB.out
        have hpb4 := (hb34.block w1.heap.size hpl).trans HPBr.out
        have HRB4 := Lib.hid hrb4
        have HB4 := Lib.hid (HB.out.trans (hb34.mono hszr))
        have HCOP4 := Lib.hid (HCOP.out.keep (X := wr.heap.size) (Keep.below _ hb34) (fun cur h => absurd (heap_lt h) (by omega)) (fun cur h => absurd (heap_lt h) (by omega)))
        clear p0 p1
        have p0 : w4.cell? ⟨w1.heap.size, 0, none⟩ = some (.int .i64 v) := (by rw [cell_of_row _ _ _ _ _ _ hpb4]; rfl)
        have p1 : w4.cell? ⟨w1.heap.size, 1, none⟩ = some (.slice pa ks.length pc) := (by rw [cell_of_row _ _ _ _ _ _ hpb4]; rfl)
        have r0 : w4.cell? ⟨w.heap.size, 0, none⟩ = some (.int .i64 0) := (by rw [cell_of_row _ _ _ _ _ _ hrb4]; rfl)
        have r1 : w4.cell? ⟨w.heap.size, 1, none⟩ = some (.slice none 0 0) := (by rw [cell_of_row _ _ _ _ _ _ hrb4]; rfl)
        have f0 : w4.frozen? ⟨w.heap.size, 0, none⟩ = false := frozen_of_row _ _ _ _ _ hrb4
        have f1 : w4.frozen? ⟨w.heap.size, 1, none⟩ = false := frozen_of_row _ _ _ _ _ hrb4
        clear hb4 hb34 hrb4 hpb4
        refine Lib.hid ?_
        by_cases ht : text ⟨v, ks⟩ = l
        · have HYES : Hid (slopT l = some ⟨v, ks⟩) := by
            show _ = _
            unfold slopT
            rw [← HLS.out, HF.out]
            simp only
            rw [if_pos ⟨HMAY.out, ht⟩]
          have hd : (!(strU (text ⟨v, ks⟩)).toList == (strU l).toList) = false := by rw [ht]; simp
          clear ht
          go_wp2
          obtain ⟨k0, k1⟩ := fin_cells HRB4.out (.int .i64 v) (.slice pa ks.length pc)
          refine bodyPost_ret (v := .tuple #[.agg #[.int .i64 v, .slice pa ks.length pc], .bool true]) (by simp [results, Tryd.results20, go_sem, k0, k1]) rfl ⟨?_, ?_⟩
          · exact ((HB4.out.setCell (Nat.le_refl _) _).setCell (Nat.le_refl _) _)
          · rw [HYES.out]
            have hn1 : ∀ t cur', t ≠ 24 → w4.heap[w.heap.size]? ≠ some (.cells cur' t (0, 0)) := fun t cur' ht h => by rw [HRB4.out] at h; cases h; exact ht rfl
            exact ⟨pa, ks.length, pc, rfl, HSL.out, HCOP4.out.keep ((Keep.set _ 0 _).trans (Keep.set _ 1 _)) (fun cur' => hn1 _ cur' (by decide)) (fun cur' => hn1 _ cur' (by decide))⟩
        · have HNO : Hid (slopT l = none) := by
            show _ = _
            unfold slopT
            rw [← HLS.out, HF.out]
            simp only
            rw [if_neg (fun h => ht h.2)]
          have hd : (!(strU (text ⟨v, ks⟩)).toList == (strU l).toList) = true := by rw [strU_toList, strU_toList, Bool.not_eq_true', beq_eq_false_iff_ne]; exact ht
          clear ht
          go_wp2
          obtain ⟨k0, k1⟩ := fin_cells HRB4.out (.int .i64 0) (.slice none 0 0)
          refine bodyPost_ret (v := .tuple #[.agg #[.int .i64 0, .slice none 0 0], .bool false]) (by simp [results, Tryd.results20, go_sem, k0, k1]) rfl ⟨?_, ?_⟩
          · exact ((HB4.out.setCell (Nat.le_refl _) _).setCell (Nat.le_refl _) _)
          · rw [HNO.out]
end Go.Proofs.YtlgbkbmjfmomkaaDoor
