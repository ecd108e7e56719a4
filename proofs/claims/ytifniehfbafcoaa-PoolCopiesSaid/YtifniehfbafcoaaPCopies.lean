/-
  The walk of the law PoolCopies.
-/
import Derived.Test.YtifniehfbafcoaaPCopM
namespace Go.Proofs.Ytifniehfbafcoaa
open Go Go.Shelf Go.RowKit Go.Lib Go.Sort Go.Proofs

attribute [local go_sem] Oper.semAt_some

/-- the end: the one deferred list is taken, it is empty; true is told -/
theorem done_end {w W : World} {G R G2 R2 D : Nat} {x z : List Ms × Nat} {X : List (Nat × Obj)} {tm : Array Value} (h : Fx w W G R G2 R2 x z ((D, .deferred (some [])) :: X)) (hD : w.heap.size ≤ D)
    (hr : (results Try.f4 tm).run Try.prog (W.putObj D (.deferred none)) = .ok (.bool true) (W.putObj D (.deferred none))) :
    LeavesInM Fence.wide 6 Try.prog Try.f4 tm (Tells (.bool true) w) [{ target := .collected D, args := #[] }] .returning W := by
  have hK := h.get (List.Mem.head _)
  refine ⟨by simp, .inl ⟨_, _, rfl, run_takeDeferred hK, ?_⟩⟩
  exact ⟨.bool true, hr, rfl, h.out.trans (belowK_b (n₀ := w.heap.size) (w := w) (Nat.le_refl _) W D _ _ hD hK rfl rfl)⟩

set_option maxHeartbeats 16000000 in
set_option maxRecDepth 100000 in
theorem copies_law (W : World) (a b d : Option Addr) (n m q c e f : Nat) (l r s : List Ac) (hln : l.length = n) (hrm : r.length = m) (hsq : s.length = q) (hl : n ≤ 1000000 → AcC.At W a n l) (hr : m ≤ 1000000 → AcC.At W b m r) (hs : q ≤ 1000000 → AcC.At W d q s) (hn : n ≤ maxLen) (hm : m ≤ maxLen) (hq : q ≤ maxLen) :
    Calls Try.prog 4 #[.slice a n c, .slice b m e, .slice d q f] W (Tells (.bool true) W) := by
  have mixed : Try.prog.follows .mixedOrders = true := by kernel_rfl
  have hfn := fn_nil
  have hn' : n ≤ 9223372036854775807 := hn
  have hm' : m ≤ 9223372036854775807 := hm
  have hq' : q ≤ 9223372036854775807 := hq
  clear hn hm hq
  refine (callsIn_wide (n := 6)).1 ?_
  refine callsIn_of_wp_marks Try.func4 rfl trivial ?_ rfl
  refine wpIn_wide.2 ?_
  simp only [Try.ntmps4, List.size_toArray, List.length_cons, List.length_nil, Nat.reduceAdd, Nat.reduceSub, Array.replicate_succ, Array.replicate_zero, List.push_toArray, List.append_toArray, List.nil_append, List.cons_append]
  go_wp2_with (first
    | (go_at_call 6; refine (known_any _).mono ?_; rintro e w1 ⟨rfl, h1⟩)
    | (go_at_call 7; refine (uno_new (w := W) (Below.refl _ _)).mono ?_; rintro e w1 ⟨G, rfl, h1⟩; have H1 := Lib.hid (dd_new h1); clear h1))
  all_goals first
    | (refine ⟨.bool true, by simp [results, Try.results4, go_sem], rfl, h1⟩)
    | skip
  have hA := hl (by omega)
  have hB := hr (by omega)
  have hC := hs (by omega)
  have hn1 : n ≤ 40 := by omega
  have hm1 : m ≤ 20 := by omega
  have hq1 : q ≤ 20 := by omega
  obtain ⟨R, hR⟩ : ∃ R, R = w1.heap.size := ⟨_, rfl⟩
  rw [← hR] at H1 ⊢
  obtain ⟨w2, hw2⟩ : ∃ w2, w2 = w1.alloc (.cells #[.slice none 0 0, .int .i64 0] 29) := ⟨_, rfl⟩
  rw [← hw2] at H1 ⊢
  have HA := Lib.hid hA
  have HB := Lib.hid hB
  have HC := Lib.hid hC
  have HN1 := Lib.hid hn1
  have HM1 := Lib.hid hm1
  have HQ1 := Lib.hid hq1
  clear hA hB hC hl hr hs hR hw2 hn1 hm1 hq1 hln hrm hsq
  go_loopg [9] n (fun kx s9 wr => ∃ (i : Nat) (x : List Ms × Nat), s9 = .int .i64 i ∧ i ≤ n ∧ n - i ≤ kx ∧ Aside (Dd NoB W wr G R x x [] ∧ x.2 ≤ i))
  case atStart => exact ⟨0, ([], 0), by go_num, Nat.zero_le _, Nat.le_refl _, ⟨H1.out, Nat.le_refl _⟩⟩
  case round =>
    obtain ⟨i, x, rfl, hin, hkx, A⟩ := hrel
    by_cases hlt : i < n
    · have hlz : decide ((i : Int) < (n : Int)) = true := by simpa using hlt
      have hiz : (i : Int) < (n : Int) := by omega
      have hbig : i < 1000000 := by have := HN1.out; omega
      obtain ⟨B, off, rfl, hB, ⟨k, y, mm⟩, hc⟩ := act_cell HA.out hlt
      obtain ⟨x0, x1, x2, x3, x4, x5, x6, x7, x8, x9, x10, x11⟩ := twelve (hc.below A.out.1.old hB)
      have HLL : Hid (x.2 ≤ 40) := by show _ ≤ _; have := A.out.2; have := HN1.out; omega
      clear hc hB
      go_wp2_with (go_at_call 8; refine (do_any NoB W wr G R x A.out.1 (by have := HLL.out; omega) k y mm).mono ?_; rintro e w3 ⟨z, hl2, rfl, h3⟩; have H3 := Lib.hid h3; have H3L := Lib.hid hl2; clear h3 hl2)
      go_roundg (n - (i + 1))
      case measure => omega
      case rel => exact ⟨i + 1, z, by go_num, by omega, Nat.le_refl _, ⟨H3.out, by have := A.out.2; have := H3L.out; omega⟩⟩
    · have hlz : decide ((i : Int) < (n : Int)) = false := by simp; omega
      have HLL : Hid (x.2 ≤ 40) := by show _ ≤ _; have := A.out.2; have := HN1.out; omega
      go_wp2_with (first
        | (go_at_call 13; refine (fx_same2 H6.out true (decide_eq_true ⟨rfl, rfl⟩).symm).mono ?_; rintro e w7 ⟨rfl, h7⟩; have H7 := Lib.hid h7; clear h7)
        | (go_at_call 13; refine (fx_same H5.out.1 true (decide_eq_true ⟨rfl, rfl⟩).symm).mono ?_; rintro e w6 ⟨rfl, h6⟩; have H6 := Lib.hid h6; clear h6)
        | (go_at_call 12; refine (four_all H4.out).mono ?_; rintro e w5 ⟨S0, a5, c5, X, rfl, h5, hX⟩; have H5 := Lib.hid (And.intro h5 hX); clear h5 hX)
        | (go_at_call 11; refine (dd_four H3.out).mono ?_; rintro e w4 ⟨R2, rfl, h4⟩; have H4 := Lib.hid h4; clear h4)
        | (go_at_call 10; refine (dd_three A.out.1).mono ?_; rintro e w3 ⟨G2, rfl, h3⟩; have H3 := Lib.hid h3; clear h3))
      obtain ⟨z, hz⟩ : ∃ z, z = x := ⟨_, rfl⟩
      have A1 : Hid (Fx W w7 G R G2 R2 x z X ∧ z.2 ≤ 40 ∧ x.2 ≤ 40) := by rw [hz]; exact ⟨H7.out, HLL.out, HLL.out⟩
      have HAX : Hid (AllX z.1 S0 a5 c5 X) := by rw [hz]; exact H5.out.2
      obtain ⟨x0, hx0⟩ : ∃ x0, x0 = x := ⟨_, rfl⟩
      have A2 : Hid (Fx W w7 G R G2 R2 x0 z X ∧ x0.2 ≤ 40) := by rw [hx0]; exact ⟨A1.out.1, A1.out.2.2⟩
      have HZ : Hid (z.2 ≤ 40) := A1.out.2.1
      have hxl : x.1.length = z.1.length := by rw [hz]
      rw [hxl] at *
      clear hz hx0 A A1 HLL H3 H4 H5 H6 H7 hlt hlz hkx hin H1 HA HN1
      go_loopg [13] m (fun kx s13 wr => ∃ (i : Nat) (x : List Ms × Nat), s13 = .int .i64 i ∧ i ≤ m ∧ m - i ≤ kx ∧ Aside (Fx W wr G R G2 R2 x z X ∧ x.2 ≤ 40 + i))
      case atStart => exact ⟨0, x0, by go_num, Nat.zero_le _, Nat.le_refl _, ⟨A2.out.1, A2.out.2⟩⟩
      case round =>
        clear A2
        obtain ⟨i, x, rfl, hin, hkx, A⟩ := hrel
        by_cases hlt : i < m
        · have hlz : decide ((i : Int) < (m : Int)) = true := by simpa using hlt
          have hiz : (i : Int) < (m : Int) := by omega
          have hbig : i < 1000000 := by have := HM1.out; omega
          obtain ⟨B, off, rfl, hB, ⟨k, y, mm⟩, hc⟩ := act_cell HB.out hlt
          obtain ⟨x0, x1, x2, x3, x4, x5, x6, x7, x8, x9, x10, x11⟩ := twelve (hc.below A.out.1.out hB)
          have HLL : Hid (x.2 ≤ 1000) := by show _ ≤ _; have := A.out.2; have := HM1.out; omega
          clear hc hB
          go_wp2_with (go_at_call 8; refine (fx_do A.out.1 HLL.out k y mm).mono ?_; rintro e w3 ⟨rfl, x2', hl2, h3⟩; have H3 := Lib.hid h3; have H3L := Lib.hid hl2; clear h3 hl2)
          go_roundg (m - (i + 1))
          case measure => omega
          case rel => exact ⟨i + 1, x2', by go_num, by omega, Nat.le_refl _, ⟨H3.out, by have := A.out.2; have := H3L.out; omega⟩⟩
        · have hlz : decide ((i : Int) < (m : Int)) = false := by simp; omega
          have HLL : Hid (x.2 ≤ 1000) := by show _ ≤ _; have := A.out.2; have := HM1.out; omega
          have A1 : Hid (Fx W wr G R G2 R2 x z X) := A.out.1
          go_wp2_with fail
          refine (wpIn_wide (n := 6)).1 ?_
          refine tmps_named fun tm htm => ?_
          obtain ⟨w5, hw5⟩ : ∃ w5, w5 = wr.alloc (.cells #[.slice none 0 0] 27) := ⟨_, rfl⟩
          have hb5 : Below wr.heap.size wr w5 := by rw [hw5]; exact (Below.refl _ _).alloc (Nat.le_refl _) _
          have hsz : w5.heap.size = wr.heap.size + 1 := by rw [hw5]; simp
          have hbo : Boxed w5 wr.heap.size 27 (.slice none 0 0) := by rw [hw5]; exact Boxed.new wr 27 (.slice none 0 0)
          obtain ⟨hS, hat, -⟩ := HAX.out w5 (A1.out.below hb5).all
          obtain ⟨-, -, b5, hba, hbl⟩ := HAX.out wr A1.out.all
          have hll : z.1.length ≤ 1000000 := hat.2.1
          obtain ⟨i0, hi, hz0, hz1, hz2⟩ := info_parts infoM
          rw [← hw5]
          clear hw5 hlz hlt hkx hin A
          refine wpIn_rangeFunc_ownH rfl (by decide) (gf := 36) (lb := #[.pointer (some ⟨S0, 0, none⟩)]) (by rw [htm]; rfl) trivial (enters_of Try.func36 (by kernel_rfl) rfl)
            (iter_stops Fence.wide 5 trivial rfl (by decide) S0 a5 b5 c5 z.1 hba w5 hS hat) KpB.trans (kpB_b fun p e => by have := hbl p e; omega) (Below.refl _ _) (fun _ => rfl)
            (fun pre V => (∃ v, Boxed V wr.heap.size 27 v ∧ V.ownsRow w5.heap.size 36 10 v pre.length (MsC.cells pre) ∧ True) ∧ Below wr.heap.size w5 V)
            (fun cd pre V => False)
            (OwnFrom.and (Own.from (holdsRow_own w5.heap.size wr.heap.size 27 36 10 (fun pre : List Ms => pre.length) (fun pre => MsC.cells pre) (fun _ _ => True)) _) (ownFrom_below (by omega) (by omega)))
            (fun cd => ownFrom_pure _ _)
            ⟨⟨_, hbo, World.ownsRow_nil _ _ _ _, trivial⟩, Below.refl _ _⟩
            (fun y a' V => ∃ Bx, w5.heap.size ≤ Bx ∧ V.heap[Bx]? = some (MsO y) ∧ a' = { tmps := (tm.setIfInBounds 83 (MsV y)).setIfInBounds 15 (.pointer (some ⟨Bx, 0, none⟩)), defers := [] })
            (fun x a' _ X Y row hs hg hr => by
              obtain ⟨Bx, h1, h2, h3⟩ := hs
              exact ⟨Bx, h1, (hg.block Bx (Array.getElem?_eq_some_iff.1 h2).1 (fun e => by obtain ⟨_, o, ho, hoc⟩ := hr Bx e.symm; rw [h2] at ho; cases ho; cases hoc)).trans h2, h3⟩)
            ?assign ?body ?done ?stop
          case assign =>
            rintro l pre y V K ⟨⟨v, hv, hrow, -⟩, hB1⟩ hK
            subst htm
            gi_wp2
            exact hK _ _ ((KeepsOthers.alloc _ _).from _) ((KpB.refl _ _).alloc _) ⟨⟨v, hv.alloc _, hrow.alloc _, trivial⟩, hB1.alloc (by have := hB1.size; omega) _⟩ ⟨V.heap.size, hB1.size, heap_alloc_new _ _, rfl⟩
          case body =>
            rintro l pre y a' V hl ⟨r, hr⟩ ⟨⟨v, hv, hrow, -⟩, hB1⟩ ⟨Bx, hBx, bX, rfl⟩ hlt
            subst htm
            simp only [List.setIfInBounds_toArray, List.set_cons_succ, List.set_cons_zero]
            have hc := hv.cell
            obtain ⟨⟨x0, x1, x2, x3, x4, x5, x6, x7, x8, x9⟩, -⟩ := box_here bX
            have hsW := hB1.size
            have HPL : Hid (pre.length + 1 ≤ 1000000) := by show _ ≤ _; omega
            gi_wp2_with (gi_at_builtin; refine wpListIn_append_own _ rfl _ _ 27 rfl w5.heap.size 36 i0 _ 10 72 Try.underlying27 hi hz0 hz1 hz2 rfl (by decide) _ _ _ rfl (hrow.alloc _) ⟨V.heap.size, 0, none⟩ 1 1 (encM y) rfl rfl (one_enc V y) (encM_one y) (by have := HPL.out; unfold maxLen; omega) (by have := HPL.out; omega) (by simp; omega) ?_; intro v' w2 hown' hgrow _; obtain ⟨g', cap', rfl⟩ := ownsRow_succ hown'; obtain ⟨hv1, hv2, hr2, hk2, hb2'⟩ := hv.appended (n₀ := wr.heap.size) (by decide) (ownsRow_mono hrow (by omega)) (by omega) (by omega) (ownsRow_mono hown' (by omega)) hgrow; have hc1 := hv1.cell; have hf1 := hv1.frozen)
            all_goals
              have hkp : KpB b5 V (w2.setCell ⟨wr.heap.size, 0, none⟩ (.slice (some ⟨g', 0, none⟩) (pre.length + 1) cap')) := ⟨hb2'.size, fun p e _ => hb2'.block _ (hbl p e)⟩
              have hr3 := hown'.kept (grownBy_setCell' w2 wr.heap.size (.slice (some ⟨g', 0, none⟩) (pre.length + 1) cap')) (.inr (hv1.not_row (by decide) hown').symm)
              have hr4 : (w2.setCell ⟨wr.heap.size, 0, none⟩ (.slice (some ⟨g', 0, none⟩) (pre.length + 1) cap')).ownsRow w5.heap.size 36 10 (.slice (some ⟨g', 0, none⟩) (pre.length + 1) cap') (pre ++ [y]).length (MsC.cells (pre ++ [y])) := by
                rw [List.length_append, cells_snoc]
                exact hr3
              exact ⟨hk2.from _, hkp, ⟨_, hv2, hr4, trivial⟩, hB1.trans hb2'⟩
          case done =>
            rintro D xs V hD rfl ⟨⟨v, hv, hrow, -⟩, hB1⟩ hK
            subst htm
            dsimp only
            have hbV : Below wr.heap.size wr V := hb5.trans hB1
            have HD : Hid (W.heap.size ≤ D) := by have := A1.out.out.size; show _ ≤ _; omega
            have A5 : Hid (Fx W V G R G2 R2 x z [(D, .deferred (some []))]) := A1.out.four.withX hbV (fun p hp => by rw [List.mem_singleton.1 hp]; exact ⟨by show wr.heap.size ≤ D; omega, hK⟩)
            obtain ⟨a9, c9, hv9, -, hat9, -, -⟩ := Cod.Own.at_ (C := MsC) (T := 36) hrow hll
            subst hv9
            obtain ⟨S, hS2⟩ := A5.out.turn.snd
            obtain ⟨ra, rn, rc, ⟨r0, -⟩, hra⟩ := Rf.rows hS2
            have HRS := Lib.hid (And.intro hat9 hra)
            have v1 := fun nq os => (Gw.of V nq os).cell hv.cell
            have r1 := fun nq os => (Gw.of V nq os).cell r0
            clear hbV hK hB1 hrow hv hat9 hS2 hra r0 hS hat hba hbl hbo hb5 hsz hi hz0 hz1 hz2 hll hD A1 HAX HB HM1
            go_wp2_with fail
            refine wp_region_gw (by kernel_rfl) (by kernel_rfl) ?_
            iterate 7 (refine WQ.step (fun K hK => ?_); go_simp; first | (refine hK _ ?_; clear hK K) | (apply Exists.intro; refine ⟨fun _ => ?_, hK _ ?_⟩; (go_at_call 14; exact rsame_g HRS.out.1 HRS.out.2 true (decide_eq_true rfl).symm _ _); clear hK K))
            refine WQ.nil ?_
            intro _ hw'
            obtain ⟨⟨nq, osq⟩, hw''⟩ := hw'
            subst hw''
            have A6 : Hid (Fx W (grow (V.drewN nq) osq) G R G2 R2 x z [(D, .deferred (some []))]) := A5.out.below (Gw.of V nq osq).below
            clear v1 r1 A5 HRS
            generalize grow (V.drewN nq) osq = w7 at A6 ⊢
            go_wp2_with fail
            go_loopg [16] q (fun kx s16 wr => ∃ (i : Nat) (y : List Ms × Nat), s16 = .int .i64 i ∧ i ≤ q ∧ q - i ≤ kx ∧ Aside (Fx W wr G R G2 R2 x y [(D, .deferred (some []))] ∧ y.2 ≤ 40 + i))
            case atStart => exact ⟨0, z, by go_num, Nat.zero_le _, Nat.le_refl _, ⟨A6.out, HZ.out⟩⟩
            case round =>
              clear A6
              obtain ⟨i, y, rfl, hin, hkx, A⟩ := hrel
              by_cases hlt : i < q
              · have hlz : decide ((i : Int) < (q : Int)) = true := by simpa using hlt
                have hiz : (i : Int) < (q : Int) := by omega
                have hbig : i < 1000000 := by have := HQ1.out; omega
                obtain ⟨B, off, rfl, hB, ⟨k, ms, mm⟩, hc⟩ := act_cell HC.out hlt
                obtain ⟨x0, x1, x2, x3, x4, x5, x6, x7, x8, x9, x10, x11⟩ := twelve (hc.below A.out.1.out hB)
                have HML : Hid (y.2 ≤ 1000) := by show _ ≤ _; have := A.out.2; have := HQ1.out; omega
                clear hc hB
                go_wp2_with (go_at_call 8; refine (fx_do2 A.out.1 HML.out k ms mm).mono ?_; rintro e w3 ⟨rfl, y2, hl2, h3⟩; have H3 := Lib.hid h3; have H3L := Lib.hid hl2; clear h3 hl2)
                go_roundg (q - (i + 1))
                case measure => omega
                case rel => exact ⟨i + 1, y2, by go_num, by omega, Nat.le_refl _, ⟨H3.out, by have := A.out.2; have := H3L.out; omega⟩⟩
              · have hlz : decide ((i : Int) < (q : Int)) = false := by simp; omega
                have H8 : Hid (Fx W wr G R G2 R2 x y [(D, .deferred (some []))]) := A.out.1
                obtain ⟨S, hS2⟩ := H8.out.snd
                obtain ⟨S2, hS3⟩ := H8.out.turn.snd
                obtain ⟨ra, rn, rc, ⟨r0, rN⟩, hra⟩ := Rf.rows hS2
                obtain ⟨sa, sn, sc, ⟨s0, sN⟩, hsa⟩ := Rf.rows hS3
                have HRS := Lib.hid (And.intro hra hsa)
                have r1 := fun nq os => (Gw.of wr nq os).cell r0
                have s1 := fun nq os => (Gw.of wr nq os).cell s0
                have r2 := fun nq os => (Gw.of wr nq os).cell rN
                have s2 := fun nq os => (Gw.of wr nq os).cell sN
                clear hS2 hS3 hra hsa r0 s0 rN sN A hkx hin
                by_cases hl1 : x.1 = y.1
                · have HT1 : Hid (true = decide (x.1 = y.1)) := (decide_eq_true hl1).symm
                  by_cases hn1 : x.2 = y.2
                  · have HT : Hid (true = decide (x.1 = y.1 ∧ x.2 = y.2)) := (decide_eq_true ⟨hl1, hn1⟩).symm
                    have hd : ((x.2 : Int) == (y.2 : Int)) = true := beq_iff_eq.2 (by omega)
                    clear hl1 hn1
                    go_wp2_with fail
                    refine wp_region_gw (by kernel_rfl) (by kernel_rfl) ?_
                    iterate 21 (refine WQ.step (fun K hK => ?_); go_simp; first | (refine hK _ ?_; clear hK K) | (apply Exists.intro; refine ⟨fun _ => ?_, hK _ ?_⟩; (go_at_call 14; exact rsame_g HRS.out.1 HRS.out.2 true HT1.out _ _); clear hK K))
                    refine WQ.nil ?_
                    intro _ hw'
                    obtain ⟨⟨nq, osq⟩, hw''⟩ := hw'
                    subst hw''
                    have H9 : Hid (Fx W (grow (wr.drewN nq) osq) G R G2 R2 x y [(D, .deferred (some []))]) := H8.out.below (Gw.of wr nq osq).below
                    clear r1 s1 r2 s2 hlz hlt H8 HRS
                    generalize grow (wr.drewN nq) osq = w9 at H9 ⊢
                    go_wp2_with (first
                      | (go_at_call 6; refine (fx_known H13.out).mono ?_; rintro e w14 ⟨rfl, h14⟩; have H14 := Lib.hid h14; clear h14)
                      | (go_at_call 13; refine (fx_same2 H12.out true HT.out).mono ?_; rintro e w13 ⟨rfl, h13⟩; have H13 := Lib.hid h13; clear h13)
                      | (go_at_call 13; refine (fx_same H11.out true HT.out).mono ?_; rintro e w12 ⟨rfl, h12⟩; have H12 := Lib.hid h12; clear h12)
                      | (go_at_call 9; refine (fx_r H10.out).mono ?_; rintro e w11 ⟨rfl, h11⟩; have H11 := Lib.hid h11; clear h11)
                      | (go_at_call 9; refine (fx_l H9.out).mono ?_; rintro e w10 ⟨rfl, h10⟩; have H10 := Lib.hid h10; clear h10))
                    exact done_end H14.out HD.out (by simp [results, Try.results4, go_sem])
                  · have HT : Hid (false = decide (x.1 = y.1 ∧ x.2 = y.2)) := (decide_eq_false fun h => hn1 h.2).symm
                    have hd : ((x.2 : Int) == (y.2 : Int)) = false := beq_eq_false_iff_ne.2 (by omega)
                    clear hl1 hn1
                    go_wp2_with fail
                    refine wp_region_gw (by kernel_rfl) (by kernel_rfl) ?_
                    iterate 21 (refine WQ.step (fun K hK => ?_); go_simp; first | (refine hK _ ?_; clear hK K) | (apply Exists.intro; refine ⟨fun _ => ?_, hK _ ?_⟩; (go_at_call 14; exact rsame_g HRS.out.1 HRS.out.2 true HT1.out _ _); clear hK K))
                    refine WQ.nil ?_
                    intro _ hw'
                    obtain ⟨⟨nq, osq⟩, hw''⟩ := hw'
                    subst hw''
                    have H9 : Hid (Fx W (grow (wr.drewN nq) osq) G R G2 R2 x y [(D, .deferred (some []))]) := H8.out.below (Gw.of wr nq osq).below
                    clear r1 s1 r2 s2 hlz hlt H8 HRS
                    generalize grow (wr.drewN nq) osq = w9 at H9 ⊢
                    go_wp2_with (first
                      | (go_at_call 6; refine (fx_known H13.out).mono ?_; rintro e w14 ⟨rfl, h14⟩; have H14 := Lib.hid h14; clear h14)
                      | (go_at_call 13; refine (fx_same2 H12.out false HT.out).mono ?_; rintro e w13 ⟨rfl, h13⟩; have H13 := Lib.hid h13; clear h13)
                      | (go_at_call 13; refine (fx_same H11.out false HT.out).mono ?_; rintro e w12 ⟨rfl, h12⟩; have H12 := Lib.hid h12; clear h12)
                      | (go_at_call 9; refine (fx_r H10.out).mono ?_; rintro e w11 ⟨rfl, h11⟩; have H11 := Lib.hid h11; clear h11)
                      | (go_at_call 9; refine (fx_l H9.out).mono ?_; rintro e w10 ⟨rfl, h10⟩; have H10 := Lib.hid h10; clear h10))
                    exact done_end H14.out HD.out (by simp [results, Try.results4, go_sem])
                · have HT1 : Hid (false = decide (x.1 = y.1)) := (decide_eq_false hl1).symm
                  have HT : Hid (false = decide (x.1 = y.1 ∧ x.2 = y.2)) := (decide_eq_false fun h => hl1 h.1).symm
                  clear hl1
                  go_wp2_with fail
                  refine wp_region_gw (by kernel_rfl) (by kernel_rfl) ?_
                  iterate 21 (refine WQ.step (fun K hK => ?_); go_simp; first | (refine hK _ ?_; clear hK K) | (apply Exists.intro; refine ⟨fun _ => ?_, hK _ ?_⟩; (go_at_call 14; exact rsame_g HRS.out.1 HRS.out.2 false HT1.out _ _); clear hK K))
                  refine WQ.nil ?_
                  intro _ hw'
                  obtain ⟨⟨nq, osq⟩, hw''⟩ := hw'
                  subst hw''
                  have H9 : Hid (Fx W (grow (wr.drewN nq) osq) G R G2 R2 x y [(D, .deferred (some []))]) := H8.out.below (Gw.of wr nq osq).below
                  clear r1 s1 r2 s2 hlz hlt H8 HRS
                  generalize grow (wr.drewN nq) osq = w9 at H9 ⊢
                  go_wp2_with (first
                    | (go_at_call 6; refine (fx_known H13.out).mono ?_; rintro e w14 ⟨rfl, h14⟩; have H14 := Lib.hid h14; clear h14)
                    | (go_at_call 13; refine (fx_same2 H12.out false HT.out).mono ?_; rintro e w13 ⟨rfl, h13⟩; have H13 := Lib.hid h13; clear h13)
                    | (go_at_call 13; refine (fx_same H11.out false HT.out).mono ?_; rintro e w12 ⟨rfl, h12⟩; have H12 := Lib.hid h12; clear h12)
                    | (go_at_call 9; refine (fx_r H10.out).mono ?_; rintro e w11 ⟨rfl, h11⟩; have H11 := Lib.hid h11; clear h11)
                    | (go_at_call 9; refine (fx_l H9.out).mono ?_; rintro e w10 ⟨rfl, h10⟩; have H10 := Lib.hid h10; clear h10))
                  exact done_end H14.out HD.out (by simp [results, Try.results4, go_sem])
          case stop =>
            rintro D cd pre V hD hpre h hK
            exact h.elim
end Go.Proofs.Ytifniehfbafcoaa
