/-
  partitionOrdered, walked.
-/
import Derived.Test.YtfonbompglddaaaSBrk
import Derived.Sort.LotC
import Derived.Deep.CutBlock
import Derived.Deep.CutRange
namespace Go.Proofs.Ytfonbompglddaaa
open Go Go.RowKit Go.Lib Go.Sort Go.Proofs

theorem down_stop (p : Nat → Bool) (d : Array Nat) {i j : Nat} (h : ¬ i ≤ j) : scanDown p d i j = j := by
  cases j with
  | zero => rfl
  | succ j =>
    rw [scanDown, if_neg]
    simp
    omega
theorem up_stop (p : Nat → Bool) (d : Array Nat) {i j : Nat} (h : ¬ i ≤ j) : scanUp p d j i = i := by
  rw [scanUp, if_neg]
  simp
  omega
/-- where the scans stand -/
theorem scanWithin {a b i j : Nat} (p q : Nat → Bool) (d : Array Nat) (h1 : a + 1 ≤ i) (h2 : i ≤ b + 1) (h3 : a ≤ j) (h4 : j < b) : a + 1 ≤ scanUp p d j i ∧ scanUp p d j i ≤ b + 1 ∧ i ≤ scanUp p d j i ∧ a ≤ scanDown q d (scanUp p d j i) j ∧ scanDown q d (scanUp p d j i) j ≤ j := by
  obtain ⟨g1, g2, -, -⟩ := scanUp_spec p d j _ i rfl
  obtain ⟨k1, k2, -, -⟩ := scanDown_spec q d (scanUp p d j i) j
  have hu : scanUp p d j i ≤ b + 1 := by
    by_cases h : i ≤ j + 1
    · have := g2 h; omega
    · rw [up_stop p d (by omega)]; exact h2
  refine ⟨by omega, hu, g1, ?_, k1⟩
  by_cases h : scanUp p d j i ≤ j + 1
  · have := k2 h; omega
  · rw [down_stop q d (by omega)]; exact h3
def PartTo (B : Nat) (d : Array Nat) (a b pivot : Nat) (w : World) (e : Ending) (w' : World) : Prop := ∃ f : Bool, e = .returned (.tuple #[.int .i64 ((partition ltN d a b pivot).1 : Nat), .bool f]) ∧ Rw w w' B (partition ltN d a b pivot).2.2
theorem part_to {B a b pivot J : Nat} {d D : Array Nat} {w w' : World} {f : Bool} (h : partLoop ltN a (a + 1) (b - 1) (swp d a pivot) = (J, D)) (hr : Rw w w' B (swp D J a)) : PartTo B d a b pivot w (.returned (.tuple #[.int .i64 (J : Nat), .bool f])) w' := by
  refine ⟨f, ?_, ?_⟩
  · rw [partition_fst, h]
  · rw [partition_arr, h]
    exact hr
set_option maxHeartbeats 16000000 in
set_option maxRecDepth 100000 in
theorem part_any {w : World} {B n c : Nat} {d : Array Nat} (h : Rw w w B d) (hn : n = d.size) (hb16 : n ≤ 1000) (a b pivot : Nat) (hab : a < b) (hbn : b ≤ n) (hp2 : pivot < b) : Calls Try.prog 51 #[slU B n c, .int .i64 a, .int .i64 b, .int .i64 pivot] w (PartTo B d a b pivot w) := by
  have mixed : Try.prog.follows .mixedOrders = true := by kernel_rfl
  obtain ⟨a1, ha1⟩ : ∃ a1, a1 = a + 1 := ⟨_, rfl⟩
  obtain ⟨b1, hb1⟩ : ∃ b1, b1 = b - 1 := ⟨_, rfl⟩
  have k1 : IntKind.i64.wrap ((a : Int) + 1) = (a1 : Int) := by rw [IntKind.wrap_i64]; omega
  have k2 : IntKind.i64.wrap (a1 : Int) = (a1 : Int) := by rw [IntKind.wrap_i64]; omega
  have k3 : IntKind.i64.wrap ((b : Int) - 1) = (b1 : Int) := by rw [IntKind.wrap_i64]; omega
  have k4 : IntKind.i64.wrap (b1 : Int) = (b1 : Int) := by rw [IntKind.wrap_i64]; omega
  have k5 : (a : Int) + 1 = (a1 : Int) := by omega
  have k6 : (b : Int) - 1 = (b1 : Int) := by omega
  obtain ⟨d1, hd1⟩ : ∃ d1, d1 = swp d a pivot := ⟨_, rfl⟩
  have HEND : Hid (∀ (J : Nat) (D : Array Nat) (f : Bool) (w' : World), partLoop ltN a a1 b1 d1 = (J, D) → Rw w w' B (swp D J a) → PartTo B d a b pivot w (.returned (.tuple #[.int .i64 (J : Nat), .bool f])) w') := fun J D f w' hp hr => by
    rw [ha1, hb1, hd1] at hp
    exact part_to hp hr
  have H := Lib.hid h
  have HZ0 : Hid (d.size = n) := hn.symm
  have HB0 : Hid (a < n ∧ pivot < n) := by show _ ∧ _; omega
  have HD1 := Lib.hid hd1
  have HX : Hid (a1 = a + 1 ∧ b1 + 1 = b) := by show _ ∧ _; omega
  clear h hn ha1 hb1 hd1
  go_enter Try.func51, Try.ntmps51
  have y0 := H.out.cell a (by rw [HZ0.out]; have := HB0.out; omega)
  have y1 := H.out.cell pivot (by rw [HZ0.out]; have := HB0.out; omega)
  have y2 := set_other y0 y1
  have f0 := H.out.frozen a
  have f1 := H.out.frozen pivot
  have hiz : (a : Int) < (n : Int) := by have := HB0.out; omega
  have hjz : (pivot : Int) < (n : Int) := by have := HB0.out; omega
  go_wp2_with fail
  go_region
  obtain ⟨w1, hw1⟩ : ∃ wn, wn = ((w.setCell ⟨B, a, none⟩ (uV d[pivot]!)).setCell ⟨B, pivot, none⟩ (uV d[a]!)).drew := ⟨_, rfl⟩
  rw [← hw1]
  have H1 : Hid (Rw w w1 B (swp d a pivot)) := hw1 ▸ (H.out.swp a pivot (by rw [HZ0.out]; have := HB0.out; omega) (by rw [HZ0.out]; have := HB0.out; omega)).drew
  clear hw1 y0 y1 y2 f0 f1 hiz hjz
  rw [← HD1.out] at H1
  have HZ : Hid (d1.size = n) := by show _ = _; rw [HD1.out, swp_size]; exact HZ0.out
  obtain ⟨I1, hI1⟩ : ∃ I1, I1 = scanUp (fun x => ltN x d1[a]!) d1 b1 a1 := ⟨_, rfl⟩
  have HI := Lib.hid hI1
  obtain ⟨J1, hJ1⟩ : ∃ J1, J1 = scanDown (fun x => !ltN x d1[a]!) d1 I1 b1 := ⟨_, rfl⟩
  have HJ := Lib.hid hJ1
  have HIB : Hid (a1 ≤ I1 ∧ I1 ≤ b + 1 ∧ a ≤ J1 ∧ J1 ≤ b1) := by
    have := scanWithin (a := a) (b := b) (i := a1) (j := b1) (fun x => ltN x d1[a]!) (fun x => !ltN x d1[a]!) d1 (by have := HX.out; omega) (by have := HX.out; omega) (by have := HX.out; omega) (by have := HX.out; omega)
    rw [← hI1, ← hJ1] at this
    have := HX.out
    show _ ∧ _
    omega
  clear hI1 hJ1
  go_upto_block 0 with fail
  go_cut [10] from 30 to 45 (fun s10 wz => s10 = .int .i64 (I1 : Nat) ∧ Hid (Rw w wz B d1))
  case first =>
    go_wp2_with fail
    go_loopg [10] (b1 + 1) (fun kx s10 wr => ∃ i : Nat, s10 = .int .i64 i ∧ a1 ≤ i ∧ i ≤ n + 1 ∧ b1 + 1 - i ≤ kx ∧ Aside (Rw w wr B d1 ∧ scanUp (fun x => ltN x d1[a]!) d1 b1 i = I1))
    case atStart => exact ⟨a1, by go_num, Nat.le_refl _, by have := HX.out; omega, by omega, H1.out, HI.out.symm⟩
    case round =>
      obtain ⟨i, rfl, hi0, hin, hkx, A⟩ := hrel
      by_cases hlt : i ≤ b1
      · have hlz : decide ((i : Int) ≤ (b1 : Int)) = true := by simpa using hlt
        have hiz : (i : Int) < (n : Int) := by have := HX.out; omega
        have haz : (a : Int) < (n : Int) := by omega
        have x0 := A.out.1.at_ (j := i) (by rw [HZ.out]; omega)
        have x1 := A.out.1.at_ (j := a) (by rw [HZ.out]; omega)
        obtain ⟨t, ht⟩ : ∃ t, ltN d1[i]! d1[a]! = t := ⟨_, rfl⟩
        have HTT := Lib.hid ht
        clear ht
        go_wp2_with fail
        refine wp_region_gw (by kernel_rfl) (by kernel_rfl) ?_
        iterate 14 (refine WQ.step (fun K hK => ?_); go_simp; first | (refine hK _ ?_; clear hK K) | (apply Exists.intro; refine ⟨fun _ => ?_, hK _ ?_⟩; (go_at_call 49; exact less_g HTT.out _ _ _); clear hK K))
        refine WQ.nil ?_
        intro _ hw'
        obtain ⟨⟨nq, osq⟩, hw''⟩ := hw'
        subst hw''
        have G2 : Hid (Rw w (grow (wr.drewN nq) osq) B d1) := A.out.1.gw (Gw.of wr nq osq)
        clear x0 x1
        generalize grow (wr.drewN nq) osq = w2 at G2 ⊢
        cases t with
        | true =>
          go_wp2_with fail
          go_roundg (b1 + 1 - (i + 1))
          case measure => omega
          case rel => exact ⟨i + 1, by go_num, by omega, by have := HX.out; omega, Nat.le_refl _, G2.out, by rw [← A.out.2, scanUp.eq_1 _ _ _ i, if_pos]; rw [HTT.out]; simpa using hlt⟩
        | false =>
          have hI : i = I1 := by
            rw [← A.out.2, scanUp.eq_1, if_neg]
            rw [HTT.out]
            simp
          have HI2 := Lib.hid hI
          clear hI
          go_wp2_with fail
          go_meet
          case rel => exact ⟨congrArg (fun z : Nat => Value.int .i64 (z : Int)) HI2.out, G2.out⟩
      · have hlz : decide ((i : Int) ≤ (b1 : Int)) = false := by simp; omega
        go_wp2_with fail
        refine wp_region_gw (by kernel_rfl) (by kernel_rfl) ?_
        iterate 14 (refine WQ.step (fun K hK => ?_); go_simp; first | (refine hK _ ?_; clear hK K))
        refine WQ.nil ?_
        intro _ hw'
        obtain ⟨⟨nq, osq⟩, hw''⟩ := hw'
        subst hw''
        have G2 : Hid (Rw w (grow (wr.drewN nq) osq) B d1) := A.out.1.gw (Gw.of wr nq osq)
        generalize grow (wr.drewN nq) osq = w2 at G2 ⊢
        have hI : i = I1 := by
          rw [← A.out.2, scanUp.eq_1, if_neg]
          simp
          omega
        have HI2 := Lib.hid hI
        clear hI
        go_wp2_with fail
        go_meet
        case rel => exact ⟨congrArg (fun z : Nat => Value.int .i64 (z : Int)) HI2.out, G2.out⟩
  case rest =>
    obtain ⟨w2, hw2⟩ : ∃ wx, wx = wc := ⟨_, rfl⟩
    rw [← hw2] at hcut ⊢
    obtain ⟨rfl, H2⟩ := hcut
    clear hw2
    go_upto_block 2 with fail
    go_cut [11] from 46 to 62 (fun s11 wz => s11 = .int .i64 (J1 : Nat) ∧ Hid (Rw w wz B d1))
    case first =>
      go_wp2_with fail
      go_loopg [11] b1 (fun kx s11 wr => ∃ j : Nat, s11 = .int .i64 j ∧ j ≤ b1 ∧ j ≤ kx ∧ Aside (Rw w wr B d1 ∧ scanDown (fun x => !ltN x d1[a]!) d1 I1 j = J1))
      case atStart => exact ⟨b1, by go_num, Nat.le_refl _, Nat.le_refl _, H2.out, HJ.out.symm⟩
      case round =>
        obtain ⟨j, rfl, hj0, hkx, A⟩ := hrel
        by_cases hlt : I1 ≤ j
        · have hlz : decide ((I1 : Int) ≤ (j : Int)) = true := by simpa using hlt
          have hjz : (j : Int) < (n : Int) := by have := HX.out; omega
          have haz : (a : Int) < (n : Int) := by omega
          have x0 := A.out.1.at_ (j := j) (by rw [HZ.out]; have := HX.out; omega)
          have x1 := A.out.1.at_ (j := a) (by rw [HZ.out]; omega)
          obtain ⟨q, hq⟩ : ∃ q, j = q + 1 := ⟨j - 1, by have := HX.out; have := HIB.out; omega⟩
          have HQ := Lib.hid hq
          have g1 : (j : Int) - 1 = (q : Int) := by omega
          have g2 : IntKind.i64.wrap ((j : Int) - 1) = (q : Int) := by rw [g1, IntKind.wrap_i64]; have := HX.out; omega
          have g3 : IntKind.i64.wrap (q : Int) = (q : Int) := by rw [IntKind.wrap_i64]; have := HX.out; omega
          obtain ⟨t, ht⟩ : ∃ t, ltN d1[j]! d1[a]! = t := ⟨_, rfl⟩
          have HTT := Lib.hid ht
          clear ht hq
          go_wp2_with fail
          refine wp_region_gw (by kernel_rfl) (by kernel_rfl) ?_
          iterate 15 (refine WQ.step (fun K hK => ?_); go_simp; first | (refine hK _ ?_; clear hK K) | (apply Exists.intro; refine ⟨fun _ => ?_, hK _ ?_⟩; (go_at_call 49; exact less_g HTT.out _ _ _); clear hK K))
          refine WQ.nil ?_
          intro _ hw'
          obtain ⟨⟨nq, osq⟩, hw''⟩ := hw'
          subst hw''
          have G2 : Hid (Rw w (grow (wr.drewN nq) osq) B d1) := A.out.1.gw (Gw.of wr nq osq)
          clear x0 x1
          generalize grow (wr.drewN nq) osq = w2 at G2 ⊢
          have hS : scanDown (fun x => !ltN x d1[a]!) d1 I1 j = if t = false then scanDown (fun x => !ltN x d1[a]!) d1 I1 q else j := by
            rw [HQ.out, scanDown, ← HQ.out, HTT.out, decide_eq_true hlt, Bool.true_and]
            cases t <;> rfl
          have HS := Lib.hid hS
          clear hS
          cases t with
          | false =>
            go_wp2_with fail
            go_roundg q
            case measure => have := HQ.out; omega
            case rel => exact ⟨q, by go_num, by have := HQ.out; omega, Nat.le_refl _, G2.out, by rw [← A.out.2, HS.out, if_pos trivial]⟩
          | true =>
            have HI2 : Hid (j = J1) := by show _ = _; rw [← A.out.2, HS.out, if_neg (by simp)]
            go_wp2_with fail
            go_meet
            case rel => exact ⟨congrArg (fun z : Nat => Value.int .i64 (z : Int)) HI2.out, G2.out⟩
        · have hlz : decide ((I1 : Int) ≤ (j : Int)) = false := by simp; omega
          go_wp2_with fail
          refine wp_region_gw (by kernel_rfl) (by kernel_rfl) ?_
          iterate 15 (refine WQ.step (fun K hK => ?_); go_simp; first | (refine hK _ ?_; clear hK K))
          refine WQ.nil ?_
          intro _ hw'
          obtain ⟨⟨nq, osq⟩, hw''⟩ := hw'
          subst hw''
          have G2 : Hid (Rw w (grow (wr.drewN nq) osq) B d1) := A.out.1.gw (Gw.of wr nq osq)
          generalize grow (wr.drewN nq) osq = w2 at G2 ⊢
          have HI2 : Hid (j = J1) := by show _ = _; rw [← A.out.2]; exact (down_stop _ _ hlt).symm
          go_wp2_with fail
          go_meet
          case rel => exact ⟨congrArg (fun z : Nat => Value.int .i64 (z : Int)) HI2.out, G2.out⟩
    case rest =>
      obtain ⟨w3, hw3⟩ : ∃ wx, wx = wc := ⟨_, rfl⟩
      rw [← hw3] at hcut ⊢
      obtain ⟨rfl, H3⟩ := hcut
      clear hw3
      by_cases hgt : J1 < I1
      · have hgz : decide ((I1 : Int) > (J1 : Int)) = true := by simp; omega
        have HP : Hid (partLoop ltN a a1 b1 d1 = (J1, d1)) := by show _ = _; rw [partLoop_eq, ← HI.out, ← HJ.out, if_pos hgt]
        have HB : Hid (J1 < n ∧ a < n) := by have := HIB.out; have := HX.out; show _ ∧ _; omega
        have y0 := H3.out.cell J1 (by rw [HZ.out]; have := HB.out; omega)
        have y1 := H3.out.cell a (by rw [HZ.out]; have := HB.out; omega)
        have y2 := set_other y0 y1
        have f0 := H3.out.frozen J1
        have f1 := H3.out.frozen a
        have hiz : (J1 : Int) < (n : Int) := by have := HB.out; omega
        have hjz : (a : Int) < (n : Int) := by have := HB.out; omega
        go_wp2_with fail
        go_region
        obtain ⟨w4, hw4⟩ : ∃ wn, wn = ((w3.setCell ⟨B, J1, none⟩ (uV d1[a]!)).setCell ⟨B, a, none⟩ (uV d1[J1]!)).drew := ⟨_, rfl⟩
        rw [← hw4]
        have H4 : Hid (Rw w w4 B (swp d1 J1 a)) := hw4 ▸ (H3.out.swp J1 a (by rw [HZ.out]; have := HB.out; omega) (by rw [HZ.out]; have := HB.out; omega)).drew
        clear hw4 y0 y1 y2 f0 f1 hiz hjz
        go_wp2_with fail
        go_ret2
        exact HEND.out J1 d1 true _ HP.out H4.out
      · have hgz : decide ((I1 : Int) > (J1 : Int)) = false := by simp; omega
        obtain ⟨i2, hi2⟩ : ∃ i2, i2 = I1 + 1 := ⟨_, rfl⟩
        obtain ⟨j2, hj2⟩ : ∃ j2, j2 = J1 - 1 := ⟨_, rfl⟩
        have k7 : IntKind.i64.wrap ((I1 : Int) + 1) = (i2 : Int) := by rw [IntKind.wrap_i64]; have := HIB.out; omega
        have k8 : IntKind.i64.wrap (i2 : Int) = (i2 : Int) := by rw [IntKind.wrap_i64]; have := HIB.out; omega
        have k9 : IntKind.i64.wrap ((J1 : Int) - 1) = (j2 : Int) := by rw [IntKind.wrap_i64]; have := HIB.out; have := HX.out; omega
        have k10 : IntKind.i64.wrap (j2 : Int) = (j2 : Int) := by rw [IntKind.wrap_i64]; have := HIB.out; have := HX.out; omega
        have k11 : (I1 : Int) + 1 = (i2 : Int) := by omega
        have k12 : (J1 : Int) - 1 = (j2 : Int) := by have := HIB.out; have := HX.out; omega
        obtain ⟨d2, hd2⟩ : ∃ d2, d2 = swp d1 I1 J1 := ⟨_, rfl⟩
        have HP : Hid (partLoop ltN a a1 b1 d1 = partLoop ltN a i2 j2 d2) := by show _ = _; rw [partLoop_eq, ← HI.out, ← HJ.out, if_neg hgt, hi2, hj2, hd2]
        have HB : Hid (I1 < n ∧ J1 < n) := by have := HIB.out; have := HX.out; show _ ∧ _; omega
        have HD2 := Lib.hid hd2
        have HIN : Hid (a + 1 ≤ i2 ∧ i2 ≤ b + 1 ∧ a ≤ j2 ∧ j2 < b) := by have := HIB.out; have := HX.out; show _ ∧ _; omega
        clear hi2 hj2 hd2
        have y0 := H3.out.cell I1 (by rw [HZ.out]; have := HB.out; omega)
        have y1 := H3.out.cell J1 (by rw [HZ.out]; have := HB.out; omega)
        have y2 := set_other y0 y1
        have f0 := H3.out.frozen I1
        have f1 := H3.out.frozen J1
        have hiz : (I1 : Int) < (n : Int) := by have := HB.out; omega
        have hjz : (J1 : Int) < (n : Int) := by have := HB.out; omega
        go_wp2_with fail
        go_region
        obtain ⟨w4, hw4⟩ : ∃ wn, wn = ((w3.setCell ⟨B, I1, none⟩ (uV d1[J1]!)).setCell ⟨B, J1, none⟩ (uV d1[I1]!)).drew := ⟨_, rfl⟩
        rw [← hw4]
        have H4 : Hid (Rw w w4 B (swp d1 I1 J1)) := hw4 ▸ (H3.out.swp I1 J1 (by rw [HZ.out]; have := HB.out; omega) (by rw [HZ.out]; have := HB.out; omega)).drew
        clear hw4 y0 y1 y2 f0 f1 hiz hjz
        rw [← HD2.out] at H4
        have HZ2 : Hid (d2.size = n) := by show _ = _; rw [HD2.out, swp_size]; exact HZ.out
        go_wp2_with fail
        clear HI HJ HIB HZ hgz hgt k7 k8 k9 k10 k11 k12
        go_loopg [10, 11] j2 (fun kx s10 s11 wr => ∃ (i3 j3 : Nat) (d3 : Array Nat), s10 = .int .i64 i3 ∧ s11 = .int .i64 j3 ∧ j3 ≤ kx ∧ Aside (Rw w wr B d3 ∧ d3.size = n ∧ partLoop ltN a i3 j3 d3 = partLoop ltN a a1 b1 d1 ∧ a + 1 ≤ i3 ∧ i3 ≤ b + 1 ∧ a ≤ j3 ∧ j3 < b))
        case atStart => exact ⟨i2, j2, d2, by go_num, by go_num, Nat.le_refl _, H4.out, HZ2.out, HP.out.symm, HIN.out⟩
        case round =>
          obtain ⟨i3, j3, d3, rfl, rfl, hk3, A3⟩ := hrel
          have HZ : Hid (d3.size = n) := A3.out.2.1
          have HX0 := Lib.hid HX.out
          have HX : Hid (a + 1 ≤ i3 ∧ i3 ≤ b + 1 ∧ a ≤ j3 ∧ j3 < b ∧ b ≤ n) := ⟨A3.out.2.2.2.1, A3.out.2.2.2.2.1, A3.out.2.2.2.2.2.1, A3.out.2.2.2.2.2.2, hbn⟩
          have H5 : Hid (Rw w wr B d3) := A3.out.1
          obtain ⟨I1, hI1⟩ : ∃ I1, I1 = scanUp (fun x => ltN x d3[a]!) d3 j3 i3 := ⟨_, rfl⟩
          have HI := Lib.hid hI1
          obtain ⟨J1, hJ1⟩ : ∃ J1, J1 = scanDown (fun x => !ltN x d3[a]!) d3 I1 j3 := ⟨_, rfl⟩
          have HJ := Lib.hid hJ1
          have HIB : Hid (a + 1 ≤ I1 ∧ I1 ≤ b + 1 ∧ i3 ≤ I1 ∧ a ≤ J1 ∧ J1 ≤ j3) := by
            have := scanWithin (a := a) (b := b) (i := i3) (j := j3) (fun x => ltN x d3[a]!) (fun x => !ltN x d3[a]!) d3 (by have := HX.out; omega) (by have := HX.out; omega) (by have := HX.out; omega) (by have := HX.out; omega)
            rw [← hI1, ← hJ1] at this
            exact this
          clear hI1 hJ1
          go_upto_block 6 with fail
          go_cut [10] from 99 to 114 (fun s10 wz => s10 = .int .i64 (I1 : Nat) ∧ Hid (Rw w wz B d3))
          case first =>
            go_wp2_with fail
            go_loopg [10] (j3 + 1) (fun kx s10 wr => ∃ i : Nat, s10 = .int .i64 i ∧ i3 ≤ i ∧ i ≤ n + 1 ∧ j3 + 1 - i ≤ kx ∧ Aside (Rw w wr B d3 ∧ scanUp (fun x => ltN x d3[a]!) d3 j3 i = I1))
            case atStart => exact ⟨i3, by go_num, Nat.le_refl _, by have := HX.out; omega, by omega, H5.out, HI.out.symm⟩
            case round =>
              obtain ⟨i, rfl, hi0, hin, hkx, A⟩ := hrel
              by_cases hlt : i ≤ j3
              · have hlz : decide ((i : Int) ≤ (j3 : Int)) = true := by simpa using hlt
                have hiz : (i : Int) < (n : Int) := by have := HX.out; omega
                have haz : (a : Int) < (n : Int) := by omega
                have x0 := A.out.1.at_ (j := i) (by rw [HZ.out]; omega)
                have x1 := A.out.1.at_ (j := a) (by rw [HZ.out]; omega)
                obtain ⟨t, ht⟩ : ∃ t, ltN d3[i]! d3[a]! = t := ⟨_, rfl⟩
                have HTT := Lib.hid ht
                clear ht
                go_wp2_with fail
                refine wp_region_gw (by kernel_rfl) (by kernel_rfl) ?_
                iterate 14 (refine WQ.step (fun K hK => ?_); go_simp; first | (refine hK _ ?_; clear hK K) | (apply Exists.intro; refine ⟨fun _ => ?_, hK _ ?_⟩; (go_at_call 49; exact less_g HTT.out _ _ _); clear hK K))
                refine WQ.nil ?_
                intro _ hw'
                obtain ⟨⟨nq, osq⟩, hw''⟩ := hw'
                subst hw''
                have G2 : Hid (Rw w (grow (wr.drewN nq) osq) B d3) := A.out.1.gw (Gw.of wr nq osq)
                clear x0 x1
                generalize grow (wr.drewN nq) osq = w2 at G2 ⊢
                cases t with
                | true =>
                  go_wp2_with fail
                  go_roundg (j3 + 1 - (i + 1))
                  case measure => omega
                  case rel => exact ⟨i + 1, by go_num, by omega, by have := HX.out; omega, Nat.le_refl _, G2.out, by rw [← A.out.2, scanUp.eq_1 _ _ _ i, if_pos]; rw [HTT.out]; simpa using hlt⟩
                | false =>
                  have hI : i = I1 := by
                    rw [← A.out.2, scanUp.eq_1, if_neg]
                    rw [HTT.out]
                    simp
                  have HI2 := Lib.hid hI
                  clear hI
                  go_wp2_with fail
                  go_meet
                  case rel => exact ⟨congrArg (fun z : Nat => Value.int .i64 (z : Int)) HI2.out, G2.out⟩
              · have hlz : decide ((i : Int) ≤ (j3 : Int)) = false := by simp; omega
                go_wp2_with fail
                refine wp_region_gw (by kernel_rfl) (by kernel_rfl) ?_
                iterate 14 (refine WQ.step (fun K hK => ?_); go_simp; first | (refine hK _ ?_; clear hK K))
                refine WQ.nil ?_
                intro _ hw'
                obtain ⟨⟨nq, osq⟩, hw''⟩ := hw'
                subst hw''
                have G2 : Hid (Rw w (grow (wr.drewN nq) osq) B d3) := A.out.1.gw (Gw.of wr nq osq)
                generalize grow (wr.drewN nq) osq = w2 at G2 ⊢
                have hI : i = I1 := by
                  rw [← A.out.2, scanUp.eq_1, if_neg]
                  simp
                  omega
                have HI2 := Lib.hid hI
                clear hI
                go_wp2_with fail
                go_meet
                case rel => exact ⟨congrArg (fun z : Nat => Value.int .i64 (z : Int)) HI2.out, G2.out⟩
          case rest =>
            obtain ⟨w6, hw6⟩ : ∃ wx, wx = wc := ⟨_, rfl⟩
            rw [← hw6] at hcut ⊢
            obtain ⟨rfl, H6⟩ := hcut
            clear hw6
            go_upto_block 8 with fail
            go_cut [11] from 115 to 131 (fun s11 wz => s11 = .int .i64 (J1 : Nat) ∧ Hid (Rw w wz B d3))
            case first =>
              go_wp2_with fail
              go_loopg [11] j3 (fun kx s11 wr => ∃ j : Nat, s11 = .int .i64 j ∧ j ≤ j3 ∧ j ≤ kx ∧ Aside (Rw w wr B d3 ∧ scanDown (fun x => !ltN x d3[a]!) d3 I1 j = J1))
              case atStart => exact ⟨j3, by go_num, Nat.le_refl _, Nat.le_refl _, H6.out, HJ.out.symm⟩
              case round =>
                obtain ⟨j, rfl, hj0, hkx, A⟩ := hrel
                by_cases hlt : I1 ≤ j
                · have hlz : decide ((I1 : Int) ≤ (j : Int)) = true := by simpa using hlt
                  have hjz : (j : Int) < (n : Int) := by have := HX.out; omega
                  have haz : (a : Int) < (n : Int) := by omega
                  have x0 := A.out.1.at_ (j := j) (by rw [HZ.out]; have := HX.out; omega)
                  have x1 := A.out.1.at_ (j := a) (by rw [HZ.out]; omega)
                  obtain ⟨q, hq⟩ : ∃ q, j = q + 1 := ⟨j - 1, by have := HX.out; have := HIB.out; omega⟩
                  have HQ := Lib.hid hq
                  have g1 : (j : Int) - 1 = (q : Int) := by omega
                  have g2 : IntKind.i64.wrap ((j : Int) - 1) = (q : Int) := by rw [g1, IntKind.wrap_i64]; have := HX.out; omega
                  have g3 : IntKind.i64.wrap (q : Int) = (q : Int) := by rw [IntKind.wrap_i64]; have := HX.out; omega
                  obtain ⟨t, ht⟩ : ∃ t, ltN d3[j]! d3[a]! = t := ⟨_, rfl⟩
                  have HTT := Lib.hid ht
                  clear ht hq
                  go_wp2_with fail
                  refine wp_region_gw (by kernel_rfl) (by kernel_rfl) ?_
                  iterate 15 (refine WQ.step (fun K hK => ?_); go_simp; first | (refine hK _ ?_; clear hK K) | (apply Exists.intro; refine ⟨fun _ => ?_, hK _ ?_⟩; (go_at_call 49; exact less_g HTT.out _ _ _); clear hK K))
                  refine WQ.nil ?_
                  intro _ hw'
                  obtain ⟨⟨nq, osq⟩, hw''⟩ := hw'
                  subst hw''
                  have G2 : Hid (Rw w (grow (wr.drewN nq) osq) B d3) := A.out.1.gw (Gw.of wr nq osq)
                  clear x0 x1
                  generalize grow (wr.drewN nq) osq = w2 at G2 ⊢
                  have hS : scanDown (fun x => !ltN x d3[a]!) d3 I1 j = if t = false then scanDown (fun x => !ltN x d3[a]!) d3 I1 q else j := by
                    rw [HQ.out, scanDown, ← HQ.out, HTT.out, decide_eq_true hlt, Bool.true_and]
                    cases t <;> rfl
                  have HS := Lib.hid hS
                  clear hS
                  cases t with
                  | false =>
                    go_wp2_with fail
                    go_roundg q
                    case measure => have := HQ.out; omega
                    case rel => exact ⟨q, by go_num, by have := HQ.out; omega, Nat.le_refl _, G2.out, by rw [← A.out.2, HS.out, if_pos trivial]⟩
                  | true =>
                    have HI2 : Hid (j = J1) := by show _ = _; rw [← A.out.2, HS.out, if_neg (by simp)]
                    go_wp2_with fail
                    go_meet
                    case rel => exact ⟨congrArg (fun z : Nat => Value.int .i64 (z : Int)) HI2.out, G2.out⟩
                · have hlz : decide ((I1 : Int) ≤ (j : Int)) = false := by simp; omega
                  go_wp2_with fail
                  refine wp_region_gw (by kernel_rfl) (by kernel_rfl) ?_
                  iterate 15 (refine WQ.step (fun K hK => ?_); go_simp; first | (refine hK _ ?_; clear hK K))
                  refine WQ.nil ?_
                  intro _ hw'
                  obtain ⟨⟨nq, osq⟩, hw''⟩ := hw'
                  subst hw''
                  have G2 : Hid (Rw w (grow (wr.drewN nq) osq) B d3) := A.out.1.gw (Gw.of wr nq osq)
                  generalize grow (wr.drewN nq) osq = w2 at G2 ⊢
                  have HI2 : Hid (j = J1) := by show _ = _; rw [← A.out.2]; exact (down_stop _ _ hlt).symm
                  go_wp2_with fail
                  go_meet
                  case rel => exact ⟨congrArg (fun z : Nat => Value.int .i64 (z : Int)) HI2.out, G2.out⟩
            case rest =>
              obtain ⟨w7, hw7⟩ : ∃ wx, wx = wc := ⟨_, rfl⟩
              rw [← hw7] at hcut ⊢
              obtain ⟨rfl, H7⟩ := hcut
              clear hw7
              by_cases hgt : J1 < I1
              · have hgz : decide ((I1 : Int) > (J1 : Int)) = true := by simp; omega
                have HP2 : Hid (partLoop ltN a a1 b1 d1 = (J1, d3)) := by show _ = _; rw [← A3.out.2.2.1, partLoop_eq ltN a i3 j3 d3, ← HI.out, ← HJ.out, if_pos hgt]
                have HB : Hid (J1 < n ∧ a < n) := by have := HIB.out; have := HX.out; show _ ∧ _; omega
                have y0 := H7.out.cell J1 (by rw [HZ.out]; have := HB.out; omega)
                have y1 := H7.out.cell a (by rw [HZ.out]; have := HB.out; omega)
                have y2 := set_other y0 y1
                have f0 := H7.out.frozen J1
                have f1 := H7.out.frozen a
                have hiz : (J1 : Int) < (n : Int) := by have := HB.out; omega
                have hjz : (a : Int) < (n : Int) := by have := HB.out; omega
                go_wp2_with fail
                go_region
                obtain ⟨w8, hw8⟩ : ∃ wn, wn = ((w7.setCell ⟨B, J1, none⟩ (uV d3[a]!)).setCell ⟨B, a, none⟩ (uV d3[J1]!)).drew := ⟨_, rfl⟩
                rw [← hw8]
                have H8 : Hid (Rw w w8 B (swp d3 J1 a)) := hw8 ▸ (H7.out.swp J1 a (by rw [HZ.out]; have := HB.out; omega) (by rw [HZ.out]; have := HB.out; omega)).drew
                clear hw8 y0 y1 y2 f0 f1 hiz hjz
                go_wp2_with fail
                go_ret2
                exact HEND.out J1 d3 false _ HP2.out H8.out
              · have hgz : decide ((I1 : Int) > (J1 : Int)) = false := by simp; omega
                obtain ⟨i4, hi4⟩ : ∃ i4, i4 = I1 + 1 := ⟨_, rfl⟩
                obtain ⟨j4, hj4⟩ : ∃ j4, j4 = J1 - 1 := ⟨_, rfl⟩
                have k7 : IntKind.i64.wrap ((I1 : Int) + 1) = (i4 : Int) := by rw [IntKind.wrap_i64]; have := HIB.out; omega
                have k8 : IntKind.i64.wrap (i4 : Int) = (i4 : Int) := by rw [IntKind.wrap_i64]; have := HIB.out; omega
                have k9 : IntKind.i64.wrap ((J1 : Int) - 1) = (j4 : Int) := by rw [IntKind.wrap_i64]; have := HIB.out; have := HX.out; omega
                have k10 : IntKind.i64.wrap (j4 : Int) = (j4 : Int) := by rw [IntKind.wrap_i64]; have := HIB.out; have := HX.out; omega
                have k11 : (I1 : Int) + 1 = (i4 : Int) := by omega
                have k12 : (J1 : Int) - 1 = (j4 : Int) := by have := HIB.out; have := HX.out; omega
                have HP2 : Hid (partLoop ltN a i4 j4 (swp d3 I1 J1) = partLoop ltN a a1 b1 d1) := by show _ = _; rw [← A3.out.2.2.1, partLoop_eq ltN a i3 j3 d3, ← HI.out, ← HJ.out, if_neg hgt, hi4, hj4]
                have HB : Hid (I1 < n ∧ J1 < n) := by have := HIB.out; have := HX.out; show _ ∧ _; omega
                have HIN : Hid (a + 1 ≤ i4 ∧ i4 ≤ b + 1 ∧ a ≤ j4 ∧ j4 < b ∧ j4 < j3) := by have := HIB.out; have := HX.out; show _ ∧ _; omega
                clear hi4 hj4
                have y0 := H7.out.cell I1 (by rw [HZ.out]; have := HB.out; omega)
                have y1 := H7.out.cell J1 (by rw [HZ.out]; have := HB.out; omega)
                have y2 := set_other y0 y1
                have f0 := H7.out.frozen I1
                have f1 := H7.out.frozen J1
                have hiz : (I1 : Int) < (n : Int) := by have := HB.out; omega
                have hjz : (J1 : Int) < (n : Int) := by have := HB.out; omega
                go_wp2_with fail
                go_region
                obtain ⟨w8, hw8⟩ : ∃ wn, wn = ((w7.setCell ⟨B, I1, none⟩ (uV d3[J1]!)).setCell ⟨B, J1, none⟩ (uV d3[I1]!)).drew := ⟨_, rfl⟩
                rw [← hw8]
                have H8 : Hid (Rw w w8 B (swp d3 I1 J1)) := hw8 ▸ (H7.out.swp I1 J1 (by rw [HZ.out]; have := HB.out; omega) (by rw [HZ.out]; have := HB.out; omega)).drew
                clear hw8 y0 y1 y2 f0 f1 hiz hjz
                go_wp2_with fail
                go_roundg j4
                case measure => have := HIN.out; omega
                case rel => exact ⟨i4, j4, swp d3 I1 J1, by go_num, by go_num, Nat.le_refl _, H8.out, by rw [swp_size]; exact HZ.out, HP2.out, HIN.out.1, HIN.out.2.1, HIN.out.2.2.1, HIN.out.2.2.2.1⟩
end Go.Proofs.Ytfonbompglddaaa
