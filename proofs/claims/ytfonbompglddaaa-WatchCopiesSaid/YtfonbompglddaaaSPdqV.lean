/-
  pdqsortOrdered of a row of at most sixteen numbers, no two alike; slices.Sort.
-/
import Derived.Test.YtfonbompglddaaaSPrt
import Derived.Sort.LotD3
import Derived.Sort.LotB
namespace Go.Proofs.Ytfonbompglddaaa
open Go Go.RowKit Go.Lib Go.Sort Go.Proofs

def SortedTo (B : Nat) (d : Array Nat) (a b : Nat) (w : World) (e : Ending) (w' : World) : Prop := ∃ d', e = .returned (.tuple #[]) ∧ PermIn a b d d' ∧ SortedIn ltN a b d' ∧ Rw w w' B d'
theorem perm_whole {a b : Nat} {d d' : Array Nat} (h : PermIn a b d d') (hb : b ≤ d.size) : d'.toList.Perm d.toList := by
  have h2 := (permIn_mono d d' a b 0 d.size (Nat.zero_le _) hb (Nat.le_refl _) h).2.2
  rwa [show d'.extract 0 d.size = d' from Array.extract_eq_self_of_le (by rw [h.1]; exact Nat.le_refl _), show d.extract 0 d.size = d from Array.extract_eq_self_of_le (Nat.le_refl _)] at h2
theorem perm_nodup {a b : Nat} {d d' : Array Nat} (h : PermIn a b d d') (hb : b ≤ d.size) (hd : d.toList.Nodup) : d'.toList.Nodup := (perm_whole h hb).nodup_iff.2 hd
theorem nodup_ne {d : Array Nat} (hd : d.toList.Nodup) {i j : Nat} (hi : i < d.size) (hj : j < d.size) (h : i ≠ j) : d[i]! ≠ d[j]! := by
  intro e
  rw [getElem!_pos d i hi, getElem!_pos d j hj] at e
  exact h ((List.getElem_inj (xs := d.toList) (h₀ := by simpa using hi) (h₁ := by simpa using hj) hd).1 (by simpa using e))
/-- nothing to the left is as great -/
theorem below_less {a b p : Nat} {d : Array Nat} (hB : Go.Sort.Below ltN a b d) (hd : d.toList.Nodup) (ha : 0 < a) (h1 : a ≤ p) (h2 : p < b) (hb : b ≤ d.size) : ltN d[a - 1]! d[p]! = true := by
  rcases hB with h | h
  · omega
  · have e := h p h1 h2
    have hne := nodup_ne hd (i := a - 1) (j := p) (by omega) (by omega) (by omega)
    simp [ltN] at e ⊢
    omega
/-- what the loop of the sort keeps -/
structure Pd (w wr : World) (B n a b : Nat) (d : Array Nat) (a' b' : Nat) (d' : Array Nat) : Prop where
  row : Rw w wr B d'
  size : d'.size = n
  nodup : d'.toList.Nodup
  below : Go.Sort.Below ltN a' b' d'
  ord : a ≤ a' ∧ a' ≤ b' ∧ b' ≤ b ∧ b ≤ n
  done : ∀ R, PermIn a' b' d' R → SortedIn ltN a' b' R → PermIn a b d R ∧ SortedIn ltN a b R
theorem Pd.perm {w wr w2 : World} {B n a b a' b' : Nat} {d d' d2 : Array Nat} (h : Pd w wr B n a b d a' b' d') (hp : PermIn a' b' d' d2) (hr : Rw w w2 B d2) : Pd w w2 B n a b d a' b' d2 := by
  have hb : b' ≤ d'.size := by rw [h.size]; have := h.ord; omega
  exact ⟨hr, hp.1.trans h.size, perm_nodup hp hb h.nodup, h.below.perm hb hp, h.ord, fun R hR hs => h.done R (permIn_trans _ _ _ _ _ hp hR) hs⟩
theorem Pd.same {w wr w2 : World} {B n a b a' b' : Nat} {d d' : Array Nat} (h : Pd w wr B n a b d a' b' d') (hr : Rw w w2 B d') : Pd w w2 B n a b d a' b' d' := ⟨hr, h.size, h.nodup, h.below, h.ord, h.done⟩
/-- behind a partition: the lesser half sorted first, or the greater -/
theorem Pd.part {w wr w4 : World} {B n a b a' b' p mid : Nat} {ap : Bool} {d d' d4 : Array Nat} (h : Pd w wr B n a b d a' b' d') (h1 : a' ≤ p) (h2 : p < b') (hx : partition ltN d' a' b' p = (mid, ap, d4)) (_hr : Rw w w4 B d4) :
    a' ≤ mid ∧ mid < b' ∧ d4.size = n ∧ d4.toList.Nodup ∧ Go.Sort.Below ltN a' mid d4 ∧ Go.Sort.Below ltN (mid + 1) b' d4 ∧
    (∀ L wL, PermIn a' mid d4 L → SortedIn ltN a' mid L → Rw w wL B L → Pd w wL B n a b d (mid + 1) b' L) ∧
    (∀ L wL, PermIn (mid + 1) b' d4 L → SortedIn ltN (mid + 1) b' L → Rw w wL B L → Pd w wL B n a b d a' mid L) := by
  have hb : b' ≤ d'.size := by rw [h.size]; have := h.ord; omega
  obtain ⟨g1, g2, g3, g4, g5, g6, g7⟩ := round_part swoN (partition_holds ltN) h1 h2 hb h.below hx
  have hp : PermIn a' b' d' d4 := by
    have := (partition_holds ltN swoN d' a' b' p h1 h2 hb).2.2.1
    rw [hx] at this
    exact this
  have hN := perm_nodup hp hb h.nodup
  have hz : d4.size = n := g3.trans h.size
  have ho := h.ord
  refine ⟨g1, g2, hz, hN, g4, g5, fun L wL hL hs hrL => ?_, fun L wL hL hs hrL => ?_⟩
  · obtain ⟨k1, k2⟩ := g6 L hL hs
    exact ⟨hrL, hL.1.trans hz, perm_nodup hL (by omega) hN, k1, by omega, fun R hR hsR => by
      obtain ⟨m1, m2⟩ := k2 R hR hsR
      exact h.done R m1 m2⟩
  · obtain ⟨k1, k2⟩ := g7 L hL hs
    exact ⟨hrL, hL.1.trans hz, perm_nodup hL (by omega) hN, k1, by omega, fun R hR hsR => by
      obtain ⟨m1, m2⟩ := k2 R hR hsR
      exact h.done R m1 m2⟩
set_option maxHeartbeats 32000000 in
set_option maxRecDepth 100000 in
theorem pdq_any : ∀ (N : Nat) {w : World} {B n c : Nat} {d : Array Nat} (_ : Rw w w B d) (_ : n = d.size) (a b limit : Nat) (_ : a ≤ b) (_ : b ≤ n) (_ : b - a ≤ N) (_ : n ≤ 16) (_ : b - a ≤ limit + 12) (_ : limit ≤ 64) (_ : Go.Sort.Below ltN a b d) (_ : d.toList.Nodup),
    Calls Try.prog 41 #[slU B n c, .int .i64 a, .int .i64 b, .int .i64 limit] w (SortedTo B d a b w)
  | N, w, B, n, c, d, h, hn, a, b, limit, hab, hbn, hN, hn16, hl1, hl2, hB, hD => by
    have mixed : Try.prog.follows .mixedOrders = true := by kernel_rfl
    have IH : Hid (∀ M, M < N → ∀ {w : World} {B n c : Nat} {d : Array Nat} (_ : Rw w w B d) (_ : n = d.size) (a b limit : Nat) (_ : a ≤ b) (_ : b ≤ n) (_ : b - a ≤ M) (_ : n ≤ 16) (_ : b - a ≤ limit + 12) (_ : limit ≤ 64) (_ : Go.Sort.Below ltN a b d) (_ : d.toList.Nodup), Calls Try.prog 41 #[slU B n c, .int .i64 a, .int .i64 b, .int .i64 limit] w (SortedTo B d a b w)) :=
      fun M hM => pdq_any M
    have H : Hid (Pd w w B n a b d a b d) := ⟨h, hn.symm, hD, hB, ⟨Nat.le_refl _, hab, Nat.le_refl _, hbn⟩, fun R hR hs => ⟨hR, hs⟩⟩
    clear h hn hB hD
    go_enter Try.func41, Try.ntmps41
    go_wp2_with fail
    go_loopg [1, 2, 3, 8, 9] (b - a) (fun kx s1 s2 s3 s8 s9 wr => ∃ (a' b' lim : Nat) (wb wp : Bool) (d' : Array Nat), s1 = .int .i64 a' ∧ s2 = .int .i64 b' ∧ s3 = .int .i64 lim ∧ s8 = .bool wb ∧ s9 = .bool wp ∧ b' - a' ≤ kx ∧ b' - a' ≤ lim + 12 ∧ lim ≤ 64 ∧ Aside (Pd w wr B n a b d a' b' d'))
    case atStart => exact ⟨a, b, limit, true, true, d, by go_num, by go_num, by go_num, rfl, rfl, Nat.le_refl _, hl1, hl2, H.out⟩
    case round =>
      obtain ⟨a', b', lim, wb, wp, d', rfl, rfl, rfl, rfl, rfl, hk, hm1, hm2, A⟩ := hrel
      obtain ⟨l, hl⟩ : ∃ l, l = b' - a' := ⟨_, rfl⟩
      have HO : Hid (a ≤ a' ∧ a' ≤ b' ∧ b' ≤ b ∧ l = b' - a') := by have := A.out.ord; show _ ∧ _; omega
      have k1 : (b' : Int) - (a' : Int) = (l : Int) := by have := HO.out; omega
      have k2 : IntKind.i64.wrap ((b' : Int) - (a' : Int)) = (l : Int) := by rw [k1, IntKind.wrap_i64]; have := HO.out; omega
      have k3 : IntKind.i64.wrap (l : Int) = (l : Int) := by rw [IntKind.wrap_i64]; have := HO.out; omega
      clear hl
      by_cases h12 : l ≤ 12
      · have hz : decide ((l : Int) ≤ 12) = true := by simp; omega
        go_wp2_with (go_at_call 43; refine Hid.out ?_)
        refine Lib.hid ?_
        refine (ins_any A.out.row.start A.out.size.symm (by omega) a' b' (by have := HO.out; omega) (by have := HO.out; omega)).mono ?_
        rintro e w1 ⟨rfl, h1⟩
        have H1 := Lib.hid (A.out.row.next h1)
        clear h1
        go_wp2_with fail
        refine bodyPost_ret (results_none rfl _ _ _) rfl ?_
        obtain ⟨g1, g2⟩ := insertionSort_holds swoN d' a' b' (by have := HO.out; omega) (by rw [A.out.size]; have := HO.out; omega)
        obtain ⟨g3, g4⟩ := A.out.done _ g1 g2
        exact ⟨_, rfl, g3, g4, H1.out⟩
      · have hz : decide ((l : Int) ≤ 12) = false := by simp; omega
        have hlim0 : ((lim : Int) == 0) = false := by have := HO.out; simp; omega
        go_upto_if 35 with fail
        go_cut [3] from 36 to 41 (fun s3 wz => ∃ (lim1 : Nat) (d1 : Array Nat), s3 = .int .i64 lim1 ∧ Hid (b' - a' ≤ lim1 + 13 ∧ lim1 ≤ 64 ∧ Pd w wz B n a b d a' b' d1))
        case first =>
          as_aux_lemma =>
            cases wb with
            | true =>
              go_wp2_with fail
              go_meet
              case rel => exact ⟨lim, d', rfl, by omega, hm2, A.out⟩
            | false =>
              obtain ⟨lim1, hlm⟩ : ∃ lim1, lim1 = lim - 1 := ⟨_, rfl⟩
              have g1 : (lim : Int) - 1 = (lim1 : Int) := by have := HO.out; omega
              have g2 : IntKind.i64.wrap ((lim : Int) - 1) = (lim1 : Int) := by rw [g1, IntKind.wrap_i64]; omega
              have g3 : IntKind.i64.wrap (lim1 : Int) = (lim1 : Int) := by rw [IntKind.wrap_i64]; omega
              have HLM := Lib.hid hlm
              clear hlm
              go_wp2_with (go_at_call 45; refine Hid.out ?_)
              refine Lib.hid ?_
              refine (break_any A.out.row.start A.out.size.symm a' b' (by have := HO.out; omega) (by have := HO.out; omega) (by have := HO.out; omega) (by omega)).mono ?_
              rintro e w1 ⟨d1, rfl, hp1, h1⟩
              have H1 : Hid (Pd w w1 B n a b d a' b' d1) := A.out.perm hp1 (A.out.row.next h1)
              clear hp1 h1
              go_wp2_with fail
              go_meet
              case rel => exact ⟨lim1, d1, rfl, by have := HLM.out; omega, by have := HLM.out; omega, H1.out⟩
        case rest =>
          obtain ⟨w1, hw1⟩ : ∃ wx, wx = wc := ⟨_, rfl⟩
          rw [← hw1] at hcut ⊢
          clear hw1
          obtain ⟨lim1, d1, rfl, H1⟩ := hcut
          have H1b : Hid (b' - a' ≤ lim1 + 13 ∧ lim1 ≤ 64) := ⟨H1.out.1, H1.out.2.1⟩
          go_wp2_with (go_at_call 46; refine Hid.out ?_)
          refine Lib.hid ?_
          refine (pivot_any H1.out.2.2.row.start H1.out.2.2.size.symm (by omega) a' b' (by have := HO.out; omega) (by have := HO.out; omega)).mono ?_
          rintro e w2 ⟨p, hh, rfl, hp1, hp2, hh2, h2⟩
          have H2 : Hid (Pd w w2 B n a b d a' b' d1) := H1.out.2.2.same (H1.out.2.2.row.next h2)
          have HP := Lib.hid (And.intro hp1 hp2)
          clear h2 hp1 hp2
          go_upto_if 50 with fail
          go_cut [11, 12] from 51 to 60 (fun s11 s12 wz => ∃ (p1 h1 : Nat) (d2 : Array Nat), s11 = .int .i64 p1 ∧ s12 = .int .i64 h1 ∧ Hid (a' ≤ p1 ∧ p1 < b' ∧ Pd w wz B n a b d a' b' d2))
          case first =>
            as_aux_lemma =>
              by_cases he : hh = 2
              · subst he
                obtain ⟨b1, hb1⟩ : ∃ b1, b1 = b' - 1 := ⟨_, rfl⟩
                obtain ⟨g, hg⟩ : ∃ g, g = p - a' := ⟨_, rfl⟩
                obtain ⟨p1, hp1⟩ : ∃ p1, p1 = b1 - g := ⟨_, rfl⟩
                have e1 : (b' : Int) - 1 = (b1 : Int) := by have := HO.out; omega
                have e2 : IntKind.i64.wrap ((b' : Int) - 1) = (b1 : Int) := by rw [e1, IntKind.wrap_i64]; have := HO.out; omega
                have e3 : IntKind.i64.wrap (b1 : Int) = (b1 : Int) := by rw [IntKind.wrap_i64]; have := HO.out; omega
                have e4 : (p : Int) - (a' : Int) = (g : Int) := by have := HP.out; omega
                have e5 : IntKind.i64.wrap ((p : Int) - (a' : Int)) = (g : Int) := by rw [e4, IntKind.wrap_i64]; have := HP.out; have := HO.out; omega
                have e6 : IntKind.i64.wrap (g : Int) = (g : Int) := by rw [IntKind.wrap_i64]; have := HP.out; have := HO.out; omega
                have e7 : (b1 : Int) - (g : Int) = (p1 : Int) := by have := HP.out; have := HO.out; omega
                have e8 : IntKind.i64.wrap ((b1 : Int) - (g : Int)) = (p1 : Int) := by rw [e7, IntKind.wrap_i64]; have := HO.out; omega
                have e9 : IntKind.i64.wrap (p1 : Int) = (p1 : Int) := by rw [IntKind.wrap_i64]; have := HO.out; omega
                have HP1 : Hid (a' ≤ p1 ∧ p1 < b') := by have := HP.out; have := HO.out; show _ ∧ _; omega
                clear hb1 hg hp1
                go_wp2_with (go_at_call 47; refine Hid.out ?_)
                refine Lib.hid ?_
                refine (rev_any H2.out.row.start H2.out.size.symm (by omega) a' b' (by have := HO.out; omega) (by have := HO.out; omega)).mono ?_
                rintro e w3 ⟨rfl, h3⟩
                have H3 : Hid (Pd w w3 B n a b d a' b' (reverseRange d1 a' b')) := H2.out.perm (reverseRange_holds d1 a' b' (by have := HO.out; omega) (by rw [H2.out.size]; have := HO.out; omega)) (H2.out.row.next h3)
                clear h3
                go_wp2_with fail
                go_meet
                case rel => exact ⟨p1, 1, _, rfl, rfl, HP1.out.1, HP1.out.2, H3.out⟩
              · have hne : ((hh : Int) == 2) = false := by simp; omega
                clear he
                go_wp2_with fail
                go_meet
                case rel => exact ⟨p, hh, d1, rfl, rfl, HP.out.1, HP.out.2, H2.out⟩
          case rest =>
            obtain ⟨w3, hw3⟩ : ∃ wx, wx = wc := ⟨_, rfl⟩
            rw [← hw3] at hcut ⊢
            clear hw3
            obtain ⟨p1, h1, d2, rfl, rfl, H3⟩ := hcut
            obtain ⟨e1, he1⟩ : ∃ e1, ((h1 : Int) == 1) = e1 := ⟨_, rfl⟩
            go_upto_region 15 with fail
            go_cut [68] from 61 to 68 (fun s68 wz => ∃ t : Bool, s68 = .bool t ∧ wz = w3)
            case first =>
              as_aux_lemma =>
                cases wb <;> cases wp <;> cases e1
                all_goals
                  go_wp2_with fail
                  go_meet
                  case rel => exact ⟨_, rfl, rfl⟩
            case rest =>
              obtain ⟨t, rfl, rfl⟩ := hcut
              go_upto_if 68 with fail
              go_cut [9] from 69 to 72 (fun s9 wz => s9 = .bool wp ∧ Hid (Pd w wz B n a b d a' b' d2))
              case first =>
                as_aux_lemma =>
                  cases t with
                  | false =>
                    go_wp2_with fail
                    go_meet
                    case rel => exact ⟨rfl, H3.out.2.2⟩
                  | true =>
                    go_wp2_with (go_at_call 48; refine Hid.out ?_)
                    refine Lib.hid ?_
                    obtain ⟨r, hr⟩ : ∃ r, decide (scanSorted ltN d2 b' (a' + 1) = b') = r := ⟨_, rfl⟩
                    have hpi := partial_any H3.out.2.2.row.start H3.out.2.2.size.symm (by omega) a' b' (by have := HO.out; omega) (by have := HO.out; omega) (c := c)
                    rw [hr] at hpi
                    refine hpi.mono ?_
                    rintro e w4 ⟨rfl, h4⟩
                    have H4 : Hid (Pd w w4 B n a b d a' b' d2) := H3.out.2.2.same (H3.out.2.2.row.next h4)
                    have HR := Lib.hid hr
                    clear h4 hpi hr
                    cases r with
                    | true =>
                      go_wp2_with fail
                      refine bodyPost_ret (results_none rfl _ _ _) rfl ?_
                      have hs := (partialInsertionSort_holds swoN d2 a' b' (by have := HO.out; omega) (by rw [H4.out.size]; have := HO.out; omega) H4.out.below).2
                      rw [partial_short (by have := HO.out; omega)] at hs
                      obtain ⟨g3, g4⟩ := H4.out.done _ (permIn_refl _ _ _) (hs HR.out)
                      exact ⟨_, rfl, g3, g4, H4.out.row⟩
                    | false =>
                      go_wp2_with fail
                      go_meet
                      case rel => exact ⟨rfl, H4.out⟩
              case rest =>
                obtain ⟨w4, hw4⟩ : ∃ wx, wx = wc := ⟨_, rfl⟩
                rw [← hw4] at hcut ⊢
                clear hw4
                obtain ⟨rfl, H4⟩ := hcut
                clear he1 H1 H2 HP
                go_upto_region 17 with fail
                go_cut [87] from 73 to 87 (fun s87 wz => s87 = .bool false ∧ Hid (Pd w wz B n a b d a' b' d2))
                case first =>
                  as_aux_lemma =>
                    by_cases ha0 : 0 < a'
                    · have hz1 : decide ((a' : Int) > 0) = true := by simp; omega
                      have hz2 : decide (0 < a') = true := by simpa using ha0
                      obtain ⟨a0, he0⟩ : ∃ a0, a0 = a' - 1 := ⟨_, rfl⟩
                      have g1 : (a' : Int) - 1 = (a0 : Int) := by omega
                      have g2 : IntKind.i64.wrap ((a' : Int) - 1) = (a0 : Int) := by rw [g1, IntKind.wrap_i64]; have := HO.out; omega
                      have g3 : IntKind.i64.wrap (a0 : Int) = (a0 : Int) := by rw [IntKind.wrap_i64]; have := HO.out; omega
                      have HZ : Hid (d2.size = n) := H4.out.size
                      have g4 : (a0 : Int) < (n : Int) := by have := HO.out; omega
                      have g5 : (p1 : Int) < (n : Int) := by have := H3.out.2.1; have := HO.out; omega
                      have x0 := H4.out.row.at_ (j := a0) (by rw [HZ.out]; have := HO.out; omega)
                      have x1 := H4.out.row.at_ (j := p1) (by rw [HZ.out]; have := H3.out.2.1; have := HO.out; omega)
                      have HT : Hid (ltN d2[a0]! d2[p1]! = true) := by
                        rw [he0]
                        exact below_less H4.out.below H4.out.nodup ha0 H3.out.1 H3.out.2.1 (by rw [HZ.out]; have := HO.out; omega)
                      clear he0
                      refine wp_region_gw (by kernel_rfl) (by kernel_rfl) ?_
                      iterate 15 (refine WQ.step (fun K hK => ?_); go_simp; first | (refine hK _ ?_; clear hK K) | (apply Exists.intro; refine ⟨fun _ => ?_, hK _ ?_⟩; (go_at_call 49; exact less_g HT.out _ _ _); clear hK K))
                      refine WQ.nil ?_
                      intro _ hw'
                      obtain ⟨⟨nq, osq⟩, hw''⟩ := hw'
                      subst hw''
                      have G2 : Hid (Pd w (grow (w4.drewN nq) osq) B n a b d a' b' d2) := H4.out.same (H4.out.row.gw (Gw.of w4 nq osq))
                      clear x0 x1
                      generalize grow (w4.drewN nq) osq = w5 at G2 ⊢
                      go_wp2_with fail
                      go_meet
                      case rel => exact ⟨rfl, G2.out⟩
                    · have hz1 : decide ((a' : Int) > 0) = false := by simp; omega
                      have hz2 : decide (0 < a') = false := by simpa using ha0
                      refine wp_region_gw (by kernel_rfl) (by kernel_rfl) ?_
                      iterate 15 (refine WQ.step (fun K hK => ?_); go_simp; first | (refine hK _ ?_; clear hK K))
                      refine WQ.nil ?_
                      intro _ hw'
                      obtain ⟨⟨nq, osq⟩, hw''⟩ := hw'
                      subst hw''
                      have G2 : Hid (Pd w (grow (w4.drewN nq) osq) B n a b d a' b' d2) := H4.out.same (H4.out.row.gw (Gw.of w4 nq osq))
                      generalize grow (w4.drewN nq) osq = w5 at G2 ⊢
                      go_wp2_with fail
                      go_meet
                      case rel => exact ⟨rfl, G2.out⟩
                case rest =>
                  obtain ⟨w5, hw5⟩ : ∃ wx, wx = wc := ⟨_, rfl⟩
                  rw [← hw5] at hcut ⊢
                  clear hw5
                  obtain ⟨rfl, H5⟩ := hcut
                  go_wp2_with (go_at_call 51; refine Hid.out ?_)
                  refine Lib.hid ?_
                  obtain ⟨mid, ap, d4, hx⟩ : ∃ mid ap d4, partition ltN d2 a' b' p1 = (mid, ap, d4) := ⟨_, _, _, rfl⟩
                  have hpt := part_any H5.out.row.start H5.out.size.symm (by omega) a' b' p1 (by have := HO.out; omega) (by have := HO.out; omega) H3.out.2.1 (c := c)
                  unfold PartTo at hpt
                  rw [hx] at hpt
                  refine hpt.mono ?_
                  rintro e w6 ⟨f, rfl, h6⟩
                  have HQ := Lib.hid (H5.out.part H3.out.1 H3.out.2.1 hx (H5.out.row.next h6))
                  have H6 : Hid (Rw w w6 B d4) := H5.out.row.next h6
                  clear hpt hx h6
                  have HM : Hid (a' ≤ mid ∧ mid < b') := ⟨HQ.out.1, HQ.out.2.1⟩
                  obtain ⟨ll, hll⟩ : ∃ ll, ll = mid - a' := ⟨_, rfl⟩
                  obtain ⟨rr, hrr⟩ : ∃ rr, rr = b' - mid := ⟨_, rfl⟩
                  obtain ⟨bt, hbt⟩ : ∃ bt, bt = l / 8 := ⟨_, rfl⟩
                  obtain ⟨m1, hmm⟩ : ∃ m1, m1 = mid + 1 := ⟨_, rfl⟩
                  have e1 : (mid : Int) - (a' : Int) = (ll : Int) := by have := HM.out; omega
                  have e2 : IntKind.i64.wrap ((mid : Int) - (a' : Int)) = (ll : Int) := by rw [e1, IntKind.wrap_i64]; have := HM.out; have := HO.out; omega
                  have e3 : IntKind.i64.wrap (ll : Int) = (ll : Int) := by rw [IntKind.wrap_i64]; have := HM.out; have := HO.out; omega
                  have e4 : (b' : Int) - (mid : Int) = (rr : Int) := by have := HM.out; omega
                  have e5 : IntKind.i64.wrap ((b' : Int) - (mid : Int)) = (rr : Int) := by rw [e4, IntKind.wrap_i64]; have := HM.out; have := HO.out; omega
                  have e6 : IntKind.i64.wrap (rr : Int) = (rr : Int) := by rw [IntKind.wrap_i64]; have := HM.out; have := HO.out; omega
                  have e7 : (l : Int).tdiv 8 = (bt : Int) := by rw [hbt]; exact (Int.ofNat_tdiv l 8).symm
                  have e8 : IntKind.i64.wrap ((l : Int).tdiv 8) = (bt : Int) := by rw [e7, IntKind.wrap_i64]; have := HO.out; omega
                  have e9 : IntKind.i64.wrap (bt : Int) = (bt : Int) := by rw [IntKind.wrap_i64]; have := HO.out; omega
                  have m2 : (mid : Int) + 1 = (m1 : Int) := by omega
                  have m3 : IntKind.i64.wrap ((mid : Int) + 1) = (m1 : Int) := by rw [m2, IntKind.wrap_i64]; have := HM.out; have := HO.out; omega
                  have m4 : IntKind.i64.wrap (m1 : Int) = (m1 : Int) := by rw [IntKind.wrap_i64]; have := HM.out; have := HO.out; omega
                  have HMM := Lib.hid hmm
                  clear hll hrr hbt hmm
                  by_cases hlr : ll < rr
                  · have hz1 : decide ((ll : Int) < (rr : Int)) = true := by simpa using hlr
                    go_wp2_with (go_at_call 41; refine Hid.out ?_)
                    refine Lib.hid ?_
                    refine (IH.out (mid - a') (by have := HM.out; have := HO.out; omega) H6.out.start HQ.out.2.2.1.symm a' mid lim1 HM.out.1 (by have := HM.out; have := HO.out; omega) (Nat.le_refl _) hn16 (by have := H1b.out; have := HM.out; omega) H1b.out.2 HQ.out.2.2.2.2.1 HQ.out.2.2.2.1).mono ?_
                    rintro e w7 ⟨L, rfl, hL, hsL, h7⟩
                    have H7 : Hid (Pd w w7 B n a b d m1 b' L) := by rw [HMM.out]; exact HQ.out.2.2.2.2.2.2.1 L w7 hL hsL (H6.out.next h7)
                    clear hL hsL h7
                    go_wp2_with fail
                    go_roundg (b' - m1)
                    case measure => have := HMM.out; have := HM.out; omega
                    case rel => exact ⟨m1, b', lim1, _, f, L, by go_num, by go_num, by go_num, rfl, rfl, Nat.le_refl _, by have := HMM.out; have := HM.out; have := H1b.out; omega, H1b.out.2, H7.out⟩
                  · have hz1 : decide ((ll : Int) < (rr : Int)) = false := by simp; omega
                    go_wp2_with (go_at_call 41; refine Hid.out ?_)
                    refine Lib.hid ?_
                    refine (IH.out (b' - m1) (by have := HMM.out; have := HM.out; have := HO.out; omega) H6.out.start HQ.out.2.2.1.symm m1 b' lim1 (by have := HMM.out; have := HM.out; omega) (by have := HO.out; omega) (Nat.le_refl _) hn16 (by have := HMM.out; have := H1b.out; have := HM.out; omega) H1b.out.2 (by rw [HMM.out]; exact HQ.out.2.2.2.2.2.1) HQ.out.2.2.2.1).mono ?_
                    rintro e w7 ⟨R, rfl, hR, hsR, h7⟩
                    have H7 : Hid (Pd w w7 B n a b d a' mid R) := HQ.out.2.2.2.2.2.2.2 R w7 (HMM.out ▸ hR) (HMM.out ▸ hsR) (H6.out.next h7)
                    clear hR hsR h7
                    go_wp2_with fail
                    go_roundg (mid - a')
                    case measure => have := HM.out; omega
                    case rel => exact ⟨a', mid, lim1, _, f, R, by go_num, by go_num, by go_num, rfl, rfl, Nat.le_refl _, by have := HM.out; have := H1b.out; omega, H1b.out.2, H7.out⟩
end Go.Proofs.Ytfonbompglddaaa
