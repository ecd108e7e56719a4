/-
  The walk of the law PacePlays.
-/
import Derived.Test.YtpcnfefeeolbpaaPParts
import Derived.Deep.CutBlock
namespace Go.Proofs.Ytpcnfefeeolbpaa
open Go Go.Shelf Go.RowKit Go.Lib Go.Proofs

/-- the pace and the document's, alike -/
structure Play (w0 : World) (M b : Nat) (p : Pc) (w : World) : Prop where
  m : Mine w0 M p w
  x : Bx w0 b p w
theorem Play.below {w0 w w' : World} {M b : Nat} {p : Pc} (h : Play w0 M b p w) (hb : Below w.heap.size w w') : Play w0 M b p w' := ⟨h.m.below hb, h.x.below hb⟩
theorem Play.ok {w0 w : World} {M b : Nat} {p : Pc} (h : Play w0 M b p w) : p.Ok := by obtain ⟨d, h⟩ := h.m.at_; exact h.ok
def PlayX (w0 : World) (M b : Nat) (was : Int) (w : World) : Prop := ∃ q, Play w0 M b q w ∧ was ≤ q.hz
def PlayRel (w0 : World) (M b L : Nat) (iv : Value) (w : World) : Prop := ∃ (k : Nat) (q : Pc), k ≤ L ∧ iv = .int .i64 k ∧ Play w0 M b q w
theorem mWait {w0 w : World} {M : Nat} {p : Pc} (h : Mine w0 M p w) (t : Int) : Calls Try.prog 14 #[.pointer (some ⟨M, 0, none⟩), .int .i64 t] w (fun e w' => e = .returned (.tuple #[.int .i64 (p.wait t).1, .bool (p.wait t).2]) ∧ Below w.heap.size w w') := by
  obtain ⟨⟨d, h1⟩, _, _⟩ := h
  exact Wait_any w M p d h1 t
theorem mState {w0 w : World} {M : Nat} {p : Pc} (h : Mine w0 M p w) : Calls Try.prog 18 #[.pointer (some ⟨M, 0, none⟩)] w (fun e w' => e = .returned (.agg (pcV p)) ∧ Below w.heap.size w w') := by
  obtain ⟨⟨d, h1⟩, _, _⟩ := h
  exact State_any w M p d h1
theorem mCopy {w0 w : World} {M : Nat} {p : Pc} (h : Mine w0 M p w) : Calls Try.prog 16 #[.pointer (some ⟨M, 0, none⟩)] w (fun e w' => ∃ N, e = .returned (.pointer (some ⟨N, 0, none⟩)) ∧ Mine w0 N p w' ∧ w.heap.size ≤ N ∧ Below w.heap.size w w') := by
  obtain ⟨⟨d, h1⟩, h2, h3⟩ := h
  exact (Copy_any w M p d h1).mono fun e w' ⟨N, k1, k2, k3, k4⟩ => ⟨N, k1, ⟨⟨d, k2⟩, Nat.le_trans h3.size k3, h3.trans (k4.mono h3.size)⟩, k3, k4⟩

abbrev S14 (v1 : World) (b B o : Nat) (p : Pc) (A B2 : Int) (V : World) : Prop :=
  V.cell? ⟨b, 0, none⟩ = some (.int .i64 p.st) ∧ V.cell? ⟨b, 1, none⟩ = some (.int .i64 p.ba) ∧ V.cell? ⟨b, 2, none⟩ = some (.int .i64 p.nu) ∧ V.cell? ⟨b, 3, none⟩ = some (.int .i64 p.de) ∧ V.cell? ⟨b, 4, none⟩ = some (.int .i64 p.cl) ∧
    V.cell? ⟨B, o + 1, none⟩ = some (.int .i64 A) ∧ V.cell? ⟨B, o + 2, none⟩ = some (.int .i64 B2) ∧ Hid (Below v1.heap.size v1 V)
theorem s14_of {v1 : World} {b B o : Nat} {p : Pc} {A B2 : Int} {V : World} (h : S14 v1 b B o p A B2 v1) (hb : Below v1.heap.size v1 V) : S14 v1 b B o p A B2 V := by
  obtain ⟨h0, h1, h2, h3, h4, h5, h6, _⟩ := h
  exact ⟨keepc hb h0, keepc hb h1, keepc hb h2, keepc hb h3, keepc hb h4, keepc hb h5, keepc hb h6, Lib.hid hb⟩
theorem below_set5 {B : Nat} {w w' : World} (h : Below B w w') {g : Nat} (hg : B ≤ g) (a b c d e : Value) : Below B w (((((w'.setCell ⟨g, 0, none⟩ a).setCell ⟨g, 1, none⟩ b).setCell ⟨g, 2, none⟩ c).setCell ⟨g, 3, none⟩ d).setCell ⟨g, 4, none⟩ e) :=
  ((((h.setCell (p := ⟨g, 0, none⟩) hg a).setCell (p := ⟨g, 1, none⟩) hg b).setCell (p := ⟨g, 2, none⟩) hg c).setCell (p := ⟨g, 3, none⟩) hg d).setCell (p := ⟨g, 4, none⟩) hg e

set_option maxHeartbeats 8000000 in
set_option maxRecDepth 100000 in
theorem plays_any (w : World) (a : Option Addr) (n c : Nat) (l : List Act) (hn : n ≤ maxLen) (hl : n ≤ 1000000 → CA.At w a n l) :
    Calls Try.prog 3 #[.slice a n c] w (TellsBB true w) := by
  have HK : Hid (∀ W, Calls Try.prog 6 #[] W (TellsBB true W)) := Lib.hid fun W => known_any W
  unfold maxLen at hn
  by_cases hbig : 60 < n
  · have hd : decide (60 < n) = true := decide_eq_true hbig
    clear hl
    go_enter Try.func3, Try.ntmps3
    go_wp2_with (go_at_call 6; refine (HK.out _).mono ?_; rintro e v ⟨rfl, hb⟩; have HB := Lib.hid hb; clear hb)
    go_ret
    exact ⟨rfl, HB.out⟩
  have hd : decide (60 < n) = false := decide_eq_false hbig
  have HL : Hid (CA.At w a n l) := Lib.hid (hl (by omega))
  clear hl
  go_enter Try.func3, Try.ntmps3
  go_wp2_with (first
    | (go_at_call 7; ((with_reducible refine (mNew w _ (Below.refl _ _)).mono ?_)); rintro e v0 ⟨M, rfl, hm, _, _⟩; have H0 := Lib.hid hm; clear hm)
    | (go_at_call 8; ((with_reducible refine (rNew_any _).mono ?_)); rintro e v1 ⟨rfl, hb⟩; have H1 := Lib.hid (H0.out.below hb); clear hb))
  obtain ⟨b, hb⟩ : ∃ b, b = v1.heap.size := ⟨_, rfl⟩
  obtain ⟨V0, hV0⟩ : ∃ V, V = v1.alloc (.cells #[.int .i64 pc0.st, .int .i64 pc0.ba, .int .i64 pc0.nu, .int .i64 pc0.de, .int .i64 pc0.cl] 27) := ⟨_, rfl⟩
  have HP0 : Hid (Play w M b pc0 V0) := Lib.hid ⟨by rw [hV0]; exact H1.out.below ((Below.refl _ _).alloc (Nat.le_refl _) _), by rw [hV0, hb]; exact heap_alloc_new _ _, by rw [hb]; exact H1.out.bel.size⟩
  have HNE : Hid (b ≠ M) := Lib.hid (by obtain ⟨d, h⟩ := H1.out.at_; have := h.lt; omega)
  rw [← hV0, ← hb]
  clear hV0 hb H0 H1
  go_loopw [5] (fun iv wr => PlayRel w M b n iv wr) (fun i _ => n - (intOf i).toNat)
  case atStart => exact ⟨0, pc0, Nat.zero_le _, rfl, HP0.out⟩
  case round =>
    clear HP0
    rename_i wr
    obtain ⟨k, p, hk, rfl, hp⟩ := hrel
    have HP := Lib.hid hp
    clear hp
    by_cases hlt : k < n
    · obtain ⟨B, off, rfl, hB, x, hx, hc⟩ := HL.out.cell hlt
      have HC : Hid (∀ W, Below w.heap.size w W → W.cell? ⟨B, off + k * 3, none⟩ = some (.int .i64 x.1) ∧ W.cell? ⟨B, off + k * 3 + 1, none⟩ = some (.int .i64 x.2.1.1) ∧ W.cell? ⟨B, off + k * 3 + 2, none⟩ = some (.int .i64 x.2.2.1)) := Lib.hid fun W hb => by
        have h := hc.below hb hB
        exact ⟨h 0 (by decide), h 1 (by decide), h 2 (by decide)⟩
      have HXB : Hid (x.2.1.1 ≤ 9223372036854775807 ∧ x.2.2.1 ≤ 9223372036854775807) := Lib.hid ⟨x.2.1.2, x.2.2.2⟩
      obtain ⟨kd, hkd⟩ : ∃ y, y = x.1 := ⟨_, rfl⟩
      obtain ⟨A, hA⟩ : ∃ y, y = x.2.1.1 := ⟨_, rfl⟩
      obtain ⟨B2, hB2⟩ : ∃ y, y = x.2.2.1 := ⟨_, rfl⟩
      rw [← hkd, ← hA, ← hB2] at HC
      rw [← hA, ← hB2] at HXB
      obtain ⟨was, hwas⟩ : ∃ y, y = p.hz := ⟨_, rfl⟩
      have HH : Hid (∀ W, Mine w M p W → Calls Try.prog 9 #[.pointer (some ⟨M, 0, none⟩)] W (fun e w' => e = .returned (.int .i64 was) ∧ Below W.heap.size W w')) := Lib.hid fun W h => hwas ▸ mHz h
      have HWAS := Lib.hid hwas
      clear hB hx hc hkd hA hB2 hwas
      go_upto_block 2 with (go_at_call 9; ((with_reducible refine (HH.out _ HP.out.m).mono ?_)); rintro e v0 ⟨rfl, hb⟩; have HV0 := Lib.hid (HP.out.below hb); clear hb; obtain ⟨x0, x1, x2⟩ := HC.out _ HV0.out.m.bel)
      go_cut [7, 8, 9, 10, 11, 12, 13, 14] from 34 to 157 (fun _ _ _ _ _ _ _ _ wx => PlayX w M b was wx)
      case first =>
        have bkk : ∀ z : Int, kd ≠ z → (kd == z) = false := fun z h => by simpa using h
        by_cases h1 : kd = 1
        · subst h1
          have T1 : Hid (∀ W, Mine w M p W → Calls Try.prog 10 #[.pointer (some ⟨M, 0, none⟩), .int .i64 A] W (fun e w' => e = .returned (.tuple #[]) ∧ Mine w M (p.tick A) w' ∧ But (fun k => k = M) W w')) := Lib.hid fun W h => mTick h A HXB.out.1
          have D1 : Hid (∀ W, Calls Try.prog 11 #[.agg (pcV p), .int .i64 A] W (fun e w' => e = .returned (.agg (pcV (p.tick A))) ∧ Below W.heap.size W w')) := Lib.hid fun W => rTick_any W p A
          have HZ : Hid (was ≤ (p.tick A).hz) := Lib.hid (HWAS.out ▸ HP.out.ok.hz_tick A)
          generalize p.tick A = q at *
          dsimp only [pcV] at D1
          clear bkk
          go_upto_region 11 with (go_at_call 10; ((with_reducible refine (T1.out _ HV0.out.m).mono ?_)); rintro e v1 ⟨rfl, hm, hbt⟩; have H1 := Lib.hid (And.intro hm (HV0.out.x.but HNE.out hbt)); clear hm hbt x0 x1 x2; obtain ⟨x0, x1, x2⟩ := HC.out _ H1.out.1.bel; obtain ⟨c0, c1, c2, c3, c4⟩ := H1.out.2.cells)
          go_region_with ((go_at_call 11; ((with_reducible refine (D1.out _).mono ?_)); rintro e w2 ⟨rfl, hb0⟩; have hb2 : Below v1.heap.size v1 w2 := ((Below.refl v1.heap.size v1).drew).trans (hb0.mono (Nat.le_refl _)); clear hb0; have H2 := Lib.hid (And.intro (H1.out.1.below hb2) (H1.out.2.below hb2)); clear hb2; obtain ⟨a0, a1, a2, a3, a4⟩ := H2.out.2.cells; obtain ⟨z0, z1, z2, z3, z4⟩ := H2.out.2.froz))
          all_goals
            go_wp2
            go_meet
            case rel => exact ⟨q, ⟨H2.out.1.but H2.out.2.new (Ne.symm HNE.out) (but5 _ _ _ _ _ _ _), H2.out.2.put q⟩, HZ.out⟩
        have k1 := bkk 1 h1
        by_cases h2 : kd = 2
        · subst h2
          obtain ⟨q, hq⟩ : ∃ q, q = p.rated A B2 := ⟨_, rfl⟩
          obtain ⟨er, her⟩ : ∃ x, x = rateE A B2 := ⟨_, rfl⟩
          have R1 : Hid (∀ W, Mine w M p W → Calls Try.prog 12 #[.pointer (some ⟨M, 0, none⟩), .int .i64 A, .int .i64 B2] W (fun e w' => e = .returned (.int .i64 er) ∧ Mine w M q w' ∧ But (fun k => k = M) W w')) := Lib.hid fun W h => by rw [hq, her]; exact mRate h A B2
          have D2 : Hid (∀ W, Calls Try.prog 13 #[.agg (pcV p), .int .i64 A, .int .i64 B2] W (fun e w' => e = .returned (.tuple #[.agg (pcV q), .int .i64 er]) ∧ Below W.heap.size W w')) := Lib.hid fun W => by rw [hq, her]; exact rRate_any W p HP.out.ok A B2
          have HZ : Hid (q.hz = was) := Lib.hid (by rw [hq, HWAS.out]; exact HP.out.ok.hz_rated A B2)
          have HHq : Hid (∀ W, Mine w M q W → Calls Try.prog 9 #[.pointer (some ⟨M, 0, none⟩)] W (fun e w' => e = .returned (.int .i64 was) ∧ Below W.heap.size W w')) := Lib.hid fun W h => HZ.out ▸ mHz h
          dsimp only [pcV] at D2
          clear bkk h1 hq her
          go_upto_region 13 with fail
          go_region_with ((go_at_call 12; ((with_reducible refine (R1.out _ ?_).mono ?_)); exact HV0.out.m.below ((Below.refl _ _).drew); rintro e v1 ⟨rfl, hm, hbt⟩; have H1 := Lib.hid (And.intro hm (HV0.out.x.but HNE.out (((But.refl (fun k => k = M) v0).drew).trans hbt))); clear hm hbt x0 x1 x2; obtain ⟨x0, x1, x2⟩ := HC.out _ H1.out.1.bel; obtain ⟨c0, c1, c2, c3, c4⟩ := H1.out.2.cells))
          all_goals
            have hbl : b < v1.heap.size := (Array.getElem?_eq_some_iff.1 H1.out.2.row).1
            have hMl : M < v1.heap.size := by obtain ⟨d, h⟩ := H1.out.1.at_; exact h.lt
            have HLT := Lib.hid (And.intro hbl hMl)
            clear hbl hMl
            obtain ⟨g1, hg1⟩ : ∃ g, v1.heap.size = g := ⟨_, rfl⟩
            have HG1 := Lib.hid hg1
            have hBl : B < v1.heap.size := World.block_lt_of_cell? v1 _ x0
            clear hBl
            go_upto_region 14 with fail
            have HS : Hid (S14 v1 b B (off + k * 3) p A B2 v1) := Lib.hid ⟨c0, c1, c2, c3, c4, x1, x2, Lib.hid (Below.refl _ _)⟩
            have HGE : Hid (v1.heap.size ≤ g1) := Lib.hid (by rw [HG1.out]; exact Nat.le_refl _)
            clear x0 x1 x2 c0 c1 c2 c3 c4
            go_region_held3 (fun V => S14 v1 b B (off + k * 3) p A B2 V) (first | with_reducible exact s14_of HS.out (below_set5 HB2.out HGE.out _ _ _ _ _) | with_reducible exact s14_of HS.out (HB2.out.alloc HB2.out.size _) | with_reducible exact s14_of HS.out HB2.out | with_reducible exact s14_of HS.out ((Below.refl _ _).drew) | with_reducible exact s14_of HS.out (((Below.refl _ _).alloc (Nat.le_refl _) _).drew) | exact s14_of HS.out (((Below.refl _ _).drew).alloc (Nat.le_refl _) _))
              ((go_at_call 13; ((with_reducible refine (D2.out _).mono ?_)); rintro e w2 ⟨rfl, hb0⟩; (first | (have r9 := (hb0.block v1.heap.size (by show v1.heap.size < (v1.alloc _).heap.size; simp)).trans (heap_alloc_new v1 _); rw [HG1.out] at r9; have hb2 : Below v1.heap.size v1 w2 := (((Below.refl v1.heap.size v1).alloc (Nat.le_refl _) _).drew).trans (hb0.mono (by show v1.heap.size ≤ (v1.alloc _).heap.size; simp)); have k0 : w2.cell? ⟨g1, 0, none⟩ = some (.int .i64 0) := (cell_of_row _ _ _ _ _ _ r9).trans rfl; have k1 : w2.cell? ⟨g1, 1, none⟩ = some (.int .i64 0) := (cell_of_row _ _ _ _ _ _ r9).trans rfl; have k2 : w2.cell? ⟨g1, 2, none⟩ = some (.int .i64 0) := (cell_of_row _ _ _ _ _ _ r9).trans rfl; have k3 : w2.cell? ⟨g1, 3, none⟩ = some (.int .i64 0) := (cell_of_row _ _ _ _ _ _ r9).trans rfl; have k4 : w2.cell? ⟨g1, 4, none⟩ = some (.int .i64 0) := (cell_of_row _ _ _ _ _ _ r9).trans rfl; have z0 : w2.frozen? ⟨g1, 0, none⟩ = false := frozen_of_row _ _ _ _ _ r9; have z1 : w2.frozen? ⟨g1, 1, none⟩ = false := frozen_of_row _ _ _ _ _ r9; have z2 : w2.frozen? ⟨g1, 2, none⟩ = false := frozen_of_row _ _ _ _ _ r9; have z3 : w2.frozen? ⟨g1, 3, none⟩ = false := frozen_of_row _ _ _ _ _ r9; have z4 : w2.frozen? ⟨g1, 4, none⟩ = false := frozen_of_row _ _ _ _ _ r9; have H9 := Lib.hid r9; clear r9) | (have hb2 : Below v1.heap.size v1 w2 := ((Below.refl v1.heap.size v1).drew).trans (hb0.mono (Nat.le_refl _)))); clear hb0; have HB2 := Lib.hid hb2; have H2 := Lib.hid (And.intro (H1.out.1.below hb2) (H1.out.2.below hb2)); clear hb2))
            all_goals
              clear hg1
              first
                | (obtain ⟨V, hV⟩ : ∃ V, V = w2.alloc (.cells #[.int .i64 q.st, .int .i64 q.ba, .int .i64 q.nu, .int .i64 q.de, .int .i64 q.cl] 27) := ⟨_, rfl⟩
                   obtain ⟨g, hg⟩ : ∃ g, g = w2.heap.size := ⟨_, rfl⟩
                   have HV : Hid (Mine w M q V ∧ Bx w b p V) := Lib.hid (by rw [hV]; exact ⟨H2.out.1.below ((Below.refl _ _).alloc (Nat.le_refl _) _), H2.out.2.below ((Below.refl _ _).alloc (Nat.le_refl _) _)⟩)
                   have rg : V.heap[g]? = some (.cells (pcV q) 27 (0, 0)) := by rw [hV, hg]; exact heap_alloc_new _ _
                   rw [← hV, ← hg])
                | (obtain ⟨V, hV⟩ : ∃ V, V = (((((w2.setCell ⟨g1, 0, none⟩ (.int .i64 q.st)).setCell ⟨g1, 1, none⟩ (.int .i64 q.ba)).setCell ⟨g1, 2, none⟩ (.int .i64 q.nu)).setCell ⟨g1, 3, none⟩ (.int .i64 q.de)).setCell ⟨g1, 4, none⟩ (.int .i64 q.cl)) := ⟨_, rfl⟩
                   obtain ⟨g, hg⟩ : ∃ g, g = g1 := ⟨_, rfl⟩
                   have hbt := but5 w2 g1 (.int .i64 q.st) (.int .i64 q.ba) (.int .i64 q.nu) (.int .i64 q.de) (.int .i64 q.cl)
                   have HV : Hid (Mine w M q V ∧ Bx w b p V) := Lib.hid (by rw [hV]; exact ⟨H2.out.1.but (by rw [← HG1.out]; exact H1.out.1.bel.size) (by have := HLT.out; have := HG1.out; omega) hbt, H2.out.2.but (by have := HLT.out; have := HG1.out; omega) hbt⟩)
                   have rg : V.heap[g]? = some (.cells (pcV q) 27 (0, 0)) := by rw [hV, hg]; exact put5 H9.out _ _ _ _ _
                   rw [← hV, ← hg])
              clear hV hg
              have f0 : V.cell? ⟨g, 0, none⟩ = some (.int .i64 q.st) := (cell_of_row _ _ _ _ _ _ rg).trans rfl
              have f1 : V.cell? ⟨g, 1, none⟩ = some (.int .i64 q.ba) := (cell_of_row _ _ _ _ _ _ rg).trans rfl
              have f2 : V.cell? ⟨g, 2, none⟩ = some (.int .i64 q.nu) := (cell_of_row _ _ _ _ _ _ rg).trans rfl
              have f3 : V.cell? ⟨g, 3, none⟩ = some (.int .i64 q.de) := (cell_of_row _ _ _ _ _ _ rg).trans rfl
              have f4 : V.cell? ⟨g, 4, none⟩ = some (.int .i64 q.cl) := (cell_of_row _ _ _ _ _ _ rg).trans rfl
              obtain ⟨d0, d1, d2, d3, d4⟩ := HV.out.2.cells
              obtain ⟨y0, y1, y2, y3, y4⟩ := HV.out.2.froz
              clear rg
              go_wp2_with (go_at_call 9; ((with_reducible refine (HHq.out _ ?_).mono ?_)); exact HV.out.1.but HV.out.2.new (Ne.symm HNE.out) (but5 _ _ _ _ _ _ _); rintro e v5 ⟨rfl, hb5⟩; have H5 := Lib.hid (Play.below ⟨HV.out.1.but HV.out.2.new (Ne.symm HNE.out) (but5 _ _ _ _ _ _ _), HV.out.2.put q⟩ hb5); clear hb5)
              go_meet
              case rel => exact ⟨q, H5.out, by rw [HZ.out]; exact Int.le_refl _⟩
        have k2 := bkk 2 h2
        by_cases h3 : kd = 3
        · subst h3
          have HWt : Hid (∀ W, Mine w M p W → Calls Try.prog 14 #[.pointer (some ⟨M, 0, none⟩), .int .i64 A] W (fun e w' => e = .returned (.tuple #[.int .i64 (p.wait A).1, .bool (p.wait A).2]) ∧ Below W.heap.size W w')) := Lib.hid fun W h => mWait h A
          have DW : Hid (∀ W, Calls Try.prog 15 #[.agg (pcV p), .int .i64 A] W (fun e w' => e = .returned (.tuple #[.int .i64 (p.wait A).1, .bool (p.wait A).2]) ∧ Below W.heap.size W w')) := Lib.hid fun W => rWait_any W p HP.out.ok A
          generalize (p.wait A).1 = wt at *
          generalize (p.wait A).2 = wb at *
          dsimp only [pcV] at DW
          clear bkk h1 h2 k1 k2
          go_upto_region 20 with (go_at_call 14; ((with_reducible refine (HWt.out _ HV0.out.m).mono ?_)); rintro e v1 ⟨rfl, hb⟩; have H1 := Lib.hid (HV0.out.below hb); clear hb x0 x1 x2; obtain ⟨x0, x1, x2⟩ := HC.out _ H1.out.m.bel; obtain ⟨c0, c1, c2, c3, c4⟩ := H1.out.x.cells)
          have g1 : ∀ q : InB v1, q.w.cell? ⟨B, off + k * 3 + 1, none⟩ = some (.int .i64 A) := fun q => cell_keep q x1
          have e0 : ∀ q : InB v1, q.w.cell? ⟨b, 0, none⟩ = some (.int .i64 p.st) := fun q => cell_keep q c0
          have e1 : ∀ q : InB v1, q.w.cell? ⟨b, 1, none⟩ = some (.int .i64 p.ba) := fun q => cell_keep q c1
          have e2 : ∀ q : InB v1, q.w.cell? ⟨b, 2, none⟩ = some (.int .i64 p.nu) := fun q => cell_keep q c2
          have e3 : ∀ q : InB v1, q.w.cell? ⟨b, 3, none⟩ = some (.int .i64 p.de) := fun q => cell_keep q c3
          have e4 : ∀ q : InB v1, q.w.cell? ⟨b, 4, none⟩ = some (.int .i64 p.cl) := fun q => cell_keep q c4
          clear x0 x1 x2 c0 c1 c2 c3 c4
          refine wp_region_below (by kernel_rfl) (by kernel_rfl) ?_
          repeat (refine WQ.step (fun K hK => ?_); go_simp; first | (refine hK _ ?_; clear hK K) | (apply Exists.intro; refine ⟨fun _ => ?_, hK _ ?_⟩; (go_at_call 15; exact Calls.inb (DW.out _)); clear hK K))
          refine WQ.nil ?_
          intro w8 hw'
          obtain ⟨pq, hpq⟩ := hw'
          have H8 := Lib.hid (H1.out.below pq.h)
          rw [← hpq] at H8
          clear hpq pq e0 e1 e2 e3 e4 g1
          go_wp2
          go_meet
          case rel => exact ⟨p, H8.out, by rw [HWAS.out]; exact Int.le_refl _⟩
        have k3 := bkk 3 h3
        by_cases h4 : kd = 4
        · subst h4
          have HCp : Hid (∀ W, Mine w M p W → Calls Try.prog 16 #[.pointer (some ⟨M, 0, none⟩)] W (fun e w' => ∃ N, e = .returned (.pointer (some ⟨N, 0, none⟩)) ∧ Mine w N p w' ∧ W.heap.size ≤ N ∧ Below W.heap.size W w')) := Lib.hid fun W h => mCopy h
          have HSa : Hid (∀ W M N, Mine w M p W → Mine w N p W → Calls Try.prog 17 #[.pointer (some ⟨M, 0, none⟩), .pointer (some ⟨N, 0, none⟩)] W (fun e w' => e = .returned (.bool true) ∧ Below W.heap.size W w')) := Lib.hid fun W M N h1 h2 => by have := mSame h1 h2; rwa [decide_eq_true (rfl : p = p)] at this
          obtain ⟨q, hq⟩ : ∃ q, q = p.tick A := ⟨_, rfl⟩
          obtain ⟨u, hu⟩ : ∃ u, u = decide (q = p) := ⟨_, rfl⟩
          have hu2 : decide (A ≤ p.cl) = u := by
            rw [hu, hq]
            by_cases hle : A ≤ p.cl
            · rw [tick_nop p A hle, decide_eq_true hle, decide_eq_true rfl]
            · rw [decide_eq_false hle, decide_eq_false fun e => hle (by have e2 := congrArg Pc.cl e; simp only [Pc.tick] at e2; omega)]
          have HT : Hid (∀ W N, Mine w N p W → Calls Try.prog 10 #[.pointer (some ⟨N, 0, none⟩), .int .i64 A] W (fun e w' => e = .returned (.tuple #[]) ∧ Mine w N q w' ∧ But (fun k => k = N) W w')) := Lib.hid fun W N h => hq ▸ mTick h A HXB.out.1
          have HSb : Hid (∀ W N, Mine w N q W → Mine w M p W → Calls Try.prog 17 #[.pointer (some ⟨N, 0, none⟩), .pointer (some ⟨M, 0, none⟩)] W (fun e w' => e = .returned (.bool u) ∧ Below W.heap.size W w')) := Lib.hid fun W N h1 h2 => hu ▸ mSame h1 h2
          have HSt : Hid (∀ W, Mine w M p W → Calls Try.prog 18 #[.pointer (some ⟨M, 0, none⟩)] W (fun e w' => e = .returned (.agg (pcV p)) ∧ Below W.heap.size W w')) := Lib.hid fun W h => mState h
          have hne : ∀ W, (binOp .neq 27 (.agg #[.int .i64 p.st, .int .i64 p.ba, .int .i64 p.nu, .int .i64 p.de, .int .i64 p.cl]) (.agg #[.int .i64 p.st, .int .i64 p.ba, .int .i64 p.nu, .int .i64 p.de, .int .i64 p.cl])).run Try.prog W = .ok (.bool false) W := fun W => by rw [pcNe, decide_eq_true rfl]; rfl
          dsimp only [pcV] at HSt
          clear bkk h1 h2 h3 k1 k2 k3 hq hu
          go_upto_region 28 with (first
            | (go_at_call 10; ((with_reducible refine (HT.out _ _ H3.out.2.1).mono ?_)); rintro e v4 ⟨rfl, hm, hbt⟩; have H4 := Lib.hid (And.intro (Play.mk (H3.out.1.m.but H3.out.2.1.new (Ne.symm H3.out.2.2.1) hbt) (H3.out.1.x.but (Ne.symm H3.out.2.2.2) hbt)) hm); clear hm hbt x0 x1 x2; obtain ⟨x0, x1, x2⟩ := HC.out _ H4.out.2.bel; obtain ⟨c0, c1, c2, c3, c4⟩ := H4.out.1.x.cells)
            | (go_at_call 17; ((with_reducible refine (HSa.out _ _ _ H2.out.1.m H2.out.2.1).mono ?_)); rintro e v3 ⟨rfl, hb⟩; have H3 := Lib.hid (And.intro (H2.out.1.below hb) (And.intro (H2.out.2.1.below hb) H2.out.2.2)); clear hb x0 x1 x2; obtain ⟨x0, x1, x2⟩ := HC.out _ H3.out.1.m.bel)
            | (go_at_call 17; ((with_reducible refine (HSa.out _ _ _ H1.out.2.1 H1.out.1.m).mono ?_)); rintro e v2 ⟨rfl, hb⟩; have H2 := Lib.hid (And.intro (H1.out.1.below hb) (And.intro (H1.out.2.1.below hb) H1.out.2.2)); clear hb)
            | (go_at_call 16; ((with_reducible refine (HCp.out _ HV0.out.m).mono ?_)); rintro e v1 ⟨N, rfl, hm, hsz, hb⟩; have H1 := Lib.hid (And.intro (HV0.out.below hb) (And.intro hm (And.intro (show N ≠ M by obtain ⟨d, h⟩ := HV0.out.m.at_; have := h.lt; omega) (show N ≠ b by have := (Array.getElem?_eq_some_iff.1 HV0.out.x.row).1; omega)))); clear hm hb hsz))
          have g1 : ∀ q : InB v4, q.w.cell? ⟨B, off + k * 3 + 1, none⟩ = some (.int .i64 A) := fun q => cell_keep q x1
          have e0 : ∀ q : InB v4, q.w.cell? ⟨b, 0, none⟩ = some (.int .i64 p.st) := fun q => cell_keep q c0
          have e1 : ∀ q : InB v4, q.w.cell? ⟨b, 1, none⟩ = some (.int .i64 p.ba) := fun q => cell_keep q c1
          have e2 : ∀ q : InB v4, q.w.cell? ⟨b, 2, none⟩ = some (.int .i64 p.nu) := fun q => cell_keep q c2
          have e3 : ∀ q : InB v4, q.w.cell? ⟨b, 3, none⟩ = some (.int .i64 p.de) := fun q => cell_keep q c3
          have e4 : ∀ q : InB v4, q.w.cell? ⟨b, 4, none⟩ = some (.int .i64 p.cl) := fun q => cell_keep q c4
          have HSc : Hid (∀ q : InB v4, Calls Try.prog 17 #[.pointer (some ⟨N, 0, none⟩), .pointer (some ⟨M, 0, none⟩)] q.w (fun e w' => e = .returned (.bool u) ∧ Below q.w.heap.size q.w w')) := Lib.hid fun q => HSb.out _ _ (H4.out.2.below q.h) (H4.out.1.m.below q.h)
          have HSd : Hid (∀ q : InB v4, Calls Try.prog 18 #[.pointer (some ⟨M, 0, none⟩)] q.w (fun e w' => e = .returned (.agg #[.int .i64 p.st, .int .i64 p.ba, .int .i64 p.nu, .int .i64 p.de, .int .i64 p.cl]) ∧ Below q.w.heap.size q.w w')) := Lib.hid fun q => HSt.out _ (H4.out.1.m.below q.h)
          clear x0 x1 x2 c0 c1 c2 c3 c4
          refine wp_region_below (by kernel_rfl) (by kernel_rfl) ?_
          repeat (refine WQ.step (fun K hK => ?_); go_simp; first | (refine hK _ ?_; clear hK K) | (apply Exists.intro; refine ⟨fun _ => ?_, hK _ ?_⟩; (first | (go_at_call 17; exact Calls.inb (HSc.out _)) | (go_at_call 18; exact Calls.inb (HSd.out _))); clear hK K))
          refine WQ.nil ?_
          intro w8 hw'
          obtain ⟨pq, hpq⟩ := hw'
          have H8 := Lib.hid (H4.out.1.below pq.h)
          rw [← hpq] at H8
          clear hpq pq e0 e1 e2 e3 e4 g1 HSc HSd
          go_wp2
          go_meet
          case rel => exact ⟨p, H8.out, by rw [HWAS.out]; exact Int.le_refl _⟩
        have k4 := bkk 4 h4
        clear bkk h1 h2 h3 h4
        go_wp2
        go_meet
        case rel => exact ⟨p, HV0.out, by rw [HWAS.out]; exact Int.le_refl _⟩
      case rest =>
        clear x0 x1 x2 HV0 HH HC HXB
        obtain ⟨wx, rfl⟩ : ∃ wx, wx = wc := ⟨_, rfl⟩
        obtain ⟨q, hpl, hle⟩ := hcut
        have H1 := Lib.hid hpl
        clear hpl
        obtain ⟨c0, c1, c2, c3, c4⟩ := H1.out.x.cells
        obtain ⟨hz, hhz⟩ : ∃ z, z = q.hz := ⟨_, rfl⟩
        have P5 : Hid (∀ r : InB wx, Calls Try.prog 9 #[.pointer (some ⟨M, 0, none⟩)] r.w (fun e w' => e = .returned (.int .i64 hz) ∧ Below r.w.heap.size r.w w')) := Lib.hid fun r => hhz ▸ mHz (H1.out.m.below r.h)
        have D5 : Hid (∀ r : InB wx, Calls Try.prog 19 #[.agg #[.int .i64 q.st, .int .i64 q.ba, .int .i64 q.nu, .int .i64 q.de, .int .i64 q.cl]] r.w (fun e w' => e = .returned (.int .i64 hz) ∧ Below r.w.heap.size r.w w')) := Lib.hid fun r => hhz ▸ rHorizon_any r.w q H1.out.ok
        have S5 : Hid (∀ r : InB wx, Calls Try.prog 18 #[.pointer (some ⟨M, 0, none⟩)] r.w (fun e w' => e = .returned (.agg #[.int .i64 q.st, .int .i64 q.ba, .int .i64 q.nu, .int .i64 q.de, .int .i64 q.cl]) ∧ Below r.w.heap.size r.w w')) := Lib.hid fun r => mState (H1.out.m.below r.h)
        have hne : ∀ W, (binOp .neq 27 (.agg #[.int .i64 q.st, .int .i64 q.ba, .int .i64 q.nu, .int .i64 q.de, .int .i64 q.cl]) (.agg #[.int .i64 q.st, .int .i64 q.ba, .int .i64 q.nu, .int .i64 q.de, .int .i64 q.cl])).run Try.prog W = .ok (.bool false) W := fun W => by rw [pcNe, decide_eq_true rfl]; rfl
        rw [← hhz] at hle
        have dz : decide (hz < was) = false := decide_eq_false (by omega)
        have e0 : ∀ r : InB wx, r.w.cell? ⟨b, 0, none⟩ = some (.int .i64 q.st) := fun r => cell_keep r c0
        have e1 : ∀ r : InB wx, r.w.cell? ⟨b, 1, none⟩ = some (.int .i64 q.ba) := fun r => cell_keep r c1
        have e2 : ∀ r : InB wx, r.w.cell? ⟨b, 2, none⟩ = some (.int .i64 q.nu) := fun r => cell_keep r c2
        have e3 : ∀ r : InB wx, r.w.cell? ⟨b, 3, none⟩ = some (.int .i64 q.de) := fun r => cell_keep r c3
        have e4 : ∀ r : InB wx, r.w.cell? ⟨b, 4, none⟩ = some (.int .i64 q.cl) := fun r => cell_keep r c4
        clear c0 c1 c2 c3 c4 hhz hle
        go_upto_region 30 with fail
        refine wp_region_below (by kernel_rfl) (by kernel_rfl) ?_
        repeat (refine WQ.step (fun K hK => ?_); go_simp; first | (refine hK _ ?_; clear hK K) | (apply Exists.intro; refine ⟨fun _ => ?_, hK _ ?_⟩; (first | (go_at_call 9; exact Calls.inb (P5.out _)) | (go_at_call 19; exact Calls.inb (D5.out _)) | (go_at_call 18; exact Calls.inb (S5.out _))); clear hK K))
        refine WQ.nil ?_
        intro w8 hw'
        obtain ⟨pq, hpq⟩ := hw'
        have H8 := Lib.hid (H1.out.below pq.h)
        rw [← hpq] at H8
        clear hpq pq e0 e1 e2 e3 e4 P5 D5 S5 hne
        go_wp2
        go_roundw
        case rel => first | exact ⟨k + 1, q, by omega, by go_num, H8.out⟩ | ((repeat apply Exists.intro); exact ⟨⟨k + 1, q, by omega, by go_num, H8.out⟩, rfl⟩)
        case measure => simp [intOf]; omega
    · have hdl : decide (k < n) = false := decide_eq_false hlt
      obtain rfl : k = n := by omega
      clear hlt hdl
      go_wp2_with (go_at_call 6; refine (HK.out _).mono ?_; rintro e v ⟨rfl, hb⟩; have HB := Lib.hid (HP.out.m.bel.trans (hb.mono HP.out.m.bel.size)); clear hb)
      go_ret
      exact ⟨rfl, HB.out⟩
end Go.Proofs.Ytpcnfefeeolbpaa
