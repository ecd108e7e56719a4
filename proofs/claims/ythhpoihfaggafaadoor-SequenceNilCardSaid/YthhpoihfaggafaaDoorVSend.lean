/-
  The walk of send.
-/
import Derived.Test.YthhpoihfaggafaaDoorVTell
import Derived.Test.YthhpoihfaggafaaDoorGQuiet
namespace Go.Proofs.YthhpoihfaggafaaDoor
open Go Go.RowKit Go.Sort Go.Proofs CodM VmM

section
variable {X : Fx} {W W0 w5 : World} {s : Run} {vv sv tv v5 : Value}
theorem St.sent (h : St X W s vv sv tv) (hX : X.Ok) (ev : Ev) (hW0 : Below W.heap.size W W0) (ho : CEv.Own 45 X.w0.heap.size w5 v5 (s.sends ++ [ev])) (hg : W0.grownBy w5 sv.ownBlock) (hl : s.sends.length < 4) :
    (w5.cell? ⟨X.R, 12, none⟩ = some sv ∧ w5.frozen? ⟨X.R, 12, none⟩ = false) ∧ St X (w5.setCell ⟨X.R, 12, none⟩ v5) { s with sends := s.sends ++ [ev] } vv v5 tv := by
  have h0 := h.next hW0
  have hb : But (fun k => some k = sv.ownBlock) W0 w5 := But.grown hg
  have hbox := (hb.block _ (Array.getElem?_eq_some_iff.1 h0.box).1 fun e => (h0.sne e.symm).1 rfl).trans h0.box
  have hroom := h0.room.but hb fun e => (h0.sne e.symm).2 rfl
  have hb2 : But (fun k => k = X.R) w5 (w5.setCell ⟨X.R, 12, none⟩ v5) := (But.refl (fun k => k = X.R) _).setCell (p := ⟨X.R, 12, none⟩) rfl _
  have hv := h0.vars.but hb fun b e e2 => h0.vs e e2.symm rfl
  have ht := h0.tells.but hb fun b e e2 => h0.st e2.symm e rfl
  have hne : ∀ {A : Type} {C : Cod A} {T : TypeId} {B : Nat} {v : Value} {l : List A}, C.Own T B w5 v l → T ≠ 176 → ∀ b, v.ownBlock = some b → ¬ b = X.R := fun h hT b e e2 => by
    obtain ⟨cur, h1⟩ := h.typ e
    exact ne_types h1 hbox hT e2
  have hkept : ∀ p ∈ X.Ds, w5.heap[p.1]? = some (.cells p.2.1 p.2.2 (0, 0)) := fun p hp => (hb.block _ (Array.getElem?_eq_some_iff.1 (h0.kept p hp)).1 fun e => by obtain ⟨cur, h1⟩ := h0.sends.typ e.symm; exact ne_types (h0.kept p hp) h1 (hX.dT p hp).2.2.2.1 rfl).trans (h0.kept p hp)
  refine ⟨⟨by rw [cell_of_row _ _ _ _ _ _ hbox]; rfl, frozen_of_row _ _ _ _ _ hbox⟩, ⟨?_, ?_, hroom.but hb2 fun e => ?_, hv.but hb2 (hne hv (by decide)), ho.but hb2 (hne ho (by decide)), ht.but hb2 (hne ht (by decide)), h.ls, by simp; omega, h.ht, fun p hp => (hb2.block _ (Array.getElem?_eq_some_iff.1 (hkept p hp)).1 (ne_types (hkept p hp) hbox (hX.dT p hp).1)).trans (hkept p hp)⟩⟩
  · exact (h0.below.trans (hb.below h0.below.size fun k e => (h0.sends.lt k e.symm).1)).setCell (p := ⟨X.R, 12, none⟩) hX.R0 _
  · rw [heap_setCell_same _ _ _ _ _ _ hbox]
    rfl
  · exact h0.RK e.symm
theorem St.count (h : St X W s vv sv tv) (hX : X.Ok) (n : Int) : St X (W.setCell ⟨X.R, 10, none⟩ (.int .i64 n)) { s with sent := n } vv sv tv :=
  h.turn hX 10 _ rfl h.room ⟨rfl, rfl⟩ ⟨rfl, rfl⟩ ⟨rfl, rfl⟩
end
theorem cell_keep {w0 : World} (p : InB w0) {a : Addr} {v : Value} (h : w0.cell? a = some v) : p.w.cell? a = some v := (p.h.cell (World.block_lt_of_cell? w0 _ h)).trans h
theorem mayE_ev (p : Int) (e : Ev) : mayE p e = mayEv e.time e.org e.seq e.to e.kind p := rfl
theorem tmod_lt (n p : Int) (h : 1 ≤ p) : -p < n.tmod p ∧ n.tmod p < p := by
  constructor
  · have := Int.lt_tmod_of_pos n (show 0 < p by omega); omega
  · exact Int.tmod_lt_of_pos n (by omega)
set_option maxHeartbeats 1000000 in
theorem process_any (M : Nat) (m : Mch) (cs : Array Value) (W : World) (hM : W.heap[M]? = some (.cells cs 132 (0, 0))) (hp : cs[3]? = some (.int .i64 m.procs)) (h1 : 1 ≤ m.procs ∧ m.procs ≤ 16) (n : Int) : Calls Tryd.prog 144 #[.pointer (some ⟨M, 0, none⟩), .int .i64 n] W (fun e w' => e = .returned (.int .i64 (whom m.procs n)) ∧ W = w') := by
  have c3 : W.cell? ⟨M, 3, none⟩ = some (.int .i64 m.procs) := by rw [cell_of_row _ _ _ _ _ _ hM]; exact hp
  obtain ⟨r, hr⟩ : ∃ r, n.tmod m.procs = r := ⟨_, rfl⟩
  have hr2 := tmod_lt n m.procs h1.1
  rw [hr] at hr2
  obtain ⟨q, hq⟩ : ∃ q, (r + m.procs - 1).tmod m.procs = q := ⟨_, rfl⟩
  have hq2 := tmod_lt (r + m.procs - 1) m.procs h1.1
  rw [hq] at hq2
  have HW : Hid (whom m.procs n = q + 1) := by
    rw [Lib.hid_eq]
    unfold whom
    rw [hr, hq]
  obtain ⟨h1a, h1b⟩ := h1
  obtain ⟨hr3, hr4⟩ := hr2
  obtain ⟨hq3, hq4⟩ := hq2
  clear hM hp
  go_enter Tryd.func144, Tryd.ntmps144
  go_wp2
  go_ret
  refine ⟨?_, rfl⟩
  rw [HW.out]
  rfl
abbrev SendS (X : Fx) (w3 : World) (n : Int) (W : World) : Prop := W.cell? ⟨X.R, 0, none⟩ = some (.pointer (some ⟨X.M, 0, none⟩)) ∧ W.cell? ⟨X.R, 1, none⟩ = some (.int .i64 X.e.time) ∧ W.cell? ⟨X.M, 2, none⟩ = some (.int .i64 X.m.self) ∧ W.cell? ⟨X.R, 10, none⟩ = some (.int .i64 n) ∧ Hid (Below w3.heap.size w3 W)
theorem send_s {X : Fx} {w3 W : World} {s : Run} {vv sv tv : Value} (h : St X w3 s vv sv tv) (hX : X.Ok) (hb : Below w3.heap.size w3 W) : SendS X w3 s.sent W := by
  have h2 := h.next hb
  exact ⟨h2.cells.1, h2.event.1, (h2.mcells hX).1, h2.cells.2.2.2.2.1, Lib.hid hb⟩
theorem below_set6 {B : Nat} {w w' : World} (h : Below B w w') {g : Nat} (hg : B ≤ g) (a b c d e f : Value) : Below B w ((((((w'.setCell ⟨g, 0, none⟩ a).setCell ⟨g, 1, none⟩ b).setCell ⟨g, 2, none⟩ c).setCell ⟨g, 3, none⟩ d).setCell ⟨g, 4, none⟩ e).setCell ⟨g, 5, none⟩ f) :=
  (((((h.setCell (p := ⟨g, 0, none⟩) hg a).setCell (p := ⟨g, 1, none⟩) hg b).setCell (p := ⟨g, 2, none⟩) hg c).setCell (p := ⟨g, 3, none⟩) hg d).setCell (p := ⟨g, 4, none⟩) hg e).setCell (p := ⟨g, 5, none⟩) hg f
set_option maxHeartbeats 4000000 in
theorem send_any (X : Fx) (hX : X.Ok) (s : Run) (W : World) (h : At X s W) (k : Int) : Calls Tryd.prog 124 #[.pointer (some ⟨X.R, 0, none⟩), .int .i64 k] W (Done X (send X.m X.e k s)) := by
  have HX := Lib.hid hX
  obtain ⟨vv, sv, tv, h⟩ := h
  obtain ⟨sa, sc, rfl, -, -, -, -⟩ := h.sends.at_ (by have := h.hs; omega)
  have hn4 := h.hs
  obtain ⟨N, hN⟩ : ∃ N, N = s.sends.length := ⟨_, rfl⟩
  obtain ⟨sv, hsv⟩ : ∃ sv, sv = Value.slice sa s.sends.length sc := ⟨_, rfl⟩
  rw [← hsv] at h
  rw [← hN] at hsv hn4
  have HN := Lib.hid hN
  have HSV := Lib.hid hsv
  clear hsv
  have HS := Lib.hid h
  obtain ⟨x, hx⟩ : ∃ x, x = top s := ⟨_, rfl⟩
  obtain ⟨d, hd⟩ : ∃ d, d = top (drop s) := ⟨_, rfl⟩
  obtain ⟨y, hy⟩ : ∃ y, y = top (drop (drop s)) := ⟨_, rfl⟩
  obtain ⟨q, hq⟩ : ∃ q, q = whom X.m.procs x := ⟨_, rfl⟩
  have HP : Hid (∀ {w3 : World} (W : World), St X w3 (drop (drop (drop s))) vv sv tv → Below w3.heap.size w3 W → Calls Tryd.prog 144 #[.pointer (some ⟨X.M, 0, none⟩), .int .i64 x] W (fun e w' => e = .returned (.int .i64 q) ∧ W = w')) := by
    rw [Lib.hid_eq, hq]
    exact fun W h hb => process_any X.M X.m (mchC X) W ((h.next hb).machine HX.out) rfl HX.out.procs x
  have HT1 : Hid (∀ W, St X W s vv sv tv → Calls Tryd.prog 140 #[.pointer (some ⟨X.R, 0, none⟩)] W (fun e w' => e = .returned (.int .i64 x) ∧ St X w' (drop s) vv sv tv)) := by
    rw [Lib.hid_eq, hx]
    exact fun W h => take_st X HX.out s W _ _ _ h
  have HT2 : Hid (∀ W, St X W (drop s) vv sv tv → Calls Tryd.prog 140 #[.pointer (some ⟨X.R, 0, none⟩)] W (fun e w' => e = .returned (.int .i64 d) ∧ St X w' (drop (drop s)) vv sv tv)) := by
    rw [Lib.hid_eq, hd]
    exact fun W h => take_st X HX.out (drop s) W _ _ _ h
  have HT3 : Hid (∀ W, St X W (drop (drop s)) vv sv tv → Calls Tryd.prog 140 #[.pointer (some ⟨X.R, 0, none⟩)] W (fun e w' => e = .returned (.int .i64 y) ∧ St X w' (drop (drop (drop s))) vv sv tv)) := by
    rw [Lib.hid_eq, hy]
    exact fun W h => take_st X HX.out (drop (drop s)) W _ _ _ h
  obtain ⟨ev, hev⟩ : ∃ ev : Ev, ev = sentBy X.m X.e k s := ⟨_, rfl⟩
  obtain ⟨u, hu⟩ : ∃ u, u = mayE X.m.procs ev := ⟨_, rfl⟩
  have HE4 : Hid (N = 4 → send X.m X.e k s = drop (drop (drop s))) := by
    rw [Lib.hid_eq]
    intro h4
    exact if_pos (.inl (by rw [← hN]; exact h4))
  have HEF : Hid (u = false → send X.m X.e k s = drop (drop (drop s))) := by
    rw [Lib.hid_eq, hu, hev]
    intro h4
    exact if_pos (.inr h4)
  have HET : Hid (¬ N = 4 → u = true → send X.m X.e k s = { drop (drop (drop s)) with sends := (drop (drop (drop s))).sends ++ [ev], sent := wrap64 (s.sent + 1) }) := by
    rw [Lib.hid_eq, hu, hev, ← w64_wrap]
    intro h4 h5
    refine if_neg ?_
    rintro (h6 | h6)
    · exact h4 (by rw [hN]; exact h6)
    · rw [h6] at h5; cases h5
  have HEV : Hid (ev = ⟨X.e.time + min (max d 1) 1048576, X.m.self, s.sent, q, k, y⟩) := by
    rw [Lib.hid_eq, hev, hd, hq, hx, hy]
    rfl
  have HUE : Hid (u = mayEv (X.e.time + min (max d 1) 1048576) X.m.self s.sent q k X.m.procs) := by
    rw [Lib.hid_eq, hu, HEV.out]
    rfl
  clear h hX hx hd hy hq hev hu hN
  go_enter Tryd.func124, Tryd.ntmps124
  go_upto_region 2 with (first
    | (go_at_call 140; refine (HT2.out _ H1.out).mono ?_; rintro e w2 ⟨rfl, h2⟩; have H2 := Lib.hid h2; clear h2)
    | (go_at_call 140; refine (HT1.out _ HS.out).mono ?_; rintro e w1 ⟨rfl, h1⟩; have H1 := Lib.hid h1; clear h1))
  obtain ⟨D, hD⟩ : ∃ D, D = min (max d 1) 1048576 := ⟨_, rfl⟩
  rw [← hD] at HEV HUE ⊢
  have hD1 : 1 ≤ D := by omega
  have hD2 : D ≤ 1048576 := by omega
  have HD := Lib.hid hD
  clear hD
  go_upto_region 3 with (go_at_call 140; refine (HT3.out _ H2.out).mono ?_; rintro e w3 ⟨rfl, h3⟩; have H3 := Lib.hid h3; clear h3)
  have ht := HX.out.time
  have hs := HX.out.self
  obtain ⟨ht1, ht2⟩ := ht
  obtain ⟨hs1, hs2⟩ := hs
  obtain ⟨T, hT⟩ : ∃ T, T = X.e.time + D := ⟨_, rfl⟩
  have hwr : IntKind.i64.wrap (X.e.time + D) = T := by rw [IntKind.wrap_i64]; omega
  rw [← hT] at HEV HUE
  have HU : Hid (∀ W, Calls Tryd.prog 37 #[.agg #[.int .i64 T, .int .i64 X.m.self, .int .i64 s.sent, .int .i64 q, .int .i64 k, .int .i64 y], .int .i64 X.m.procs] W (fun e w' => e = .returned (.bool u) ∧ Below W.heap.size W w')) := by
    rw [Lib.hid_eq, HUE.out]
    exact fun W => omay_any _ _ _ _ _ _ _ W
  have HX3 := Lib.hid hT
  clear hT HUE
  have HST := Lib.hid (send_s (s := drop (drop (drop s))) H3.out HX.out (Below.refl _ _))
  have HSTD := Lib.hid (send_s (s := drop (drop (drop s))) H3.out HX.out (Below.refl _ _).drew)
  go_region_held3 (fun V => SendS X w3 s.sent V) (first | assumption | exact HST.out | exact HSTD.out | exact send_s (s := drop (drop (drop s))) H3.out HX.out ((Below.refl _ _).drew.alloc (by simp) _) | exact send_s (s := drop (drop (drop s))) H3.out HX.out (((Below.refl _ _).alloc (by simp) _).drew) | exact send_s (s := drop (drop (drop s))) H3.out HX.out (below_set6 ((Below.refl _ _).drew.alloc (by simp) _) (by simp) _ _ _ _ _ _))
    (first
      | (go_at_call 144; ((with_reducible refine (HP.out _ H3.out (Below.refl _ _).drew).mono ?_)); rintro e0 w4 ⟨rfl, rfl⟩)
      | (go_at_call 144; ((with_reducible refine (HP.out _ H3.out ((Below.refl _ _).alloc (by simp) _).drew).mono ?_)); rintro e0 w4 ⟨rfl, rfl⟩))
  all_goals
    obtain ⟨w4, hw4⟩ : ∃ w4, w4 = (w3.alloc (.cells #[.int .i64 T, .int .i64 X.m.self, .int .i64 s.sent, .int .i64 q, .int .i64 k, .int .i64 y] 45)).drew := ⟨_, rfl⟩
    rw [← hw4]
    have h4 : St X w4 (drop (drop (drop s))) vv sv tv := by rw [hw4]; exact H3.out.next ((Below.refl _ _).alloc (Nat.le_refl _) _).drew
    have hx4 : w4.heap[w3.heap.size]? = some (.cells #[.int .i64 T, .int .i64 X.m.self, .int .i64 s.sent, .int .i64 q, .int .i64 k, .int .i64 y] 45 (0, 0)) := by rw [hw4]; exact heap_alloc_new _ _
    obtain ⟨E, hE⟩ : ∃ E, E = w3.heap.size := ⟨_, rfl⟩
    rw [← hE] at hx4 ⊢
    have e0 : w4.cell? ⟨E, 0, none⟩ = some (.int .i64 T) := by rw [cell_of_row _ _ _ _ _ _ hx4]; rfl
    have e1 : w4.cell? ⟨E, 1, none⟩ = some (.int .i64 X.m.self) := by rw [cell_of_row _ _ _ _ _ _ hx4]; rfl
    have e2 : w4.cell? ⟨E, 2, none⟩ = some (.int .i64 s.sent) := by rw [cell_of_row _ _ _ _ _ _ hx4]; rfl
    have e3 : w4.cell? ⟨E, 3, none⟩ = some (.int .i64 q) := by rw [cell_of_row _ _ _ _ _ _ hx4]; rfl
    have e4 : w4.cell? ⟨E, 4, none⟩ = some (.int .i64 k) := by rw [cell_of_row _ _ _ _ _ _ hx4]; rfl
    have e5 : w4.cell? ⟨E, 5, none⟩ = some (.int .i64 y) := by rw [cell_of_row _ _ _ _ _ _ hx4]; rfl
    have c0 := h4.cells.1
    have c12 := h4.cells.2.2.2.2.2.2.1
    have c3 := (h4.mcells HX.out).2.1
    rw [HSV.out] at c12
    have hp := HX.out.procs
    obtain ⟨hp1, hp2⟩ := hp
    have H4 := Lib.hid (And.intro h4 hx4)
    clear hw4 hE h4 hx4 HST HSTD HT1 HT2 HT3 HP hwr
    have q0 : ∀ p : InB w4, p.w.cell? ⟨E, 0, none⟩ = some (.int .i64 T) := fun p => (cell_keep p e0)
    have q1 : ∀ p : InB w4, p.w.cell? ⟨E, 1, none⟩ = some (.int .i64 X.m.self) := fun p => (cell_keep p e1)
    have q2 : ∀ p : InB w4, p.w.cell? ⟨E, 2, none⟩ = some (.int .i64 s.sent) := fun p => (cell_keep p e2)
    have q3 : ∀ p : InB w4, p.w.cell? ⟨E, 3, none⟩ = some (.int .i64 q) := fun p => (cell_keep p e3)
    have q4 : ∀ p : InB w4, p.w.cell? ⟨E, 4, none⟩ = some (.int .i64 k) := fun p => (cell_keep p e4)
    have q5 : ∀ p : InB w4, p.w.cell? ⟨E, 5, none⟩ = some (.int .i64 y) := fun p => (cell_keep p e5)
    have q6 : ∀ p : InB w4, p.w.cell? ⟨X.R, 0, none⟩ = some (.pointer (some ⟨X.M, 0, none⟩)) := fun p => (cell_keep p c0)
    have q7 : ∀ p : InB w4, p.w.cell? ⟨X.R, 12, none⟩ = some (.slice sa N sc) := fun p => (cell_keep p c12)
    have q8 : ∀ p : InB w4, p.w.cell? ⟨X.M, 3, none⟩ = some (.int .i64 X.m.procs) := fun p => (cell_keep p c3)
    have HQ := Lib.hid (And.intro q0 (And.intro q1 (And.intro q2 (And.intro q3 (And.intro q4 (And.intro q5 q7))))))
    clear e0 e1 e2 e3 e4 e5 c0 c12 c3
    by_cases hl : N = 4
    · have hlI : ((N : Int) == 4) = true := by simp [hl]
      have HE := Lib.hid (HE4.out hl)
      clear HE4 HEF HET HU hl
      go_wp2_with fail
      refine wp_region_below (by kernel_rfl) (by kernel_rfl) ?_
      repeat (refine WQ.step (fun K hK => ?_); go_simp; first | (refine hK _ ?_; clear hK K) | (apply Exists.intro; refine ⟨fun _ => ?_, hK _ ?_⟩; (fail); clear hK K))
      refine WQ.nil ?_
      intro _ hw'
      obtain ⟨pq, hw''⟩ := hw'
      subst hw''
      go_wp2
      go_end0
      refine ⟨rfl, vv, sv, tv, ?_⟩
      rw [HE.out]
      exact H4.out.1.next pq.h
    · have hlI : ((N : Int) == 4) = false := by simp; omega
      cases u with
      | false =>
        have HE := Lib.hid (HEF.out rfl)
        clear HE4 HEF HET hl
        go_wp2_with fail
        refine wp_region_below (by kernel_rfl) (by kernel_rfl) ?_
        repeat (refine WQ.step (fun K hK => ?_); go_simp; first | (refine hK _ ?_; clear hK K) | (apply Exists.intro; refine ⟨fun _ => ?_, hK _ ?_⟩; (go_at_call 37; exact Calls.inb (HU.out _)); clear hK K))
        refine WQ.nil ?_
        intro _ hw'
        obtain ⟨pq, hw''⟩ := hw'
        subst hw''
        go_wp2
        go_end0
        refine ⟨rfl, vv, sv, tv, ?_⟩
        rw [HE.out]
        exact H4.out.1.next pq.h
      | true =>
        have HE := Lib.hid (HET.out hl rfl)
        have HLT : Hid ((drop (drop (drop s))).sends.length < 4) := by
          rw [Lib.hid_eq]
          show s.sends.length < 4
          have := HN.out
          omega
        clear HE4 HEF HET hl
        go_wp2_with fail
        refine wp_region_below (by kernel_rfl) (by kernel_rfl) ?_
        repeat (refine WQ.step (fun K hK => ?_); go_simp; first | (refine hK _ ?_; clear hK K) | (apply Exists.intro; refine ⟨fun _ => ?_, hK _ ?_⟩; (go_at_call 37; exact Calls.inb (HU.out _)); clear hK K))
        refine WQ.nil ?_
        intro _ hw'
        obtain ⟨pq, hw''⟩ := hw'
        subst hw''
        obtain ⟨g0, g1, g2, g3, g4, g5, g7⟩ := HQ.out
        replace g0 := g0 pq
        replace g1 := g1 pq
        replace g2 := g2 pq
        replace g3 := g3 pq
        replace g4 := g4 pq
        replace g5 := g5 pq
        replace g7 := g7 pq
        have HSP := Lib.hid (H4.out.1.next pq.h)
        obtain ⟨w5, hw5⟩ : ∃ w5, w5 = pq.w := ⟨_, rfl⟩
        rw [← hw5] at g0 g1 g2 g3 g4 g5 g7 HSP ⊢
        clear hw5 q0 q1 q2 q3 q4 q5 q6 q7 q8 pq HQ H4 HU hlI HX3
        go_wp2_with fail
        have HB : Hid (∀ o, Below w5.heap.size w5 (w5.drew.alloc o)) := Lib.hid fun o => (Below.refl _ w5).drew.alloc (Nat.le_refl _) o
        have HC : Hid (∀ o, Below w5.heap.size w5 (w5.alloc o).drew) := Lib.hid fun o => ((Below.refl _ w5).alloc (Nat.le_refl _) o).drew
        have g8 : (w5.alloc (.cells #[.int .i64 T, .int .i64 X.m.self, .int .i64 s.sent, .int .i64 q, .int .i64 k, .int .i64 y] 45)).cell? ⟨X.R, 12, none⟩ = some (.slice sa N sc) := by
          have := (HSP.out.next ((Below.refl _ w5).alloc (Nat.le_refl _) (.cells #[.int .i64 T, .int .i64 X.m.self, .int .i64 s.sent, .int .i64 q, .int .i64 k, .int .i64 y] 45))).cells.2.2.2.2.2.2.1
          rw [HSV.out] at this
          exact this
        go_region_law (first
          | (refine rowE.step rfl _ _ rfl X.w0.heap.size (.slice sa N sc) (drop (drop (drop s))).sends rfl (by rw [← HSV.out]; first | exact HSP.out.sends.below (HB.out _) | exact HSP.out.sends.below (HC.out _)) ⟨w5.heap.size, 0, none⟩ 1 1 [ev] rfl rfl (Cod.news_one (C := CEv) _ ev _ _ (by rw [HEV.out]; exact heap_alloc_new _ _)) (by have := HLT.out; omega) (by have := HLT.out; omega) (Nat.le_trans HSP.out.below.size (by simp)) ?_; intro v6 w6 hown6 hgrow6 hnew6; rw [← HSV.out] at hgrow6; have h6 := HSP.out.sent HX.out ev (by first | exact HB.out _ | exact HC.out _) hown6 hgrow6 HLT.out; have d12 := h6.1.1; have f12 := h6.1.2; have H6 := Lib.hid h6.2; obtain ⟨a6, n6, k6, rfl⟩ := hown6.shape; clear hown6 hgrow6 hnew6 h6))
        all_goals
          obtain ⟨w7, hw7⟩ : ∃ w7, w7 = w6.setCell ⟨X.R, 12, none⟩ (.slice a6 n6 k6) := ⟨_, rfl⟩
          rw [← hw7] at H6 ⊢
          have d10 := H6.out.cells.2.2.2.2.1
          have f10 := H6.out.free 10
          clear hw7
          go_wp2
          go_end0
          refine ⟨rfl, vv, .slice a6 n6 k6, tv, ?_⟩
          rw [HE.out]
          exact H6.out.count HX.out _
end Go.Proofs.YthhpoihfaggafaaDoor
