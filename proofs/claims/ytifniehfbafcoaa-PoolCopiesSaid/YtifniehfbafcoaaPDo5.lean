/-
  The walks of do's fifth kind, of do, of same.
-/
import Derived.Test.YtifniehfbafcoaaPDo4
namespace Go.Proofs.Ytifniehfbafcoaa
open Go Go.Shelf Go.RowKit Go.Lib Go.Sort Go.Proofs

theorem upTo_cut {L : List Ms} {q : Nat} (h1 : 0 < q) (h2 : q < L.length) : upTo L (q : Int) = L.take q := by
  unfold upTo
  rw [if_pos ⟨by omega, by omega⟩]
  simp
theorem upTo_all {L : List Ms} {n : Int} (h : n ≤ 0 ∨ (L.length : Int) ≤ n) : upTo L n = L := by
  unfold upTo
  split
  · next h2 =>
    rw [List.take_of_length_le (by omega)]
  · rfl
/-- what the document's pool shows -/
theorem Rf.row {W : World} {R : Nat} {S : Nat → Prop} {x : List Ms × Nat} (h : Rf W R S x) : ∃ a n c, W.cell? ⟨R, 0, none⟩ = some (.slice a n c) ∧ n = x.1.length ∧ n ≤ c ∧ MsC.At W a n x.1 := by
  obtain ⟨a, n, c, hR, hn, hc, hA, -⟩ := h.open
  exact ⟨a, n, c, by rw [cell_of_row _ _ _ _ _ _ hR]; rfl, hn, hc, hA⟩
theorem Rf.rfg {W : World} {R : Nat} {S : Nat → Prop} {x : List Ms × Nat} (h : Rf W R S x) (h0 : 0 < x.1.length) : ∃ g n c, W.cell? ⟨R, 0, none⟩ = some (.slice (some ⟨g, 0, none⟩) n c) ∧ n = x.1.length ∧ n ≤ c ∧ MsC.At W (some ⟨g, 0, none⟩) n x.1 := by
  obtain ⟨a, n, c, hR, hn, hc, hA, ⟨_, e, _⟩ | ⟨g, rfl, _⟩⟩ := h.open
  · rw [e] at h0
    exact absurd h0 (Nat.lt_irrefl _)
  · exact ⟨g, n, c, by rw [cell_of_row _ _ _ _ _ _ hR]; rfl, hn, hc, hA⟩
set_option maxHeartbeats 2000000 in
set_option maxRecDepth 100000 in
theorem do5 (T : Nat → Prop) (w W : World) (G R : Nat) (x : List Ms × Nat) (h : Dd T w W G R x x []) (hl : x.2 ≤ 1000) (y : Ms) (n : Int) : Calls Try.prog 8 #[.pointer (some ⟨G, 0, none⟩), .pointer (some ⟨R, 0, none⟩), ActV 5 y n] W (OneTo (.bool true) T w G R x) := by
  have h1 := h.box (ActO 5 y n)
  obtain ⟨a0, a1, a2, a3, a4, a5, a6, a7, a8, a9, a10, a11⟩ := act_here (h1.get (List.Mem.head _))
  have H1 := Lib.hid h1
  obtain ⟨F, hF⟩ := h1.fst
  have HF : Hid (Pl (W.alloc (ActO 5 y n)) G F x) := hF
  have HL : Hid (x.1.length ≤ 1000) := by have := Dd.len h; show _ ≤ _; omega
  obtain ⟨N, hN⟩ : ∃ N, N = x.1.length := ⟨_, rfl⟩
  have HN := Lib.hid hN
  clear h hl h1 hF
  by_cases hcut : 0 < n ∧ n < (N : Int)
  · obtain ⟨q, rfl⟩ : ∃ q : Nat, n = q := ⟨n.toNat, by omega⟩
    have hq0 : 0 < q := by omega
    have hq0d : decide (0 < q) = true := by simpa using hq0
    have hqz : (0 : Int) ≤ (q : Int) := by omega
    have hu := upTo_cut (L := x.1) (q := q) (by omega) (by omega)
    have HU : Hid (upTo x.1 (q : Int) = x.1.take q ∧ q < x.1.length) := ⟨hu, by omega⟩
    clear hu hcut hN
    go_enter Try.func8, Try.ntmps8
    go_wp2_with (first
      | (go_at_call 14; refine (rsame_any w3 a1 (some ⟨g, 0, none⟩) q q c1 c (x.1.take q) (x.1.take q) (HA.out.1) (HA.out.2)).mono ?_; rintro e w4 ⟨rfl, h4⟩; rw [decide_eq_true rfl]; have H4 := Lib.hid h4; clear h4)
      | (go_at_call 18; refine (list_any _ G F x _ HF.out).mono ?_; rintro e w3 ⟨v, rfl, hv, hb⟩; have h3 := H1.out.below hb; rw [HU.out.1] at hv; obtain ⟨a1, c1, hv1, -, hA1, -, -⟩ := hv.at_ (by rw [List.length_take]; have := HL.out; omega); have hlq : (x.1.take q).length = q := (by rw [List.length_take]; have := HU.out.2; omega); rw [hlq] at hv1 hA1; subst hv1; obtain ⟨S, hS⟩ := h3.snd; obtain ⟨g, m, c, r0, hm, hmc, hA2⟩ := Rf.rfg hS (by have := HU.out.2; omega); have hqm : q ≤ m := (by rw [hm]; have := HU.out.2; omega); have hqm1 : q < m := (by rw [hm]; have := HU.out.2; omega); have hqm2 : decide (q < m) = true := (by simpa using hqm1); have hqc : (q : Int) ≤ (c : Int) := (by omega); have hqc2 : q ≤ c := (by omega); have HA := Lib.hid (And.intro hA1 (hA2.front q hqm)); have H3 := Lib.hid h3; obtain ⟨b0, b1, b2, b3, b4, b5, b6, b7, b8, b9, b10, b11⟩ := act_here (k := 5) (x := y) (n := (q : Int)) (h3.get (b := W.heap.size) (List.Mem.head _)); clear h3 hS hv hb hA1 hA2 hm hlq))
    go_ret
    exact ⟨x, Nat.le_succ _, rfl, (H3.out.below H4.out.below).less⟩
  · have hu := upTo_all (L := x.1) (n := n) (by omega)
    have HU := Lib.hid hu
    have HC := Lib.hid hcut
    clear hu hcut hN
    by_cases hn0 : n > 0
    · have hq0 : decide (n > 0) = true := by simpa using hn0
      have HNN := Lib.hid hn0
      clear hn0
      go_enter Try.func8, Try.ntmps8
      go_wp2_with (first
        | (go_at_call 14; refine (rsame_any w3 a1 a m m c1 c x.1 x.1 (HA.out.1) (HA.out.2)).mono ?_; rintro e w4 ⟨rfl, h4⟩; rw [decide_eq_true rfl]; have H4 := Lib.hid h4; clear h4)
        | (go_at_call 18; refine (list_any _ G F x _ HF.out).mono ?_; rintro e w3 ⟨v, rfl, hv, hb⟩; have h3 := H1.out.below hb; rw [HU.out] at hv; obtain ⟨a1, c1, hv1, -, hA1, -, -⟩ := hv.at_ (by have := HL.out; omega); subst hv1; obtain ⟨S, hS⟩ := h3.snd; obtain ⟨a, m, c, r0, hm, hmc, hA2⟩ := Rf.row hS; rw [← hm] at hA1 ⊢; have hqm2 : decide (n < (m : Int)) = false := (by simp; rw [hm, ← HN.out]; have := HC.out; have := HNN.out; omega); have HA := Lib.hid (And.intro hA1 hA2); have H3 := Lib.hid h3; obtain ⟨b0, b1, b2, b3, b4, b5, b6, b7, b8, b9, b10, b11⟩ := act_here (k := 5) (x := y) (n := n) (h3.get (b := W.heap.size) (List.Mem.head _)); clear h3 hS hv hb hA1 hA2 hm))
      go_ret
      exact ⟨x, Nat.le_succ _, rfl, (H3.out.below H4.out.below).less⟩
    · have hq0 : decide (n > 0) = false := by simpa using hn0
      clear hn0
      go_enter Try.func8, Try.ntmps8
      go_wp2_with (first
        | (go_at_call 14; refine (rsame_any w3 a1 a m m c1 c x.1 x.1 (HA.out.1) (HA.out.2)).mono ?_; rintro e w4 ⟨rfl, h4⟩; rw [decide_eq_true rfl]; have H4 := Lib.hid h4; clear h4)
        | (go_at_call 18; refine (list_any _ G F x _ HF.out).mono ?_; rintro e w3 ⟨v, rfl, hv, hb⟩; have h3 := H1.out.below hb; rw [HU.out] at hv; obtain ⟨a1, c1, hv1, -, hA1, -, -⟩ := hv.at_ (by have := HL.out; omega); subst hv1; obtain ⟨S, hS⟩ := h3.snd; obtain ⟨a, m, c, r0, hm, hmc, hA2⟩ := Rf.row hS; rw [← hm] at hA1 ⊢; have HA := Lib.hid (And.intro hA1 hA2); have H3 := Lib.hid h3; obtain ⟨b0, b1, b2, b3, b4, b5, b6, b7, b8, b9, b10, b11⟩ := act_here (k := 5) (x := y) (n := n) (h3.get (b := W.heap.size) (List.Mem.head _)); clear h3 hS hv hb hA1 hA2 hm))
      go_ret
      exact ⟨x, Nat.le_succ _, rfl, (H3.out.below H4.out.below).less⟩
set_option maxRecDepth 100000 in
theorem do0 (T : Nat → Prop) (w W : World) (G R : Nat) (x : List Ms × Nat) (h : Dd T w W G R x x []) (k : Int) (y : Ms) (n : Int) (h1 : k ≠ 1) (h2 : k ≠ 2) (h3 : k ≠ 3) (h4 : k ≠ 4) (h5 : k ≠ 5) : Calls Try.prog 8 #[.pointer (some ⟨G, 0, none⟩), .pointer (some ⟨R, 0, none⟩), ActV k y n] W (OneTo (.bool true) T w G R x) := by
  have H1 : Hid (Dd T w _ G R x x _) := h.box (ActO k y n)
  have d1 : (k == 1) = false := beq_eq_false_iff_ne.2 h1
  have d2 : (k == 2) = false := beq_eq_false_iff_ne.2 h2
  have d3 : (k == 3) = false := beq_eq_false_iff_ne.2 h3
  have d4 : (k == 4) = false := beq_eq_false_iff_ne.2 h4
  have d5 : (k == 5) = false := beq_eq_false_iff_ne.2 h5
  clear h h1 h2 h3 h4 h5
  go_enter Try.func8, Try.ntmps8
  go_wp2
  go_ret
  exact ⟨x, Nat.le_succ _, rfl, H1.out.less⟩
/-- an act by both: they answer alike, and have alike -/
theorem do_any (T : Nat → Prop) (w W : World) (G R : Nat) (x : List Ms × Nat) (h : Dd T w W G R x x []) (hl : x.2 ≤ 1000) (k : Int) (y : Ms) (n : Int) : Calls Try.prog 8 #[.pointer (some ⟨G, 0, none⟩), .pointer (some ⟨R, 0, none⟩), ActV k y n] W (OneTo (.bool true) T w G R x) := by
  by_cases h1 : k = 1
  · exact h1 ▸ do1 T w W G R x h hl y n
  by_cases h2 : k = 2
  · exact h2 ▸ do2 T w W G R x h y n
  by_cases h3 : k = 3
  · exact h3 ▸ do3 T w W G R x h y n
  by_cases h4 : k = 4
  · exact h4 ▸ do4 T w W G R x h y n
  by_cases h5 : k = 5
  · exact h5 ▸ do5 T w W G R x h hl y n
  exact do0 T w W G R x h k y n h1 h2 h3 h4 h5
theorem len_g {G : Nat} {F : Nat → Prop} {x : List Ms × Nat} {w : World} (h : Pl w G F x) (m : Nat) (hm : m = x.1.length) (n : Nat) (os : Array Obj) :
    Calls Try.prog 17 #[.pointer (some ⟨G, 0, none⟩)] (grow (w.drewN n) os) fun e w'' => e = .returned (.int .i64 (m : Nat)) ∧ ∃ p : GrownBy, w'' = grow (w.drewN p.n) p.os := by
  subst hm
  exact Calls.grown_of ((pl_len (Thing.below (A := plT) h (Gw.below ⟨n, os, rfl⟩))).mono fun _ _ ⟨he, hw⟩ => ⟨he, 0, #[], by rw [grow_empty, ← hw]; rfl⟩)
theorem rsame_g {w : World} {a b : Option Addr} {n m c e : Nat} {l r : List Ms} (hl : MsC.At w a n l) (hr : MsC.At w b m r) (t : Bool) (ht : t = decide (l = r)) (q : Nat) (os : Array Obj) :
    Calls Try.prog 14 #[.slice a n c, .slice b m e] (grow (w.drewN q) os) fun e w'' => e = .returned (.bool t) ∧ ∃ p : GrownBy, w'' = grow (w.drewN p.n) p.os := by
  subst ht
  exact Calls.grown_of ((rsame_any _ a b n m c e l r (hl.below (Gw.below ⟨q, os, rfl⟩)) (hr.below (Gw.below ⟨q, os, rfl⟩))).mono fun _ _ ⟨he, q2, os2, hw⟩ => ⟨he, q2, os2, hw⟩)
set_option maxHeartbeats 2000000 in
set_option maxRecDepth 100000 in
theorem same_any (w : World) (G R : Nat) (F S : Nat → Prop) (x : List Ms × Nat) (hF : Pl w G F x) (hS : Rf w R S x) : Calls Try.prog 9 #[.pointer (some ⟨G, 0, none⟩), .pointer (some ⟨R, 0, none⟩)] w (Tells (.bool true) w) := by
  have mixed : Try.prog.follows .mixedOrders = true := by kernel_rfl
  have HF := Lib.hid hF
  have HS := Lib.hid hS
  have HL : Hid (x.1.length ≤ 1000000) := by
    obtain ⟨_, _, _, _, _, _, h, _⟩ := hS
    exact h
  have HU : Hid (upTo x.1 0 = x.1) := upTo_all (.inl (Int.le_refl _))
  clear hF hS
  go_enter Try.func9, Try.ntmps9
  go_wp2_with (go_at_call 18; refine (list_any w G F x _ HF.out).mono ?_; rintro e w3 ⟨v, rfl, hv, hb⟩; rw [HU.out] at hv; obtain ⟨a1, c1, hv1, -, hA1, -, -⟩ := hv.at_ HL.out; subst hv1; obtain ⟨a, m, c, r0, hm, hmc, hA2⟩ := Rf.row (HS.out.below hb); rw [← hm] at hA1 ⊢; have hF3 : Pl w3 G F x := Thing.below (A := plT) HF.out hb; have HA := Lib.hid (And.intro hA1 (And.intro hA2 (And.intro hm (And.intro hb hF3)))); clear hv hb hA1 hA2 hm hF3)
  have hrc := fun nq os => (show Gw w3 (grow (w3.drewN nq) os) from ⟨nq, os, rfl⟩).cell r0
  clear r0
  refine wp_region_gw (by kernel_rfl) (by kernel_rfl) ?_
  iterate 20 (refine WQ.step (fun K hK => ?_); go_simp; first | (refine hK _ ?_; clear hK K) | (apply Exists.intro; refine ⟨fun _ => ?_, hK _ ?_⟩; (first | (go_at_call 17; exact len_g HA.out.2.2.2.2 m HA.out.2.2.1 _ _) | (go_at_call 14; exact rsame_g HA.out.1 HA.out.2.1 true (decide_eq_true rfl).symm _ _)); clear hK K))
  refine WQ.nil ?_
  intro _ hw'
  obtain ⟨⟨nq, osq⟩, hw''⟩ := hw'
  subst hw''
  have H5 : Hid (Below w.heap.size w (grow (w3.drewN nq) osq)) := HA.out.2.2.2.1.trans ((Gw.below ⟨nq, osq, rfl⟩).mono HA.out.2.2.2.1.size)
  clear hrc
  generalize grow (w3.drewN nq) osq = w5 at H5 ⊢
  go_wp2
  go_ret
  exact ⟨rfl, H5.out⟩
end Go.Proofs.Ytifniehfbafcoaa
