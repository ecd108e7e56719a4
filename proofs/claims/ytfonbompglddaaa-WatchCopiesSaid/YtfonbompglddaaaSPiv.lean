/-
  order2Ordered, medianOrdered, choosePivotOrdered of a row of 13 to 49 numbers: some place in it.
-/
import Derived.Test.YtfonbompglddaaaSRev
namespace Go.Proofs.Ytfonbompglddaaa
open Go Go.RowKit Go.Lib Go.Sort Go.Proofs

/-- the row as it was; and a count in a box behind it -/
structure Ct (w0 w : World) (B : Nat) (d : Array Nat) (P s : Nat) : Prop where
  row : Rw w0 w B d
  box : w.heap[P]? = some (.cells #[.int .i64 (s : Nat)] 3 (0, 0))
  new : w0.heap.size ≤ P
theorem Ct.gw {w0 w w' : World} {B : Nat} {d : Array Nat} {P s : Nat} (h : Ct w0 w B d P s) (g : Gw w w') : Ct w0 w' B d P s := ⟨h.row.gw g, (g.block (Array.getElem?_eq_some_iff.1 h.box).1).trans h.box, h.new⟩
theorem Ct.set {w0 w : World} {B : Nat} {d : Array Nat} {P s : Nat} (h : Ct w0 w B d P s) (t : Nat) : Ct w0 (w.setCell ⟨P, 0, none⟩ (.int .i64 (t : Nat))) B d P t := by
  have hne : B ≠ P := fun e => by have := h.row.lt; have := h.new; omega
  have hb : But (fun b => b = P) w (w.setCell ⟨P, 0, none⟩ (.int .i64 (t : Nat))) := (But.refl (fun b => b = P) w).setCell (p := ⟨P, 0, none⟩) rfl _
  have hB : (w.setCell ⟨P, 0, none⟩ (.int .i64 (t : Nat))).heap[B]? = w.heap[B]? := hb.block B (Nat.lt_of_lt_of_le h.row.lt h.row.but.size) hne
  refine ⟨⟨fun j hj => ?_, fun j => ?_, h.row.lt, h.row.but.next hb fun j hj e => ?_, fun cur T e => by rw [hB]; exact h.row.shp cur T e⟩, ?_, h.new⟩
  · rw [World.cell?_of_block (w := w) (a := ⟨B, j, none⟩) hB]
    exact h.row.cell j hj
  · rw [← h.row.frozen j]
    unfold World.frozen?
    rw [show (w.setCell ⟨P, 0, none⟩ (.int .i64 (t : Nat))).heap[(⟨B, j, none⟩ : Addr).block]? = w.heap[(⟨B, j, none⟩ : Addr).block]? from hB]
  · have := h.new; omega
  · rw [heap_setCell_same w P 0 _ _ _ h.box]
    rfl
/-- two places are told, the same or turned -/
def TwoTo (w0 : World) (B : Nat) (d : Array Nat) (P s a b : Nat) (e : Ending) (w' : World) : Prop := ∃ x y t : Nat, e = .returned (.tuple #[.int .i64 x, .int .i64 y]) ∧ ((x = a ∧ y = b) ∨ (x = b ∧ y = a)) ∧ t ≤ s + 1 ∧ Ct w0 w' B d P t
set_option maxHeartbeats 2000000 in
set_option maxRecDepth 100000 in
theorem order2_any {w0 w : World} {B n c P s : Nat} {d : Array Nat} (h : Ct w0 w B d P s) (hn : n = d.size) (hs : s ≤ 1000) (a b : Nat) (ha : a < n) (hb : b < n) : Calls Try.prog 60 #[slU B n c, .int .i64 a, .int .i64 b, .pointer (some ⟨P, 0, none⟩)] w (TwoTo w0 B d P s a b) := by
  have mixed : Try.prog.follows .mixedOrders = true := by kernel_rfl
  have H := Lib.hid h
  have HN := Lib.hid hn
  have haz : (a : Int) < (n : Int) := by omega
  have hbz : (b : Int) < (n : Int) := by omega
  have x0 := h.row.at_ (j := a) (by rw [← hn]; exact ha)
  have x1 := h.row.at_ (j := b) (by rw [← hn]; exact hb)
  obtain ⟨t, ht⟩ : ∃ t, ltN d[b]! d[a]! = t := ⟨_, rfl⟩
  have HTT := Lib.hid ht
  obtain ⟨s1, hs1⟩ : ∃ s1, s1 = s + 1 := ⟨_, rfl⟩
  have g1 : (s : Int) + 1 = (s1 : Int) := by omega
  have g2 : IntKind.i64.wrap ((s : Int) + 1) = (s1 : Int) := by rw [IntKind.wrap_i64]; omega
  have g3 : IntKind.i64.wrap (s1 : Int) = (s1 : Int) := by rw [IntKind.wrap_i64]; omega
  have HS := Lib.hid hs1
  clear h hn ht hs1 ha hb
  go_enter Try.func60, Try.ntmps60
  go_wp2_with fail
  refine wp_region_gw (by kernel_rfl) (by kernel_rfl) ?_
  iterate 9 (refine WQ.step (fun K hK => ?_); go_simp; first | (refine hK _ ?_; clear hK K) | (apply Exists.intro; refine ⟨fun _ => ?_, hK _ ?_⟩; (go_at_call 49; exact less_g HTT.out _ _ _); clear hK K))
  refine WQ.nil ?_
  intro _ hw'
  obtain ⟨⟨nq, osq⟩, hw''⟩ := hw'
  subst hw''
  have G2 : Hid (Ct w0 (grow (w.drewN nq) osq) B d P s) := H.out.gw (Gw.of w nq osq)
  clear x0 x1
  generalize grow (w.drewN nq) osq = w2 at G2 ⊢
  cases t with
  | true =>
    have y0 : w2.cell? ⟨P, 0, none⟩ = some (.int .i64 (s : Nat)) := by rw [cell_of_row _ _ _ _ _ _ G2.out.box]; rfl
    have f0 : w2.frozen? ⟨P, 0, none⟩ = false := frozen_of_row _ _ _ _ _ G2.out.box
    go_wp2_with fail
    go_ret2
    exact ⟨b, a, s1, rfl, .inr ⟨rfl, rfl⟩, by rw [HS.out]; exact Nat.le_refl _, G2.out.set s1⟩
  | false =>
    go_wp2_with fail
    go_ret2
    exact ⟨a, b, s, rfl, .inl ⟨rfl, rfl⟩, Nat.le_succ _, G2.out⟩
def OneOf (w0 : World) (B : Nat) (d : Array Nat) (P s a b c : Nat) (e : Ending) (w' : World) : Prop := ∃ x t : Nat, e = .returned (.int .i64 x) ∧ (x = a ∨ x = b ∨ x = c) ∧ t ≤ s + 3 ∧ Ct w0 w' B d P t
set_option maxHeartbeats 2000000 in
theorem median_any {w0 w : World} {B n c P s : Nat} {d : Array Nat} (h : Ct w0 w B d P s) (hn : n = d.size) (hs : s ≤ 900) (i j k : Nat) (hi : i < n) (hj : j < n) (hk : k < n) : Calls Try.prog 58 #[slU B n c, .int .i64 i, .int .i64 j, .int .i64 k, .pointer (some ⟨P, 0, none⟩)] w (OneOf w0 B d P s i j k) := by
  have H := Lib.hid h
  have HN := Lib.hid hn
  have HB := Lib.hid (And.intro hi (And.intro hj hk))
  clear h hn hi hj hk
  go_enter Try.func58, Try.ntmps58
  go_wp2_with (go_at_call 60; refine Hid.out ?_)
  refine Lib.hid ?_
  refine (order2_any H.out HN.out (by omega) i j HB.out.1 HB.out.2.1).mono ?_
  rintro e w1 ⟨x, y, t, rfl, hxy, ht, h1⟩
  have H1 := Lib.hid (And.intro hxy (And.intro ht h1))
  clear hxy ht h1
  have HB1 : Hid (x < n ∧ y < n) := by have := H1.out.1; have := HB.out; show _ ∧ _; omega
  go_wp2_with (go_at_call 60; refine Hid.out ?_)
  refine Lib.hid ?_
  refine (order2_any H1.out.2.2 HN.out (by have := H1.out.2.1; omega) y k HB1.out.2 HB.out.2.2).mono ?_
  rintro e w2 ⟨y2, z, t2, rfl, hxy, ht, h2⟩
  have H2 := Lib.hid (And.intro hxy (And.intro ht h2))
  clear hxy ht h2
  have HB2 : Hid (y2 < n ∧ z < n) := by have := H2.out.1; have := HB.out; have := HB1.out; show _ ∧ _; omega
  go_wp2_with (go_at_call 60; refine Hid.out ?_)
  refine Lib.hid ?_
  refine (order2_any H2.out.2.2 HN.out (by have := H1.out.2.1; have := H2.out.2.1; omega) x y2 HB1.out.1 HB2.out.1).mono ?_
  rintro e w3 ⟨x3, y3, t3, rfl, hxy, ht, h3⟩
  have H3 := Lib.hid (And.intro hxy (And.intro ht h3))
  clear hxy ht h3
  go_wp2
  go_ret
  have e1 := H1.out.1
  have e2 := H2.out.1
  have e3 := H3.out.1
  have t1 := H1.out.2.1
  have t2 := H2.out.2.1
  have t3 := H3.out.2.1
  exact ⟨y3, _, rfl, by omega, by omega, H3.out.2.2⟩
/-- a place within the row, and a hint -/
def PivTo (B : Nat) (d : Array Nat) (a b : Nat) (w : World) (e : Ending) (w' : World) : Prop := ∃ p h : Nat, e = .returned (.tuple #[.int .i64 p, .int .i64 h]) ∧ a ≤ p ∧ p < b ∧ h ≤ 2 ∧ Rw w w' B d
set_option maxHeartbeats 4000000 in
set_option maxRecDepth 100000 in
theorem pivot_any {w : World} {B n c : Nat} {d : Array Nat} (h : Rw w w B d) (hn : n = d.size) (hb16 : n ≤ 49) (a b : Nat) (hab : a + 12 < b) (hbn : b ≤ n) : Calls Try.prog 46 #[slU B n c, .int .i64 a, .int .i64 b] w (PivTo B d a b w) := by
  obtain ⟨l, hl⟩ : ∃ l, l = b - a := ⟨_, rfl⟩
  obtain ⟨q, hq⟩ : ∃ q, q = l / 4 := ⟨_, rfl⟩
  obtain ⟨i, hi⟩ : ∃ i, i = a + q * 1 := ⟨_, rfl⟩
  obtain ⟨j, hj⟩ : ∃ j, j = a + q * 2 := ⟨_, rfl⟩
  obtain ⟨k, hk⟩ : ∃ k, k = a + q * 3 := ⟨_, rfl⟩
  have l1 : (b : Int) - (a : Int) = (l : Int) := by omega
  have l2 : IntKind.i64.wrap ((b : Int) - (a : Int)) = (l : Int) := by rw [IntKind.wrap_i64]; omega
  have l3 : IntKind.i64.wrap (l : Int) = (l : Int) := by rw [IntKind.wrap_i64]; omega
  have q1 : (l : Int).tdiv 4 = (q : Int) := by rw [hq]; exact (Int.ofNat_tdiv l 4).symm
  have q2 : IntKind.i64.wrap ((l : Int).tdiv 4) = (q : Int) := by rw [q1, IntKind.wrap_i64]; omega
  have q3 : IntKind.i64.wrap (q : Int) = (q : Int) := by rw [IntKind.wrap_i64]; omega
  have m2 : IntKind.i64.wrap ((q : Int) * 2) = (q : Int) * 2 := by rw [IntKind.wrap_i64]; omega
  have m3 : IntKind.i64.wrap ((q : Int) * 3) = (q : Int) * 3 := by rw [IntKind.wrap_i64]; omega
  have i1 : IntKind.i64.wrap ((a : Int) + (q : Int)) = (i : Int) := by rw [IntKind.wrap_i64]; omega
  have j1 : IntKind.i64.wrap ((a : Int) + (q : Int) * 2) = (j : Int) := by rw [IntKind.wrap_i64]; omega
  have k1 : IntKind.i64.wrap ((a : Int) + (q : Int) * 3) = (k : Int) := by rw [IntKind.wrap_i64]; omega
  have c1 : decide ((l : Int) ≥ 8) = true := by simp; omega
  have c2 : decide ((l : Int) ≥ 50) = false := by simp; omega
  have H := Lib.hid h
  have HN := Lib.hid hn
  have HB : Hid ((a ≤ i ∧ i < b) ∧ (a ≤ j ∧ j < b) ∧ (a ≤ k ∧ k < b) ∧ b ≤ n) := by show _ ∧ _; omega
  have hc1 : Ct w (w.alloc (.cells #[.int .i64 0] 3)) B d w.heap.size 0 := ⟨h.gw ((Gw.refl _).alloc _), heap_alloc_new _ _, Nat.le_refl _⟩
  have HC := Lib.hid hc1
  clear h hn hc1 hl hq hi hj hk
  go_enter Try.func46, Try.ntmps46
  go_wp2_with (go_at_call 58; refine Hid.out ?_)
  refine Lib.hid ?_
  refine (median_any HC.out HN.out (by omega) i j k (by have := HB.out; omega) (by have := HB.out; omega) (by have := HB.out; omega)).mono ?_
  rintro e w1 ⟨x, t, rfl, hx, ht, h1⟩
  have y0 : w1.cell? ⟨w.heap.size, 0, none⟩ = some (.int .i64 (t : Nat)) := by rw [cell_of_row _ _ _ _ _ _ h1.box]; rfl
  have H1 := Lib.hid h1
  have HX : Hid (a ≤ x ∧ x < b) := by have := HB.out; show _ ∧ _; omega
  have e12 : ((t : Int) == 12) = false := by simp; omega
  clear hx h1
  by_cases h0 : t = 0
  · subst h0
    clear e12
    go_wp2
    go_ret2
    exact ⟨x, 1, rfl, HX.out.1, HX.out.2, by omega, H1.out.row⟩
  · have e0 : ((t : Int) == 0) = false := by simp; omega
    go_wp2
    go_ret2
    exact ⟨x, 0, rfl, HX.out.1, HX.out.2, by omega, H1.out.row⟩
end Go.Proofs.Ytfonbompglddaaa
