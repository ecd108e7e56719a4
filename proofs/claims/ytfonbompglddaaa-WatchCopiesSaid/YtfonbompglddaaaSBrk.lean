/-
  bits.Len of small numbers, nextPowerOfTwo, xorshift's Next, breakPatternsOrdered: the row is permuted.
-/
import Derived.Test.YtfonbompglddaaaSPiv
import Derived.Sort.LotD1
import Derived.Laws.Bits64b
import Derived.OpenShut
namespace Go.Proofs.Ytfonbompglddaaa
open Go Go.RowKit Go.Lib Go.Sort Go.Proofs

set_option maxHeartbeats 4000000 in
theorem len64_any (n : Nat) (h : n ≤ 16) (w : World) : Calls Try.prog 53 #[.int .u64 (n : Nat)] w fun e w' => e = .returned (.int .i64 (bitsLen n : Nat)) ∧ w' = w := by
  obtain rfl | rfl | rfl | rfl | rfl | rfl | rfl | rfl | rfl | rfl | rfl | rfl | rfl | rfl | rfl | rfl | rfl : n = 0 ∨ n = 1 ∨ n = 2 ∨ n = 3 ∨ n = 4 ∨ n = 5 ∨ n = 6 ∨ n = 7 ∨ n = 8 ∨ n = 9 ∨ n = 10 ∨ n = 11 ∨ n = 12 ∨ n = 13 ∨ n = 14 ∨ n = 15 ∨ n = 16 := by omega
  all_goals
    go_enter Try.func53, Try.ntmps53
    go_wp2
    go_ret
    exact ⟨congrArg (fun z => Ending.returned (Value.int .i64 z)) (by decide +kernel), rfl⟩
theorem len_any (n : Nat) (h : n ≤ 16) (w : World) : Calls Try.prog 42 #[.int .u64 (n : Nat)] w fun e w' => e = .returned (.int .i64 (bitsLen n : Nat)) ∧ w' = w := by
  go_enter Try.func42, Try.ntmps42
  go_wp2_with (go_at_call 53; refine (len64_any n h _).mono ?_; rintro e w1 ⟨rfl, rfl⟩)
  go_ret
  exact ⟨rfl, rfl⟩
theorem len_v (n : Nat) : (n = 13 ∨ n = 14 ∨ n = 15 → bitsLen n = 4) ∧ (n = 16 → bitsLen n = 5) := by
  refine ⟨?_, ?_⟩
  · rintro (rfl | rfl | rfl) <;> decide +kernel
  · rintro rfl
    decide +kernel
theorem len_is {n z : Nat} (h : n ≤ 16) (hz : bitsLen n = z) (w : World) : Calls Try.prog 42 #[.int .u64 (n : Nat)] w fun e w' => e = .returned (.int .i64 (z : Nat)) ∧ w' = w := hz ▸ len_any n h w
def PowTo (n : Nat) (w : World) (e : Ending) (w' : World) : Prop := (∃ m : Nat, e = .returned (.int .u64 m) ∧ n ≤ m ∧ m ≤ 2 * n ∧ m ≤ 32) ∧ w' = w
/-- so many bits fit -/
theorem pow4 {n : Nat} (h : n ≤ 16) (h8 : 8 ≤ n) (hz : bitsLen n = 4) (w : World) : Calls Try.prog 55 #[.int .i64 (n : Nat)] w (PowTo n w) := by
  have hn : IntKind.u64.wrap (n : Int) = (n : Int) := by rw [IntKind.wrap_u64]; omega
  have HZ := Lib.hid hz
  clear hz
  go_enter Try.func55, Try.ntmps55
  go_wp2_with (go_at_call 42; refine (len_is (z := 4) h HZ.out _).mono ?_; rintro e w1 ⟨rfl, rfl⟩)
  go_ret
  exact ⟨⟨16, rfl, h, by omega, by omega⟩, rfl⟩
theorem pow5 {n : Nat} (h : n = 16) (hz : bitsLen n = 5) (w : World) : Calls Try.prog 55 #[.int .i64 (n : Nat)] w (PowTo n w) := by
  have hn : IntKind.u64.wrap (n : Int) = (n : Int) := by rw [IntKind.wrap_u64]; omega
  have HZ := Lib.hid hz
  have H := Lib.hid h
  clear hz h
  go_enter Try.func55, Try.ntmps55
  go_wp2_with (go_at_call 42; refine (len_is (z := 5) (Nat.le_of_eq H.out) HZ.out _).mono ?_; rintro e w1 ⟨rfl, rfl⟩)
  go_ret
  exact ⟨⟨32, rfl, by have := H.out; omega, by have := H.out; omega, by omega⟩, rfl⟩
theorem pow_any {n : Nat} (h : n ≤ 16) (h0 : 12 < n) (w : World) : Calls Try.prog 55 #[.int .i64 (n : Nat)] w (PowTo n w) := by
  by_cases e : n = 16
  · exact pow5 e ((len_v n).2 e) w
  · exact pow4 h (by omega) ((len_v n).1 (by omega)) w
theorem bits_nat (op : BinOp) (x y : Int) : ∃ r : Nat, r < 18446744073709551616 ∧ bits op .u64 x y = (r : Int) := by
  have h := wf_bits op .u64 x y
  simp [Lit.wf, IntKind.min, IntKind.max, IntKind.signed, IntKind.bits] at h
  exact ⟨(bits op .u64 x y).toNat, by omega, by omega⟩
/-- some number in a box -/
def NextTo (P : Nat) (w : World) (e : Ending) (w' : World) : Prop := ∃ r : Nat, r < 18446744073709551616 ∧ e = .returned (.int .u64 (r : Nat)) ∧ But (fun b => b = P) w w' ∧ w'.heap[P]? = some (.cells #[.int .u64 (r : Nat)] 93 (0, 0))
theorem box_set {w : World} {P : Nat} {u : Value} {T : TypeId} (h : w.heap[P]? = some (.cells #[u] T (0, 0))) (v : Value) : But (fun b => b = P) w (w.setCell ⟨P, 0, none⟩ v).drew ∧ (w.setCell ⟨P, 0, none⟩ v).drew.heap[P]? = some (.cells #[v] T (0, 0)) := by
  refine ⟨((But.refl (fun b => b = P) w).setCell (p := ⟨P, 0, none⟩) rfl _).drew, ?_⟩
  show (w.setCell ⟨P, 0, none⟩ v).heap[P]? = _
  rw [heap_setCell_same w P 0 _ _ _ h]
  rfl
set_option maxHeartbeats 2000000 in
set_option maxRecDepth 100000 in
theorem next_any {w : World} {P r : Nat} (h : w.heap[P]? = some (.cells #[.int .u64 (r : Nat)] 93 (0, 0))) : Calls Try.prog 56 #[.pointer (some ⟨P, 0, none⟩)] w (NextTo P w) := by
  have mixed : Try.prog.follows .mixedOrders = true := by kernel_rfl
  have c0 : w.cell? ⟨P, 0, none⟩ = some (.int .u64 (r : Nat)) := by rw [cell_of_row _ _ _ _ _ _ h]; rfl
  have f0 : w.frozen? ⟨P, 0, none⟩ = false := frozen_of_row _ _ _ _ _ h
  have H := Lib.hid h
  clear h
  go_enter Try.func56, Try.ntmps56
  go_wp2_with fail
  go_region
  obtain ⟨r1, hr1, e1⟩ := bits_nat .xor (r : Int) (IntKind.u64.wrap ((r : Int) * 8192))
  rw [e1]
  obtain ⟨w1, hw1⟩ : ∃ w1, w1 = (w.setCell ⟨P, 0, none⟩ (.int .u64 (r1 : Nat))).drew := ⟨_, rfl⟩
  rw [← hw1]
  have H1 : Hid (But (fun b => b = P) w w1 ∧ w1.heap[P]? = some (.cells #[.int .u64 (r1 : Nat)] 93 (0, 0))) := hw1 ▸ box_set H.out _
  clear hw1 c0 f0 e1
  have c0 : w1.cell? ⟨P, 0, none⟩ = some (.int .u64 (r1 : Nat)) := by rw [cell_of_row _ _ _ _ _ _ H1.out.2]; rfl
  have f0 : w1.frozen? ⟨P, 0, none⟩ = false := frozen_of_row _ _ _ _ _ H1.out.2
  go_wp2_with fail
  go_region
  obtain ⟨r2, hr2, e2⟩ := bits_nat .xor (r1 : Int) ((r1 : Int) / 128)
  rw [e2]
  obtain ⟨w2, hw2⟩ : ∃ w2, w2 = (w1.setCell ⟨P, 0, none⟩ (.int .u64 (r2 : Nat))).drew := ⟨_, rfl⟩
  rw [← hw2]
  have H2 : Hid (But (fun b => b = P) w1 w2 ∧ w2.heap[P]? = some (.cells #[.int .u64 (r2 : Nat)] 93 (0, 0))) := hw2 ▸ box_set H1.out.2 _
  clear hw2 c0 f0 e2
  have c0 : w2.cell? ⟨P, 0, none⟩ = some (.int .u64 (r2 : Nat)) := by rw [cell_of_row _ _ _ _ _ _ H2.out.2]; rfl
  have f0 : w2.frozen? ⟨P, 0, none⟩ = false := frozen_of_row _ _ _ _ _ H2.out.2
  go_wp2_with fail
  go_region
  obtain ⟨r3, hr3, e3⟩ := bits_nat .xor (r2 : Int) (IntKind.u64.wrap ((r2 : Int) * 131072))
  rw [e3]
  obtain ⟨w3, hw3⟩ : ∃ w3, w3 = (w2.setCell ⟨P, 0, none⟩ (.int .u64 (r3 : Nat))).drew := ⟨_, rfl⟩
  rw [← hw3]
  have H3 : Hid (But (fun b => b = P) w2 w3 ∧ w3.heap[P]? = some (.cells #[.int .u64 (r3 : Nat)] 93 (0, 0))) := hw3 ▸ box_set H2.out.2 _
  clear hw3 c0 f0 e3
  have c0 : w3.cell? ⟨P, 0, none⟩ = some (.int .u64 (r3 : Nat)) := by rw [cell_of_row _ _ _ _ _ _ H3.out.2]; rfl
  go_wp2_with fail
  go_ret
  exact ⟨r3, hr3, rfl, (H1.out.1.trans H2.out.1).trans H3.out.1, H3.out.2⟩

theorem Rw.other {w0 w w1 : World} {B P : Nat} {d : Array Nat} (h : Rw w0 w B d) (hb : But (fun b => b = P) w w1) (hP : w0.heap.size ≤ P) : Rw w0 w1 B d := by
  have hne : B ≠ P := fun e => by have := h.lt; omega
  have hB : w1.heap[B]? = w.heap[B]? := hb.block B (Nat.lt_of_lt_of_le h.lt h.but.size) hne
  refine ⟨fun j hj => ?_, fun j => ?_, h.lt, h.but.next hb fun j hj e => ?_, fun cur T e => by rw [hB]; exact h.shp cur T e⟩
  · rw [World.cell?_of_block (w := w) (a := ⟨B, j, none⟩) hB]
    exact h.cell j hj
  · rw [← h.frozen j]
    unfold World.frozen?
    rw [show w1.heap[(⟨B, j, none⟩ : Addr).block]? = w.heap[(⟨B, j, none⟩ : Addr).block]? from hB]
  · omega
/-- the row is permuted within a and b -/
def PermTo (B : Nat) (d : Array Nat) (a b : Nat) (w : World) (e : Ending) (w' : World) : Prop := ∃ d', e = .returned (.tuple #[]) ∧ PermIn a b d d' ∧ Rw w w' B d'
structure Bk3 (w0 w : World) (B : Nat) (d : Array Nat) (P : Nat) : Prop where
  row : Rw w0 w B d
  box : ∃ r : Nat, r < 18446744073709551616 ∧ w.heap[P]? = some (.cells #[.int .u64 (r : Nat)] 93 (0, 0))
  new : w0.heap.size ≤ P
theorem Bk3.swp {w0 w : World} {B P : Nat} {d : Array Nat} (h : Bk3 w0 w B d P) (i j : Nat) (hi : i < d.size) (hj : j < d.size) : Bk3 w0 ((w.setCell ⟨B, i, none⟩ (uV d[j]!)).setCell ⟨B, j, none⟩ (uV d[i]!)).drew B (swp d i j) P := by
  have hne : P ≠ B := fun e => by have := h.row.lt; have := h.new; omega
  obtain ⟨r, hr, hb⟩ := h.box
  refine ⟨(h.row.swp i j hi hj).drew, ⟨r, hr, ?_⟩, h.new⟩
  show ((w.setCell ⟨B, i, none⟩ (uV d[j]!)).setCell ⟨B, j, none⟩ (uV d[i]!)).heap[P]? = _
  rw [heap_setCell_other _ _ _ _ hne, heap_setCell_other _ _ _ _ hne, hb]
/-- what is read behind the first store of a swap -/
theorem set_other {w : World} {B i j : Nat} {u v : Value} (hi : w.cell? ⟨B, i, none⟩ = some u) (hj : w.cell? ⟨B, j, none⟩ = some v) : (w.setCell ⟨B, i, none⟩ v).cell? ⟨B, j, none⟩ = some v := by
  by_cases e : j = i
  · subst e
    exact cell_setCell_same hi
  · exact cell_setCell_other hj e
set_option maxHeartbeats 8000000 in
set_option maxRecDepth 100000 in
theorem break_any {w : World} {B n c : Nat} {d : Array Nat} (h : Rw w w B d) (hn : n = d.size) (a b : Nat) (hab : a + 12 < b) (hab2 : b ≤ a + 16) (hbn : b ≤ n) (hn16 : n ≤ 49) : Calls Try.prog 45 #[slU B n c, .int .i64 a, .int .i64 b] w (PermTo B d a b w) := by
  have mixed : Try.prog.follows .mixedOrders = true := by kernel_rfl
  obtain ⟨l, hl⟩ : ∃ l, l = b - a := ⟨_, rfl⟩
  obtain ⟨q, hq⟩ : ∃ q, q = l / 4 := ⟨_, rfl⟩
  obtain ⟨e, he⟩ : ∃ e, e = a + q * 2 := ⟨_, rfl⟩
  obtain ⟨i0, hi0⟩ : ∃ i0, i0 = e - 1 := ⟨_, rfl⟩
  obtain ⟨i2, hi2⟩ : ∃ i2, i2 = e + 1 := ⟨_, rfl⟩
  have l1 : (b : Int) - (a : Int) = (l : Int) := by omega
  have l2 : IntKind.i64.wrap ((b : Int) - (a : Int)) = (l : Int) := by rw [IntKind.wrap_i64]; omega
  have l3 : IntKind.i64.wrap (l : Int) = (l : Int) := by rw [IntKind.wrap_i64]; omega
  have l4 : IntKind.u64.wrap (l : Int) = (l : Int) := by rw [IntKind.wrap_u64]; omega
  have q1 : (l : Int).tdiv 4 = (q : Int) := by rw [hq]; exact (Int.ofNat_tdiv l 4).symm
  have q2 : IntKind.i64.wrap ((l : Int).tdiv 4) = (q : Int) := by rw [q1, IntKind.wrap_i64]; omega
  have q3 : IntKind.i64.wrap (q : Int) = (q : Int) := by rw [IntKind.wrap_i64]; omega
  have m2 : IntKind.i64.wrap ((q : Int) * 2) = (q : Int) * 2 := by rw [IntKind.wrap_i64]; omega
  have e1 : IntKind.i64.wrap ((a : Int) + (q : Int) * 2) = (e : Int) := by rw [IntKind.wrap_i64]; omega
  have e2 : IntKind.i64.wrap ((e : Int) - 1) = (i0 : Int) := by rw [IntKind.wrap_i64]; omega
  have e3 : IntKind.i64.wrap ((e : Int) + 1) = (i2 : Int) := by rw [IntKind.wrap_i64]; omega
  have c1 : decide ((l : Int) ≥ 8) = true := by simp; omega
  have hc1 : Bk3 w (w.alloc (.cells #[.int .u64 (l : Nat)] 93)) B d w.heap.size := ⟨h.gw ((Gw.refl _).alloc _), ⟨l, by omega, heap_alloc_new _ _⟩, Nat.le_refl _⟩
  have HC := Lib.hid hc1
  have HN := Lib.hid hn
  have HL : Hid (l ≤ 16 ∧ 12 < l) := by show _ ∧ _; omega
  have HI : Hid (a ≤ i0 ∧ i2 < b ∧ i0 ≤ i2 ∧ l = b - a) := by show _ ∧ _; omega
  clear h hn hc1 hl hq he hi0 hi2
  go_enter Try.func45, Try.ntmps45
  go_wp2_with (go_at_call 55; refine (pow_any HL.out.1 HL.out.2 _).mono ?_; rintro e w1 ⟨⟨m, rfl, hm1, hm2, hm3⟩, rfl⟩; have HM := Lib.hid (And.intro hm1 (And.intro hm2 hm3)); clear hm1 hm2)
  obtain ⟨m1, hm1⟩ : ∃ m1, m1 = m - 1 := ⟨_, rfl⟩
  have g1 : (m : Int) - 1 = (m1 : Int) := by have := HM.out; have := HL.out; omega
  have g2 : IntKind.u64.wrap ((m : Int) - 1) = (m1 : Int) := by rw [g1, IntKind.wrap_u64]; omega
  have g3 : IntKind.u64.wrap (m1 : Int) = (m1 : Int) := by rw [IntKind.wrap_u64]; omega
  have HM1 : Hid (m1 = m - 1) := hm1
  clear hm1
  go_loopg [9] (i2 + 1) (fun kx s9 wr => ∃ (i : Nat) (d1 : Array Nat), s9 = .int .i64 i ∧ i0 ≤ i ∧ i ≤ i2 + 1 ∧ i2 + 1 - i ≤ kx ∧ Aside (Bk3 w wr B d1 w.heap.size ∧ d1.size = n ∧ PermIn a b d d1))
  case atStart => exact ⟨i0, d, by go_num, Nat.le_refl _, by have := HI.out; omega, by omega, HC.out, HN.out.symm, permIn_refl _ _ _⟩
  case round =>
    obtain ⟨i, d1, rfl, hi0, hi2, hkx, A⟩ := hrel
    have HS1 : Hid (d1.size = n) := A.out.2.1
    by_cases hlt : i ≤ i2
    · have hlz : decide ((i : Int) ≤ (i2 : Int)) = true := by simpa using hlt
      have hiz : (i : Int) < (n : Int) := by have := HI.out; omega
      have hin : i < n := by omega
      obtain ⟨r, hr, hbx⟩ := A.out.1.box
      have HBX := Lib.hid hbx
      clear hbx
      go_wp2_with (go_at_call 56; refine Hid.out ?_)
      refine Lib.hid ?_
      refine (next_any HBX.out).mono ?_
      rintro e9 w2 ⟨r2, hr2, rfl, hb2, hx2⟩
      have G2 : Hid (Bk3 w w2 B d1 w.heap.size) := ⟨A.out.1.row.other hb2 A.out.1.new, ⟨r2, hr2, hx2⟩, A.out.1.new⟩
      clear hb2 hx2
      obtain ⟨o, ho⟩ : ∃ o, o = r2 &&& m1 := ⟨_, rfl⟩
      have hom : o ≤ m1 := by rw [ho]; exact Nat.and_le_right
      have ha : bits .and .u64 (r2 : Int) (m1 : Int) = (o : Int) := by rw [ho]; exact bits_and_u64_nat r2 m1 hr2 (by omega)
      have o2 : IntKind.i64.wrap (o : Int) = (o : Int) := by rw [IntKind.wrap_i64]; omega
      clear ho
      by_cases hol : l ≤ o
      · have hd : decide ((o : Int) ≥ (l : Int)) = true := by simpa using hol
        obtain ⟨p, hp⟩ : ∃ p, p = a + (o - l) := ⟨_, rfl⟩
        obtain ⟨o1, ho1⟩ : ∃ o1, o1 = o - l := ⟨_, rfl⟩
        have o3 : IntKind.i64.wrap ((o : Int) - (l : Int)) = (o1 : Int) := by rw [IntKind.wrap_i64]; omega
        have o4 : IntKind.i64.wrap ((a : Int) + (o1 : Int)) = (p : Int) := by rw [IntKind.wrap_i64]; omega
        have o5 : IntKind.i64.wrap (o1 : Int) = (o1 : Int) := by rw [IntKind.wrap_i64]; omega
        have HP : Hid (a ≤ p ∧ p < b) := by have := HM.out; have := HM1.out; have := HI.out; have := HL.out; show _ ∧ _; omega
        clear hp ho1
        have y0 := G2.out.row.cell i (by rw [HS1.out]; omega)
        have y1 := G2.out.row.cell p (by rw [HS1.out]; have := HP.out; omega)
        have y2 := set_other y0 y1
        have f0 := G2.out.row.frozen i
        have f1 := G2.out.row.frozen p
        have hpn : (p : Int) < (n : Int) := by have := HP.out; omega
        go_wp2_with fail
        go_region
        all_goals
          obtain ⟨w3, hw3⟩ : ∃ w3, w3 = ((w2.setCell ⟨B, i, none⟩ (uV d1[p]!)).setCell ⟨B, p, none⟩ (uV d1[i]!)).drew := ⟨_, rfl⟩
          rw [← hw3]
          have H3 : Hid (Bk3 w w3 B (swp d1 i p) w.heap.size) := hw3 ▸ G2.out.swp i p (by rw [HS1.out]; omega) (by rw [HS1.out]; have := HP.out; omega)
          clear hw3 y0 y1 y2 f0 f1
          go_wp2_with fail
          go_roundg (i2 + 1 - (i + 1))
          case measure => omega
          case rel => exact ⟨i + 1, swp d1 i p, by go_num, by omega, by omega, Nat.le_refl _, H3.out, by rw [swp_size]; exact HS1.out, permIn_trans _ _ _ _ _ A.out.2.2 (swp_permIn _ _ _ _ _ (by have := HI.out; omega) (by have := HI.out; omega) (by have := HP.out; omega) (by have := HP.out; omega) (by rw [HS1.out]; exact hbn))⟩
      · have hd : decide ((o : Int) ≥ (l : Int)) = false := by simp; omega
        obtain ⟨p, hp⟩ : ∃ p, p = a + o := ⟨_, rfl⟩
        have o4 : IntKind.i64.wrap ((a : Int) + (o : Int)) = (p : Int) := by rw [IntKind.wrap_i64]; omega
        have HP : Hid (a ≤ p ∧ p < b) := by have := HI.out; show _ ∧ _; omega
        clear hp
        have y0 := G2.out.row.cell i (by rw [HS1.out]; omega)
        have y1 := G2.out.row.cell p (by rw [HS1.out]; have := HP.out; omega)
        have y2 := set_other y0 y1
        have f0 := G2.out.row.frozen i
        have f1 := G2.out.row.frozen p
        have hpn : (p : Int) < (n : Int) := by have := HP.out; omega
        go_wp2_with fail
        go_region
        all_goals
          obtain ⟨w3, hw3⟩ : ∃ w3, w3 = ((w2.setCell ⟨B, i, none⟩ (uV d1[p]!)).setCell ⟨B, p, none⟩ (uV d1[i]!)).drew := ⟨_, rfl⟩
          rw [← hw3]
          have H3 : Hid (Bk3 w w3 B (swp d1 i p) w.heap.size) := hw3 ▸ G2.out.swp i p (by rw [HS1.out]; omega) (by rw [HS1.out]; have := HP.out; omega)
          clear hw3 y0 y1 y2 f0 f1
          go_wp2_with fail
          go_roundg (i2 + 1 - (i + 1))
          case measure => omega
          case rel => exact ⟨i + 1, swp d1 i p, by go_num, by omega, by omega, Nat.le_refl _, H3.out, by rw [swp_size]; exact HS1.out, permIn_trans _ _ _ _ _ A.out.2.2 (swp_permIn _ _ _ _ _ (by have := HI.out; omega) (by have := HI.out; omega) (by have := HP.out; omega) (by have := HP.out; omega) (by rw [HS1.out]; exact hbn))⟩
    · have hlz : decide ((i : Int) ≤ (i2 : Int)) = false := by simp; omega
      go_wp2_with fail
      go_end0
      exact ⟨d1, rfl, A.out.2.2, A.out.1.row⟩
end Go.Proofs.Ytfonbompglddaaa
