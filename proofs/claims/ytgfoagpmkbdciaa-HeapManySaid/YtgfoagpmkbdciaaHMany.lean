/-
  The law on how many there may be.
-/
import Derived.Test.YtgfoagpmkbdciaaHKnown
namespace Go.Proofs.Ytgfoagpmkbdciaa
open Go Go.Shelf Go.RowKit Go.Lib Go.Sort Go.Proofs HpM

theorem ins_last (L : List It) (x : It) (h : ∀ y ∈ L, iLt y x = true) : ins iLt L x = L ++ [x] := by
  induction L with
  | nil => rfl
  | cons y t ih =>
    have h1 := h y (List.mem_cons_self ..)
    have h2 := ih fun z hz => h z (List.mem_cons_of_mem _ hz)
    unfold ins at h2 ⊢
    simp only [List.takeWhile_cons, List.dropWhile_cons, h1, if_true, List.cons_append, h2]
theorem ins_first (L : List It) (x : It) (h : ∀ y ∈ L, iLt y x = false) : ins iLt L x = x :: L := by
  unfold ins
  cases L with
  | nil => rfl
  | cons y t =>
    have := h y (List.mem_cons_self ..)
    simp only [List.takeWhile_cons, List.dropWhile_cons, this, Bool.false_eq_true, if_false, List.nil_append]
/-- the i-th item, and so many -/
def mI (s : Int) (i : Nat) : It := itOf (s * i) 1 i
def mL (s : Int) (n : Nat) : List It := if 0 ≤ s then (List.range n).map (mI s) else ((List.range n).map (mI s)).reverse
theorem mL_len (s : Int) (n : Nat) : (mL s n).length = n := by
  unfold mL
  split <;> simp
theorem mL_mem {s : Int} {n : Nat} {y : It} (h : y ∈ mL s n) : ∃ i, i < n ∧ y = mI s i := by
  unfold mL at h
  split at h
  all_goals
    simp only [List.mem_reverse, List.mem_map, List.mem_range] at h
    obtain ⟨i, hi, rfl⟩ := h
    exact ⟨i, hi, rfl⟩
theorem mL_in {s : Int} {n i : Nat} (h : i < n) : mI s i ∈ mL s n := by
  unfold mL
  split
  all_goals
    simp only [List.mem_reverse, List.mem_map, List.mem_range]
    exact ⟨i, h, rfl⟩
theorem mL_nm (s : Int) (n : Nat) : ∀ y ∈ mL s n, nm y ≠ nm (mI s n) := by
  intro y hy e
  obtain ⟨i, hi, rfl⟩ := mL_mem hy
  simp only [nm, mI, itOf, Prod.mk.injEq] at e
  omega
theorem itOf_lt {p q i n : Int} (h : p ≤ q) (hi : i < n) : iLt (itOf p 1 i) (itOf q 1 n) = true := by
  rw [iLt_iff, kLt_iff]
  by_cases e : p = q
  · subst e
    exact .inr ⟨rfl, hi⟩
  · exact .inl (.inl (show p < q by omega))
theorem itOf_gt {p q i n : Int} (h : q < p) : iLt (itOf p 1 i) (itOf q 1 n) = false := by
  rw [iLt_false, kLt_iff]
  rintro ((h1 | ⟨h1, _⟩) | ⟨h1, _⟩)
  · have : p < q := h1
    omega
  · have : p = q := h1
    omega
  · have : p = q := congrArg (·.1) h1
    omega
theorem mI_lt {s : Int} (hs : 0 ≤ s) {i n : Nat} (h : i < n) : iLt (mI s i) (mI s n) = true :=
  itOf_lt (Int.mul_le_mul_of_nonneg_left (by omega) hs) (by omega)
theorem mI_gt {s : Int} (hs : s < 0) {i n : Nat} (h : i < n) : iLt (mI s i) (mI s n) = false :=
  itOf_gt (Int.mul_lt_mul_of_neg_left (by omega) hs)
theorem mul_fits {s : Int} {i : Nat} (h1 : -100 ≤ s) (h2 : s ≤ 100) (hi : i ≤ 1030) : wrap64 (s * i) = s * i := by
  have a : s * i ≤ 100 * i := Int.mul_le_mul_of_nonneg_right h2 (by omega)
  have b : -100 * i ≤ s * i := Int.mul_le_mul_of_nonneg_right h1 (by omega)
  generalize s * (i : Int) = p at *
  unfold wrap64
  omega
theorem mL_ins (s : Int) (n : Nat) : mL s (n + 1) = ins iLt (mL s n) (mI s n) := by
  by_cases hs : 0 ≤ s
  · rw [ins_last]
    · unfold mL
      rw [if_pos hs, if_pos hs, List.range_succ, List.map_append]
      rfl
    · intro y hy
      obtain ⟨i, hi, rfl⟩ := mL_mem hy
      exact mI_lt hs hi
  · rw [ins_first]
    · unfold mL
      rw [if_neg hs, if_neg hs, List.range_succ, List.map_append, List.reverse_append]
      rfl
    · intro y hy
      obtain ⟨i, hi, rfl⟩ := mL_mem hy
      exact mI_gt (by omega) hi
theorem mL_hd (s : Int) (n : Nat) : (hd (mL s n)).2 = if s < 0 then ((n - 1 : Nat) : Int) else 0 := by
  unfold hd
  cases n with
  | zero => by_cases hs : 0 ≤ s <;> simp [mL, hs, itZ]
  | succ n =>
    by_cases hs : 0 ≤ s
    · rw [if_neg (by omega)]
      simp [mL, hs, List.range_succ_eq_map, mI, itOf]
    · rw [if_pos (by omega)]
      simp [mL, hs, List.range_succ, mI, itOf]
theorem mL_lt (s : Int) (n : Nat) : (lt (mL s n)).2 = if s < 0 then 0 else ((n - 1 : Nat) : Int) := by
  unfold Go.Proofs.Ytgfoagpmkbdciaa.lt
  cases n with
  | zero => by_cases hs : 0 ≤ s <;> simp [mL, hs, itZ]
  | succ n =>
    by_cases hs : 0 ≤ s
    · rw [if_neg (by omega)]
      simp [mL, hs, List.range_succ, mI, itOf]
    · rw [if_pos (by omega)]
      simp [mL, hs, List.range_succ_eq_map, mI, itOf]

theorem item_mI (s : Int) (i : Nat) (w : World) : Calls Try.prog 21 #[.int .i64 (s * i), .int .i64 1, .int .i64 i] w (fun e w' => e = .returned (ItV (mI s i)) ∧ Below w.heap.size w w') := item_any _ _ _ _
theorem mL_zero (s : Int) : [] = mL s (min 0 1024) := by
  unfold mL
  split <;> rfl
set_option maxHeartbeats 1000000 in
theorem many_any (m s : Int) (w : World) : Calls Try.prog 6 #[.int .i64 m, .int .i64 s] w (fun e w' => e = .returned (.bool true) ∧ Below w.heap.size w w') := by
  go_enter Try.func6, Try.ntmps6
  go_wp2_with (first
    | (go_at_call 7; refine (known_any w).mono ?_; rintro e w1 ⟨rfl, h1⟩)
    | (go_at_call 8; refine (hk_new (w := w) (Below.refl _ _)).mono ?_; rintro e w1 ⟨G, rfl, h1⟩; have H1 := Lib.hid h1; clear h1))
  all_goals first
    | (go_ret; exact ⟨rfl, h1⟩)
    | skip
  obtain ⟨n, rfl⟩ : ∃ n : Nat, m = n := ⟨m.toNat, by omega⟩
  have hb : n ≤ 1030 := by omega
  have hs1 : -100 ≤ s := by omega
  have hs2 : s ≤ 100 := by omega
  go_loopg [6] n (fun kx s6 wr => ∃ i : Nat, s6 = .int .i64 i ∧ i ≤ n ∧ n - i ≤ kx ∧ Aside (HpX w wr G (mL s (min i 1024)) []))
  case atStart => exact ⟨0, by go_num, Nat.zero_le _, Nat.le_refl _, mL_zero s ▸ H1.out⟩
  case round =>
    clear H1
    obtain ⟨i, rfl, hin, hkx, A⟩ := hrel
    by_cases hlt : i < n
    · have hlz : decide ((i : Int) < (n : Int)) = true := by simpa using hlt
      have hiz : (i : Int) < (n : Int) := by omega
      have hmul := mul_fits hs1 hs2 (show i ≤ 1030 by omega)
      by_cases hfull : i < 1024
      · have hfz : (i : Int) < 1024 := by omega
        have hL : mL s (min i 1024) = mL s i := by rw [Nat.min_eq_left (by omega)]
        have hL1 : mL s (min (i + 1) 1024) = mL s (i + 1) := by rw [Nat.min_eq_left (by omega)]
        go_wp2_with (first
          | (go_at_call 15; refine (hk_put H2.out (mI s i) (mL_nm s i) (by rw [mL_len]; exact hfull) (mL_ins s i)).mono ?_; rintro e w3 ⟨rfl, h3⟩; have H3 := Lib.hid h3; clear h3)
          | (go_at_call 21; rw [hmul]; refine (item_mI s i _).mono ?_; rintro e w2 ⟨rfl, h2⟩; have H2 := Lib.hid ((hL ▸ A.out).below h2); clear h2))
        go_roundg (n - (i + 1))
        case measure => omega
        case rel => exact ⟨i + 1, by go_num, by omega, Nat.le_refl _, by rw [hL1]; exact H3.out⟩
      · have hfz : ¬ (i : Int) < 1024 := by omega
        obtain ⟨N, hN⟩ : ∃ N : Nat, N = 1024 := ⟨_, rfl⟩
        have hL : mL s (min i 1024) = mL s N := by rw [hN, Nat.min_eq_right (by omega)]
        have hL1 : mL s (min (i + 1) 1024) = mL s N := by rw [hN, Nat.min_eq_right (by omega)]
        have hNl : 1024 ≤ (mL s N).length := by rw [mL_len, hN]; exact Nat.le_refl _
        have hnn : ∀ y ∈ mL s N, nm y ≠ nm (mI s i) := fun y hy e => by
          obtain ⟨j, hj, rfl⟩ := mL_mem hy
          simp only [nm, mI, itOf, Prod.mk.injEq] at e
          omega
        have HNL := Lib.hid hNl
        have HNN := Lib.hid hnn
        have HLL := Lib.hid (And.intro hL hL1)
        have hfd : decide ((i : Int) < 1024) = false := by simp; omega
        clear hN hNl hnn hL hL1 hfz hfull
        go_wp2_with (first
          | (go_at_call 15; refine (hk_full H2.out (mI s i) HNN.out HNL.out).mono ?_; rintro e w3 ⟨rfl, h3⟩; have H3 := Lib.hid h3; clear h3)
          | (go_at_call 21; rw [hmul]; refine (item_mI s i _).mono ?_; rintro e w2 ⟨rfl, h2⟩; have H2 := Lib.hid ((HLL.out.1 ▸ A.out).below h2); clear h2))
        go_roundg (n - (i + 1))
        case measure => omega
        case rel =>
          have hA : Aside (HpX w w3 G (mL s (min (i + 1) 1024)) []) := by rw [HLL.out.2]; exact H3.out
          clear hmul
          exact ⟨i + 1, by go_num, by omega, Nat.le_refl _, hA⟩
    · have hiz : ¬ (i : Int) < (n : Int) := by omega
      obtain rfl : i = n := by omega
      obtain ⟨k, hk⟩ : ∃ k, k = min i 1024 := ⟨_, rfl⟩
      rw [← hk] at A
      have HK : Hid (k = min i 1024) := hk
      have hk0 : 0 < i → 0 < k := by omega
      have hmn : min (i : Int) 1024 = (k : Int) := by omega
      have hmx : max ((k : Int) - 1) 0 = ((k - 1 : Nat) : Int) := by omega
      clear hk
      have hlen : (mL s k).length = k := mL_len s k
      obtain ⟨L, hL⟩ : ∃ L, L = mL s k := ⟨_, rfl⟩
      have hLk : ((L.length : Nat) : Int) = k := by rw [hL, hlen]
      have hin0 : 0 < i → ∃ y ∈ L, nm y = nm (itOf 0 1 0) := fun h => ⟨mI s 0, hL ▸ mL_in (hk0 h), rfl⟩
      have HIN := Lib.hid hin0
      have hx2 := mL_hd s k
      have hy2 := mL_lt s k
      rw [← hL] at A hx2 hy2
      obtain ⟨x, hx⟩ : ∃ x, x = hd L := ⟨_, rfl⟩
      obtain ⟨y, hy⟩ : ∃ y, y = lt L := ⟨_, rfl⟩
      rw [← hx] at hx2
      rw [← hy] at hy2
      have HX2 := Lib.hid hx2
      have HY2 := Lib.hid hy2
      have HX := Lib.hid hx
      have HY := Lib.hid hy
      have hte : (!L.isEmpty) = decide (0 < i) := by
        cases L with
        | nil =>
          have : k = 0 := by rw [← hlen, ← hL]; rfl
          simp
          omega
        | cons a b =>
          have : k ≠ 0 := by rw [← hlen, ← hL]; simp
          simp
          omega
      have HTE := Lib.hid hte
      clear hlen hL hin0 hx hy hte hx2 hy2
      by_cases h0 : 0 < i
      · have HT : Hid (true = !L.isEmpty) := by show true = !L.isEmpty; rw [HTE.out]; simp [h0]
        have hkz : (0 : Int) < (k : Int) := by have := hk0 h0; omega
        by_cases hs : s < 0
        · have E1 : Hid (x.2 = ((k - 1 : Nat) : Int)) := HX2.out.trans (if_pos hs)
          have E2 : Hid (y.2 = 0) := HY2.out.trans (if_pos hs)
          go_wp2_with (first
            | (go_at_call 7; refine (known_any _).mono ?_; rintro e w6 ⟨rfl, h6⟩; have H6 := Lib.hid ((H5.out.box (ItO y)).below h6); clear h6)
            | (go_at_call 24; refine (hk_len (H5.out.box (ItO y))).mono ?_; rintro e w6 ⟨rfl, rfl⟩)
            | (go_at_call 23; refine (hk_most (H4.out.box (ItO x)) y true HY.out HT.out).mono ?_; rintro e w5 ⟨rfl, h5⟩; have H5 := Lib.hid h5; have g := h5.box (ItO y); have y6 := (box_here (x := y) (g.get (List.Mem.head _))).2.2.2.2.2.2.1; have x6 := (box_here (x := x) (g.get (List.Mem.tail _ (List.Mem.head _)))).2.2.2.2.2.2.1; rw [E2.out] at y6; rw [E1.out] at x6; clear h5 g)
            | (go_at_call 22; refine (hk_least H3.out x true HX.out HT.out).mono ?_; rintro e w4 ⟨rfl, h4⟩; have H4 := Lib.hid h4; clear h4)
            | (go_at_call 15; refine (hk_there H2.out (itOf 0 1 0) (HIN.out h0)).mono ?_; rintro e w3 ⟨rfl, h3⟩; have H3 := Lib.hid h3; clear h3)
            | (go_at_call 21; refine (item_any 0 1 0 _).mono ?_; rintro e w2 ⟨rfl, h2⟩; have H2 := Lib.hid (A.out.below h2); clear h2))
          go_ret
          exact ⟨rfl, H6.out.out⟩
        · have E1 : Hid (x.2 = 0) := HX2.out.trans (if_neg hs)
          have E2 : Hid (y.2 = ((k - 1 : Nat) : Int)) := HY2.out.trans (if_neg hs)
          go_wp2_with (first
            | (go_at_call 7; refine (known_any _).mono ?_; rintro e w6 ⟨rfl, h6⟩; have H6 := Lib.hid ((H5.out.box (ItO y)).below h6); clear h6)
            | (go_at_call 24; refine (hk_len (H5.out.box (ItO y))).mono ?_; rintro e w6 ⟨rfl, rfl⟩)
            | (go_at_call 23; refine (hk_most (H4.out.box (ItO x)) y true HY.out HT.out).mono ?_; rintro e w5 ⟨rfl, h5⟩; have H5 := Lib.hid h5; have g := h5.box (ItO y); have y6 := (box_here (x := y) (g.get (List.Mem.head _))).2.2.2.2.2.2.1; have x6 := (box_here (x := x) (g.get (List.Mem.tail _ (List.Mem.head _)))).2.2.2.2.2.2.1; rw [E2.out] at y6; rw [E1.out] at x6; clear h5 g)
            | (go_at_call 22; refine (hk_least H3.out x true HX.out HT.out).mono ?_; rintro e w4 ⟨rfl, h4⟩; have H4 := Lib.hid h4; clear h4)
            | (go_at_call 15; refine (hk_there H2.out (itOf 0 1 0) (HIN.out h0)).mono ?_; rintro e w3 ⟨rfl, h3⟩; have H3 := Lib.hid h3; clear h3)
            | (go_at_call 21; refine (item_any 0 1 0 _).mono ?_; rintro e w2 ⟨rfl, h2⟩; have H2 := Lib.hid (A.out.below h2); clear h2))
          go_ret
          exact ⟨rfl, H6.out.out⟩
      · have HT : Hid (false = !L.isEmpty) := by show false = !L.isEmpty; rw [HTE.out]; simp [h0]
        have hkz : ¬ (0 : Int) < (k : Int) := by have := HK.out; omega
        have hiz0 : ¬ (0 : Int) < (i : Int) := by omega
        obtain ⟨r, hr⟩ : ∃ r : Int, r = ((k - 1 : Nat) : Int) := ⟨_, rfl⟩
        rw [← hr] at hmx HX2 HY2
        clear hb hin hkx hlt hiz h0 hk0 HK HIN HTE hr
        generalize (i : Int) = z at *
        generalize (k : Int) = q at *
        by_cases hs : s < 0
        · have E1 : Hid (x.2 = r) := HX2.out.trans (if_pos hs)
          have E2 : Hid (y.2 = 0) := HY2.out.trans (if_pos hs)
          go_wp2_with (first
            | (go_at_call 7; refine (known_any _).mono ?_; rintro e w6 ⟨rfl, h6⟩; have H6 := Lib.hid ((H5.out.box (ItO y)).below h6); clear h6)
            | (go_at_call 24; refine (hk_len (H5.out.box (ItO y))).mono ?_; rintro e w6 ⟨rfl, rfl⟩)
            | (go_at_call 23; refine (hk_most (H4.out.box (ItO x)) y false HY.out HT.out).mono ?_; rintro e w5 ⟨rfl, h5⟩; have H5 := Lib.hid h5; have g := h5.box (ItO y); have y6 := (box_here (x := y) (g.get (List.Mem.head _))).2.2.2.2.2.2.1; have x6 := (box_here (x := x) (g.get (List.Mem.tail _ (List.Mem.head _)))).2.2.2.2.2.2.1; rw [E2.out] at y6; rw [E1.out] at x6; clear h5 g)
            | (go_at_call 22; refine (hk_least A.out x false HX.out HT.out).mono ?_; rintro e w4 ⟨rfl, h4⟩; have H4 := Lib.hid h4; clear h4))
          go_ret
          exact ⟨rfl, H6.out.out⟩
        · have E1 : Hid (x.2 = 0) := HX2.out.trans (if_neg hs)
          have E2 : Hid (y.2 = r) := HY2.out.trans (if_neg hs)
          go_wp2_with (first
            | (go_at_call 7; refine (known_any _).mono ?_; rintro e w6 ⟨rfl, h6⟩; have H6 := Lib.hid ((H5.out.box (ItO y)).below h6); clear h6)
            | (go_at_call 24; refine (hk_len (H5.out.box (ItO y))).mono ?_; rintro e w6 ⟨rfl, rfl⟩)
            | (go_at_call 23; refine (hk_most (H4.out.box (ItO x)) y false HY.out HT.out).mono ?_; rintro e w5 ⟨rfl, h5⟩; have H5 := Lib.hid h5; have g := h5.box (ItO y); have y6 := (box_here (x := y) (g.get (List.Mem.head _))).2.2.2.2.2.2.1; have x6 := (box_here (x := x) (g.get (List.Mem.tail _ (List.Mem.head _)))).2.2.2.2.2.2.1; rw [E2.out] at y6; rw [E1.out] at x6; clear h5 g)
            | (go_at_call 22; refine (hk_least A.out x false HX.out HT.out).mono ?_; rintro e w4 ⟨rfl, h4⟩; have H4 := Lib.hid h4; clear h4))
          go_ret
          exact ⟨rfl, H6.out.out⟩
end Go.Proofs.Ytgfoagpmkbdciaa
