/-
  The walks of the document's High, small, word, long, join.
-/
import Derived.Test.YtdpfmaikijilkaaMBase
import Derived.Test.YtdpfmaikijilkaaW3
import Derived.Laws.Rows
namespace Go.Proofs.Ytdpfmaikijilkaa
open Go Go.RowKit Go.Sort Go.Proofs

theorem beR_cons (j : Nat) : ∀ n : Int, beR (j + 1) n = byteI (n / 256 ^ j) :: beR j n := by
  induction j with
  | zero => intro n; simp [beR]
  | succ j ih =>
    intro n
    show beR (j + 1) (n / 256) ++ [byteI n] = _
    rw [ih (n / 256), Int.ediv_ediv_of_nonneg (by decide), show (256 : Int) * 256 ^ j = 256 ^ (j + 1) by rw [Int.pow_succ, Int.mul_comm]]
    rfl
abbrev cellsB (l : List UInt8) : List Value := l.map fun x => .int .u8 (x.toNat : Int)
theorem cellsB_eq (l : List UInt8) : CB.cells l = cellsB l := by
  induction l with
  | nil => rfl
  | cons x t ih =>
    show CB.enc x ++ CB.cells t = _
    rw [ih]
    rfl
theorem make_u8 (s : Nat) (hs : s = 4 ∨ s = 8) (w : World) : (Instr.makeSlice 24 (.int .i64 (s : Int)) (.int .i64 (s : Int))).run Try.prog w = .ok (.slice (some ⟨w.heap.size, 0, none⟩) s s) (w.alloc (.cells (List.replicate s (Value.int .u8 0)).toArray 5)) := by
  rcases hs with rfl | rfl
  · kernel_rfl
  · kernel_rfl
/-- a new row of bytes, whole -/
theorem CB_own {w : World} {B g s : Nat} {l : List UInt8} (hB : B ≤ g) (h : w.heap[g]? = some (.cells (cellsB l).toArray 5 (0, 0))) (hs : s = l.length) (hm : s ≤ 1000000) : CB.Own 5 B w (.slice (some ⟨g, 0, none⟩) s s) l := by
  subst hs
  refine ⟨by rw [cellsB_eq]; simp [CB], .inr ⟨g, l.length, (cellsB l).toArray, rfl, hB, h, Nat.le_refl _, by unfold maxLen; omega, by simp [CB], ?_⟩⟩
  rw [cellsB_eq, List.take_of_length_le (by simp [CB])]
def HRel (w : World) (s : Nat) (u : Int) (nv iv : Value) (wr : World) : Prop :=
  ∃ k j : Nat, k + j = s ∧ nv = .int .u64 (u / 256 ^ k) ∧ iv = .int .i64 ((j : Int) - 1) ∧ wr.heap[w.heap.size]? = some (.cells (List.replicate j (Value.int .u8 0) ++ cellsB (beR k u)).toArray 5 (0, 0)) ∧ Below w.heap.size w wr
set_option maxHeartbeats 1000000 in
set_option maxRecDepth 100000 in
theorem high_any (s : Nat) (hs : s = 4 ∨ s = 8) (u : Int) (w : World) (h0 : 0 ≤ u) (h1 : u < 18446744073709551616) :
    Calls Try.prog 72 #[.int .u64 u, .int .i64 s] w (CloneTo (beR s u) w) := by
  have hmk := make_u8 s hs
  have hs8 : s ≤ 8 := by omega
  have hs1 : 1 ≤ s := by omega
  clear hs
  go_enter Try.func72, Try.ntmps72
  go_wp2
  clear hmk
  go_loopw [0, 6] (fun n i wr => HRel w s u n i wr) (fun _ i _ => (intOf i + 1).toNat)
  case atStart => exact ⟨0, s, by omega, by simp, rfl, by simpa [beR] using heap_alloc_new _ _, (Below.refl _ _).alloc (Nat.le_refl _) _⟩
  case round =>
    obtain ⟨k, j, hkj, rfl, rfl, hh, hbel⟩ := hrel
    obtain ⟨q, hq⟩ : ∃ q, q = u / 256 ^ k := ⟨_, rfl⟩
    have hq0 : 0 ≤ q := by rw [hq]; exact Int.ediv_nonneg h0 (Int.le_of_lt (Int.pow_pos (by decide)))
    have hq1 : q < 18446744073709551616 := by rw [hq]; exact Int.lt_of_le_of_lt (Int.ediv_le_self _ h0) h1
    rw [← hq]
    have HQ := Lib.hid hq
    have HH := Lib.hid hh
    have HBEL := Lib.hid hbel
    have HKJ := Lib.hid hkj
    rcases j with _ | j
    · clear hq hh hbel
      go_wp2
      go_ret
      obtain rfl : k = s := by have := HKJ.out; omega
      have := HH.out
      exact ⟨_, rfl, CB_own (Nat.le_refl _) (by simpa using this) (beR_len _ _).symm (by omega), HBEL.out⟩
    · have hc : wr.cell? ⟨w.heap.size, j, none⟩ = some (.int .u8 0) := by
        rw [cell_of_row _ _ _ _ _ _ hh, List.getElem?_toArray, List.getElem?_append_left (by simp)]
        simp
      have hf : wr.frozen? ⟨w.heap.size, j, none⟩ = false := frozen_of_row _ _ _ _ _ hh
      have hj1 : ((j + 1 : Nat) : Int) - 1 = (j : Int) := by omega
      rw [hj1]
      have hjs : j < s := by omega
      clear hq hh hbel hkj hj1
      go_wp2
      go_roundw
      case rel =>
        refine ⟨k + 1, j, by have := HKJ.out; omega, ?_, rfl, ?_, HBEL.out.setCell (Nat.le_refl _) _⟩
        · rw [HQ.out, Int.ediv_ediv_of_nonneg (Int.le_of_lt (Int.pow_pos (by decide))), Int.pow_succ]
        · rw [heap_setCell_same wr w.heap.size j _ _ _ HH.out, beR_cons, show cellsB (byteI (u / 256 ^ k) :: beR k u) = .int .u8 ((byteI (u / 256 ^ k)).toNat : Int) :: cellsB (beR k u) from rfl, byteI_val, ← HQ.out]
          simp [List.replicate_succ', List.append_assoc]
      case measure => first | (simp [intOf]; done) | (simp [intOf]; omega)
theorem small_any (n : Int) (w : World) : Calls Try.prog 41 #[.int .i64 n] w (CloneTo [byteI n] w) := by
  go_enter Try.func41, Try.ntmps41
  go_wp2
  go_ret
  refine ⟨_, rfl, CB_own (l := [byteI n]) (Nat.le_refl _) ?_ rfl (by decide), (Below.refl _ _).alloc (Nat.le_refl _) _⟩
  rw [show (cellsB [byteI n]).toArray = #[.int .u8 (n % 256)] by simp [byteI_val]]
  exact heap_alloc_new _ _
theorem word_any' (n : Int) (h : U32 n) (w : World) : Calls Try.prog 40 #[.int .u32 n] w (CloneTo (beR 4 n) w) := by
  have h0 := h.1
  have h1 := h.2
  have hw : n % 18446744073709551616 = n := by omega
  have hc := high_any 4 (.inl rfl) n w h0 (by omega)
  go_enter Try.func40, Try.ntmps40
  go_wp2_with (first
    | (go_at_call 72; refine hc.mono ?_; rintro e w1 ⟨v, rfl, ho, hb⟩))
  go_ret
  exact ⟨v, rfl, ho, hb⟩
theorem long_any (n : Int) (w : World) : Calls Try.prog 42 #[.int .i64 n] w (CloneTo (beR 8 n) w) := by
  have hc := high_any 8 (.inr rfl) (n % 18446744073709551616) w (by omega) (by omega)
  rw [beR_mod 8 n _ ⟨1, by decide⟩] at hc
  go_enter Try.func42, Try.ntmps42
  go_wp2_with (first
    | (go_at_call 72; refine hc.mono ?_; rintro e w1 ⟨v, rfl, ho, hb⟩))
  go_ret
  exact ⟨v, rfl, ho, hb⟩
/-- slices that read as bytes -/
def Pcs (w : World) (ps : List (Value × List UInt8)) : Prop := ∀ p ∈ ps, ∃ a c, p.1 = .slice a p.2.length c ∧ CB.At w a p.2.length p.2 ∧ (a = none → c = 0)
def allB (ps : List (Value × List UInt8)) : List UInt8 := ps.flatMap (·.2)
def JRel (w : World) (ps : List (Value × List UInt8)) (v i : Value) (wr : World) : Prop :=
  ∃ (k j : Nat) (x : Value), k + j = ps.length ∧ i = .int .i64 (k : Int) ∧ x = v ∧ CB.Own 5 w.heap.size wr x (allB (ps.take k)) ∧ Below w.heap.size w wr
theorem allB_take (ps : List (Value × List UInt8)) (k : Nat) (h : k < ps.length) : allB (ps.take (k + 1)) = allB (ps.take k) ++ (ps[k]).2 := by
  unfold allB
  rw [List.take_succ_eq_append_getElem h, List.flatMap_append]
  simp only [List.flatMap_cons, List.flatMap_nil, List.append_nil]
theorem allB_le (ps : List (Value × List UInt8)) (k : Nat) : (allB (ps.take k)).length ≤ (allB ps).length := by
  conv => rhs; rw [← List.take_append_drop k ps]
  unfold allB
  rw [List.flatMap_append, List.length_append]
  omega
set_option maxHeartbeats 1000000 in
set_option maxRecDepth 100000 in
theorem join_any (w : World) (R n : Nat) (ps : List (Value × List UInt8)) (T : TypeId) (hn : n = ps.length) (h : w.heap[R]? = some (.cells (ps.map (·.1)).toArray T (0, 0))) (hp : Pcs w ps) (hl : (allB ps).length ≤ 1000000) (h100 : n ≤ 1000) :
    Calls Try.prog 39 #[.slice (some ⟨R, 0, none⟩) n n] w (CloneTo (allB ps) w) := by
  have HN := Lib.hid hn
  have HP := Lib.hid hp
  have HH := Lib.hid h
  have HL := Lib.hid hl
  clear hn hp h hl
  go_enter Try.func39, Try.ntmps39
  go_wp2
  go_loopw [3, 4] (fun v i wr => JRel w ps v i wr) (fun _ i _ => ((n : Int) - intOf i).toNat)
  case atStart => exact ⟨0, n, _, by have := HN.out; omega, rfl, rfl, Cod.Own.nil _ _, Below.refl _ _⟩
  case round =>
    obtain ⟨k, j, x, hkj, rfl, rfl, hown, hbel⟩ := hrel
    rw [← HN.out] at hkj
    have HKJ := Lib.hid hkj
    have HOWN := Lib.hid hown
    have HBEL := Lib.hid hbel
    rcases j with _ | j
    · obtain rfl : k = n := by omega
      clear hown hbel
      go_wp2
      go_ret
      have h2 := HOWN.out
      rw [List.take_of_length_le (Nat.le_of_eq HN.out.symm)] at h2
      exact ⟨_, rfl, h2, HBEL.out⟩
    · have hk : k < ps.length := by have := HN.out; omega
      have hkn : k < n := by omega
      obtain ⟨a, c, e1, hat, hnil⟩ := HP.out _ (List.getElem_mem hk)
      have hcell : wr.cell? ⟨R, k, none⟩ = some (.slice a (ps[k]).2.length c) := by
        have := (hbel.block _ (Array.getElem?_eq_some_iff.1 HH.out).1).trans HH.out
        rw [cell_of_row _ _ _ _ _ _ this, List.getElem?_toArray, List.getElem?_map, List.getElem?_eq_getElem hk, Option.map_some, e1]
      have hat' := hat.below hbel
      have htk := allB_take ps k hk
      have hle := allB_le ps (k + 1)
      rw [htk, List.length_append] at hle
      have HTK := Lib.hid (And.intro htk (And.intro hle hat'))
      obtain ⟨l, hl⟩ : ∃ l, l = (ps[k]).2 := ⟨_, rfl⟩
      rw [← hl] at hcell HTK
      obtain ⟨m, hm⟩ : ∃ m, m = l.length := ⟨_, rfl⟩
      rw [← hm] at hcell
      have HMM := Lib.hid hm
      clear hown hbel hkj e1 hat hat' htk hle hl hm
      cases a with
      | none =>
        obtain rfl := hnil rfl
        have hm0 : m = 0 := by
          have h1 := HTK.out.2.2
          have h2 := h1.1
          rcases h1.2.2 with h3 | ⟨_, _, h3, _⟩
          · rw [HMM.out, h3]
          · cases h3
        subst hm0
        go_wp2_with (at_builtin; refine rowB.list_none rfl _ _ rfl w.heap.size x _ rfl HOWN.out rfl ?_)
        go_roundw
        case rel =>
          refine ⟨k + 1, j, _, by have := HN.out; have := HKJ.out; omega, by simp, rfl, ?_, HBEL.out⟩
          have h2 := HOWN.out
          rw [HTK.out.1, List.length_eq_zero_iff.1 HMM.out.symm, List.append_nil]
          exact h2
        case measure => first | (simp [intOf]; done) | (simp [intOf]; omega)
      | some ad =>
        go_wp2_with (at_builtin; refine rowB.list rfl _ _ rfl w.heap.size x _ rfl HOWN.out ad m c l rfl HMM.out (HTK.out.2.2.news) (by have := HTK.out.2.1; have := HL.out; have := HMM.out; omega) (by have := HTK.out.2.1; have := HL.out; have := HMM.out; omega) HBEL.out.size ?_; intro v1 w1 hown1 hgrow1 _; have H1 := Lib.hid (And.intro hown1 hgrow1); clear hown1 hgrow1)
        go_roundw
        case rel =>
          refine ⟨k + 1, j, _, by have := HN.out; have := HKJ.out; omega, by simp, rfl, by rw [HTK.out.1]; exact H1.out.1, HBEL.out.trans ((But.grown H1.out.2).below HBEL.out.size fun i e => (HOWN.out.lt i e.symm).1)⟩
        case measure => first | (simp [intOf]; done) | (simp [intOf]; omega)
end Go.Proofs.Ytdpfmaikijilkaa
