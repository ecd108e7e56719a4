/-
  The walk of a reading wire's number.
-/
import Derived.Test.YtdpfmaikijilkaaMBase
import Derived.Deep.CutRange
namespace Go.Proofs.Ytdpfmaikijilkaa
open Go Go.RowKit Go.Sort Go.Proofs

/-- a shift by eight, and a byte in its room -/
theorem or_join (V x : Int) (hV0 : 0 ≤ V) (hV1 : V * 256 + x < 18446744073709551616) (h0 : 0 ≤ x) (h1 : x < 256) : bits .or .u64 (V * 256) x = V * 256 + x := by
  unfold bits
  have ha : (BitVec.ofInt 64 (V * 256)).toNat = (V * 256).toNat := by
    rw [BitVec.toNat_ofInt]; congr 1; omega
  have hb : (BitVec.ofInt 64 x).toNat = x.toNat := by
    rw [BitVec.toNat_ofInt]; congr 1; omega
  show IntKind.u64.wrap (((BitVec.ofInt 64 (V * 256) ||| BitVec.ofInt 64 x).toNat : Nat) : Int) = _
  rw [BitVec.toNat_or, ha, hb, nat_join 8 _ _ (by show _ % 256 = 0; omega) (by show _ < 256; omega), wrapU]
  omega

theorem pow_le7 (k : Nat) (h : k ≤ 7) : (256 : Int) ^ k ≤ 72057594037927936 := by
  have : ∀ k : Fin 8, (256 : Int) ^ k.1 ≤ 72057594037927936 := by decide
  exact this ⟨k, by omega⟩
def N2Rel (s : Nat) (l : List UInt8) (w : World) (v i : Value) (wr : World) : Prop :=
  ∃ k : Nat, k ≤ s ∧ i = .int .i64 k ∧ v = .int .u64 (numOf (l.take k)) ∧ w = wr

set_option maxHeartbeats 1000000 in
set_option maxRecDepth 100000 in
theorem num_rd_no (P g : Nat) (F : Nat → Prop) (l : List UInt8) (n : Int) (s : Nat) (w : World) (h : WAt w P g F (.rd l)) (hs : l.length < s) :
    Calls Try.prog 84 #[.int .u64 n, .int .i64 s, .pointer (some ⟨P, 0, none⟩)] w (NumTo P g F w ((Wi.rd l).num n s)) := by
  obtain ⟨hP, hnP, hfg, hlt, a, c, hg, hat, hlc, hc, hF⟩ := h
  have c1 : w.cell? ⟨P, 0, none⟩ = some (.pointer (some ⟨g, 0, none⟩)) := by rw [cell_of_row _ _ _ _ _ _ hP]; rfl
  have c2 : w.cell? ⟨g, 0, none⟩ = some (.slice a l.length c) := by rw [cell_of_row _ _ _ _ _ _ hg]; rfl
  have hd : decide (s ≤ l.length) = false := by simpa using hs
  have HS : Hid ((Wi.rd l).num n s = none) := by
    show (if s ≤ l.length then _ else _) = _
    rw [if_neg (by omega)]
  clear hP hg hat hF hlt
  go_enter Try.func84, Try.ntmps84
  go_wp2_with (first
    | (go_at_call 83; refine (must_no _).mono ?_; rintro e w' ⟨rfl, rfl⟩))
  refine ⟨rfl, But.refl _ _, ?_⟩
  rw [HS.out]

theorem CB.At.drop {w : World} {a : Option Addr} {l : List UInt8} (h : CB.At w a l.length l) (s : Nat) (hs : s ≤ l.length) (B off : Nat) (ha : a = some ⟨B, off, none⟩) : CB.At w (some ⟨B, off + s, none⟩) (l.length - s) (l.drop s) := by
  have := h.part s l.length hs (Nat.le_refl _) B off ha
  rw [List.take_of_length_le (Nat.le_refl _), show s * CB.k = s from Nat.mul_one s] at this
  exact this
theorem rd_end {w : World} {P g : Nat} {F : Nat → Prop} {l : List UInt8} {n : Int} {s : Nat} (h : WAt w P g F (.rd l)) (hn : (Wi.rd l).num n s = some (numOf (l.take s), .rd (l.drop s))) (a' : Option Addr) (m' c' : Nat) (hm : m' = l.length - s) (ha : CB.At w a' (l.length - s) (l.drop s)) (hc : m' ≤ c') (hc2 : c' ≤ 9223372036854775807) (hF : ∀ p, a' = some p → ¬ F p.block) :
    NumTo P g F w ((Wi.rd l).num n s) (.returned (.int .u64 (numOf (l.take s)))) ((w.setCell ⟨g, 0, none⟩ (.slice a' m' c')).drew) := by
  obtain ⟨hP, hnP, hfg, hlt, a, c, hg, hat, hlc, _, _⟩ := h
  subst hm
  have hb : But (fun b => b = g) w ((w.setCell ⟨g, 0, none⟩ (.slice a' (l.length - s) c')).drew) := ((But.refl (fun b => b = g) w).setCell (p := ⟨g, 0, none⟩) rfl _).drew
  rw [hn]
  refine ⟨hb.mono fun _ _ e => e ▸ hfg, rfl, F, fun b e => .inl e, ⟨(hb.block P (Array.getElem?_eq_some_iff.1 hP).1 (fun e => hnP (by rw [e]; exact hfg))).trans hP, hnP, hfg, fun b e => Nat.lt_of_lt_of_le (hlt b e) hb.size, a', c', ?_, ?_, ?_, hc2, hF⟩⟩
  · show (w.setCell ⟨g, 0, none⟩ _).heap[g]? = _
    rw [heap_setCell_same _ _ _ _ _ _ hg, List.length_drop]
    rfl
  · rw [List.length_drop]
    exact ha.but hb fun p e e2 => hF p e (by rw [e2]; exact hfg)
  · rw [List.length_drop]; exact hc

set_option maxHeartbeats 2000000 in
set_option maxRecDepth 100000 in
theorem num_rd_yes (P g : Nat) (F : Nat → Prop) (l : List UInt8) (n : Int) (s : Nat) (w : World) (h : WAt w P g F (.rd l)) (hs : s ≤ l.length) (hs1 : 1 ≤ s) (hs8 : s ≤ 8) :
    Calls Try.prog 84 #[.int .u64 n, .int .i64 s, .pointer (some ⟨P, 0, none⟩)] w (NumTo P g F w ((Wi.rd l).num n s)) := by
  obtain ⟨hP, hnP, hfg, hlt, a, c, hg, hat, hlc, hc, hF⟩ := h
  have c1 : w.cell? ⟨P, 0, none⟩ = some (.pointer (some ⟨g, 0, none⟩)) := by rw [cell_of_row _ _ _ _ _ _ hP]; rfl
  have c2 : w.cell? ⟨g, 0, none⟩ = some (.slice a l.length c) := by rw [cell_of_row _ _ _ _ _ _ hg]; rfl
  have f2 : w.frozen? ⟨g, 0, none⟩ = false := frozen_of_row _ _ _ _ _ hg
  have HS : Hid ((Wi.rd l).num n s = some (numOf (l.take s), .rd (l.drop s))) := by
    show (if s ≤ l.length then _ else _) = _
    rw [if_pos hs]
  obtain ⟨B, off, rfl, hB, -⟩ := hat.cell (i := 0) (by omega)
  have hcell : ∀ i (hi : i < l.length), w.cell? ⟨B, off + i, none⟩ = some (.int .u8 (l[i].toNat : Int)) := fun i hi => by
    obtain ⟨B', off', e, _, x, hx, hc⟩ := hat.cell hi
    cases e
    have := hc 0 (by decide)
    rw [List.getElem?_eq_getElem hi] at hx
    cases hx
    simpa [CB] using this
  obtain ⟨m, hm⟩ : ∃ m, m = l.length := ⟨_, rfl⟩
  rw [← hm] at hlc c2 hs
  have HM := Lib.hid hm
  have HW : Hid (WAt w P g F (.rd l)) := ⟨hP, hnP, hfg, hlt, _, c, hg, hat, by rw [← hm]; exact hlc, hc, hF⟩
  have HC := Lib.hid hcell
  have HFB : Hid (¬ F B) := hF _ rfl
  have HAT := Lib.hid hat
  clear hm hP hg hat hcell hF hlt
  by_cases hcs : c = s
  · obtain rfl : m = s := by omega
    subst hcs
    go_enter Try.func84, Try.ntmps84
    go_wp2_with (first
      | (go_at_call 83; refine (must_ok _).mono ?_; rintro e w' ⟨rfl, rfl⟩))
    go_loopw [6, 22] (fun v i wr => N2Rel c l w v i wr) (fun _ i _ => c - (intOf i).toNat)
    case atStart => exact ⟨0, Nat.zero_le _, rfl, rfl, rfl⟩
    case round =>
      obtain ⟨k, hk, rfl, rfl, rfl⟩ := hrel
      obtain ⟨V, hV⟩ : ∃ V, V = numOf (l.take k) := ⟨_, rfl⟩
      have hVb := numOf_bd (l.take k)
      rw [← hV] at hVb ⊢
      by_cases hlt : k < c
      · have hkl : k < l.length := by have := HM.out; omega
        rw [List.length_take, show min k l.length = k by omega] at hVb
        have hV0 : 0 ≤ V := hVb.1
        have hV1 : V < 72057594037927936 := Int.lt_of_lt_of_le hVb.2 (pow_le7 k (by omega))
        have d1 := HC.out k hkl
        obtain ⟨x, hx⟩ : ∃ x : Int, x = (l[k].toNat : Int) := ⟨_, rfl⟩
        have hx0 : 0 ≤ x := by omega
        have hx1 : x < 256 := by have := l[k].toNat_lt; omega
        rw [← hx] at d1
        have HX := Lib.hid hx
        have HV := Lib.hid hV
        clear hx hV hVb
        go_wp2
        go_roundw
        case rel =>
          refine ⟨k + 1, by omega, by go_num, ?_, rfl⟩
          rw [or_join V x hV0 (by omega) hx0 hx1, HV.out, List.take_succ_eq_append_getElem hkl, numOf_snoc, ← HX.out]
        case measure => simp [intOf]; omega
      · obtain rfl : k = c := by omega
        have HV := Lib.hid hV
        clear hV hVb
        go_wp2
        go_region
        all_goals
          go_wp2
          go_ret
          have hk0 : l.length - k = 0 := by have := HM.out; omega
          have hd0 : l.drop k = [] := List.drop_eq_nil_of_le (by omega)
          have := rd_end (n := n) HW.out HS.out (some ⟨B, off, none⟩) 0 0 hk0.symm (by rw [hk0, hd0]; exact ⟨rfl, by omega, .inl rfl⟩) (Nat.le_refl _) (by omega) (fun p e => by cases e; exact HFB.out)
          rw [← HV.out] at this
          simpa using this
  · have hcs' : s < c := by omega
    go_enter Try.func84, Try.ntmps84
    go_wp2_with (first
      | (go_at_call 83; refine (must_ok _).mono ?_; rintro e w' ⟨rfl, rfl⟩))
    go_loopw [6, 22] (fun v i wr => N2Rel s l w v i wr) (fun _ i _ => s - (intOf i).toNat)
    case atStart => exact ⟨0, Nat.zero_le _, rfl, rfl, rfl⟩
    case round =>
      obtain ⟨k, hk, rfl, rfl, rfl⟩ := hrel
      obtain ⟨V, hV⟩ : ∃ V, V = numOf (l.take k) := ⟨_, rfl⟩
      have hVb := numOf_bd (l.take k)
      rw [← hV] at hVb ⊢
      by_cases hlt : k < s
      · have hkl : k < l.length := by have := HM.out; omega
        rw [List.length_take, show min k l.length = k by omega] at hVb
        have hV0 : 0 ≤ V := hVb.1
        have hV1 : V < 72057594037927936 := Int.lt_of_lt_of_le hVb.2 (pow_le7 k (by omega))
        have d1 := HC.out k hkl
        obtain ⟨x, hx⟩ : ∃ x : Int, x = (l[k].toNat : Int) := ⟨_, rfl⟩
        have hx0 : 0 ≤ x := by omega
        have hx1 : x < 256 := by have := l[k].toNat_lt; omega
        rw [← hx] at d1
        have HX := Lib.hid hx
        have HV := Lib.hid hV
        clear hx hV hVb
        go_wp2
        go_roundw
        case rel =>
          refine ⟨k + 1, by omega, by go_num, ?_, rfl⟩
          rw [or_join V x hV0 (by omega) hx0 hx1, HV.out, List.take_succ_eq_append_getElem hkl, numOf_snoc, ← HX.out]
        case measure => simp [intOf]; omega
      · obtain rfl : k = s := by omega
        have HV := Lib.hid hV
        clear hV hVb
        go_wp2
        go_region
        all_goals
          go_wp2
          go_ret
          have hml := HM.out
          have := rd_end (n := n) HW.out HS.out (some ⟨B, off + k, none⟩) (m - k) (c - k) (by omega) (CB.At.drop HAT.out k (by omega) B off rfl) (by omega) (by omega) (fun p e => by cases e; exact HFB.out)
          rw [← HV.out] at this
          exact this
end Go.Proofs.Ytdpfmaikijilkaa
