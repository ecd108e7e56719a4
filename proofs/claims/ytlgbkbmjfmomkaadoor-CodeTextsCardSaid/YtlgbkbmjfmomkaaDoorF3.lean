/-
  The walk of the document's Digits.
-/
import Derived.Test.YtlgbkbmjfmomkaaDoorC6
namespace Go.Proofs.YtlgbkbmjfmomkaaDoor
open Go.RowKit CodM

def emptyOf : Value → Nat | .string b => if b.size = 0 then 1 else 0 | _ => 0
/-- so far: u is left, s is written -/
def DigNow (N u : Nat) (s : List UInt8) : Prop := (s = [] ∧ u = N) ∨ (s ≠ [] ∧ u = 0 ∧ s = Lib.decDigits N) ∨ (s ≠ [] ∧ 0 < u ∧ Lib.decDigits u ++ s = Lib.decDigits N)
def DigRel (w : World) (N : Nat) (uv sv : Value) (wr : World) : Prop :=
  ∃ (u : Nat) (s : List UInt8), u ≤ N ∧ uv = .int .u64 u ∧ sv = .string (strU s) ∧ s.length ≤ 21 ∧ DigNow N u s ∧ Below w.heap.size w wr
theorem DigNow.start (N : Nat) : DigNow N N [] := .inl ⟨rfl, rfl⟩
theorem DigNow.stop {N u : Nat} {s : List UInt8} (h : DigNow N u s) (hu : u = 0) (hs : s ≠ []) : s = Lib.decDigits N := by
  rcases h with ⟨h, _⟩ | ⟨_, _, h⟩ | ⟨_, h, _⟩
  · exact absurd h hs
  · exact h
  · omega
theorem DigNow.step {N u : Nat} {s : List UInt8} (h : DigNow N u s) (hc : 0 < u ∨ s = []) : DigNow N (u / 10) (UInt8.ofNat (48 + u % 10) :: s) := by
  have key : Lib.decDigits u ++ s = Lib.decDigits N → DigNow N (u / 10) (UInt8.ofNat (48 + u % 10) :: s) := fun e => by
    by_cases h10 : u < 10
    · refine .inr (.inl ⟨by simp, by omega, ?_⟩)
      rw [Lib.decDigits_one h10] at e
      rw [← e, Nat.mod_eq_of_lt h10]
      rfl
    · refine .inr (.inr ⟨by simp, by omega, ?_⟩)
      rw [Lib.decDigits, dif_neg h10] at e
      rw [← e]
      simp
  rcases h with ⟨rfl, rfl⟩ | ⟨hs, rfl, rfl⟩ | ⟨hs, hu, e⟩
  · exact key (by simp)
  · rcases hc with hc | hc
    · omega
    · exact absurd hc hs
  · exact key e
theorem DigNow.len {N u : Nat} {s : List UInt8} (h : DigNow N u s) (hN : N < 18446744073709551616) : s.length ≤ 20 := by
  have hl : (Lib.decDigits N).length ≤ 20 := by rw [Lib.decDigits_length]; exact Lib.nDigits_le20 N hN
  rcases h with ⟨rfl, _⟩ | ⟨_, _, rfl⟩ | ⟨_, _, e⟩
  · simp
  · exact hl
  · rw [← e, List.length_append] at hl
    omega
theorem neg_wrap (N : Nat) (h1 : 1 ≤ N) (h : N ≤ 9223372036854775808) : IntKind.u64.wrap (-IntKind.u64.wrap (-(N : Int))) = (N : Int) := by
  have e : ∀ z : Int, IntKind.u64.wrap z = z % 18446744073709551616 := fun z => by simp [IntKind.wrap, IntKind.signed, IntKind.bits]
  rw [e, e]
  omega
theorem dig_val (u : Nat) : ((UInt8.ofNat (48 + u % 10)).toNat : Int) = 48 + (u : Int) % 10 := by
  have : 48 + u % 10 < 256 := by omega
  rw [UInt8.toNat_ofNat', Nat.mod_eq_of_lt (by omega)]
  omega
theorem dig_cell (w : World) (u : Nat) (t : TypeId) (fr : Nat × Nat) : ∀ j (hj : j < [UInt8.ofNat (48 + u % 10)].length), (w.alloc (.cells #[.int .u8 (48 + (u : Int) % 10)] t fr)).cell? ((⟨w.heap.size, 0, none⟩ : Addr).add j) = some (.int .u8 (([UInt8.ofNat (48 + u % 10)][j]).toNat : Int)) := by
  intro j hj
  match j, hj with
  | 0, _ =>
    show (w.alloc _).cell? ⟨w.heap.size, 0, none⟩ = _
    rw [cell_of_row _ _ _ _ _ _ (heap_alloc_new _ _)]
    show some (Value.int .u8 (48 + (u : Int) % 10)) = some (Value.int .u8 ((UInt8.ofNat (48 + u % 10)).toNat : Int))
    rw [dig_val]
theorem strU_cons (x : UInt8) (s : List UInt8) : (⟨[x].toArray⟩ : ByteArray) ++ strU s = strU (x :: s) := by
  unfold strU; apply ByteArray.ext; simp
theorem emptyOf_cons (x : UInt8) (s : List UInt8) : emptyOf (.string (strU (x :: s))) = 0 := by simp [emptyOf, strU, ByteArray.size]
theorem emptyOf_nil : emptyOf (.string (strU [])) = 1 := by simp [emptyOf, strU, ByteArray.size]
theorem minus_str (s : List UInt8) : (⟨#[45]⟩ : ByteArray) ++ strU s = strU (45 :: s) := by
  unfold strU; apply ByteArray.ext; simp

set_option maxHeartbeats 2000000 in
set_option maxRecDepth 100000 in
theorem rdigits_pos (N : Nat) (w : World) (hN : N ≤ 9223372036854775807) : Calls Tryd.prog 33 #[.int .i64 N] w (TellsSB (Lib.decDigits N) w) := by
  go_enter Tryd.func33, Tryd.ntmps33
  go_wp2
  go_loopw [3, 4] (fun u s wr => DigRel w N u s wr) (fun u s _ => (intOf u).toNat + emptyOf s)
  case atStart => exact ⟨N, [], Nat.le_refl _, rfl, rfl, by simp, DigNow.start N, Below.refl _ _⟩
  case round =>
    obtain ⟨u, s, hu, rfl, rfl, hs21, hnow, hbel⟩ := hrel
    have HNOW := Lib.hid hnow
    have HBEL := Lib.hid hbel
    have hs20 := hnow.len (by omega)
    clear hnow hbel hs21
    obtain ⟨S, hS⟩ : ∃ S, S = strU s := ⟨_, rfl⟩
    have hSs : S.size ≤ 20 := by rw [hS, strU_size]; exact hs20
    have hSl : S.toList = s := by rw [hS, strU_toList]
    rw [← hS]
    have HS := Lib.hid hS
    obtain ⟨D, hD⟩ : ∃ D : ByteArray, D = ⟨[UInt8.ofNat (48 + u % 10)].toArray⟩ := ⟨_, rfl⟩
    have hDs : D.size ≤ 1 := by rw [hD]; exact Nat.le_refl _
    have hcv : (convert 25 9 (.slice (some ⟨wr.heap.size, 0, none⟩) 1 1)).run Tryd.prog (wr.alloc (.cells #[.int .u8 (48 + (u : Int) % 10)] 5)) = .ok (.string D) (wr.alloc (.cells #[.int .u8 (48 + (u : Int) % 10)] 5)) := by
      rw [hD]
      exact run_convert_bytes_back (P := Tryd.prog) (wr.alloc (.cells #[.int .u8 (48 + (u : Int) % 10)] 5)) 25 9 5 ⟨wr.heap.size, 0, none⟩ 1 [UInt8.ofNat (48 + u % 10)] Tryd.underlying25 Tryd.underlying5 Tryd.underlying9 (dig_cell _ _ _ _)
    have HD := Lib.hid hD
    have hrel' : 0 < u ∨ s = [] → DigRel w N (.int .u64 ((u / 10 : Nat) : Int)) (.string (D ++ S)) (wr.alloc (.cells #[.int .u8 (48 + (u : Int) % 10)] 5)) := fun hc => by
      have hst := HNOW.out.step hc
      exact ⟨u / 10, _, by omega, rfl, by rw [hD, hS, strU_cons], by have := hst.len (by omega); omega, hst, HBEL.out.alloc HBEL.out.size _⟩
    have hmeas : emptyOf (.string (D ++ S)) = 0 := by rw [hD, hS, strU_cons]; exact emptyOf_cons _ _
    have HREL := Lib.hid hrel'
    have HMEAS := Lib.hid hmeas
    clear hS hD hrel' hmeas
    by_cases hu0 : 0 < u
    · clear hSl
      go_wp2
      go_roundw
      case rel => exact HREL.out (.inl hu0)
      case measure => rw [HMEAS.out]; simp [intOf]; omega
    · have hu1 : u ≤ 0 := by omega
      by_cases hs0 : s = []
      · have hE : S.toList.isEmpty = true := by rw [hSl, hs0]; rfl
        have HS0 := Lib.hid hs0
        clear hSl hs0
        go_wp2
        go_roundw
        case rel => exact HREL.out (.inr HS0.out)
        case measure =>
          rw [HMEAS.out, HS.out, HS0.out, emptyOf_nil]
          simp [intOf]
          omega
      · have hE : S.toList.isEmpty = false := by rw [hSl]; simpa using hs0
        have HS0 := Lib.hid hs0
        clear hSl hs0
        go_wp2
        go_ret
        refine ⟨?_, HBEL.out⟩
        have hfin := DigNow.stop (u := u) HNOW.out (by omega) HS0.out
        rw [HS.out, hfin]
        rfl

set_option maxHeartbeats 2000000 in
set_option maxRecDepth 100000 in
theorem rdigits_neg (N : Nat) (w : World) (h1 : 1 ≤ N) (hN : N ≤ 9223372036854775808) : Calls Tryd.prog 33 #[.int .i64 (-(N : Int))] w (TellsSB (45 :: Lib.decDigits N) w) := by
  have HW := Lib.hid (neg_wrap N h1 hN)
  go_enter Tryd.func33, Tryd.ntmps33
  go_wp2
  rw [HW.out]
  go_loopw [3, 4] (fun u s wr => DigRel w N u s wr) (fun u s _ => (intOf u).toNat + emptyOf s)
  case atStart => exact ⟨N, [], Nat.le_refl _, rfl, rfl, by simp, DigNow.start N, Below.refl _ _⟩
  case round =>
    obtain ⟨u, s, hu, rfl, rfl, hs21, hnow, hbel⟩ := hrel
    have HNOW := Lib.hid hnow
    have HBEL := Lib.hid hbel
    have hs20 := hnow.len (by omega)
    clear hnow hbel hs21
    obtain ⟨S, hS⟩ : ∃ S, S = strU s := ⟨_, rfl⟩
    have hSs : S.size ≤ 20 := by rw [hS, strU_size]; exact hs20
    have hSl : S.toList = s := by rw [hS, strU_toList]
    rw [← hS]
    have HS := Lib.hid hS
    obtain ⟨D, hD⟩ : ∃ D : ByteArray, D = ⟨[UInt8.ofNat (48 + u % 10)].toArray⟩ := ⟨_, rfl⟩
    have hDs : D.size ≤ 1 := by rw [hD]; exact Nat.le_refl _
    have hcv : (convert 25 9 (.slice (some ⟨wr.heap.size, 0, none⟩) 1 1)).run Tryd.prog (wr.alloc (.cells #[.int .u8 (48 + (u : Int) % 10)] 5)) = .ok (.string D) (wr.alloc (.cells #[.int .u8 (48 + (u : Int) % 10)] 5)) := by
      rw [hD]
      exact run_convert_bytes_back (P := Tryd.prog) (wr.alloc (.cells #[.int .u8 (48 + (u : Int) % 10)] 5)) 25 9 5 ⟨wr.heap.size, 0, none⟩ 1 [UInt8.ofNat (48 + u % 10)] Tryd.underlying25 Tryd.underlying5 Tryd.underlying9 (dig_cell _ _ _ _)
    have HD := Lib.hid hD
    have hrel' : 0 < u ∨ s = [] → DigRel w N (.int .u64 ((u / 10 : Nat) : Int)) (.string (D ++ S)) (wr.alloc (.cells #[.int .u8 (48 + (u : Int) % 10)] 5)) := fun hc => by
      have hst := HNOW.out.step hc
      exact ⟨u / 10, _, by omega, rfl, by rw [hD, hS, strU_cons], by have := hst.len (by omega); omega, hst, HBEL.out.alloc HBEL.out.size _⟩
    have hmeas : emptyOf (.string (D ++ S)) = 0 := by rw [hD, hS, strU_cons]; exact emptyOf_cons _ _
    have HREL := Lib.hid hrel'
    have HMEAS := Lib.hid hmeas
    clear hS hD hrel' hmeas
    by_cases hu0 : 0 < u
    · clear hSl
      go_wp2
      go_roundw
      case rel => exact HREL.out (.inl hu0)
      case measure => rw [HMEAS.out]; simp [intOf]; omega
    · have hu1 : u ≤ 0 := by omega
      by_cases hs0 : s = []
      · have hE : S.toList.isEmpty = true := by rw [hSl, hs0]; rfl
        have HS0 := Lib.hid hs0
        clear hSl hs0
        go_wp2
        go_roundw
        case rel => exact HREL.out (.inr HS0.out)
        case measure =>
          rw [HMEAS.out, HS.out, HS0.out, emptyOf_nil]
          simp [intOf]
          omega
      · have hE : S.toList.isEmpty = false := by rw [hSl]; simpa using hs0
        have HS0 := Lib.hid hs0
        clear hSl hs0
        go_wp2
        go_ret
        refine ⟨?_, HBEL.out⟩
        have hfin := DigNow.stop (u := u) HNOW.out (by omega) HS0.out
        rw [HS.out, hfin, ← minus_str]
        rfl

theorem rdigits_any (n : Int) (w : World) (hn : I64 n) : Calls Tryd.prog 33 #[.int .i64 n] w (TellsSB (Lib.itoa n) w) := by
  obtain ⟨n0, n1⟩ := hn
  by_cases hneg : n < 0
  · obtain ⟨N, rfl⟩ : ∃ N : Nat, n = -(N : Int) := ⟨n.natAbs, by omega⟩
    rw [Lib.itoa_neg N (by omega)]
    exact rdigits_neg N w (by omega) (by omega)
  · obtain ⟨N, rfl⟩ : ∃ N : Nat, n = (N : Int) := ⟨n.toNat, by omega⟩
    rw [Lib.itoa_nonneg]
    exact rdigits_pos N w (by omega)
end Go.Proofs.YtlgbkbmjfmomkaaDoor
