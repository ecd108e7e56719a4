/-
  The walks of crc's functions that make no memory of their own: shifted, and the document's Byte.
-/
import Derived.Test.YthlmjadknklafaaDoorRows
import Derived.Test.YthlmjadknklafaaDoorMath
import Derived.WalkKit
import Derived.WalkSpells
import Derived.WalkLawsBesides
import Derived.Laws.BitsAllLaws
import Derived.Lib.Hide
namespace Go.Proofs.YthlmjadknklafaaDoor
open Go.RowKit CrcM

/-- the number r, as the walk has it, is n, a number of 32 bits -/
def U (r : Int) (n : Nat) : Prop := r = (n : Int) ∧ n < top
theorem U.lo {r : Int} {n : Nat} (h : U r n) : 0 ≤ r := by rw [h.1]; omega
theorem U.hi {r : Int} {n : Nat} (h : U r n) : r < 4294967296 := by have := h.2; unfold top at this; rw [h.1]; omega
theorem U.mk (n : Nat) (h : n < top) : U (n : Int) n := ⟨rfl, h⟩
theorem U.of (r : Int) (h0 : 0 ≤ r) (h1 : r < 4294967296) : U r r.toNat := ⟨by omega, by unfold top; omega⟩
theorem U.eq {r : Int} {n m : Nat} (h : U r n) (e : n = m) : U r m := e ▸ h
theorem U.same {r s : Int} {n : Nat} (h : U r n) (k : U s n) : r = s := h.1.trans k.1.symm
theorem U.xor {a b : Int} {m n : Nat} (h : U a m) (k : U b n) : U (bits .xor .u32 a b) (m ^^^ n) := by
  obtain ⟨rfl, hm⟩ := h
  obtain ⟨rfl, hn⟩ := k
  exact ⟨u32_xor_nat m n hm hn, xor_lt m n hm hn⟩
theorem U.not {a : Int} {m : Nat} (h : U a m) : U (bits .xor .u32 IntKind.u32.max a) (nt m) := by
  obtain ⟨rfl, hm⟩ := h
  exact ⟨u32_xor_nat ones m (by decide) hm, nt_lt m hm⟩
theorem U.half {a : Int} {m : Nat} (h : U a m) : U (a / 2) (m / 2) := by
  obtain ⟨rfl, hm⟩ := h
  exact ⟨rfl, by unfold top at *; omega⟩
theorem U.xp {a : Int} {m : Nat} (h : U a m) : U (bits .xor .u32 a 3988292384) (m ^^^ poly) := by
  obtain ⟨rfl, hm⟩ := h
  exact ⟨u32_xor_nat m poly hm (by decide), xor_lt m poly hm (by decide)⟩
theorem U.odd {a : Int} {m : Nat} (h : U a m) : bits .and .u32 a 1 = ((m % 2 : Nat) : Int) := by
  obtain ⟨rfl, hm⟩ := h
  have := u32_and_nat m 1 hm (by decide)
  rw [nat_mask1] at this
  exact this
theorem U.ofByte {b : Int} {n : Nat} (h : b = (n : Int)) (hn : n < 256) : U b n := ⟨h, by unfold top; omega⟩
theorem sh_odd (x : Nat) (h : x % 2 = 1) : x / 2 ^^^ CrcM.poly = sh x := by unfold sh; rw [if_pos h]
theorem sh_ev (x : Nat) (h : ¬ x % 2 = 1) : x / 2 = sh x := by unfold sh; rw [if_neg h]

/-- it answers the number n, and leaves the world alone -/
def TellsU (n : Nat) (w : World) (e : Ending) (w' : World) : Prop := ∃ r : Int, e = .returned (.int .u32 r) ∧ U r n ∧ w = w'

set_option maxHeartbeats 400000 in
theorem shifted_any (a : Int) (m : Nat) (w : World) (h : U a m) :
    Calls Tryd.prog 40 #[.int .u32 a] w (TellsU (sh m) w) := by
  have h0 := h.lo
  have h1 := h.hi
  by_cases ho : m % 2 = 1
  · have ht : (bits .and .u32 a 1 == 1) = true := by rw [h.odd, ho]; rfl
    have hs := Lib.hid (h.half.xp.eq (sh_odd m ho))
    clear ho h
    go_enter Tryd.func40, Tryd.ntmps40
    go_wp2
    go_ret
    exact ⟨_, rfl, hs.out, rfl⟩
  · have ht : (bits .and .u32 a 1 == 1) = false := by rw [h.odd]; simp; omega
    have hs := Lib.hid (h.half.eq (sh_ev m ho))
    clear ho h
    go_enter Tryd.func40, Tryd.ntmps40
    go_wp2
    go_ret
    exact ⟨_, rfl, hs.out, rfl⟩

set_option maxHeartbeats 400000 in
theorem byte_any (c b : Int) (m n : Nat) (w : World) (hc : U c m) (hb : b = (n : Int)) (hn : n < 256) :
    Calls Tryd.prog 39 #[.int .u32 c, .int .u8 b] w (TellsU (byte m n) w) := by
  have h0 := hc.lo
  have h1 := hc.hi
  have h2 : 0 ≤ b := by omega
  have h3 : b < 256 := by omega
  have hx := Lib.hid (hc.not.xor (U.ofByte hb hn))
  have hfin : Hid (byte m n = nt (it 8 (nt m ^^^ n))) := by rw [← s8_eq]; exact rfl
  clear hc hb hn
  generalize nt m ^^^ n = r0 at hx hfin
  go_enter Tryd.func39, Tryd.ntmps39
  go_wp2
  go_loop [0, 5, 6] (fun c i o => ∃ (k : Nat) (r : Int), k ≤ 8 ∧ i = .int .i64 k ∧ c = .int .u32 r ∧ U r (it k r0)) (fun _ i _ => 8 - (intOf i).toNat)
  case atStart => exact ⟨0, _, by omega, rfl, rfl, hx.out.eq (it_0 r0).symm⟩
  case round =>
    obtain ⟨k, r, hk, rfl, rfl, hu⟩ := hrel
    have hr0 := hu.lo
    have hr1 := hu.hi
    have hs := Lib.hid (it_succ k r0)
    have H := Lib.hid hu
    have hnot := Lib.hid hu.not
    have hodd : r % 2 = ((it k r0 % 2 : Nat) : Int) := by rw [hu.1]; omega
    by_cases hlt8 : k < 8
    · by_cases ho : it k r0 % 2 = 1
      · have ht : ((r % 2) == 1) = true := by rw [hodd, ho]; rfl
        have hp := Lib.hid ((hu.half.xp.eq (sh_odd _ ho)).eq hs.out.symm)
        clear ho hu hodd
        go_wp2
        go_round
        case rel => exact ⟨k + 1, _, by omega, by go_num, rfl, hp.out⟩
        case measure => simp [intOf]; omega
      · have ht : ((r % 2) == 1) = false := by rw [hodd]; simp; omega
        have hp := Lib.hid ((hu.half.eq (sh_ev _ ho)).eq hs.out.symm)
        clear ho hu hodd
        go_wp2
        go_round
        case rel => exact ⟨k + 1, _, by omega, by go_num, rfl, hp.out⟩
        case measure => simp [intOf]; omega
    · have hn8 : ¬ ((k : Int) < 8) := by omega
      have hp := Lib.hid (hnot.out.eq (show nt (it k r0) = byte m n from by rw [hfin.out, show k = 8 from by omega]))
      clear hk hu hodd hlt8
      go_wp2
      go_ret
      exact ⟨_, rfl, hp.out, rfl⟩
end Go.Proofs.YthlmjadknklafaaDoor
