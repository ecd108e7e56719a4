/-
  The walk of the document's Sorted.
-/
import Derived.Test.YtehnoekbdmclmaaOPut
namespace Go.Proofs.Ytehnoekbdmclmaa
open Go Go.RowKit Go.Sort Go.Proofs

theorem put_is {w : World} {a : Option Addr} {n c : Nat} {l : List Ev} (x : Ev) {x0 x1 x2 x3 x4 x5 : Int} (hx : x = ((x0, x1, x2), x3, x4, x5)) (hl : EvAt w a n l) (hn : n ≤ 1000) :
    Calls Try.prog 23 #[.slice a n c, .agg #[.int .i64 x0, .int .i64 x1, .int .i64 x2, .int .i64 x3, .int .i64 x4, .int .i64 x5]] w (EvTo (evPut l x) w) := by
  rw [hx]
  exact put_any w a n c l x0 x1 x2 x3 x4 x5 hl hn
set_option maxHeartbeats 2000000 in
set_option maxRecDepth 100000 in
theorem rsorted_any (w : World) (a : Option Addr) (n c : Nat) (l : List Ev) (hl : EvAt w a n l) (hn : n ≤ 1000) : Calls Try.prog 17 #[.slice a n c] w (EvTo (evSort l) w) := by
  have hlen := hl.1
  have HLEN := Lib.hid hlen
  have HL := Lib.hid hl
  clear hlen hl
  go_enter Try.func17, Try.ntmps17
  go_wp2
  go_loopg [3, 4] n (fun kx s3 s4 wr => ∃ (k : Nat) (b : Option Addr) (m d : Nat), s3 = .slice b m d ∧ s4 = .int .i64 k ∧ k ≤ n ∧ n - k ≤ kx ∧ m = k ∧ Aside (Below w.heap.size w wr ∧ EvOwn w.heap.size wr (.slice b m d) (evSort (l.take k)) ∧ EvAt wr b m (evSort (l.take k))))
  case atStart => exact ⟨0, none, 0, 0, rfl, rfl, Nat.zero_le _, Nat.le_refl _, rfl, ⟨Below.refl _ _, EvOwn.nil _ _, rfl, by omega, .inl rfl⟩⟩
  case round =>
    obtain ⟨k, b, m, d, rfl, rfl, hk, hkx, hmk, A⟩ := hrel
    have HMK := Lib.hid hmk
    have hm : m ≤ 1000 := by omega
    clear hmk
    by_cases hlt : k < n
    · obtain ⟨B, off, rfl, hB, ⟨⟨y0, y1, y2⟩, y3, y4, y5⟩, hy, c0, c1, c2, c3, c4, c5⟩ := (HL.out.below A.out.1).cell hlt
      have HY := Lib.hid hy
      clear hy
      go_wp2_with (go_at_call 23; refine (put_is ((y0, y1, y2), y3, y4, y5) rfl A.out.2.2 hm).mono ?_; rintro e w1 ⟨v, rfl, ho, hb⟩; rw [← evSort_take l k _ HY.out] at ho; refine Hid.out ?_)
      have hlen1 : (evSort (l.take (k + 1))).length = k + 1 := by rw [sorted_len, List.length_take, HLEN.out]; omega
      obtain ⟨b', d', rfl, _, hat⟩ := ho.at (by omega)
      have HO : Hid (EvOwn w.heap.size w1 (.slice b' (evSort (l.take (k + 1))).length d') (evSort (l.take (k + 1)))) := ho.mono A.out.1.size
      have HAT := Lib.hid hat
      have HBB := Lib.hid (A.out.1.trans (hb.mono A.out.1.size))
      have HL1 := Lib.hid hlen1
      obtain ⟨m', hm'⟩ : ∃ m', m' = (evSort (l.take (k + 1))).length := ⟨_, rfl⟩
      have HM' := Lib.hid hm'
      rw [← hm'] at HO HAT ⊢
      clear ho hat hb hlen1 hm'
      refine Lib.hid ?_
      go_wp2
      go_roundg (n - (k + 1))
      case measure => omega
      case rel => exact ⟨k + 1, b', m', d', rfl, by go_num, by omega, Nat.le_refl _, by rw [HM'.out, HL1.out], ⟨HBB.out, HO.out, HAT.out⟩⟩
    · have hkn : l.take k = l := List.take_of_length_le (by rw [HLEN.out]; omega)
      have HKN := Lib.hid hkn
      clear hkn
      go_wp2
      go_ret
      refine ⟨_, rfl, ?_, A.out.1⟩
      have h := A.out.2.1
      rw [HKN.out] at h
      exact h
end Go.Proofs.Ytehnoekbdmclmaa
