/-
  The walk of rotate.
-/
import Derived.Test.YtehnoekbdmclmaaOSort
namespace Go.Proofs.Ytehnoekbdmclmaa
open Go Go.Shelf Go.RowKit Go.Lib Go.Sort Go.Proofs StM

section
variable {P : Program} {α : Type} [Inhabited α]

set_option maxHeartbeats 4000000 in
set_option maxRecDepth 1000000 in
theorem rotate_w {k : Nat} (L : SP P k) (enc : α → List Value) (fv : Value) (blk off cap a m b : Nat) (d0 d : Array α) (w0 w : World)
    (R : RowK enc k w0 blk off d0) (hs : d0.size = d.size) (S : SWK enc k w0 blk off d w) (ham : a < m) (hmb : m < b) (hb : b ≤ d.size) (hsz : d.size < 4611686018427387904) :
    Calls P 27 #[.slice (some ⟨blk, off, none⟩) d.size cap, .int .i64 a, .int .i64 m, .int .i64 b, fv] w (Srt enc k w0 blk off (Rot a m b d)) := by
  have mixed := L.mixed; have t0 := L.t0; have a0 := L.a0; have z0 := L.z0; have v0 := L.v0; have t3 := L.t3; have a3 := L.a3; have z3 := L.z3; have v3 := L.v3; have t4 := L.t4; have a4 := L.a4; have z4 := L.z4; have v4 := L.v4; have t22 := L.t22; have a22 := L.a22; have z22 := L.z22; have v22 := L.v22; have t25 := L.t25; have a25 := L.a25; have z25 := L.z25; have v25 := L.v25; have aE := L.aE; have zE := L.zE
  have S0 : Aside (SWK enc k w0 blk off d w) := S
  have FG := L.fRot
  have eS : ∀ args w, (callFunc 28 args).run P w = .ok (.enter 28 args) w := enters_of L.fSwap (by kernel_rfl) rfl
  have HS := Lib.hid hs
  clear S hs
  go_enter FG, Try.ntmps27
  go_wp2
  go_loopg [10, 11] (b - a) (fun kx s10 s11 wr => ∃ (i j : Nat) (dk : Array α), s10 = .int .i64 i ∧ s11 = .int .i64 j ∧ 0 < i ∧ 0 < j ∧ i ≤ m - a ∧ j ≤ b - m ∧ i + j ≤ kx ∧ Aside (dk.size = d.size ∧ SWK enc k w0 blk off dk wr ∧ RotI d a m b i j dk))
  case atStart => exact ⟨m - a, b - m, d, by congr 1; omega, by congr 1; omega, by omega, by omega, Nat.le_refl _, Nat.le_refl _, by omega, ⟨rfl, S0.out, RotI.start _ (by omega) (by omega)⟩⟩
  case round =>
    clear S0
    obtain ⟨i, j, dk, rfl, rfl, hi, hj, him, hjm, hkx, A⟩ := hrel
    have e1 : (m : Int) - (i : Int) = ((m - i : Nat) : Int) := by omega
    have E1 := Lib.hid e1
    have DS := Lib.hid A.out.1
    clear e1
    by_cases hij : i = j
    · subst hij
      go_wp2_with (go_at_fn 28; rw [E1.out]; refine (swapRange_z L enc fv blk off cap (m - i) m i d.size d0 dk w0 _ R HS.out DS.out A.out.2.1 (by omega) (by omega) (by omega)).mono ?_; rintro e w1 ⟨rfl, d', S1, hR⟩; have H1 := Lib.hid (And.intro S1 hR); clear S1 hR)
      go_end0
      exact ⟨rfl, d', H1.out.1, A.out.2.2.fin (by omega) H1.out.2⟩
    · have hd : (i != j) = true := by simpa using hij
      have HIJ := Lib.hid hij
      clear hij
      by_cases hlt : j < i
      · go_wp2_with (go_at_fn 28; rw [E1.out]; refine (swapRange_z L enc fv blk off cap (m - i) m j d.size d0 dk w0 _ R HS.out DS.out A.out.2.1 (by omega) (by omega) (by omega)).mono ?_; rintro e w1 ⟨rfl, d', S1, hR⟩; have H1 := Lib.hid (And.intro S1 hR); clear S1 hR)
        go_roundg (i - j + j)
        case measure => omega
        case rel => exact ⟨i - j, j, d', by congr 1; omega, rfl, by omega, hj, by omega, hjm, Nat.le_refl _, ⟨H1.out.2.1.trans DS.out, H1.out.1, A.out.2.2.more (by omega) hlt H1.out.2⟩⟩
      · have hlt' : i < j := by have := HIJ.out; omega
        have e2 : (m : Int) + (j : Int) - (i : Int) = ((m + j - i : Nat) : Int) := by omega
        have E2 := Lib.hid e2
        clear e2
        go_wp2_with (go_at_fn 28; rw [E1.out, E2.out]; refine (swapRange_z L enc fv blk off cap (m - i) (m + j - i) i d.size d0 dk w0 _ R HS.out DS.out A.out.2.1 (by omega) (by omega) (by omega)).mono ?_; rintro e w1 ⟨rfl, d', S1, hR⟩; have H1 := Lib.hid (And.intro S1 hR); clear S1 hR)
        go_roundg (i + (j - i))
        case measure => omega
        case rel => exact ⟨i, j - i, d', rfl, by congr 1; omega, hi, by omega, him, by omega, Nat.le_refl _, ⟨H1.out.2.1.trans DS.out, H1.out.1, A.out.2.2.less (by omega) hlt' H1.out.2⟩⟩
theorem rotate_z {k : Nat} (L : SP P k) (enc : α → List Value) (fv : Value) (blk off cap a m b sz : Nat) (d0 d : Array α) (w0 w : World)
    (R : RowK enc k w0 blk off d0) (hs : d0.size = sz) (hz : d.size = sz) (S : SWK enc k w0 blk off d w) (ham : a < m) (hmb : m < b) (hb : b ≤ sz) (hsz : sz < 4611686018427387904) :
    Calls P 27 #[.slice (some ⟨blk, off, none⟩) sz cap, .int .i64 a, .int .i64 m, .int .i64 b, fv] w (Srt enc k w0 blk off (Rot a m b d)) := by
  subst hz
  exact rotate_w L enc fv blk off cap a m b d0 d w0 w R hs S ham hmb hb hsz
end
end Go.Proofs.Ytehnoekbdmclmaa
