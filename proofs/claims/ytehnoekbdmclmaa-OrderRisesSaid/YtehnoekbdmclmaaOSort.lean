/-
  The walks of slices.SortStableFunc's parts at events: swapRange, rotate (over any program that bears their bodies; an element's cells a variable).
-/
import Derived.Test.YtehnoekbdmclmaaKMath
import Derived.Test.YtehnoekbdmclmaaProg
import Derived.Shelf.SlSortCmp.KitK
import Derived.Sort.WalkB2
import Derived.Sort.WalkB12
import Derived.Deep.LoopGhost
import Derived.ProofKit
import Derived.Lib.Hide
namespace Go.Proofs.Ytehnoekbdmclmaa
open Go Go.Shelf Go.RowKit Go.Lib Go.Sort Go.Proofs StM

/-- what a program bears: the sort's bodies, and their types; k: an element's cells -/
structure SP (P : Program) (k : Nat) : Prop where
  mixed : P.follows .mixedOrders = true
  fSwap : P.funcs[28]? = some Try.f28
  fRot : P.funcs[27]? = some Try.f27
  fSym : P.funcs[26]? = some Try.f26
  fStab : P.funcs[24]? = some Try.f24
  t0 : P.underlying 0 = some (TypeDesc.tuple #[])
  a0 : ∀ w, (isAgg 0).run P w = .ok false w
  z0 : ∀ w, (Go.sizeOf 0).run P w = .ok 1 w
  v0 : ∀ w, (zeroValue 0).run P w = .ok (Value.tuple #[]) w
  t3 : P.underlying 3 = some (TypeDesc.int IntKind.i64)
  a3 : ∀ w, (isAgg 3).run P w = .ok false w
  z3 : ∀ w, (Go.sizeOf 3).run P w = .ok 1 w
  v3 : ∀ w, (zeroValue 3).run P w = .ok (Value.int IntKind.i64 0) w
  t4 : P.underlying 4 = some (TypeDesc.bool)
  a4 : ∀ w, (isAgg 4).run P w = .ok false w
  z4 : ∀ w, (Go.sizeOf 4).run P w = .ok 1 w
  v4 : ∀ w, (zeroValue 4).run P w = .ok (Value.bool false) w
  t22 : P.underlying 33 = some (TypeDesc.slice 28)
  a22 : ∀ w, (isAgg 33).run P w = .ok false w
  z22 : ∀ w, (Go.sizeOf 33).run P w = .ok 1 w
  v22 : ∀ w, (zeroValue 33).run P w = .ok (Value.slice none 0 0) w
  t25 : P.underlying 26 = some (TypeDesc.func #[28, 28] #[3] false)
  a25 : ∀ w, (isAgg 26).run P w = .ok false w
  z25 : ∀ w, (Go.sizeOf 26).run P w = .ok 1 w
  v25 : ∀ w, (zeroValue 26).run P w = .ok (Value.nilFunc) w
  t48 : P.underlying 48 = some (TypeDesc.int IntKind.u64)
  a48 : ∀ w, (isAgg 48).run P w = .ok false w
  z48 : ∀ w, (Go.sizeOf 48).run P w = .ok 1 w
  v48 : ∀ w, (zeroValue 48).run P w = .ok (Value.int IntKind.u64 0) w
  aE : ∀ w, (isAgg 28).run P w = .ok true w
  zE : ∀ w, (Go.sizeOf 28).run P w = .ok k w

/-- a world of the sort's, in which the row holds what is said -/
def Srt {α : Type} [Inhabited α] (enc : α → List Value) (k : Nat) (w0 : World) (blk off : Nat) (p : Array α → Prop) (e : Ending) (w' : World) : Prop := e = .returned (.tuple #[]) ∧ ∃ d', SWK enc k w0 blk off d' w' ∧ p d'

section
variable {P : Program} {α : Type} [Inhabited α]

set_option maxHeartbeats 4000000 in
set_option maxRecDepth 1000000 in
theorem swapRange_w {k : Nat} (L : SP P k) (enc : α → List Value) (fv : Value) (blk off cap a b n : Nat) (d0 d : Array α) (w0 w : World)
    (R : RowK enc k w0 blk off d0) (hs : d0.size = d.size) (S : SWK enc k w0 blk off d w) (hab : a + n ≤ b) (hb : b + n ≤ d.size) (hsz : d.size < 4611686018427387904) :
    Calls P 28 #[.slice (some ⟨blk, off, none⟩) d.size cap, .int .i64 a, .int .i64 b, .int .i64 n, fv] w (Srt enc k w0 blk off (SwapR d a b n)) := by
  have mixed := L.mixed; have t0 := L.t0; have a0 := L.a0; have z0 := L.z0; have v0 := L.v0; have t3 := L.t3; have a3 := L.a3; have z3 := L.z3; have v3 := L.v3; have t4 := L.t4; have a4 := L.a4; have z4 := L.z4; have v4 := L.v4; have t22 := L.t22; have a22 := L.a22; have z22 := L.z22; have v22 := L.v22; have t25 := L.t25; have a25 := L.a25; have z25 := L.z25; have v25 := L.v25; have aE := L.aE; have zE := L.zE
  have S0 : Aside (SWK enc k w0 blk off d w) := S
  have FG := L.fSwap
  clear S
  go_enter FG, Try.ntmps28
  go_wp2
  go_loopg [10] n (fun kx s10 wr => ∃ (i : Nat) (dk : Array α), s10 = .int .i64 i ∧ i ≤ n ∧ n - i ≤ kx ∧ Aside (dk.size = d.size ∧ SWK enc k w0 blk off dk wr ∧ SwapR d a b i dk))
  case atStart => exact ⟨0, d, rfl, Nat.zero_le _, Nat.le_refl _, ⟨rfl, S0.out, SwapR.start _ _ _⟩⟩
  case round =>
    clear S0
    obtain ⟨i, dk, rfl, hin, hkx, A⟩ := hrel
    by_cases hlt : i < n
    · go_wp2_with fail
      have hds : dk.size = d.size := A.out.1
      have S1 : Aside (SWK enc k w0 blk off dk wr) := A.out.2.1
      have SR : Aside (SwapR d a b i dk) := A.out.2.2
      have ea44 : ((a : Int) + (i : Int)).toNat = a + i := by omega
      have pa44 : (0 : Int) ≤ (a : Int) + (i : Int) := by omega
      have ba44 : (a : Int) + (i : Int) < (d.size : Int) := by omega
      have ra44 : IntKind.i64.wrap ((a : Int) + (i : Int)) = (a : Int) + (i : Int) := by rw [IntKind.wrap_i64]; omega
      have ec44 : ((b : Int) + (i : Int)).toNat = b + i := by omega
      have pc44 : (0 : Int) ≤ (b : Int) + (i : Int) := by omega
      have bc44 : (b : Int) + (i : Int) < (d.size : Int) := by omega
      have rc44 : IntKind.i64.wrap ((b : Int) + (i : Int)) = (b : Int) + (i : Int) := by rw [IntKind.wrap_i64]; omega
      have S2 : Aside (SWK enc k w0 blk off (swp dk (a + i) (b + i)) ((wr.drew.setCells blk (off + (a + i) * k) (enc dk[b + i]!)).setCells blk (off + (b + i) * k) (enc dk[a + i]!))) := S1.out.swapped R (a + i) (b + i) (by omega) (by omega)
      have l44a := S1.out.ld1 R (by omega) P (a + i) (by omega)
      have l44b := S1.out.ld1 R (by omega) P (b + i) (by omega)
      have s44a := S1.out.st1 R (by omega) P (a + i) (by omega) dk[b + i]!
      have s44b := S1.out.st2 R (by omega) P (a + i) (b + i) (by omega) (by omega) dk[b + i]! dk[a + i]!
      have n44a : (enc dk[a + i]!).length = k := R.hk _
      have n44b : (enc dk[b + i]!).length = k := R.hk _
      generalize enc dk[a + i]! = cI44 at S2 l44a s44b n44a
      generalize enc dk[b + i]! = cJ44 at S2 l44b s44a s44b n44b
      have DS := Lib.hid hds
      clear S1 hds A
      go_wp2_with fail
      go_big_region_o
      clear l44a l44b s44a s44b
      generalize (wr.drew.setCells blk (off + (a + i) * k) cJ44).setCells blk (off + (b + i) * k) cI44 = w2 at S2 ⊢
      go_wp2
      go_roundg (n - (i + 1))
      case measure => omega
      case rel =>
        exact ⟨i + 1, swp dk (a + i) (b + i), by go_num, by omega, Nat.le_refl _, ⟨by rw [size_swp]; exact DS.out, S2.out, SR.out.step hlt hab hb⟩⟩
    · go_wp2
      go_end0
      obtain rfl : i = n := by omega
      exact ⟨rfl, dk, A.out.2.1, A.out.2.2⟩
theorem swapRange_z {k : Nat} (L : SP P k) (enc : α → List Value) (fv : Value) (blk off cap a b n sz : Nat) (d0 d : Array α) (w0 w : World)
    (R : RowK enc k w0 blk off d0) (hs : d0.size = sz) (hz : d.size = sz) (S : SWK enc k w0 blk off d w) (hab : a + n ≤ b) (hb : b + n ≤ sz) (hsz : sz < 4611686018427387904) :
    Calls P 28 #[.slice (some ⟨blk, off, none⟩) sz cap, .int .i64 a, .int .i64 b, .int .i64 n, fv] w (Srt enc k w0 blk off (SwapR d a b n)) := by
  subst hz
  exact swapRange_w L enc fv blk off cap a b n d0 d w0 w R hs S hab hb hsz
end
end Go.Proofs.Ytehnoekbdmclmaa
