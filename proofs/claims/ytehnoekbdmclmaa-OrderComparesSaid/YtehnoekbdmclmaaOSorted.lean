/-
  The walk of order.Sorted.
-/
import Derived.Test.YtehnoekbdmclmaaEvMem
import Derived.Test.YtehnoekbdmclmaaOSort6
import Derived.Shelf.SlGeneric
import Derived.Shelf.SlLaysF0
import Derived.Lib.SliceRun
namespace Go.Proofs.Ytehnoekbdmclmaa
open Go Go.Shelf Go.RowKit Go.Lib Go.Sort Go.Proofs StM

def insRen : Go.Shelf.Ren := ⟨fun | 20 => 25 | n => n, fun | 24 => 28 | 22 => 33 | 3 => 3 | 25 => 26 | 4 => 4 | 0 => 0 | n => n, fun | n => n⟩
theorem insLay : Go.Proofs.SlLaysF0.n20 Try.prog insRen := {
  mixed := by kernel_rfl
  f20 := ⟨Try.f25.name, by decide, Try.func25.trans (congrArg some (by kernel_rfl))⟩
  t0 := Try.underlying0
  a0 := Try.isAgg0
  z0 := Try.sizeOf0
  v0 := Try.zeroValue0
  t3 := Try.underlying3
  a3 := Try.isAgg3
  z3 := Try.sizeOf3
  v3 := Try.zeroValue3
  t4 := Try.underlying4
  a4 := Try.isAgg4
  z4 := Try.sizeOf4
  v4 := Try.zeroValue4
  t22 := Try.underlying33
  a22 := Try.isAgg33
  z22 := Try.sizeOf33
  v22 := Try.zeroValue33
  t25 := Try.underlying26
  a25 := Try.isAgg26
  z25 := Try.sizeOf26
  v25 := Try.zeroValue26 }
theorem sortP : SP Try.prog 6 := {
  mixed := by kernel_rfl
  fSwap := Try.func28
  fRot := Try.func27
  fSym := Try.func26
  fStab := Try.func24
  t0 := Try.underlying0
  a0 := Try.isAgg0
  z0 := Try.sizeOf0
  v0 := Try.zeroValue0
  t3 := Try.underlying3
  a3 := Try.isAgg3
  z3 := Try.sizeOf3
  v3 := Try.zeroValue3
  t4 := Try.underlying4
  a4 := Try.isAgg4
  z4 := Try.sizeOf4
  v4 := Try.zeroValue4
  t22 := Try.underlying33
  a22 := Try.isAgg33
  z22 := Try.sizeOf33
  v22 := Try.zeroValue33
  t25 := Try.underlying26
  a25 := Try.isAgg26
  z25 := Try.sizeOf26
  v25 := Try.zeroValue26
  t48 := Try.underlying48
  a48 := Try.isAgg48
  z48 := Try.sizeOf48
  v48 := Try.zeroValue48
  aE := Try.isAgg28
  zE := Try.sizeOf28 }

theorem cmpLays (blk off size : Nat) (w : World) : CmpLays Try.prog 10 #[] encE 6 evCmp blk off size w := fun _ _ _ _ x y =>
  (byKey_any x y _).mono fun _ _ ⟨he, os, hw⟩ => ⟨he, 0, os, hw⟩
theorem rowE {w0 : World} {blk off : Nat} {d : Array Ev} (hH : HoldsK encE 6 w0 blk off d) (hb : blk < w0.heap.size) : RowK encE 6 w0 blk off d := ⟨encE_len, encE_one, hH, hb⟩

set_option maxHeartbeats 1000000 in
/-- insertionSort, from a world of the sort's to one -/
theorem ins_w (blk off cap n a b : Nat) (d0 d : Array Ev) (w0 w : World) (R : RowK encE 6 w0 blk off d0) (hs : d0.size = n) (hz : d.size = n) (S : SWK encE 6 w0 blk off d w) (hab : a ≤ b) (hb : b ≤ n) (hsz : n < 4611686018427387904) :
    Calls Try.prog 25 #[.slice (some ⟨blk, off, none⟩) n cap, .int .i64 a, .int .i64 b, .func (.func 10) #[] #[]] w (Srt encE 6 w0 blk off (SymTo (ltOf evCmp) a b d)) := by
  subst hz
  have hO : SWO (ltOf evCmp) := by rw [ltOf_evCmp]; exact evLt_swo
  have hs' : (Sort.insertionSort (ltOf evCmp) d a b).size = d.size := (insertionSort_holds hO d a b hab hb).1.1
  have eg : ∀ args w, (callFunc 10 args).run Try.prog w = .ok (.enter 10 args) w := enters_of Try.func10 (by kernel_rfl) rfl
  refine (AnyQ.insertionSortCmpFunc insLay 6 Try.isAgg28 Try.sizeOf28 encE R.hk R.h1 evCmp 10 #[] blk off cap a b d w eg (cmpLays _ _ _ _) (S.holds R.hblk R.hH hs.symm) (S.lt R.hblk) hab hb hsz).mono ?_
  rintro e w' ⟨rfl, n, os, rfl⟩
  exact ⟨rfl, _, S.on R.hblk n _ os hs', ins_sym hO d hab hb⟩

theorem stableE (blk off cap n : Nat) (d : Array Ev) (w : World) (hH : HoldsK encE 6 w blk off d) (hb : blk < w.heap.size) (hs : d.size = n) (hsz : n < 576460752303423488) :
    Calls Try.prog 24 #[.slice (some ⟨blk, off, none⟩) n cap, .int .i64 n, .func (.func 10) #[] #[]] w (Srt encE 6 w blk off (SymTo (ltOf evCmp) 0 n d)) := by
  have hO : SWO (ltOf evCmp) := by rw [ltOf_evCmp]; exact evLt_swo
  have R := rowE hH hb
  exact stable_w sortP encE evCmp 10 #[] hO blk off cap n d w w (enters_of Try.func10 (by kernel_rfl) rfl) (cmpLays _ _ _ _) R hs hsz (SWK.start hH) (enters_of Try.func25 (by kernel_rfl) rfl)
    fun a b d' w' hz S hab hb => ins_w blk off cap n a b d d' w w' R hs hz S hab hb (by omega)

/-- nothing is told; the world is as it was -/
def Nil0 (w : World) (e : Ending) (w' : World) : Prop := e = .returned (.tuple #[]) ∧ w = w'
set_option maxHeartbeats 1000000 in
theorem ins_nil (w : World) : Calls Try.prog 25 #[.slice none 0 0, .int .i64 0, .int .i64 0, .func (.func 10) #[] #[]] w (Nil0 w) := by
  go_enter Try.func25, Try.ntmps25
  go_wp2
  refine wp_loop_rounds 1 ?_
  rw [rounds_succ]
  go_wp2
  go_end0
  exact ⟨rfl, rfl⟩
set_option maxHeartbeats 1000000 in
theorem stable_nil (w : World) : Calls Try.prog 24 #[.slice none 0 0, .int .i64 0, .func (.func 10) #[] #[]] w (Nil0 w) := by
  go_enter Try.func24, Try.ntmps24
  go_wp2
  refine wp_loop_rounds 1 ?_
  rw [rounds_succ]
  go_wp2_with (go_at_call 25; refine (ins_nil _).mono ?_; rintro e w1 ⟨rfl, rfl⟩)
  refine wp_loop_rounds 1 ?_
  rw [rounds_succ]
  go_wp2
  go_end0
  exact ⟨rfl, rfl⟩
end Go.Proofs.Ytehnoekbdmclmaa
