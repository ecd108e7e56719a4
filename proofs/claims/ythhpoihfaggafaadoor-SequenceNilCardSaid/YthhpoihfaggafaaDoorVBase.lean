/-
  A run in memory: its box, the stack's room, the variables, what was sent and told.
-/
import Derived.Test.YthhpoihfaggafaaDoorVMath
import Derived.Test.YthhpoihfaggafaaDoorVMay
import Derived.Test.YthhpoihfaggafaaDoorGMem
import Derived.Test.YthhpoihfaggafaaDoorGRow
import Derived.Test.YthhpoihfaggafaaDoorD4
namespace Go.Proofs.YthhpoihfaggafaaDoor
open Go Go.RowKit Go.Sort Go.Proofs CodM VmM

def CEv : Cod Ev := ⟨fun x => [.int .i64 x.time, .int .i64 x.org, .int .i64 x.seq, .int .i64 x.to, .int .i64 x.kind, .int .i64 x.data], 6, by decide, fun _ => rfl, fun x v hv => by simp at hv; rcases hv with h | h | h | h | h | h <;> (subst h; rfl)⟩
def CRc : Cod Rc := ⟨fun x => [.int .i64 x.time, .int .i64 x.org, .int .i64 x.seq, .int .i64 x.proc, .int .i64 x.nth, .int .i64 x.val], 6, by decide, fun _ => rfl, fun x v hv => by simp at hv; rcases hv with h | h | h | h | h | h <;> (subst h; rfl)⟩
def CV : Cod Int := ⟨fun n => [.int .i64 n], 1, by decide, fun _ => rfl, fun _ v hv => by simp at hv; subst hv; rfl⟩
theorem rowE : RowT Tryd.prog CEv 25 45 48 := ⟨Tryd.underlying25, .agg #[.int .i64 0, .int .i64 0, .int .i64 0, .int .i64 0, .int .i64 0, .int .i64 0], by kernel_rfl, rfl⟩
theorem rowR : RowT Tryd.prog CRc 46 224 48 := ⟨Tryd.underlying46, .agg #[.int .i64 0, .int .i64 0, .int .i64 0, .int .i64 0, .int .i64 0, .int .i64 0], by kernel_rfl, rfl⟩
theorem rowV : RowT Tryd.prog CV 49 2 8 := ⟨Tryd.underlying49, .int .i64 0, by kernel_rfl, rfl⟩
end Go.Proofs.YthhpoihfaggafaaDoor
