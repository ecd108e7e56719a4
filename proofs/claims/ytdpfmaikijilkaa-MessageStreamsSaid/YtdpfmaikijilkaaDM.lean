/-
  The walk of the document's MayRequest.
-/
import Derived.Test.YtdpfmaikijilkaaMR
import Derived.Test.YtdpfmaikijilkaaE3
import Derived.Deep.CutRange
namespace Go.Proofs.Ytdpfmaikijilkaa
open Go Go.RowKit Go.Sort Go.Proofs

theorem eight_any (n : Int) (w : World) : Calls Try.prog 31 #[.int .i64 n] w (fun e w' => e = .returned (.bool (in8 n)) ∧ w = w') := by
  unfold in8
  by_cases h0 : 0 ≤ n
  · by_cases h1 : n ≤ 255
    · rw [decide_eq_true (⟨h0, h1⟩ : 0 ≤ n ∧ n ≤ 255)]
      go_enter Try.func31, Try.ntmps31
      go_wp2
      go_ret
      exact ⟨rfl, rfl⟩
    · rw [decide_eq_false (fun e => h1 e.2 : ¬ (0 ≤ n ∧ n ≤ 255))]
      go_enter Try.func31, Try.ntmps31
      go_wp2
      go_ret
      exact ⟨rfl, rfl⟩
  · rw [decide_eq_false (fun e => h0 e.1 : ¬ (0 ≤ n ∧ n ≤ 255))]
    go_enter Try.func31, Try.ntmps31
    go_wp2
    go_ret
    exact ⟨rfl, rfl⟩
/-- the request that the document lays beside -/
def onlyQ (q : Rq) : Rq :=
  if q.kind = 1 then ⟨q.kind, q.id, q.ver, [], 0, 0, 0, 0, 0, 0, 0, 0, 0, 0, 0, 0, 0⟩ else
  if q.kind = 2 then ⟨q.kind, q.id, 0, q.model, 0, 0, 0, 0, 0, 0, 0, 0, 0, 0, 0, 0, 0⟩ else
  if q.kind = 3 then ⟨q.kind, q.id, 0, [], q.time, q.org, q.seq, q.pt, q.ek, q.dat, 0, 0, 0, 0, 0, 0, 0⟩ else
  if q.kind = 4 then ⟨q.kind, q.id, 0, [], 0, 0, 0, 0, 0, 0, q.num, q.bp, q.bk, q.bt, 0, 0, 0⟩ else
  if q.kind = 5 then ⟨q.kind, q.id, 0, [], 0, 0, 0, 0, 0, 0, q.num, 0, 0, 0, 0, 0, 0⟩ else
  if q.kind = 6 then ⟨q.kind, q.id, 0, [], 0, 0, 0, 0, 0, 0, 0, 0, 0, 0, q.pr, 0, 0⟩ else
  if q.kind = 10 then ⟨q.kind, q.id, 0, [], 0, 0, 0, 0, 0, 0, 0, 0, 0, 0, 0, q.nm, q.dn⟩ else ⟨q.kind, q.id, 0, [], 0, 0, 0, 0, 0, 0, 0, 0, 0, 0, 0, 0, 0⟩
structure Lims (q : Rq) : Prop where
  k0 : 1 ≤ q.kind
  k1 : q.kind ≤ 12
  ver : in8 q.ver = true
  pr : in8 q.pr = true
  pt : in8 q.pt = true
  ek : in8 q.ek = true
  org : q.org = 0
  seq : q.seq = 0
  bp : in8 q.bp = true
  b0 : -1 ≤ q.bk
  b1 : q.bk ≤ 254
def TellsB (b : Bool) (w : World) (e : Ending) (w' : World) : Prop := e = .returned (.bool b) ∧ Below w.heap.size w w'
end Go.Proofs.Ytdpfmaikijilkaa
