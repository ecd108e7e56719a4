/-
  The walks of both SameRequests.
-/
import Derived.Test.YtdpfmaikijilkaaSQ
namespace Go.Proofs.Ytdpfmaikijilkaa
open Go Go.RowKit Go.Sort Go.Proofs

set_option maxHeartbeats 2000000 in
set_option maxRecDepth 100000 in
theorem sameRequest_any (w : World) (a b : Rq) (x y : Option Addr) (c d : Nat) (ha : CB.At w x a.model.length a.model) (hb : CB.At w y b.model.length b.model) :
    Calls Try.prog 27 #[.agg (RqC a (.slice x a.model.length c)), .agg (RqC b (.slice y b.model.length d))] w (fun e w' => e = .returned (.bool (sameQ a b)) ∧ Below w.heap.size w w') := by
  have heq : Hid (∀ W, Below w.heap.size w W → Calls Try.prog 49 #[.slice x a.model.length c, .slice y b.model.length d] W (fun e w' => e = .returned (.bool (decide (a.model = b.model))) ∧ w' = W)) := fun W hW => equal_any W x y _ _ c d _ _ (ha.below hW) (hb.below hW)
  obtain ⟨R, hR⟩ : ∃ R, R = sameQ a b := ⟨_, rfl⟩
  rw [← hR]
  obtain ⟨t1, h1⟩ : ∃ t, t = decide (a.model = b.model) := ⟨_, rfl⟩
  rw [← h1] at heq
  have he := evE a.time a.org a.seq a.pt a.ek a.dat b.time b.org b.seq b.pt b.ek b.dat
  have hbr := brE a.bp a.bk a.bt b.bp b.bk b.bt
  obtain ⟨t2, h2⟩ : ∃ t, t = decide ((a.time, a.org, a.seq, a.pt, a.ek, a.dat) = (b.time, b.org, b.seq, b.pt, b.ek, b.dat)) := ⟨_, rfl⟩
  obtain ⟨t3, h3⟩ : ∃ t, t = decide ((a.bp, a.bk, a.bt) = (b.bp, b.bk, b.bt)) := ⟨_, rfl⟩
  rw [← h2] at he
  rw [← h3] at hbr
  have hg1 := fun (op : BinOp) (x y : Operand) (xs ys : Array Value) (w : World) => run_eqGuard_agg (P := Try.prog) w op 28 x y xs ys evGuard
  have hg2 := fun (op : BinOp) (x y : Operand) (xs ys : Array Value) (w : World) => run_eqGuard_agg (P := Try.prog) w op 30 x y xs ys brGuard
  have HR : Hid (R = (decide (a.kind = b.kind) && decide (a.id = b.id) && decide (a.ver = b.ver) && t1 && t2 && decide (a.num = b.num) && t3 && decide (a.pr = b.pr) && decide (a.nm = b.nm) && decide (a.dn = b.dn))) := by
    rw [Lib.hid_eq, hR, h1, h2, h3]
    rfl
  obtain ⟨a0, a1, a2, am, a4, a5, a6, a7, a8, a9, a10, a11, a12, a13, a14, a15, a16⟩ := a
  obtain ⟨b0, b1, b2, bm, b4, b5, b6, b7, b8, b9, b10, b11, b12, b13, b14, b15, b16⟩ := b
  dsimp only at he hbr heq
  dsimp only [RqC]
  obtain ⟨m, hm⟩ : ∃ m, m = am.length := ⟨_, rfl⟩
  obtain ⟨n, hn⟩ : ∃ n, n = bm.length := ⟨_, rfl⟩
  rw [← hm, ← hn] at heq ⊢
  clear ha hb hR h1 h2 h3 hm hn
  go_enter Try.func27, Try.ntmps27
  go_wp2_with (first
    | (go_at_call 49; refine (heq.out _ (((Below.refl _ _).alloc (Nat.le_refl _) _).alloc (by simp) _)).mono ?_; rintro e w' ⟨rfl, rfl⟩))
  all_goals go_ret
  all_goals refine ⟨?_, ((Below.refl _ _).alloc (Nat.le_refl _) _).alloc (by simp) _⟩
  all_goals rw [HR.out]
  all_goals clear heq he hbr hg1 hg2 HR
  all_goals first | (simp [*]; done) | (simp [*]; rfl)
end Go.Proofs.Ytdpfmaikijilkaa
