/-
  The walk of the document's SameRequest.
-/
import Derived.Test.YtdpfmaikijilkaaSQ
namespace Go.Proofs.Ytdpfmaikijilkaa
open Go Go.RowKit Go.Sort Go.Proofs

set_option maxHeartbeats 2000000 in
set_option maxRecDepth 100000 in
theorem rsameRequest_any (w : World) (a b : Rq) (x y : Option Addr) (c d : Nat) (ha : CB.At w x a.model.length a.model) (hb : CB.At w y b.model.length b.model) :
    Calls Try.prog 12 #[.agg (RqC a (.slice x a.model.length c)), .agg (RqC b (.slice y b.model.length d))] w (fun e w' => e = .returned (.bool (sameQ a b)) ∧ Below w.heap.size w w') := by
  have hs1 : ∀ A B : Array Value, (convert 24 9 (.slice x a.model.length c)).run Try.prog ((w.alloc (.cells A 32)).alloc (.cells B 32)) = .ok (.string (strB a.model)) ((w.alloc (.cells A 32)).alloc (.cells B 32)) := fun A B => (ha.below (((Below.refl _ _).alloc (Nat.le_refl _) _).alloc (by simp) _)).str c
  have hs2 : ∀ A B : Array Value, (convert 24 9 (.slice y b.model.length d)).run Try.prog ((w.alloc (.cells A 32)).alloc (.cells B 32)) = .ok (.string (strB b.model)) ((w.alloc (.cells A 32)).alloc (.cells B 32)) := fun A B => (hb.below (((Below.refl _ _).alloc (Nat.le_refl _) _).alloc (by simp) _)).str d
  have hst := strB_beq a.model b.model
  obtain ⟨s1, hs1'⟩ : ∃ t, t = strB a.model := ⟨_, rfl⟩
  obtain ⟨s2, hs2'⟩ : ∃ t, t = strB b.model := ⟨_, rfl⟩
  rw [← hs1'] at hs1 hst
  rw [← hs2'] at hs2 hst
  clear hs1' hs2'
  obtain ⟨R, hR⟩ : ∃ R, R = sameQ a b := ⟨_, rfl⟩
  rw [← hR]
  obtain ⟨t1, h1⟩ : ∃ t, t = decide (a.model = b.model) := ⟨_, rfl⟩
  rw [← h1] at hst
  have he := evN a.time a.org a.seq a.pt a.ek a.dat b.time b.org b.seq b.pt b.ek b.dat
  have hbr := brE a.bp a.bk a.bt b.bp b.bk b.bt
  obtain ⟨t2, h2⟩ : ∃ t, t = decide ((a.time, a.org, a.seq, a.pt, a.ek, a.dat) = (b.time, b.org, b.seq, b.pt, b.ek, b.dat)) := ⟨_, rfl⟩
  obtain ⟨t3, h3⟩ : ∃ t, t = decide ((a.bp, a.bk, a.bt) = (b.bp, b.bk, b.bt)) := ⟨_, rfl⟩
  rw [← h2] at he
  rw [← h3] at hbr
  have hg1 := fun (op : BinOp) (x y : Operand) (xs ys : Array Value) (w : World) => run_eqGuard_agg (P := Try.prog) w op 28 x y xs ys evGuard
  have hg2 := fun (op : BinOp) (x y : Operand) (xs ys : Array Value) (w : World) => run_eqGuard_agg (P := Try.prog) w op 30 x y xs ys brGuard
  have HR : Hid (R = (decide (a.kind = b.kind) && decide (a.id = b.id) && decide (a.ver = b.ver) && t1 && t2 && decide (a.num = b.num) && t3 && decide (a.pr = b.pr) && decide (a.nm = b.nm) && decide (a.dn = b.dn))) := by
    rw [Lib.hid_eq, hR, h1, h2, h3]
    rfl
  obtain ⟨a0, a1, a2, am, a4, a5, a6, a7, a8, a9, a10, a11, a12, a13, a14, a15, a16⟩ := a
  obtain ⟨b0, b1, b2, bm, b4, b5, b6, b7, b8, b9, b10, b11, b12, b13, b14, b15, b16⟩ := b
  dsimp only at he hbr hst
  dsimp only at hs1 hs2
  dsimp only [RqC]
  obtain ⟨m, hm⟩ : ∃ m, m = am.length := ⟨_, rfl⟩
  obtain ⟨n, hn⟩ : ∃ n, n = bm.length := ⟨_, rfl⟩
  rw [← hm] at hs1 ⊢
  rw [← hn] at hs2 ⊢
  clear ha hb hR h1 h2 h3 hm hn
  rcases t2 with _ | _ <;> simp only [Bool.not_false, Bool.not_true] at he
  all_goals
    go_enter Try.func12, Try.ntmps12
    go_wp2
    all_goals go_ret
    all_goals refine ⟨?_, ((Below.refl _ _).alloc (Nat.le_refl _) _).alloc (by simp) _⟩
    all_goals rw [HR.out]
    all_goals clear hs1 hs2 hst he hbr hg1 hg2 HR
    all_goals first | (simp [*]; done) | (simp [*]; rfl)
end Go.Proofs.Ytdpfmaikijilkaa
