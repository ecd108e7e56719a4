/-
  The walk of same: both look the same.
-/
import Derived.Test.YtfchfhkhflghbaaODuo
namespace Go.Proofs.Ytfchfhkhflghbaa
open Go Go.RowKit Go.Lib Go.Sort Go.Proofs

set_option maxHeartbeats 4000000 in
set_option maxRecDepth 100000 in
theorem lsame_any {w : World} {G R K : Nat} {F S : Nat → Prop} {x : St} {y : Dt} (h : Ob w G F x) (k : Rf w R S y) (ht : Tie K x y) : Calls Try.prog 11 #[.pointer (some ⟨G, 0, none⟩), .pointer (some ⟨R, 0, none⟩)] w (GwV (.bool true) w) := by
  have mixed : Try.prog.follows .mixedOrders = true := by kernel_rfl
  obtain ⟨N, hN⟩ : ∃ N, N = x.2.1.length := ⟨_, rfl⟩
  obtain ⟨M, hM⟩ : ∃ M, M = x.2.1.flatten.length := ⟨_, rfl⟩
  have hq : N = rlen y := by rw [ht.rlen, hN]
  have hg : ∀ nq os, Ob (grow (w.drewN nq) os) G F x := fun nq os => h.below (Gw.of w nq os).below
  have HL : Hid (∀ nq os, Calls Try.prog 18 #[.pointer (some ⟨G, 0, none⟩)] (grow (w.drewN nq) os) (fun e w'' => e = .returned (.int .i64 (N : Nat)) ∧ ∃ p : GrownBy, w'' = grow (w.drewN p.n) p.os)) := fun nq os => by rw [hN]; exact GwV.calls (len_any (hg nq os))
  have HR : Hid (∀ nq os, Calls Try.prog 20 #[.pointer (some ⟨G, 0, none⟩)] (grow (w.drewN nq) os) (fun e w'' => e = .returned (.int .i64 (x.1 - (N : Nat))) ∧ ∃ p : GrownBy, w'' = grow (w.drewN p.n) p.os)) := fun nq os => by rw [hN]; exact GwV.calls (room_any (hg nq os))
  have HF : Hid (∀ nq os, Calls Try.prog 19 #[.pointer (some ⟨G, 0, none⟩)] (grow (w.drewN nq) os) (fun e w'' => e = .returned (.int .i64 (M : Nat)) ∧ ∃ p : GrownBy, w'' = grow (w.drewN p.n) p.os)) := fun nq os => by rw [hM]; exact GwV.calls (left_any (hg nq os))
  have HS : Hid (∀ nq os, Calls Try.prog 24 #[.pointer (some ⟨G, 0, none⟩)] (grow (w.drewN nq) os) (fun e w'' => e = .returned (.int .i64 (x.2.2 : Nat)) ∧ ∃ p : GrownBy, w'' = grow (w.drewN p.n) p.os)) := fun nq os => GwV.calls (sent_any (hg nq os))
  have HQ : Hid (∀ nq os, Calls Try.prog 23 #[.pointer (some ⟨R, 0, none⟩)] (grow (w.drewN nq) os) (fun e w'' => e = .returned (.int .i64 (N : Nat)) ∧ ∃ p : GrownBy, w'' = grow (w.drewN p.n) p.os)) := fun nq os => rlen_g k N hq nq os
  obtain ⟨_, _, _, _, _, _, _, _, _, i0, i1, i2, i3, i4, i5⟩ := h
  have hlen := ht.len
  have hsent := ht.sent
  have hmost := ht.most
  have hle := ht.few
  obtain ⟨a, c, d, e, hR, _⟩ := k
  obtain ⟨b0, b1, b2, b3⟩ := ro_cells hR
  obtain ⟨most, L, sent⟩ := x
  obtain ⟨Bs, Es, sent2, most2⟩ := y
  simp only at hlen hsent hmost b0 b1 b2 b3 i0 i1 i2 i3 i4 i5 hM hN hle
  subst hsent hmost
  obtain ⟨nB, hnB⟩ : ∃ nB, nB = Bs.length := ⟨_, rfl⟩
  rw [← hnB] at b0 hlen
  rw [← hN] at i2
  rw [← hM] at hlen i3
  have hnM : (nB : Int) - (sent2 : Int) = (M : Int) := by omega
  have hw1 : IntKind.i64.wrap ((nB : Int) - (sent2 : Int)) = (M : Int) := by rw [IntKind.wrap_i64]; omega
  have hw2 : IntKind.i64.wrap (most2 - (N : Int)) = most2 - (N : Int) := by rw [IntKind.wrap_i64]; omega
  have g0 := fun nq os => (Gw.of w nq os).cell b0
  have g2 := fun nq os => (Gw.of w nq os).cell b2
  have g3 := fun nq os => (Gw.of w nq os).cell b3
  have hg2 := fun nq os => (Gw.of w nq os).cell b2
  clear hg hR b0 b1 b2 b3 hlen hM hN hnB hle hnM i0 i1 i2 i3 i4 i5 hq ht hg2
  go_enter Try.func11, Try.ntmps11
  go_wp2_with fail
  refine wp_region_gw mixed (by kernel_rfl) ?_
  iterate 42 (refine WQ.step (fun K hK => ?_); go_simp; first | (refine hK _ ?_; clear hK K) | (apply Exists.intro; refine ⟨fun _ => ?_, hK _ ?_⟩; (first | (go_at_call 18; with_reducible exact HL.out _ _) | (go_at_call 20; with_reducible exact HR.out _ _) | (go_at_call 19; with_reducible exact HF.out _ _) | (go_at_call 24; with_reducible exact HS.out _ _) | (go_at_call 23; with_reducible exact HQ.out _ _)); clear hK K))
  refine WQ.nil ?_
  intro _ hw'
  obtain ⟨⟨nq, osq⟩, hw''⟩ := hw'
  subst hw''
  have G2 : Hid (Gw w (grow (w.drewN nq) osq)) := Gw.of w nq osq
  clear g0 g2 g3
  generalize grow (w.drewN nq) osq = w2 at G2 ⊢
  go_wp2
  go_ret
  exact ⟨rfl, G2.out⟩
end Go.Proofs.Ytfchfhkhflghbaa
