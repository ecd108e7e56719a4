/-
  The walks of Len, Left, Sent, Room of an outbox, New; of the document's Len, New.
-/
import Derived.Test.YtfchfhkhflghbaaOBase
namespace Go.Proofs.Ytfchfhkhflghbaa
open Go Go.RowKit Go.Lib Go.Sort Go.Proofs

theorem Gw.drewN (w : World) (n : Nat) : Gw w (w.drewN n) := by
  have := Gw.of w n #[]
  rwa [grow_empty] at this
section
variable {w : World} {G : Nat} {F : Nat → Prop} {x : St}
theorem len_any (h : Ob w G F x) : Calls Try.prog 18 #[.pointer (some ⟨G, 0, none⟩)] w (GwV (.int .i64 (x.2.1.length : Nat)) w) := by
  obtain ⟨FT, a, c, hG, -⟩ := h
  obtain ⟨c0, c1, c2, c3⟩ := oo_cells hG
  clear hG
  go_enter Try.func18, Try.ntmps18
  go_wp2
  go_ret
  exact ⟨rfl, Gw.refl _⟩
theorem left_any (h : Ob w G F x) : Calls Try.prog 19 #[.pointer (some ⟨G, 0, none⟩)] w (GwV (.int .i64 (x.2.1.flatten.length : Nat)) w) := by
  obtain ⟨FT, a, c, hG, -⟩ := h
  obtain ⟨c0, c1, c2, c3⟩ := oo_cells hG
  obtain ⟨N, hN⟩ : ∃ N, N = x.2.1.flatten.length := ⟨_, rfl⟩
  rw [← hN] at c2 ⊢
  clear hG hN
  go_enter Try.func19, Try.ntmps19
  go_wp2
  go_ret
  exact ⟨rfl, Gw.refl _⟩
theorem sent_any (h : Ob w G F x) : Calls Try.prog 24 #[.pointer (some ⟨G, 0, none⟩)] w (GwV (.int .i64 (x.2.2 : Nat)) w) := by
  obtain ⟨FT, a, c, hG, -⟩ := h
  obtain ⟨c0, c1, c2, c3⟩ := oo_cells hG
  clear hG
  go_enter Try.func24, Try.ntmps24
  go_wp2
  go_ret
  exact ⟨rfl, Gw.refl _⟩
set_option maxHeartbeats 1000000 in
theorem room_any (h : Ob w G F x) : Calls Try.prog 20 #[.pointer (some ⟨G, 0, none⟩)] w (GwV (.int .i64 (x.1 - (x.2.1.length : Nat))) w) := by
  have mixed : Try.prog.follows .mixedOrders = true := by kernel_rfl
  obtain ⟨FT, a, c, hG, _, _, _, _, _, h0, h1, h2, _⟩ := h
  obtain ⟨c0, c1, c2, c3⟩ := oo_cells hG
  obtain ⟨N, hN⟩ : ∃ N, N = x.2.1.length := ⟨_, rfl⟩
  obtain ⟨M, hM⟩ : ∃ M, M = x.1 := ⟨_, rfl⟩
  rw [← hN] at c1 h2 ⊢
  rw [← hM] at c0 h0 h1 h2 ⊢
  have hw : IntKind.i64.wrap (M - (N : Int)) = M - (N : Int) := by rw [IntKind.wrap_i64]; omega
  clear hG h0 h1 h2 hN hM
  go_enter Try.func20, Try.ntmps20
  go_wp2
  go_quiet (fail)
  go_wp2
  go_ret
  exact ⟨rfl, Gw.drewN _ _⟩
end
/-- a new one -/
theorem new_any (w : World) (m : Int) (hm : m ≤ 9223372036854775807) : Calls Try.prog 8 #[.int .i64 m] w (obT.New (max m 0, [], 0) w) := by
  have h0 : 0 ≤ max m 0 := by omega
  have h1 : max m 0 ≤ 9223372036854775807 := by omega
  go_enter Try.func8, Try.ntmps8
  go_wp2
  go_ret
  refine ⟨w.heap.size, fun b => b = w.heap.size, rfl, ⟨fun _ => False, none, 0, heap_alloc_new _ _, rfl, fun e => e, fun _ e => e.elim, fun b e => by subst e; simp, .inl ⟨rfl, rfl, rfl⟩, h0, h1, h0, Nat.zero_le _, Nat.zero_le _, Nat.zero_le _⟩, fun b e => Nat.le_of_eq e.symm, (Below.refl _ _).alloc (Nat.le_refl _) _⟩
theorem rnew_any (w : World) (m : Int) (hm : m ≤ 9223372036854775807) : Calls Try.prog 9 #[.int .i64 m] w (rfT.New ([], [], 0, max m 0) w) := by
  have h0 : 0 ≤ max m 0 := by omega
  have h1 : max m 0 ≤ 9223372036854775807 := by omega
  go_enter Try.func9, Try.ntmps9
  go_wp2
  go_ret
  refine ⟨w.heap.size, fun b => b = w.heap.size, rfl, ⟨none, 0, none, 0, heap_alloc_new _ _, Cod.At.nil _, Cod.At.nil _, rfl, fun b e => by subst e; simp, (fun _ e => by cases e), (fun _ e => by cases e), fun _ => ⟨rfl, rfl⟩, fun _ => ⟨rfl, rfl⟩, Nat.le_refl _, Nat.le_refl _, Nat.zero_le _, Nat.zero_le _, Nat.zero_le _, Nat.zero_le _, Nat.le_refl _, h0, h1⟩, fun b e => Nat.le_of_eq e.symm, (Below.refl _ _).alloc (Nat.le_refl _) _⟩
/-- the document's count -/
theorem rlen_any {w : World} {R : Nat} {S : Nat → Prop} {y : Dt} (h : Rf w R S y) : Calls Try.prog 23 #[.pointer (some ⟨R, 0, none⟩)] w (GwV (.int .i64 (rlen y : Nat)) w) := by
  have mixed : Try.prog.follows .mixedOrders = true := by kernel_rfl
  obtain ⟨a, c, d, e, hR, _, hE, _, _, _, _, _, _, _, _, _, _, _, hel, _⟩ := h
  obtain ⟨B, ends, sent, most⟩ := y
  obtain ⟨c0, c1, c2, c3⟩ := ro_cells hR
  have HR := Lib.hid hR
  have HE := Lib.hid hE
  have HL : Hid (ends.length ≤ 100000) := hel
  obtain ⟨n, hn⟩ : ∃ n, n = ends.length := ⟨_, rfl⟩
  have HN := Lib.hid hn
  replace c1 : w.cell? ⟨R, 1, none⟩ = some (.slice d n e) := by rw [hn]; exact c1
  replace HE : Hid (CN.At w d n ends) := by rw [hn]; exact hE
  clear hR hE hel hn c0 c1 c2 c3
  go_enter Try.func23, Try.ntmps23
  go_wp2
  go_loopg [3, 4] n (fun kx s3 s4 wr => ∃ i q : Nat, s3 = .int .i64 q ∧ s4 = .int .i64 i ∧ i ≤ n ∧ n - i ≤ kx ∧ Aside (q = ((ends.take i).filter fun e => decide (sent < e)).length ∧ Gw w wr))
  case atStart => exact ⟨0, 0, by go_num, by go_num, Nat.zero_le _, Nat.le_refl _, by simp, Gw.refl _⟩
  case round =>
    obtain ⟨i, q, rfl, rfl, hin, hkx, A⟩ := hrel
    have HQ := Lib.hid A.out.1
    have HG := Lib.hid A.out.2
    have HR2 : Hid (wr.heap[R]? = some (RO (.slice a B.length c) (.slice d n e) sent most)) := by
      rw [HN.out]
      exact (HG.out.block (heap_lt HR.out)).trans HR.out
    obtain ⟨c0, c1, c2, c3⟩ := ro_cells HR2.out
    by_cases hlt : i < n
    · have hlz : decide (i < n) = true := by simpa using hlt
      obtain ⟨B1, o1, rfl, hB1, x, hx, hc1⟩ := (HE.out.below HG.out.below).cell hlt
      have p0 : wr.cell? ⟨B1, o1 + i, none⟩ = some (.int .i64 (x : Nat)) := by have := hc1 0 (by decide); rw [show CN.k = 1 from rfl, Nat.mul_one] at this; exact this
      have HX : Hid (ends.take (i + 1) = ends.take i ++ [x]) := by show _ = _; rw [List.take_add_one, hx]; rfl
      clear hx hc1 hB1 A
      have hbig : i < 100000 := by have := HN.out; have := HL.out; omega
      by_cases hs : sent < x
      · have hd : decide (sent < x) = true := by simpa using hs
        have hqb : q ≤ i := by rw [HQ.out]; exact Nat.le_trans (List.length_filter_le _ _) (by rw [List.length_take]; omega)
        have HQ2 : Hid (q + 1 = ((ends.take (i + 1)).filter fun e => decide (sent < e)).length) := by
          show _ = _
          rw [HX.out, List.filter_append, List.length_append, ← HQ.out, List.filter_cons_of_pos (by simpa using hs)]
          rfl
        clear hs
        go_wp2
        go_quiet (fail)
        go_wp2
        go_roundg (n - (i + 1))
        case measure => omega
        case rel => exact ⟨i + 1, q + 1, by go_num, by go_num, by omega, Nat.le_refl _, HQ2.out, HG.out.trans (Gw.drewN _ _)⟩
      · have hd : decide (sent < x) = false := by simpa using hs
        have HQ2 : Hid (q = ((ends.take (i + 1)).filter fun e => decide (sent < e)).length) := by
          show _ = _
          rw [HX.out, List.filter_append, List.length_append, ← HQ.out, List.filter_cons_of_neg (by simpa using hs)]
          rfl
        clear hs
        go_wp2
        go_quiet (fail)
        go_wp2
        go_roundg (n - (i + 1))
        case measure => omega
        case rel => exact ⟨i + 1, q, by go_num, by go_num, by omega, Nat.le_refl _, HQ2.out, HG.out.trans (Gw.drewN _ _)⟩
    · have hlz : decide (i < n) = false := by simpa using hlt
      have hq : q = rlen (B, ends, sent, most) := by
        rw [HQ.out, List.take_of_length_le (by have := HN.out; omega)]
        rfl
      have HQ3 := Lib.hid hq
      clear A hq
      go_wp2
      go_ret
      exact ⟨by rw [← HQ3.out]; rfl, HG.out⟩
end Go.Proofs.Ytfchfhkhflghbaa
