/-
  The walk of do: what is taken, by both; any act.
-/
import Derived.Test.YtfchfhkhflghbaaODo
namespace Go.Proofs.Ytfchfhkhflghbaa
open Go Go.RowKit Go.Lib Go.Sort Go.Proofs

section
variable {T Z : Nat → Prop} {w W : World} {G R : Nat} {x : St} {y : Dt} {K : Nat}
set_option maxHeartbeats 4000000 in
set_option maxRecDepth 100000 in
theorem do2 (h : Dd T Z w W G R x y []) (ht : Tie K x y) (hK : K ≤ 100000) (s : Sl) (n : Int) (kk : Nat) (hk : min n (x.2.1.flatten.length : Nat) = (kk : Nat)) (hk0 : 0 < kk) :
    Calls Try.prog 10 #[.pointer (some ⟨G, 0, none⟩), .pointer (some ⟨R, 0, none⟩), ActV 2 s n] W (OneTo K T Z w G R) := by
  have mixed : Try.prog.follows .mixedOrders = true := by kernel_rfl
  have hf := ht.few
  have hlen := ht.len
  have hle := ht.le
  have hsn := ht.sent
  have hkl : kk ≤ x.2.1.flatten.length := by omega
  have ht2 := (ht.take kk hkl).mono (Nat.le_add_right K 300)
  obtain ⟨t, htt⟩ : ∃ t, t = x.2.1.flatten.take kk := ⟨_, rfl⟩
  have htl : t.length = kk := by rw [htt, List.length_take]; omega
  have hp : ∀ F W, Ob W G F x → Calls Try.prog 17 #[.pointer (some ⟨G, 0, none⟩), .int .i64 n] W (TakeTo kk t G F (x.1, cutT kk x.2.1, x.2.2 + kk) W) := fun F W hF => by
    rw [htt]
    exact take_any hF ht.ne n kk hk hk0 (by omega)
  have hr : ∀ S W, Rf W R S y → Calls Try.prog 22 #[.pointer (some ⟨R, 0, none⟩), .int .i64 n] W (RTakeTo t R S (y.1, y.2.1, y.2.2.1 + kk, y.2.2.2) W) := fun S W hS => by
    have := rtake_any hS n kk (by omega)
    rw [hsn, ht.flat, ← htt, ← hsn] at this
    exact this
  have HP := Lib.hid hp
  have HRP := Lib.hid hr
  have HT := Lib.hid ht2
  have hz := h.keep.size
  have h1 := h.box (ActO 2 s n)
  obtain ⟨a0, a1, a2⟩ := act_here (h1.get (List.mem_cons_self ..))
  have H1 := Lib.hid h1
  have HTL := Lib.hid (And.intro htl (And.intro (show t.length ≤ 1000000 by omega) (And.intro hz (show kk ≤ 100000 by omega))))
  have hsb : ((strB t).toList == (strB t).toList) = true := by rw [strB_beq]; exact decide_eq_true rfl
  clear h h1 hp hr ht2 ht hf hlen hle hsn hkl htt htl hk hz
  go_enter Try.func10, Try.ntmps10
  go_wp2_with (go_at_call 17; refine (H1.out.take fun F hF => HP.out F _ hF).mono ?_; rintro e w3 ⟨TB, rfl, hT1, hT2, h3⟩; have H3 := Lib.hid h3; have HTB := Lib.hid (And.intro hT1 hT2); have HA3 := Lib.hid (bo_at (h3.get (List.mem_cons_self ..)) HTL.out.2.1); obtain ⟨b0, b1, b2⟩ := act_here (h3.get (List.mem_cons_of_mem _ (List.mem_cons_self ..))); clear h3 hT1 hT2; refine Hid.out ?_)
  have hba := (HA3.out.below (Below.refl _ w3).drew)
  have hc1 := hba.str kk
  have b2' : w3.drew.cell? ⟨W.heap.size, 2, none⟩ = some (.int .i64 n) := b2
  rw [HTL.out.1] at hc1
  have H3D : Hid (Dd T Z w w3.drew G R (x.1, cutT kk x.2.1, x.2.2 + kk) y [(TB, BO t), (W.heap.size, ActO 2 s n)]) := H3.out.below (Below.refl _ w3).drew
  clear hba
  refine Lib.hid ?_
  go_wp2_with fail
  go_region_law (go_simp; go_at_call 22; refine (H3D.out.rtake fun S hS => HRP.out S _ hS).mono ?_; rintro e w4 ⟨a4, c4, rfl, hA4, h4⟩; have H4 := Lib.hid h4; have hc4 := hA4.str c4; have hc5 := (bo_at (h4.get (List.mem_cons_self ..)) HTL.out.2.1).str kk; rw [HTL.out.1] at hc4 hc5; rw [HTL.out.1]; clear hA4 h4; dsimp only)
  all_goals
    clear b0 b1 b2 b2' a0 a1 a2 hc1 hc4 hc5
    obtain ⟨w5, hw5⟩ : ∃ w5, w5 = w4 := ⟨_, rfl⟩
    obtain ⟨cur0, hc0⟩ : ∃ cu, cu = (CB.cells t).toArray := ⟨_, rfl⟩
    have HST : Hid (Bytes cur0 kk ∧ Dd T Z w w5 G R (x.1, cutT kk x.2.1, x.2.2 + kk) (y.1, y.2.1, y.2.2.1 + kk, y.2.2.2) [(TB, .cells cur0 5), (W.heap.size, ActO 2 s n)]) := by
      rw [hc0, hw5]
      have := bytes_cells t
      rw [HTL.out.1] at this
      exact ⟨this, H4.out⟩
    have HTT : Hid (W.heap.size + 1 ≤ TB) := by have := HTB.out.1; show W.heap.size + 1 ≤ TB; simpa using this
    rw [← hw5]
    clear hw5 hc0 H4 H3 H3D HA3
    go_wp2
    go_loopg [12] kk (fun kx s12 wr => ∃ i : Nat, s12 = .int .i64 i ∧ i ≤ kk ∧ kk - i ≤ kx ∧ Aside (∃ cur, Bytes cur kk ∧ Dd T Z w wr G R (x.1, cutT kk x.2.1, x.2.2 + kk) (y.1, y.2.1, y.2.2.1 + kk, y.2.2.2) [(TB, .cells cur 5), (W.heap.size, ActO 2 s n)]))
    case atStart => exact ⟨0, by go_num, Nat.zero_le _, Nat.le_refl _, cur0, HST.out.1, HST.out.2⟩
    case round =>
      obtain ⟨i, rfl, hin, hkx, A⟩ := hrel
      clear HST
      obtain ⟨cu, hby, hD⟩ := A.out
      clear A
      by_cases hlt : i < kk
      · have hlz : decide (i < kk) = true := by simpa using hlt
        have hgr := hD.get (List.mem_cons_self ..)
        obtain ⟨u, hu⟩ := hby.2 i hlt
        have q0 : wr.cell? ⟨TB, i, none⟩ = some (.int .u8 u) := by rw [cell_of_row _ _ _ _ _ _ hgr]; exact hu
        have f0 : wr.frozen? ⟨TB, i, none⟩ = false := frozen_of_row _ _ _ _ _ hgr
        have hib : i < 100000 := by have := HTL.out.2.2.2; omega
        have HD := Lib.hid (And.intro hby hD)
        clear hgr hu hby hD
        go_wp2
        go_roundg (kk - (i + 1))
        case measure => omega
        case rel =>
          refine ⟨i + 1, by go_num, by omega, Nat.le_refl _, _, HD.out.1.set i _, HD.out.2.turn HTB.out.2 (fun p hp => ?_) ((But.refl (fun b => b = TB) wr).setCell (p := ⟨TB, i, none⟩) rfl _) (heap_setCell_same wr TB i _ _ _ (HD.out.2.get (List.mem_cons_self ..)))⟩
          rw [List.mem_singleton.1 hp]
          have := HTT.out
          show W.heap.size ≠ TB
          omega
      · have hlz : decide (i < kk) = false := by simpa using hlt
        have HD := Lib.hid hD
        clear hD hby
        go_wp2
        go_ret
        exact ⟨rfl, _, _, HT.out, HD.out.less⟩
set_option maxHeartbeats 4000000 in
set_option maxRecDepth 100000 in
/-- nothing is taken -/
theorem do2e (h : Dd T Z w W G R x y []) (ht : Tie K x y) (s : Sl) (n : Int) (hk : min n (x.2.1.flatten.length : Nat) ≤ 0) :
    Calls Try.prog 10 #[.pointer (some ⟨G, 0, none⟩), .pointer (some ⟨R, 0, none⟩), ActV 2 s n] W (OneTo K T Z w G R) := by
  have mixed : Try.prog.follows .mixedOrders = true := by kernel_rfl
  have hlen := ht.len
  have hsn := ht.sent
  have hp : ∀ F W, Ob W G F x → Calls Try.prog 17 #[.pointer (some ⟨G, 0, none⟩), .int .i64 n] W (Tells (.slice none 0 0) W) := fun F W hF => take_none hF n hk
  have hr : ∀ S W, Rf W R S y → Calls Try.prog 22 #[.pointer (some ⟨R, 0, none⟩), .int .i64 n] W (RTakeTo [] R S y W) := fun S W hS => rtake_any hS n 0 (by omega)
  have HP := Lib.hid hp
  have HRP := Lib.hid hr
  have HT := Lib.hid (ht.mono (Nat.le_add_right K 300))
  have h1 := h.box (ActO 2 s n)
  obtain ⟨a0, a1, a2⟩ := act_here (h1.get (List.mem_cons_self ..))
  have H1 := Lib.hid h1
  have hsb : ((strB []).toList == (strB []).toList) = true := by rw [strB_beq]; exact decide_eq_true rfl
  have hc1 : ∀ W : World, (convert 30 9 (.slice none 0 0)).run Try.prog W = .ok (.string (strB [])) W := fun W => (Cod.At.nil W).str 0
  clear h h1 hp hr ht hlen hsn hk
  go_enter Try.func10, Try.ntmps10
  go_wp2_with (go_at_call 17; refine (H1.out.l0 fun F hF => HP.out F _ hF).mono ?_; rintro e w3 ⟨rfl, h3⟩; have H3 := Lib.hid h3; obtain ⟨b0, b1, b2⟩ := act_here (h3.get (List.mem_cons_self ..)); have b3 : w3.drew.cell? ⟨W.heap.size, 2, none⟩ = some (.int .i64 n) := b2; have H3D := Lib.hid (h3.below (Below.refl _ w3).drew); clear h3)
  go_region_law (go_simp; go_at_call 22; refine (H3D.out.rtake fun S hS => HRP.out S _ hS).mono ?_; rintro e w4 ⟨a4, c4, rfl, hA4, h4⟩; have H4 := Lib.hid h4; have hc4 : (convert 30 9 (.slice a4 0 c4)).run Try.prog w4 = .ok (.string (strB [])) w4 := hA4.str c4; clear hA4 h4; dsimp only [List.length_nil])
  all_goals
    go_wp2
    refine wp_loop_rounds 1 ?_
    rw [rounds_succ]
    go_wp2
    go_ret
    exact ⟨rfl, x, y, HT.out, H4.out.less⟩
theorem do0 (h : Dd T Z w W G R x y []) (ht : Tie K x y) (k : Int) (hk : ¬ (k = 1 ∨ k = 2)) (s : Sl) (n : Int) : Calls Try.prog 10 #[.pointer (some ⟨G, 0, none⟩), .pointer (some ⟨R, 0, none⟩), ActV k s n] W (OneTo K T Z w G R) := by
  have k1 : (k == 1) = false := by simp; omega
  have k2 : (k == 2) = false := by simp; omega
  have h1 := h.box (ActO k s n)
  obtain ⟨a0, a1, a2⟩ := act_here (h1.get (List.mem_cons_self ..))
  have H1 := Lib.hid h1
  have HT := Lib.hid (ht.mono (Nat.le_add_right K 300))
  clear h h1 hk ht
  go_enter Try.func10, Try.ntmps10
  go_wp2
  go_ret
  exact ⟨rfl, x, y, HT.out, H1.out.less⟩
/-- any act -/
theorem do_any (h : Dd T Z w W G R x y []) (ht : Tie K x y) (hK : K + 300 ≤ 100000) (k : Int) (a : Option Addr) (bn cc : Nat) (b : By) (hn : bn = b.length) (hb : CB.At w a b.length b) (hb0 : a = none → cc = 0 ∧ b = []) (hT : b ≠ [] → ∀ p, a = some p → ¬ T p.block) (hl : b.length ≤ 300) (n : Int) :
    Calls Try.prog 10 #[.pointer (some ⟨G, 0, none⟩), .pointer (some ⟨R, 0, none⟩), ActV k (a, bn, cc) n] W (OneTo K T Z w G R) := by
  subst hn
  by_cases h1 : k = 1
  · subst h1
    by_cases h0 : b = []
    · subst h0
      exact do1e h ht a cc ⟨rfl, Nat.zero_le _, .inl rfl⟩ (fun e => (hb0 e).1) n
    · cases a with
      | none => exact absurd (hb0 rfl).2 h0
      | some p => exact do1 h ht hK p cc b (fun W' hW => hb.but hW (hT h0)) h0 hl n
  · by_cases h2 : k = 2
    · subst h2
      by_cases hk : min n (x.2.1.flatten.length : Nat) ≤ 0
      · exact do2e h ht _ n hk
      · exact do2 h ht (by omega) _ n (min n (x.2.1.flatten.length : Nat)).toNat (by omega) (by omega)
    · exact do0 h ht k (by omega) _ n
end
end Go.Proofs.Ytfchfhkhflghbaa
