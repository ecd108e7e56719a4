/-
  The walk of a writing wire's number.
-/
import Derived.Test.YtdpfmaikijilkaaMBase
namespace Go.Proofs.Ytdpfmaikijilkaa
open Go Go.RowKit Go.Sort Go.Proofs

def N1Rel (w : World) (P g : Nat) (F : Nat → Prop) (o : List UInt8) (n : Int) (s : Nat) (vs : Value) (wr : World) : Prop :=
  ∃ k j : Nat, k + j = s ∧ vs = .int .i64 (8 * (j : Int) - 8) ∧ But F w wr ∧ wr.heap[P]? = some (.cells #[.pointer (some ⟨g, 0, none⟩)] 105 (0, 0)) ∧
    ∃ v, wr.heap[g]? = some (.cells #[v] 24 (0, 0)) ∧ CB.Own 5 0 wr v (o ++ (beR s n).take k) ∧ ∀ b, v.ownBlock = some b → (F b ∨ w.heap.size ≤ b) ∧ b ≠ g
theorem wrapB (z : Int) : IntKind.u8.wrap z = ((byteI z).toNat : Int) := by rw [byteI_val]; simp [IntKind.wrap, IntKind.signed, IntKind.bits]
theorem byte_news (w : World) (z : Int) : ∀ j u, (CB.cells [byteI z])[j]? = some u → ((w.alloc (.cells #[.int .u8 (IntKind.u8.wrap z)] 5)).drew).cell? ((⟨w.heap.size, 0, none⟩ : Addr).add j) = some u :=
  Cod.news_one (C := CB) (T := 5) _ (byteI z) _ (0, 0) (by show (w.alloc _).heap[w.heap.size]? = _; rw [heap_alloc_new, wrapB]; rfl)

set_option maxHeartbeats 2000000 in
set_option maxRecDepth 100000 in
theorem num_wr (P g : Nat) (F : Nat → Prop) (o : List UInt8) (n : Int) (s : Nat) (w : World) (h : WAt w P g F (.wr o)) (hs1 : 1 ≤ s) (hs8 : s ≤ 8) (ho : o.length ≤ 1000000) :
    Calls Try.prog 81 #[.int .u64 n, .int .i64 s, .pointer (some ⟨P, 0, none⟩)] w (NumTo P g F w ((Wi.wr o).num n s)) := by
  obtain ⟨hP, hnP, hfg, hlt, v, hg, hown, hvb⟩ := h
  have HP := Lib.hid hP
  have HN := Lib.hid (And.intro hnP (And.intro hfg hlt))
  have HG := Lib.hid hg
  have HO := Lib.hid hown
  have HV := Lib.hid hvb
  have HL := Lib.hid ho
  clear hP hnP hfg hlt hg hown hvb ho
  go_enter Try.func81, Try.ntmps81
  go_wp2
  go_loopw [6] (fun vs wr => N1Rel w P g F o n s vs wr) (fun v _ => (intOf v + 8).toNat)
  case atStart => exact ⟨0, s, by omega, by congr 1; omega, But.refl _ _, HP.out, v, HG.out, by simpa using HO.out, fun b e => ⟨.inl (HV.out b e).1, (HV.out b e).2⟩⟩
  case round =>
    obtain ⟨k, j, hkj, rfl, hbut, hP, v, hg, hown, hvb⟩ := hrel
    rcases j with _ | m
    · go_wp2
      go_ret
      obtain rfl : k = s := by omega
      refine ⟨hbut, rfl, fun b => b = g ∨ v.ownBlock = some b, fun b e => ?_, ⟨hP, ?_, .inl rfl, ?_, v, hg, ?_, fun b e => ⟨.inr e, (hvb b e).2⟩⟩⟩
      · rcases e with rfl | e
        · exact .inl HN.out.2.1
        · exact (hvb b e).1
      · have hpl : P < w.heap.size := (Array.getElem?_eq_some_iff.1 HP.out).1
        rintro (e | e)
        · exact HN.out.1 (e ▸ HN.out.2.1)
        · rcases (hvb _ e).1 with e2 | e2
          · exact HN.out.1 e2
          · omega
      · rintro b (rfl | e)
        · exact (Array.getElem?_eq_some_iff.1 hg).1
        · exact (hown.lt b e).2
      · rw [List.take_of_length_le (by rw [beR_len]; exact Nat.le_refl _)] at hown
        exact hown
    · have c1 : wr.cell? ⟨P, 0, none⟩ = some (.pointer (some ⟨g, 0, none⟩)) := by rw [cell_of_row _ _ _ _ _ _ hP]; rfl
      have c2 : wr.cell? ⟨g, 0, none⟩ = some v := by rw [cell_of_row _ _ _ _ _ _ hg]; rfl
      obtain ⟨a0, n0, p0, rfl⟩ := hown.shape
      obtain ⟨hz, -⟩ := Cod.Own.size hown
      obtain ⟨L, hLe⟩ : ∃ L, L = o ++ (beR s n).take k := ⟨_, rfl⟩
      obtain ⟨sh, hsh⟩ : ∃ sh, sh = 8 * ((m + 1 : Nat) : Int) - 8 := ⟨_, rfl⟩
      have hle : L.length ≤ 1000010 := by rw [hLe]; simp [beR_len]; have := HL.out; omega
      rw [← hLe] at hown hz
      have hge : 0 ≤ sh := by omega
      have hge8 : sh ≤ 56 := by omega
      have hn0' : n0 ≤ 1000010 := by omega
      rw [← hsh]
      have HBUT := Lib.hid hbut
      have HPr := Lib.hid hP
      have HGr := Lib.hid hg
      have HOr := Lib.hid hown
      have HVr := Lib.hid hvb
      have HLE := Lib.hid (And.intro hz (And.intro hLe hsh))
      have hgw := (Array.getElem?_eq_some_iff.1 hg).1
      clear hbut hP hg hown hvb hle hLe hsh hz
      have hPw : P < wr.heap.size := Nat.lt_of_lt_of_le (Array.getElem?_eq_some_iff.1 HP.out).1 HBUT.out.size
      have HPO : Hid (¬ (F P ∨ w.heap.size ≤ P)) := by
        have hpl : P < w.heap.size := (Array.getElem?_eq_some_iff.1 HP.out).1
        rintro (e | e)
        · exact HN.out.1 e
        · omega
      go_wp2
      go_region_law (first
        | (refine rowB.step rfl _ _ rfl 0 (.slice a0 n0 p0) L rfl (HOr.out.but (((But.refl (fun _ => False) wr).alloc _).drew) (fun _ _ e => e)) ⟨wr.heap.size, 0, none⟩ 1 1 [byteI (n / 2 ^ sh.toNat)] rfl rfl (byte_news wr _) (by have := HLE.out.1; omega) (by have := HLE.out.1; omega) (Nat.zero_le _) ?_; intro v5 w5 hown5 hgrow5 hnew5; obtain ⟨a5, n5, q5, rfl⟩ := hown5.shape; have g5 := (hgrow5.block g (by simp; omega) (fun e => (HVr.out g e.symm).2 rfl)).trans ((heap_alloc_old _ _ hgw).trans HGr.out); have c5 : w5.cell? ⟨g, 0, none⟩ = some (.slice a0 n0 p0) := (by rw [cell_of_row _ _ _ _ _ _ g5]; rfl); have f5 : w5.frozen? ⟨g, 0, none⟩ = false := frozen_of_row _ _ _ _ _ g5; have q5 := (hgrow5.block P (by simp; omega) (fun e => HPO.out (HVr.out P e.symm).1)).trans ((heap_alloc_old _ _ hPw).trans HPr.out); have d5 : w5.cell? ⟨P, 0, none⟩ = some (.pointer (some ⟨g, 0, none⟩)) := (by rw [cell_of_row _ _ _ _ _ _ q5]; rfl); have H5 := Lib.hid (And.intro g5 q5); clear g5 q5; have HO5 := Lib.hid hown5; have HG5 := Lib.hid hgrow5; have HN5 := Lib.hid hnew5; clear hown5 hgrow5 hnew5))
      all_goals
        go_wp2
        go_roundw
        case rel =>
          (try ((repeat apply Exists.intro); refine And.intro ?_ rfl))
          have hb5 := HG5.out
          have hb : But F w (w5.setCell ⟨g, 0, none⟩ (.slice a5 n5 q5)) := (HBUT.out.next ((((But.refl (fun k => F k ∨ w.heap.size ≤ k) wr).alloc _).drew).trans ((But.grown hb5).mono fun b _ e => (HVr.out b e.symm).1)) fun b hb e => e.resolve_right (by omega)).setCell HN.out.2.1 _
          have hbg : But (fun b => b = g) w5 (w5.setCell ⟨g, 0, none⟩ (.slice a5 n5 q5)) := (But.refl (fun b => b = g) _).setCell (p := ⟨g, 0, none⟩) rfl _
          have hbl : ∀ b, (Value.slice a5 n5 q5).ownBlock = some b → (F b ∨ w.heap.size ≤ b) ∧ b ≠ g := fun b e => by
            rcases HN5.out.1 b e with e2 | e2
            · exact HVr.out b e2
            · have := HBUT.out.size
              have e3 : wr.heap.size ≤ b := by have e4 : ((wr.alloc _).drew).heap.size ≤ b := e2; simp at e4; omega
              exact ⟨.inr (by omega), by omega⟩
          refine ⟨k + 1, m, by omega, ?_, hb, ?_, _, heap_setCell_same _ _ _ _ _ _ H5.out.1, ?_, hbl⟩
          · have := HLE.out.2.2
            rw [this, show (8 * ((m + 1 : Nat) : Int) - 8 - 8) = 8 * (m : Int) - 8 by omega]
          · rw [hbg.block P (Array.getElem?_eq_some_iff.1 H5.out.2).1 (fun e => HPO.out (.inl (by rw [e]; exact HN.out.2.1)))]
            exact H5.out.2
          · have e1 := HLE.out.2.1
            have e2 := HLE.out.2.2
            have e3 : n / 2 ^ sh.toNat = n / 256 ^ (s - 1 - k) := by
              rw [show s - 1 - k = m by omega, show sh.toNat = 8 * m by omega, Int.pow_mul]
              rfl
            rw [beR_step s n k (by omega), ← List.append_assoc, ← e1, ← e3]
            exact HO5.out.but hbg fun b e => (hbl b e).2
        case measure => simp [intOf]; have := HLE.out.2.2; omega
end Go.Proofs.Ytdpfmaikijilkaa
