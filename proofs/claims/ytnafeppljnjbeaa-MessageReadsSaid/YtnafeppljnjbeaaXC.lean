/-
  What the document reads of bytes, as a request, is what decode reads; no program.
-/
import Derived.Test.YtnafeppljnjbeaaXA
namespace Go.Proofs.Ytnafeppljnjbeaa
open Go Go.RowKit

theorem back_word {l : List UInt8} {u : Int} {p : Int × Wi} (h : wordW (.rd l) u = some p) : ∃ v l', p = (v, .rd l') ∧ l = beR 4 v ++ l' ∧ U32 v := by
  rw [wordW_rd] at h
  split at h
  · rename_i hl
    cases h
    have hlen : (l.take 4).length = 4 := by rw [List.length_take]; omega
    refine ⟨_, l.drop 4, rfl, ?_, ?_⟩
    · have e := be_num (l.take 4)
      rw [hlen] at e
      rw [e, List.take_append_drop]
    · have h2 := numOf_bd (l.take 4)
      rw [hlen, show (256 : Int) ^ 4 = 4294967296 by decide] at h2
      unfold U32
      omega
  · cases h
theorem beR_wrap (n : Int) (h0 : 0 ≤ n) (h1 : n < 18446744073709551616) : beR 8 (wrap64 n) = beR 8 n := by
  rw [← beR_mod 8 (wrap64 n) 18446744073709551616 ⟨1, by decide⟩, wrap64_mod' n h0 h1]
theorem back_whole {l : List UInt8} {u : Int} {p : Int × Wi} (h : wholeW (.rd l) u = some p) : ∃ v l', p = (v, .rd l') ∧ l = beR 8 v ++ l' ∧ I64 v := by
  rw [wholeW_rd] at h
  split at h
  · rename_i hl
    cases h
    have hlen : (l.take 8).length = 8 := by rw [List.length_take]; omega
    refine ⟨_, l.drop 8, rfl, ?_, wrap64_I _⟩
    have e := be_num (l.take 8)
    have h2 := numOf_bd (l.take 8)
    rw [hlen] at e h2
    rw [show (256 : Int) ^ 8 = 18446744073709551616 by decide] at h2
    rw [beR_wrap _ h2.1 h2.2, e, List.take_append_drop]
  · cases h
theorem back_oct {l : List UInt8} {u m : Int} {p : Int × Wi} (h : octW (.rd l) u m = some p) : ∃ v l', p = (v, .rd l') ∧ l = [byteI v] ++ l' ∧ 0 ≤ v ∧ v ≤ m ∧ v ≤ 255 := by
  rw [octW_rd] at h
  cases l with
  | nil => cases h
  | cons x t =>
    dsimp only at h
    split at h
    · rename_i hm
      cases h
      have hx := x.toNat_lt
      exact ⟨_, t, rfl, by rw [byteI_u8]; rfl, by omega, hm, by omega⟩
    · cases h
theorem back_any {l : List UInt8} {p : Int × Wi} (h : anyW (.rd l) 0 = some p) : ∃ v l', p = (v, .rd l') ∧ l = [byteI v] ++ l' ∧ -1 ≤ v ∧ v ≤ 254 := by
  rw [anyW_rd] at h
  cases l with
  | nil => cases h
  | cons x t =>
    dsimp only at h
    cases h
    have hx := x.toNat_lt
    by_cases e : x = 255
    · subst e
      exact ⟨-1, t, rfl, rfl, by decide, by decide⟩
    · have hn : x.toNat ≠ 255 := fun h => e (u8_ext (by rw [h]; rfl))
      refine ⟨x.toNat, t, by rw [if_neg e], by rw [byteI_u8]; rfl, by omega, by omega⟩
theorem back_content {l : List UInt8} {x y z : Int} {p : (Int × Int × Int) × Wi} (h : contentV (.rd l) x y z = some p) : ∃ a b c l', p = ((a, b, c), .rd l') ∧ l = [byteI a] ++ ([byteI b] ++ (beR 8 c ++ l')) ∧ (0 ≤ a ∧ a ≤ 255) ∧ (0 ≤ b ∧ b ≤ 255) ∧ I64 c := by
  unfold contentV at h
  simp only [Option.bind_eq_some_iff, Option.map_eq_some_iff] at h
  obtain ⟨p1, h1, p2, h2, p3, h3, rfl⟩ := h
  obtain ⟨a, l1, rfl, rfl, a1, -, a2⟩ := back_oct h1
  obtain ⟨b, l2, rfl, rfl, b1, -, b2⟩ := back_oct h2
  obtain ⟨c, l3, rfl, rfl, c1⟩ := back_whole h3
  exact ⟨a, b, c, l3, rfl, rfl, ⟨a1, a2⟩, ⟨b1, b2⟩, c1⟩
theorem back_key {l : List UInt8} {x y z : Int} {p : (Int × Int × Int) × Wi} (h : keyV (.rd l) x y z = some p) : ∃ a b c l', p = ((a, b, c), .rd l') ∧ l = beR 8 a ++ ([byteI b] ++ (beR 8 c ++ l')) ∧ I64 a ∧ (0 ≤ b ∧ b ≤ 255) ∧ I64 c := by
  unfold keyV at h
  simp only [Option.bind_eq_some_iff, Option.map_eq_some_iff] at h
  obtain ⟨p1, h1, p2, h2, p3, h3, rfl⟩ := h
  obtain ⟨a, l1, rfl, rfl, a1⟩ := back_whole h1
  obtain ⟨b, l2, rfl, rfl, b1, -, b2⟩ := back_oct h2
  obtain ⟨c, l3, rfl, rfl, c1⟩ := back_whole h3
  exact ⟨a, b, c, l3, rfl, rfl, a1, ⟨b1, b2⟩, c1⟩
section
variable {z : Rq} {l : List UInt8} {r : Rq × Wi}
theorem back_ID (h : fID z (.rd l) = some r) : ∃ v l', r = ({ z with id := v }, .rd l') ∧ l = beR 4 v ++ l' ∧ U32 v := by
  simp only [fID, Option.map_eq_some_iff] at h
  obtain ⟨p, h1, rfl⟩ := h
  obtain ⟨v, l', rfl, e, hv⟩ := back_word h1
  exact ⟨v, l', rfl, e, hv⟩
theorem back_Num (h : fNum z (.rd l) = some r) : ∃ v l', r = ({ z with num := v }, .rd l') ∧ l = beR 4 v ++ l' ∧ U32 v := by
  simp only [fNum, Option.map_eq_some_iff] at h
  obtain ⟨p, h1, rfl⟩ := h
  obtain ⟨v, l', rfl, e, hv⟩ := back_word h1
  exact ⟨v, l', rfl, e, hv⟩
theorem back_Ver (h : fVer z (.rd l) = some r) : ∃ v l', r = ({ z with ver := v }, .rd l') ∧ l = [byteI v] ++ l' ∧ 0 ≤ v ∧ v ≤ 255 := by
  simp only [fVer, Option.map_eq_some_iff] at h
  obtain ⟨p, h1, rfl⟩ := h
  obtain ⟨v, l', rfl, e, h0, -, hv⟩ := back_oct h1
  exact ⟨v, l', rfl, e, h0, hv⟩
theorem back_Proc (h : fProc z (.rd l) = some r) : ∃ v l', r = ({ z with pr := v }, .rd l') ∧ l = [byteI v] ++ l' ∧ 0 ≤ v ∧ v ≤ 255 := by
  simp only [fProc, Option.map_eq_some_iff] at h
  obtain ⟨p, h1, rfl⟩ := h
  obtain ⟨v, l', rfl, e, h0, -, hv⟩ := back_oct h1
  exact ⟨v, l', rfl, e, h0, hv⟩
theorem back_Model (h : fModel z (.rd l) = some r) : r = ({ z with model := l }, .rd []) ∧ 1 ≤ l.length ∧ l.length ≤ 4091 := by
  simp only [fModel, Wi.rest, Option.map_eq_some_iff] at h
  obtain ⟨p, h1, rfl⟩ := h
  split at h1
  · rename_i hl
    cases h1
    exact ⟨rfl, hl⟩
  · cases h1
theorem back_Event (h : fEvent z (.rd l) = some r) : ∃ t a b c l', r = ({ z with time := t, pt := a, ek := b, dat := c }, .rd l') ∧ l = beR 8 t ++ ([byteI a] ++ ([byteI b] ++ (beR 8 c ++ l'))) ∧ I64 t ∧ (0 ≤ a ∧ a ≤ 255) ∧ (0 ≤ b ∧ b ≤ 255) ∧ I64 c := by
  simp only [fEvent, Option.bind_eq_some_iff, Option.map_eq_some_iff] at h
  obtain ⟨p1, h1, p2, h2, rfl⟩ := h
  obtain ⟨t, l1, rfl, rfl, ht⟩ := back_whole h1
  obtain ⟨a, b, c, l', rfl, rfl, ha, hb, hc⟩ := back_content h2
  exact ⟨t, a, b, c, l', rfl, rfl, ht, ha, hb, hc⟩
theorem back_Break (hz : z.bk = 0) (h : fBreak z (.rd l) = some r) : ∃ a b c l', r = ({ z with bp := a, bk := b, bt := c }, .rd l') ∧ l = [byteI a] ++ ([byteI b] ++ (beR 8 c ++ l')) ∧ (0 ≤ a ∧ a ≤ 255) ∧ (-1 ≤ b ∧ b ≤ 254) ∧ I64 c := by
  simp only [fBreak, Option.bind_eq_some_iff, Option.map_eq_some_iff] at h
  obtain ⟨p1, h1, p2, h2, p3, h3, rfl⟩ := h
  obtain ⟨a, l1, rfl, rfl, a0, -, a1⟩ := back_oct h1
  rw [hz] at h2
  obtain ⟨b, l2, rfl, rfl, hb⟩ := back_any h2
  obtain ⟨c, l3, rfl, rfl, hc⟩ := back_whole h3
  exact ⟨a, b, c, l3, rfl, rfl, ⟨a0, a1⟩, hb, hc⟩
theorem back_Rate (h : fRate z (.rd l) = some r) : ∃ a b l', r = ({ z with nm := a, dn := b }, .rd l') ∧ l = beR 8 a ++ (beR 8 b ++ l') ∧ I64 a ∧ I64 b := by
  simp only [fRate, Option.bind_eq_some_iff, Option.map_eq_some_iff] at h
  obtain ⟨p1, h1, p2, h2, rfl⟩ := h
  obtain ⟨a, l1, rfl, rfl, ha⟩ := back_whole h1
  obtain ⟨b, l2, rfl, rfl, hb⟩ := back_whole h2
  exact ⟨a, b, l2, rfl, rfl, ha, hb⟩
end
theorem i64_small {v : Int} (h : 0 ≤ v ∧ v ≤ 255) : I64 v := by unfold I64; omega
theorem i64_low {v : Int} (h : -1 ≤ v ∧ v ≤ 254) : I64 v := by unfold I64; omega
theorem i64_zero : I64 0 := by unfold I64; omega
theorem u32_zero : U32 0 := by unfold U32; omega
theorem in8_of {v : Int} (h : 0 ≤ v ∧ v ≤ 255) : in8 v = true := (in8_iff v).2 h
theorem may_of {q : Rq} (hk : 1 ≤ q.kind ∧ q.kind ≤ 12) (ho : oks (tabM q.kind) q = true) (hb : backQ q = q) : mayQ q = true := by
  unfold mayQ
  rw [hb, sameQ_self, ho, decide_eq_true hk]
  rfl
theorem pass_back_1 (l : List UInt8) (q : Rq) (h : passQ ((tabM 1).map (·.f)) (zeroQ 1) (.rd l) = some (q, .rd [])) : Wf q ∧ q.kind = 1 ∧ mayQ q = true ∧ askQ q = l := by
  rw [show tabM 1 = [mID, mVer] from rfl] at h
  simp only [List.map_cons, List.map_nil, passQ, Option.bind_eq_some_iff, Option.some.injEq] at h
  obtain ⟨p1, h1, p2, h2, e⟩ := h
  obtain ⟨i, l1, rfl, rfl, hi⟩ := back_ID (z := zeroQ 1) h1
  obtain ⟨v, l2, rfl, rfl, hv⟩ := back_Ver h2
  injection e with e1 e2
  injection e2 with e2
  subst e1
  subst e2
  refine ⟨⟨(by show I64 1; unfold I64; decide), hi, i64_small hv, i64_zero, i64_zero, i64_zero, i64_zero, i64_zero, i64_zero, u32_zero, i64_zero, i64_zero, i64_zero, i64_zero, i64_zero, i64_zero⟩, rfl, may_of ⟨(by show (1 : Int) ≤ 1; decide), (by show (1 : Int) ≤ 12; decide)⟩ ?_ rfl, ?_⟩
  · show oks [mID, mVer] _ = true
    simp only [oks, List.all_cons, List.all_nil, Bool.and_eq_true]
    exact ⟨rfl, in8_of hv, trivial⟩
  · show outs [mID, mVer] _ = _
    simp [outs, mID, mVer]
theorem pass_back_2 (l : List UInt8) (q : Rq) (h : passQ ((tabM 2).map (·.f)) (zeroQ 2) (.rd l) = some (q, .rd [])) : Wf q ∧ q.kind = 2 ∧ mayQ q = true ∧ askQ q = l := by
  rw [show tabM 2 = [mID, mModel] from rfl] at h
  simp only [List.map_cons, List.map_nil, passQ, Option.bind_eq_some_iff, Option.some.injEq] at h
  obtain ⟨p1, h1, p2, h2, e⟩ := h
  obtain ⟨i, l1, rfl, rfl, hi⟩ := back_ID (z := zeroQ 2) h1
  obtain ⟨rfl, g0, g1⟩ := back_Model h2
  injection e with e1 e2
  subst e1
  refine ⟨⟨(by show I64 2; unfold I64; decide), hi, i64_zero, i64_zero, i64_zero, i64_zero, i64_zero, i64_zero, i64_zero, u32_zero, i64_zero, i64_zero, i64_zero, i64_zero, i64_zero, i64_zero⟩, rfl, may_of ⟨(by show (1 : Int) ≤ 2; decide), (by show (2 : Int) ≤ 12; decide)⟩ ?_ rfl, ?_⟩
  · show oks [mID, mModel] _ = true
    simp only [oks, List.all_cons, List.all_nil, Bool.and_eq_true]
    exact ⟨rfl, decide_eq_true ⟨g0, g1⟩, trivial⟩
  · show outs [mID, mModel] _ = _
    simp [outs, mID, mModel]
theorem pass_back_3 (l : List UInt8) (q : Rq) (h : passQ ((tabM 3).map (·.f)) (zeroQ 3) (.rd l) = some (q, .rd [])) : Wf q ∧ q.kind = 3 ∧ mayQ q = true ∧ askQ q = l := by
  rw [show tabM 3 = [mID, mEvent] from rfl] at h
  simp only [List.map_cons, List.map_nil, passQ, Option.bind_eq_some_iff, Option.some.injEq] at h
  obtain ⟨p1, h1, p2, h2, e⟩ := h
  obtain ⟨i, l1, rfl, rfl, hi⟩ := back_ID (z := zeroQ 3) h1
  obtain ⟨t, a, b, c, l2, rfl, rfl, ht, ha, hb, hc⟩ := back_Event h2
  injection e with e1 e2
  injection e2 with e2
  subst e1
  subst e2
  refine ⟨⟨(by show I64 3; unfold I64; decide), hi, i64_zero, ht, i64_zero, i64_zero, i64_small ha, i64_small hb, hc, u32_zero, i64_zero, i64_zero, i64_zero, i64_zero, i64_zero, i64_zero⟩, rfl, may_of ⟨(by show (1 : Int) ≤ 3; decide), (by show (3 : Int) ≤ 12; decide)⟩ ?_ rfl, ?_⟩
  · show oks [mID, mEvent] _ = true
    simp only [oks, List.all_cons, List.all_nil, Bool.and_eq_true]
    exact ⟨rfl, by show (in8 a && in8 b) = true; rw [in8_of ha, in8_of hb]; rfl, trivial⟩
  · show outs [mID, mEvent] _ = _
    simp [outs, mID, mEvent]
theorem pass_back_4 (l : List UInt8) (q : Rq) (h : passQ ((tabM 4).map (·.f)) (zeroQ 4) (.rd l) = some (q, .rd [])) : Wf q ∧ q.kind = 4 ∧ mayQ q = true ∧ askQ q = l := by
  rw [show tabM 4 = [mID, mNum, mBreak] from rfl] at h
  simp only [List.map_cons, List.map_nil, passQ, Option.bind_eq_some_iff, Option.some.injEq] at h
  obtain ⟨p1, h1, p2, h2, p3, h3, e⟩ := h
  obtain ⟨i, l1, rfl, rfl, hi⟩ := back_ID (z := zeroQ 4) h1
  obtain ⟨v, l2, rfl, rfl, hv⟩ := back_Num h2
  obtain ⟨a, b, c, l3, rfl, rfl, ha, hb, hc⟩ := back_Break rfl h3
  injection e with e1 e2
  injection e2 with e2
  subst e1
  subst e2
  refine ⟨⟨(by show I64 4; unfold I64; decide), hi, i64_zero, i64_zero, i64_zero, i64_zero, i64_zero, i64_zero, i64_zero, hv, i64_small ha, i64_low hb, hc, i64_zero, i64_zero, i64_zero⟩, rfl, may_of ⟨(by show (1 : Int) ≤ 4; decide), (by show (4 : Int) ≤ 12; decide)⟩ ?_ rfl, ?_⟩
  · show oks [mID, mNum, mBreak] _ = true
    simp only [oks, List.all_cons, List.all_nil, Bool.and_eq_true]
    exact ⟨rfl, rfl, by show (in8 a && decide (-1 ≤ b ∧ b ≤ 254)) = true; rw [in8_of ha, decide_eq_true hb]; rfl, trivial⟩
  · show outs [mID, mNum, mBreak] _ = _
    simp [outs, mID, mNum, mBreak]
theorem pass_back_5 (l : List UInt8) (q : Rq) (h : passQ ((tabM 5).map (·.f)) (zeroQ 5) (.rd l) = some (q, .rd [])) : Wf q ∧ q.kind = 5 ∧ mayQ q = true ∧ askQ q = l := by
  rw [show tabM 5 = [mID, mNum] from rfl] at h
  simp only [List.map_cons, List.map_nil, passQ, Option.bind_eq_some_iff, Option.some.injEq] at h
  obtain ⟨p1, h1, p2, h2, e⟩ := h
  obtain ⟨i, l1, rfl, rfl, hi⟩ := back_ID (z := zeroQ 5) h1
  obtain ⟨v, l2, rfl, rfl, hv⟩ := back_Num h2
  injection e with e1 e2
  injection e2 with e2
  subst e1
  subst e2
  refine ⟨⟨(by show I64 5; unfold I64; decide), hi, i64_zero, i64_zero, i64_zero, i64_zero, i64_zero, i64_zero, i64_zero, hv, i64_zero, i64_zero, i64_zero, i64_zero, i64_zero, i64_zero⟩, rfl, may_of ⟨(by show (1 : Int) ≤ 5; decide), (by show (5 : Int) ≤ 12; decide)⟩ ?_ rfl, ?_⟩
  · show oks [mID, mNum] _ = true
    simp only [oks, List.all_cons, List.all_nil, Bool.and_eq_true]
    exact ⟨rfl, rfl, trivial⟩
  · show outs [mID, mNum] _ = _
    simp [outs, mID, mNum]
theorem pass_back_6 (l : List UInt8) (q : Rq) (h : passQ ((tabM 6).map (·.f)) (zeroQ 6) (.rd l) = some (q, .rd [])) : Wf q ∧ q.kind = 6 ∧ mayQ q = true ∧ askQ q = l := by
  rw [show tabM 6 = [mID, mProc] from rfl] at h
  simp only [List.map_cons, List.map_nil, passQ, Option.bind_eq_some_iff, Option.some.injEq] at h
  obtain ⟨p1, h1, p2, h2, e⟩ := h
  obtain ⟨i, l1, rfl, rfl, hi⟩ := back_ID (z := zeroQ 6) h1
  obtain ⟨v, l2, rfl, rfl, hv⟩ := back_Proc h2
  injection e with e1 e2
  injection e2 with e2
  subst e1
  subst e2
  refine ⟨⟨(by show I64 6; unfold I64; decide), hi, i64_zero, i64_zero, i64_zero, i64_zero, i64_zero, i64_zero, i64_zero, u32_zero, i64_zero, i64_zero, i64_zero, i64_small hv, i64_zero, i64_zero⟩, rfl, may_of ⟨(by show (1 : Int) ≤ 6; decide), (by show (6 : Int) ≤ 12; decide)⟩ ?_ rfl, ?_⟩
  · show oks [mID, mProc] _ = true
    simp only [oks, List.all_cons, List.all_nil, Bool.and_eq_true]
    exact ⟨rfl, in8_of hv, trivial⟩
  · show outs [mID, mProc] _ = _
    simp [outs, mID, mProc]
theorem pass_back_7 (l : List UInt8) (q : Rq) (h : passQ ((tabM 7).map (·.f)) (zeroQ 7) (.rd l) = some (q, .rd [])) : Wf q ∧ q.kind = 7 ∧ mayQ q = true ∧ askQ q = l := by
  rw [show tabM 7 = [mID] from rfl] at h
  simp only [List.map_cons, List.map_nil, passQ, Option.bind_eq_some_iff, Option.some.injEq] at h
  obtain ⟨p1, h1, e⟩ := h
  obtain ⟨i, l1, rfl, rfl, hi⟩ := back_ID (z := zeroQ 7) h1
  injection e with e1 e2
  injection e2 with e2
  subst e1
  subst e2
  refine ⟨⟨(by show I64 7; unfold I64; decide), hi, i64_zero, i64_zero, i64_zero, i64_zero, i64_zero, i64_zero, i64_zero, u32_zero, i64_zero, i64_zero, i64_zero, i64_zero, i64_zero, i64_zero⟩, rfl, may_of ⟨(by show (1 : Int) ≤ 7; decide), (by show (7 : Int) ≤ 12; decide)⟩ ?_ rfl, ?_⟩
  · show oks [mID] _ = true
    simp only [oks, List.all_cons, List.all_nil, Bool.and_eq_true]
    exact ⟨rfl, trivial⟩
  · show outs [mID] _ = _
    simp [outs, mID]
theorem pass_back_8 (l : List UInt8) (q : Rq) (h : passQ ((tabM 8).map (·.f)) (zeroQ 8) (.rd l) = some (q, .rd [])) : Wf q ∧ q.kind = 8 ∧ mayQ q = true ∧ askQ q = l := by
  rw [show tabM 8 = [mID] from rfl] at h
  simp only [List.map_cons, List.map_nil, passQ, Option.bind_eq_some_iff, Option.some.injEq] at h
  obtain ⟨p1, h1, e⟩ := h
  obtain ⟨i, l1, rfl, rfl, hi⟩ := back_ID (z := zeroQ 8) h1
  injection e with e1 e2
  injection e2 with e2
  subst e1
  subst e2
  refine ⟨⟨(by show I64 8; unfold I64; decide), hi, i64_zero, i64_zero, i64_zero, i64_zero, i64_zero, i64_zero, i64_zero, u32_zero, i64_zero, i64_zero, i64_zero, i64_zero, i64_zero, i64_zero⟩, rfl, may_of ⟨(by show (1 : Int) ≤ 8; decide), (by show (8 : Int) ≤ 12; decide)⟩ ?_ rfl, ?_⟩
  · show oks [mID] _ = true
    simp only [oks, List.all_cons, List.all_nil, Bool.and_eq_true]
    exact ⟨rfl, trivial⟩
  · show outs [mID] _ = _
    simp [outs, mID]
theorem pass_back_9 (l : List UInt8) (q : Rq) (h : passQ ((tabM 9).map (·.f)) (zeroQ 9) (.rd l) = some (q, .rd [])) : Wf q ∧ q.kind = 9 ∧ mayQ q = true ∧ askQ q = l := by
  rw [show tabM 9 = [mID] from rfl] at h
  simp only [List.map_cons, List.map_nil, passQ, Option.bind_eq_some_iff, Option.some.injEq] at h
  obtain ⟨p1, h1, e⟩ := h
  obtain ⟨i, l1, rfl, rfl, hi⟩ := back_ID (z := zeroQ 9) h1
  injection e with e1 e2
  injection e2 with e2
  subst e1
  subst e2
  refine ⟨⟨(by show I64 9; unfold I64; decide), hi, i64_zero, i64_zero, i64_zero, i64_zero, i64_zero, i64_zero, i64_zero, u32_zero, i64_zero, i64_zero, i64_zero, i64_zero, i64_zero, i64_zero⟩, rfl, may_of ⟨(by show (1 : Int) ≤ 9; decide), (by show (9 : Int) ≤ 12; decide)⟩ ?_ rfl, ?_⟩
  · show oks [mID] _ = true
    simp only [oks, List.all_cons, List.all_nil, Bool.and_eq_true]
    exact ⟨rfl, trivial⟩
  · show outs [mID] _ = _
    simp [outs, mID]
theorem pass_back_10 (l : List UInt8) (q : Rq) (h : passQ ((tabM 10).map (·.f)) (zeroQ 10) (.rd l) = some (q, .rd [])) : Wf q ∧ q.kind = 10 ∧ mayQ q = true ∧ askQ q = l := by
  rw [show tabM 10 = [mID, mRate] from rfl] at h
  simp only [List.map_cons, List.map_nil, passQ, Option.bind_eq_some_iff, Option.some.injEq] at h
  obtain ⟨p1, h1, p2, h2, e⟩ := h
  obtain ⟨i, l1, rfl, rfl, hi⟩ := back_ID (z := zeroQ 10) h1
  obtain ⟨a, b, l2, rfl, rfl, ha, hb⟩ := back_Rate h2
  injection e with e1 e2
  injection e2 with e2
  subst e1
  subst e2
  refine ⟨⟨(by show I64 10; unfold I64; decide), hi, i64_zero, i64_zero, i64_zero, i64_zero, i64_zero, i64_zero, i64_zero, u32_zero, i64_zero, i64_zero, i64_zero, i64_zero, ha, hb⟩, rfl, may_of ⟨(by show (1 : Int) ≤ 10; decide), (by show (10 : Int) ≤ 12; decide)⟩ ?_ rfl, ?_⟩
  · show oks [mID, mRate] _ = true
    simp only [oks, List.all_cons, List.all_nil, Bool.and_eq_true]
    exact ⟨rfl, rfl, trivial⟩
  · show outs [mID, mRate] _ = _
    simp [outs, mID, mRate]
theorem pass_back_11 (l : List UInt8) (q : Rq) (h : passQ ((tabM 11).map (·.f)) (zeroQ 11) (.rd l) = some (q, .rd [])) : Wf q ∧ q.kind = 11 ∧ mayQ q = true ∧ askQ q = l := by
  rw [show tabM 11 = [mID] from rfl] at h
  simp only [List.map_cons, List.map_nil, passQ, Option.bind_eq_some_iff, Option.some.injEq] at h
  obtain ⟨p1, h1, e⟩ := h
  obtain ⟨i, l1, rfl, rfl, hi⟩ := back_ID (z := zeroQ 11) h1
  injection e with e1 e2
  injection e2 with e2
  subst e1
  subst e2
  refine ⟨⟨(by show I64 11; unfold I64; decide), hi, i64_zero, i64_zero, i64_zero, i64_zero, i64_zero, i64_zero, i64_zero, u32_zero, i64_zero, i64_zero, i64_zero, i64_zero, i64_zero, i64_zero⟩, rfl, may_of ⟨(by show (1 : Int) ≤ 11; decide), (by show (11 : Int) ≤ 12; decide)⟩ ?_ rfl, ?_⟩
  · show oks [mID] _ = true
    simp only [oks, List.all_cons, List.all_nil, Bool.and_eq_true]
    exact ⟨rfl, trivial⟩
  · show outs [mID] _ = _
    simp [outs, mID]
theorem pass_back_12 (l : List UInt8) (q : Rq) (h : passQ ((tabM 12).map (·.f)) (zeroQ 12) (.rd l) = some (q, .rd [])) : Wf q ∧ q.kind = 12 ∧ mayQ q = true ∧ askQ q = l := by
  rw [show tabM 12 = [mID] from rfl] at h
  simp only [List.map_cons, List.map_nil, passQ, Option.bind_eq_some_iff, Option.some.injEq] at h
  obtain ⟨p1, h1, e⟩ := h
  obtain ⟨i, l1, rfl, rfl, hi⟩ := back_ID (z := zeroQ 12) h1
  injection e with e1 e2
  injection e2 with e2
  subst e1
  subst e2
  refine ⟨⟨(by show I64 12; unfold I64; decide), hi, i64_zero, i64_zero, i64_zero, i64_zero, i64_zero, i64_zero, i64_zero, u32_zero, i64_zero, i64_zero, i64_zero, i64_zero, i64_zero, i64_zero⟩, rfl, may_of ⟨(by show (1 : Int) ≤ 12; decide), (by show (12 : Int) ≤ 12; decide)⟩ ?_ rfl, ?_⟩
  · show oks [mID] _ = true
    simp only [oks, List.all_cons, List.all_nil, Bool.and_eq_true]
    exact ⟨rfl, trivial⟩
  · show outs [mID] _ = _
    simp [outs, mID]
theorem pass_back (k : Int) (hk : 1 ≤ k ∧ k ≤ 12) (l : List UInt8) (q : Rq) (h : passQ ((tabM k).map (·.f)) (zeroQ k) (.rd l) = some (q, .rd [])) : Wf q ∧ q.kind = k ∧ mayQ q = true ∧ askQ q = l := by
  obtain ⟨n, rfl⟩ : ∃ n : Nat, k = n := ⟨k.toNat, by omega⟩
  have h1 : 1 ≤ n := by omega
  have h2 : n < 13 := by omega
  rcases n with _ | _ | _ | _ | _ | _ | _ | _ | _ | _ | _ | _ | _ | m
  · omega
  · exact pass_back_1 l q h
  · exact pass_back_2 l q h
  · exact pass_back_3 l q h
  · exact pass_back_4 l q h
  · exact pass_back_5 l q h
  · exact pass_back_6 l q h
  · exact pass_back_7 l q h
  · exact pass_back_8 l q h
  · exact pass_back_9 l q h
  · exact pass_back_10 l q h
  · exact pass_back_11 l q h
  · exact pass_back_12 l q h
  · omega
theorem decQ_none (x : UInt8) (l : List UInt8) (h : ¬ (1 ≤ (x.toNat : Int) ∧ (x.toNat : Int) ≤ 12)) : decQ (x :: l) = (zeroQ 0, 12) := by
  have ht := tabQ_tabM x.toNat
  rw [if_neg h] at ht
  have hn : tabQ x.toNat = none := by
    cases e : tabQ x.toNat with
    | none => rfl
    | some fs => rw [e] at ht; cases ht
  simp only [decQ, hn]
theorem decQ_some (x : UInt8) (l : List UInt8) (h : 1 ≤ (x.toNat : Int) ∧ (x.toNat : Int) ≤ 12) : (∃ q, decQ (x :: l) = (q, 0) ∧ Wf q ∧ q.kind = x.toNat ∧ mayQ q = true ∧ askQ q = l) ∨ decQ (x :: l) = (zeroQ 0, 14) := by
  have ht := tabQ_tabM x.toNat
  rw [if_pos h] at ht
  obtain ⟨fs, hfs, hmap⟩ : ∃ fs, tabQ x.toNat = some fs ∧ fs.map (·.2) = (tabM x.toNat).map (·.f) := by
    cases e : tabQ x.toNat with
    | none => rw [e] at ht; cases ht
    | some fs => rw [e] at ht; exact ⟨fs, rfl, Option.some.inj ht⟩
  simp only [decQ, hfs, hmap]
  cases e : passQ ((tabM x.toNat).map (·.f)) (zeroQ x.toNat) (.rd l) with
  | none => exact .inr rfl
  | some r =>
    obtain ⟨q, S⟩ := r
    cases S with
    | wr o => exact .inr rfl
    | rd r =>
      cases r with
      | cons y t => exact .inr rfl
      | nil =>
        have hp := pass_back _ h l q e
        exact .inl ⟨q, rfl, hp⟩
end Go.Proofs.Ytnafeppljnjbeaa
namespace Go.Proofs.Ytnafeppljnjbeaa
open Go Go.RowKit

theorem n4 {i : Int} (h : U32 i) (r : List UInt8) : numOf ((beR 4 i ++ r).take 4) = i := by
  rw [List.take_left' (beR_len 4 i), num_be, Int.emod_eq_of_lt h.1 (by have := h.2; have e : (256 : Int) ^ 4 = 4294967296 := by decide
                                                                       omega)]
theorem w4 {i : Int} (h : U32 i) : numOf (beR 4 i) = i := by
  have := n4 h []
  rw [List.append_nil, List.take_of_length_le (by rw [beR_len]; exact Nat.le_refl _)] at this
  exact this
theorem w8 {t : Int} (h : I64 t) : wrap64 (numOf (beR 8 t)) = t := by
  have e : (256 : Int) ^ 8 = 18446744073709551616 := by decide
  rw [num_be, e, wrap64_mod h]
theorem n8 {t : Int} (h : I64 t) (r : List UInt8) : wrap64 (numOf ((beR 8 t ++ r).take 8)) = t := by
  rw [List.take_left' (beR_len 8 t), w8 h]
theorem dB (s : Nat) (i : Int) (r : List UInt8) (k : Nat) : (beR s i ++ r).drop (s + k) = r.drop k := by
  rw [← List.drop_drop, List.drop_left' (beR_len s i)]
theorem gB (s : Nat) (i : Int) (r : List UInt8) (k : Nat) : (beR s i ++ r).getD (s + k) 0 = r.getD k 0 := by
  unfold List.getD
  rw [List.getElem?_append_right (by rw [beR_len]; omega), beR_len, Nat.add_sub_cancel_left]
def octA (r : List UInt8) (j : Nat) : Int := ((r.getD j 0).toNat : Int)
def longA (r : List UInt8) : Int := wrap64 (numOf r)
theorem octA_bd (r : List UInt8) (j : Nat) : 0 ≤ octA r j ∧ octA r j ≤ 255 := by
  have := (r.getD j 0).toNat_lt
  unfold octA
  omega
theorem num4_bd (r : List UInt8) : U32 (numOf (r.take 4)) := by
  have h2 := numOf_bd (r.take 4)
  have hl : (r.take 4).length ≤ 4 := by rw [List.length_take]; omega
  have hp : (256 : Int) ^ (r.take 4).length ≤ 4294967296 := by
    obtain ⟨n, hn⟩ : ∃ n, n = (r.take 4).length := ⟨_, rfl⟩
    rw [← hn] at hl ⊢
    rcases n with _ | _ | _ | _ | _ | n
    · decide
    · decide
    · decide
    · decide
    · decide
    · omega
  unfold U32
  omega
/-- the request that bytes behind its kind would be -/
def candQ (k : Int) (l : List UInt8) : Rq :=
  if k = 1 ∧ (l.drop 4).length = 1 then { zeroQ k with id := numOf (l.take 4), ver := octA (l.drop 4) 0 }
  else if k = 2 then { zeroQ k with id := numOf (l.take 4), model := l.drop 4 }
  else if k = 3 ∧ (l.drop 4).length = 18 then { zeroQ k with id := numOf (l.take 4), time := longA ((l.drop 4).take 8), pt := octA (l.drop 4) 8, ek := octA (l.drop 4) 9, dat := longA ((l.drop 4).drop 10) }
  else if k = 4 ∧ (l.drop 4).length = 14 then { zeroQ k with id := numOf (l.take 4), num := numOf ((l.drop 4).take 4), bp := octA (l.drop 4) 4, bk := if octA (l.drop 4) 5 = 255 then -1 else octA (l.drop 4) 5, bt := longA ((l.drop 4).drop 6) }
  else if k = 5 ∧ (l.drop 4).length = 4 then { zeroQ k with id := numOf (l.take 4), num := numOf ((l.drop 4).take 4) }
  else if k = 6 ∧ (l.drop 4).length = 1 then { zeroQ k with id := numOf (l.take 4), pr := octA (l.drop 4) 0 }
  else if k = 10 ∧ (l.drop 4).length = 16 then { zeroQ k with id := numOf (l.take 4), nm := longA ((l.drop 4).take 8), dn := longA ((l.drop 4).drop 8) }
  else { zeroQ k with id := numOf (l.take 4) }
theorem candQ_wf (k : Int) (hk : 1 ≤ k ∧ k ≤ 12) (l : List UInt8) : Wf (candQ k l) := by
  have hk' : I64 k := by unfold I64; omega
  have hI := num4_bd l
  have hO : ∀ j, I64 (octA (l.drop 4) j) := fun j => i64_small (octA_bd _ j)
  have hL : ∀ r, I64 (longA r) := fun r => wrap64_I _
  have hN := num4_bd (l.drop 4)
  unfold candQ
  repeat' split
  all_goals first
    | exact ⟨hk', hI, hO _, i64_zero, i64_zero, i64_zero, i64_zero, i64_zero, i64_zero, u32_zero, i64_zero, i64_zero, i64_zero, i64_zero, i64_zero, i64_zero⟩
    | exact ⟨hk', hI, i64_zero, i64_zero, i64_zero, i64_zero, i64_zero, i64_zero, i64_zero, u32_zero, i64_zero, i64_zero, i64_zero, i64_zero, i64_zero, i64_zero⟩
    | exact ⟨hk', hI, i64_zero, hL _, i64_zero, i64_zero, hO _, hO _, hL _, u32_zero, i64_zero, i64_zero, i64_zero, i64_zero, i64_zero, i64_zero⟩
    | exact ⟨hk', hI, i64_zero, i64_zero, i64_zero, i64_zero, i64_zero, i64_zero, i64_zero, hN, hO _, (show I64 (-1) from i64_low (by decide)), hL _, i64_zero, i64_zero, i64_zero⟩
    | exact ⟨hk', hI, i64_zero, i64_zero, i64_zero, i64_zero, i64_zero, i64_zero, i64_zero, hN, hO _, hO _, hL _, i64_zero, i64_zero, i64_zero⟩
    | exact ⟨hk', hI, i64_zero, i64_zero, i64_zero, i64_zero, i64_zero, i64_zero, i64_zero, hN, i64_zero, i64_zero, i64_zero, i64_zero, i64_zero, i64_zero⟩
    | exact ⟨hk', hI, i64_zero, i64_zero, i64_zero, i64_zero, i64_zero, i64_zero, i64_zero, u32_zero, i64_zero, i64_zero, i64_zero, hO _, i64_zero, i64_zero⟩
    | exact ⟨hk', hI, i64_zero, i64_zero, i64_zero, i64_zero, i64_zero, i64_zero, i64_zero, u32_zero, i64_zero, i64_zero, i64_zero, i64_zero, hL _, hL _⟩
theorem candQ_kind (k : Int) (l : List UInt8) : (candQ k l).kind = k := by
  unfold candQ
  repeat' split
  all_goals rfl
theorem octA_cons0 (v : Int) (r : List UInt8) (h : 0 ≤ v ∧ v ≤ 255) : octA (byteI v :: r) 0 = v := byteI_small h.1 h.2
theorem cand_of_1 (q : Rq) (hk : q.kind = 1) (hw : Wf q) (h : mayQ q = true) : candQ 1 (askQ q) = q := by
  have hb := mayQ_back h
  have ho : oks (tabM q.kind) q = true := by unfold mayQ at h; simp at h; exact h.1.2
  clear h
  unfold backQ at hb
  unfold askQ
  rw [hk] at hb ho ⊢
  rw [show tabM 1 = [mID, mVer] from rfl] at hb ho ⊢
  obtain ⟨hw0, hid, hver, htime, horg, hseq, hpt, hek, hdat, hnum, hbp, hbk, hbt, hpr, hnm, hdn⟩ := hw
  obtain ⟨k, i, ve, mo, ti, og, sq, pt, ek, da, nu, bp, bk, bt, pr, nm, dn⟩ := q
  dsimp only at *
  simp only [sets, List.foldl_cons, List.foldl_nil, zeroQ, mID, mVer, Rq.mk.injEq, true_and] at hb
  obtain ⟨rfl, rfl, rfl, rfl, rfl, rfl, rfl, rfl, rfl, rfl, rfl, rfl, rfl, rfl, rfl⟩ := hb
  simp only [oks, List.all_cons, List.all_nil, Bool.and_true, Bool.and_eq_true, in8_iff, true_and, mID, mVer] at ho
  simp only [outs, List.flatMap_cons, List.flatMap_nil, List.append_nil, mID, mVer]
  have e := dB 4 i [byteI ve] 0
  rw [Nat.add_zero, List.drop_zero] at e
  unfold candQ
  rw [e, n4 hid, if_pos ⟨rfl, rfl⟩, octA_cons0 _ _ ho]
  rfl
theorem cand_of_2 (q : Rq) (hk : q.kind = 2) (hw : Wf q) (h : mayQ q = true) : candQ 2 (askQ q) = q := by
  have hb := mayQ_back h
  have ho : oks (tabM q.kind) q = true := by unfold mayQ at h; simp at h; exact h.1.2
  clear h
  unfold backQ at hb
  unfold askQ
  rw [hk] at hb ho ⊢
  rw [show tabM 2 = [mID, mModel] from rfl] at hb ho ⊢
  obtain ⟨hw0, hid, hver, htime, horg, hseq, hpt, hek, hdat, hnum, hbp, hbk, hbt, hpr, hnm, hdn⟩ := hw
  obtain ⟨k, i, ve, mo, ti, og, sq, pt, ek, da, nu, bp, bk, bt, pr, nm, dn⟩ := q
  dsimp only at *
  simp only [sets, List.foldl_cons, List.foldl_nil, zeroQ, mID, mModel, Rq.mk.injEq, true_and] at hb
  obtain ⟨rfl, rfl, rfl, rfl, rfl, rfl, rfl, rfl, rfl, rfl, rfl, rfl, rfl, rfl, rfl⟩ := hb
  simp only [oks, List.all_cons, List.all_nil, Bool.and_true, Bool.and_eq_true, decide_eq_true_eq, true_and, mID, mModel] at ho
  simp only [outs, List.flatMap_cons, List.flatMap_nil, List.append_nil, mID, mModel]
  have e := dB 4 i mo 0
  rw [Nat.add_zero, List.drop_zero] at e
  unfold candQ
  rw [e, n4 hid, if_neg (fun x => by have := x.1; omega), if_pos rfl]
  rfl
theorem cand_of_3 (q : Rq) (hk : q.kind = 3) (hw : Wf q) (h : mayQ q = true) : candQ 3 (askQ q) = q := by
  have hb := mayQ_back h
  have ho : oks (tabM q.kind) q = true := by unfold mayQ at h; simp at h; exact h.1.2
  clear h
  unfold backQ at hb
  unfold askQ
  rw [hk] at hb ho ⊢
  rw [show tabM 3 = [mID, mEvent] from rfl] at hb ho ⊢
  obtain ⟨hw0, hid, hver, htime, horg, hseq, hpt, hek, hdat, hnum, hbp, hbk, hbt, hpr, hnm, hdn⟩ := hw
  obtain ⟨k, i, ve, mo, ti, og, sq, pt, ek, da, nu, bp, bk, bt, pr, nm, dn⟩ := q
  dsimp only at *
  simp only [sets, List.foldl_cons, List.foldl_nil, zeroQ, mID, mEvent, Rq.mk.injEq, true_and] at hb
  obtain ⟨rfl, rfl, rfl, rfl, rfl, rfl, rfl, rfl, rfl, rfl, rfl, rfl⟩ := hb
  simp only [oks, List.all_cons, List.all_nil, Bool.and_true, Bool.and_eq_true, in8_iff, true_and, mID, mEvent] at ho
  simp only [outs, List.flatMap_cons, List.flatMap_nil, List.append_nil, mID, mEvent]
  have e := dB 4 i (beR 8 ti ++ [byteI pt] ++ [byteI ek] ++ beR 8 da) 0
  rw [Nat.add_zero, List.drop_zero] at e
  have hl : (beR 8 ti ++ [byteI pt] ++ [byteI ek] ++ beR 8 da).length = 18 := by simp [beR_len]
  have e1 : longA ((beR 8 ti ++ [byteI pt] ++ [byteI ek] ++ beR 8 da).take 8) = ti := by rw [List.append_assoc, List.append_assoc]; exact n8 htime _
  have e2 : octA (beR 8 ti ++ [byteI pt] ++ [byteI ek] ++ beR 8 da) 8 = pt := by unfold octA; rw [List.append_assoc, List.append_assoc, gB 8 ti _ 0]; exact byteI_small ho.1.1 ho.1.2
  have e3 : octA (beR 8 ti ++ [byteI pt] ++ [byteI ek] ++ beR 8 da) 9 = ek := by unfold octA; rw [List.append_assoc, List.append_assoc, gB 8 ti _ 1]; exact byteI_small ho.2.1 ho.2.2
  have e4 : longA ((beR 8 ti ++ [byteI pt] ++ [byteI ek] ++ beR 8 da).drop 10) = da := by rw [List.append_assoc, List.append_assoc, dB 8 ti _ 2]; exact w8 hdat
  unfold candQ
  rw [e, n4 hid, if_neg (fun x => by have := x.1; omega), if_neg (by decide), if_pos ⟨rfl, hl⟩, e1, e2, e3, e4]
  rfl
theorem cand_of_4 (q : Rq) (hk : q.kind = 4) (hw : Wf q) (h : mayQ q = true) : candQ 4 (askQ q) = q := by
  have hb := mayQ_back h
  have ho : oks (tabM q.kind) q = true := by unfold mayQ at h; simp at h; exact h.1.2
  clear h
  unfold backQ at hb
  unfold askQ
  rw [hk] at hb ho ⊢
  rw [show tabM 4 = [mID, mNum, mBreak] from rfl] at hb ho ⊢
  obtain ⟨hw0, hid, hver, htime, horg, hseq, hpt, hek, hdat, hnum, hbp, hbk, hbt, hpr, hnm, hdn⟩ := hw
  obtain ⟨k, i, ve, mo, ti, og, sq, pt, ek, da, nu, bp, bk, bt, pr, nm, dn⟩ := q
  dsimp only at *
  simp only [sets, List.foldl_cons, List.foldl_nil, zeroQ, mID, mNum, mBreak, Rq.mk.injEq, true_and] at hb
  obtain ⟨rfl, rfl, rfl, rfl, rfl, rfl, rfl, rfl, rfl, rfl, rfl, rfl⟩ := hb
  simp only [oks, List.all_cons, List.all_nil, Bool.and_true, Bool.and_eq_true, in8_iff, decide_eq_true_eq, true_and, mID, mNum, mBreak] at ho
  simp only [outs, List.flatMap_cons, List.flatMap_nil, List.append_nil, mID, mNum, mBreak]
  have e := dB 4 i (beR 4 nu ++ ([byteI bp] ++ [byteI bk] ++ beR 8 bt)) 0
  rw [Nat.add_zero, List.drop_zero] at e
  have hl : (beR 4 nu ++ ([byteI bp] ++ [byteI bk] ++ beR 8 bt)).length = 14 := by simp [beR_len]
  have e1 : numOf ((beR 4 nu ++ ([byteI bp] ++ [byteI bk] ++ beR 8 bt)).take 4) = nu := n4 hnum _
  have e2 : octA (beR 4 nu ++ ([byteI bp] ++ [byteI bk] ++ beR 8 bt)) 4 = bp := by unfold octA; rw [gB 4 nu _ 0]; exact byteI_small ho.1.1 ho.1.2
  have e3 : octA (beR 4 nu ++ ([byteI bp] ++ [byteI bk] ++ beR 8 bt)) 5 = ((byteI bk).toNat : Int) := by unfold octA; rw [gB 4 nu _ 1]; rfl
  have e4 : longA ((beR 4 nu ++ ([byteI bp] ++ [byteI bk] ++ beR 8 bt)).drop 6) = bt := by rw [dB 4 nu _ 2]; exact w8 hbt
  have e5 : (if ((byteI bk).toNat : Int) = 255 then -1 else ((byteI bk).toNat : Int)) = bk := by
    by_cases h1 : bk = -1
    · subst h1; rfl
    · have h2 := byteI_small (v := bk) (by omega) (by omega)
      rw [h2, if_neg (by omega)]
  unfold candQ
  rw [e, n4 hid, if_neg (fun x => by have := x.1; omega), if_neg (by decide), if_neg (fun x => by have := x.1; omega), if_pos ⟨rfl, hl⟩, e1, e2, e3, e4, e5]
  rfl
theorem cand_of_5 (q : Rq) (hk : q.kind = 5) (hw : Wf q) (h : mayQ q = true) : candQ 5 (askQ q) = q := by
  have hb := mayQ_back h
  have ho : oks (tabM q.kind) q = true := by unfold mayQ at h; simp at h; exact h.1.2
  clear h
  unfold backQ at hb
  unfold askQ
  rw [hk] at hb ho ⊢
  rw [show tabM 5 = [mID, mNum] from rfl] at hb ho ⊢
  obtain ⟨hw0, hid, hver, htime, horg, hseq, hpt, hek, hdat, hnum, hbp, hbk, hbt, hpr, hnm, hdn⟩ := hw
  obtain ⟨k, i, ve, mo, ti, og, sq, pt, ek, da, nu, bp, bk, bt, pr, nm, dn⟩ := q
  dsimp only at *
  simp only [sets, List.foldl_cons, List.foldl_nil, zeroQ, mID, mNum, Rq.mk.injEq, true_and] at hb
  obtain ⟨rfl, rfl, rfl, rfl, rfl, rfl, rfl, rfl, rfl, rfl, rfl, rfl, rfl, rfl, rfl⟩ := hb
  clear ho
  simp only [outs, List.flatMap_cons, List.flatMap_nil, List.append_nil, mID, mNum]
  have e := dB 4 i (beR 4 nu) 0
  rw [Nat.add_zero, List.drop_zero] at e
  have e1 : numOf ((beR 4 nu).take 4) = nu := by have := n4 hnum []; rw [List.append_nil] at this; exact this
  unfold candQ
  rw [e, n4 hid, if_neg (fun x => by have := x.1; omega), if_neg (by decide), if_neg (fun x => by have := x.1; omega), if_neg (fun x => by have := x.1; omega), if_pos ⟨rfl, beR_len _ _⟩, e1]
  rfl
theorem cand_of_6 (q : Rq) (hk : q.kind = 6) (hw : Wf q) (h : mayQ q = true) : candQ 6 (askQ q) = q := by
  have hb := mayQ_back h
  have ho : oks (tabM q.kind) q = true := by unfold mayQ at h; simp at h; exact h.1.2
  clear h
  unfold backQ at hb
  unfold askQ
  rw [hk] at hb ho ⊢
  rw [show tabM 6 = [mID, mProc] from rfl] at hb ho ⊢
  obtain ⟨hw0, hid, hver, htime, horg, hseq, hpt, hek, hdat, hnum, hbp, hbk, hbt, hpr, hnm, hdn⟩ := hw
  obtain ⟨k, i, ve, mo, ti, og, sq, pt, ek, da, nu, bp, bk, bt, pr, nm, dn⟩ := q
  dsimp only at *
  simp only [sets, List.foldl_cons, List.foldl_nil, zeroQ, mID, mProc, Rq.mk.injEq, true_and] at hb
  obtain ⟨rfl, rfl, rfl, rfl, rfl, rfl, rfl, rfl, rfl, rfl, rfl, rfl, rfl, rfl, rfl⟩ := hb
  simp only [oks, List.all_cons, List.all_nil, Bool.and_true, Bool.and_eq_true, in8_iff, true_and, mID, mProc] at ho
  simp only [outs, List.flatMap_cons, List.flatMap_nil, List.append_nil, mID, mProc]
  have e := dB 4 i [byteI pr] 0
  rw [Nat.add_zero, List.drop_zero] at e
  unfold candQ
  rw [e, n4 hid, if_neg (fun x => by have := x.1; omega), if_neg (by decide), if_neg (fun x => by have := x.1; omega), if_neg (fun x => by have := x.1; omega), if_neg (fun x => by have := x.1; omega), if_pos ⟨rfl, rfl⟩, octA_cons0 _ _ ho]
  rfl
theorem cand_of_7 (q : Rq) (hk : q.kind = 7) (hw : Wf q) (h : mayQ q = true) : candQ 7 (askQ q) = q := by
  have hb := mayQ_back h
  have ho : oks (tabM q.kind) q = true := by unfold mayQ at h; simp at h; exact h.1.2
  clear h
  unfold backQ at hb
  unfold askQ
  rw [hk] at hb ho ⊢
  rw [show tabM 7 = [mID] from rfl] at hb ho ⊢
  obtain ⟨hw0, hid, hver, htime, horg, hseq, hpt, hek, hdat, hnum, hbp, hbk, hbt, hpr, hnm, hdn⟩ := hw
  obtain ⟨k, i, ve, mo, ti, og, sq, pt, ek, da, nu, bp, bk, bt, pr, nm, dn⟩ := q
  dsimp only at *
  simp only [sets, List.foldl_cons, List.foldl_nil, zeroQ, mID, Rq.mk.injEq, true_and] at hb
  obtain ⟨rfl, rfl, rfl, rfl, rfl, rfl, rfl, rfl, rfl, rfl, rfl, rfl, rfl, rfl, rfl, rfl⟩ := hb
  clear ho
  simp only [outs, List.flatMap_cons, List.flatMap_nil, List.append_nil, mID]
  have e1 : numOf ((beR 4 i).take 4) = i := by have := n4 hid []; rw [List.append_nil] at this; exact this
  unfold candQ
  rw [e1, if_neg (fun x => by have := x.1; omega), if_neg (by decide), if_neg (fun x => by have := x.1; omega), if_neg (fun x => by have := x.1; omega), if_neg (fun x => by have := x.1; omega), if_neg (fun x => by have := x.1; omega), if_neg (fun x => by have := x.1; omega)]
  rfl
theorem cand_of_8 (q : Rq) (hk : q.kind = 8) (hw : Wf q) (h : mayQ q = true) : candQ 8 (askQ q) = q := by
  have hb := mayQ_back h
  have ho : oks (tabM q.kind) q = true := by unfold mayQ at h; simp at h; exact h.1.2
  clear h
  unfold backQ at hb
  unfold askQ
  rw [hk] at hb ho ⊢
  rw [show tabM 8 = [mID] from rfl] at hb ho ⊢
  obtain ⟨hw0, hid, hver, htime, horg, hseq, hpt, hek, hdat, hnum, hbp, hbk, hbt, hpr, hnm, hdn⟩ := hw
  obtain ⟨k, i, ve, mo, ti, og, sq, pt, ek, da, nu, bp, bk, bt, pr, nm, dn⟩ := q
  dsimp only at *
  simp only [sets, List.foldl_cons, List.foldl_nil, zeroQ, mID, Rq.mk.injEq, true_and] at hb
  obtain ⟨rfl, rfl, rfl, rfl, rfl, rfl, rfl, rfl, rfl, rfl, rfl, rfl, rfl, rfl, rfl, rfl⟩ := hb
  clear ho
  simp only [outs, List.flatMap_cons, List.flatMap_nil, List.append_nil, mID]
  have e1 : numOf ((beR 4 i).take 4) = i := by have := n4 hid []; rw [List.append_nil] at this; exact this
  unfold candQ
  rw [e1, if_neg (fun x => by have := x.1; omega), if_neg (by decide), if_neg (fun x => by have := x.1; omega), if_neg (fun x => by have := x.1; omega), if_neg (fun x => by have := x.1; omega), if_neg (fun x => by have := x.1; omega), if_neg (fun x => by have := x.1; omega)]
  rfl
theorem cand_of_9 (q : Rq) (hk : q.kind = 9) (hw : Wf q) (h : mayQ q = true) : candQ 9 (askQ q) = q := by
  have hb := mayQ_back h
  have ho : oks (tabM q.kind) q = true := by unfold mayQ at h; simp at h; exact h.1.2
  clear h
  unfold backQ at hb
  unfold askQ
  rw [hk] at hb ho ⊢
  rw [show tabM 9 = [mID] from rfl] at hb ho ⊢
  obtain ⟨hw0, hid, hver, htime, horg, hseq, hpt, hek, hdat, hnum, hbp, hbk, hbt, hpr, hnm, hdn⟩ := hw
  obtain ⟨k, i, ve, mo, ti, og, sq, pt, ek, da, nu, bp, bk, bt, pr, nm, dn⟩ := q
  dsimp only at *
  simp only [sets, List.foldl_cons, List.foldl_nil, zeroQ, mID, Rq.mk.injEq, true_and] at hb
  obtain ⟨rfl, rfl, rfl, rfl, rfl, rfl, rfl, rfl, rfl, rfl, rfl, rfl, rfl, rfl, rfl, rfl⟩ := hb
  clear ho
  simp only [outs, List.flatMap_cons, List.flatMap_nil, List.append_nil, mID]
  have e1 : numOf ((beR 4 i).take 4) = i := by have := n4 hid []; rw [List.append_nil] at this; exact this
  unfold candQ
  rw [e1, if_neg (fun x => by have := x.1; omega), if_neg (by decide), if_neg (fun x => by have := x.1; omega), if_neg (fun x => by have := x.1; omega), if_neg (fun x => by have := x.1; omega), if_neg (fun x => by have := x.1; omega), if_neg (fun x => by have := x.1; omega)]
  rfl
theorem cand_of_10 (q : Rq) (hk : q.kind = 10) (hw : Wf q) (h : mayQ q = true) : candQ 10 (askQ q) = q := by
  have hb := mayQ_back h
  have ho : oks (tabM q.kind) q = true := by unfold mayQ at h; simp at h; exact h.1.2
  clear h
  unfold backQ at hb
  unfold askQ
  rw [hk] at hb ho ⊢
  rw [show tabM 10 = [mID, mRate] from rfl] at hb ho ⊢
  obtain ⟨hw0, hid, hver, htime, horg, hseq, hpt, hek, hdat, hnum, hbp, hbk, hbt, hpr, hnm, hdn⟩ := hw
  obtain ⟨k, i, ve, mo, ti, og, sq, pt, ek, da, nu, bp, bk, bt, pr, nm, dn⟩ := q
  dsimp only at *
  simp only [sets, List.foldl_cons, List.foldl_nil, zeroQ, mID, mRate, Rq.mk.injEq, true_and, and_true] at hb
  obtain ⟨rfl, rfl, rfl, rfl, rfl, rfl, rfl, rfl, rfl, rfl, rfl, rfl, rfl, rfl⟩ := hb
  clear ho
  simp only [outs, List.flatMap_cons, List.flatMap_nil, List.append_nil, mID, mRate]
  have e := dB 4 i (beR 8 nm ++ beR 8 dn) 0
  rw [Nat.add_zero, List.drop_zero] at e
  have hl : (beR 8 nm ++ beR 8 dn).length = 16 := by simp [beR_len]
  have e1 : longA ((beR 8 nm ++ beR 8 dn).take 8) = nm := n8 hnm _
  have e2 : longA ((beR 8 nm ++ beR 8 dn).drop 8) = dn := by rw [dB 8 nm _ 0, List.drop_zero]; exact w8 hdn
  unfold candQ
  rw [e, n4 hid, if_neg (fun x => by have := x.1; omega), if_neg (by decide), if_neg (fun x => by have := x.1; omega), if_neg (fun x => by have := x.1; omega), if_neg (fun x => by have := x.1; omega), if_neg (fun x => by have := x.1; omega), if_pos ⟨rfl, hl⟩, e1, e2]
  rfl
theorem cand_of_11 (q : Rq) (hk : q.kind = 11) (hw : Wf q) (h : mayQ q = true) : candQ 11 (askQ q) = q := by
  have hb := mayQ_back h
  have ho : oks (tabM q.kind) q = true := by unfold mayQ at h; simp at h; exact h.1.2
  clear h
  unfold backQ at hb
  unfold askQ
  rw [hk] at hb ho ⊢
  rw [show tabM 11 = [mID] from rfl] at hb ho ⊢
  obtain ⟨hw0, hid, hver, htime, horg, hseq, hpt, hek, hdat, hnum, hbp, hbk, hbt, hpr, hnm, hdn⟩ := hw
  obtain ⟨k, i, ve, mo, ti, og, sq, pt, ek, da, nu, bp, bk, bt, pr, nm, dn⟩ := q
  dsimp only at *
  simp only [sets, List.foldl_cons, List.foldl_nil, zeroQ, mID, Rq.mk.injEq, true_and] at hb
  obtain ⟨rfl, rfl, rfl, rfl, rfl, rfl, rfl, rfl, rfl, rfl, rfl, rfl, rfl, rfl, rfl, rfl⟩ := hb
  clear ho
  simp only [outs, List.flatMap_cons, List.flatMap_nil, List.append_nil, mID]
  have e1 : numOf ((beR 4 i).take 4) = i := by have := n4 hid []; rw [List.append_nil] at this; exact this
  unfold candQ
  rw [e1, if_neg (fun x => by have := x.1; omega), if_neg (by decide), if_neg (fun x => by have := x.1; omega), if_neg (fun x => by have := x.1; omega), if_neg (fun x => by have := x.1; omega), if_neg (fun x => by have := x.1; omega), if_neg (fun x => by have := x.1; omega)]
  rfl
theorem cand_of_12 (q : Rq) (hk : q.kind = 12) (hw : Wf q) (h : mayQ q = true) : candQ 12 (askQ q) = q := by
  have hb := mayQ_back h
  have ho : oks (tabM q.kind) q = true := by unfold mayQ at h; simp at h; exact h.1.2
  clear h
  unfold backQ at hb
  unfold askQ
  rw [hk] at hb ho ⊢
  rw [show tabM 12 = [mID] from rfl] at hb ho ⊢
  obtain ⟨hw0, hid, hver, htime, horg, hseq, hpt, hek, hdat, hnum, hbp, hbk, hbt, hpr, hnm, hdn⟩ := hw
  obtain ⟨k, i, ve, mo, ti, og, sq, pt, ek, da, nu, bp, bk, bt, pr, nm, dn⟩ := q
  dsimp only at *
  simp only [sets, List.foldl_cons, List.foldl_nil, zeroQ, mID, Rq.mk.injEq, true_and] at hb
  obtain ⟨rfl, rfl, rfl, rfl, rfl, rfl, rfl, rfl, rfl, rfl, rfl, rfl, rfl, rfl, rfl, rfl⟩ := hb
  clear ho
  simp only [outs, List.flatMap_cons, List.flatMap_nil, List.append_nil, mID]
  have e1 : numOf ((beR 4 i).take 4) = i := by have := n4 hid []; rw [List.append_nil] at this; exact this
  unfold candQ
  rw [e1, if_neg (fun x => by have := x.1; omega), if_neg (by decide), if_neg (fun x => by have := x.1; omega), if_neg (fun x => by have := x.1; omega), if_neg (fun x => by have := x.1; omega), if_neg (fun x => by have := x.1; omega), if_neg (fun x => by have := x.1; omega)]
  rfl
theorem cand_of (q : Rq) (hw : Wf q) (h : mayQ q = true) : candQ q.kind (askQ q) = q := by
  have hk : 1 ≤ q.kind ∧ q.kind ≤ 12 := by unfold mayQ at h; simp at h; exact h.1.1
  obtain ⟨n, hn⟩ : ∃ n : Nat, q.kind = n := ⟨q.kind.toNat, by omega⟩
  rw [hn]
  have h1 : 1 ≤ n := by omega
  have h2 : n < 13 := by omega
  rcases n with _ | _ | _ | _ | _ | _ | _ | _ | _ | _ | _ | _ | _ | m
  · omega
  · exact cand_of_1 q hn hw h
  · exact cand_of_2 q hn hw h
  · exact cand_of_3 q hn hw h
  · exact cand_of_4 q hn hw h
  · exact cand_of_5 q hn hw h
  · exact cand_of_6 q hn hw h
  · exact cand_of_7 q hn hw h
  · exact cand_of_8 q hn hw h
  · exact cand_of_9 q hn hw h
  · exact cand_of_10 q hn hw h
  · exact cand_of_11 q hn hw h
  · exact cand_of_12 q hn hw h
  · omega
theorem ask4 (q : Rq) : 4 ≤ (askQ q).length := by
  unfold askQ tabM
  repeat' split
  all_goals simp [outs, mID, beR_len]
/-- what bytes are, as the document reads them -/
def docQ : List UInt8 → Rq × Int
  | [] => (zeroQ 0, 12)
  | x :: l => if 1 ≤ (x.toNat : Int) ∧ (x.toNat : Int) ≤ 12 then if 4 ≤ l.length ∧ mayQ (candQ x.toNat l) = true ∧ byteI (candQ x.toNat l).kind :: askQ (candQ x.toNat l) = x :: l then (candQ x.toNat l, 0) else (zeroQ 0, 14) else (zeroQ 0, 12)
theorem docQ_eq (b : List UInt8) : docQ b = decQ b := by
  cases b with
  | nil => rfl
  | cons x l =>
    by_cases hx : 1 ≤ (x.toNat : Int) ∧ (x.toNat : Int) ≤ 12
    · rw [docQ, if_pos hx]
      rcases decQ_some x l hx with ⟨q, e, hw, hk, hm, ha⟩ | e
      · have hc : candQ x.toNat l = q := by rw [← hk, ← ha]; exact cand_of q hw hm
        rw [hc, if_pos ⟨by rw [← ha]; exact ask4 q, hm, by rw [ha, hk, byteI_u8]⟩, e]
      · rw [e]
        by_cases h : 4 ≤ l.length ∧ mayQ (candQ x.toNat l) = true ∧ byteI (candQ x.toNat l).kind :: askQ (candQ x.toNat l) = x :: l
        · have h2 := mayQ_dec (candQ_wf x.toNat hx l) h.2.1
          rw [h.2.2, e] at h2
          injection h2 with _ h3
          cases h3
        · rw [if_neg h]
    · rw [decQ_none x l hx]
      rw [docQ, if_neg hx]
end Go.Proofs.Ytnafeppljnjbeaa
