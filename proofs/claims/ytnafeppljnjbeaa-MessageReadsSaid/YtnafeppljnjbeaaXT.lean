/-
  The walk of the document's DecodeResponse: the ways.
-/
import Derived.Test.YtnafeppljnjbeaaMU
import Derived.Test.YtnafeppljnjbeaaXC
import Derived.Test.YtnafeppljnjbeaaXR
import Derived.Test.YtnafeppljnjbeaaXN
import Derived.Test.YtnafeppljnjbeaaXV
import Derived.Test.YtnafeppljnjbeaaXH
import Derived.Test.YtnafeppljnjbeaaW20
import Derived.Test.YtnafeppljnjbeaaEN
import Derived.Deep.CutRange
import Derived.Deep.DeepCutAuto
import Derived.Deep.CutBlock
namespace Go.Proofs.Ytnafeppljnjbeaa
open Go Go.RowKit

section
variable {z : Rs} {l : List UInt8} {r : Rs × Wi}
theorem sback_ID (h : gID z (.rd l) = some r) : ∃ v l', r = ({ z with id := v }, .rd l') ∧ l = beR 4 v ++ l' ∧ U32 v := by
  simp only [gID, Option.map_eq_some_iff] at h
  obtain ⟨p, h1, rfl⟩ := h
  obtain ⟨v, l', rfl, e, hv⟩ := back_word h1
  exact ⟨v, l', rfl, e, hv⟩
theorem sback_Num (h : gNum z (.rd l) = some r) : ∃ v l', r = ({ z with num := v }, .rd l') ∧ l = beR 4 v ++ l' ∧ U32 v := by
  simp only [gNum, Option.map_eq_some_iff] at h
  obtain ⟨p, h1, rfl⟩ := h
  obtain ⟨v, l', rfl, e, hv⟩ := back_word h1
  exact ⟨v, l', rfl, e, hv⟩
theorem sback_Floor (h : gFloor z (.rd l) = some r) : ∃ v l', r = ({ z with floor := v }, .rd l') ∧ l = beR 8 v ++ l' ∧ I64 v := by
  simp only [gFloor, Option.map_eq_some_iff] at h
  obtain ⟨p, h1, rfl⟩ := h
  obtain ⟨v, l', rfl, e, hv⟩ := back_whole h1
  exact ⟨v, l', rfl, e, hv⟩
theorem sback_Err (h : gErr z (.rd l) = some r) : ∃ v l', r = ({ z with err := v }, .rd l') ∧ l = [byteI v] ++ l' ∧ 0 ≤ v ∧ v ≤ 16 := by
  simp only [gErr, Option.map_eq_some_iff] at h
  obtain ⟨p, h1, rfl⟩ := h
  obtain ⟨v, l', rfl, e, h0, h16, _⟩ := back_oct h1
  exact ⟨v, l', rfl, e, h0, h16⟩
theorem sback_Record (h : gRecord z (.rd l) = some r) : ∃ a b c p n v l', r = ({ z with rt := a, ro := b, rs := c, rp := p, rn := n, rv := v }, .rd l') ∧ l = beR 8 a ++ ([byteI b] ++ (beR 8 c ++ ([byteI p] ++ ([byteI n] ++ (beR 8 v ++ l'))))) ∧ I64 a ∧ (0 ≤ b ∧ b ≤ 255) ∧ I64 c ∧ (0 ≤ p ∧ p ≤ 255) ∧ (0 ≤ n ∧ n ≤ 255) ∧ I64 v := by
  simp only [gRecord, Option.bind_eq_some_iff, Option.map_eq_some_iff] at h
  obtain ⟨p1, h1, p2, h2, p3, h3, p4, h4, rfl⟩ := h
  obtain ⟨a, b, c, l1, rfl, rfl, ha, hb, hc⟩ := back_key h1
  obtain ⟨p, l2, rfl, rfl, p0, -, p9⟩ := back_oct h2
  obtain ⟨n, l3, rfl, rfl, n0, -, n9⟩ := back_oct h3
  obtain ⟨v, l4, rfl, rfl, hv⟩ := back_whole h4
  exact ⟨a, b, c, p, n, v, l4, rfl, rfl, ha, hb, hc, ⟨p0, p9⟩, ⟨n0, n9⟩, hv⟩
theorem sback_Event (h : gEvent z (.rd l) = some r) : ∃ a b c p n v l', r = ({ z with time := a, org := b, seq := c, pt := p, ek := n, dat := v }, .rd l') ∧ l = beR 8 a ++ ([byteI b] ++ (beR 8 c ++ ([byteI p] ++ ([byteI n] ++ (beR 8 v ++ l'))))) ∧ I64 a ∧ (0 ≤ b ∧ b ≤ 255) ∧ I64 c ∧ (0 ≤ p ∧ p ≤ 255) ∧ (0 ≤ n ∧ n ≤ 255) ∧ I64 v := by
  simp only [gEvent, Option.bind_eq_some_iff, Option.map_eq_some_iff] at h
  obtain ⟨p1, h1, p2, h2, rfl⟩ := h
  obtain ⟨a, b, c, l1, rfl, rfl, ha, hb, hc⟩ := back_key h1
  obtain ⟨p, n, v, l2, rfl, rfl, hp, hn, hv⟩ := back_content h2
  exact ⟨a, b, c, p, n, v, l2, rfl, rfl, ha, hb, hc, hp, hn, hv⟩
theorem back_wholes : ∀ (m : List Int) (l : List UInt8) (p : List Int × Wi), wholes m (.rd l) = some p → ∃ vs l', p = (vs, .rd l') ∧ l = bytesV vs ++ l' ∧ vs.length = m.length ∧ ∀ x ∈ vs, I64 x
  | [], l, p, h => by
    cases h
    exact ⟨[], l, rfl, rfl, rfl, fun x h => by cases h⟩
  | y :: t, l, p, h => by
    simp only [wholes, Option.bind_eq_some_iff, Option.map_eq_some_iff] at h
    obtain ⟨p1, h1, p2, h2, rfl⟩ := h
    obtain ⟨v, l1, rfl, rfl, hv⟩ := back_whole h1
    obtain ⟨vs, l2, rfl, e, hl, hI⟩ := back_wholes t l1 p2 h2
    refine ⟨v :: vs, l2, rfl, ?_, by simp [hl], fun x hx => ?_⟩
    · rw [e]
      simp [bytesV, List.append_assoc]
    · rcases List.mem_cons.1 hx with rfl | hx
      · exact hv
      · exact hI x hx
theorem sback_Vars (hz : z.vars = []) (h : gVars z (.rd l) = some r) : ∃ vs l', r = ({ z with vars := vs }, .rd l') ∧ l = ([byteI vs.length] ++ bytesV vs) ++ l' ∧ vs.length ≤ 8 ∧ ∀ x ∈ vs, I64 x := by
  simp only [gVars, hz, Option.bind_eq_some_iff, Option.map_eq_some_iff] at h
  obtain ⟨p1, h1, p2, h2, rfl⟩ := h
  obtain ⟨n, l1, rfl, rfl, n0, n8, -⟩ := back_oct h1
  rw [padV_nil] at h2
  obtain ⟨vs, l2, rfl, rfl, hl, hI⟩ := back_wholes _ _ _ h2
  rw [List.length_replicate] at hl
  have e : (vs.length : Int) = n := by dsimp only at hl; omega
  exact ⟨vs, l2, rfl, by rw [e, List.append_assoc], by omega, hI⟩
end
theorem mayS_of {q : Rs} (hk : 1 ≤ q.kind ∧ q.kind ≤ 5) (ho : oksS (tabG q.kind) q = true) (hb : backS q = q) : mayS q = true := by
  unfold mayS
  rw [hb, sameS_self, ho, decide_eq_true hk]
  rfl
theorem i64_16 {v : Int} (h : 0 ≤ v ∧ v ≤ 16) : I64 v := by unfold I64; omega
theorem passS_back_1 (l : List UInt8) (q : Rs) (h : passS ((tabG 1).map (·.f)) (zeroS 1) (.rd l) = some (q, .rd [])) : WfS q ∧ q.kind = 1 ∧ mayS q = true ∧ askS q = l := by
  rw [show tabG 1 = [nID, nErr, nFloor] from rfl] at h
  simp only [List.map_cons, List.map_nil, passS, Option.bind_eq_some_iff, Option.some.injEq] at h
  obtain ⟨p1, h1, p2, h2, p3, h3, e0⟩ := h
  obtain ⟨i, l1, rfl, rfl, hi⟩ := sback_ID (z := zeroS 1) h1
  obtain ⟨e, l2, rfl, rfl, he⟩ := sback_Err h2
  obtain ⟨f, l3, rfl, rfl, hf⟩ := sback_Floor h3
  injection e0 with e1 e2
  injection e2 with e2
  subst e1
  subst e2
  refine ⟨⟨(by show I64 1; unfold I64; decide), hi, i64_16 he, hf, (fun x h => by cases h), i64_zero, i64_zero, i64_zero, i64_zero, i64_zero, i64_zero, u32_zero, i64_zero, i64_zero, i64_zero, i64_zero, i64_zero, i64_zero, (by first | exact Nat.zero_le _ | decide)⟩, rfl, mayS_of ⟨(by show (1 : Int) ≤ 1; decide), (by show (1 : Int) ≤ 5; decide)⟩ ?_ rfl, ?_⟩
  · show oksS [nID, nErr, nFloor] _ = true
    simp only [oksS, List.all_cons, List.all_nil, Bool.and_eq_true]
    exact ⟨rfl, decide_eq_true he, rfl, trivial⟩
  · show outsS [nID, nErr, nFloor] _ = _
    simp [outsS, nID, nErr, nFloor]
theorem passS_back_2 (l : List UInt8) (q : Rs) (h : passS ((tabG 2).map (·.f)) (zeroS 2) (.rd l) = some (q, .rd [])) : WfS q ∧ q.kind = 2 ∧ mayS q = true ∧ askS q = l := by
  rw [show tabG 2 = [nID, nFloor, nVars] from rfl] at h
  simp only [List.map_cons, List.map_nil, passS, Option.bind_eq_some_iff, Option.some.injEq] at h
  obtain ⟨p1, h1, p2, h2, p3, h3, e0⟩ := h
  obtain ⟨i, l1, rfl, rfl, hi⟩ := sback_ID (z := zeroS 2) h1
  obtain ⟨f, l2, rfl, rfl, hf⟩ := sback_Floor h2
  obtain ⟨vs, l3, rfl, rfl, hs, hsI⟩ := sback_Vars (rfl) h3
  injection e0 with e1 e2
  injection e2 with e2
  subst e1
  subst e2
  refine ⟨⟨(by show I64 2; unfold I64; decide), hi, i64_zero, hf, hsI, i64_zero, i64_zero, i64_zero, i64_zero, i64_zero, i64_zero, u32_zero, i64_zero, i64_zero, i64_zero, i64_zero, i64_zero, i64_zero, Nat.le_trans hs (by decide)⟩, rfl, mayS_of ⟨(by show (1 : Int) ≤ 2; decide), (by show (2 : Int) ≤ 5; decide)⟩ ?_ rfl, ?_⟩
  · show oksS [nID, nFloor, nVars] _ = true
    simp only [oksS, List.all_cons, List.all_nil, Bool.and_eq_true]
    exact ⟨rfl, rfl, decide_eq_true hs, trivial⟩
  · show outsS [nID, nFloor, nVars] _ = _
    simp [outsS, nID, nFloor, nVars]
theorem passS_back_3 (l : List UInt8) (q : Rs) (h : passS ((tabG 3).map (·.f)) (zeroS 3) (.rd l) = some (q, .rd [])) : WfS q ∧ q.kind = 3 ∧ mayS q = true ∧ askS q = l := by
  rw [show tabG 3 = [nRecord] from rfl] at h
  simp only [List.map_cons, List.map_nil, passS, Option.bind_eq_some_iff, Option.some.injEq] at h
  obtain ⟨p1, h1, e0⟩ := h
  obtain ⟨a, b, c, p, n, v, l9, rfl, rfl, ha, hb, hc, hp, hn, hv⟩ := sback_Record (z := zeroS 3) h1
  injection e0 with e1 e2
  injection e2 with e2
  subst e1
  subst e2
  refine ⟨⟨(by show I64 3; unfold I64; decide), u32_zero, i64_zero, i64_zero, (fun x h => by cases h), ha, i64_small hb, hc, i64_small hp, i64_small hn, hv, u32_zero, i64_zero, i64_zero, i64_zero, i64_zero, i64_zero, i64_zero, (by first | exact Nat.zero_le _ | decide)⟩, rfl, mayS_of ⟨(by show (1 : Int) ≤ 3; decide), (by show (3 : Int) ≤ 5; decide)⟩ ?_ rfl, ?_⟩
  · show oksS [nRecord] _ = true
    simp only [oksS, List.all_cons, List.all_nil, Bool.and_eq_true]
    exact ⟨by show (in8 b && (in8 p && in8 n)) = true; rw [in8_of hb, in8_of hp, in8_of hn]; rfl, trivial⟩
  · show outsS [nRecord] _ = _
    simp [outsS, nRecord]
theorem passS_back_4 (l : List UInt8) (q : Rs) (h : passS ((tabG 4).map (·.f)) (zeroS 4) (.rd l) = some (q, .rd [])) : WfS q ∧ q.kind = 4 ∧ mayS q = true ∧ askS q = l := by
  rw [show tabG 4 = [nNum, nEvent] from rfl] at h
  simp only [List.map_cons, List.map_nil, passS, Option.bind_eq_some_iff, Option.some.injEq] at h
  obtain ⟨p1, h1, p2, h2, e0⟩ := h
  obtain ⟨u, l1, rfl, rfl, hu⟩ := sback_Num (z := zeroS 4) h1
  obtain ⟨a, b, c, p, n, v, l9, rfl, rfl, ha, hb, hc, hp, hn, hv⟩ := sback_Event h2
  injection e0 with e1 e2
  injection e2 with e2
  subst e1
  subst e2
  refine ⟨⟨(by show I64 4; unfold I64; decide), u32_zero, i64_zero, i64_zero, (fun x h => by cases h), i64_zero, i64_zero, i64_zero, i64_zero, i64_zero, i64_zero, hu, ha, i64_small hb, hc, i64_small hp, i64_small hn, hv, (by first | exact Nat.zero_le _ | decide)⟩, rfl, mayS_of ⟨(by show (1 : Int) ≤ 4; decide), (by show (4 : Int) ≤ 5; decide)⟩ ?_ rfl, ?_⟩
  · show oksS [nNum, nEvent] _ = true
    simp only [oksS, List.all_cons, List.all_nil, Bool.and_eq_true]
    exact ⟨rfl, by show (in8 b && (in8 p && in8 n)) = true; rw [in8_of hb, in8_of hp, in8_of hn]; rfl, trivial⟩
  · show outsS [nNum, nEvent] _ = _
    simp [outsS, nNum, nEvent]
theorem passS_back_5 (l : List UInt8) (q : Rs) (h : passS ((tabG 5).map (·.f)) (zeroS 5) (.rd l) = some (q, .rd [])) : WfS q ∧ q.kind = 5 ∧ mayS q = true ∧ askS q = l := by
  rw [show tabG 5 = [nErr] from rfl] at h
  simp only [List.map_cons, List.map_nil, passS, Option.bind_eq_some_iff, Option.some.injEq] at h
  obtain ⟨p1, h1, e0⟩ := h
  obtain ⟨e, l1, rfl, rfl, he⟩ := sback_Err (z := zeroS 5) h1
  injection e0 with e1 e2
  injection e2 with e2
  subst e1
  subst e2
  refine ⟨⟨(by show I64 5; unfold I64; decide), u32_zero, i64_16 he, i64_zero, (fun x h => by cases h), i64_zero, i64_zero, i64_zero, i64_zero, i64_zero, i64_zero, u32_zero, i64_zero, i64_zero, i64_zero, i64_zero, i64_zero, i64_zero, (by first | exact Nat.zero_le _ | decide)⟩, rfl, mayS_of ⟨(by show (1 : Int) ≤ 5; decide), (by show (5 : Int) ≤ 5; decide)⟩ ?_ rfl, ?_⟩
  · show oksS [nErr] _ = true
    simp only [oksS, List.all_cons, List.all_nil, Bool.and_eq_true]
    exact ⟨decide_eq_true he, trivial⟩
  · show outsS [nErr] _ = _
    simp [outsS, nErr]
theorem passS_back (k : Int) (hk : 1 ≤ k ∧ k ≤ 5) (l : List UInt8) (q : Rs) (h : passS ((tabG k).map (·.f)) (zeroS k) (.rd l) = some (q, .rd [])) : WfS q ∧ q.kind = k ∧ mayS q = true ∧ askS q = l := by
  obtain ⟨n, rfl⟩ : ∃ n : Nat, k = n := ⟨k.toNat, by omega⟩
  have h1 : 1 ≤ n := by omega
  have h2 : n < 6 := by omega
  rcases n with _ | _ | _ | _ | _ | _ | m
  · omega
  · exact passS_back_1 l q h
  · exact passS_back_2 l q h
  · exact passS_back_3 l q h
  · exact passS_back_4 l q h
  · exact passS_back_5 l q h
  · omega
theorem decS_none (x : UInt8) (l : List UInt8) (h : ¬ (1 ≤ (x.toNat : Int) ∧ (x.toNat : Int) ≤ 5)) : decS (x :: l) = (zeroS 0, 12) := by
  have ht := tabS_tabG x.toNat
  rw [if_neg h] at ht
  have hn : tabS x.toNat = none := by
    cases e : tabS x.toNat with
    | none => rfl
    | some fs => rw [e] at ht; cases ht
  simp only [decS, hn]
theorem decS_some (x : UInt8) (l : List UInt8) (h : 1 ≤ (x.toNat : Int) ∧ (x.toNat : Int) ≤ 5) : (∃ q, decS (x :: l) = (q, 0) ∧ WfS q ∧ q.kind = x.toNat ∧ mayS q = true ∧ askS q = l) ∨ decS (x :: l) = (zeroS 0, 14) := by
  have ht := tabS_tabG x.toNat
  rw [if_pos h] at ht
  obtain ⟨fs, hfs, hmap⟩ : ∃ fs, tabS x.toNat = some fs ∧ fs.map (·.2) = (tabG x.toNat).map (·.f) := by
    cases e : tabS x.toNat with
    | none => rw [e] at ht; cases ht
    | some fs => rw [e] at ht; exact ⟨fs, rfl, Option.some.inj ht⟩
  simp only [decS, hfs, hmap]
  cases e : passS ((tabG x.toNat).map (·.f)) (zeroS x.toNat) (.rd l) with
  | none => exact .inr rfl
  | some r =>
    obtain ⟨q, S⟩ := r
    cases S with
    | wr o => exact .inr rfl
    | rd r =>
      cases r with
      | cons y t => exact .inr rfl
      | nil =>
        have hp := passS_back _ h l q e
        exact .inl ⟨q, rfl, hp⟩
/-- so many numbers of eight bytes -/
def varsA : Nat → List UInt8 → List Int
  | 0, _ => []
  | n + 1, l => longA (l.take 8) :: varsA n (l.drop 8)
theorem varsA_len : ∀ (n : Nat) (l : List UInt8), (varsA n l).length = n
  | 0, _ => rfl
  | n + 1, l => by simp [varsA, varsA_len n]
theorem varsA_get : ∀ (n : Nat) (l : List UInt8) (i : Nat), i < n → (varsA n l)[i]? = some (longA ((l.drop (8 * i)).take 8))
  | 0, _, i, h => by omega
  | n + 1, l, 0, _ => by simp [varsA]
  | n + 1, l, i + 1, h => by
    show (varsA n (l.drop 8))[i]? = _
    rw [varsA_get n _ i (by omega), List.drop_drop, show 8 + 8 * i = 8 * (i + 1) by omega]
theorem varsA_I : ∀ (n : Nat) (l : List UInt8), ∀ x ∈ varsA n l, I64 x
  | 0, _, x, h => by cases h
  | n + 1, l, x, h => by
    rcases List.mem_cons.1 h with rfl | h
    · exact wrap64_I _
    · exact varsA_I n _ x h
theorem varsA_bytes : ∀ (vs : List Int), (∀ x ∈ vs, I64 x) → varsA vs.length (bytesV vs) = vs
  | [], _ => rfl
  | x :: t, h => by
    have e : bytesV (x :: t) = beR 8 x ++ bytesV t := by simp [bytesV]
    show longA ((bytesV (x :: t)).take 8) :: varsA t.length ((bytesV (x :: t)).drop 8) = _
    rw [e, List.drop_left' (beR_len 8 x), varsA_bytes t fun y hy => h y (List.mem_cons_of_mem _ hy)]
    have := n8 (h x (List.mem_cons_self ..)) (bytesV t)
    unfold longA
    rw [this]
/-- the response that bytes behind its kind would be -/
def candS (k : Int) (l : List UInt8) : Rs :=
  if k = 1 ∧ l.length = 13 then { zeroS k with id := numOf (l.take 4), err := octA l 4, floor := longA (l.drop 5) }
  else if k = 2 ∧ 13 ≤ l.length ∧ octA l 12 ≤ 8 ∧ (l.length : Int) = 13 + 8 * octA l 12 then { zeroS k with id := numOf (l.take 4), floor := longA ((l.drop 4).take 8), vars := varsA (octA l 12).toNat (l.drop 13) }
  else if k = 3 ∧ l.length = 27 then { zeroS k with rt := longA (l.take 8), ro := octA l 8, rs := longA ((l.drop 9).take 8), rp := octA l 17, rn := octA l 18, rv := longA (l.drop 19) }
  else if k = 4 ∧ l.length = 31 then { zeroS k with num := numOf (l.take 4), time := longA ((l.drop 4).take 8), org := octA (l.drop 4) 8, seq := longA (((l.drop 4).drop 9).take 8), pt := octA l 21, ek := octA l 22, dat := longA (l.drop 23) }
  else if k = 5 ∧ l.length = 1 then { zeroS k with err := octA l 0 }
  else zeroS k
theorem candS_len (k : Int) (l : List UInt8) : (candS k l).vars.length ≤ 8 := by
  unfold candS
  repeat' split
  all_goals first
    | exact Nat.zero_le _
    | (rename_i h; show (varsA (octA l 12).toNat (l.drop 13)).length ≤ 8; rw [varsA_len]; have := h.2.2.1; have := octA_bd l 12; omega)
theorem candS_wf (k : Int) (hk : 1 ≤ k ∧ k ≤ 5) (l : List UInt8) : WfS (candS k l) := by
  have hk' : I64 k := by unfold I64; omega
  have hI := num4_bd l
  have hO : ∀ j, I64 (octA l j) := fun j => i64_small (octA_bd _ j)
  have hO4 : ∀ j, I64 (octA (l.drop 4) j) := fun j => i64_small (octA_bd _ j)
  have hL : ∀ r, I64 (longA r) := fun r => wrap64_I _
  have hlen := candS_len k l
  have hb := octA_bd l 12
  clear hlen
  unfold candS
  repeat' split
  · exact ⟨hk', hI, hO _, hL _, (fun x h => by cases h), i64_zero, i64_zero, i64_zero, i64_zero, i64_zero, i64_zero, u32_zero, i64_zero, i64_zero, i64_zero, i64_zero, i64_zero, i64_zero, Nat.zero_le _⟩
  · exact ⟨hk', hI, i64_zero, hL _, varsA_I _ _, i64_zero, i64_zero, i64_zero, i64_zero, i64_zero, i64_zero, u32_zero, i64_zero, i64_zero, i64_zero, i64_zero, i64_zero, i64_zero, (by show (varsA (octA l 12).toNat (l.drop 13)).length ≤ _; rw [varsA_len]; omega)⟩
  · exact ⟨hk', u32_zero, i64_zero, i64_zero, (fun x h => by cases h), hL _, hO _, hL _, hO _, hO _, hL _, u32_zero, i64_zero, i64_zero, i64_zero, i64_zero, i64_zero, i64_zero, Nat.zero_le _⟩
  · exact ⟨hk', u32_zero, i64_zero, i64_zero, (fun x h => by cases h), i64_zero, i64_zero, i64_zero, i64_zero, i64_zero, i64_zero, hI, hL _, hO4 _, hL _, hO _, hO _, hL _, Nat.zero_le _⟩
  · exact ⟨hk', u32_zero, hO _, i64_zero, (fun x h => by cases h), i64_zero, i64_zero, i64_zero, i64_zero, i64_zero, i64_zero, u32_zero, i64_zero, i64_zero, i64_zero, i64_zero, i64_zero, i64_zero, Nat.zero_le _⟩
  · exact ⟨hk', u32_zero, i64_zero, i64_zero, (fun x h => by cases h), i64_zero, i64_zero, i64_zero, i64_zero, i64_zero, i64_zero, u32_zero, i64_zero, i64_zero, i64_zero, i64_zero, i64_zero, i64_zero, Nat.zero_le _⟩
theorem candS_kind (k : Int) (l : List UInt8) : (candS k l).kind = k := by
  unfold candS
  repeat' split
  all_goals rfl
theorem six {a b c p n v : Int} (ha : I64 a) (hb : 0 ≤ b ∧ b ≤ 255) (hc : I64 c) (hp : 0 ≤ p ∧ p ≤ 255) (hn : 0 ≤ n ∧ n ≤ 255) (hv : I64 v) (X : List UInt8) (hX : X = beR 8 a ++ ([byteI b] ++ (beR 8 c ++ ([byteI p] ++ ([byteI n] ++ beR 8 v))))) :
    longA (X.take 8) = a ∧ octA X 8 = b ∧ longA ((X.drop 9).take 8) = c ∧ octA X 17 = p ∧ octA X 18 = n ∧ longA (X.drop 19) = v ∧ X.length = 27 := by
  have e9 : X.drop 9 = beR 8 c ++ ([byteI p] ++ ([byteI n] ++ beR 8 v)) := by rw [hX, dB 8 a _ 1]; rfl
  refine ⟨by rw [hX]; exact n8 ha _, ?_, by rw [e9]; exact n8 hc _, ?_, ?_, ?_, by rw [hX]; simp [beR_len]⟩
  · unfold octA
    rw [hX, gB 8 a _ 0]
    exact byteI_small hb.1 hb.2
  · unfold octA
    rw [hX, gB 8 a _ 9]
    show (((beR 8 c ++ ([byteI p] ++ ([byteI n] ++ beR 8 v))).getD (8 + 0) 0).toNat : Int) = p
    rw [gB 8 c _ 0]
    exact byteI_small hp.1 hp.2
  · unfold octA
    rw [hX, gB 8 a _ 10]
    show (((beR 8 c ++ ([byteI p] ++ ([byteI n] ++ beR 8 v))).getD (8 + 1) 0).toNat : Int) = n
    rw [gB 8 c _ 1]
    exact byteI_small hn.1 hn.2
  · rw [hX, dB 8 a _ 11]
    show longA ((beR 8 c ++ ([byteI p] ++ ([byteI n] ++ beR 8 v))).drop (8 + 2)) = v
    rw [dB 8 c _ 2]
    exact w8 hv
theorem cand_ofS_1 (q : Rs) (hk : q.kind = 1) (hw : WfS q) (h : mayS q = true) : candS 1 (askS q) = q := by
  have hb := mayS_back h
  have ho : oksS (tabG q.kind) q = true := by unfold mayS at h; simp at h; exact h.1.2
  clear h
  unfold backS at hb
  unfold askS
  rw [hk] at hb ho ⊢
  rw [show tabG 1 = [nID, nErr, nFloor] from rfl] at hb ho ⊢
  obtain ⟨hkind, hid, herr, hfloor, hvars, hrt, hro, hrs, hrp, hrn, hrv, hnum, htime, horg, hseq, hpt, hek, hdat, hlen⟩ := hw
  obtain ⟨k, i, er, fl, vs, rt, ro, rs, rp, rn, rv, nu, ti, og, sq, pt, ek, da⟩ := q
  dsimp only at *
  simp only [setsS, List.foldl_cons, List.foldl_nil, zeroS, nID, nErr, nFloor, Rs.mk.injEq, true_and] at hb
  obtain ⟨rfl, rfl, rfl, rfl, rfl, rfl, rfl, rfl, rfl, rfl, rfl, rfl, rfl, rfl, rfl⟩ := hb
  simp only [oksS, List.all_cons, List.all_nil, Bool.and_true, Bool.and_eq_true, decide_eq_true_eq, true_and, nID, nErr, nFloor] at ho
  simp only [outsS, List.flatMap_cons, List.flatMap_nil, List.append_nil, nID, nErr, nFloor]
  have hl : (beR 4 i ++ ([byteI er] ++ beR 8 fl)).length = 13 := by simp [beR_len]
  have e1 : octA (beR 4 i ++ ([byteI er] ++ beR 8 fl)) 4 = er := by unfold octA; rw [gB 4 i _ 0]; exact byteI_small ho.1 (by omega)
  have e2 : longA ((beR 4 i ++ ([byteI er] ++ beR 8 fl)).drop 5) = fl := by rw [dB 4 i _ 1]; exact w8 hfloor
  unfold candS
  rw [if_pos ⟨rfl, hl⟩, n4 hid, e1, e2]
  rfl
theorem cand_ofS_2 (q : Rs) (hk : q.kind = 2) (hw : WfS q) (h : mayS q = true) : candS 2 (askS q) = q := by
  have hb := mayS_back h
  have ho : oksS (tabG q.kind) q = true := by unfold mayS at h; simp at h; exact h.1.2
  clear h
  unfold backS at hb
  unfold askS
  rw [hk] at hb ho ⊢
  rw [show tabG 2 = [nID, nFloor, nVars] from rfl] at hb ho ⊢
  obtain ⟨hkind, hid, herr, hfloor, hvars, hrt, hro, hrs, hrp, hrn, hrv, hnum, htime, horg, hseq, hpt, hek, hdat, hlen⟩ := hw
  obtain ⟨k, i, er, fl, vs, rt, ro, rs, rp, rn, rv, nu, ti, og, sq, pt, ek, da⟩ := q
  dsimp only at *
  simp only [setsS, List.foldl_cons, List.foldl_nil, zeroS, nID, nFloor, nVars, Rs.mk.injEq, true_and] at hb
  obtain ⟨rfl, rfl, rfl, rfl, rfl, rfl, rfl, rfl, rfl, rfl, rfl, rfl, rfl, rfl, rfl⟩ := hb
  simp only [oksS, List.all_cons, List.all_nil, Bool.and_true, Bool.and_eq_true, decide_eq_true_eq, true_and, nID, nFloor, nVars] at ho
  simp only [outsS, List.flatMap_cons, List.flatMap_nil, List.append_nil, nID, nFloor, nVars]
  obtain ⟨X, hX⟩ : ∃ X, X = beR 4 i ++ (beR 8 fl ++ ([byteI (vs.length : Int)] ++ bytesV vs)) := ⟨_, rfl⟩
  have hl : X.length = 13 + 8 * vs.length := by rw [hX]; simp [beR_len, bytesV_len]; omega
  have e1 : octA X 12 = vs.length := by unfold octA; rw [hX, gB 4 i _ 8, gB 8 fl _ 0]; exact byteI_small (by omega) (by omega)
  have e2 : longA ((X.drop 4).take 8) = fl := by rw [hX, dB 4 i _ 0, List.drop_zero]; exact n8 hfloor _
  have e3 : X.drop 13 = bytesV vs := by rw [hX, dB 4 i _ 9, dB 8 fl _ 1]; rfl
  have e4 : numOf (X.take 4) = i := by rw [hX]; exact n4 hid _
  rw [← hX]
  unfold candS
  rw [if_neg (fun x => by have := x.1; omega), if_pos ⟨rfl, by omega, by omega, by omega⟩, e1, e2, e3, e4, Int.toNat_natCast, varsA_bytes vs hvars]
  rfl
theorem cand_ofS_3 (q : Rs) (hk : q.kind = 3) (hw : WfS q) (h : mayS q = true) : candS 3 (askS q) = q := by
  have hb := mayS_back h
  have ho : oksS (tabG q.kind) q = true := by unfold mayS at h; simp at h; exact h.1.2
  clear h
  unfold backS at hb
  unfold askS
  rw [hk] at hb ho ⊢
  rw [show tabG 3 = [nRecord] from rfl] at hb ho ⊢
  obtain ⟨hkind, hid, herr, hfloor, hvars, hrt, hro, hrs, hrp, hrn, hrv, hnum, htime, horg, hseq, hpt, hek, hdat, hlen⟩ := hw
  obtain ⟨k, i, er, fl, vs, rt, ro, rs, rp, rn, rv, nu, ti, og, sq, pt, ek, da⟩ := q
  dsimp only at *
  simp only [setsS, List.foldl_cons, List.foldl_nil, zeroS, nRecord, Rs.mk.injEq, true_and] at hb
  obtain ⟨rfl, rfl, rfl, rfl, rfl, rfl, rfl, rfl, rfl, rfl, rfl, rfl⟩ := hb
  simp only [oksS, List.all_cons, List.all_nil, Bool.and_true, Bool.and_eq_true, in8_iff, nRecord] at ho
  simp only [outsS, List.flatMap_cons, List.flatMap_nil, List.append_nil, List.append_assoc, nRecord]
  obtain ⟨X, hX⟩ : ∃ X, X = beR 8 rt ++ ([byteI ro] ++ (beR 8 rs ++ ([byteI rp] ++ ([byteI rn] ++ beR 8 rv)))) := ⟨_, rfl⟩
  rw [← hX]
  obtain ⟨e1, e2, e3, e4, e5, e6, e7⟩ := six hrt ho.1 hrs ho.2.1 ho.2.2 hrv X hX
  unfold candS
  rw [if_neg (fun x => by have := x.1; omega), if_neg (fun x => by have := x.1; omega), if_pos ⟨rfl, e7⟩, e1, e2, e3, e4, e5, e6]
  rfl
theorem cand_ofS_4 (q : Rs) (hk : q.kind = 4) (hw : WfS q) (h : mayS q = true) : candS 4 (askS q) = q := by
  have hb := mayS_back h
  have ho : oksS (tabG q.kind) q = true := by unfold mayS at h; simp at h; exact h.1.2
  clear h
  unfold backS at hb
  unfold askS
  rw [hk] at hb ho ⊢
  rw [show tabG 4 = [nNum, nEvent] from rfl] at hb ho ⊢
  obtain ⟨hkind, hid, herr, hfloor, hvars, hrt, hro, hrs, hrp, hrn, hrv, hnum, htime, horg, hseq, hpt, hek, hdat, hlen⟩ := hw
  obtain ⟨k, i, er, fl, vs, rt, ro, rs, rp, rn, rv, nu, ti, og, sq, pt, ek, da⟩ := q
  dsimp only at *
  simp only [setsS, List.foldl_cons, List.foldl_nil, zeroS, nNum, nEvent, Rs.mk.injEq, and_true] at hb
  obtain ⟨rfl, rfl, rfl, rfl, rfl, rfl, rfl, rfl, rfl, rfl, rfl⟩ := hb
  simp only [oksS, List.all_cons, List.all_nil, Bool.and_true, Bool.and_eq_true, in8_iff, true_and, nNum, nEvent] at ho
  simp only [outsS, List.flatMap_cons, List.flatMap_nil, List.append_nil, List.append_assoc, nNum, nEvent]
  obtain ⟨X, hX⟩ : ∃ X, X = beR 8 ti ++ ([byteI og] ++ (beR 8 sq ++ ([byteI pt] ++ ([byteI ek] ++ beR 8 da)))) := ⟨_, rfl⟩
  rw [← hX]
  obtain ⟨e1, e2, e3, e4, e5, e6, e7⟩ := six htime ho.1 hseq ho.2.1 ho.2.2 hdat X hX
  have h0 : (beR 4 nu ++ X).drop 4 = X := by have := dB 4 nu X 0; rw [Nat.add_zero, List.drop_zero] at this; exact this
  have h1 : octA (beR 4 nu ++ X) 21 = pt := by rw [← e4]; unfold octA; rw [gB 4 nu X 17]
  have h2 : octA (beR 4 nu ++ X) 22 = ek := by rw [← e5]; unfold octA; rw [gB 4 nu X 18]
  have h3 : longA ((beR 4 nu ++ X).drop 23) = da := by rw [← e6, dB 4 nu X 19]
  have hl : (beR 4 nu ++ X).length = 31 := by rw [List.length_append, beR_len, e7]
  unfold candS
  rw [if_neg (fun x => by have := x.1; omega), if_neg (fun x => by have := x.1; omega), if_neg (fun x => by have := x.1; omega), if_pos ⟨rfl, hl⟩, h0, h1, h2, h3, n4 hnum, e1, e2, e3]
  rfl
theorem cand_ofS_5 (q : Rs) (hk : q.kind = 5) (hw : WfS q) (h : mayS q = true) : candS 5 (askS q) = q := by
  have hb := mayS_back h
  have ho : oksS (tabG q.kind) q = true := by unfold mayS at h; simp at h; exact h.1.2
  clear h
  unfold backS at hb
  unfold askS
  rw [hk] at hb ho ⊢
  rw [show tabG 5 = [nErr] from rfl] at hb ho ⊢
  obtain ⟨hkind, hid, herr, hfloor, hvars, hrt, hro, hrs, hrp, hrn, hrv, hnum, htime, horg, hseq, hpt, hek, hdat, hlen⟩ := hw
  obtain ⟨k, i, er, fl, vs, rt, ro, rs, rp, rn, rv, nu, ti, og, sq, pt, ek, da⟩ := q
  dsimp only at *
  simp only [setsS, List.foldl_cons, List.foldl_nil, zeroS, nErr, Rs.mk.injEq, true_and] at hb
  obtain ⟨rfl, rfl, rfl, rfl, rfl, rfl, rfl, rfl, rfl, rfl, rfl, rfl, rfl, rfl, rfl, rfl, rfl⟩ := hb
  simp only [oksS, List.all_cons, List.all_nil, Bool.and_true, decide_eq_true_eq, nErr] at ho
  simp only [outsS, List.flatMap_cons, List.flatMap_nil, List.append_nil, nErr]
  unfold candS
  rw [if_neg (fun x => by have := x.1; omega), if_neg (fun x => by have := x.1; omega), if_neg (fun x => by have := x.1; omega), if_neg (fun x => by have := x.1; omega), if_pos ⟨rfl, rfl⟩, octA_cons0 _ _ ⟨ho.1, by omega⟩]
  rfl
theorem cand_ofS (q : Rs) (hw : WfS q) (h : mayS q = true) : candS q.kind (askS q) = q := by
  have hk : 1 ≤ q.kind ∧ q.kind ≤ 5 := by unfold mayS at h; simp at h; exact h.1.1
  obtain ⟨n, hn⟩ : ∃ n : Nat, q.kind = n := ⟨q.kind.toNat, by omega⟩
  rw [hn]
  have h1 : 1 ≤ n := by omega
  have h2 : n < 6 := by omega
  rcases n with _ | _ | _ | _ | _ | _ | m
  · omega
  · exact cand_ofS_1 q hn hw h
  · exact cand_ofS_2 q hn hw h
  · exact cand_ofS_3 q hn hw h
  · exact cand_ofS_4 q hn hw h
  · exact cand_ofS_5 q hn hw h
  · omega
/-- what bytes are, as the document reads them -/
def docS : List UInt8 → Rs × Int
  | [] => (zeroS 0, 12)
  | x :: l => if 1 ≤ (x.toNat : Int) ∧ (x.toNat : Int) ≤ 5 then if mayS (candS x.toNat l) = true ∧ byteI (candS x.toNat l).kind :: askS (candS x.toNat l) = x :: l then (candS x.toNat l, 0) else (zeroS 0, 14) else (zeroS 0, 12)
theorem docS_eq (b : List UInt8) : docS b = decS b := by
  cases b with
  | nil => rfl
  | cons x l =>
    by_cases hx : 1 ≤ (x.toNat : Int) ∧ (x.toNat : Int) ≤ 5
    · rw [docS, if_pos hx]
      rcases decS_some x l hx with ⟨q, e, hw, hk, hm, ha⟩ | e
      · have hc : candS x.toNat l = q := by rw [← hk, ← ha]; exact cand_ofS q hw hm
        rw [hc, if_pos ⟨hm, by rw [ha, hk, byteI_u8]⟩, e]
      · rw [e]
        by_cases h : mayS (candS x.toNat l) = true ∧ byteI (candS x.toNat l).kind :: askS (candS x.toNat l) = x :: l
        · have h2 := mayS_dec (candS_wf x.toNat hx l) h.1
          rw [h.2, e] at h2
          injection h2 with _ h3
          cases h3
        · rw [if_neg h]
    · rw [decS_none x l hx, docS, if_neg hx]
end Go.Proofs.Ytnafeppljnjbeaa
namespace Go.Proofs.Ytnafeppljnjbeaa
open Go Go.RowKit Go.Sort Go.Proofs

set_option maxHeartbeats 8000000 in
set_option maxRecDepth 100000 in
theorem rds_nil (w : World) (a : Option Addr) (c : Nat) : Calls Try.prog 22 #[.slice a 0 c] w (DecToS w (zeroS 0, 12)) := by
  go_enter Try.func22, Try.ntmps22
  go_upto_region 1 with fail
  generalize hw1 : World.alloc _ _ = w1
  have hb1 : Below w.heap.size w w1 := by rw [← hw1]; exact (Below.refl _ _).alloc (Nat.le_refl _) _
  have hx1 : w1.heap[w.heap.size]? = some (.cells (RsC (zeroS 0) (.slice none 0 0)) 47 (0, 0)) := by rw [← hw1]; exact heap_alloc_new _ _
  have H1 := Lib.hid (And.intro hb1 (And.intro hx1 (Array.getElem?_eq_some_iff.1 hx1).1))
  clear hb1 hx1 hw1
  go_upto_region 2 with (first
    | (show wpList _ _ _ (Oper.mk _ (.store _ (.tmp 4) (.tmp 8)) _ _ _ _ :: _) _ _; refine wpList_store_row rfl 47 (.tmp 4) (.tmp 8) rfl w1.heap.size (RsC (zeroS 0) (.slice none 0 0)) rfl rfl 47 (RsC (zeroS 0) (.slice none 0 0)) (heap_alloc_new _ _) (infoS _ _) rfl (RsC_one _ _ _ _) ?_; generalize hw2 : World.setRow _ _ _ = w2; have g1 : Below w1.heap.size w1 w2 := (by rw [← hw2]; exact (grow_row w1 _ _ _).1); have g2 : w2.heap[w1.heap.size]? = some (.cells (RsC (zeroS 0) (.slice none 0 0)) 47 (0, 0)) := (by rw [← hw2]; exact (grow_row w1 _ _ _).2); have H2 : Hid (Below w.heap.size w w2 ∧ w2.heap[w.heap.size]? = some (.cells (RsC (zeroS 0) (.slice none 0 0)) 47 (0, 0)) ∧ w2.heap[w1.heap.size]? = some (.cells (RsC (zeroS 0) (.slice none 0 0)) 47 (0, 0)) ∧ w1.heap.size < w2.heap.size ∧ w.heap.size < w1.heap.size) := Lib.hid ⟨H1.out.1.trans (g1.mono H1.out.1.size), (g1.block _ H1.out.2.2).trans H1.out.2.1, g2, (Array.getElem?_eq_some_iff.1 g2).1, H1.out.2.2⟩; clear hw2 g1 g2)
    | fail)
  have HN := H2
  go_wp2_with (first
    | (show wpList _ _ _ (Oper.mk _ (.load _ (.tmp 4)) _ _ _ _ :: _) _ _; refine wpList_load_row rfl 47 (.tmp 4) rfl w1.heap.size rfl 47 (RsC (zeroS 0) (.slice none 0 0)) (0, 0) _ HN.out.2.2.1 Try.underlying47 rfl (infoS _ _) ?_)
    | (show wpList _ _ _ (Oper.mk _ (.store _ (.tmp 2) (.tmp 24)) _ _ _ _ :: _) _ _; refine wpList_store_row rfl 47 (.tmp 2) (.tmp 24) rfl w.heap.size (RsC (zeroS 0) (.slice none 0 0)) rfl rfl 47 _ HN.out.2.1 (infoS _ _) rfl (RsC_one _ _ _ _) ?_)
    | fail)
  exact ⟨rfl, _, results_two rfl _ _ (w.heap.size) 47 (RsC (zeroS 0) (.slice none 0 0)) (0, 0) _ rfl (setRow_heap _ _ _ _ _ _ HN.out.2.1) Try.underlying47 rfl (infoS _ _), none, 0, rfl, Nat.le_refl _, CV_nil _ _, fun p e => (by cases e), ⟨by decide, by decide⟩, ⟨by decide, by decide⟩, below_setRow HN.out.1 (Nat.le_refl _) _⟩
set_option maxHeartbeats 8000000 in
set_option maxRecDepth 100000 in
theorem rds_low (w : World) (B off n c : Nat) (x : UInt8) (l : List UInt8) (hb : CB.At w (some ⟨B, off, none⟩) n (x :: l)) (hx : (x.toNat : Int) < 1) : Calls Try.prog 22 #[.slice (some ⟨B, off, none⟩) n c] w (DecToS w (zeroS 0, 12)) := by
  have hn0 : 0 < n := by have := hb.1; simp at this; omega
  have hnz : ((n : Int) == 0) = false := by simp; omega
  obtain ⟨B', off', e, y, hy, hc0⟩ := CB_cell hb (i := 0) hn0
  cases e
  cases hy
  rw [Nat.add_zero] at hc0
  obtain ⟨z, hz⟩ : ∃ z : Int, z = (x.toNat : Int) := ⟨_, rfl⟩
  rw [← hz] at hc0 hx
  have bx0 : decide (z < 1) = true := decide_eq_true (by omega)
  clear hx hz
  go_enter Try.func22, Try.ntmps22
  go_upto_region 1 with fail
  generalize hw1 : World.alloc _ _ = w1
  have hb1 : Below w.heap.size w w1 := by rw [← hw1]; exact (Below.refl _ _).alloc (Nat.le_refl _) _
  have hx1 : w1.heap[w.heap.size]? = some (.cells (RsC (zeroS 0) (.slice none 0 0)) 47 (0, 0)) := by rw [← hw1]; exact heap_alloc_new _ _
  have H1 := Lib.hid (And.intro hb1 (And.intro hx1 (Array.getElem?_eq_some_iff.1 hx1).1))
  clear hb1 hx1 hw1
  go_upto_region 2 with (first
    | (show wpList _ _ _ (Oper.mk _ (.store _ (.tmp 4) (.tmp 8)) _ _ _ _ :: _) _ _; refine wpList_store_row rfl 47 (.tmp 4) (.tmp 8) rfl w1.heap.size (RsC (zeroS 0) (.slice none 0 0)) rfl rfl 47 (RsC (zeroS 0) (.slice none 0 0)) (heap_alloc_new _ _) (infoS _ _) rfl (RsC_one _ _ _ _) ?_; generalize hw2 : World.setRow _ _ _ = w2; have g1 : Below w1.heap.size w1 w2 := (by rw [← hw2]; exact (grow_row w1 _ _ _).1); have g2 : w2.heap[w1.heap.size]? = some (.cells (RsC (zeroS 0) (.slice none 0 0)) 47 (0, 0)) := (by rw [← hw2]; exact (grow_row w1 _ _ _).2); have H2 : Hid (Below w.heap.size w w2 ∧ w2.heap[w.heap.size]? = some (.cells (RsC (zeroS 0) (.slice none 0 0)) 47 (0, 0)) ∧ w2.heap[w1.heap.size]? = some (.cells (RsC (zeroS 0) (.slice none 0 0)) 47 (0, 0)) ∧ w1.heap.size < w2.heap.size ∧ w.heap.size < w1.heap.size) := Lib.hid ⟨H1.out.1.trans (g1.mono H1.out.1.size), (g1.block _ H1.out.2.2).trans H1.out.2.1, g2, (Array.getElem?_eq_some_iff.1 g2).1, H1.out.2.2⟩; clear hw2 g1 g2)
    | fail)
  have HN := H2
  have hc2 := cell_below hc0 H2.out.1
  go_wp2_with (first
    | (show wpList _ _ _ (Oper.mk _ (.load _ (.tmp 4)) _ _ _ _ :: _) _ _; refine wpList_load_row rfl 47 (.tmp 4) rfl w1.heap.size rfl 47 (RsC (zeroS 0) (.slice none 0 0)) (0, 0) _ HN.out.2.2.1 Try.underlying47 rfl (infoS _ _) ?_)
    | (show wpList _ _ _ (Oper.mk _ (.store _ (.tmp 2) (.tmp 24)) _ _ _ _ :: _) _ _; refine wpList_store_row rfl 47 (.tmp 2) (.tmp 24) rfl w.heap.size (RsC (zeroS 0) (.slice none 0 0)) rfl rfl 47 _ HN.out.2.1 (infoS _ _) rfl (RsC_one _ _ _ _) ?_)
    | fail)
  exact ⟨rfl, _, results_two rfl _ _ (w.heap.size) 47 (RsC (zeroS 0) (.slice none 0 0)) (0, 0) _ rfl (setRow_heap _ _ _ _ _ _ HN.out.2.1) Try.underlying47 rfl (infoS _ _), none, 0, rfl, Nat.le_refl _, CV_nil _ _, fun p e => (by cases e), ⟨by decide, by decide⟩, ⟨by decide, by decide⟩, below_setRow HN.out.1 (Nat.le_refl _) _⟩
set_option maxHeartbeats 8000000 in
set_option maxRecDepth 100000 in
theorem rds_high (w : World) (B off n c : Nat) (x : UInt8) (l : List UInt8) (hb : CB.At w (some ⟨B, off, none⟩) n (x :: l)) (hx : 5 < (x.toNat : Int)) : Calls Try.prog 22 #[.slice (some ⟨B, off, none⟩) n c] w (DecToS w (zeroS 0, 12)) := by
  have hn0 : 0 < n := by have := hb.1; simp at this; omega
  have hnz : ((n : Int) == 0) = false := by simp; omega
  obtain ⟨B', off', e, y, hy, hc0⟩ := CB_cell hb (i := 0) hn0
  cases e
  cases hy
  rw [Nat.add_zero] at hc0
  obtain ⟨z, hz⟩ : ∃ z : Int, z = (x.toNat : Int) := ⟨_, rfl⟩
  rw [← hz] at hc0 hx
  have bx0 : decide (z < 1) = false := decide_eq_false (by omega)
  have bx1 : decide (5 < z) = true := decide_eq_true (by omega)
  clear hx hz
  go_enter Try.func22, Try.ntmps22
  go_upto_region 1 with fail
  generalize hw1 : World.alloc _ _ = w1
  have hb1 : Below w.heap.size w w1 := by rw [← hw1]; exact (Below.refl _ _).alloc (Nat.le_refl _) _
  have hx1 : w1.heap[w.heap.size]? = some (.cells (RsC (zeroS 0) (.slice none 0 0)) 47 (0, 0)) := by rw [← hw1]; exact heap_alloc_new _ _
  have H1 := Lib.hid (And.intro hb1 (And.intro hx1 (Array.getElem?_eq_some_iff.1 hx1).1))
  clear hb1 hx1 hw1
  go_upto_region 2 with (first
    | (show wpList _ _ _ (Oper.mk _ (.store _ (.tmp 4) (.tmp 8)) _ _ _ _ :: _) _ _; refine wpList_store_row rfl 47 (.tmp 4) (.tmp 8) rfl w1.heap.size (RsC (zeroS 0) (.slice none 0 0)) rfl rfl 47 (RsC (zeroS 0) (.slice none 0 0)) (heap_alloc_new _ _) (infoS _ _) rfl (RsC_one _ _ _ _) ?_; generalize hw2 : World.setRow _ _ _ = w2; have g1 : Below w1.heap.size w1 w2 := (by rw [← hw2]; exact (grow_row w1 _ _ _).1); have g2 : w2.heap[w1.heap.size]? = some (.cells (RsC (zeroS 0) (.slice none 0 0)) 47 (0, 0)) := (by rw [← hw2]; exact (grow_row w1 _ _ _).2); have H2 : Hid (Below w.heap.size w w2 ∧ w2.heap[w.heap.size]? = some (.cells (RsC (zeroS 0) (.slice none 0 0)) 47 (0, 0)) ∧ w2.heap[w1.heap.size]? = some (.cells (RsC (zeroS 0) (.slice none 0 0)) 47 (0, 0)) ∧ w1.heap.size < w2.heap.size ∧ w.heap.size < w1.heap.size) := Lib.hid ⟨H1.out.1.trans (g1.mono H1.out.1.size), (g1.block _ H1.out.2.2).trans H1.out.2.1, g2, (Array.getElem?_eq_some_iff.1 g2).1, H1.out.2.2⟩; clear hw2 g1 g2)
    | fail)
  have HN := H2
  have hc2 := cell_below hc0 H2.out.1
  go_wp2_with (first
    | (show wpList _ _ _ (Oper.mk _ (.load _ (.tmp 4)) _ _ _ _ :: _) _ _; refine wpList_load_row rfl 47 (.tmp 4) rfl w1.heap.size rfl 47 (RsC (zeroS 0) (.slice none 0 0)) (0, 0) _ HN.out.2.2.1 Try.underlying47 rfl (infoS _ _) ?_)
    | (show wpList _ _ _ (Oper.mk _ (.store _ (.tmp 2) (.tmp 24)) _ _ _ _ :: _) _ _; refine wpList_store_row rfl 47 (.tmp 2) (.tmp 24) rfl w.heap.size (RsC (zeroS 0) (.slice none 0 0)) rfl rfl 47 _ HN.out.2.1 (infoS _ _) rfl (RsC_one _ _ _ _) ?_)
    | fail)
  exact ⟨rfl, _, results_two rfl _ _ (w.heap.size) 47 (RsC (zeroS 0) (.slice none 0 0)) (0, 0) _ rfl (setRow_heap _ _ _ _ _ _ HN.out.2.1) Try.underlying47 rfl (infoS _ _), none, 0, rfl, Nat.le_refl _, CV_nil _ _, fun p e => (by cases e), ⟨by decide, by decide⟩, ⟨by decide, by decide⟩, below_setRow HN.out.1 (Nat.le_refl _) _⟩
end Go.Proofs.Ytnafeppljnjbeaa
namespace Go.Proofs.Ytnafeppljnjbeaa
open Go Go.RowKit Go.Sort Go.Proofs

def bytesS' (q : Rs) : List UInt8 := byteI q.kind :: askS q
theorem docS_no {x : UInt8} {l : List UInt8} (hx : 1 ≤ (x.toNat : Int) ∧ (x.toNat : Int) ≤ 5) (h : ¬ (mayS (candS x.toNat l) = true ∧ bytesS' (candS x.toNat l) = x :: l)) : docS (x :: l) = (zeroS 0, 14) := by
  rw [docS, if_pos hx]
  exact if_neg h
theorem docS_yes {x : UInt8} {l : List UInt8} (hx : 1 ≤ (x.toNat : Int) ∧ (x.toNat : Int) ≤ 5) (h : mayS (candS x.toNat l) = true ∧ bytesS' (candS x.toNat l) = x :: l) : docS (x :: l) = (candS x.toNat l, 0) := by
  rw [docS, if_pos hx]
  exact if_pos h
/-- the response that is read, among the others -/
structure DU (w : World) (b4 b5 : Nat) (W : World) (q : Rs) (mv : Value) : Prop where
  below : Below w.heap.size w W
  r2 : W.heap[w.heap.size]? = some (.cells (RsC (zeroS 0) (.slice none 0 0)) 47 (0, 0))
  r4 : W.heap[b4]? = some (.cells (RsC (zeroS 0) (.slice none 0 0)) 47 (0, 0))
  r5 : W.heap[b5]? = some (.cells (RsC q mv) 47 (0, 0))
  l4 : w.heap.size < b4
  l5 : b4 < b5
section
variable {w W : World} {b4 b5 : Nat} {q : Rs} {mv : Value}
theorem DU.set (h : DU w b4 b5 W q mv) (o : Nat) (v : Value) (q' : Rs) (mv' : Value) (e : (RsC q mv).setIfInBounds o v = RsC q' mv') : DU w b4 b5 (W.setCell ⟨b5, o, none⟩ v) q' mv' := by
  have hbs : But (fun k => k = b5) W (W.setCell ⟨b5, o, none⟩ v) := (But.refl (fun k => k = b5) _).setCell (p := ⟨b5, o, none⟩) rfl _
  have h4 := h.l4
  have h5 := h.l5
  refine ⟨h.below.trans (hbs.below h.below.size fun k e => by omega), (hbs.block _ (Array.getElem?_eq_some_iff.1 h.r2).1 (by omega)).trans h.r2, (hbs.block _ (Array.getElem?_eq_some_iff.1 h.r4).1 (by omega)).trans h.r4, ?_, h4, h5⟩
  rw [heap_setCell_same _ _ _ _ _ _ h.r5, e]
theorem DU.next {W' : World} (h : DU w b4 b5 W q mv) (hb : Below W.heap.size W W') : DU w b4 b5 W' q mv :=
  ⟨h.below.trans (hb.mono h.below.size), (hb.block _ (Array.getElem?_eq_some_iff.1 h.r2).1).trans h.r2, (hb.block _ (Array.getElem?_eq_some_iff.1 h.r4).1).trans h.r4, (hb.block _ (Array.getElem?_eq_some_iff.1 h.r5).1).trans h.r5, h.l4, h.l5⟩
theorem DU.drew (h : DU w b4 b5 W q mv) : DU w b4 b5 W.drew q mv := h.next (Below.refl _ _).drew
theorem DU.fz (h : DU w b4 b5 W q mv) (o : Nat) : W.frozen? ⟨b5, o, none⟩ = false := frozen_of_row _ _ _ _ _ h.r5
end
/-- numbers that are read one by one -/
def UR (w : World) (b4 b5 : Nat) (q0 : Rs) (n9 : Nat) (vs : List Int) (iv : Value) (wr : World) : Prop :=
  ∃ (k j : Nat) (v : Value), k + j = n9 ∧ iv = .int .i64 (k : Int) ∧ DU w b4 b5 wr { q0 with vars := vs.take k } v ∧ CV.Own 2 (b5 + 1) wr v (vs.take k)
section
variable {P : Program} {md : Region.Mode} {ops : Array Oper} {Q : Exit → Act → World → Prop} {S : World → Prop}
theorem DU.up {W' : World} {w W : World} {b4 b5 : Nat} {q : Rs} {mv : Value} (h : DU w b4 b5 W q mv) (hb : Below (b5 + 1) W W') : DU w b4 b5 W' q mv := by
  have h4 := h.l4
  have h5 := h.l5
  exact ⟨h.below.trans (hb.mono (by omega)), (hb.block _ (by omega)).trans h.r2, (hb.block _ (by omega)).trans h.r4, (hb.block _ (by omega)).trans h.r5, h4, h5⟩
def UN (w : World) (b4 b5 : Nat) (q0 : Rs) (vs : List Int) (wx : World) : Prop := ∃ v, DU w b4 b5 wx { q0 with vars := vs } v ∧ CV.Own 2 (b5 + 1) wx v vs
theorem step_lt (n9 k : Nat) (h : k < n9) (h8 : n9 ≤ 8) : ((n9 : Int) - intOf (Value.int .i64 (wrap64 ((k : Int) + 1)))).toNat < ((n9 : Int) - intOf (Value.int .i64 (k : Int))).toNat := by
  have e4 : wrap64 ((k : Int) + 1) = (k : Int) + 1 := wrap64_id (by unfold I64; omega)
  rw [e4]
  show ((n9 : Int) - ((k : Int) + 1)).toNat < ((n9 : Int) - (k : Int)).toNat
  omega
theorem step_val (k : Nat) (h : k < 8) : Value.int .i64 (wrap64 ((k : Int) + 1)) = .int .i64 ((k + 1 : Nat) : Int) := by
  rw [wrap64_id (by unfold I64; omega)]
  rfl
theorem op_val {i : Nat} {o : Oper} {a : Act} {w w' : World} {v : Value} {K : Act → World → Prop} (ho : ops[i]? = some o) (hw : Region.wanted o (yielded ops a.tmps) = true) (h1 : (execOp a.eval o).run P w = .ok (.value v) w') (hK : K (a.put o.dst v) w') : wpOp P ops Q i K a w :=
  wpOp_step ho fun _ hk => by
    rw [if_pos hw]
    unfold Oper.wp
    rw [h1]
    exact hk _ _ hK
theorem op_go {i : Nat} {o : Oper} {a : Act} {w : World} {f : FuncId} {args : Array Value} {K : Act → World → Prop} (ho : ops[i]? = some o) (hw : Region.wanted o (yielded ops a.tmps) = true) (h1 : (execOp a.eval o).run P w = .ok (.enter f args) w) {X : Value → World → Prop} (h2 : Calls P f args w (fun e w' => ∃ v, e = .returned v ∧ X v w')) (hK : ∀ v w', X v w' → K (a.put o.dst v) w') : wpOp P ops Q i K a w :=
  wpOp_step ho fun _ hk => held_enter hw h1 h2 fun v w' hx => hk _ _ (hK v w' hx)
theorem held_two {i j fuel : Nat} {listed : Array Bool} {a : Act} {w : World} (L : Array Bool) (hL : listed = L) (hr : Region.ready md ops L = [i, j]) (hi : wpOp P ops Q i (fun a' w' => S w' ∧ wpAnyH P md ops Q S fuel (L.setIfInBounds i true) a' w') a w) (hj : wpOp P ops Q j (fun a' w' => S w' ∧ wpAnyH P md ops Q S fuel (L.setIfInBounds j true) a' w') a w) : wpAnyH P md ops Q S (fuel + 1) listed a w := by
  subst hL
  refine wpAnyH_all hr (by simp) fun k hk => ?_
  rcases List.mem_cons.1 hk with rfl | hk
  · exact hi
  · obtain rfl : k = j := by simpa using hk
    exact hj
theorem held_new {i fuel : Nat} {o : Oper} {listed : Array Bool} {a : Act} {w w' : World} {v : Value} (L : Array Bool) (hL : listed = L) (hr : Region.ready md ops L = [i]) (ho : ops[i]? = some o) (hw : Region.wanted o (yielded ops a.tmps) = true)
    (h1 : (execOp a.eval o).run P w = .ok (.value v) w') (hS : S w') (hK : wpAnyH P md ops Q S fuel (L.setIfInBounds i true) (a.put o.dst v) w') : wpAnyH P md ops Q S (fuel + 1) listed a w :=
  held_call L hL hr ho fun _ hk => by
    rw [if_pos hw]
    unfold Oper.wp
    rw [h1]
    exact hk _ _ hS hK
theorem exec_load {o : Oper} {v : Value} {a : Act} {W : World} (A : TypeId) (x : Operand) (ho : o.op = .load A x) (p : Addr) (hx : a.eval x = .pointer (some p)) (hr : (Instr.loadAt A (.pointer (some p))).run P W = .ok v W) : (execOp a.eval o).run P W = .ok (.value v) W := by
  unfold execOp
  simp only [ho, hx, Sem.run_bind, Sem.run_pure, Result.andThen_ok, hr]
theorem exec_append {o : Oper} {v1 v2 v3 : Value} {a : Act} {W W' : World} (x y : Operand) (A : TypeId) (ho : o.op = .call { callee := .builtin .append, args := #[x, y], argTypes := #[A, A] }) (hx : a.eval x = v1) (hy : a.eval y = v2) (hr : (Builtin.append_ #[A, A] o.type #[v1, v2]).run P W = .ok v3 W') : (execOp a.eval o).run P W = .ok (.value v3) W' := by
  unfold execOp
  simp only [ho, resolve, invoke, builtin, Sem.run_bind, Sem.run_pure, Result.andThen_ok, List.map_toArray, List.map_cons, List.map_nil, hx, hy, hr]
end
/-- what is read behind the ways -/
def DUR (w : World) (b4 b5 : Nat) (q : Rs) (wx : World) : Prop := ∃ a c, DU w b4 b5 wx q (.slice a q.vars.length c) ∧ CV.At wx a q.vars.length q.vars ∧ q.vars.length ≤ c ∧ (∀ p, a = some p → w.heap.size < p.block)
theorem DUR.of {w W : World} {b4 b5 : Nat} {q : Rs} (h : DU w b4 b5 W q (.slice none 0 0)) (hm : q.vars = []) : DUR w b4 b5 q W := by
  have e : q.vars.length = 0 := by rw [hm]; rfl
  refine ⟨none, 0, by rw [e]; exact h, by rw [hm]; exact CV_nil _ _, by rw [e]; exact Nat.le_refl _, fun p e => by cases e⟩
set_option maxHeartbeats 8000000 in
set_option maxRecDepth 100000 in
theorem rds_main (w : World) (B off m d : Nat) (x : UInt8) (l : List UInt8) (hb : CB.At w (some ⟨B, off, none⟩) (m + 1) (x :: l)) (hx : 1 ≤ (x.toNat : Int) ∧ (x.toNat : Int) ≤ 5) (hn : m ≤ 5000) (hd : m ≤ d) (hdm : d + 1 ≤ 9223372036854775807) : Calls Try.prog 22 #[.slice (some ⟨B, off, none⟩) (m + 1) (d + 1)] w (DecToS w (docS (x :: l))) := by
  have hn0 : 0 < m + 1 := by omega
  have hnz : ((m : Int) + 1 == 0) = false := by simp; omega
  obtain ⟨B', off', e, y, hy, hc0⟩ := CB_cell (n := m + 1) hb (i := 0) hn0
  cases e
  cases hy
  rw [Nat.add_zero] at hc0
  have hBw : B < w.heap.size := World.block_lt_of_cell? w _ hc0
  have hlr : CB.At w (some ⟨B, off + 1, none⟩) m l := by
    have := hb.part 1 (m + 1) (by omega) (by omega) B off rfl
    rw [show 1 * CB.k = 1 from rfl, List.take_of_length_le (by rw [hb.1]; exact Nat.le_refl _), Nat.add_sub_cancel] at this
    exact this
  obtain ⟨o5, hp5, hlr⟩ : ∃ o5, (if d = 0 then some (⟨B, off, none⟩ : Addr) else some ⟨B, off + 1, none⟩) = some ⟨B, o5, none⟩ ∧ CB.At w (some ⟨B, o5, none⟩) m l := by
    by_cases hd0 : d = 0
    · obtain rfl : m = 0 := by omega
      have h0 : l = [] := List.length_eq_zero_iff.1 hlr.1
      exact ⟨off, by rw [if_pos hd0], by rw [h0]; exact CB_nil _ _⟩
    · exact ⟨off + 1, by rw [if_neg hd0], hlr⟩
  have HP5 := Lib.hid hp5
  clear hp5
  obtain ⟨z, hz⟩ : ∃ z : Int, z = (x.toNat : Int) := ⟨_, rfl⟩
  rw [← hz] at hc0 hx
  have bx0 : decide (z < 1) = false := decide_eq_false (by omega)
  have bx1 : decide (5 < z) = false := decide_eq_false (by omega)
  have hwz : IntKind.i64.wrap z = z := by rw [wrapI]; exact wrap64_id (by unfold I64; omega)
  obtain ⟨R, hR⟩ : ∃ R, R = docS (x :: l) := ⟨_, rfl⟩
  rw [← hR]
  obtain ⟨Q, hQ⟩ : ∃ Q, Q = candS z l := ⟨_, rfl⟩
  have HQ := Lib.hid hQ
  have HH := Lib.hid (And.intro hx (And.intro hz (And.intro hR hb)))
  have HLR := Lib.hid hlr
  have f2 : (1 : Int) ≤ (d : Int) + 1 := by omega
  have f3 : (m : Int) ≤ (d : Int) := by omega
  clear hx hz hlr hR hb hQ
  go_enter Try.func22, Try.ntmps22
  go_upto_region 1 with fail
  generalize hw1 : World.alloc _ _ = w1
  have hb1 : Below w.heap.size w w1 := by rw [← hw1]; exact (Below.refl _ _).alloc (Nat.le_refl _) _
  have hx1 : w1.heap[w.heap.size]? = some (.cells (RsC (zeroS 0) (.slice none 0 0)) 47 (0, 0)) := by rw [← hw1]; exact heap_alloc_new _ _
  have H1 := Lib.hid (And.intro hb1 (And.intro hx1 (Array.getElem?_eq_some_iff.1 hx1).1))
  clear hb1 hx1 hw1
  go_upto_region 2 with (first
    | (show wpList _ _ _ (Oper.mk _ (.store _ (.tmp 4) (.tmp 8)) _ _ _ _ :: _) _ _; refine wpList_store_row rfl 47 (.tmp 4) (.tmp 8) rfl w1.heap.size (RsC (zeroS 0) (.slice none 0 0)) rfl rfl 47 (RsC (zeroS 0) (.slice none 0 0)) (heap_alloc_new _ _) (infoS _ _) rfl (RsC_one _ _ _ _) ?_; generalize hw2 : World.setRow _ _ _ = w2; have g1 : Below w1.heap.size w1 w2 := (by rw [← hw2]; exact (grow_row w1 _ _ _).1); have g2 : w2.heap[w1.heap.size]? = some (.cells (RsC (zeroS 0) (.slice none 0 0)) 47 (0, 0)) := (by rw [← hw2]; exact (grow_row w1 _ _ _).2); have H2 : Hid (Below w.heap.size w w2 ∧ w2.heap[w.heap.size]? = some (.cells (RsC (zeroS 0) (.slice none 0 0)) 47 (0, 0)) ∧ w2.heap[w1.heap.size]? = some (.cells (RsC (zeroS 0) (.slice none 0 0)) 47 (0, 0)) ∧ w1.heap.size < w2.heap.size ∧ w.heap.size < w1.heap.size) := Lib.hid ⟨H1.out.1.trans (g1.mono H1.out.1.size), (g1.block _ H1.out.2.2).trans H1.out.2.1, g2, (Array.getElem?_eq_some_iff.1 g2).1, H1.out.2.2⟩; clear hw2 g1 g2)
    | fail)
  have hc2 := cell_below hc0 H2.out.1
  go_upto_block 0 with (first
    | (show wpList _ _ _ (Oper.mk _ (.store _ (.tmp 5) (.tmp 29)) _ _ _ _ :: _) _ _; refine wpList_store_row rfl 47 (.tmp 5) (.tmp 29) rfl w2.heap.size (RsC (zeroS z) (.slice none 0 0)) rfl rfl 47 (RsC (zeroS 0) (.slice none 0 0)) (heap_alloc_new _ _) (infoS _ _) rfl (RsC_one _ _ _ _) ?_; generalize hw3 : World.setRow _ _ _ = w5; have g1 : Below w2.heap.size w2 w5 := (by rw [← hw3]; exact (grow_row w2 _ _ _).1); have g2 : w5.heap[w2.heap.size]? = some (.cells (RsC (zeroS z) (.slice none 0 0)) 47 (0, 0)) := (by rw [← hw3]; exact (grow_row w2 _ _ _).2); have HD5 : Hid (DU w w1.heap.size w2.heap.size w5 (zeroS z) (.slice none 0 0)) := Lib.hid ⟨H2.out.1.trans (g1.mono H2.out.1.size), (g1.block _ (Nat.lt_trans H2.out.2.2.2.2 H2.out.2.2.2.1)).trans H2.out.2.1, (g1.block _ H2.out.2.2.2.1).trans H2.out.2.2.1, g2, H2.out.2.2.2.2, H2.out.2.2.2.1⟩; clear hw3 g1 g2; have hc5 : w5.cell? ⟨B, off, none⟩ = some (.int .u8 z) := cell_below hc0 HD5.out.below)
    | fail)
  simp only [HP5.out]
  obtain ⟨g0, g1, g2, g3, g4, -, -, -, -, -, -, g11, -, -, -, -, -, -⟩ := RsC_cells HD5.out.r5
  have fz5 := HD5.out.fz
  dsimp only [zeroS] at g0 g1 g2 g3 g4 g11
  have hne1 : ¬ B = w2.heap.size := by have := HD5.out.l4; have := HD5.out.l5; omega
  have hne2 : ¬ w2.heap.size = B := by have := HD5.out.l4; have := HD5.out.l5; omega
  clear hc0 hc2 hc5
  go_cut [] from 7 to 184 (fun wx => DUR w w1.heap.size w2.heap.size Q wx)
  case first =>
    have hlen : l.length = m := HLR.out.1
    by_cases k1 : z = 1
    · skip
      by_cases km : m = 13
      · skip
        obtain ⟨B1, o1, e1, y1, hy1, hc1⟩ := CB_cell (HLR.out.below HD5.out.below) (i := 4) (by omega)
        cases e1
        obtain ⟨v1, hv1⟩ : ∃ v : Int, v = octA l 4 := ⟨_, rfl⟩
        have hNb : 0 ≤ v1 ∧ v1 ≤ 255 := by rw [hv1]; exact octA_bd _ _
        have hN2 : (y1.toNat : Int) = v1 := by rw [hv1]; unfold octA; rw [List.getD, hy1]; rfl
        rw [hN2] at hc1
        have hwv1 : IntKind.i64.wrap v1 = v1 := by rw [wrapI]; exact wrap64_id (by unfold I64; omega)
        have cv1 := hc1
        have Hv1 := Lib.hid (And.intro hv1 hNb)
        clear hc1 hy1 hN2 hv1 hNb
        obtain ⟨u, hu⟩ : ∃ u, u = numOf (l.take 4) := ⟨_, rfl⟩
        have hUu : U32 u := by rw [hu]; exact num4_bd _
        have hU0u := hUu.1
        have hU1u := hUu.2
        have hwu : u % 4294967296 = u := by omega
        have HCu : Hid (∀ W c', Below w.heap.size w W → Calls Try.prog 44 #[.slice (some ⟨B, o5, none⟩) 4 c'] W (fun e w' => e = .returned (.int .u64 u) ∧ W = w')) := by
          rw [hu]
          exact fun W c' hW => dnum_eq W _ 4 c' _ ((HLR.out.front 4 (by omega)).below hW) (by decide)
        have Hu := Lib.hid hu
        clear hu hUu hU0u hU1u
        obtain ⟨u2, hu2⟩ : ∃ u, u = numOf (l.drop 5) := ⟨_, rfl⟩
        have hAt : CB.At w (some ⟨B, o5 + 5, none⟩) 8 (l.drop 5) := by
          have := HLR.out.part 5 (5 + 8) (by omega) (by omega) B o5 rfl
          rw [show 5 * CB.k = 5 from rfl] at this
          rw [List.take_of_length_le (by rw [hlen]; omega)] at this
          exact this
        have HCu2 : Hid (∀ W n' c', n' = 8 → Below w.heap.size w W → Calls Try.prog 44 #[.slice (some ⟨B, o5 + 5, none⟩) n' c'] W (fun e w' => e = .returned (.int .u64 u2) ∧ W = w')) := by
          rw [hu2]
          rintro W n' c' rfl hW
          exact dnum_eq W _ 8 c' _ (hAt.below hW) (by decide)
        have hwu2 : IntKind.i64.wrap u2 = wrap64 u2 := wrapI u2
        have Hu2 := Lib.hid hu2
        clear hu2 hAt
        have hq : candS z l = { zeroS z with id := u, err := v1, floor := wrap64 u2 } := by unfold candS longA; rw [hlen, if_pos (by omega), ← Hu.out, ← Hv1.out.1, ← Hu2.out]
        have q0 : (4 : Int) ≤ (d : Int) := by omega
        have q1 : (4 : Int) < (m : Int) := by omega
        have q2 : (5 : Int) ≤ (m : Int) := by omega
        have q3 : ((m : Int) == 13) = true := by simp; omega
        have q4 : ¬ d = 5 := by omega
        have bk1 : (z == 1) = true := by simp; omega
        have bk2 : (z == 2) = false := by simp; omega
        have bk3 : (z == 3) = false := by simp; omega
        have bk4 : (z == 4) = false := by simp; omega
        have bk5 : (z == 5) = false := by simp; omega
        have HKZ := Lib.hid k1
        have HMK := Lib.hid km
        clear k1 km
        go_wp2_with (first
          | (go_at_call_of 44 (Value.slice (some (⟨B, o5, none⟩ : Addr)) 4 d); refine (HCu.out _ _ HD5.out.below).mono ?_; rintro e w6 ⟨rfl, rfl⟩)
          | (go_at_call 44; refine (HCu2.out _ _ _ (by have := HMK.out; omega) ((HD5.out.set 1 (.int .u32 u) { zeroS z with id := u } (.slice none 0 0) rfl).set 2 (.int .i64 v1) { zeroS z with id := u, err := v1 } (.slice none 0 0) rfl).below).mono ?_; rintro e w6 ⟨rfl, rfl⟩)
          | fail)
        go_meet
        case rel =>
          rw [HQ.out, hq]
          exact DUR.of (((HD5.out.set 1 (.int .u32 u) { zeroS z with id := u } (.slice none 0 0) rfl).set 2 (.int .i64 v1) { zeroS z with id := u, err := v1 } (.slice none 0 0) rfl).set 3 _ _ _ rfl) rfl
      · skip
        have hq : candS z l = zeroS z := by unfold candS; rw [hlen, if_neg (by omega), if_neg (by omega), if_neg (by omega), if_neg (by omega), if_neg (by omega)]
        have bm : ((m : Int) == 13) = false := by simp; omega
        have bk1 : (z == 1) = true := by simp; omega
        have bk2 : (z == 2) = false := by simp; omega
        have bk3 : (z == 3) = false := by simp; omega
        have bk4 : (z == 4) = false := by simp; omega
        have bk5 : (z == 5) = false := by simp; omega
        have HKZ := Lib.hid k1
        have HMK := Lib.hid km
        clear k1 km
        go_wp2_with fail
        go_meet
        case rel =>
          rw [HQ.out, hq]
          exact DUR.of HD5.out rfl
    by_cases k2 : z = 2
    · skip
      by_cases km : 13 ≤ m ∧ octA l 12 ≤ 8 ∧ (m : Int) = 13 + 8 * octA l 12
      · skip
        obtain ⟨B1, o1, e1, y1, hy1, hc1⟩ := CB_cell HLR.out (i := 12) (by omega)
        cases e1
        obtain ⟨v1, hv1⟩ : ∃ v : Int, v = octA l 12 := ⟨_, rfl⟩
        have hNb : 0 ≤ v1 ∧ v1 ≤ 255 := by rw [hv1]; exact octA_bd _ _
        have hN2 : (y1.toNat : Int) = v1 := by rw [hv1]; unfold octA; rw [List.getD, hy1]; rfl
        rw [hN2] at hc1
        have hwv1 : IntKind.i64.wrap v1 = v1 := by rw [wrapI]; exact wrap64_id (by unfold I64; omega)
        have cv1 := hc1
        have Hv1 := Lib.hid (And.intro hv1 hNb)
        clear hc1 hy1 hN2 hv1 hNb
        obtain ⟨n9, hn9⟩ : ∃ n : Nat, v1 = n := ⟨v1.toNat, by have := Hv1.out.2; omega⟩
        subst hn9
        obtain ⟨u, hu⟩ : ∃ u, u = numOf (l.take 4) := ⟨_, rfl⟩
        have hUu : U32 u := by rw [hu]; exact num4_bd _
        have hU0u := hUu.1
        have hU1u := hUu.2
        have hwu : u % 4294967296 = u := by omega
        have HCu : Hid (∀ W c', Below w.heap.size w W → Calls Try.prog 44 #[.slice (some ⟨B, o5, none⟩) 4 c'] W (fun e w' => e = .returned (.int .u64 u) ∧ W = w')) := by
          rw [hu]
          exact fun W c' hW => dnum_eq W _ 4 c' _ ((HLR.out.front 4 (by omega)).below hW) (by decide)
        have Hu := Lib.hid hu
        clear hu hUu hU0u hU1u
        obtain ⟨u2, hu2⟩ : ∃ u, u = numOf ((l.drop 4).take 8) := ⟨_, rfl⟩
        have hAt : CB.At w (some ⟨B, o5 + 4, none⟩) 8 ((l.drop 4).take 8) := by
          have := HLR.out.part 4 (4 + 8) (by omega) (by omega) B o5 rfl
          rw [show 4 * CB.k = 4 from rfl] at this
          rw [List.drop_take] at this
          exact this
        have HCu2 : Hid (∀ W n' c', n' = 8 → Below w.heap.size w W → Calls Try.prog 44 #[.slice (some ⟨B, o5 + 4, none⟩) n' c'] W (fun e w' => e = .returned (.int .u64 u2) ∧ W = w')) := by
          rw [hu2]
          rintro W n' c' rfl hW
          exact dnum_eq W _ 8 c' _ (hAt.below hW) (by decide)
        have hwu2 : IntKind.i64.wrap u2 = wrap64 u2 := wrapI u2
        have Hu2 := Lib.hid hu2
        clear hu2 hAt
        have hv8 : n9 ≤ 8 := by have := km.2.1; rw [← Hv1.out.1] at this; omega
        have hm9 : m = 13 + 8 * n9 := by have := km.2.2; rw [← Hv1.out.1] at this; omega
        have hq : candS z l = { zeroS z with id := u, floor := wrap64 u2, vars := varsA n9 (l.drop 13) } := by unfold candS; rw [hlen, if_neg (by omega), if_pos ⟨k2, km.1, km.2.1, km.2.2⟩, ← Hv1.out.1, Int.toNat_natCast, ← Hu.out]; unfold longA; rw [← Hu2.out]
        have HNI : Hid (∀ k, k < n9 → ∀ W c' n', n' = 8 → Below w.heap.size w W → Calls Try.prog 44 #[.slice (some ⟨B, o5 + (13 + 8 * k), none⟩) n' c'] W (fun e w' => e = .returned (.int .u64 (numOf ((l.drop (13 + 8 * k)).take 8))) ∧ W = w')) := by
          rintro k hk W c' n' rfl hW
          have := HLR.out.part (13 + 8 * k) (13 + 8 * k + 8) (by omega) (by omega) B o5 rfl
          rw [show (13 + 8 * k) * CB.k = 13 + 8 * k from Nat.mul_one _, List.drop_take, Nat.add_sub_cancel_left] at this
          exact dnum_eq W _ 8 c' _ (this.below hW) (by decide)
        have cw1 := cell_below cv1 HD5.out.below
        have q0 : (4 : Int) ≤ (d : Int) := by omega
        have q1 : (12 : Int) < (m : Int) := by omega
        have q2 : (12 : Int) ≤ (d : Int) := by omega
        have q3 : (4 : Int) ≤ (m : Int) := by omega
        have q4 : decide ((13 : Int) ≤ (m : Int)) = true := decide_eq_true (by omega)
        have qa : decide ((n9 : Int) ≤ 8) = true := decide_eq_true (by omega)
        have qb : IntKind.i64.wrap (8 * (n9 : Int)) = 8 * (n9 : Int) := by rw [wrapI]; exact wrap64_id (by unfold I64; omega)
        have qc : IntKind.i64.wrap (13 + 8 * (n9 : Int)) = 13 + 8 * (n9 : Int) := by rw [wrapI]; exact wrap64_id (by unfold I64; omega)
        have qd : ((m : Int) == 13 + 8 * (n9 : Int)) = true := by simp; omega
        have qe : ¬ d = 4 := by omega
        have bk1 : (z == 1) = false := by simp; omega
        have bk2 : (z == 2) = true := by simp; omega
        have bk3 : (z == 3) = false := by simp; omega
        have bk4 : (z == 4) = false := by simp; omega
        have bk5 : (z == 5) = false := by simp; omega
        have HKZ := Lib.hid k2
        have HMK := Lib.hid (And.intro hm9 hv8)
        clear k2 km hm9 hv8
        go_wp2_with (first
          | (go_at_call_of 44 (Value.slice (some (⟨B, o5, none⟩ : Addr)) 4 d); refine (HCu.out _ _ HD5.out.below).mono ?_; rintro e w6 ⟨rfl, rfl⟩)
          | (go_at_call 44; refine (HCu2.out _ _ _ rfl (HD5.out.set 1 (.int .u32 u) { zeroS z with id := u } (.slice none 0 0) rfl).below).mono ?_; rintro e w6 ⟨rfl, rfl⟩)
          | fail)
        generalize hw8 : World.setCell _ _ _ = w8
        have HD8 : Hid (DU w w1.heap.size w2.heap.size w8 { zeroS z with id := u, floor := wrap64 u2 } (.slice none 0 0)) := by rw [← hw8]; exact Lib.hid ((HD5.out.set 1 (.int .u32 u) { zeroS z with id := u } (.slice none 0 0) rfl).set 3 _ _ _ rfl)
        clear hw8 g0 g1 g2 g3 g4 g11 fz5 cw1
        obtain ⟨VS, hVS⟩ : ∃ VS, VS = varsA n9 (l.drop 13) := ⟨_, rfl⟩
        have hlv : VS.length = n9 := by rw [hVS]; exact varsA_len _ _
        have hgv : ∀ k, k < n9 → VS[k]? = some (wrap64 (numOf ((l.drop (13 + 8 * k)).take 8))) := fun k hk => by
          have := varsA_get n9 (l.drop 13) k hk
          rw [List.drop_drop] at this
          rw [hVS, this]
          rfl
        rw [← hVS] at hq
        have HVS := Lib.hid (And.intro hlv hgv)
        clear hVS hlv hgv
        go_loopw [7] (fun iv wr => UR w w1.heap.size w2.heap.size { zeroS z with id := u, floor := wrap64 u2 } n9 VS iv wr) (fun iv _ => ((n9 : Int) - intOf iv).toNat)
        case atStart => exact ⟨0, n9, .slice none 0 0, by omega, rfl, by rw [List.take_zero]; exact HD8.out, by rw [List.take_zero]; exact Cod.Own.nil _ _⟩
        case round =>
          obtain ⟨k, j, v9, hkj, rfl, hDU, hown⟩ := hrel
          have HKJ := Lib.hid hkj
          have HDU := Lib.hid hDU
          have HOWN := Lib.hid hown
          have cw := cell_below cv1 hDU.below
          clear hDU hown
          rcases j with _ | j
          · obtain rfl : k = n9 := by omega
            have hlt : decide ((k : Int) < (k : Int)) = false := decide_eq_false (by omega)
            clear hkj
            go_wp2_with fail
            go_meet
            case rel =>
              rw [HQ.out, hq]
              have h1 := HDU.out
              have h2 := HOWN.out
              rw [List.take_of_length_le (Nat.le_of_eq HVS.out.1)] at h1 h2
              obtain ⟨a9, c9, rfl, hle9, hat9, hb9, -⟩ := h2.at_ (by rw [HVS.out.1]; have := HMK.out.2; omega)
              exact ⟨a9, c9, h1, hat9, hle9, fun p e => by subst e; have := (hb9 p.block rfl).2; have := h1.l4; have := h1.l5; omega⟩
          · have hkn : k < n9 := by omega
            have hlt : ((k : Int) < (n9 : Int)) = True := by simp; omega
            have hkI : (k : Int) < (n9 : Int) := by omega
            have r1 : IntKind.i64.wrap (8 * (k : Int)) = 8 * (k : Int) := by rw [wrapI]; exact wrap64_id (by have := HMK.out.2; unfold I64; omega)
            have r2 : IntKind.i64.wrap (13 + 8 * (k : Int)) = 13 + 8 * (k : Int) := by rw [wrapI]; exact wrap64_id (by have := HMK.out.2; unfold I64; omega)
            have r3 : IntKind.i64.wrap (21 + 8 * (k : Int)) = 21 + 8 * (k : Int) := by rw [wrapI]; exact wrap64_id (by have := HMK.out.2; unfold I64; omega)
            clear hkj
            go_upto_region 16 with fail
            refine wp_last fun K9 hK9 => ?_
            go_cut [] from 100 to 114 (fun wx => UN w w1.heap.size w2.heap.size { zeroS z with id := u, floor := wrap64 u2 } (VS.take (k + 1)) wx)
            rotate_left
            · obtain ⟨v3, hD3, hO3⟩ := hcut
              have HD3 := Lib.hid (And.intro hD3 hO3)
              clear hD3 hO3
              refine hK9 _ _ ?_
              go_wp2_with fail
              go_roundw
              case rel => exact ⟨k + 1, j, v3, by have := HKJ.out; omega, step_val k (Nat.lt_of_lt_of_le hkn HMK.out.2), HD3.out.1, HD3.out.2⟩
              case measure => exact step_lt n9 k hkn HMK.out.2
            rename_i J K' hJ hK'
            obtain ⟨N, hN⟩ : ∃ N, N = numOf ((l.drop (13 + 8 * k)).take 8) := ⟨_, rfl⟩
            have HN := Lib.hid hN
            have HCN : Hid (∀ W c' n', n' = 8 → Below w.heap.size w W → Calls Try.prog 44 #[.slice (some ⟨B, o5 + (13 + 8 * k), none⟩) n' c'] W (fun e w' => e = .returned (.int .u64 N) ∧ W = w')) := by rw [hN]; exact HNI.out k hkn
            clear hN
            have HD0 := Lib.hid HDU.out.drew
            have c4 : wr.cell? ⟨w2.heap.size, 4, none⟩ = some v9 := (RsC_cells HDU.out.r5).2.2.2.2.1
            obtain ⟨WA, hWA⟩ : ∃ W, W = wr.drew.alloc (.cells #[.int .i64 (IntKind.i64.wrap N)] 2) := ⟨_, rfl⟩
            have hA : WA.heap[wr.drew.heap.size]? = some (.cells #[.int .i64 (IntKind.i64.wrap N)] 2 (0, 0)) := by rw [hWA]; exact heap_alloc_new _ _
            have hbA : Below wr.drew.heap.size wr.drew WA := by rw [hWA]; exact (Below.refl _ _).alloc (Nat.le_refl _) _
            have hAt : CV.At WA (some ⟨wr.drew.heap.size, 0, none⟩) 1 [IntKind.i64.wrap N] := CV_row (l := [IntKind.i64.wrap N]) hA (by simp)
            have hz9 : w2.heap.size + 1 ≤ wr.heap.size := (Array.getElem?_eq_some_iff.1 HDU.out.r5).1
            have hOA : CV.Own 2 (w2.heap.size + 1) WA v9 (VS.take k) := HOWN.out.below ((Below.refl _ _).drew.trans hbA)
            have hk8 : (VS.take k).length ≤ 8 := by rw [List.length_take]; have := HVS.out.1; have := HMK.out.2; omega
            obtain ⟨v2, W2, hr2, hown2, hgr2, -⟩ := rowV.run WA 43 (w2.heap.size + 1) v9 _ hOA ⟨wr.drew.heap.size, 0, none⟩ 1 1 [IntKind.i64.wrap N] rfl hAt.news (by omega) (by omega) (Nat.le_trans hz9 hbA.size)
            obtain ⟨a4, n4', c4', rfl⟩ := hown2.shape
            have hbG : Below (w2.heap.size + 1) WA W2 := (But.grown hgr2).below (Nat.le_trans hz9 hbA.size) fun i e => (hOA.lt i e.symm).1
            have HDA := Lib.hid (HD0.out.next hbA)
            have HD2 := Lib.hid (HDA.out.up hbG)
            have hlist : VS.take k ++ [IntKind.i64.wrap N] = VS.take (k + 1) := by rw [List.take_add_one, HVS.out.2 k hkn, wrapI, HN.out]; rfl
            rw [hlist] at hown2
            have cA4 : WA.cell? ⟨w2.heap.size, 4, none⟩ = some v9 := (RsC_cells HDA.out.r5).2.2.2.2.1
            have c24 : W2.cell? ⟨w2.heap.size, 4, none⟩ = some v9 := (RsC_cells HD2.out.r5).2.2.2.2.1
            have fz2 := HD2.out.fz 4
            have HD9 : Hid (DU w w1.heap.size w2.heap.size (W2.setCell ⟨w2.heap.size, 4, none⟩ (.slice a4 n4' c4')) { zeroS z with id := u, floor := wrap64 u2, vars := VS.take (k + 1) } (.slice a4 n4' c4')) := Lib.hid (HD2.out.set 4 _ _ _ rfl)
            have HO9 : Hid (CV.Own 2 (w2.heap.size + 1) (W2.setCell ⟨w2.heap.size, 4, none⟩ (.slice a4 n4' c4')) (.slice a4 n4' c4') (VS.take (k + 1))) := Lib.hid (hown2.but ((But.refl (fun i => i = w2.heap.size) W2).setCell (p := ⟨w2.heap.size, 4, none⟩) rfl _) fun i e e2 => by have := (hown2.lt i e).1; omega)
            have hS0 : Hid (Below w.heap.size w wr.drew) := Lib.hid HD0.out.below
            have hSA : Hid (Below w.heap.size w WA) := Lib.hid HDA.out.below
            have hS2 : Hid (Below w.heap.size w W2) := Lib.hid HD2.out.below
            have hS9 := Lib.hid HD9.out.below
            have t1 : (13 + 8 * (k : Int)).toNat = 13 + 8 * k := by omega
            have t2 : (21 + 8 * (k : Int)).toNat = 21 + 8 * k := by omega
            have t3 : 21 + 8 * k - (13 + 8 * k) = 8 := by omega
            have t4 : (0 : Int) ≤ 13 + 8 * (k : Int) := by omega
            have t5 : 13 + 8 * (k : Int) ≤ 21 + 8 * (k : Int) := by omega
            have t6 : 21 + 8 * (k : Int) ≤ (d : Int) := by have := HMK.out; omega
            have t7 : ¬ d = 13 + 8 * k := by have := HMK.out; omega
            have HWA := Lib.hid hWA
            clear hbA hAt hOA hbG hgr2 hown2 hlist hA hWA
            refine wp_region_held (S := fun W => Hid (Below w.heap.size w W)) (by kernel_rfl) ?_
            change wpAnyH _ _ _ _ _ _ _ _ (World.drew _)
            refine wpAnyH_take (i := 0) (v := .pointer (some ⟨w2.heap.size, 4, none⟩)) rfl (by kernel_rfl) (by kernel_rfl) (by kernel_rfl) (fun _ _ _ h => h) (y_on (by kernel_rfl) (fun W hW => by kernel_rfl)) hS0 ?_
            refine wpAnyH_take (i := 2) (v := .slice (some ⟨B, o5, none⟩) m d) rfl (by kernel_rfl) (by kernel_rfl) (by kernel_rfl) (fun _ _ _ h => h) (y_on (by kernel_rfl) (fun W hW => by kernel_rfl)) hS0 ?_
            refine wpAnyH_take (i := 3) (v := .int .i64 k) rfl (by kernel_rfl) (by kernel_rfl) (by kernel_rfl) (fun _ _ _ h => h) (y_on (by kernel_rfl) (fun W hW => by kernel_rfl)) hS0 ?_
            refine wpAnyH_take (i := 4) (v := .int .i64 (8 * (k : Int))) rfl (by kernel_rfl) (by kernel_rfl) (by kernel_rfl) (fun _ _ _ h => h) (y_on (by kernel_rfl) (fun W hW => by go_simp)) hS0 ?_
            refine wpAnyH_take (i := 5) (v := .int .i64 (13 + 8 * (k : Int))) rfl (by kernel_rfl) (by kernel_rfl) (by kernel_rfl) (fun _ _ _ h => h) (y_on (by kernel_rfl) (fun W hW => by go_simp)) hS0 ?_
            refine wpAnyH_take (i := 6) (v := .int .i64 k) rfl (by kernel_rfl) (by kernel_rfl) (by kernel_rfl) (fun _ _ _ h => h) (y_on (by kernel_rfl) (fun W hW => by kernel_rfl)) hS0 ?_
            refine wpAnyH_take (i := 7) (v := .int .i64 (8 * (k : Int))) rfl (by kernel_rfl) (by kernel_rfl) (by kernel_rfl) (fun _ _ _ h => h) (y_on (by kernel_rfl) (fun W hW => by go_simp)) hS0 ?_
            refine wpAnyH_take (i := 8) (v := .int .i64 (21 + 8 * (k : Int))) rfl (by kernel_rfl) (by kernel_rfl) (by kernel_rfl) (fun _ _ _ h => h) (y_on (by kernel_rfl) (fun W hW => by go_simp)) hS0 ?_
            refine wpAnyH_take (i := 9) (v := .slice (some ⟨B, o5 + (13 + 8 * k), none⟩) 8 (d - (13 + 8 * k))) rfl (by kernel_rfl) (by kernel_rfl) (by kernel_rfl) (fun _ _ _ h => h) (y_on (by kernel_rfl) (fun W hW => by go_simp)) hS0 ?_
            refine held_two (i := 1) (j := 10) #[true, false, true, true, true, true, true, true, true, true, false, false, false, false, false, false] (by kernel_rfl) (by kernel_rfl) ?wa ?wb
            case wa =>
              refine op_val (o := { dst := some 101, op := Op.load 43 (Operand.tmp 100), type := 43, pos := "ref.go:204", after := #[{ on := 0, ground := Ground.data }], guard := none }) (v := v9) (w' := wr.drew) (by kernel_rfl) (by kernel_rfl) (exec_load 43 (.tmp 100) rfl ⟨w2.heap.size, 4, none⟩ (by kernel_rfl) (by go_simp)) ⟨hS0, ?_⟩
              refine held_go (i := 10) (o := { dst := some 110, op := Op.call { callee := Callee.value (Operand.func 44), args := #[Operand.tmp 109], argTypes := #[24] }, type := 85, pos := "ref.go:204", after := #[{ on := 9, ground := Ground.data }], guard := none }) #[true, true, true, true, true, true, true, true, true, true, false, false, false, false, false, false] (by kernel_rfl) (by kernel_rfl) (by kernel_rfl) (by kernel_rfl) (by kernel_rfl) (X := fun v W => v = .int .u64 N ∧ wr.drew = W) ((HCN.out wr.drew (d - (13 + 8 * k)) 8 rfl hS0.out).mono fun e w' ⟨e1, e2⟩ => ⟨_, e1, rfl, e2⟩) ?_
              rintro v w7 ⟨rfl, hw7⟩
              subst hw7
              refine ⟨hS0, ?_⟩
              refine wpAnyH_take (i := 11) (v := .int .i64 (IntKind.i64.wrap N)) rfl (by kernel_rfl) (by kernel_rfl) (by kernel_rfl) (fun _ _ _ h => h) (y_on (by kernel_rfl) (fun W hW => by kernel_rfl)) hS0 ?_
              refine held_new (i := 12) (o := { dst := some 112, op := Op.buildSlice 43 1 #[(0, Operand.tmp 111)], type := 43, pos := "ref.go:204", after := #[{ on := 11, ground := Ground.data }], guard := none }) (v := .slice (some ⟨wr.drew.heap.size, 0, none⟩) 1 1) (w' := WA) #[true, true, true, true, true, true, true, true, true, true, true, true, false, false, false, false] (by kernel_rfl) (by kernel_rfl) (by kernel_rfl) (by kernel_rfl) (by rw [HWA.out]; kernel_rfl) hSA ?_
              refine held_new (i := 13) (o := { dst := some 113, op := Op.call { callee := Callee.builtin Builtin.append, args := #[Operand.tmp 101, Operand.tmp 112], argTypes := #[43, 43] }, type := 43, pos := "ref.go:204", after := #[{ on := 1, ground := Ground.data }, { on := 12, ground := Ground.data }, { on := 10, ground := Ground.chain }], guard := none }) (v := .slice a4 n4' c4') (w' := W2) #[true, true, true, true, true, true, true, true, true, true, true, true, true, false, false, false] (by kernel_rfl) (by kernel_rfl) (by kernel_rfl) (by kernel_rfl) (exec_append (.tmp 101) (.tmp 112) 43 rfl (by kernel_rfl) (by kernel_rfl) hr2) hS2 ?_
              refine wpAnyH_take (i := 14) (v := .pointer (some ⟨w2.heap.size, 4, none⟩)) rfl (by kernel_rfl) (by kernel_rfl) (by kernel_rfl) (fun _ _ _ h => h) (y_on (by kernel_rfl) (fun W hW => by kernel_rfl)) hS2 ?_
              refine held_do (i := 15) (o := { dst := none, op := Op.store 43 (Operand.tmp 114) (Operand.tmp 113), type := 0, pos := "ref.go:204", after := #[{ on := 14, ground := Ground.data }, { on := 13, ground := Ground.data }, { on := 13, ground := Ground.chain }, { on := 0, ground := Ground.phase }, { on := 1, ground := Ground.phase }, { on := 2, ground := Ground.phase }, { on := 3, ground := Ground.phase }, { on := 4, ground := Ground.phase }, { on := 5, ground := Ground.phase }, { on := 6, ground := Ground.phase }, { on := 7, ground := Ground.phase }, { on := 8, ground := Ground.phase }, { on := 9, ground := Ground.phase }, { on := 10, ground := Ground.phase }, { on := 11, ground := Ground.phase }, { on := 12, ground := Ground.phase }, { on := 13, ground := Ground.phase }], guard := none }) (w' := W2.setCell ⟨w2.heap.size, 4, none⟩ (.slice a4 n4' c4')) #[true, true, true, true, true, true, true, true, true, true, true, true, true, true, true, false] (by kernel_rfl) (by kernel_rfl) (by kernel_rfl) (by kernel_rfl) (by go_simp) hS9 ?_
              refine wpAnyH_done (by kernel_rfl) ?_ _
              exact hK' _ _ (Met.intro (hJ _ _ ⟨.pointer (some ⟨w2.heap.size, 4, none⟩), v9, .slice (some ⟨B, o5, none⟩) m d, .int .i64 k, .int .i64 (8 * (k : Int)), .int .i64 (13 + 8 * (k : Int)), .int .i64 k, .int .i64 (8 * (k : Int)), .int .i64 (21 + 8 * (k : Int)), .slice (some ⟨B, o5 + (13 + 8 * k), none⟩) 8 (d - (13 + 8 * k)), .int .u64 N, .int .i64 (IntKind.i64.wrap N), .slice (some ⟨wr.drew.heap.size, 0, none⟩) 1 1, (.slice a4 n4' c4'), .pointer (some ⟨w2.heap.size, 4, none⟩), ⟨_, HD9.out, HO9.out⟩, by kernel_rfl⟩))
            case wb =>
              refine op_go (o := { dst := some 110, op := Op.call { callee := Callee.value (Operand.func 44), args := #[Operand.tmp 109], argTypes := #[24] }, type := 85, pos := "ref.go:204", after := #[{ on := 9, ground := Ground.data }], guard := none }) (by kernel_rfl) (by kernel_rfl) (by kernel_rfl) (X := fun v W => v = .int .u64 N ∧ wr.drew = W) ((HCN.out wr.drew (d - (13 + 8 * k)) 8 rfl hS0.out).mono fun e w' ⟨e1, e2⟩ => ⟨_, e1, rfl, e2⟩) ?_
              rintro v w7 ⟨rfl, hw7⟩
              subst hw7
              refine ⟨hS0, ?_⟩
              refine wpAnyH_take (i := 11) (v := .int .i64 (IntKind.i64.wrap N)) rfl (by kernel_rfl) (by kernel_rfl) (by kernel_rfl) (fun _ _ _ h => h) (y_on (by kernel_rfl) (fun W hW => by kernel_rfl)) hS0 ?_
              refine held_two (i := 1) (j := 12) #[true, false, true, true, true, true, true, true, true, true, true, true, false, false, false, false] (by kernel_rfl) (by kernel_rfl) ?wc ?wd
              case wc =>
                refine op_val (o := { dst := some 101, op := Op.load 43 (Operand.tmp 100), type := 43, pos := "ref.go:204", after := #[{ on := 0, ground := Ground.data }], guard := none }) (v := v9) (w' := wr.drew) (by kernel_rfl) (by kernel_rfl) (exec_load 43 (.tmp 100) rfl ⟨w2.heap.size, 4, none⟩ (by kernel_rfl) (by go_simp)) ⟨hS0, ?_⟩
                refine held_new (i := 12) (o := { dst := some 112, op := Op.buildSlice 43 1 #[(0, Operand.tmp 111)], type := 43, pos := "ref.go:204", after := #[{ on := 11, ground := Ground.data }], guard := none }) (v := .slice (some ⟨wr.drew.heap.size, 0, none⟩) 1 1) (w' := WA) #[true, true, true, true, true, true, true, true, true, true, true, true, false, false, false, false] (by kernel_rfl) (by kernel_rfl) (by kernel_rfl) (by kernel_rfl) (by rw [HWA.out]; kernel_rfl) hSA ?_
                refine held_new (i := 13) (o := { dst := some 113, op := Op.call { callee := Callee.builtin Builtin.append, args := #[Operand.tmp 101, Operand.tmp 112], argTypes := #[43, 43] }, type := 43, pos := "ref.go:204", after := #[{ on := 1, ground := Ground.data }, { on := 12, ground := Ground.data }, { on := 10, ground := Ground.chain }], guard := none }) (v := .slice a4 n4' c4') (w' := W2) #[true, true, true, true, true, true, true, true, true, true, true, true, true, false, false, false] (by kernel_rfl) (by kernel_rfl) (by kernel_rfl) (by kernel_rfl) (exec_append (.tmp 101) (.tmp 112) 43 rfl (by kernel_rfl) (by kernel_rfl) hr2) hS2 ?_
                refine wpAnyH_take (i := 14) (v := .pointer (some ⟨w2.heap.size, 4, none⟩)) rfl (by kernel_rfl) (by kernel_rfl) (by kernel_rfl) (fun _ _ _ h => h) (y_on (by kernel_rfl) (fun W hW => by kernel_rfl)) hS2 ?_
                refine held_do (i := 15) (o := { dst := none, op := Op.store 43 (Operand.tmp 114) (Operand.tmp 113), type := 0, pos := "ref.go:204", after := #[{ on := 14, ground := Ground.data }, { on := 13, ground := Ground.data }, { on := 13, ground := Ground.chain }, { on := 0, ground := Ground.phase }, { on := 1, ground := Ground.phase }, { on := 2, ground := Ground.phase }, { on := 3, ground := Ground.phase }, { on := 4, ground := Ground.phase }, { on := 5, ground := Ground.phase }, { on := 6, ground := Ground.phase }, { on := 7, ground := Ground.phase }, { on := 8, ground := Ground.phase }, { on := 9, ground := Ground.phase }, { on := 10, ground := Ground.phase }, { on := 11, ground := Ground.phase }, { on := 12, ground := Ground.phase }, { on := 13, ground := Ground.phase }], guard := none }) (w' := W2.setCell ⟨w2.heap.size, 4, none⟩ (.slice a4 n4' c4')) #[true, true, true, true, true, true, true, true, true, true, true, true, true, true, true, false] (by kernel_rfl) (by kernel_rfl) (by kernel_rfl) (by kernel_rfl) (by go_simp) hS9 ?_
                refine wpAnyH_done (by kernel_rfl) ?_ _
                exact hK' _ _ (Met.intro (hJ _ _ ⟨.pointer (some ⟨w2.heap.size, 4, none⟩), v9, .slice (some ⟨B, o5, none⟩) m d, .int .i64 k, .int .i64 (8 * (k : Int)), .int .i64 (13 + 8 * (k : Int)), .int .i64 k, .int .i64 (8 * (k : Int)), .int .i64 (21 + 8 * (k : Int)), .slice (some ⟨B, o5 + (13 + 8 * k), none⟩) 8 (d - (13 + 8 * k)), .int .u64 N, .int .i64 (IntKind.i64.wrap N), .slice (some ⟨wr.drew.heap.size, 0, none⟩) 1 1, (.slice a4 n4' c4'), .pointer (some ⟨w2.heap.size, 4, none⟩), ⟨_, HD9.out, HO9.out⟩, by kernel_rfl⟩))
              case wd =>
                refine op_val (o := { dst := some 112, op := Op.buildSlice 43 1 #[(0, Operand.tmp 111)], type := 43, pos := "ref.go:204", after := #[{ on := 11, ground := Ground.data }], guard := none }) (v := .slice (some ⟨wr.drew.heap.size, 0, none⟩) 1 1) (w' := WA) (by kernel_rfl) (by kernel_rfl) (by rw [HWA.out]; kernel_rfl) ⟨hSA, ?_⟩
                refine held_val (i := 1) (o := { dst := some 101, op := Op.load 43 (Operand.tmp 100), type := 43, pos := "ref.go:204", after := #[{ on := 0, ground := Ground.data }], guard := none }) (v := v9) #[true, false, true, true, true, true, true, true, true, true, true, true, true, false, false, false] (by kernel_rfl) (by kernel_rfl) (by kernel_rfl) (by kernel_rfl) (exec_load 43 (.tmp 100) rfl ⟨w2.heap.size, 4, none⟩ (by kernel_rfl) (by go_simp)) hSA ?_
                refine held_new (i := 13) (o := { dst := some 113, op := Op.call { callee := Callee.builtin Builtin.append, args := #[Operand.tmp 101, Operand.tmp 112], argTypes := #[43, 43] }, type := 43, pos := "ref.go:204", after := #[{ on := 1, ground := Ground.data }, { on := 12, ground := Ground.data }, { on := 10, ground := Ground.chain }], guard := none }) (v := .slice a4 n4' c4') (w' := W2) #[true, true, true, true, true, true, true, true, true, true, true, true, true, false, false, false] (by kernel_rfl) (by kernel_rfl) (by kernel_rfl) (by kernel_rfl) (exec_append (.tmp 101) (.tmp 112) 43 rfl (by kernel_rfl) (by kernel_rfl) hr2) hS2 ?_
                refine wpAnyH_take (i := 14) (v := .pointer (some ⟨w2.heap.size, 4, none⟩)) rfl (by kernel_rfl) (by kernel_rfl) (by kernel_rfl) (fun _ _ _ h => h) (y_on (by kernel_rfl) (fun W hW => by kernel_rfl)) hS2 ?_
                refine held_do (i := 15) (o := { dst := none, op := Op.store 43 (Operand.tmp 114) (Operand.tmp 113), type := 0, pos := "ref.go:204", after := #[{ on := 14, ground := Ground.data }, { on := 13, ground := Ground.data }, { on := 13, ground := Ground.chain }, { on := 0, ground := Ground.phase }, { on := 1, ground := Ground.phase }, { on := 2, ground := Ground.phase }, { on := 3, ground := Ground.phase }, { on := 4, ground := Ground.phase }, { on := 5, ground := Ground.phase }, { on := 6, ground := Ground.phase }, { on := 7, ground := Ground.phase }, { on := 8, ground := Ground.phase }, { on := 9, ground := Ground.phase }, { on := 10, ground := Ground.phase }, { on := 11, ground := Ground.phase }, { on := 12, ground := Ground.phase }, { on := 13, ground := Ground.phase }], guard := none }) (w' := W2.setCell ⟨w2.heap.size, 4, none⟩ (.slice a4 n4' c4')) #[true, true, true, true, true, true, true, true, true, true, true, true, true, true, true, false] (by kernel_rfl) (by kernel_rfl) (by kernel_rfl) (by kernel_rfl) (by go_simp) hS9 ?_
                refine wpAnyH_done (by kernel_rfl) ?_ _
                exact hK' _ _ (Met.intro (hJ _ _ ⟨.pointer (some ⟨w2.heap.size, 4, none⟩), v9, .slice (some ⟨B, o5, none⟩) m d, .int .i64 k, .int .i64 (8 * (k : Int)), .int .i64 (13 + 8 * (k : Int)), .int .i64 k, .int .i64 (8 * (k : Int)), .int .i64 (21 + 8 * (k : Int)), .slice (some ⟨B, o5 + (13 + 8 * k), none⟩) 8 (d - (13 + 8 * k)), .int .u64 N, .int .i64 (IntKind.i64.wrap N), .slice (some ⟨wr.drew.heap.size, 0, none⟩) 1 1, (.slice a4 n4' c4'), .pointer (some ⟨w2.heap.size, 4, none⟩), ⟨_, HD9.out, HO9.out⟩, by kernel_rfl⟩))
      · skip
        have hq : candS z l = zeroS z := by unfold candS; rw [hlen, if_neg (by omega), if_neg (fun e => km ⟨e.2.1, e.2.2.1, e.2.2.2⟩), if_neg (by omega), if_neg (by omega), if_neg (by omega)]
        have bk1 : (z == 1) = false := by simp; omega
        have bk2 : (z == 2) = true := by simp; omega
        have bk3 : (z == 3) = false := by simp; omega
        have bk4 : (z == 4) = false := by simp; omega
        have bk5 : (z == 5) = false := by simp; omega
        by_cases h13 : 13 ≤ m
        · have q4 : decide ((13 : Int) ≤ (m : Int)) = true := decide_eq_true (by omega)
          have q5 : (12 : Int) < (m : Int) := by omega
          obtain ⟨B1, o1, e1, y1, hy1, hc1⟩ := CB_cell (HLR.out.below HD5.out.below) (i := 12) (by omega)
          cases e1
          obtain ⟨v1, hv1⟩ : ∃ v : Int, v = octA l 12 := ⟨_, rfl⟩
          have hNb : 0 ≤ v1 ∧ v1 ≤ 255 := by rw [hv1]; exact octA_bd _ _
          have hN2 : (y1.toNat : Int) = v1 := by rw [hv1]; unfold octA; rw [List.getD, hy1]; rfl
          rw [hN2] at hc1
          have hwv1 : IntKind.i64.wrap v1 = v1 := by rw [wrapI]; exact wrap64_id (by unfold I64; omega)
          have cv1 := hc1
          have Hv1 := Lib.hid (And.intro hv1 hNb)
          clear hc1 hy1 hN2 hv1 hNb
          have hvb := Hv1.out.2
          have hkm : ¬ (v1 ≤ 8 ∧ (m : Int) = 13 + 8 * v1) := fun e => km ⟨h13, by rw [← Hv1.out.1]; exact e.1, by rw [← Hv1.out.1]; exact e.2⟩
          have qb : IntKind.i64.wrap (8 * v1) = 8 * v1 := by rw [wrapI]; exact wrap64_id (by unfold I64; omega)
          have qc : IntKind.i64.wrap (13 + 8 * v1) = 13 + 8 * v1 := by rw [wrapI]; exact wrap64_id (by unfold I64; omega)
          by_cases h8 : v1 ≤ 8
          · have qa : decide (v1 ≤ 8) = true := decide_eq_true h8
            have qd : ((m : Int) == 13 + 8 * v1) = false := by simp; omega
            have HKZ := Lib.hid (And.intro k2 (And.intro km (And.intro h13 (And.intro h8 hkm))))
            clear k2 km h13 h8 hkm hvb
            go_wp2_with fail
            go_meet
            case rel =>
              rw [HQ.out, hq]
              exact DUR.of HD5.out rfl
          · have qa : decide (v1 ≤ 8) = false := decide_eq_false h8
            have HKZ := Lib.hid (And.intro k2 (And.intro km (And.intro h13 (And.intro h8 hkm))))
            clear k2 km h13 h8 hkm hvb
            go_wp2_with fail
            go_meet
            case rel =>
              rw [HQ.out, hq]
              exact DUR.of HD5.out rfl
        · have q4 : decide ((13 : Int) ≤ (m : Int)) = false := decide_eq_false (by omega)
          have HKZ := Lib.hid (And.intro k2 (And.intro km h13))
          clear k2 km h13
          go_wp2_with fail
          go_meet
          case rel =>
            rw [HQ.out, hq]
            exact DUR.of HD5.out rfl
    by_cases k3 : z = 3
    · skip
      by_cases km : m = 27
      · skip
        obtain ⟨B1, o1, e1, y1, hy1, hc1⟩ := CB_cell HLR.out (i := 17) (by omega)
        cases e1
        obtain ⟨v1, hv1⟩ : ∃ v : Int, v = octA l 17 := ⟨_, rfl⟩
        have hNb : 0 ≤ v1 ∧ v1 ≤ 255 := by rw [hv1]; exact octA_bd _ _
        have hN2 : (y1.toNat : Int) = v1 := by rw [hv1]; unfold octA; rw [List.getD, hy1]; rfl
        rw [hN2] at hc1
        have hwv1 : IntKind.i64.wrap v1 = v1 := by rw [wrapI]; exact wrap64_id (by unfold I64; omega)
        have cv1 := hc1
        have Hv1 := Lib.hid (And.intro hv1 hNb)
        clear hc1 hy1 hN2 hv1 hNb
        obtain ⟨B1, o1, e1, y1, hy1, hc1⟩ := CB_cell HLR.out (i := 18) (by omega)
        cases e1
        obtain ⟨v2, hv2⟩ : ∃ v : Int, v = octA l 18 := ⟨_, rfl⟩
        have hNb : 0 ≤ v2 ∧ v2 ≤ 255 := by rw [hv2]; exact octA_bd _ _
        have hN2 : (y1.toNat : Int) = v2 := by rw [hv2]; unfold octA; rw [List.getD, hy1]; rfl
        rw [hN2] at hc1
        have hwv2 : IntKind.i64.wrap v2 = v2 := by rw [wrapI]; exact wrap64_id (by unfold I64; omega)
        have cv2 := hc1
        have Hv2 := Lib.hid (And.intro hv2 hNb)
        clear hc1 hy1 hN2 hv2 hNb
        obtain ⟨u2, hu2⟩ : ∃ u, u = numOf (l.drop 19) := ⟨_, rfl⟩
        have hAt : CB.At w (some ⟨B, o5 + 19, none⟩) 8 (l.drop 19) := by
          have := HLR.out.part 19 (19 + 8) (by omega) (by omega) B o5 rfl
          rw [show 19 * CB.k = 19 from rfl] at this
          rw [List.take_of_length_le (by rw [hlen]; omega)] at this
          exact this
        have HCu2 : Hid (∀ W n' c', n' = 8 → Below w.heap.size w W → Calls Try.prog 44 #[.slice (some ⟨B, o5 + 19, none⟩) n' c'] W (fun e w' => e = .returned (.int .u64 u2) ∧ W = w')) := by
          rw [hu2]
          rintro W n' c' rfl hW
          exact dnum_eq W _ 8 c' _ (hAt.below hW) (by decide)
        have hwu2 : IntKind.i64.wrap u2 = wrap64 u2 := wrapI u2
        have Hu2 := Lib.hid hu2
        clear hu2 hAt
        obtain ⟨ka, hka⟩ : ∃ u, u = longA ((l).take 8) := ⟨_, rfl⟩
        obtain ⟨kb, hkb⟩ : ∃ u, u = octA (l) 8 := ⟨_, rfl⟩
        obtain ⟨kc, hkc⟩ : ∃ u, u = longA (((l).drop 9).take 8) := ⟨_, rfl⟩
        have HAT : Hid (∀ W n' c', (n' = 27 ∧ n' ≤ c' ∧ c' ≤ 9223372036854775807) → Below w.heap.size w W → Calls Try.prog 45 #[.slice (some ⟨B, o5, none⟩) n' c'] W (TellsV (.agg #[.int .i64 ka, .int .i64 kb, .int .i64 kc]) W)) := by
          rw [hka, hkb, hkc]
          rintro W n' c' ⟨h1, h2, h3⟩ hW
          refine at_any W B _ n' c' (l) ?_ (by omega) h2 h3
          rw [h1, ← km]
          exact HLR.out.below hW
        have HKA := Lib.hid (And.intro hka (And.intro hkb hkc))
        clear hka hkb hkc
        have hq : candS z l = { zeroS z with rt := ka, ro := kb, rs := kc, rp := v1, rn := v2, rv := wrap64 u2 } := by unfold candS; rw [hlen, if_neg (by omega), if_neg (by omega), if_pos (by omega), ← HKA.out.1, ← HKA.out.2.1, ← HKA.out.2.2, ← Hv1.out.1, ← Hv2.out.1]; unfold longA; rw [← Hu2.out]
        have q0 : (17 : Int) < (m : Int) := by omega
        have q1 : (18 : Int) < (m : Int) := by omega
        have q2 : (19 : Int) ≤ (m : Int) := by omega
        have q3 : ((m : Int) == 27) = true := by simp; omega
        have q4 : ¬ d = 19 := by omega
        have bk1 : (z == 1) = false := by simp; omega
        have bk2 : (z == 2) = false := by simp; omega
        have bk3 : (z == 3) = true := by simp; omega
        have bk4 : (z == 4) = false := by simp; omega
        have bk5 : (z == 5) = false := by simp; omega
        have HKZ := Lib.hid k3
        have HMK := Lib.hid km
        clear k3 km
        go_upto_region 18 with fail
        refine wp_last fun K9 hK9 => ?_
        go_cut [] from 124 to 139 (fun wx => DU w w1.heap.size w2.heap.size wx { zeroS z with rt := ka, ro := kb, rs := kc, rp := IntKind.i64.wrap v1, rn := IntKind.i64.wrap v2, rv := IntKind.i64.wrap u2 } (.slice none 0 0))
        rotate_left
        · have D9 := hcut
          rw [hwu2, hwv1, hwv2] at D9
          have HD9 := Lib.hid D9
          clear D9
          clear hcut
          refine hK9 _ _ ?_
          go_wp2_with fail
          go_meet
          case rel =>
            rw [HQ.out, hq]
            exact DUR.of HD9.out rfl
        rename_i J K' hJ hK'
        refine wp_region_held (S := fun W => Hid (Below w.heap.size w W)) (by kernel_rfl) ?_
        change wpAnyH _ _ _ _ _ _ _ _ (World.drew _)
        have HDd := Lib.hid HD5.out.drew
        have hS0 : Hid (Below w.heap.size w w5.drew) := Lib.hid HDd.out.below
        refine wpAnyH_take (i := 0) (v := .slice (some ⟨B, o5, none⟩) m d) rfl (by kernel_rfl) (by kernel_rfl) (by kernel_rfl) (fun _ _ _ h => h) (y_on (by kernel_rfl) (fun W hW => by kernel_rfl)) hS0 ?_
        refine wpAnyH_take (i := 2) (v := .slice (some ⟨B, o5, none⟩) m d) rfl (by kernel_rfl) (by kernel_rfl) (by kernel_rfl) (fun _ _ _ h => h) (y_on (by kernel_rfl) (fun W hW => by kernel_rfl)) hS0 ?_
        refine wpAnyH_take (i := 3) (v := .pointer (some ⟨B, o5 + 17, none⟩)) rfl (by kernel_rfl) (by kernel_rfl) (by kernel_rfl) (fun _ _ _ h => h) (y_on (by kernel_rfl) (fun W hW => by go_simp)) hS0 ?_
        refine wpAnyH_take (i := 4) (v := .int .u8 v1) rfl (by kernel_rfl) (by kernel_rfl) (by kernel_rfl) (fun _ _ _ h => h) (y_on (by kernel_rfl) (fun W hW => by have hc := cell_below cv1 hW.out; go_simp)) hS0 ?_
        refine wpAnyH_take (i := 5) (v := .int .i64 (IntKind.i64.wrap v1)) rfl (by kernel_rfl) (by kernel_rfl) (by kernel_rfl) (fun _ _ _ h => h) (y_on (by kernel_rfl) (fun W hW => by kernel_rfl)) hS0 ?_
        refine wpAnyH_take (i := 6) (v := .slice (some ⟨B, o5, none⟩) m d) rfl (by kernel_rfl) (by kernel_rfl) (by kernel_rfl) (fun _ _ _ h => h) (y_on (by kernel_rfl) (fun W hW => by kernel_rfl)) hS0 ?_
        refine wpAnyH_take (i := 7) (v := .pointer (some ⟨B, o5 + 18, none⟩)) rfl (by kernel_rfl) (by kernel_rfl) (by kernel_rfl) (fun _ _ _ h => h) (y_on (by kernel_rfl) (fun W hW => by go_simp)) hS0 ?_
        refine wpAnyH_take (i := 8) (v := .int .u8 v2) rfl (by kernel_rfl) (by kernel_rfl) (by kernel_rfl) (fun _ _ _ h => h) (y_on (by kernel_rfl) (fun W hW => by have hc := cell_below cv2 hW.out; go_simp)) hS0 ?_
        refine wpAnyH_take (i := 9) (v := .int .i64 (IntKind.i64.wrap v2)) rfl (by kernel_rfl) (by kernel_rfl) (by kernel_rfl) (fun _ _ _ h => h) (y_on (by kernel_rfl) (fun W hW => by kernel_rfl)) hS0 ?_
        refine wpAnyH_take (i := 10) (v := .slice (some ⟨B, o5, none⟩) m d) rfl (by kernel_rfl) (by kernel_rfl) (by kernel_rfl) (fun _ _ _ h => h) (y_on (by kernel_rfl) (fun W hW => by kernel_rfl)) hS0 ?_
        refine wpAnyH_take (i := 11) (v := .slice (some ⟨B, o5 + 19, none⟩) (m - 19) (d - 19)) rfl (by kernel_rfl) (by kernel_rfl) (by kernel_rfl) (fun _ _ _ h => h) (y_on (by kernel_rfl) (fun W hW => by go_simp)) hS0 ?_
        refine held_go (i := 1) (o := { dst := some 125, op := Op.call { callee := Callee.value (Operand.func 45), args := #[Operand.tmp 124], argTypes := #[24] }, type := 26, pos := "ref.go:207", after := #[{ on := 0, ground := Ground.data }], guard := none }) #[true, false, true, true, true, true, true, true, true, true, true, true, false, false, false, false, false] (by kernel_rfl) (by kernel_rfl) (by kernel_rfl) (by kernel_rfl) (by kernel_rfl) (X := fun v W => v = .agg #[.int .i64 ka, .int .i64 kb, .int .i64 kc] ∧ Below w5.drew.heap.size w5.drew W) ((HAT.out w5.drew m d (by have := HMK.out; omega) hS0.out).mono fun e w' ⟨e1, e2⟩ => ⟨_, e1, rfl, e2⟩) ?_
        rintro v w6 ⟨rfl, hw6⟩
        have HD6 := Lib.hid (HDd.out.next hw6)
        have hS1 : Hid (Below w.heap.size w w6) := Lib.hid HD6.out.below
        refine ⟨hS1, ?_⟩
        refine held_go (i := 12) (o := { dst := some 136, op := Op.call { callee := Callee.value (Operand.func 44), args := #[Operand.tmp 135], argTypes := #[24] }, type := 85, pos := "ref.go:207", after := #[{ on := 11, ground := Ground.data }, { on := 1, ground := Ground.chain }], guard := none }) #[true, true, true, true, true, true, true, true, true, true, true, true, false, false, false, false, false] (by kernel_rfl) (by kernel_rfl) (by kernel_rfl) (by kernel_rfl) (by kernel_rfl) (X := fun v W => v = .int .u64 u2 ∧ w6 = W) ((HCu2.out w6 (m - 19) (d - 19) (by have := HMK.out; omega) hS1.out).mono fun e w' ⟨e1, e2⟩ => ⟨_, e1, rfl, e2⟩) ?_
        rintro v w7 ⟨rfl, hw7⟩
        subst hw7
        refine ⟨hS1, ?_⟩
        refine wpAnyH_take (i := 13) (v := .int .i64 (IntKind.i64.wrap u2)) rfl (by kernel_rfl) (by kernel_rfl) (by kernel_rfl) (fun _ _ _ h => h) (y_on (by kernel_rfl) (fun W hW => by kernel_rfl)) hS1 ?_
        refine wpAnyH_take (i := 14) (v := .agg #[.int .i64 ka, .int .i64 kb, .int .i64 kc, .int .i64 (IntKind.i64.wrap v1), .int .i64 (IntKind.i64.wrap v2), .int .i64 (IntKind.i64.wrap u2)]) rfl (by kernel_rfl) (by kernel_rfl) (by kernel_rfl) (fun _ _ _ h => h) (y_on (by kernel_rfl) (fun W hW => by kernel_rfl)) hS1 ?_
        refine wpAnyH_take (i := 15) (v := .pointer (some ⟨w2.heap.size, 5, none⟩)) rfl (by kernel_rfl) (by kernel_rfl) (by kernel_rfl) (fun _ _ _ h => h) (y_on (by kernel_rfl) (fun W hW => by kernel_rfl)) hS1 ?_
        have D9 := ((((((HD6.out.set 5 (.int .i64 ka) { zeroS z with rt := ka } (.slice none 0 0) rfl).set 6 (.int .i64 kb) { zeroS z with rt := ka, ro := kb } (.slice none 0 0) rfl).set 7 (.int .i64 kc) { zeroS z with rt := ka, ro := kb, rs := kc } (.slice none 0 0) rfl).set 8 (.int .i64 (IntKind.i64.wrap v1)) { zeroS z with rt := ka, ro := kb, rs := kc, rp := IntKind.i64.wrap v1 } (.slice none 0 0) rfl).set 9 (.int .i64 (IntKind.i64.wrap v2)) { zeroS z with rt := ka, ro := kb, rs := kc, rp := IntKind.i64.wrap v1, rn := IntKind.i64.wrap v2 } (.slice none 0 0) rfl).set 10 (.int .i64 (IntKind.i64.wrap u2)) { zeroS z with rt := ka, ro := kb, rs := kc, rp := IntKind.i64.wrap v1, rn := IntKind.i64.wrap v2, rv := IntKind.i64.wrap u2 } (.slice none 0 0) rfl)
        have HD9 := Lib.hid D9
        clear D9
        obtain ⟨c00, c01, c02, c03, c04, c05, c06, c07, c08, c09, c10, c11, c12, c13, c14, c15, c16, c17⟩ := RsC_cells HD6.out.r5
        have fz6 := HD6.out.fz
        clear c00 c01 c02 c03 c04 c11 c12 c13 c14 c15 c16 c17 g0 g1 g2 g3 g4 g11 fz5
        refine held_do (i := 16) (o := { dst := none, op := Op.store 45 (Operand.tmp 139) (Operand.tmp 138), type := 0, pos := "ref.go:207", after := #[{ on := 15, ground := Ground.data }, { on := 14, ground := Ground.data }, { on := 12, ground := Ground.chain }, { on := 0, ground := Ground.phase }, { on := 1, ground := Ground.phase }, { on := 2, ground := Ground.phase }, { on := 3, ground := Ground.phase }, { on := 4, ground := Ground.phase }, { on := 5, ground := Ground.phase }, { on := 6, ground := Ground.phase }, { on := 7, ground := Ground.phase }, { on := 8, ground := Ground.phase }, { on := 9, ground := Ground.phase }, { on := 10, ground := Ground.phase }, { on := 11, ground := Ground.phase }, { on := 12, ground := Ground.phase }, { on := 13, ground := Ground.phase }, { on := 14, ground := Ground.phase }], guard := none }) #[true, true, true, true, true, true, true, true, true, true, true, true, true, true, true, true, false] (w' := ((((((w6.setCell ⟨w2.heap.size, 5, none⟩ (.int .i64 ka)).setCell ⟨w2.heap.size, 6, none⟩ (.int .i64 kb)).setCell ⟨w2.heap.size, 7, none⟩ (.int .i64 kc)).setCell ⟨w2.heap.size, 8, none⟩ (.int .i64 (IntKind.i64.wrap v1))).setCell ⟨w2.heap.size, 9, none⟩ (.int .i64 (IntKind.i64.wrap v2))).setCell ⟨w2.heap.size, 10, none⟩ (.int .i64 (IntKind.i64.wrap u2)))) (by kernel_rfl) (by kernel_rfl) (by kernel_rfl) (by kernel_rfl) ?st (Lib.hid HD9.out.below) ?_
        case st =>
          go_simp
        clear fz6 c05 c06 c07 c08 c09 c10
        refine wpAnyH_done (by kernel_rfl) ?_ _
        exact hK' _ _ (Met.intro (hJ _ _ ⟨.slice (some ⟨B, o5, none⟩) m d, .agg #[.int .i64 ka, .int .i64 kb, .int .i64 kc], .slice (some ⟨B, o5, none⟩) m d, .pointer (some ⟨B, o5 + 17, none⟩), .int .u8 v1, .int .i64 (IntKind.i64.wrap v1), .slice (some ⟨B, o5, none⟩) m d, .pointer (some ⟨B, o5 + 18, none⟩), .int .u8 v2, .int .i64 (IntKind.i64.wrap v2), .slice (some ⟨B, o5, none⟩) m d, .slice (some ⟨B, o5 + 19, none⟩) (m - 19) (d - 19), .int .u64 u2, .int .i64 (IntKind.i64.wrap u2), .agg #[.int .i64 ka, .int .i64 kb, .int .i64 kc, .int .i64 (IntKind.i64.wrap v1), .int .i64 (IntKind.i64.wrap v2), .int .i64 (IntKind.i64.wrap u2)], .pointer (some ⟨w2.heap.size, 5, none⟩), HD9.out, by kernel_rfl⟩))
      · skip
        have hq : candS z l = zeroS z := by unfold candS; rw [hlen, if_neg (by omega), if_neg (by omega), if_neg (by omega), if_neg (by omega), if_neg (by omega)]
        have bm : ((m : Int) == 27) = false := by simp; omega
        have bk1 : (z == 1) = false := by simp; omega
        have bk2 : (z == 2) = false := by simp; omega
        have bk3 : (z == 3) = true := by simp; omega
        have bk4 : (z == 4) = false := by simp; omega
        have bk5 : (z == 5) = false := by simp; omega
        have HKZ := Lib.hid k3
        have HMK := Lib.hid km
        clear k3 km
        go_wp2_with fail
        go_meet
        case rel =>
          rw [HQ.out, hq]
          exact DUR.of HD5.out rfl
    by_cases k4 : z = 4
    · skip
      by_cases km : m = 31
      · skip
        obtain ⟨B1, o1, e1, y1, hy1, hc1⟩ := CB_cell HLR.out (i := 21) (by omega)
        cases e1
        obtain ⟨v1, hv1⟩ : ∃ v : Int, v = octA l 21 := ⟨_, rfl⟩
        have hNb : 0 ≤ v1 ∧ v1 ≤ 255 := by rw [hv1]; exact octA_bd _ _
        have hN2 : (y1.toNat : Int) = v1 := by rw [hv1]; unfold octA; rw [List.getD, hy1]; rfl
        rw [hN2] at hc1
        have hwv1 : IntKind.i64.wrap v1 = v1 := by rw [wrapI]; exact wrap64_id (by unfold I64; omega)
        have cv1 := hc1
        have Hv1 := Lib.hid (And.intro hv1 hNb)
        clear hc1 hy1 hN2 hv1 hNb
        obtain ⟨B1, o1, e1, y1, hy1, hc1⟩ := CB_cell HLR.out (i := 22) (by omega)
        cases e1
        obtain ⟨v2, hv2⟩ : ∃ v : Int, v = octA l 22 := ⟨_, rfl⟩
        have hNb : 0 ≤ v2 ∧ v2 ≤ 255 := by rw [hv2]; exact octA_bd _ _
        have hN2 : (y1.toNat : Int) = v2 := by rw [hv2]; unfold octA; rw [List.getD, hy1]; rfl
        rw [hN2] at hc1
        have hwv2 : IntKind.i64.wrap v2 = v2 := by rw [wrapI]; exact wrap64_id (by unfold I64; omega)
        have cv2 := hc1
        have Hv2 := Lib.hid (And.intro hv2 hNb)
        clear hc1 hy1 hN2 hv2 hNb
        obtain ⟨u, hu⟩ : ∃ u, u = numOf (l.take 4) := ⟨_, rfl⟩
        have hUu : U32 u := by rw [hu]; exact num4_bd _
        have hU0u := hUu.1
        have hU1u := hUu.2
        have hwu : u % 4294967296 = u := by omega
        have HCu : Hid (∀ W c', Below w.heap.size w W → Calls Try.prog 44 #[.slice (some ⟨B, o5, none⟩) 4 c'] W (fun e w' => e = .returned (.int .u64 u) ∧ W = w')) := by
          rw [hu]
          exact fun W c' hW => dnum_eq W _ 4 c' _ ((HLR.out.front 4 (by omega)).below hW) (by decide)
        have Hu := Lib.hid hu
        clear hu hUu hU0u hU1u
        obtain ⟨u2, hu2⟩ : ∃ u, u = numOf (l.drop 23) := ⟨_, rfl⟩
        have hAt : CB.At w (some ⟨B, o5 + 23, none⟩) 8 (l.drop 23) := by
          have := HLR.out.part 23 (23 + 8) (by omega) (by omega) B o5 rfl
          rw [show 23 * CB.k = 23 from rfl] at this
          rw [List.take_of_length_le (by rw [hlen]; omega)] at this
          exact this
        have HCu2 : Hid (∀ W n' c', n' = 8 → Below w.heap.size w W → Calls Try.prog 44 #[.slice (some ⟨B, o5 + 23, none⟩) n' c'] W (fun e w' => e = .returned (.int .u64 u2) ∧ W = w')) := by
          rw [hu2]
          rintro W n' c' rfl hW
          exact dnum_eq W _ 8 c' _ (hAt.below hW) (by decide)
        have hwu2 : IntKind.i64.wrap u2 = wrap64 u2 := wrapI u2
        have Hu2 := Lib.hid hu2
        clear hu2 hAt
        obtain ⟨ka, hka⟩ : ∃ u, u = longA ((l.drop 4).take 8) := ⟨_, rfl⟩
        obtain ⟨kb, hkb⟩ : ∃ u, u = octA (l.drop 4) 8 := ⟨_, rfl⟩
        obtain ⟨kc, hkc⟩ : ∃ u, u = longA (((l.drop 4).drop 9).take 8) := ⟨_, rfl⟩
        have HAT : Hid (∀ W n' c', (n' = 27 ∧ n' ≤ c' ∧ c' ≤ 9223372036854775807) → Below w.heap.size w W → Calls Try.prog 45 #[.slice (some ⟨B, o5 + 4, none⟩) n' c'] W (TellsV (.agg #[.int .i64 ka, .int .i64 kb, .int .i64 kc]) W)) := by
          rw [hka, hkb, hkc]
          rintro W n' c' ⟨h1, h2, h3⟩ hW
          refine at_any W B _ n' c' (l.drop 4) ?_ (by omega) h2 h3
          have := HLR.out.part 4 m (by omega) (by omega) B o5 rfl
          rw [show 4 * CB.k = 4 from rfl, List.take_of_length_le (by rw [hlen]; exact Nat.le_refl _)] at this
          rw [h1, show 27 = m - 4 by omega]
          exact this.below hW
        have HKA := Lib.hid (And.intro hka (And.intro hkb hkc))
        clear hka hkb hkc
        have hq : candS z l = { zeroS z with num := u, time := ka, org := kb, seq := kc, pt := v1, ek := v2, dat := wrap64 u2 } := by unfold candS; rw [hlen, if_neg (by omega), if_neg (by omega), if_neg (by omega), if_pos (by omega), ← HKA.out.1, ← HKA.out.2.1, ← HKA.out.2.2, ← Hv1.out.1, ← Hv2.out.1, ← Hu.out]; unfold longA; rw [← Hu2.out]
        have q0 : (4 : Int) ≤ (d : Int) := by omega
        have q1 : (4 : Int) ≤ (m : Int) := by omega
        have q2 : (21 : Int) < (m : Int) := by omega
        have q3 : (22 : Int) < (m : Int) := by omega
        have q4 : (23 : Int) ≤ (m : Int) := by omega
        have q5 : ((m : Int) == 31) = true := by simp; omega
        have q6 : ¬ d = 23 := by omega
        have q7 : ¬ d = 4 := by omega
        have bk1 : (z == 1) = false := by simp; omega
        have bk2 : (z == 2) = false := by simp; omega
        have bk3 : (z == 3) = false := by simp; omega
        have bk4 : (z == 4) = true := by simp; omega
        have bk5 : (z == 5) = false := by simp; omega
        have HKZ := Lib.hid k4
        have HMK := Lib.hid km
        clear k4 km
        go_upto_region 21 with (first
          | (go_at_call_of 44 (Value.slice (some (⟨B, o5, none⟩ : Addr)) 4 d); refine (HCu.out _ _ HD5.out.below).mono ?_; rintro e w6 ⟨rfl, rfl⟩)
          | fail)
        generalize hw8 : World.setCell _ _ _ = w8
        have HD8 : Hid (DU w w1.heap.size w2.heap.size w8 { zeroS z with num := u } (.slice none 0 0)) := by rw [← hw8]; exact Lib.hid (HD5.out.set 11 _ _ _ rfl)
        clear hw8
        refine wp_last fun K9 hK9 => ?_
        go_cut [] from 154 to 170 (fun wx => DU w w1.heap.size w2.heap.size wx { zeroS z with num := u, time := ka, org := kb, seq := kc, pt := IntKind.i64.wrap v1, ek := IntKind.i64.wrap v2, dat := IntKind.i64.wrap u2 } (.slice none 0 0))
        rotate_left
        · have D9 := hcut
          rw [hwu2, hwv1, hwv2] at D9
          have HD9 := Lib.hid D9
          clear D9
          clear hcut
          refine hK9 _ _ ?_
          go_wp2_with fail
          go_meet
          case rel =>
            rw [HQ.out, hq]
            exact DUR.of HD9.out rfl
        rename_i J K' hJ hK'
        refine wp_region_held (S := fun W => Hid (Below w.heap.size w W)) (by kernel_rfl) ?_
        change wpAnyH _ _ _ _ _ _ _ _ (World.drew _)
        have HDd := Lib.hid HD8.out.drew
        have hS0 : Hid (Below w.heap.size w w8.drew) := Lib.hid HDd.out.below
        refine wpAnyH_take (i := 0) (v := .slice (some ⟨B, o5, none⟩) m d) rfl (by kernel_rfl) (by kernel_rfl) (by kernel_rfl) (fun _ _ _ h => h) (y_on (by kernel_rfl) (fun W hW => by kernel_rfl)) hS0 ?_
        refine wpAnyH_take (i := 1) (v := .slice (some ⟨B, o5 + 4, none⟩) (m - 4) (d - 4)) rfl (by kernel_rfl) (by kernel_rfl) (by kernel_rfl) (fun _ _ _ h => h) (y_on (by kernel_rfl) (fun W hW => by go_simp)) hS0 ?_
        refine wpAnyH_take (i := 3) (v := .slice (some ⟨B, o5, none⟩) m d) rfl (by kernel_rfl) (by kernel_rfl) (by kernel_rfl) (fun _ _ _ h => h) (y_on (by kernel_rfl) (fun W hW => by kernel_rfl)) hS0 ?_
        refine wpAnyH_take (i := 4) (v := .pointer (some ⟨B, o5 + 21, none⟩)) rfl (by kernel_rfl) (by kernel_rfl) (by kernel_rfl) (fun _ _ _ h => h) (y_on (by kernel_rfl) (fun W hW => by go_simp)) hS0 ?_
        refine wpAnyH_take (i := 5) (v := .int .u8 v1) rfl (by kernel_rfl) (by kernel_rfl) (by kernel_rfl) (fun _ _ _ h => h) (y_on (by kernel_rfl) (fun W hW => by have hc := cell_below cv1 hW.out; go_simp)) hS0 ?_
        refine wpAnyH_take (i := 6) (v := .int .i64 (IntKind.i64.wrap v1)) rfl (by kernel_rfl) (by kernel_rfl) (by kernel_rfl) (fun _ _ _ h => h) (y_on (by kernel_rfl) (fun W hW => by kernel_rfl)) hS0 ?_
        refine wpAnyH_take (i := 7) (v := .slice (some ⟨B, o5, none⟩) m d) rfl (by kernel_rfl) (by kernel_rfl) (by kernel_rfl) (fun _ _ _ h => h) (y_on (by kernel_rfl) (fun W hW => by kernel_rfl)) hS0 ?_
        refine wpAnyH_take (i := 8) (v := .pointer (some ⟨B, o5 + 22, none⟩)) rfl (by kernel_rfl) (by kernel_rfl) (by kernel_rfl) (fun _ _ _ h => h) (y_on (by kernel_rfl) (fun W hW => by go_simp)) hS0 ?_
        refine wpAnyH_take (i := 9) (v := .int .u8 v2) rfl (by kernel_rfl) (by kernel_rfl) (by kernel_rfl) (fun _ _ _ h => h) (y_on (by kernel_rfl) (fun W hW => by have hc := cell_below cv2 hW.out; go_simp)) hS0 ?_
        refine wpAnyH_take (i := 10) (v := .int .i64 (IntKind.i64.wrap v2)) rfl (by kernel_rfl) (by kernel_rfl) (by kernel_rfl) (fun _ _ _ h => h) (y_on (by kernel_rfl) (fun W hW => by kernel_rfl)) hS0 ?_
        refine wpAnyH_take (i := 11) (v := .slice (some ⟨B, o5, none⟩) m d) rfl (by kernel_rfl) (by kernel_rfl) (by kernel_rfl) (fun _ _ _ h => h) (y_on (by kernel_rfl) (fun W hW => by kernel_rfl)) hS0 ?_
        refine wpAnyH_take (i := 12) (v := .slice (some ⟨B, o5 + 23, none⟩) (m - 23) (d - 23)) rfl (by kernel_rfl) (by kernel_rfl) (by kernel_rfl) (fun _ _ _ h => h) (y_on (by kernel_rfl) (fun W hW => by go_simp)) hS0 ?_
        refine held_go (i := 2) (o := { dst := some 156, op := Op.call { callee := Callee.value (Operand.func 45), args := #[Operand.tmp 155], argTypes := #[24] }, type := 26, pos := "ref.go:210", after := #[{ on := 1, ground := Ground.data }], guard := none }) #[true, true, false, true, true, true, true, true, true, true, true, true, true, false, false, false, false, false] (by kernel_rfl) (by kernel_rfl) (by kernel_rfl) (by kernel_rfl) (by kernel_rfl) (X := fun v W => v = .agg #[.int .i64 ka, .int .i64 kb, .int .i64 kc] ∧ Below w8.drew.heap.size w8.drew W) ((HAT.out w8.drew (m - 4) (d - 4) (by have := HMK.out; omega) hS0.out).mono fun e w' ⟨e1, e2⟩ => ⟨_, e1, rfl, e2⟩) ?_
        rintro v w6 ⟨rfl, hw6⟩
        have HD6 := Lib.hid (HDd.out.next hw6)
        have hS1 : Hid (Below w.heap.size w w6) := Lib.hid HD6.out.below
        refine ⟨hS1, ?_⟩
        refine held_go (i := 13) (o := { dst := some 167, op := Op.call { callee := Callee.value (Operand.func 44), args := #[Operand.tmp 166], argTypes := #[24] }, type := 85, pos := "ref.go:210", after := #[{ on := 12, ground := Ground.data }, { on := 2, ground := Ground.chain }], guard := none }) #[true, true, true, true, true, true, true, true, true, true, true, true, true, false, false, false, false, false] (by kernel_rfl) (by kernel_rfl) (by kernel_rfl) (by kernel_rfl) (by kernel_rfl) (X := fun v W => v = .int .u64 u2 ∧ w6 = W) ((HCu2.out w6 (m - 23) (d - 23) (by have := HMK.out; omega) hS1.out).mono fun e w' ⟨e1, e2⟩ => ⟨_, e1, rfl, e2⟩) ?_
        rintro v w7 ⟨rfl, hw7⟩
        subst hw7
        refine ⟨hS1, ?_⟩
        refine wpAnyH_take (i := 14) (v := .int .i64 (IntKind.i64.wrap u2)) rfl (by kernel_rfl) (by kernel_rfl) (by kernel_rfl) (fun _ _ _ h => h) (y_on (by kernel_rfl) (fun W hW => by kernel_rfl)) hS1 ?_
        refine wpAnyH_take (i := 15) (v := .agg #[.int .i64 ka, .int .i64 kb, .int .i64 kc, .int .i64 (IntKind.i64.wrap v1), .int .i64 (IntKind.i64.wrap v2), .int .i64 (IntKind.i64.wrap u2)]) rfl (by kernel_rfl) (by kernel_rfl) (by kernel_rfl) (fun _ _ _ h => h) (y_on (by kernel_rfl) (fun W hW => by kernel_rfl)) hS1 ?_
        refine wpAnyH_take (i := 16) (v := .pointer (some ⟨w2.heap.size, 12, none⟩)) rfl (by kernel_rfl) (by kernel_rfl) (by kernel_rfl) (fun _ _ _ h => h) (y_on (by kernel_rfl) (fun W hW => by kernel_rfl)) hS1 ?_
        have D9 := ((((((HD6.out.set 12 (.int .i64 ka) { zeroS z with num := u, time := ka } (.slice none 0 0) rfl).set 13 (.int .i64 kb) { zeroS z with num := u, time := ka, org := kb } (.slice none 0 0) rfl).set 14 (.int .i64 kc) { zeroS z with num := u, time := ka, org := kb, seq := kc } (.slice none 0 0) rfl).set 15 (.int .i64 (IntKind.i64.wrap v1)) { zeroS z with num := u, time := ka, org := kb, seq := kc, pt := IntKind.i64.wrap v1 } (.slice none 0 0) rfl).set 16 (.int .i64 (IntKind.i64.wrap v2)) { zeroS z with num := u, time := ka, org := kb, seq := kc, pt := IntKind.i64.wrap v1, ek := IntKind.i64.wrap v2 } (.slice none 0 0) rfl).set 17 (.int .i64 (IntKind.i64.wrap u2)) { zeroS z with num := u, time := ka, org := kb, seq := kc, pt := IntKind.i64.wrap v1, ek := IntKind.i64.wrap v2, dat := IntKind.i64.wrap u2 } (.slice none 0 0) rfl)
        have HD9 := Lib.hid D9
        clear D9
        obtain ⟨c00, c01, c02, c03, c04, c05, c06, c07, c08, c09, c10, c11, c12, c13, c14, c15, c16, c17⟩ := RsC_cells HD6.out.r5
        have fz6 := HD6.out.fz
        clear c00 c01 c02 c03 c04 c05 c06 c07 c08 c09 c10 c11 g0 g1 g2 g3 g4 g11 fz5
        refine held_do (i := 17) (o := { dst := none, op := Op.store 28 (Operand.tmp 170) (Operand.tmp 169), type := 0, pos := "ref.go:210", after := #[{ on := 16, ground := Ground.data }, { on := 15, ground := Ground.data }, { on := 13, ground := Ground.chain }, { on := 0, ground := Ground.phase }, { on := 1, ground := Ground.phase }, { on := 2, ground := Ground.phase }, { on := 3, ground := Ground.phase }, { on := 4, ground := Ground.phase }, { on := 5, ground := Ground.phase }, { on := 6, ground := Ground.phase }, { on := 7, ground := Ground.phase }, { on := 8, ground := Ground.phase }, { on := 9, ground := Ground.phase }, { on := 10, ground := Ground.phase }, { on := 11, ground := Ground.phase }, { on := 12, ground := Ground.phase }, { on := 13, ground := Ground.phase }, { on := 14, ground := Ground.phase }, { on := 15, ground := Ground.phase }], guard := none }) #[true, true, true, true, true, true, true, true, true, true, true, true, true, true, true, true, true, false] (w' := ((((((w6.setCell ⟨w2.heap.size, 12, none⟩ (.int .i64 ka)).setCell ⟨w2.heap.size, 13, none⟩ (.int .i64 kb)).setCell ⟨w2.heap.size, 14, none⟩ (.int .i64 kc)).setCell ⟨w2.heap.size, 15, none⟩ (.int .i64 (IntKind.i64.wrap v1))).setCell ⟨w2.heap.size, 16, none⟩ (.int .i64 (IntKind.i64.wrap v2))).setCell ⟨w2.heap.size, 17, none⟩ (.int .i64 (IntKind.i64.wrap u2)))) (by kernel_rfl) (by kernel_rfl) (by kernel_rfl) (by kernel_rfl) ?st (Lib.hid HD9.out.below) ?_
        case st =>
          go_simp
        clear fz6 c12 c13 c14 c15 c16 c17
        refine wpAnyH_done (by kernel_rfl) ?_ _
        exact hK' _ _ (Met.intro (hJ _ _ ⟨.slice (some ⟨B, o5, none⟩) m d, .slice (some ⟨B, o5 + 4, none⟩) (m - 4) (d - 4), .agg #[.int .i64 ka, .int .i64 kb, .int .i64 kc], .slice (some ⟨B, o5, none⟩) m d, .pointer (some ⟨B, o5 + 21, none⟩), .int .u8 v1, .int .i64 (IntKind.i64.wrap v1), .slice (some ⟨B, o5, none⟩) m d, .pointer (some ⟨B, o5 + 22, none⟩), .int .u8 v2, .int .i64 (IntKind.i64.wrap v2), .slice (some ⟨B, o5, none⟩) m d, .slice (some ⟨B, o5 + 23, none⟩) (m - 23) (d - 23), .int .u64 u2, .int .i64 (IntKind.i64.wrap u2), .agg #[.int .i64 ka, .int .i64 kb, .int .i64 kc, .int .i64 (IntKind.i64.wrap v1), .int .i64 (IntKind.i64.wrap v2), .int .i64 (IntKind.i64.wrap u2)], .pointer (some ⟨w2.heap.size, 12, none⟩), HD9.out, by kernel_rfl⟩))
      · skip
        have hq : candS z l = zeroS z := by unfold candS; rw [hlen, if_neg (by omega), if_neg (by omega), if_neg (by omega), if_neg (by omega), if_neg (by omega)]
        have bm : ((m : Int) == 31) = false := by simp; omega
        have bk1 : (z == 1) = false := by simp; omega
        have bk2 : (z == 2) = false := by simp; omega
        have bk3 : (z == 3) = false := by simp; omega
        have bk4 : (z == 4) = true := by simp; omega
        have bk5 : (z == 5) = false := by simp; omega
        have HKZ := Lib.hid k4
        have HMK := Lib.hid km
        clear k4 km
        go_wp2_with fail
        go_meet
        case rel =>
          rw [HQ.out, hq]
          exact DUR.of HD5.out rfl
    by_cases k5 : z = 5
    · skip
      by_cases km : m = 1
      · skip
        obtain ⟨B1, o1, e1, y1, hy1, hc1⟩ := CB_cell (HLR.out.below HD5.out.below) (i := 0) (by omega)
        cases e1
        rw [Nat.add_zero] at hc1
        obtain ⟨v1, hv1⟩ : ∃ v : Int, v = octA l 0 := ⟨_, rfl⟩
        have hNb : 0 ≤ v1 ∧ v1 ≤ 255 := by rw [hv1]; exact octA_bd _ _
        have hN2 : (y1.toNat : Int) = v1 := by rw [hv1]; unfold octA; rw [List.getD, hy1]; rfl
        rw [hN2] at hc1
        have hwv1 : IntKind.i64.wrap v1 = v1 := by rw [wrapI]; exact wrap64_id (by unfold I64; omega)
        have cv1 := hc1
        have Hv1 := Lib.hid (And.intro hv1 hNb)
        clear hc1 hy1 hN2 hv1 hNb
        have hq : candS z l = { zeroS z with err := v1 } := by unfold candS; rw [hlen, if_neg (by omega), if_neg (by omega), if_neg (by omega), if_neg (by omega), if_pos (by omega), ← Hv1.out.1]
        have q0 : (0 : Int) < (m : Int) := by omega
        have q1 : ((m : Int) == 1) = true := by simp; omega
        have bk1 : (z == 1) = false := by simp; omega
        have bk2 : (z == 2) = false := by simp; omega
        have bk3 : (z == 3) = false := by simp; omega
        have bk4 : (z == 4) = false := by simp; omega
        have bk5 : (z == 5) = true := by simp; omega
        have HKZ := Lib.hid k5
        have HMK := Lib.hid km
        clear k5 km
        go_wp2_with fail
        go_meet
        case rel =>
          rw [HQ.out, hq]
          exact DUR.of (HD5.out.set 2 _ _ _ rfl) rfl
      · skip
        have hq : candS z l = zeroS z := by unfold candS; rw [hlen, if_neg (by omega), if_neg (by omega), if_neg (by omega), if_neg (by omega), if_neg (by omega)]
        have bm : ((m : Int) == 1) = false := by simp; omega
        have bk1 : (z == 1) = false := by simp; omega
        have bk2 : (z == 2) = false := by simp; omega
        have bk3 : (z == 3) = false := by simp; omega
        have bk4 : (z == 4) = false := by simp; omega
        have bk5 : (z == 5) = true := by simp; omega
        have HKZ := Lib.hid k5
        have HMK := Lib.hid km
        clear k5 km
        go_wp2_with fail
        go_meet
        case rel =>
          rw [HQ.out, hq]
          exact DUR.of HD5.out rfl
    exfalso
    have := HH.out.1
    omega
  case rest =>
    obtain ⟨wb, rfl⟩ : ∃ wb, wb = wc := ⟨_, rfl⟩
    obtain ⟨a5, c5, DD, hat5, hle5, hfr5⟩ := hcut
    have hwf : WfS Q := by rw [HQ.out]; exact candS_wf z HH.out.1 l
    have hml : Q.vars.length ≤ 8 := by rw [HQ.out]; exact candS_len z l
    have HMM : Hid (∀ W, Below wb.heap.size wb W → Calls Try.prog 16 #[.agg (RsC Q (.slice a5 Q.vars.length c5))] W (TellsB (mayS Q) W)) := fun W hW => rMayResponse_any W Q a5 c5 (hat5.below hW)
    have HEN : Hid (∀ W, Below wb.heap.size wb W → Calls Try.prog 20 #[.agg (RsC Q (.slice a5 Q.vars.length c5))] W (CloneTo (bytesS' Q) W)) := fun W hW => rEncodeResponse_any W Q a5 c5 hwf (hat5.below hW) (Nat.le_trans hml (by decide))
    have HN : Hid (Below w.heap.size w wb ∧ wb.heap[w.heap.size]? = some (.cells (RsC (zeroS 0) (.slice none 0 0)) 47 (0, 0)) ∧ wb.heap[w1.heap.size]? = some (.cells (RsC (zeroS 0) (.slice none 0 0)) 47 (0, 0)) ∧ True) := Lib.hid ⟨DD.below, DD.r2, DD.r4, True.intro⟩
    have HST : Hid (Stand wb w2.heap.size (RsC Q (.slice a5 Q.vars.length c5)) 47) := Lib.hid ⟨DD.r5⟩
    have HA := Lib.hid (And.intro hat5 (And.intro hle5 (And.intro hfr5 (And.intro hwf.id hwf.num))))
    have HZ : Hid (1 ≤ (x.toNat : Int) ∧ (x.toNat : Int) ≤ 5) := by rw [← HH.out.2.1]; exact Lib.hid HH.out.1
    have HQ2 : Hid (Q = candS x.toNat l) := by rw [← HH.out.2.1]; exact HQ
    have hb10 : (bytesS' Q).length ≤ 10001 := Nat.le_trans (askS_len Q (Nat.le_trans hml (by decide))) (by decide)
    clear DD hat5 hle5 hfr5 hwf hml bx0 bx1 hwz f2 f3 g0 g1 g2 g3 g4 g11 fz5
    obtain ⟨ok, hok⟩ : ∃ ok, ok = (mayS Q && decide (bytesS' Q = x :: l)) := ⟨_, rfl⟩
    have HOK := Lib.hid hok
    clear hok
    go_upto_region 24 with fail
    go_cut [195] from 185 to 195 (fun c wx => c = .bool (!ok) ∧ Hid (Below wb.heap.size wb wx))
    case first =>
      rename_i J K' hJ hK'
      cases hmay : mayS Q with
      | false =>
        have hok : ok = false := by rw [HOK.out, hmay]; rfl
        subst hok
        have HMY : Hid (∀ W, Below wb.heap.size wb W → Calls Try.prog 16 #[.agg (RsC Q (.slice a5 Q.vars.length c5))] W (TellsB false W)) := by rw [← hmay]; exact HMM
        clear hmay
        refine wp_region_held (S := fun W => Hid (Below wb.heap.size wb W)) (by kernel_rfl) ?_
        change wpAnyH _ _ _ _ _ _ _ _ (World.drew _)
        have hS0 : Hid (Below wb.heap.size wb wb.drew) := Lib.hid (Below.refl _ _).drew
        refine wpAnyH_take (i := 0) (v := .agg (RsC Q (.slice a5 Q.vars.length c5))) rfl (by kernel_rfl) (by kernel_rfl) (by kernel_rfl) (fun _ _ _ h => h) (y_load (by kernel_rfl) 47 (.tmp 5) rfl (w2.heap.size) (by kernel_rfl) 47 (RsC Q (.slice a5 Q.vars.length c5)) _ (fun W hW => HST.out.at_ hW) Try.underlying47 rfl (infoS _ _)) hS0 ?_
        refine held_go (i := 1) (o := { dst := some 186, op := Op.call { callee := Callee.value (Operand.func 16), args := #[Operand.tmp 185], argTypes := #[47] }, type := 4, pos := "ref.go:214", after := #[{ on := 0, ground := Ground.data }], guard := none }) #[true, false, false, false, false, false, false, false, false, false, false] (by kernel_rfl) (by kernel_rfl) (by kernel_rfl) (by kernel_rfl) (by kernel_rfl) (X := fun v W => v = .bool false ∧ Below wb.drew.heap.size wb.drew W) ((HMY.out _ hS0.out).mono fun e w' ⟨e1, e2⟩ => ⟨_, e1, rfl, e2⟩) ?_
        rintro v w12 ⟨rfl, hx2⟩
        have hS1 : Hid (Below wb.heap.size wb w12) := Lib.hid (hS0.out.trans (hx2.mono hS0.out.size))
        clear hx2
        refine ⟨hS1, ?_⟩
        refine wpAnyH_take (i := 2) (v := .bool true) rfl (by kernel_rfl) (by kernel_rfl) (by kernel_rfl) (fun _ _ _ h => h) (y_on (by kernel_rfl) (fun W hW => by kernel_rfl)) hS1 ?_
        refine wpAnyH_take (i := 3) (v := .bool true) rfl (by kernel_rfl) (by kernel_rfl) (by kernel_rfl) (fun _ _ _ h => h) (y_on (by kernel_rfl) (fun W hW => by kernel_rfl)) hS1 ?_
        refine wpAnyH_take (i := 4) (v := undef) rfl (by kernel_rfl) (by kernel_rfl) (by kernel_rfl) (fun _ _ _ h => h) (Or.inr ⟨by kernel_rfl, rfl⟩) hS1 ?_
        refine wpAnyH_take (i := 5) (v := undef) rfl (by kernel_rfl) (by kernel_rfl) (by kernel_rfl) (fun _ _ _ h => h) (Or.inr ⟨by kernel_rfl, rfl⟩) hS1 ?_
        refine wpAnyH_take (i := 6) (v := undef) rfl (by kernel_rfl) (by kernel_rfl) (by kernel_rfl) (fun _ _ _ h => h) (Or.inr ⟨by kernel_rfl, rfl⟩) hS1 ?_
        refine wpAnyH_take (i := 7) (v := undef) rfl (by kernel_rfl) (by kernel_rfl) (by kernel_rfl) (fun _ _ _ h => h) (Or.inr ⟨by kernel_rfl, rfl⟩) hS1 ?_
        refine wpAnyH_take (i := 8) (v := undef) rfl (by kernel_rfl) (by kernel_rfl) (by kernel_rfl) (fun _ _ _ h => h) (Or.inr ⟨by kernel_rfl, rfl⟩) hS1 ?_
        refine wpAnyH_take (i := 9) (v := undef) rfl (by kernel_rfl) (by kernel_rfl) (by kernel_rfl) (fun _ _ _ h => h) (Or.inr ⟨by kernel_rfl, rfl⟩) hS1 ?_
        refine wpAnyH_take (i := 10) (v := .bool true) rfl (by kernel_rfl) (by kernel_rfl) (by kernel_rfl) (fun _ _ _ h => h) (y_on (by kernel_rfl) (fun W hW => by kernel_rfl)) hS1 ?_
        refine wpAnyH_done (by kernel_rfl) ?_ _
        exact hK' _ _ (Met.intro (hJ _ _ ⟨.agg (RsC Q (.slice a5 Q.vars.length c5)), .bool false, .bool true, .bool true, undef, undef, undef, undef, undef, undef, .bool true, ⟨rfl, hS1⟩, by kernel_rfl⟩))
      | true =>
        have HMY : Hid (∀ W, Below wb.heap.size wb W → Calls Try.prog 16 #[.agg (RsC Q (.slice a5 Q.vars.length c5))] W (TellsB true W)) := by rw [← hmay]; exact HMM
        have hok : ok = decide (bytesS' Q = x :: l) := by rw [HOK.out, hmay, Bool.true_and]
        clear hmay
        obtain ⟨b, hbQ⟩ : ∃ b, b = bytesS' Q := ⟨_, rfl⟩
        rw [← hbQ] at HEN hb10 hok
        clear hbQ
        obtain ⟨t1, ht1⟩ : ∃ t, t = strB b := ⟨_, rfl⟩
        obtain ⟨t2, ht2⟩ : ∃ t, t = strB (x :: l) := ⟨_, rfl⟩
        have HT1 := Lib.hid ht1
        have hcv : ∀ W, Hid (Below wb.heap.size wb W) → (convert 24 9 (.slice (some ⟨B, off, none⟩) (m + 1) (d + 1))).run Try.prog W = .ok (.string t2) W := fun W hW => by rw [ht2]; exact (HH.out.2.2.2.below (HN.out.1.trans (hW.out.mono HN.out.1.size))).str _
        have HCV := Lib.hid hcv
        have hcmp : (t1.toList == t2.toList) = ok := by rw [ht1, ht2, strB_beq, hok]
        clear ht1 ht2 hcv hok
        refine wp_region_held (S := fun W => Hid (Below wb.heap.size wb W)) (by kernel_rfl) ?_
        change wpAnyH _ _ _ _ _ _ _ _ (World.drew _)
        have hS0 : Hid (Below wb.heap.size wb wb.drew) := Lib.hid (Below.refl _ _).drew
        refine wpAnyH_take (i := 0) (v := .agg (RsC Q (.slice a5 Q.vars.length c5))) rfl (by kernel_rfl) (by kernel_rfl) (by kernel_rfl) (fun _ _ _ h => h) (y_load (by kernel_rfl) 47 (.tmp 5) rfl (w2.heap.size) (by kernel_rfl) 47 (RsC Q (.slice a5 Q.vars.length c5)) _ (fun W hW => HST.out.at_ hW) Try.underlying47 rfl (infoS _ _)) hS0 ?_
        refine held_go (i := 1) (o := { dst := some 186, op := Op.call { callee := Callee.value (Operand.func 16), args := #[Operand.tmp 185], argTypes := #[47] }, type := 4, pos := "ref.go:214", after := #[{ on := 0, ground := Ground.data }], guard := none }) #[true, false, false, false, false, false, false, false, false, false, false] (by kernel_rfl) (by kernel_rfl) (by kernel_rfl) (by kernel_rfl) (by kernel_rfl) (X := fun v W => v = .bool true ∧ Below wb.drew.heap.size wb.drew W) ((HMY.out _ hS0.out).mono fun e w' ⟨e1, e2⟩ => ⟨_, e1, rfl, e2⟩) ?_
        rintro v w12 ⟨rfl, hx2⟩
        have hS1 : Hid (Below wb.heap.size wb w12) := Lib.hid (hS0.out.trans (hx2.mono hS0.out.size))
        clear hx2
        refine ⟨hS1, ?_⟩
        refine wpAnyH_take (i := 2) (v := .bool false) rfl (by kernel_rfl) (by kernel_rfl) (by kernel_rfl) (fun _ _ _ h => h) (y_on (by kernel_rfl) (fun W hW => by kernel_rfl)) hS1 ?_
        refine wpAnyH_take (i := 3) (v := .bool false) rfl (by kernel_rfl) (by kernel_rfl) (by kernel_rfl) (fun _ _ _ h => h) (y_on (by kernel_rfl) (fun W hW => by kernel_rfl)) hS1 ?_
        refine wpAnyH_take (i := 4) (v := .agg (RsC Q (.slice a5 Q.vars.length c5))) rfl (by kernel_rfl) (by kernel_rfl) (by kernel_rfl) (fun _ _ _ h => h) (y_load (by kernel_rfl) 47 (.tmp 5) rfl (w2.heap.size) (by kernel_rfl) 47 (RsC Q (.slice a5 Q.vars.length c5)) _ (fun W hW => HST.out.at_ hW) Try.underlying47 rfl (infoS _ _)) hS1 ?_
        refine wpAnyH_take (i := 7) (v := .slice (some ⟨B, off, none⟩) (m + 1) (d + 1)) rfl (by kernel_rfl) (by kernel_rfl) (by kernel_rfl) (fun _ _ _ h => h) (y_on (by kernel_rfl) (fun W hW => by kernel_rfl)) hS1 ?_
        refine wpAnyH_take (i := 8) (v := .string t2) rfl (by kernel_rfl) (by kernel_rfl) (by kernel_rfl) (fun _ _ _ h => h) (y_conv (by kernel_rfl) 24 9 (.tmp 192) rfl (by kernel_rfl) HCV.out) hS1 ?_
        refine held_go (i := 5) (o := { dst := some 190, op := Op.call { callee := Callee.value (Operand.func 20), args := #[Operand.tmp 189], argTypes := #[47] }, type := 24, pos := "ref.go:214", after := #[{ on := 4, ground := Ground.data }, { on := 3, ground := Ground.chain }, { on := 3, ground := Ground.guard }], guard := some (3, false) }) #[true, true, true, true, true, false, false, true, true, false, false] (by kernel_rfl) (by kernel_rfl) (by kernel_rfl) (by kernel_rfl) (by kernel_rfl) (X := fun v W => CB.Own 5 w12.heap.size W v b ∧ Below w12.heap.size w12 W) ((HEN.out _ hS1.out).mono fun e w' ⟨v, e1, e2, e3⟩ => ⟨v, e1, e2, e3⟩) ?_
        rintro v w13 hx
        obtain ⟨a6, c6, rfl, -, hat6, -⟩ := hx.1.at_ (by omega)
        have hS2 : Hid (Below wb.heap.size wb w13) := Lib.hid (hS1.out.trans (hx.2.mono hS1.out.size))
        have hc6 : (convert 24 9 (.slice a6 b.length c6)).run Try.prog w13 = .ok (.string t1) w13 := by rw [HT1.out]; exact hat6.str c6
        clear hx hat6
        refine ⟨hS2, ?_⟩
        refine held_val (i := 6) (o := { dst := some 191, op := Op.convert 24 9 (Operand.tmp 190), type := 9, pos := "ref.go:214", after := #[{ on := 5, ground := Ground.data }, { on := 3, ground := Ground.guard }], guard := some (3, false) }) (v := .string t1) #[true, true, true, true, true, true, false, true, true, false, false] (by kernel_rfl) (by kernel_rfl) (by kernel_rfl) (by kernel_rfl) (exec_conv 24 9 (.tmp 190) rfl (by kernel_rfl) hc6) hS2 ?_
        clear hc6
        refine wpAnyH_take (i := 9) (v := .bool (!ok)) rfl (by kernel_rfl) (by kernel_rfl) (by kernel_rfl) (fun _ _ _ h => h) (y_on (by kernel_rfl) (fun W hW => by go_simp)) hS2 ?_
        refine wpAnyH_take (i := 10) (v := .bool (!ok)) rfl (by kernel_rfl) (by kernel_rfl) (by kernel_rfl) (fun _ _ _ h => h) (y_on (by kernel_rfl) (fun W hW => by kernel_rfl)) hS2 ?_
        refine wpAnyH_done (by kernel_rfl) ?_ _
        exact hK' _ _ (Met.intro (hJ _ _ ⟨.agg (RsC Q (.slice a5 Q.vars.length c5)), .bool true, .bool false, .bool false, .agg (RsC Q (.slice a5 Q.vars.length c5)), .slice a6 b.length c6, .string t1, .slice (some ⟨B, off, none⟩) (m + 1) (d + 1), .string t2, .bool (!ok), .bool (!ok), ⟨rfl, hS2⟩, by kernel_rfl⟩))
    case rest =>
      obtain ⟨rfl, hS⟩ := hcut
      clear HMM HEN hb10
      replace HN : Hid (Below w.heap.size w wc ∧ wc.heap[w.heap.size]? = some (.cells (RsC (zeroS 0) (.slice none 0 0)) 47 (0, 0)) ∧ wc.heap[w1.heap.size]? = some (.cells (RsC (zeroS 0) (.slice none 0 0)) 47 (0, 0)) ∧ True) := Lib.hid ⟨HN.out.1.trans (hS.out.mono HN.out.1.size), (hS.out.block _ (Array.getElem?_eq_some_iff.1 HN.out.2.1).1).trans HN.out.2.1, (hS.out.block _ (Array.getElem?_eq_some_iff.1 HN.out.2.2.1).1).trans HN.out.2.2.1, True.intro⟩
      cases ok with
      | false =>
        have hR := HH.out.2.2.1
        rw [docS_no HZ.out (by rw [← HQ2.out]; exact fun e => by have := HOK.out; rw [e.1, decide_eq_true e.2] at this; cases this)] at hR
        subst hR
        go_wp2_with (first
          | (show wpList _ _ _ (Oper.mk _ (.load _ (.tmp 4)) _ _ _ _ :: _) _ _; refine wpList_load_row rfl 47 (.tmp 4) rfl w1.heap.size rfl 47 (RsC (zeroS 0) (.slice none 0 0)) (0, 0) _ HN.out.2.2.1 Try.underlying47 rfl (infoS _ _) ?_)
          | (show wpList _ _ _ (Oper.mk _ (.store _ (.tmp 2) (.tmp 196)) _ _ _ _ :: _) _ _; refine wpList_store_row rfl 47 (.tmp 2) (.tmp 196) rfl w.heap.size (RsC (zeroS 0) (.slice none 0 0)) rfl rfl 47 _ HN.out.2.1 (infoS _ _) rfl (RsC_one _ _ _ _) ?_)
          | fail)
        exact ⟨rfl, _, results_two rfl _ _ (w.heap.size) 47 (RsC (zeroS 0) (.slice none 0 0)) (0, 0) _ rfl (setRow_heap _ _ _ _ _ _ HN.out.2.1) Try.underlying47 rfl (infoS _ _), none, 0, rfl, Nat.le_refl _, CV_nil _ _, fun p e => (by cases e), ⟨by decide, by decide⟩, ⟨by decide, by decide⟩, below_setRow HN.out.1 (Nat.le_refl _) _⟩
      | true =>
        have hR := HH.out.2.2.1
        have hmb : mayS Q = true ∧ bytesS' Q = x :: l := by have := HOK.out; simp at this; exact this
        rw [docS_yes HZ.out (by rw [← HQ2.out]; exact hmb), ← HQ2.out] at hR
        subst hR
        clear hmb
        have HA2 := Lib.hid (HA.out.1.below hS.out)
        have HR5 := Lib.hid (HST.out.at_ hS)
        go_wp2_with (first
          | (show wpList _ _ _ (Oper.mk _ (.load _ (.tmp 5)) _ _ _ _ :: _) _ _; refine wpList_load_row rfl 47 (.tmp 5) rfl w2.heap.size rfl 47 (RsC Q (.slice a5 Q.vars.length c5)) (0, 0) _ HR5.out Try.underlying47 rfl (infoS _ _) ?_)
          | (show wpList _ _ _ (Oper.mk _ (.store _ (.tmp 2) (.tmp 197)) _ _ _ _ :: _) _ _; refine wpList_store_row rfl 47 (.tmp 2) (.tmp 197) rfl w.heap.size (RsC Q (.slice a5 Q.vars.length c5)) rfl rfl 47 _ HN.out.2.1 (infoS _ _) rfl (RsC_one _ _ _ _) ?_)
          | fail)
        have hbs := below_setRow (w := wc) HN.out.1 (Nat.le_refl _) (RsC Q (.slice a5 Q.vars.length c5))
        have hat9 : CV.At (wc.setRow w.heap.size (RsC Q (.slice a5 Q.vars.length c5))) a5 Q.vars.length Q.vars := scat_keep (N := w.heap.size + 1) HA2.out (fun p e _ => HA.out.2.2.1 p e) (Nat.lt_succ_self _) _
        exact ⟨rfl, _, results_two rfl _ _ (w.heap.size) 47 (RsC Q (.slice a5 Q.vars.length c5)) (0, 0) _ rfl (setRow_heap _ _ _ _ _ _ HN.out.2.1) Try.underlying47 rfl (infoS _ _), a5, c5, rfl, HA.out.2.1, hat9, fun p e _ => Nat.le_of_lt (HA.out.2.2.1 p e), HA.out.2.2.2.1, HA.out.2.2.2.2, hbs⟩
end Go.Proofs.Ytnafeppljnjbeaa
