/-
  The document lets just those responses be that encode writes; no program.
-/
import Derived.Test.YtdpfmaikijilkaaENS
import Derived.Test.YtdpfmaikijilkaaMQ
import Derived.Test.YtdpfmaikijilkaaOP
namespace Go.Proofs.Ytdpfmaikijilkaa
open Go Go.RowKit

structure Gm where
  f : FldS
  ok : Rs → Bool
  out : Rs → List UInt8
  set : Rs → Rs → Rs
structure Gm.Good (x : Gm) : Prop where
  wr : ∀ q o, WfS q → x.f q (.wr o) = if x.ok q = true then some (q, .wr (o ++ x.out q)) else none
  rd : ∀ q z r, WfS q → x.ok q = true → z.vars = [] → x.f z (.rd (x.out q ++ r)) = some (x.set q z, .rd r)
def bytesV (l : List Int) : List UInt8 := l.flatMap (beR 8)
def nID : Gm := ⟨gID, fun _ => true, fun q => beR 4 q.id, fun q z => { z with id := q.id }⟩
def nNum : Gm := ⟨gNum, fun _ => true, fun q => beR 4 q.num, fun q z => { z with num := q.num }⟩
def nErr : Gm := ⟨gErr, fun q => decide (0 ≤ q.err ∧ q.err ≤ 16), fun q => [byteI q.err], fun q z => { z with err := q.err }⟩
def nFloor : Gm := ⟨gFloor, fun _ => true, fun q => beR 8 q.floor, fun q z => { z with floor := q.floor }⟩
def nVars : Gm := ⟨gVars, fun q => decide (q.vars.length ≤ 8), fun q => [byteI q.vars.length] ++ bytesV q.vars, fun q z => { z with vars := q.vars }⟩
def nRecord : Gm := ⟨gRecord, fun q => in8 q.ro && (in8 q.rp && in8 q.rn), fun q => beR 8 q.rt ++ [byteI q.ro] ++ beR 8 q.rs ++ [byteI q.rp] ++ [byteI q.rn] ++ beR 8 q.rv, fun q z => { z with rt := q.rt, ro := q.ro, rs := q.rs, rp := q.rp, rn := q.rn, rv := q.rv }⟩
def nEvent : Gm := ⟨gEvent, fun q => in8 q.org && (in8 q.pt && in8 q.ek), fun q => beR 8 q.time ++ [byteI q.org] ++ beR 8 q.seq ++ [byteI q.pt] ++ [byteI q.ek] ++ beR 8 q.dat, fun q z => { z with time := q.time, org := q.org, seq := q.seq, pt := q.pt, ek := q.ek, dat := q.dat }⟩
theorem gnID : nID.Good := ⟨fun q o h => by simp [nID, gID, wordW_wr], fun q z r h _ _ => by simp only [nID, gID, rd_word h.id, Option.map_some]⟩
theorem gnNum : nNum.Good := ⟨fun q o h => by simp [nNum, gNum, wordW_wr], fun q z r h _ _ => by simp only [nNum, gNum, rd_word h.num, Option.map_some]⟩
theorem gnFloor : nFloor.Good := ⟨fun q o h => by simp [nFloor, gFloor, wholeW_wr _ _ h.floor], fun q z r h _ _ => by simp only [nFloor, gFloor, rd_whole h.floor, Option.map_some]⟩
theorem gnErr : nErr.Good := ⟨fun q o h => by
    simp only [nErr, gErr, octW_wr _ _ _ h.err, decide_eq_true_eq]
    by_cases e : 0 ≤ q.err ∧ q.err ≤ 16
    · rw [if_pos e, if_pos e, Option.map_some]
    · rw [if_neg e, if_neg e, Option.map_none],
  fun q z r h ho _ => by
    have e : 0 ≤ q.err ∧ q.err ≤ 16 := of_decide_eq_true ho
    have e2 := rd_oct e.1 e.2 (by decide) z.err r
    show (octW (.rd ([byteI q.err] ++ r)) z.err 16).map _ = _
    rw [e2, Option.map_some]
    rfl⟩
theorem wholes_wr : ∀ (l : List Int) (o : List UInt8), (∀ x ∈ l, I64 x) → wholes l (.wr o) = some (l, .wr (o ++ bytesV l))
  | [], o, _ => by simp [wholes, bytesV]
  | x :: t, o, h => by
    simp only [wholes, wholeW_wr _ _ (h x (List.mem_cons_self ..)), Option.bind_some]
    rw [wholes_wr t _ fun y hy => h y (List.mem_cons_of_mem _ hy), Option.map_some]
    simp [bytesV, List.append_assoc]
theorem wholes_rd2 : ∀ (l m : List Int) (r : List UInt8), (∀ x ∈ l, I64 x) → m.length = l.length → wholes m (.rd (bytesV l ++ r)) = some (l, .rd r)
  | [], m, r, _, hm => by
    obtain rfl := List.length_eq_zero_iff.1 hm
    rfl
  | x :: t, [], r, _, hm => by cases hm
  | x :: t, y :: u, r, h, hm => by
    have e : bytesV (x :: t) ++ r = beR 8 x ++ (bytesV t ++ r) := by simp [bytesV, List.append_assoc]
    rw [e]
    simp only [wholes, rd_whole (h x (List.mem_cons_self ..)), Option.bind_some]
    rw [wholes_rd2 t u r (fun y hy => h y (List.mem_cons_of_mem _ hy)) (by simpa using hm), Option.map_some]
theorem gnVars : nVars.Good := ⟨fun q o h => by
    have hI : I64 (q.vars.length : Int) := by have := h.len; unfold I64; omega
    simp only [nVars, gVars, decide_eq_true_eq]
    rw [octW_wr _ _ _ hI]
    by_cases e : q.vars.length ≤ 8
    · rw [if_pos ⟨by omega, by omega⟩, if_pos e, Option.bind_some]
      dsimp only
      rw [Int.toNat_natCast, padV_self, wholes_wr _ _ h.vars, Option.map_some, List.append_assoc]
    · rw [if_neg (by omega), if_neg e, Option.bind_none],
  fun q z r h ho hz => by
    have e : q.vars.length ≤ 8 := of_decide_eq_true ho
    simp only [nVars, List.append_assoc]
    unfold gVars
    rw [rd_oct (by omega) (by omega) (by decide), Option.bind_some]
    dsimp only
    rw [Int.toNat_natCast, hz, padV_nil, wholes_rd2 _ _ _ h.vars (by simp), Option.map_some]⟩
theorem key_wr (o : List UInt8) (a b c : Int) (ha : I64 a) (hb : I64 b) (hc : I64 c) : keyV (.wr o) a b c = if in8 b = true then some ((a, b, c), .wr (o ++ beR 8 a ++ [byteI b] ++ beR 8 c)) else none := by
  unfold keyV
  rw [wholeW_wr _ _ ha, Option.bind_some]
  dsimp only
  rw [octW_wr _ _ _ hb]
  simp only [in8_iff]
  by_cases e : 0 ≤ b ∧ b ≤ 255
  · rw [if_pos e, if_pos e, Option.bind_some]
    dsimp only
    rw [wholeW_wr _ _ hc, Option.map_some]
  · rw [if_neg e, if_neg e, Option.bind_none]
theorem key_rd (r : List UInt8) (a b c x y z : Int) (ha : I64 a) (hb : in8 b = true) (hc : I64 c) : keyV (.rd (beR 8 a ++ ([byteI b] ++ (beR 8 c ++ r)))) x y z = some ((a, b, c), .rd r) := by
  have eb := (in8_iff _).1 hb
  unfold keyV
  rw [rd_whole ha, Option.bind_some]
  dsimp only
  rw [rd_oct eb.1 eb.2 (by decide), Option.bind_some]
  dsimp only
  rw [rd_whole hc, Option.map_some]
theorem gnEvent : nEvent.Good := ⟨fun q o h => by
    simp only [nEvent, gEvent, Bool.and_eq_true]
    rw [key_wr _ _ _ _ h.time h.org h.seq]
    by_cases e : in8 q.org = true
    · rw [if_pos e, Option.bind_some]
      dsimp only
      rw [content_wr _ _ _ _ h.pt h.ek h.dat]
      by_cases e2 : in8 q.pt = true ∧ in8 q.ek = true
      · rw [if_pos e2, if_pos ⟨e, e2⟩, Option.map_some]
        simp only [List.append_assoc]
      · rw [if_neg e2, if_neg (fun x => e2 x.2), Option.map_none]
    · rw [if_neg e, if_neg (fun x => e x.1), Option.bind_none],
  fun q z r h ho _ => by
    have e : in8 q.org = true ∧ in8 q.pt = true ∧ in8 q.ek = true := by
      rw [show nEvent.ok q = (in8 q.org && (in8 q.pt && in8 q.ek)) from rfl, Bool.and_eq_true, Bool.and_eq_true] at ho
      exact ho
    simp only [nEvent, List.append_assoc]
    unfold gEvent
    rw [key_rd _ _ _ _ _ _ _ h.time e.1 h.seq, Option.bind_some]
    dsimp only
    rw [content_rd _ _ _ _ _ _ _ e.2.1 e.2.2 h.dat, Option.map_some]⟩
theorem gnRecord : nRecord.Good := ⟨fun q o h => by
    simp only [nRecord, gRecord, Bool.and_eq_true]
    rw [key_wr _ _ _ _ h.rt h.ro h.rs]
    by_cases e : in8 q.ro = true
    · rw [if_pos e, Option.bind_some]
      dsimp only
      rw [octW_wr _ _ _ h.rp]
      by_cases e2 : 0 ≤ q.rp ∧ q.rp ≤ 255
      · rw [if_pos e2, Option.bind_some]
        dsimp only
        rw [octW_wr _ _ _ h.rn]
        by_cases e3 : 0 ≤ q.rn ∧ q.rn ≤ 255
        · rw [if_pos e3, Option.bind_some, if_pos ⟨e, (in8_iff _).2 e2, (in8_iff _).2 e3⟩]
          dsimp only
          rw [wholeW_wr _ _ h.rv, Option.map_some]
          simp only [List.append_assoc]
        · rw [if_neg e3, if_neg (fun x => e3 ((in8_iff _).1 x.2.2)), Option.bind_none]
      · rw [if_neg e2, if_neg (fun x => e2 ((in8_iff _).1 x.2.1)), Option.bind_none]
    · rw [if_neg e, if_neg (fun x => e x.1), Option.bind_none],
  fun q z r h ho _ => by
    have e : in8 q.ro = true ∧ in8 q.rp = true ∧ in8 q.rn = true := by
      rw [show nRecord.ok q = (in8 q.ro && (in8 q.rp && in8 q.rn)) from rfl, Bool.and_eq_true, Bool.and_eq_true] at ho
      exact ho
    have e2 := (in8_iff _).1 e.2.1
    have e3 := (in8_iff _).1 e.2.2
    simp only [nRecord, List.append_assoc]
    unfold gRecord
    rw [key_rd _ _ _ _ _ _ _ h.rt e.1 h.rs, Option.bind_some]
    dsimp only
    rw [rd_oct e2.1 e2.2 (by decide), Option.bind_some]
    dsimp only
    rw [rd_oct e3.1 e3.2 (by decide), Option.bind_some]
    dsimp only
    rw [rd_whole h.rv, Option.map_some]⟩
end Go.Proofs.Ytdpfmaikijilkaa
namespace Go.Proofs.Ytdpfmaikijilkaa
open Go Go.RowKit

def outsS (l : List Gm) (q : Rs) : List UInt8 := l.flatMap fun x => x.out q
def oksS (l : List Gm) (q : Rs) : Bool := l.all fun x => x.ok q
def setsS (l : List Gm) (q z : Rs) : Rs := l.foldl (fun z x => x.set q z) z
/-- good ones; variables at the end alone -/
def ChainS : List Gm → Prop
  | [] => True
  | x :: t => x.Good ∧ (t ≠ [] → ∀ q z : Rs, z.vars = [] → (x.set q z).vars = []) ∧ ChainS t
theorem passS_wr (q : Rs) (h : WfS q) : ∀ (l : List Gm) (o : List UInt8), ChainS l → passS (l.map (·.f)) q (.wr o) = if oksS l q = true then some (q, .wr (o ++ outsS l q)) else none
  | [], o, _ => by simp [passS, oksS, outsS]
  | x :: t, o, hl => by
    have hx := hl.1.wr q o h
    simp only [List.map_cons, passS, hx]
    by_cases e : x.ok q = true
    · rw [if_pos e, Option.bind_some]
      rw [passS_wr q h t _ hl.2.2]
      simp [oksS, outsS, e, List.append_assoc]
    · rw [if_neg e, Option.bind_none]
      simp [oksS, e]
theorem passS_rd2 (q : Rs) (h : WfS q) : ∀ (l : List Gm) (z : Rs), ChainS l → oksS l q = true → z.vars = [] → passS (l.map (·.f)) z (.rd (outsS l q)) = some (setsS l q z, .rd [])
  | [], z, _, _, _ => rfl
  | x :: t, z, hl, ho, hz => by
    have ho' : x.ok q = true ∧ oksS t q = true := by simpa [oksS] using ho
    have hx := hl.1.rd q z (outsS t q) h ho'.1 hz
    simp only [List.map_cons, passS]
    rw [show outsS (x :: t) q = x.out q ++ outsS t q from rfl, hx, Option.bind_some]
    cases t with
    | nil => rfl
    | cons y u => exact passS_rd2 q h _ _ hl.2.2 ho'.2 (hl.2.1 (by simp) q z hz)
/-- the fields that a kind names -/
def tabG (k : Int) : List Gm :=
  if k = 1 then [nID, nErr, nFloor] else if k = 2 then [nID, nFloor, nVars] else if k = 3 then [nRecord] else if k = 4 then [nNum, nEvent] else [nErr]
def askS (q : Rs) : List UInt8 := outsS (tabG q.kind) q
theorem chain_tabG (k : Int) : ChainS (tabG k) := by
  unfold tabG
  repeat' split
  · exact ⟨gnID, fun _ _ _ h => h, gnErr, fun _ _ _ h => h, gnFloor, fun _ _ _ h => h, trivial⟩
  · exact ⟨gnID, fun _ _ _ h => h, gnFloor, fun _ _ _ h => h, gnVars, fun e => absurd rfl e, trivial⟩
  · exact ⟨gnRecord, fun _ _ _ h => h, trivial⟩
  · exact ⟨gnNum, fun _ _ _ h => h, gnEvent, fun _ _ _ h => h, trivial⟩
  · exact ⟨gnErr, fun _ _ _ h => h, trivial⟩
theorem tabS_tabG (k : Int) : (tabS k).map (·.map (·.2)) = if 1 ≤ k ∧ k ≤ 5 then some ((tabG k).map (·.f)) else none := by
  by_cases h : 1 ≤ k ∧ k ≤ 5
  · rw [if_pos h]
    obtain ⟨n, rfl⟩ : ∃ n : Nat, k = n := ⟨k.toNat, by omega⟩
    have hn : ∀ m : Nat, m < 6 → 1 ≤ m → (tabS (m : Int)).map (·.map (·.2)) = some ((tabG (m : Int)).map (·.f)) := fun m h1 h2 => by
      rcases m with _ | _ | _ | _ | _ | _ | m
      · omega
      all_goals first | rfl | omega
    exact hn n (by omega) (by omega)
  · rw [if_neg h]
    unfold tabS
    rw [if_neg (by omega), if_neg (by omega), if_neg (by omega), if_neg (by omega), if_neg (by omega)]
    rfl
def backS (q : Rs) : Rs := setsS (tabG q.kind) q (zeroS q.kind)
/-- may it be? -/
def mayS (q : Rs) : Bool := decide (1 ≤ q.kind ∧ q.kind ≤ 5) && oksS (tabG q.kind) q && sameS (backS q) q
theorem decS_bytes (q : Rs) (h : WfS q) (hk : 1 ≤ q.kind ∧ q.kind ≤ 5) (ho : oksS (tabG q.kind) q = true) : decS (byteI q.kind :: askS q) = (backS q, 0) := by
  have hkb : ((byteI q.kind).toNat : Int) = q.kind := byteI_small (by omega) (by omega)
  have ht := tabS_tabG q.kind
  rw [if_pos hk] at ht
  obtain ⟨fs, hfs, hmap⟩ : ∃ fs, tabS q.kind = some fs ∧ fs.map (·.2) = (tabG q.kind).map (·.f) := by
    cases e : tabS q.kind with
    | none => rw [e] at ht; cases ht
    | some fs => rw [e] at ht; exact ⟨fs, rfl, Option.some.inj ht⟩
  have hp := passS_rd2 q h (tabG q.kind) (zeroS q.kind) (chain_tabG _) ho rfl
  simp only [decS, hkb, hfs, hmap]
  rw [show askS q = outsS (tabG q.kind) q from rfl, hp]
  rfl
theorem encS_eq (q : Rs) (h : WfS q) : encS q = if mayS q = true then some (byteI q.kind :: askS q) else none := by
  unfold encS
  by_cases hk : 1 ≤ q.kind ∧ q.kind ≤ 5
  · have ht := tabS_tabG q.kind
    rw [if_pos hk] at ht
    obtain ⟨fs, hfs, hmap⟩ : ∃ fs, tabS q.kind = some fs ∧ fs.map (·.2) = (tabG q.kind).map (·.f) := by
      cases e : tabS q.kind with
      | none => rw [e] at ht; cases ht
      | some fs => rw [e] at ht; exact ⟨fs, rfl, Option.some.inj ht⟩
    rw [hfs]
    dsimp only
    rw [hmap, passS_wr q h _ _ (chain_tabG _)]
    by_cases ho : oksS (tabG q.kind) q = true
    · rw [if_pos ho]
      dsimp only
      have hb : [byteI q.kind] ++ outsS (tabG q.kind) q = byteI q.kind :: askS q := rfl
      rw [hb, decS_bytes q h hk ho]
      dsimp only
      by_cases hs : sameS (backS q) q = true
      · rw [if_pos ⟨rfl, hs⟩, if_pos (by unfold mayS; rw [decide_eq_true hk, ho, hs]; rfl)]
      · rw [if_neg (fun e => hs e.2), if_neg (fun e => hs (by unfold mayS at e; simp at e; exact e.2))]
    · rw [if_neg ho, if_neg (fun e => ho (by unfold mayS at e; simp at e; exact e.1.2))]
  · have ht := tabS_tabG q.kind
    rw [if_neg hk] at ht
    have hn : tabS q.kind = none := by
      cases e : tabS q.kind with
      | none => rfl
      | some fs => rw [e] at ht; cases ht
    rw [hn, if_neg (fun e => hk (by unfold mayS at e; simp at e; exact e.1.1))]
theorem mayS_back {q : Rs} (h : mayS q = true) : backS q = q := (sameS_iff _ _).1 (by unfold mayS at h; simp at h; exact h.2)
theorem mayS_dec {q : Rs} (hw : WfS q) (h : mayS q = true) : decS (byteI q.kind :: askS q) = (q, 0) := by
  have h2 := h
  unfold mayS at h2
  simp at h2
  rw [decS_bytes q hw h2.1.1 h2.1.2, mayS_back h]
end Go.Proofs.Ytdpfmaikijilkaa
namespace Go.Proofs.Ytdpfmaikijilkaa
open Go Go.RowKit

/-- the response that the document lays beside -/
def onlyS (q : Rs) : Rs :=
  if q.kind = 1 then ⟨q.kind, q.id, q.err, q.floor, [], 0, 0, 0, 0, 0, 0, 0, 0, 0, 0, 0, 0, 0⟩ else
  if q.kind = 2 then ⟨q.kind, q.id, 0, q.floor, q.vars, 0, 0, 0, 0, 0, 0, 0, 0, 0, 0, 0, 0, 0⟩ else
  if q.kind = 3 then ⟨q.kind, 0, 0, 0, [], q.rt, q.ro, q.rs, q.rp, q.rn, q.rv, 0, 0, 0, 0, 0, 0, 0⟩ else
  if q.kind = 4 then ⟨q.kind, 0, 0, 0, [], 0, 0, 0, 0, 0, 0, q.num, q.time, q.org, q.seq, q.pt, q.ek, q.dat⟩ else ⟨q.kind, 0, q.err, 0, [], 0, 0, 0, 0, 0, 0, 0, 0, 0, 0, 0, 0, 0⟩
structure LimS (q : Rs) : Prop where
  k0 : 1 ≤ q.kind
  k1 : q.kind ≤ 5
  e0 : 0 ≤ q.err
  e1 : q.err ≤ 16
  vs : q.vars.length ≤ 8
  ro : in8 q.ro = true
  rp : in8 q.rp = true
  rn : in8 q.rn = true
  org : in8 q.org = true
  pt : in8 q.pt = true
  ek : in8 q.ek = true
theorem LimS.iff (q : Rs) : LimS q ↔ (1 ≤ q.kind ∧ q.kind ≤ 5 ∧ 0 ≤ q.err ∧ q.err ≤ 16 ∧ q.vars.length ≤ 8 ∧ in8 q.ro = true ∧ in8 q.rp = true ∧ in8 q.rn = true ∧ in8 q.org = true ∧ in8 q.pt = true ∧ in8 q.ek = true) :=
  ⟨fun h => ⟨h.k0, h.k1, h.e0, h.e1, h.vs, h.ro, h.rp, h.rn, h.org, h.pt, h.ek⟩, fun ⟨a, b, c, d, e, f, g, h, i, j, k⟩ => ⟨a, b, c, d, e, f, g, h, i, j, k⟩⟩
theorem mayS_iff_1 (q : Rs) (hk : q.kind = 1) : mayS q = true ↔ LimS q ∧ onlyS q = q := by
  rw [LimS.iff]
  unfold mayS
  rw [Bool.and_eq_true, Bool.and_eq_true, decide_eq_true_eq, sameS_iff]
  unfold backS onlyS
  obtain ⟨k, i, er, fl, vs, rt, ro, rs, rp, rn, rv, nu, ti, og, sq, pt, ek, da⟩ := q
  dsimp only at hk ⊢
  subst hk
  simp [tabG, oksS, setsS, nID, nErr, nFloor, zeroS, in8_iff]
  intros
  subst_vars
  first | omega | (simp; done) | (simp; omega)
theorem mayS_iff_2 (q : Rs) (hk : q.kind = 2) : mayS q = true ↔ LimS q ∧ onlyS q = q := by
  rw [LimS.iff]
  unfold mayS
  rw [Bool.and_eq_true, Bool.and_eq_true, decide_eq_true_eq, sameS_iff]
  unfold backS onlyS
  obtain ⟨k, i, er, fl, vs, rt, ro, rs, rp, rn, rv, nu, ti, og, sq, pt, ek, da⟩ := q
  dsimp only at hk ⊢
  subst hk
  simp [tabG, oksS, setsS, nID, nFloor, nVars, zeroS, in8_iff]
  intros
  subst_vars
  first | omega | (simp; done) | (simp; omega)
theorem mayS_iff_3 (q : Rs) (hk : q.kind = 3) : mayS q = true ↔ LimS q ∧ onlyS q = q := by
  rw [LimS.iff]
  unfold mayS
  rw [Bool.and_eq_true, Bool.and_eq_true, decide_eq_true_eq, sameS_iff]
  unfold backS onlyS
  obtain ⟨k, i, er, fl, vs, rt, ro, rs, rp, rn, rv, nu, ti, og, sq, pt, ek, da⟩ := q
  dsimp only at hk ⊢
  subst hk
  simp [tabG, oksS, setsS, nRecord, zeroS, in8_iff]
  intros
  subst_vars
  first | omega | (simp; done) | (simp; omega)
theorem mayS_iff_4 (q : Rs) (hk : q.kind = 4) : mayS q = true ↔ LimS q ∧ onlyS q = q := by
  rw [LimS.iff]
  unfold mayS
  rw [Bool.and_eq_true, Bool.and_eq_true, decide_eq_true_eq, sameS_iff]
  unfold backS onlyS
  obtain ⟨k, i, er, fl, vs, rt, ro, rs, rp, rn, rv, nu, ti, og, sq, pt, ek, da⟩ := q
  dsimp only at hk ⊢
  subst hk
  simp [tabG, oksS, setsS, nNum, nEvent, zeroS, in8_iff]
  intros
  subst_vars
  first | omega | (simp; done) | (simp; omega)
theorem mayS_iff_5 (q : Rs) (hk : q.kind = 5) : mayS q = true ↔ LimS q ∧ onlyS q = q := by
  rw [LimS.iff]
  unfold mayS
  rw [Bool.and_eq_true, Bool.and_eq_true, decide_eq_true_eq, sameS_iff]
  unfold backS onlyS
  obtain ⟨k, i, er, fl, vs, rt, ro, rs, rp, rn, rv, nu, ti, og, sq, pt, ek, da⟩ := q
  dsimp only at hk ⊢
  subst hk
  simp [tabG, oksS, setsS, nErr, zeroS, in8_iff]
  intros
  subst_vars
  first | omega | (simp; done) | (simp; omega)
theorem mayS_iff (q : Rs) : mayS q = true ↔ LimS q ∧ onlyS q = q := by
  by_cases k1 : q.kind = 1
  · exact mayS_iff_1 q k1
  by_cases k2 : q.kind = 2
  · exact mayS_iff_2 q k2
  by_cases k3 : q.kind = 3
  · exact mayS_iff_3 q k3
  by_cases k4 : q.kind = 4
  · exact mayS_iff_4 q k4
  by_cases k5 : q.kind = 5
  · exact mayS_iff_5 q k5
  constructor
  · intro h
    unfold mayS at h
    simp at h
    omega
  · intro h
    have h0 := h.1.k0
    have h1 := h.1.k1
    omega
theorem mayS_no {q : Rs} (h : ¬ LimS q) : mayS q = false := by
  cases e : mayS q with
  | false => rfl
  | true => exact absurd ((mayS_iff q).1 e).1 h
theorem mayS_same {q : Rs} (L : LimS q) : sameS (onlyS q) q = mayS q := by
  cases e : mayS q with
  | true => exact (sameS_iff _ _).2 ((mayS_iff q).1 e).2
  | false =>
    cases e2 : sameS (onlyS q) q with
    | false => rfl
    | true => rw [(mayS_iff q).2 ⟨L, (sameS_iff _ _).1 e2⟩] at e; cases e
theorem bytesV_len (l : List Int) : (bytesV l).length = 8 * l.length := by
  unfold bytesV
  induction l with
  | nil => rfl
  | cons x t ih => rw [List.flatMap_cons, List.length_append, beR_len, ih, List.length_cons]; omega
theorem askS_len (q : Rs) (hv : q.vars.length ≤ 100) : (byteI q.kind :: askS q).length ≤ 1000 := by
  unfold askS tabG
  repeat' split
  all_goals simp [outsS, nID, nErr, nFloor, nVars, nRecord, nNum, nEvent, beR_len, bytesV_len]
  omega
theorem mayS_len {q : Rs} (h : mayS q = true) : (byteI q.kind :: askS q).length ≤ 4096 :=
  Nat.le_trans (askS_len q (Nat.le_trans ((mayS_iff q).1 h).1.vs (by decide))) (by decide)
end Go.Proofs.Ytdpfmaikijilkaa
