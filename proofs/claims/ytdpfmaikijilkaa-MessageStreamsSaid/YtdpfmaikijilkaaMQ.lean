/-
  What encode of a request comes to: which may be, their bytes; no program.
-/
import Derived.Test.YtdpfmaikijilkaaEN
namespace Go.Proofs.Ytdpfmaikijilkaa
open Go Go.RowKit

/-- a request's numbers are of their kinds -/
structure Wf (q : Rq) : Prop where
  kind : I64 q.kind
  id : U32 q.id
  ver : I64 q.ver
  time : I64 q.time
  org : I64 q.org
  seq : I64 q.seq
  pt : I64 q.pt
  ek : I64 q.ek
  dat : I64 q.dat
  num : U32 q.num
  bp : I64 q.bp
  bk : I64 q.bk
  bt : I64 q.bt
  pr : I64 q.pr
  nm : I64 q.nm
  dn : I64 q.dn
theorem rd_word {v : Int} (h : U32 v) (u : Int) (r : List UInt8) : wordW (.rd (beR 4 v ++ r)) u = some (v, .rd r) := by
  have hl := beR_len 4 v
  have ht : (beR 4 v ++ r).take 4 = beR 4 v := List.take_left' hl
  have hd : (beR 4 v ++ r).drop 4 = r := List.drop_left' hl
  rw [wordW_rd, if_pos (by simp [hl]), ht, hd, num_be, Int.emod_eq_of_lt h.1 (by have := h.2; have e : (256 : Int) ^ 4 = 4294967296 := by decide
                                                                                 omega)]
theorem rd_whole {v : Int} (h : I64 v) (u : Int) (r : List UInt8) : wholeW (.rd (beR 8 v ++ r)) u = some (v, .rd r) := by
  have hl := beR_len 8 v
  have ht : (beR 8 v ++ r).take 8 = beR 8 v := List.take_left' hl
  have hd : (beR 8 v ++ r).drop 8 = r := List.drop_left' hl
  rw [wholeW_rd, if_pos (by simp [hl]), ht, hd, num_be]
  have e : (256 : Int) ^ 8 = 18446744073709551616 := by decide
  rw [e, wrap64_mod h]
theorem byteI_small {v : Int} (h0 : 0 ≤ v) (h1 : v ≤ 255) : ((byteI v).toNat : Int) = v := by rw [byteI_val]; omega
theorem rd_oct {v m : Int} (h0 : 0 ≤ v) (h1 : v ≤ m) (hm : m ≤ 255) (u : Int) (r : List UInt8) : octW (.rd ([byteI v] ++ r)) u m = some (v, .rd r) := by
  rw [octW_rd]
  show (if ((byteI v).toNat : Int) ≤ m then some (((byteI v).toNat : Int), Wi.rd r) else none) = _
  rw [byteI_small h0 (by omega), if_pos h1]
theorem rd_any {v : Int} (h0 : -1 ≤ v) (h1 : v ≤ 254) (r : List UInt8) : anyW (.rd ([byteI v] ++ r)) 0 = some (v, .rd r) := by
  rw [anyW_rd]
  show some ((if byteI v = 255 then -1 else ((byteI v).toNat : Int)), Wi.rd r) = _
  by_cases h : v = -1
  · subst h; rfl
  · rw [if_neg (fun e => by
      have := byteI_small (v := v) (by omega) (by omega)
      rw [e] at this
      have h255 : ((255 : UInt8).toNat : Int) = 255 := rfl
      omega), byteI_small (by omega) (by omega)]

/-- a field: when it may be, its bytes, what reading it lays; is it all that is left? -/
structure Fm where
  f : FldQ
  ok : Rq → Bool
  out : Rq → List UInt8
  set : Rq → Rq → Rq
  whole : Bool
structure Fm.Good (x : Fm) : Prop where
  wr : ∀ q o, Wf q → x.f q (.wr o) = if x.ok q = true then some (q, .wr (o ++ x.out q)) else none
  rd : ∀ q z r, Wf q → x.ok q = true → z.bk = 0 → (x.whole = true → r = []) → x.f z (.rd (x.out q ++ r)) = some (x.set q z, .rd r)
def in8 (v : Int) : Bool := decide (0 ≤ v ∧ v ≤ 255)
theorem in8_iff (v : Int) : in8 v = true ↔ 0 ≤ v ∧ v ≤ 255 := by simp [in8]
def mID : Fm := ⟨fID, fun _ => true, fun q => beR 4 q.id, fun q z => { z with id := q.id }, false⟩
def mNum : Fm := ⟨fNum, fun _ => true, fun q => beR 4 q.num, fun q z => { z with num := q.num }, false⟩
def mVer : Fm := ⟨fVer, fun q => in8 q.ver, fun q => [byteI q.ver], fun q z => { z with ver := q.ver }, false⟩
def mProc : Fm := ⟨fProc, fun q => in8 q.pr, fun q => [byteI q.pr], fun q z => { z with pr := q.pr }, false⟩
def mModel : Fm := ⟨fModel, fun q => decide (1 ≤ q.model.length ∧ q.model.length ≤ 4091), fun q => q.model, fun q z => { z with model := q.model }, true⟩
def mEvent : Fm := ⟨fEvent, fun q => in8 q.pt && in8 q.ek, fun q => beR 8 q.time ++ [byteI q.pt] ++ [byteI q.ek] ++ beR 8 q.dat, fun q z => { z with time := q.time, pt := q.pt, ek := q.ek, dat := q.dat }, false⟩
def mBreak : Fm := ⟨fBreak, fun q => in8 q.bp && decide (-1 ≤ q.bk ∧ q.bk ≤ 254), fun q => [byteI q.bp] ++ [byteI q.bk] ++ beR 8 q.bt, fun q z => { z with bp := q.bp, bk := q.bk, bt := q.bt }, true⟩
def mRate : Fm := ⟨fRate, fun _ => true, fun q => beR 8 q.nm ++ beR 8 q.dn, fun q z => { z with nm := q.nm, dn := q.dn }, false⟩
theorem gmID : mID.Good := ⟨fun q o h => by simp [mID, fID, wordW_wr], fun q z r h _ _ _ => by simp only [mID, fID, rd_word h.id, Option.map_some]⟩
theorem gmNum : mNum.Good := ⟨fun q o h => by simp [mNum, fNum, wordW_wr], fun q z r h _ _ _ => by simp only [mNum, fNum, rd_word h.num, Option.map_some]⟩
theorem gmVer : mVer.Good := ⟨fun q o h => by
    simp only [mVer, fVer, octW_wr _ _ _ h.ver, in8_iff]
    by_cases e : 0 ≤ q.ver ∧ q.ver ≤ 255
    · rw [if_pos e, if_pos e, Option.map_some]
    · rw [if_neg e, if_neg e, Option.map_none],
  fun q z r h ho _ _ => by
    have e := (in8_iff _).1 ho
    have e2 := rd_oct e.1 e.2 (by decide) z.ver r
    show (octW (.rd ([byteI q.ver] ++ r)) z.ver 255).map _ = _
    rw [e2, Option.map_some]
    rfl⟩
theorem gmProc : mProc.Good := ⟨fun q o h => by
    simp only [mProc, fProc, octW_wr _ _ _ h.pr, in8_iff]
    by_cases e : 0 ≤ q.pr ∧ q.pr ≤ 255
    · rw [if_pos e, if_pos e, Option.map_some]
    · rw [if_neg e, if_neg e, Option.map_none],
  fun q z r h ho _ _ => by
    have e := (in8_iff _).1 ho
    have e2 := rd_oct e.1 e.2 (by decide) z.pr r
    show (octW (.rd ([byteI q.pr] ++ r)) z.pr 255).map _ = _
    rw [e2, Option.map_some]
    rfl⟩
theorem gmModel : mModel.Good := ⟨fun q o h => by
    show ((if 1 ≤ q.model.length ∧ q.model.length ≤ 4091 then some (q.model, Wi.wr (o ++ q.model)) else none).map fun p => ({ q with model := p.1 }, p.2)) = if decide (1 ≤ q.model.length ∧ q.model.length ≤ 4091) = true then some (q, Wi.wr (o ++ q.model)) else none
    simp only [decide_eq_true_eq]
    by_cases e : 1 ≤ q.model.length ∧ q.model.length ≤ 4091
    · rw [if_pos e, if_pos e, Option.map_some]
    · rw [if_neg e, if_neg e, Option.map_none],
  fun q z r h ho _ hr => by
    have e : 1 ≤ q.model.length ∧ q.model.length ≤ 4091 := of_decide_eq_true ho
    obtain rfl := hr rfl
    show ((if 1 ≤ (q.model ++ []).length ∧ (q.model ++ []).length ≤ 4091 then some (q.model ++ [], Wi.rd []) else none).map fun p => ({ z with model := p.1 }, p.2)) = _
    rw [List.append_nil, if_pos e, Option.map_some]
    rfl⟩
theorem content_wr (o : List UInt8) (a b c : Int) (ha : I64 a) (hb : I64 b) (hc : I64 c) : contentV (.wr o) a b c = if in8 a = true ∧ in8 b = true then some ((a, b, c), .wr (o ++ [byteI a] ++ [byteI b] ++ beR 8 c)) else none := by
  unfold contentV
  rw [octW_wr _ _ _ ha]
  simp only [in8_iff]
  by_cases e : 0 ≤ a ∧ a ≤ 255
  · rw [if_pos e, Option.bind_some, octW_wr _ _ _ hb]
    by_cases e2 : 0 ≤ b ∧ b ≤ 255
    · rw [if_pos e2, Option.bind_some, wholeW_wr _ _ hc, Option.map_some, if_pos ⟨e, e2⟩]
    · rw [if_neg e2, Option.bind_none, if_neg (fun x => e2 x.2)]
  · rw [if_neg e, Option.bind_none, if_neg (fun x => e x.1)]
theorem content_rd (r : List UInt8) (a b c x y z : Int) (ha : in8 a = true) (hb : in8 b = true) (hc : I64 c) : contentV (.rd ([byteI a] ++ ([byteI b] ++ (beR 8 c ++ r)))) x y z = some ((a, b, c), .rd r) := by
  have ea := (in8_iff _).1 ha
  have eb := (in8_iff _).1 hb
  unfold contentV
  rw [rd_oct ea.1 ea.2 (by decide), Option.bind_some, rd_oct eb.1 eb.2 (by decide), Option.bind_some, rd_whole hc, Option.map_some]
theorem gmEvent : mEvent.Good := ⟨fun q o h => by
    show ((wholeW (.wr o) q.time).bind fun p1 => (contentV p1.2 q.pt q.ek q.dat).map fun p2 => ({ q with time := p1.1, pt := p2.1.1, ek := p2.1.2.1, dat := p2.1.2.2 }, p2.2)) = if (in8 q.pt && in8 q.ek) = true then some (q, Wi.wr (o ++ (beR 8 q.time ++ [byteI q.pt] ++ [byteI q.ek] ++ beR 8 q.dat))) else none
    rw [wholeW_wr _ _ h.time, Option.bind_some, content_wr _ _ _ _ h.pt h.ek h.dat]
    simp only [Bool.and_eq_true]
    by_cases e : in8 q.pt = true ∧ in8 q.ek = true
    · rw [if_pos e, if_pos e, Option.map_some]
      simp only [List.append_assoc]
    · rw [if_neg e, if_neg e, Option.map_none],
  fun q z r h ho _ _ => by
    have e : in8 q.pt = true ∧ in8 q.ek = true := by
      rw [show mEvent.ok q = (in8 q.pt && in8 q.ek) from rfl, Bool.and_eq_true] at ho
      exact ho
    simp only [mEvent, List.append_assoc]
    unfold fEvent
    rw [rd_whole h.time, Option.bind_some]
    dsimp only
    rw [content_rd _ _ _ _ _ _ _ e.1 e.2 h.dat, Option.map_some]⟩
theorem gmBreak : mBreak.Good := ⟨fun q o h => by
    show ((octW (.wr o) q.bp 255).bind fun p1 => (anyW p1.2 q.bk).bind fun p2 => (wholeW p2.2 q.bt).map fun p3 => ({ q with bp := p1.1, bk := p2.1, bt := p3.1 }, p3.2)) = if (in8 q.bp && decide (-1 ≤ q.bk ∧ q.bk ≤ 254)) = true then some (q, Wi.wr (o ++ ([byteI q.bp] ++ [byteI q.bk] ++ beR 8 q.bt))) else none
    rw [octW_wr _ _ _ h.bp]
    simp only [Bool.and_eq_true, in8_iff, decide_eq_true_eq]
    by_cases e : 0 ≤ q.bp ∧ q.bp ≤ 255
    · rw [if_pos e, Option.bind_some]
      dsimp only
      rw [anyW_wr _ _ h.bk]
      by_cases e2 : -1 ≤ q.bk ∧ q.bk ≤ 254
      · rw [if_pos e2, if_pos ⟨e, e2⟩, Option.bind_some]
        dsimp only
        rw [wholeW_wr _ _ h.bt, Option.map_some]
        simp only [List.append_assoc]
      · rw [if_neg e2, if_neg (fun x => e2 x.2), Option.bind_none]
    · rw [if_neg e, if_neg (fun x => e x.1), Option.bind_none],
  fun q z r h ho hz _ => by
    have e : in8 q.bp = true ∧ (-1 ≤ q.bk ∧ q.bk ≤ 254) := by
      rw [show mBreak.ok q = (in8 q.bp && decide (-1 ≤ q.bk ∧ q.bk ≤ 254)) from rfl, Bool.and_eq_true, decide_eq_true_eq] at ho
      exact ho
    have e1 := (in8_iff _).1 e.1
    simp only [mBreak, List.append_assoc]
    unfold fBreak
    rw [hz, rd_oct e1.1 e1.2 (by decide), Option.bind_some]
    dsimp only
    rw [rd_any e.2.1 e.2.2, Option.bind_some]
    dsimp only
    rw [rd_whole h.bt, Option.map_some]⟩
theorem gmRate : mRate.Good := ⟨fun q o h => by
    show ((wholeW (.wr o) q.nm).bind fun p1 => (wholeW p1.2 q.dn).map fun p2 => ({ q with nm := p1.1, dn := p2.1 }, p2.2)) = if true = true then some (q, Wi.wr (o ++ (beR 8 q.nm ++ beR 8 q.dn))) else none
    rw [wholeW_wr _ _ h.nm, Option.bind_some]
    dsimp only
    rw [wholeW_wr _ _ h.dn, Option.map_some, if_pos rfl, List.append_assoc],
  fun q z r h ho _ _ => by
    show ((wholeW (.rd ((beR 8 q.nm ++ beR 8 q.dn) ++ r)) z.nm).bind fun p1 => (wholeW p1.2 z.dn).map fun p2 => ({ z with nm := p1.1, dn := p2.1 }, p2.2)) = _
    rw [List.append_assoc, rd_whole h.nm, Option.bind_some]
    dsimp only
    rw [rd_whole h.dn, Option.map_some]
    rfl⟩

def outs (l : List Fm) (q : Rq) : List UInt8 := l.flatMap fun x => x.out q
def oks (l : List Fm) (q : Rq) : Bool := l.all fun x => x.ok q
def sets (l : List Fm) (q z : Rq) : Rq := l.foldl (fun z x => x.set q z) z
def Chain : List Fm → Prop
  | [] => True
  | x :: t => x.Good ∧ (x.whole = true → t = []) ∧ (x.whole = false → ∀ q z, z.bk = 0 → (x.set q z).bk = 0) ∧ Chain t
theorem pass_wr (q : Rq) (h : Wf q) : ∀ (l : List Fm) (o : List UInt8), Chain l → passQ (l.map (·.f)) q (.wr o) = if oks l q = true then some (q, .wr (o ++ outs l q)) else none
  | [], o, _ => by simp [passQ, oks, outs]
  | x :: t, o, hl => by
    have hx := hl.1.wr q o h
    simp only [List.map_cons, passQ, hx]
    by_cases e : x.ok q = true
    · rw [if_pos e, Option.bind_some]
      rw [pass_wr q h t _ hl.2.2.2]
      simp [oks, outs, e, List.append_assoc]
    · rw [if_neg e, Option.bind_none]
      simp [oks, e]
theorem pass_rd (q : Rq) (h : Wf q) : ∀ (l : List Fm) (z : Rq), Chain l → oks l q = true → z.bk = 0 → passQ (l.map (·.f)) z (.rd (outs l q)) = some (sets l q z, .rd [])
  | [], z, _, _, _ => rfl
  | x :: t, z, hl, ho, hz => by
    have ho' : x.ok q = true ∧ oks t q = true := by simpa [oks] using ho
    have hx := hl.1.rd q z (outs t q) h ho'.1 hz (fun e => by rw [hl.2.1 e]; rfl)
    simp only [List.map_cons, passQ]
    rw [show outs (x :: t) q = x.out q ++ outs t q from rfl, hx, Option.bind_some]
    cases hw : x.whole with
    | true =>
      obtain rfl := hl.2.1 hw
      rfl
    | false => exact pass_rd q h t _ hl.2.2.2 ho'.2 (hl.2.2.1 hw q z hz)
end Go.Proofs.Ytdpfmaikijilkaa
