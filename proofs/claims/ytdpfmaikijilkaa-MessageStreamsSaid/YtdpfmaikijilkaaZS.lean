/-
  Streams of messages, as mathematics: frames of payloads, one behind the other; bytes as numbers.
-/
import Derived.Test.YtdpfmaikijilkaaMBase
import Derived.Test.YtdpfmaikijilkaaZF
import Derived.Test.YtdpfmaikijilkaaOP
import Derived.Test.YtdpfmaikijilkaaGMem
import Derived.Test.YtdpfmaikijilkaaEN2
import Derived.Test.YtdpfmaikijilkaaDE
import Derived.Test.YtdpfmaikijilkaaMR
import Derived.Test.YtdpfmaikijilkaaENS2
import Derived.Test.YtdpfmaikijilkaaMU
import Derived.Test.YtdpfmaikijilkaaWRS
import Derived.Test.YtdpfmaikijilkaaKN
namespace Go.Proofs.Ytdpfmaikijilkaa
open Go Go.RowKit Go.Sort Go.Proofs

def natB (l : List UInt8) : List Nat := l.map UInt8.toNat
theorem natB_len (l : List UInt8) : (natB l).length = l.length := by simp [natB]
theorem natB_app (l m : List UInt8) : natB (l ++ m) = natB l ++ natB m := by simp [natB]
theorem natB_lt (l : List UInt8) : ∀ x ∈ natB l, x < 256 := by
  intro x hx
  obtain ⟨y, _, rfl⟩ := List.mem_map.1 hx
  exact y.toNat_lt
theorem natB_getD (l : List UInt8) (i : Nat) (h : i < l.length) : (natB l).getD i 0 = l[i].toNat := by simp [natB, List.getD, h]
theorem bts_of {w : World} {a : Option Addr} {n : Nat} {b : List UInt8} (h : CB.At w a n b) : Fr.Bts w a n (natB b) := by
  obtain ⟨h1, h2, h3⟩ := h
  refine ⟨by rw [natB_len, h1], natB_lt b, by omega, ?_⟩
  rcases h3 with h3 | ⟨B, off, rfl, hB, hc⟩
  · exact .inl h3
  · refine .inr ⟨B, off, rfl, hB, fun i hi => ?_⟩
    have := hc i (by omega) 0 (by decide)
    rw [natB_getD b i (by omega)]
    simpa [CB] using this
theorem at_of {w : World} {a : Option Addr} {n : Nat} {b : List UInt8} (h : Fr.Bts w a n (natB b)) (hn : n ≤ 1000000) : CB.At w a n b := by
  obtain ⟨h1, _, _, h3⟩ := h
  rw [natB_len] at h1
  refine ⟨h1, hn, ?_⟩
  rcases h3 with h3 | ⟨B, off, rfl, hB, hc⟩
  · exact .inl h3
  · refine .inr ⟨B, off, rfl, hB, fun i hi c hc' => ?_⟩
    have hk : c = 0 := by have : c < 1 := hc'; omega
    subst hk
    have := hc i (by omega)
    rw [natB_getD b i hi] at this
    simpa [CB] using this
/-- a payload's frame -/
def frB (b : List UInt8) : List UInt8 := (FrM.enc (natB b)).map UInt8.ofNat
theorem natB_frB (b : List UInt8) (h : b.length ≤ 4096) : natB (frB b) = FrM.enc (natB b) := by
  have hb := FrM.enc_bytes (natB b) (natB_lt b) (by rw [natB_len]; exact h)
  unfold natB frB
  rw [List.map_map]
  conv => rhs; rw [← List.map_id (FrM.enc _)]
  exact List.map_congr_left fun x hx => UInt8.toNat_ofNat_of_lt (hb x hx)
theorem frB_len (b : List UInt8) : (frB b).length = 6 + b.length := by
  unfold frB
  rw [List.length_map, FrM.enc_length, natB_len]
/-- a frame in memory -/
theorem frB_at {w : World} {g : Nat} {v : Value} {b : List UInt8} (h : Fr.Row8 w g v (FrM.enc (natB b))) (hb : b.length ≤ 4096) : ∃ a c, v = .slice a (6 + b.length) c ∧ CB.At w a (6 + b.length) (frB b) ∧ (∀ x, a = some x → x.block = g) ∧ a ≠ none := by
  have hl := FrM.enc_bytes (natB b) (natB_lt b) (by rw [natB_len]; exact hb)
  obtain ⟨a, c, rfl, h1, _, h2, h3, _⟩ := h.bts hl
  rw [← natB_frB b hb, natB_len, frB_len] at h1
  have hn : (FrM.enc (natB b)).length = 6 + b.length := by rw [FrM.enc_length, natB_len]
  refine ⟨a, c, by rw [hn], at_of h1 (by omega), h2, fun e => ?_⟩
  have := (h3 e).1
  have h4 := FrM.enc_length (natB b)
  rw [this, List.length_nil] at h4
  omega
/-- frames, one behind the other -/
def accB (bs : List (List UInt8)) : List UInt8 := bs.flatMap frB
theorem accB_nil : accB [] = [] := rfl
theorem accB_cons (b : List UInt8) (bs : List (List UInt8)) : accB (b :: bs) = frB b ++ accB bs := rfl
theorem accB_snoc (bs : List (List UInt8)) (b : List UInt8) : accB (bs ++ [b]) = accB bs ++ frB b := by simp [accB]
theorem accB_len : ∀ (bs : List (List UInt8)), (∀ b ∈ bs, b.length ≤ 4096) → (accB bs).length ≤ 4102 * bs.length
  | [], _ => by simp [accB]
  | b :: r, h => by
    have h1 := h b (by simp)
    have h2 := accB_len r fun x hx => h x (by simp [hx])
    rw [accB_cons, List.length_append, frB_len, List.length_cons]
    omega
theorem look_enc (p : List Nat) (hb : ∀ x ∈ p, x < 256) (h1 : 1 ≤ p.length) (h2 : p.length ≤ 4096) : FrM.look (FrM.enc p) = .got p.length := by
  have hm := CrcM.more_lt 0 p (by decide) hb
  unfold CrcM.top at hm
  have hl : FrM.len (FrM.enc p) = p.length := by
    simp [FrM.len, FrM.enc]
    omega
  have hd : (FrM.enc p).drop 6 = p := by simp [FrM.enc]
  have hn : FrM.num (((FrM.enc p).drop 2).take 4) = CrcM.more 0 p := by
    simp only [FrM.num, FrM.enc, List.cons_append, List.drop_succ_cons, List.drop_zero, List.nil_append, List.take_succ_cons, List.take_zero, List.foldl_cons, List.foldl_nil]
    omega
  have := FrM.look_got_of (r := FrM.enc p) (by rw [hl]; exact h1) (by rw [hl]; exact h2) (by rw [hl, FrM.enc_length]; omega) (by rw [hl, hd, hn, List.take_length])
  rw [hl] at this
  exact this
theorem got_accB : ∀ (bs : List (List UInt8)), (∀ b ∈ bs, 1 ≤ b.length ∧ b.length ≤ 4096) → FrM.Got (natB (accB bs)) (bs.map natB) (accB bs).length
  | [], _ => .none
  | b :: r, h => by
    obtain ⟨h1, h2⟩ := h b (by simp)
    have hr := got_accB r fun x hx => h x (by simp [hx])
    have he : natB (accB (b :: r)) = FrM.enc (natB b) ++ natB (accB r) := by rw [accB_cons, natB_app, natB_frB b h2]
    have hk := FrM.look_got_append (look_enc (natB b) (natB_lt b) (by rw [natB_len]; exact h1) (by rw [natB_len]; exact h2)) (natB (accB r))
    have hg : FrM.Got (natB (accB (b :: r))) [natB b] (6 + b.length) := by
      have := FrM.Got.more (l := natB (accB (b :: r))) FrM.Got.none (n := (natB b).length) (by rw [he]; exact hk.1)
      rw [he, List.drop_zero, hk.2, show (FrM.enc (natB b)).drop 6 = natB b from by simp [FrM.enc], List.take_length, natB_len, Nat.zero_add, List.nil_append] at this
      rw [he]
      exact this
    have hd : (natB (accB (b :: r))).drop (6 + b.length) = natB (accB r) := by
      rw [he, List.drop_left' (by rw [FrM.enc_length, natB_len])]
    have := hg.trans (by rw [hd]; exact hr)
    rw [accB_cons, List.length_append, frB_len]
    exact this
theorem told_accB {bs : List (List UInt8)} (h : ∀ b ∈ bs, 1 ≤ b.length ∧ b.length ≤ 4096) {ps : List (List Nat)} {e k : Nat} (ht : FrM.Tld (natB (accB bs)) ps e k) : ps.length = bs.length ∧ e = 0 := by
  have hg := got_accB bs h
  have hl : FrM.Tld (natB (accB bs)) (bs.map natB) 0 (accB bs).length := by
    refine ⟨hg, .inl ⟨rfl, FrM.look_short ?_⟩⟩
    rw [List.drop_eq_nil_of_le (by rw [natB_len]; exact Nat.le_refl _)]
    decide
  obtain ⟨rfl, rfl, _⟩ := ht.eq hl
  exact ⟨by simp, rfl⟩
end Go.Proofs.Ytdpfmaikijilkaa
namespace Go.Proofs.Ytdpfmaikijilkaa
open Go Go.ChangeShapes Go.WideShapes Go.RowKit Go.Joins Go.Deep

section
variable {H : Type} {enc : TypeId × Value → H} {P : Program} {W : World} {base : Nat} {spare : Nat → Bool} {held : Bool} {α : Type} {C : Cod α} {S T : TypeId}
/-- a row of structs, each of which keeps G -/
theorem open_rowsG (hT : P.underlying S = some (.slice T)) (hk : P.cellsOf T = C.k) (x0 : α) (G : α → Prop) (ho : ∀ (fuel : Nat) (cs : List Value) (x : DataW H × List MemPlace), DataW.trod enc P W base spare held fuel T cs = some x → ∃ y : α, cs = C.enc y ∧ G y)
    {fuel : Nat} {v : Value} {x : DataW H × List MemPlace} (h : DataW.trod enc P W base spare held fuel S [v] = some x) : ∃ a n c l, v = .slice a n c ∧ l.length = n ∧ n ≤ maxLen ∧ (∀ y ∈ l, G y) ∧ (n ≤ 1000000 → C.At W a n l) := by
  rcases open_slice hT h with ⟨hcs, _⟩ | ⟨a, len, cap, m, n, D, Pl, hcs, _, hl, hm, hmm, _, hi⟩
  · simp at hcs
    subst hcs
    exact ⟨none, 0, 0, [], rfl, rfl, Nat.zero_le _, by simp, fun _ => Cod.At.nil W⟩
  · simp at hcs
    subst hcs
    have hlm : len ≤ m := by rw [hmm]; split <;> omega
    have hall : ∀ i, ∃ y : α, i < len → G y ∧ ∀ c, c < C.k → W.cell? (a.add (i * C.k + c)) = (C.enc y)[c]? := fun i => by
      by_cases hil : i < len
      · obtain ⟨cs', hc, ht⟩ := hi i (by omega)
        rw [hk] at hc
        obtain ⟨y, rfl, hg⟩ := ho _ _ _ ht
        obtain ⟨_, _, hat⟩ := World.cells?_some hc
        refine ⟨y, fun _ => ⟨hg, fun c hc6 => ?_⟩⟩
        have e := hat c hc6
        rw [Addr.add_add] at e
        exact e
      · exact ⟨x0, fun h => absurd h hil⟩
    obtain ⟨f, hf⟩ := Classical.axiomOfChoice hall
    refine ⟨some a, len, cap, (List.range len).map f, rfl, by simp, by omega, fun y hy => ?_, fun hbig => ⟨by simp, hbig, ?_⟩⟩
    · obtain ⟨i, hir, rfl⟩ := List.mem_map.1 hy
      exact (hf i (by simpa using hir)).1
    by_cases h0 : len = 0
    · exact .inl h0
    · obtain ⟨B, off, spot⟩ := a
      have hp := C.pos
      have hs := (hf 0 (by omega)).2 0 hp
      obtain ⟨u, hu⟩ : ∃ u, (C.enc (f 0))[0]? = some u := ⟨(C.enc (f 0))[0]'(by rw [C.len]; exact hp), List.getElem?_eq_getElem _⟩
      rw [hu] at hs
      have hspot : spot = none := by simpa [Addr.add] using World.cell?_spot hs
      subst hspot
      refine .inr ⟨B, off, rfl, ?_, fun i hi' => fun c hc => ?_⟩
      · have := World.block_lt_of_cell? W _ hs
        rwa [Addr.add_lit] at this
      · have hil : i < len := by simpa using hi'
        have := (hf i hil).2 c hc
        rw [Addr.add_lit, ← Nat.add_assoc] at this
        rw [this]
        simp
end
/-- a request, and where its Model lies -/
abbrev QI := Rq × Option Addr × Nat
abbrev QI.mv (x : QI) : Value := .slice x.2.1 x.1.model.length x.2.2
def CQ : Cod QI := ⟨fun x => (RqC x.1 x.mv).toList, 17, by decide, fun _ => rfl, fun x v hv => by simp [RqC] at hv; rcases hv with h | h | h | h | h | h | h | h | h | h | h | h | h | h | h | h | h <;> (subst h; rfl)⟩
structure QI.Good (W : World) (x : QI) : Prop where
  wf : Wf x.1
  cap : x.1.model.length ≤ x.2.2
  at_ : x.1.model.length ≤ 1000000 → CB.At W x.2.1 x.1.model.length x.1.model
  nil : x.2.1 = none → x.2.2 = 0
abbrev SI := Rs × Option Addr × Nat
abbrev SI.mv (x : SI) : Value := .slice x.2.1 x.1.vars.length x.2.2
def CS : Cod SI := ⟨fun x => (RsC x.1 x.mv).toList, 18, by decide, fun _ => rfl, fun x v hv => by simp [RsC] at hv; rcases hv with h | h | h | h | h | h | h | h | h | h | h | h | h | h | h | h | h | h <;> (subst h; rfl)⟩
structure SI.Good (W : World) (x : SI) : Prop where
  wf : WfS x.1
  cap : x.1.vars.length ≤ x.2.2
  at_ : x.1.vars.length ≤ 1000000 → CV.At W x.2.1 x.1.vars.length x.1.vars
  nil : x.2.1 = none → x.2.2 = 0
theorem QI.Good.below {W W' : World} {x : QI} (h : x.Good W) (hb : Below W.heap.size W W') : x.Good W' := ⟨h.wf, h.cap, fun e => (h.at_ e).below hb, h.nil⟩
theorem SI.Good.below {W W' : World} {x : SI} (h : x.Good W) (hb : Below W.heap.size W W') : x.Good W' := ⟨h.wf, h.cap, fun e => (h.at_ e).below hb, h.nil⟩
section
variable {H : Type} {enc : TypeId × Value → H} {W : World} {base : Nat} {spare : Nat → Bool} {held : Bool}
set_option maxRecDepth 100000 in
theorem open_requests {r : Reach} {b0 : Nat} {v : Value} {d : DataW H} {p : List MemPlace} (hv : Value.okWide Try.prog W r b0 59 v) (h : DataW.Trod enc Try.prog W base spare held 59 v d p) : ∃ a n c l, v = .slice a n c ∧ l.length = n ∧ (∀ y ∈ l, QI.Good W y) ∧ (n ≤ 1000000 → CQ.At W a n l) := by
  obtain ⟨m, hm⟩ := h
  obtain ⟨a, n, c, rfl⟩ := okWide_slice Try.underlying59 hv
  obtain ⟨a', n', c', l, e, h1, _, h2, h3⟩ := open_rowsG (C := CQ) (x0 := (zeroQ 0, none, 0)) Try.underlying59 (by kernel_rfl) (QI.Good W) (fun fuel cs x hx => by
    obtain ⟨q, a, c, e, g1, g2, _, g3, g4⟩ := open_request hx
    exact ⟨(q, a, c), e, g1, g2, g3, g4⟩) hm
  cases e
  exact ⟨a, n, c, l, rfl, h1, h2, h3⟩
set_option maxRecDepth 100000 in
theorem open_responses {r : Reach} {b0 : Nat} {v : Value} {d : DataW H} {p : List MemPlace} (hv : Value.okWide Try.prog W r b0 60 v) (h : DataW.Trod enc Try.prog W base spare held 60 v d p) : ∃ a n c l, v = .slice a n c ∧ l.length = n ∧ (∀ y ∈ l, SI.Good W y) ∧ (n ≤ 1000000 → CS.At W a n l) := by
  obtain ⟨m, hm⟩ := h
  obtain ⟨a, n, c, rfl⟩ := okWide_slice Try.underlying60 hv
  obtain ⟨a', n', c', l, e, h1, _, h2, h3⟩ := open_rowsG (C := CS) (x0 := (zeroS 0, none, 0)) Try.underlying60 (by kernel_rfl) (SI.Good W) (fun fuel cs x hx => by
    obtain ⟨q, a, c, e, g1, g2, _, g3, g4⟩ := open_response hx
    exact ⟨(q, a, c), e, g1, g2, g3, g4⟩) hm
  cases e
  exact ⟨a, n, c, l, rfl, h1, h2, h3⟩
end
end Go.Proofs.Ytdpfmaikijilkaa
namespace Go.Proofs.Ytdpfmaikijilkaa
open Go Go.RowKit Go.Sort Go.Proofs

section
variable {P : Program} {α : Type} {C : Cod α}
theorem run_loadVar_cell (w : World) (B o : Nat) (ty : TypeId) (y : α) (cs : Array Value) (d : TypeDesc) (hc : C.Cell w B o y) (hcs : cs = (C.enc y).toArray) (hu : P.underlying ty = some d) (hd : (match d with | .struct _ | .array _ _ => true | _ => false) = true) (hi : (P.info? ty).map (·.size) = some C.k) :
    (loadVar ty ⟨B, o, none⟩).run P w = .ok (.agg cs) w := by
  have hl : (loadCells ⟨B, o, none⟩ (C.enc y).length).run P w = .ok (C.enc y).toArray w :=
    run_loadCells_list (P := P) w ⟨B, o, none⟩ (C.enc y) (fun j v hv => by
      have hlt : j < C.k := by have := (List.getElem?_eq_some_iff.1 hv).1; rwa [C.len] at this
      have := hc j hlt
      rw [hv] at this
      rw [Addr.add_lit]
      exact this)
  cases hq : P.info? ty with
  | none => simp [hq] at hi
  | some i =>
    have hs : i.size = C.k := by simpa [hq] using hi
    have hagg : (isAgg ty).run P w = .ok true w := by
      unfold isAgg
      rw [Sem.run_bind, run_underlying hu w]
      cases d <;> simp_all
    rw [C.len] at hl
    simp [loadVar, Sem.run_bind, hagg, sizeOf, typeInfo, hq, hs, hl, hcs]
theorem wp_load_cell {o : Oper} {a : Act} {w : World} {K : Act → World → Prop} {Q : Exit → Act → World → Prop} (ty : TypeId) (x : Operand) (ho : o.op = .load ty x)
    (B f : Nat) (hx : a.eval x = .pointer (some ⟨B, f, none⟩)) (y : α) (cs : Array Value) (d : TypeDesc) (hc : C.Cell w B f y) (hcs : cs = (C.enc y).toArray)
    (hu : P.underlying ty = some d) (hd : (match d with | .struct _ | .array _ _ => true | _ => false) = true) (hi : (P.info? ty).map (·.size) = some C.k)
    (h : K (a.put o.dst (.agg cs)) w) : o.wp P a w K Q := by
  unfold Oper.wp execOp
  simp only [ho, hx, Instr.loadAt, Instr.sureAddr, Sem.run_bind, Sem.run_pure, Result.andThen_ok, run_loadVar_cell w B f ty y cs d hc hcs hu hd hi]
  exact h
theorem wpList_load_cell {ops : Array Oper} {rest : List Oper} {o : Oper} {a : Act} {w : World} {Q : Exit → Act → World → Prop} (hw : Region.wanted o (yielded ops a.tmps) = true) (ty : TypeId) (x : Operand) (ho : o.op = .load ty x)
    (B f : Nat) (hx : a.eval x = .pointer (some ⟨B, f, none⟩)) (y : α) (cs : Array Value) (d : TypeDesc) (hc : C.Cell w B f y) (hcs : cs = (C.enc y).toArray)
    (hu : P.underlying ty = some d) (hd : (match d with | .struct _ | .array _ _ => true | _ => false) = true) (hi : (P.info? ty).map (·.size) = some C.k)
    (h : wpList P ops Q rest (a.put o.dst (.agg cs)) w) : wpList P ops Q (o :: rest) a w :=
  wpList_step fun K hK => by rw [if_pos hw]; exact wp_load_cell ty x ho B f hx y cs d hc hcs hu hd hi (hK _ _ h)
end
end Go.Proofs.Ytdpfmaikijilkaa
namespace Go.Proofs.Ytdpfmaikijilkaa
open Go Go.RowKit Go.Sort Go.Proofs

def allQ (l : List QI) : Bool := l.all fun y => mayQ y.1
def accQ (l : List QI) : List UInt8 := accB (l.map fun y => bytesQ y.1)
def StreamTo (w : World) (ok : Bool) (b : List UInt8) (e : Ending) (w' : World) : Prop :=
  Below w.heap.size w w' ∧ if ok = true then ∃ v, e = .returned (.tuple #[v, .int .i64 0]) ∧ CB.Own 5 w.heap.size w' v b else e = .returned (.tuple #[.slice none 0 0, .int .i64 2])
theorem allQ_no {l : List QI} {k : Nat} (hk : k < l.length) (h : mayQ l[k].1 = false) : allQ l = false := by
  unfold allQ
  rw [List.all_eq_false]
  exact ⟨l[k], List.getElem_mem hk, by rw [h]; decide⟩
theorem allQ_end {l : List QI} {k : Nat} (hk : l.length ≤ k) (h : allQ (l.take k) = true) : allQ l = true := by rwa [List.take_of_length_le hk] at h
theorem allQ_step {l : List QI} {k : Nat} (hk : k < l.length) (h : allQ (l.take k) = true) (hm : mayQ l[k].1 = true) : allQ (l.take (k + 1)) = true := by
  unfold allQ at *
  rw [List.take_succ_eq_append_getElem hk, List.all_append, h]
  simp [hm]
theorem accQ_step {l : List QI} {k : Nat} (hk : k < l.length) : accQ (l.take (k + 1)) = accQ (l.take k) ++ frB (bytesQ l[k].1) := by
  unfold accQ
  rw [List.take_succ_eq_append_getElem hk, List.map_append, List.map_cons, List.map_nil, accB_snoc]
theorem accQ_len {l : List QI} (h : allQ l = true) : (accQ l).length ≤ 4102 * l.length := by
  have := accB_len (l.map fun y => bytesQ y.1) fun b hb => by
    obtain ⟨y, hy, rfl⟩ := List.mem_map.1 hb
    exact mayQ_len ((List.all_eq_true.1 h) y hy)
  rwa [List.length_map] at this
theorem accQ_len' {l : List QI} {k : Nat} (h : allQ (l.take k) = true) (hk : k ≤ 20) : (accQ (l.take k)).length ≤ 82040 := by
  have := accQ_len h
  have h2 : (l.take k).length ≤ k := by simp; omega
  omega
abbrev cellsG (Mp : Nat) : Array Value := #[.func (.func 51) #[] #[], .map (some Mp), .func (.func 27) #[] #[]]
/-- how far the stream is -/
structure StR (w wr : World) (Mp : Nat) (l : List QI) (k : Nat) (b : Value) : Prop where
  below : Below w.heap.size w wr
  box : wr.heap[w.heap.size]? = some (.cells (cellsG Mp) 72 (0, 0))
  may : allQ (l.take k) = true
  own : CB.Own 5 (w.heap.size + 1) wr b (accQ (l.take k))
theorem StR.next {w wr W : World} {Mp : Nat} {l : List QI} {k : Nat} {b : Value} (h : StR w wr Mp l k b) (hb : Below wr.heap.size wr W) : StR w W Mp l k b :=
  ⟨h.below.trans (hb.mono h.below.size), (hb.block _ (Array.getElem?_eq_some_iff.1 h.box).1).trans h.box, h.may, h.own.below hb⟩
theorem StR.first (w : World) (Mp : Nat) (l : List QI) : StR w (w.alloc (.cells (cellsG Mp) 72)) Mp l 0 (.slice none 0 0) :=
  ⟨(Below.refl _ _).alloc (Nat.le_refl _) _, heap_alloc_new _ _, rfl, Cod.Own.nil _ _⟩
theorem infoG3 (Mp : Nat) : (Try.prog.info? 72).map (·.size) = some (cellsG Mp).size := infoG _ _ _
set_option maxHeartbeats 4000000 in
set_option maxRecDepth 100000 in
theorem stream_any (w : World) (base Mp : Nat) (hG : GMap 96 base Mp tabReq w) (l : List QI) (a : Option Addr) (n c : Nat) (hl : CQ.At w a n l) (hg : ∀ y ∈ l, QI.Good w y) (hn : n ≤ 20) (hm : ∀ y ∈ l, y.1.model.length ≤ 5000) :
    Calls Try.prog 47 #[gQ Mp, .slice a n c] w (StreamTo w (allQ l) (accQ l)) := by
  have HE : Hid (∀ W, Below w.heap.size w W → ∀ y ∈ l, Calls Try.prog 30 #[gQ Mp, .agg (RqC y.1 y.mv)] W (EncTo W (if mayQ y.1 = true then some (bytesQ y.1) else none))) := by
    rw [Lib.hid_eq]
    intro W hW y hy
    have g := hg y hy
    have e := encQ_eq y.1 g.wf
    rw [show (byteI y.1.kind :: askQ y.1) = bytesQ y.1 from rfl] at e
    rw [← e]
    exact encode_any W base Mp (hG.below hW) y.1 y.2.1 y.2.2 ((g.at_ (by have := hm y hy; omega)).below hW) g.cap g.wf.id g.wf.num
  have HL := Lib.hid hl
  have HN := Lib.hid hl.1
  clear hl hg hm hG
  go_enter Try.func47, Try.ntmps47
  go_wp2
  go_loopw [6, 8, 9, 10, 11, 14] (fun b _ _ _ _ i wr => ∃ k : Nat, i = .int .i64 (k : Int) ∧ k ≤ n ∧ StR w wr Mp l k b) (fun _ _ _ _ _ i _ => n - (intOf i).toNat)
  case atStart => exact ⟨0, rfl, by omega, StR.first w Mp l⟩
  case round =>
    obtain ⟨k, rfl, hkn, hS⟩ := hrel
    have HS := Lib.hid hS
    clear hS
    by_cases hlt : k < n
    · have hltI : (k : Int) < (n : Int) := by omega
      obtain ⟨B, off, rfl, hB, y0, hy0, hcell⟩ := (HL.out.below HS.out.below).cell hlt
      obtain ⟨hk, hyk⟩ := List.getElem?_eq_some_iff.1 hy0
      have HYE : Hid (∀ W, Below w.heap.size w W → Calls Try.prog 30 #[gQ Mp, .agg (RqC y0.1 y0.mv)] W (EncTo W (if mayQ y0.1 = true then some (bytesQ y0.1) else none))) := by
        rw [Lib.hid_eq]
        exact fun W hW => HE.out W hW y0 (hyk ▸ List.getElem_mem hk)
      have HNO : Hid (mayQ y0.1 = false → allQ l = false) := by rw [Lib.hid_eq]; exact fun h => allQ_no hk (by rw [hyk]; exact h)
      have HYES : Hid (mayQ y0.1 = true → allQ (l.take (k + 1)) = true ∧ accQ (l.take (k + 1)) = accQ (l.take k) ++ frB (bytesQ y0.1)) := by
        rw [Lib.hid_eq]
        exact fun h => ⟨allQ_step hk HS.out.may (by rw [hyk]; exact h), by rw [accQ_step hk, hyk]⟩
      have HAL := Lib.hid (accQ_len' HS.out.may (Nat.le_trans hkn hn))
      have HCE : Hid (CQ.Cell wr B (off + k * 17) y0) := Lib.hid hcell
      obtain ⟨cs, hcs⟩ : ∃ cs, cs = RqC y0.1 y0.mv := ⟨_, rfl⟩
      rw [← hcs] at HYE
      have HCS : Hid (cs = (CQ.enc y0).toArray) := by rw [Lib.hid_eq, hcs]; rfl
      have HIN : Hid ((Try.prog.info? 32).map (·.size) = some cs.size) := by rw [Lib.hid_eq, hcs]; exact infoQ _ _
      have HSZ : Hid ((RqC (zeroQ 0) (.slice none 0 0)).size = cs.size) := by rw [Lib.hid_eq, hcs]; rfl
      have HON : Hid (cs.all (·.oneCell') = true) := by rw [Lib.hid_eq, hcs]; exact RqC_one _ _ _ _
      have hml : mayQ y0.1 = true → 1 ≤ (bytesQ y0.1).length ∧ (bytesQ y0.1).length ≤ 4096 := fun h => ⟨by simp [bytesQ], mayQ_len h⟩
      obtain ⟨p, hp⟩ : ∃ p, p = bytesQ y0.1 := ⟨_, rfl⟩
      rw [← hp] at HYE HYES hml
      clear hcell hcs hy0 hyk hp
      cases hmy : mayQ y0.1 with
      | false =>
        rw [hmy, if_neg (by decide)] at HYE
        have HNA := Lib.hid (HNO.out hmy)
        clear HNO HYES hml hmy
        go_wp2_with (first
          | (show wpList _ _ _ (Oper.mk _ (.load _ (.tmp 16)) _ _ _ _ :: _) _ _; refine wpList_load_cell rfl 32 (.tmp 16) rfl B (off + k * 17) rfl y0 cs _ HCE.out HCS.out Try.underlying32 rfl (by kernel_rfl) ?_)
          | (show wpList _ _ _ (Oper.mk _ (.store _ (.tmp 8) (.tmp 17)) _ _ _ _ :: _) _ _; refine wpList_store_row rfl 32 (.tmp 8) (.tmp 17) rfl wr.heap.size cs rfl rfl 32 (RqC (zeroQ 0) (.slice none 0 0)) (heap_alloc_new _ _) HIN.out HSZ.out HON.out ?_; generalize hw2 : World.setRow _ _ _ = w2; have g1 : Below wr.heap.size wr w2 := (by rw [← hw2]; exact (grow_row wr _ _ _).1); have g2 : w2.heap[wr.heap.size]? = some (.cells cs 32 (0, 0)) := (by rw [← hw2]; exact (grow_row wr _ _ _).2); have H2 := Lib.hid (And.intro (HS.out.next g1) g2); clear hw2 g1 g2)
          | (show wpList _ _ _ (Oper.mk _ (.load _ (.tmp 2)) _ _ _ _ :: _) _ _; refine wpList_load_row rfl 72 (.tmp 2) rfl (w.heap.size) rfl 72 (cellsG Mp) (0, 0) _ H2.out.1.box Try.underlying72 rfl (infoG3 _) ?_)
          | (show wpList _ _ _ (Oper.mk _ (.load _ (.tmp 8)) _ _ _ _ :: _) _ _; refine wpList_load_row rfl 32 (.tmp 8) rfl (wr.heap.size) rfl 32 cs (0, 0) _ H2.out.2 Try.underlying32 rfl HIN.out ?_)
          | (go_at_call 30; refine (HYE.out _ H2.out.1.below).mono ?_; rintro e w4 ⟨hb4, rfl⟩; have H4 := Lib.hid (H2.out.1.next hb4); clear hb4))
        go_ret2
        refine ⟨H4.out.below, ?_⟩
        rw [HNA.out, if_neg (by decide)]
        rfl
      | true =>
        rw [hmy, if_pos rfl] at HYE
        have HYS := Lib.hid (HYES.out hmy)
        obtain ⟨hp1, hp2⟩ := hml hmy
        clear HNO HYES hmy hml
        go_wp2_with (first
          | (show wpList _ _ _ (Oper.mk _ (.load _ (.tmp 16)) _ _ _ _ :: _) _ _; refine wpList_load_cell rfl 32 (.tmp 16) rfl B (off + k * 17) rfl y0 cs _ HCE.out HCS.out Try.underlying32 rfl (by kernel_rfl) ?_)
          | (show wpList _ _ _ (Oper.mk _ (.store _ (.tmp 8) (.tmp 17)) _ _ _ _ :: _) _ _; refine wpList_store_row rfl 32 (.tmp 8) (.tmp 17) rfl wr.heap.size cs rfl rfl 32 (RqC (zeroQ 0) (.slice none 0 0)) (heap_alloc_new _ _) HIN.out HSZ.out HON.out ?_; generalize hw2 : World.setRow _ _ _ = w2; have g1 : Below wr.heap.size wr w2 := (by rw [← hw2]; exact (grow_row wr _ _ _).1); have g2 : w2.heap[wr.heap.size]? = some (.cells cs 32 (0, 0)) := (by rw [← hw2]; exact (grow_row wr _ _ _).2); have H2 := Lib.hid (And.intro (HS.out.next g1) g2); clear hw2 g1 g2)
          | (show wpList _ _ _ (Oper.mk _ (.load _ (.tmp 2)) _ _ _ _ :: _) _ _; refine wpList_load_row rfl 72 (.tmp 2) rfl (w.heap.size) rfl 72 (cellsG Mp) (0, 0) _ H2.out.1.box Try.underlying72 rfl (infoG3 _) ?_)
          | (show wpList _ _ _ (Oper.mk _ (.load _ (.tmp 8)) _ _ _ _ :: _) _ _; refine wpList_load_row rfl 32 (.tmp 8) rfl (wr.heap.size) rfl 32 cs (0, 0) _ H2.out.2 Try.underlying32 rfl HIN.out ?_)
          | (go_at_call 30; refine (HYE.out _ H2.out.1.below).mono ?_; rintro e w4 ⟨hb4, hl4, v4, rfl, ho4⟩; obtain ⟨a4, c4, rfl, hc4, hat4, -⟩ := ho4.at_ (by omega); have H4 := Lib.hid (And.intro (H2.out.1.next hb4) hat4); clear hb4 hl4 ho4 hat4)
          | (go_at_call 74; refine (Fr.enc_any _ a4 p.length c4 (natB p) (bts_of H4.out.2) hp1 hp2).mono ?_; rintro e w5 ⟨v5, g5, rfl, hr5, hg5, hb5⟩; obtain ⟨a5, c5, rfl, hat5, hbl5, hne5⟩ := frB_at hr5 hp2; obtain ⟨ad5, rfl⟩ := Option.ne_none_iff_exists'.1 hne5; have H5 := Lib.hid (And.intro (H4.out.1.next hb5) hat5); clear hb5 hr5 hg5 hbl5 hne5 hat5)
          | (at_builtin; refine rowB.list rfl _ _ rfl (w.heap.size + 1) _ (accQ (l.take k)) rfl H5.out.1.own ad5 (6 + p.length) c5 (frB p) rfl (frB_len p).symm H5.out.2.news ?_ ?_ ?_ ?_; (have := HAL.out; omega); (have := HAL.out; omega); (exact (Array.getElem?_eq_some_iff.1 H5.out.1.box).1); intro v6 w6 ho6 hg6 hn6; have H6 := Lib.hid (And.intro ho6 hg6); clear ho6 hg6 hn6))
        go_roundw
        case rel =>
          have h5 := H5.out.1
          have hbt : But (fun i => some i = u6.ownBlock) w5 w6 := But.grown H6.out.2
          have hlt6 := h5.own.lt
          have hHE := HYS.out
          refine ⟨k + 1, by go_num, by omega, ⟨h5.below.trans (hbt.below h5.below.size fun i e => Nat.le_trans (Nat.le_succ _) (hlt6 i e.symm).1), ?_, hHE.1, by rw [hHE.2]; exact H6.out.1⟩⟩
          exact (hbt.block _ (Array.getElem?_eq_some_iff.1 h5.box).1 fun e => by have := (hlt6 _ e.symm).1; omega).trans h5.box
        case measure => simp [intOf]; omega
    · have hge : ¬ ((k : Int) < (n : Int)) := by omega
      have HK : Hid (l.length ≤ k) := by rw [Lib.hid_eq, HN.out]; omega
      go_wp2
      go_ret2
      have h := HS.out
      refine ⟨h.below, ?_⟩
      have he : l.take k = l := List.take_of_length_le HK.out
      have h1 := h.may
      have h2 := h.own
      rw [he] at h1 h2
      rw [if_pos h1]
      exact ⟨_, rfl, h2.mono (Nat.le_succ _)⟩
end Go.Proofs.Ytdpfmaikijilkaa
namespace Go.Proofs.Ytdpfmaikijilkaa
open Go Go.RowKit Go.Sort Go.Proofs

def bytesS (q : Rs) : List UInt8 := byteI q.kind :: askS q
def allS (l : List SI) : Bool := l.all fun y => mayS y.1
def accS (l : List SI) : List UInt8 := accB (l.map fun y => bytesS y.1)
theorem allS_no {l : List SI} {k : Nat} (hk : k < l.length) (h : mayS l[k].1 = false) : allS l = false := by
  unfold allS
  rw [List.all_eq_false]
  exact ⟨l[k], List.getElem_mem hk, by rw [h]; decide⟩
theorem allS_end {l : List SI} {k : Nat} (hk : l.length ≤ k) (h : allS (l.take k) = true) : allS l = true := by rwa [List.take_of_length_le hk] at h
theorem allS_step {l : List SI} {k : Nat} (hk : k < l.length) (h : allS (l.take k) = true) (hm : mayS l[k].1 = true) : allS (l.take (k + 1)) = true := by
  unfold allS at *
  rw [List.take_succ_eq_append_getElem hk, List.all_append, h]
  simp [hm]
theorem accS_step {l : List SI} {k : Nat} (hk : k < l.length) : accS (l.take (k + 1)) = accS (l.take k) ++ frB (bytesS l[k].1) := by
  unfold accS
  rw [List.take_succ_eq_append_getElem hk, List.map_append, List.map_cons, List.map_nil, accB_snoc]
theorem accS_len {l : List SI} (h : allS l = true) : (accS l).length ≤ 4102 * l.length := by
  have := accB_len (l.map fun y => bytesS y.1) fun b hb => by
    obtain ⟨y, hy, rfl⟩ := List.mem_map.1 hb
    exact mayS_len ((List.all_eq_true.1 h) y hy)
  rwa [List.length_map] at this
theorem accS_len' {l : List SI} {k : Nat} (h : allS (l.take k) = true) (hk : k ≤ 20) : (accS (l.take k)).length ≤ 82040 := by
  have := accS_len h
  have h2 : (l.take k).length ≤ k := by simp; omega
  omega
abbrev cellsGS (Mp : Nat) : Array Value := #[.func (.func 63) #[] #[], .map (some Mp), .func (.func 28) #[] #[]]
/-- how far the stream is -/
structure StS (w wr : World) (Mp : Nat) (l : List SI) (k : Nat) (b : Value) : Prop where
  below : Below w.heap.size w wr
  box : wr.heap[w.heap.size]? = some (.cells (cellsGS Mp) 78 (0, 0))
  may : allS (l.take k) = true
  own : CB.Own 5 (w.heap.size + 1) wr b (accS (l.take k))
theorem StS.next {w wr W : World} {Mp : Nat} {l : List SI} {k : Nat} {b : Value} (h : StS w wr Mp l k b) (hb : Below wr.heap.size wr W) : StS w W Mp l k b :=
  ⟨h.below.trans (hb.mono h.below.size), (hb.block _ (Array.getElem?_eq_some_iff.1 h.box).1).trans h.box, h.may, h.own.below hb⟩
theorem StS.first (w : World) (Mp : Nat) (l : List SI) : StS w (w.alloc (.cells (cellsGS Mp) 78)) Mp l 0 (.slice none 0 0) :=
  ⟨(Below.refl _ _).alloc (Nat.le_refl _) _, heap_alloc_new _ _, rfl, Cod.Own.nil _ _⟩
theorem infoG3S (Mp : Nat) : (Try.prog.info? 78).map (·.size) = some (cellsGS Mp).size := infoGS _ _ _
set_option maxHeartbeats 4000000 in
set_option maxRecDepth 100000 in
theorem sstream_any (w : World) (base Mp : Nat) (hG : GMap 108 base Mp tabRes w) (l : List SI) (a : Option Addr) (n c : Nat) (hl : CS.At w a n l) (hg : ∀ y ∈ l, SI.Good w y) (hn : n ≤ 20) (hm : ∀ y ∈ l, y.1.vars.length ≤ 100) :
    Calls Try.prog 48 #[gS Mp, .slice a n c] w (StreamTo w (allS l) (accS l)) := by
  have HE : Hid (∀ W, Below w.heap.size w W → ∀ y ∈ l, Calls Try.prog 36 #[gS Mp, .agg (RsC y.1 y.mv)] W (EncTo W (if mayS y.1 = true then some (bytesS y.1) else none))) := by
    rw [Lib.hid_eq]
    intro W hW y hy
    have g := hg y hy
    have e := encS_eq y.1 g.wf
    rw [show (byteI y.1.kind :: askS y.1) = bytesS y.1 from rfl] at e
    rw [← e]
    exact sencode_any W base Mp (hG.below hW) y.1 y.2.1 y.2.2 ((g.at_ (by have := hm y hy; omega)).below hW) g.cap g.wf.id g.wf.num
  have HL := Lib.hid hl
  have HN := Lib.hid hl.1
  clear hl hg hm hG
  go_enter Try.func48, Try.ntmps48
  go_wp2
  go_loopw [6, 8, 9, 10, 11, 14] (fun b _ _ _ _ i wr => ∃ k : Nat, i = .int .i64 (k : Int) ∧ k ≤ n ∧ StS w wr Mp l k b) (fun _ _ _ _ _ i _ => n - (intOf i).toNat)
  case atStart => exact ⟨0, rfl, by omega, StS.first w Mp l⟩
  case round =>
    obtain ⟨k, rfl, hkn, hS⟩ := hrel
    have HS := Lib.hid hS
    clear hS
    by_cases hlt : k < n
    · have hltI : (k : Int) < (n : Int) := by omega
      obtain ⟨B, off, rfl, hB, y0, hy0, hcell⟩ := (HL.out.below HS.out.below).cell hlt
      obtain ⟨hk, hyk⟩ := List.getElem?_eq_some_iff.1 hy0
      have HYE : Hid (∀ W, Below w.heap.size w W → Calls Try.prog 36 #[gS Mp, .agg (RsC y0.1 y0.mv)] W (EncTo W (if mayS y0.1 = true then some (bytesS y0.1) else none))) := by
        rw [Lib.hid_eq]
        exact fun W hW => HE.out W hW y0 (hyk ▸ List.getElem_mem hk)
      have HNO : Hid (mayS y0.1 = false → allS l = false) := by rw [Lib.hid_eq]; exact fun h => allS_no hk (by rw [hyk]; exact h)
      have HYES : Hid (mayS y0.1 = true → allS (l.take (k + 1)) = true ∧ accS (l.take (k + 1)) = accS (l.take k) ++ frB (bytesS y0.1)) := by
        rw [Lib.hid_eq]
        exact fun h => ⟨allS_step hk HS.out.may (by rw [hyk]; exact h), by rw [accS_step hk, hyk]⟩
      have HAL := Lib.hid (accS_len' HS.out.may (Nat.le_trans hkn hn))
      have HCE : Hid (CS.Cell wr B (off + k * 18) y0) := Lib.hid hcell
      obtain ⟨cs, hcs⟩ : ∃ cs, cs = RsC y0.1 y0.mv := ⟨_, rfl⟩
      rw [← hcs] at HYE
      have HCS : Hid (cs = (CS.enc y0).toArray) := by rw [Lib.hid_eq, hcs]; rfl
      have HIN : Hid ((Try.prog.info? 47).map (·.size) = some cs.size) := by rw [Lib.hid_eq, hcs]; exact infoS _ _
      have HSZ : Hid ((RsC (zeroS 0) (.slice none 0 0)).size = cs.size) := by rw [Lib.hid_eq, hcs]; rfl
      have HON : Hid (cs.all (·.oneCell') = true) := by rw [Lib.hid_eq, hcs]; exact RsC_one _ _ _ _
      have hml : mayS y0.1 = true → 1 ≤ (bytesS y0.1).length ∧ (bytesS y0.1).length ≤ 4096 := fun h => ⟨by simp [bytesS], mayS_len h⟩
      obtain ⟨p, hp⟩ : ∃ p, p = bytesS y0.1 := ⟨_, rfl⟩
      rw [← hp] at HYE HYES hml
      clear hcell hcs hy0 hyk hp
      cases hmy : mayS y0.1 with
      | false =>
        rw [hmy, if_neg (by decide)] at HYE
        have HNA := Lib.hid (HNO.out hmy)
        clear HNO HYES hml hmy
        go_wp2_with (first
          | (show wpList _ _ _ (Oper.mk _ (.load _ (.tmp 16)) _ _ _ _ :: _) _ _; refine wpList_load_cell rfl 47 (.tmp 16) rfl B (off + k * 18) rfl y0 cs _ HCE.out HCS.out Try.underlying47 rfl (by kernel_rfl) ?_)
          | (show wpList _ _ _ (Oper.mk _ (.store _ (.tmp 8) (.tmp 17)) _ _ _ _ :: _) _ _; refine wpList_store_row rfl 47 (.tmp 8) (.tmp 17) rfl wr.heap.size cs rfl rfl 47 (RsC (zeroS 0) (.slice none 0 0)) (heap_alloc_new _ _) HIN.out HSZ.out HON.out ?_; generalize hw2 : World.setRow _ _ _ = w2; have g1 : Below wr.heap.size wr w2 := (by rw [← hw2]; exact (grow_row wr _ _ _).1); have g2 : w2.heap[wr.heap.size]? = some (.cells cs 47 (0, 0)) := (by rw [← hw2]; exact (grow_row wr _ _ _).2); have H2 := Lib.hid (And.intro (HS.out.next g1) g2); clear hw2 g1 g2)
          | (show wpList _ _ _ (Oper.mk _ (.load _ (.tmp 2)) _ _ _ _ :: _) _ _; refine wpList_load_row rfl 78 (.tmp 2) rfl (w.heap.size) rfl 78 (cellsGS Mp) (0, 0) _ H2.out.1.box Try.underlying78 rfl (infoG3S _) ?_)
          | (show wpList _ _ _ (Oper.mk _ (.load _ (.tmp 8)) _ _ _ _ :: _) _ _; refine wpList_load_row rfl 47 (.tmp 8) rfl (wr.heap.size) rfl 47 cs (0, 0) _ H2.out.2 Try.underlying47 rfl HIN.out ?_)
          | (go_at_call 36; refine (HYE.out _ H2.out.1.below).mono ?_; rintro e w4 ⟨hb4, rfl⟩; have H4 := Lib.hid (H2.out.1.next hb4); clear hb4))
        go_ret2
        refine ⟨H4.out.below, ?_⟩
        rw [HNA.out, if_neg (by decide)]
        rfl
      | true =>
        rw [hmy, if_pos rfl] at HYE
        have HYS := Lib.hid (HYES.out hmy)
        obtain ⟨hp1, hp2⟩ := hml hmy
        clear HNO HYES hmy hml
        go_wp2_with (first
          | (show wpList _ _ _ (Oper.mk _ (.load _ (.tmp 16)) _ _ _ _ :: _) _ _; refine wpList_load_cell rfl 47 (.tmp 16) rfl B (off + k * 18) rfl y0 cs _ HCE.out HCS.out Try.underlying47 rfl (by kernel_rfl) ?_)
          | (show wpList _ _ _ (Oper.mk _ (.store _ (.tmp 8) (.tmp 17)) _ _ _ _ :: _) _ _; refine wpList_store_row rfl 47 (.tmp 8) (.tmp 17) rfl wr.heap.size cs rfl rfl 47 (RsC (zeroS 0) (.slice none 0 0)) (heap_alloc_new _ _) HIN.out HSZ.out HON.out ?_; generalize hw2 : World.setRow _ _ _ = w2; have g1 : Below wr.heap.size wr w2 := (by rw [← hw2]; exact (grow_row wr _ _ _).1); have g2 : w2.heap[wr.heap.size]? = some (.cells cs 47 (0, 0)) := (by rw [← hw2]; exact (grow_row wr _ _ _).2); have H2 := Lib.hid (And.intro (HS.out.next g1) g2); clear hw2 g1 g2)
          | (show wpList _ _ _ (Oper.mk _ (.load _ (.tmp 2)) _ _ _ _ :: _) _ _; refine wpList_load_row rfl 78 (.tmp 2) rfl (w.heap.size) rfl 78 (cellsGS Mp) (0, 0) _ H2.out.1.box Try.underlying78 rfl (infoG3S _) ?_)
          | (show wpList _ _ _ (Oper.mk _ (.load _ (.tmp 8)) _ _ _ _ :: _) _ _; refine wpList_load_row rfl 47 (.tmp 8) rfl (wr.heap.size) rfl 47 cs (0, 0) _ H2.out.2 Try.underlying47 rfl HIN.out ?_)
          | (go_at_call 36; refine (HYE.out _ H2.out.1.below).mono ?_; rintro e w4 ⟨hb4, hl4, v4, rfl, ho4⟩; obtain ⟨a4, c4, rfl, hc4, hat4, -⟩ := ho4.at_ (by omega); have H4 := Lib.hid (And.intro (H2.out.1.next hb4) hat4); clear hb4 hl4 ho4 hat4)
          | (go_at_call 74; refine (Fr.enc_any _ a4 p.length c4 (natB p) (bts_of H4.out.2) hp1 hp2).mono ?_; rintro e w5 ⟨v5, g5, rfl, hr5, hg5, hb5⟩; obtain ⟨a5, c5, rfl, hat5, hbl5, hne5⟩ := frB_at hr5 hp2; obtain ⟨ad5, rfl⟩ := Option.ne_none_iff_exists'.1 hne5; have H5 := Lib.hid (And.intro (H4.out.1.next hb5) hat5); clear hb5 hr5 hg5 hbl5 hne5 hat5)
          | (at_builtin; refine rowB.list rfl _ _ rfl (w.heap.size + 1) _ (accS (l.take k)) rfl H5.out.1.own ad5 (6 + p.length) c5 (frB p) rfl (frB_len p).symm H5.out.2.news ?_ ?_ ?_ ?_; (have := HAL.out; omega); (have := HAL.out; omega); (exact (Array.getElem?_eq_some_iff.1 H5.out.1.box).1); intro v6 w6 ho6 hg6 hn6; have H6 := Lib.hid (And.intro ho6 hg6); clear ho6 hg6 hn6))
        go_roundw
        case rel =>
          have h5 := H5.out.1
          have hbt : But (fun i => some i = u6.ownBlock) w5 w6 := But.grown H6.out.2
          have hlt6 := h5.own.lt
          have hHE := HYS.out
          refine ⟨k + 1, by go_num, by omega, ⟨h5.below.trans (hbt.below h5.below.size fun i e => Nat.le_trans (Nat.le_succ _) (hlt6 i e.symm).1), ?_, hHE.1, by rw [hHE.2]; exact H6.out.1⟩⟩
          exact (hbt.block _ (Array.getElem?_eq_some_iff.1 h5.box).1 fun e => by have := (hlt6 _ e.symm).1; omega).trans h5.box
        case measure => simp [intOf]; omega
    · have hge : ¬ ((k : Int) < (n : Int)) := by omega
      have HK : Hid (l.length ≤ k) := by rw [Lib.hid_eq, HN.out]; omega
      go_wp2
      go_ret2
      have h := HS.out
      refine ⟨h.below, ?_⟩
      have he : l.take k = l := List.take_of_length_le HK.out
      have h1 := h.may
      have h2 := h.own
      rw [he] at h1 h2
      rw [if_pos h1]
      exact ⟨_, rfl, h2.mono (Nat.le_succ _)⟩
end Go.Proofs.Ytdpfmaikijilkaa
namespace Go.Proofs.Ytdpfmaikijilkaa
open Go Go.RowKit Go.Sort Go.Proofs

/-- how far a loop over models is -/
structure LpQ (w wr : World) (l : List QI) (k : Nat) (want : Value) (t : Bool) : Prop where
  below : Below w.heap.size w wr
  may : t = allQ (l.take k)
  own : ∃ xs, CB.Own 5 w.heap.size wr want xs ∧ xs.length ≤ 82040 ∧ (t = true → xs = accQ (l.take k))
  small : ∀ y ∈ l.take k, y.1.model.length ≤ 5000
theorem LpQ.first (w : World) (l : List QI) : LpQ w w l 0 (.slice none 0 0) true :=
  ⟨Below.refl _ _, rfl, ⟨[], Cod.Own.nil _ _, by simp, fun _ => rfl⟩, by simp⟩
theorem LpQ.next {w wr W : World} {l : List QI} {k : Nat} {v : Value} {t : Bool} (h : LpQ w wr l k v t) (hb : Below wr.heap.size wr W) : LpQ w W l k v t := by
  obtain ⟨xs, h1, h2, h3⟩ := h.own
  exact ⟨h.below.trans (hb.mono h.below.size), h.may, ⟨xs, h1.below hb, h2, h3⟩, h.small⟩
theorem LpQ.grow {w wr W : World} {l : List QI} {k : Nat} {v v' : Value} {t t' : Bool} (h : LpQ w wr l k v t) (hk : k < l.length) (hs : l[k].1.model.length ≤ 5000) (ht : t' = (t && mayQ l[k].1)) (hb : Below w.heap.size wr W) (ho : ∃ xs, CB.Own 5 w.heap.size W v' xs ∧ xs.length ≤ 82040 ∧ (t' = true → xs = accQ (l.take (k + 1)))) : LpQ w W l (k + 1) v' t' := by
  refine ⟨h.below.trans hb, ?_, ho, fun y hy => ?_⟩
  · rw [ht, h.may]
    unfold allQ
    rw [List.take_succ_eq_append_getElem hk, List.all_append]
    simp
  · rw [List.take_succ_eq_append_getElem hk] at hy
    rcases List.mem_append.1 hy with hy | hy
    · exact h.small y hy
    · rw [List.mem_singleton.1 hy]
      exact hs
theorem LpQ.end_ {w wr : World} {l : List QI} {k : Nat} {v : Value} {t : Bool} (h : LpQ w wr l k v t) (hk : l.length ≤ k) : t = allQ l ∧ (∃ xs, CB.Own 5 w.heap.size wr v xs ∧ xs.length ≤ 82040 ∧ (t = true → xs = accQ l)) ∧ ∀ y ∈ l, y.1.model.length ≤ 5000 := by
  have e := List.take_of_length_le hk
  have h1 := h.may
  have h2 := h.own
  have h3 := h.small
  rw [e] at h1 h2 h3
  exact ⟨h1, h2, h3⟩
/-- how far a loop over varss is -/
structure LpS (w wr : World) (l : List SI) (k : Nat) (want : Value) (t : Bool) : Prop where
  below : Below w.heap.size w wr
  may : t = allS (l.take k)
  own : ∃ xs, CB.Own 5 w.heap.size wr want xs ∧ xs.length ≤ 82040 ∧ (t = true → xs = accS (l.take k))
  small : ∀ y ∈ l.take k, y.1.vars.length ≤ 100
theorem LpS.first (w : World) (l : List SI) : LpS w w l 0 (.slice none 0 0) true :=
  ⟨Below.refl _ _, rfl, ⟨[], Cod.Own.nil _ _, by simp, fun _ => rfl⟩, by simp⟩
theorem LpS.next {w wr W : World} {l : List SI} {k : Nat} {v : Value} {t : Bool} (h : LpS w wr l k v t) (hb : Below wr.heap.size wr W) : LpS w W l k v t := by
  obtain ⟨xs, h1, h2, h3⟩ := h.own
  exact ⟨h.below.trans (hb.mono h.below.size), h.may, ⟨xs, h1.below hb, h2, h3⟩, h.small⟩
theorem LpS.grow {w wr W : World} {l : List SI} {k : Nat} {v v' : Value} {t t' : Bool} (h : LpS w wr l k v t) (hk : k < l.length) (hs : l[k].1.vars.length ≤ 100) (ht : t' = (t && mayS l[k].1)) (hb : Below w.heap.size wr W) (ho : ∃ xs, CB.Own 5 w.heap.size W v' xs ∧ xs.length ≤ 82040 ∧ (t' = true → xs = accS (l.take (k + 1)))) : LpS w W l (k + 1) v' t' := by
  refine ⟨h.below.trans hb, ?_, ho, fun y hy => ?_⟩
  · rw [ht, h.may]
    unfold allS
    rw [List.take_succ_eq_append_getElem hk, List.all_append]
    simp
  · rw [List.take_succ_eq_append_getElem hk] at hy
    rcases List.mem_append.1 hy with hy | hy
    · exact h.small y hy
    · rw [List.mem_singleton.1 hy]
      exact hs
theorem LpS.end_ {w wr : World} {l : List SI} {k : Nat} {v : Value} {t : Bool} (h : LpS w wr l k v t) (hk : l.length ≤ k) : t = allS l ∧ (∃ xs, CB.Own 5 w.heap.size wr v xs ∧ xs.length ≤ 82040 ∧ (t = true → xs = accS l)) ∧ ∀ y ∈ l, y.1.vars.length ≤ 100 := by
  have e := List.take_of_length_le hk
  have h1 := h.may
  have h2 := h.own
  have h3 := h.small
  rw [e] at h1 h2 h3
  exact ⟨h1, h2, h3⟩
theorem told_accQ {l : List QI} (h : allQ l = true) {ps : List (List Nat)} {e k : Nat} (ht : FrM.Tld (natB (accQ l)) ps e k) : ps.length = l.length ∧ e = 0 := by
  have ht' : FrM.Tld (natB (accB (l.map fun (y : QI) => bytesQ y.1))) ps e k := ht
  have := told_accB (bs := l.map fun (y : QI) => bytesQ y.1) (fun b hb => by
    obtain ⟨y, hy, rfl⟩ := List.mem_map.1 hb
    exact ⟨by simp [bytesQ], mayQ_len ((List.all_eq_true.1 h) y hy)⟩) ht'
  rwa [List.length_map] at this
theorem at_block {w : World} {a : Option Addr} {n : Nat} {l : List UInt8} (h : CB.At w a n l) : ∀ x, a = some x → 1 ≤ n → x.block < w.heap.size := by
  intro x e hn
  obtain ⟨_, _, h3 | ⟨B, off, e2, hB, _⟩⟩ := h
  · omega
  · rw [e2] at e
    cases e
    exact hB
theorem own_shape {w : World} {base : Nat} {e : TypeId} {size : Nat} {v : Value} {n : Nat} {xs : List Value} (h : w.ownsRow base e size v n xs) : ∃ a c, v = .slice a n c := by
  obtain ⟨_, ⟨rfl, rfl⟩ | ⟨g, cap, cur, rfl, _⟩⟩ := h
  · exact ⟨_, _, rfl⟩
  · exact ⟨_, _, rfl⟩
end Go.Proofs.Ytdpfmaikijilkaa
namespace Go.Proofs.Ytdpfmaikijilkaa
open Go Go.RowKit Go.Sort Go.Proofs

def FrTo (p : List UInt8) (w : World) (e : Ending) (w' : World) : Prop := ∃ ad c, e = .returned (.slice (some ad) (6 + p.length) c) ∧ CB.At w' (some ad) (6 + p.length) (frB p) ∧ Below w.heap.size w w'
theorem frame_any (w : World) (a : Option Addr) (c : Nat) (p : List UInt8) (h : CB.At w a p.length p) (h1 : 1 ≤ p.length) (h2 : p.length ≤ 4096) : Calls Try.prog 23 #[.slice a p.length c] w (FrTo p w) := by
  have HE : Hid (Calls Try.prog 46 #[.slice a p.length c] w (Fr.TellsEnc (natB p) w)) := Lib.hid (Fr.renc_any w a p.length c (natB p) (bts_of h) h1 h2)
  clear h h1
  go_enter Try.func23, Try.ntmps23
  go_wp2_with (first
    | (go_at_call 46; refine HE.out.mono ?_; rintro e w5 ⟨v5, g5, rfl, hr5, hg5, hb5⟩; obtain ⟨a5, c5, rfl, hat5, hbl5, hne5⟩ := frB_at hr5 h2; obtain ⟨ad5, rfl⟩ := Option.ne_none_iff_exists'.1 hne5; have H5 := Lib.hid (And.intro hb5 hat5); clear hb5 hr5 hg5 hbl5 hne5 hat5))
  go_ret
  exact ⟨ad5, c5, rfl, H5.out.2, H5.out.1⟩
set_option maxHeartbeats 1000000 in
set_option maxRecDepth 100000 in
theorem QIstream_any (w : World) (l : List QI) (a : Option Addr) (n c : Nat) (hl : CQ.At w a n l) (hg : ∀ y ∈ l, QI.Good w y) (hn : n ≤ 20) (hm : ∀ y ∈ l, y.1.model.length ≤ 5000) : Calls Try.prog 24 #[.slice a n c] w (StreamTo w (allQ l) (accQ l)) := by
  have HS : Hid (∀ W base Mp, Below w.heap.size w W → GMap 96 base Mp tabReq W → Calls Try.prog 47 #[gQ Mp, .slice a n c] W (StreamTo W (allQ l) (accQ l))) := by
    rw [Lib.hid_eq]
    exact fun W base Mp h1 h2 => stream_any W base Mp h2 l a n c (hl.below h1) (fun y hy => (hg y hy).below h1) hn hm
  clear hl hg hm hn
  cases h : allQ l with
  | false =>
    rw [h] at HS
    clear h
    go_enter Try.func24, Try.ntmps24
    go_wp2_with (first
      | (go_at_call 29; refine (requests_any _).mono ?_; rintro e w3 ⟨Mp, rfl, hb3, hg3⟩; have H3 := Lib.hid (And.intro hb3 hg3); clear hb3 hg3)
      | (go_at_call 47; refine (HS.out _ _ _ H3.out.1 H3.out.2).mono ?_; rintro e w4 ⟨hb4, rfl⟩; have H4 := Lib.hid (H3.out.1.trans (hb4.mono H3.out.1.size)); clear hb4))
    go_ret2
    exact ⟨H4.out, rfl⟩
  | true =>
    rw [h] at HS
    clear h
    go_enter Try.func24, Try.ntmps24
    go_wp2_with (first
      | (go_at_call 29; refine (requests_any _).mono ?_; rintro e w3 ⟨Mp, rfl, hb3, hg3⟩; have H3 := Lib.hid (And.intro hb3 hg3); clear hb3 hg3)
      | (go_at_call 47; refine (HS.out _ _ _ H3.out.1 H3.out.2).mono ?_; rintro e w4 ⟨hb4, v4, rfl, ho4⟩; have H4 := Lib.hid (And.intro (H3.out.1.trans (hb4.mono H3.out.1.size)) (ho4.mono H3.out.1.size)); clear hb4 ho4))
    go_ret2
    exact ⟨H4.out.1, _, rfl, H4.out.2⟩
set_option maxHeartbeats 1000000 in
set_option maxRecDepth 100000 in
theorem SIstream_any (w : World) (l : List SI) (a : Option Addr) (n c : Nat) (hl : CS.At w a n l) (hg : ∀ y ∈ l, SI.Good w y) (hn : n ≤ 20) (hm : ∀ y ∈ l, y.1.vars.length ≤ 100) : Calls Try.prog 25 #[.slice a n c] w (StreamTo w (allS l) (accS l)) := by
  have HS : Hid (∀ W base Mp, Below w.heap.size w W → GMap 108 base Mp tabRes W → Calls Try.prog 48 #[gS Mp, .slice a n c] W (StreamTo W (allS l) (accS l))) := by
    rw [Lib.hid_eq]
    exact fun W base Mp h1 h2 => sstream_any W base Mp h2 l a n c (hl.below h1) (fun y hy => (hg y hy).below h1) hn hm
  clear hl hg hm hn
  cases h : allS l with
  | false =>
    rw [h] at HS
    clear h
    go_enter Try.func25, Try.ntmps25
    go_wp2_with (first
      | (go_at_call 35; refine (responses_any _).mono ?_; rintro e w3 ⟨Mp, rfl, hb3, hg3⟩; have H3 := Lib.hid (And.intro hb3 hg3); clear hb3 hg3)
      | (go_at_call 48; refine (HS.out _ _ _ H3.out.1 H3.out.2).mono ?_; rintro e w4 ⟨hb4, rfl⟩; have H4 := Lib.hid (H3.out.1.trans (hb4.mono H3.out.1.size)); clear hb4))
    go_ret2
    exact ⟨H4.out, rfl⟩
  | true =>
    rw [h] at HS
    clear h
    go_enter Try.func25, Try.ntmps25
    go_wp2_with (first
      | (go_at_call 35; refine (responses_any _).mono ?_; rintro e w3 ⟨Mp, rfl, hb3, hg3⟩; have H3 := Lib.hid (And.intro hb3 hg3); clear hb3 hg3)
      | (go_at_call 48; refine (HS.out _ _ _ H3.out.1 H3.out.2).mono ?_; rintro e w4 ⟨hb4, v4, rfl, ho4⟩; have H4 := Lib.hid (And.intro (H3.out.1.trans (hb4.mono H3.out.1.size)) (ho4.mono H3.out.1.size)); clear hb4 ho4))
    go_ret2
    exact ⟨H4.out.1, _, rfl, H4.out.2⟩
end Go.Proofs.Ytdpfmaikijilkaa
