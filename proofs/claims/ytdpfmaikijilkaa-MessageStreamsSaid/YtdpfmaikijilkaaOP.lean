/-
  Arguments that are requests and responses, opened to cells.
-/
import Derived.Test.YtdpfmaikijilkaaMQ
import Derived.Test.YtdpfmaikijilkaaW20
import Derived.Deep.Slices
import Derived.Deep.Fields
import Derived.Lib.SmallJoins
import Derived.ChangeSame
import Derived.ProofKit
import Derived.OpenShut
namespace Go.Proofs.Ytdpfmaikijilkaa
open Go Go.ChangeShapes Go.WideShapes Go.RowKit Go.Joins Go.Deep

/-- a response's numbers are of their kinds -/
structure WfS (q : Rs) : Prop where
  kind : I64 q.kind
  id : U32 q.id
  err : I64 q.err
  floor : I64 q.floor
  vars : ∀ x ∈ q.vars, I64 x
  rt : I64 q.rt
  ro : I64 q.ro
  rs : I64 q.rs
  rp : I64 q.rp
  rn : I64 q.rn
  rv : I64 q.rv
  num : U32 q.num
  time : I64 q.time
  org : I64 q.org
  seq : I64 q.seq
  pt : I64 q.pt
  ek : I64 q.ek
  dat : I64 q.dat
  len : q.vars.length ≤ 9223372036854775807
theorem i64_of {n : Int} (h : (Lit.int .i64 n).wf = true) : I64 n := by
  simp only [Lit.wf, IntKind.min, IntKind.max, IntKind.signed, IntKind.bits, Bool.and_eq_true, decide_eq_true_eq, if_true] at h
  unfold I64
  omega
theorem u32_of {n : Int} (h : (Lit.int .u32 n).wf = true) : U32 n := by
  simp [Lit.wf, IntKind.min, IntKind.max, IntKind.signed, IntKind.bits] at h
  unfold U32
  omega
section
variable {H : Type} {enc : TypeId × Value → H} {P : Program} {W : World} {base : Nat} {spare : Nat → Bool} {held : Bool} {α : Type} {C : Cod α} {S T : TypeId}
theorem open_rows' (p : α → Prop) (hT : P.underlying S = some (.slice T)) (hk : P.cellsOf T = C.k) (x0 : α) (ho : ∀ (fuel : Nat) (cs : List Value) (x : DataW H × List MemPlace), DataW.trod enc P W base spare held fuel T cs = some x → ∃ y : α, cs = C.enc y ∧ p y)
    {fuel : Nat} {v : Value} {x : DataW H × List MemPlace} (h : DataW.trod enc P W base spare held fuel S [v] = some x) : ∃ a n c l, v = .slice a n c ∧ l.length = n ∧ n ≤ c ∧ c ≤ maxLen ∧ (∀ x ∈ l, p x) ∧ (n ≤ 1000000 → C.At W a n l) ∧ (a = none → c = 0) := by
  rcases open_slice hT h with ⟨hcs, _⟩ | ⟨a, len, cap, m, n, D, Pl, hcs, _, hl, hm, hmm, _, hi⟩
  · simp at hcs
    subst hcs
    exact ⟨none, 0, 0, [], rfl, rfl, Nat.le_refl _, Nat.zero_le _, fun _ h => (by cases h), fun _ => Cod.At.nil W, fun _ => rfl⟩
  · simp at hcs
    subst hcs
    have hlm : len ≤ m := by rw [hmm]; split <;> omega
    have hall : ∀ i, ∃ y : α, i < len → (∀ c, c < C.k → W.cell? (a.add (i * C.k + c)) = (C.enc y)[c]?) ∧ p y := fun i => by
      by_cases hil : i < len
      · obtain ⟨cs', hc, ht⟩ := hi i (by omega)
        rw [hk] at hc
        obtain ⟨y, rfl, hp⟩ := ho _ _ _ ht
        obtain ⟨_, _, hat⟩ := World.cells?_some hc
        refine ⟨y, fun _ => ⟨fun c hc6 => ?_, hp⟩⟩
        have e := hat c hc6
        rw [Addr.add_add] at e
        exact e
      · exact ⟨x0, fun h => absurd h hil⟩
    obtain ⟨f, hf⟩ := Classical.axiomOfChoice hall
    refine ⟨some a, len, cap, (List.range len).map f, rfl, by simp, hl, hm, fun x hx => ?_, fun hbig => ⟨by simp, hbig, ?_⟩, fun e => (by cases e)⟩
    · obtain ⟨i, hi', rfl⟩ := List.mem_map.1 hx
      exact (hf i (List.mem_range.1 hi')).2
    by_cases h0 : len = 0
    · exact .inl h0
    · obtain ⟨B, off, spot⟩ := a
      have hp := C.pos
      have hs := (hf 0 (by omega)).1 0 hp
      obtain ⟨u, hu⟩ : ∃ u, (C.enc (f 0))[0]? = some u := ⟨(C.enc (f 0))[0]'(by rw [C.len]; exact hp), List.getElem?_eq_getElem _⟩
      rw [hu] at hs
      have hspot : spot = none := by simpa [Addr.add] using World.cell?_spot hs
      subst hspot
      refine .inr ⟨B, off, rfl, ?_, fun i hi' => fun c hc => ?_⟩
      · have := World.block_lt_of_cell? W _ hs
        rwa [Addr.add_lit] at this
      · have hil : i < len := by simpa using hi'
        have := (hf i hil).1 c hc
        rw [Addr.add_lit, ← Nat.add_assoc] at this
        rw [this]
        simp
end
section
variable {H : Type} {enc : TypeId × Value → H} {W : World} {base : Nat} {spare : Nat → Bool} {held : Bool}
theorem cells_K : Try.prog.cellsOf 26 = 3 := by kernel_rfl
theorem cells_E : Try.prog.cellsOf 28 = 6 := by kernel_rfl
theorem cells_i64 : Try.prog.cellsOf 2 = 1 := by kernel_rfl
theorem cells_int : Try.prog.cellsOf 3 = 1 := by kernel_rfl
theorem cells_u32 : Try.prog.cellsOf 23 = 1 := by kernel_rfl
theorem cells_b : Try.prog.cellsOf 5 = 1 := by kernel_rfl
theorem cells_sb : Try.prog.cellsOf 24 = 1 := by kernel_rfl
theorem cells_sv : Try.prog.cellsOf 43 = 1 := by kernel_rfl
theorem cells_Br : Try.prog.cellsOf 30 = 3 := by kernel_rfl
theorem cells_Rc : Try.prog.cellsOf 45 = 6 := by kernel_rfl
theorem cells_Q : Try.prog.cellsOf 32 = 17 := by kernel_rfl
theorem cells_S : Try.prog.cellsOf 47 = 18 := by kernel_rfl
theorem cells_rk : Try.prog.cellsOf 22 = 1 := by kernel_rfl
theorem cells_sk : Try.prog.cellsOf 42 = 1 := by kernel_rfl
theorem cells_err : Try.prog.cellsOf 34 = 1 := by kernel_rfl
theorem u8_of {n : Int} (h : (Lit.int .u8 n).wf = true) : ∃ x : UInt8, n = x.toNat := by
  simp [Lit.wf, IntKind.min, IntKind.max, IntKind.signed, IntKind.bits] at h
  exact ⟨byteI n, by rw [byteI_val]; omega⟩
theorem open_bytes {fuel : Nat} {v : Value} {x : DataW H × List MemPlace} (h : DataW.trod enc Try.prog W base spare held fuel 24 [v] = some x) : ∃ a n c l, v = .slice a n c ∧ l.length = n ∧ n ≤ c ∧ c ≤ maxLen ∧ (∀ x ∈ l, True) ∧ (n ≤ 1000000 → CB.At W a n l) ∧ (a = none → c = 0) :=
  open_rows' (C := CB) (fun _ => True) Try.underlying24 cells_b 0 (fun fuel cs x h => by
    obtain ⟨n, e, _, w⟩ := DataW.trod_int Try.underlying5 h
    obtain ⟨y, rfl⟩ := u8_of w
    exact ⟨y, e, trivial⟩) h
theorem open_vars {fuel : Nat} {v : Value} {x : DataW H × List MemPlace} (h : DataW.trod enc Try.prog W base spare held fuel 43 [v] = some x) : ∃ a n c l, v = .slice a n c ∧ l.length = n ∧ n ≤ c ∧ c ≤ maxLen ∧ (∀ x ∈ l, I64 x) ∧ (n ≤ 1000000 → CV.At W a n l) ∧ (a = none → c = 0) :=
  open_rows' (C := CV) I64 Try.underlying43 cells_i64 0 (fun fuel cs x h => by
    obtain ⟨n, e, _, w⟩ := DataW.trod_int Try.underlying2 h
    exact ⟨n, e, i64_of w⟩) h
theorem lone {x : Value} {v : Value} (h : [x] = [v]) : x = v := by simpa using h
set_option maxRecDepth 100000 in
theorem open_key {fuel : Nat} {cs : List Value} {x : DataW H × List MemPlace} (h : DataW.trod enc Try.prog W base spare held fuel 26 cs = some x) : ∃ a b c : Int, cs = [.int .i64 a, .int .i64 b, .int .i64 c] ∧ I64 a ∧ I64 b ∧ I64 c := by
  obtain ⟨xs, n, _, _, hlen, hxl, hf⟩ := DataW.trod_struct Try.underlying26 h
  have h0 : DataW.trod enc Try.prog W base spare held n 2 ((cs.drop 0).take (Try.prog.cellsOf 2)) = xs[0]? := hf 0 _ rfl
  have h1 : DataW.trod enc Try.prog W base spare held n 3 ((cs.drop 1).take (Try.prog.cellsOf 3)) = xs[1]? := hf 1 _ rfl
  have h2 : DataW.trod enc Try.prog W base spare held n 2 ((cs.drop 2).take (Try.prog.cellsOf 2)) = xs[2]? := hf 2 _ rfl
  rw [cells_K] at hlen
  rw [cells_i64] at h0
  rw [cells_int] at h1
  rw [cells_i64] at h2
  have hx : xs.length = 3 := hxl
  rw [List.getElem?_eq_getElem (by omega)] at h0 h1 h2
  match cs, hlen with
  | [c0, c1, c2], _ =>
    have h0' : DataW.trod enc Try.prog W base spare held n 2 [c0] = some xs[0] := h0
    obtain ⟨n0, e0, _, w0⟩ := DataW.trod_int Try.underlying2 h0'
    obtain rfl : c0 = _ := lone e0
    have h1' : DataW.trod enc Try.prog W base spare held n 3 [c1] = some xs[1] := h1
    obtain ⟨n1, e1, _, w1⟩ := DataW.trod_int Try.underlying3 h1'
    obtain rfl : c1 = _ := lone e1
    have h2' : DataW.trod enc Try.prog W base spare held n 2 [c2] = some xs[2] := h2
    obtain ⟨n2, e2, _, w2⟩ := DataW.trod_int Try.underlying2 h2'
    obtain rfl : c2 = _ := lone e2
    exact ⟨n0, n1, n2, rfl, i64_of w0, i64_of w1, i64_of w2⟩
set_option maxRecDepth 100000 in
theorem open_event {fuel : Nat} {cs : List Value} {x : DataW H × List MemPlace} (h : DataW.trod enc Try.prog W base spare held fuel 28 cs = some x) : ∃ a b c d e f : Int, cs = [.int .i64 a, .int .i64 b, .int .i64 c, .int .i64 d, .int .i64 e, .int .i64 f] ∧ I64 a ∧ I64 b ∧ I64 c ∧ I64 d ∧ I64 e ∧ I64 f := by
  obtain ⟨xs, n, _, _, hlen, hxl, hf⟩ := DataW.trod_struct Try.underlying28 h
  have h0 : DataW.trod enc Try.prog W base spare held n 26 ((cs.drop 0).take (Try.prog.cellsOf 26)) = xs[0]? := hf 0 _ rfl
  have h1 : DataW.trod enc Try.prog W base spare held n 3 ((cs.drop 3).take (Try.prog.cellsOf 3)) = xs[1]? := hf 1 _ rfl
  have h2 : DataW.trod enc Try.prog W base spare held n 3 ((cs.drop 4).take (Try.prog.cellsOf 3)) = xs[2]? := hf 2 _ rfl
  have h3 : DataW.trod enc Try.prog W base spare held n 2 ((cs.drop 5).take (Try.prog.cellsOf 2)) = xs[3]? := hf 3 _ rfl
  rw [cells_E] at hlen
  rw [cells_K] at h0
  rw [cells_int] at h1
  rw [cells_int] at h2
  rw [cells_i64] at h3
  have hx : xs.length = 4 := hxl
  rw [List.getElem?_eq_getElem (by omega)] at h0 h1 h2 h3
  match cs, hlen with
  | [c0, c1, c2, c3, c4, c5], _ =>
    have h0' : DataW.trod enc Try.prog W base spare held n 26 [c0, c1, c2] = some xs[0] := h0
    obtain ⟨k0, k1, k2, ek, x0, x1, x2⟩ := open_key h0'
    simp only [List.cons.injEq, and_true] at ek
    obtain ⟨rfl, rfl, rfl⟩ := ek
    have h1' : DataW.trod enc Try.prog W base spare held n 3 [c3] = some xs[1] := h1
    obtain ⟨n1, e1, _, w1⟩ := DataW.trod_int Try.underlying3 h1'
    obtain rfl : c3 = _ := lone e1
    have h2' : DataW.trod enc Try.prog W base spare held n 3 [c4] = some xs[2] := h2
    obtain ⟨n2, e2, _, w2⟩ := DataW.trod_int Try.underlying3 h2'
    obtain rfl : c4 = _ := lone e2
    have h3' : DataW.trod enc Try.prog W base spare held n 2 [c5] = some xs[3] := h3
    obtain ⟨n3, e3, _, w3⟩ := DataW.trod_int Try.underlying2 h3'
    obtain rfl : c5 = _ := lone e3
    exact ⟨k0, k1, k2, n1, n2, n3, rfl, x0, x1, x2, i64_of w1, i64_of w2, i64_of w3⟩
set_option maxRecDepth 100000 in
theorem open_record {fuel : Nat} {cs : List Value} {x : DataW H × List MemPlace} (h : DataW.trod enc Try.prog W base spare held fuel 45 cs = some x) : ∃ a b c d e f : Int, cs = [.int .i64 a, .int .i64 b, .int .i64 c, .int .i64 d, .int .i64 e, .int .i64 f] ∧ I64 a ∧ I64 b ∧ I64 c ∧ I64 d ∧ I64 e ∧ I64 f := by
  obtain ⟨xs, n, _, _, hlen, hxl, hf⟩ := DataW.trod_struct Try.underlying45 h
  have h0 : DataW.trod enc Try.prog W base spare held n 26 ((cs.drop 0).take (Try.prog.cellsOf 26)) = xs[0]? := hf 0 _ rfl
  have h1 : DataW.trod enc Try.prog W base spare held n 3 ((cs.drop 3).take (Try.prog.cellsOf 3)) = xs[1]? := hf 1 _ rfl
  have h2 : DataW.trod enc Try.prog W base spare held n 3 ((cs.drop 4).take (Try.prog.cellsOf 3)) = xs[2]? := hf 2 _ rfl
  have h3 : DataW.trod enc Try.prog W base spare held n 2 ((cs.drop 5).take (Try.prog.cellsOf 2)) = xs[3]? := hf 3 _ rfl
  rw [cells_Rc] at hlen
  rw [cells_K] at h0
  rw [cells_int] at h1
  rw [cells_int] at h2
  rw [cells_i64] at h3
  have hx : xs.length = 4 := hxl
  rw [List.getElem?_eq_getElem (by omega)] at h0 h1 h2 h3
  match cs, hlen with
  | [c0, c1, c2, c3, c4, c5], _ =>
    have h0' : DataW.trod enc Try.prog W base spare held n 26 [c0, c1, c2] = some xs[0] := h0
    obtain ⟨k0, k1, k2, ek, x0, x1, x2⟩ := open_key h0'
    simp only [List.cons.injEq, and_true] at ek
    obtain ⟨rfl, rfl, rfl⟩ := ek
    have h1' : DataW.trod enc Try.prog W base spare held n 3 [c3] = some xs[1] := h1
    obtain ⟨n1, e1, _, w1⟩ := DataW.trod_int Try.underlying3 h1'
    obtain rfl : c3 = _ := lone e1
    have h2' : DataW.trod enc Try.prog W base spare held n 3 [c4] = some xs[2] := h2
    obtain ⟨n2, e2, _, w2⟩ := DataW.trod_int Try.underlying3 h2'
    obtain rfl : c4 = _ := lone e2
    have h3' : DataW.trod enc Try.prog W base spare held n 2 [c5] = some xs[3] := h3
    obtain ⟨n3, e3, _, w3⟩ := DataW.trod_int Try.underlying2 h3'
    obtain rfl : c5 = _ := lone e3
    exact ⟨k0, k1, k2, n1, n2, n3, rfl, x0, x1, x2, i64_of w1, i64_of w2, i64_of w3⟩
set_option maxRecDepth 100000 in
theorem open_break {fuel : Nat} {cs : List Value} {x : DataW H × List MemPlace} (h : DataW.trod enc Try.prog W base spare held fuel 30 cs = some x) : ∃ a b c : Int, cs = [.int .i64 a, .int .i64 b, .int .i64 c] ∧ I64 a ∧ I64 b ∧ I64 c := by
  obtain ⟨xs, n, _, _, hlen, hxl, hf⟩ := DataW.trod_struct Try.underlying30 h
  have h0 : DataW.trod enc Try.prog W base spare held n 3 ((cs.drop 0).take (Try.prog.cellsOf 3)) = xs[0]? := hf 0 _ rfl
  have h1 : DataW.trod enc Try.prog W base spare held n 3 ((cs.drop 1).take (Try.prog.cellsOf 3)) = xs[1]? := hf 1 _ rfl
  have h2 : DataW.trod enc Try.prog W base spare held n 2 ((cs.drop 2).take (Try.prog.cellsOf 2)) = xs[2]? := hf 2 _ rfl
  rw [cells_Br] at hlen
  rw [cells_int] at h0
  rw [cells_int] at h1
  rw [cells_i64] at h2
  have hx : xs.length = 3 := hxl
  rw [List.getElem?_eq_getElem (by omega)] at h0 h1 h2
  match cs, hlen with
  | [c0, c1, c2], _ =>
    have h0' : DataW.trod enc Try.prog W base spare held n 3 [c0] = some xs[0] := h0
    obtain ⟨n0, e0, _, w0⟩ := DataW.trod_int Try.underlying3 h0'
    obtain rfl : c0 = _ := lone e0
    have h1' : DataW.trod enc Try.prog W base spare held n 3 [c1] = some xs[1] := h1
    obtain ⟨n1, e1, _, w1⟩ := DataW.trod_int Try.underlying3 h1'
    obtain rfl : c1 = _ := lone e1
    have h2' : DataW.trod enc Try.prog W base spare held n 2 [c2] = some xs[2] := h2
    obtain ⟨n2, e2, _, w2⟩ := DataW.trod_int Try.underlying2 h2'
    obtain rfl : c2 = _ := lone e2
    exact ⟨n0, n1, n2, rfl, i64_of w0, i64_of w1, i64_of w2⟩
set_option maxRecDepth 100000 in
theorem open_request {fuel : Nat} {cs : List Value} {x : DataW H × List MemPlace} (h : DataW.trod enc Try.prog W base spare held fuel 32 cs = some x) : ∃ (q : Rq) (a : Option Addr) (c : Nat), cs = (RqC q (.slice a q.model.length c)).toList ∧ Wf q ∧ q.model.length ≤ c ∧ c ≤ maxLen ∧ (q.model.length ≤ 1000000 → CB.At W a q.model.length q.model) ∧ (a = none → c = 0) := by
  obtain ⟨xs, n, _, _, hlen, hxl, hf⟩ := DataW.trod_struct Try.underlying32 h
  have h0 : DataW.trod enc Try.prog W base spare held n 22 ((cs.drop 0).take (Try.prog.cellsOf 22)) = xs[0]? := hf 0 _ rfl
  have h1 : DataW.trod enc Try.prog W base spare held n 23 ((cs.drop 1).take (Try.prog.cellsOf 23)) = xs[1]? := hf 1 _ rfl
  have h2 : DataW.trod enc Try.prog W base spare held n 3 ((cs.drop 2).take (Try.prog.cellsOf 3)) = xs[2]? := hf 2 _ rfl
  have h3 : DataW.trod enc Try.prog W base spare held n 24 ((cs.drop 3).take (Try.prog.cellsOf 24)) = xs[3]? := hf 3 _ rfl
  have h4 : DataW.trod enc Try.prog W base spare held n 28 ((cs.drop 4).take (Try.prog.cellsOf 28)) = xs[4]? := hf 4 _ rfl
  have h5 : DataW.trod enc Try.prog W base spare held n 23 ((cs.drop 10).take (Try.prog.cellsOf 23)) = xs[5]? := hf 5 _ rfl
  have h6 : DataW.trod enc Try.prog W base spare held n 30 ((cs.drop 11).take (Try.prog.cellsOf 30)) = xs[6]? := hf 6 _ rfl
  have h7 : DataW.trod enc Try.prog W base spare held n 3 ((cs.drop 14).take (Try.prog.cellsOf 3)) = xs[7]? := hf 7 _ rfl
  have h8 : DataW.trod enc Try.prog W base spare held n 2 ((cs.drop 15).take (Try.prog.cellsOf 2)) = xs[8]? := hf 8 _ rfl
  have h9 : DataW.trod enc Try.prog W base spare held n 2 ((cs.drop 16).take (Try.prog.cellsOf 2)) = xs[9]? := hf 9 _ rfl
  rw [cells_Q] at hlen
  rw [cells_rk] at h0
  rw [cells_u32] at h1
  rw [cells_int] at h2
  rw [cells_sb] at h3
  rw [cells_E] at h4
  rw [cells_u32] at h5
  rw [cells_Br] at h6
  rw [cells_int] at h7
  rw [cells_i64] at h8
  rw [cells_i64] at h9
  have hx : xs.length = 10 := hxl
  rw [List.getElem?_eq_getElem (by omega)] at h0 h1 h2 h3 h4 h5 h6 h7 h8 h9
  match cs, hlen with
  | [c0, c1, c2, c3, c4, c5, c6, c7, c8, c9, c10, c11, c12, c13, c14, c15, c16], _ =>
    have h0' : DataW.trod enc Try.prog W base spare held n 22 [c0] = some xs[0] := h0
    obtain ⟨n0, e0, _, w0⟩ := DataW.trod_int Try.underlying22 h0'
    obtain rfl : c0 = _ := lone e0
    have h1' : DataW.trod enc Try.prog W base spare held n 23 [c1] = some xs[1] := h1
    obtain ⟨n1, e1, _, w1⟩ := DataW.trod_int Try.underlying23 h1'
    obtain rfl : c1 = _ := lone e1
    have h2' : DataW.trod enc Try.prog W base spare held n 3 [c2] = some xs[2] := h2
    obtain ⟨n2, e2, _, w2⟩ := DataW.trod_int Try.underlying3 h2'
    obtain rfl : c2 = _ := lone e2
    have h3' : DataW.trod enc Try.prog W base spare held n 24 [c3] = some xs[3] := h3
    obtain ⟨a, m, c, l, rfl, hl, hc, hm, _, hat, hnil⟩ := open_bytes h3'
    have h4' : DataW.trod enc Try.prog W base spare held n 28 [c4, c5, c6, c7, c8, c9] = some xs[4] := h4
    obtain ⟨v0, v1, v2, v3, v4, v5, ek, x0, x1, x2, x3, x4, x5⟩ := open_event h4'
    simp only [List.cons.injEq, and_true] at ek
    obtain ⟨rfl, rfl, rfl, rfl, rfl, rfl⟩ := ek
    have h5' : DataW.trod enc Try.prog W base spare held n 23 [c10] = some xs[5] := h5
    obtain ⟨n5, e5, _, w5⟩ := DataW.trod_int Try.underlying23 h5'
    obtain rfl : c10 = _ := lone e5
    have h6' : DataW.trod enc Try.prog W base spare held n 30 [c11, c12, c13] = some xs[6] := h6
    obtain ⟨b0, b1, b2, ek, z0, z1, z2⟩ := open_break h6'
    simp only [List.cons.injEq, and_true] at ek
    obtain ⟨rfl, rfl, rfl⟩ := ek
    have h7' : DataW.trod enc Try.prog W base spare held n 3 [c14] = some xs[7] := h7
    obtain ⟨n7, e7, _, w7⟩ := DataW.trod_int Try.underlying3 h7'
    obtain rfl : c14 = _ := lone e7
    have h8' : DataW.trod enc Try.prog W base spare held n 2 [c15] = some xs[8] := h8
    obtain ⟨n8, e8, _, w8⟩ := DataW.trod_int Try.underlying2 h8'
    obtain rfl : c15 = _ := lone e8
    have h9' : DataW.trod enc Try.prog W base spare held n 2 [c16] = some xs[9] := h9
    obtain ⟨n9, e9, _, w9⟩ := DataW.trod_int Try.underlying2 h9'
    obtain rfl : c16 = _ := lone e9
    subst hl
    exact ⟨⟨n0, n1, n2, l, v0, v1, v2, v3, v4, v5, n5, b0, b1, b2, n7, n8, n9⟩, a, c, rfl, ⟨i64_of w0, u32_of w1, i64_of w2, x0, x1, x2, x3, x4, x5, u32_of w5, z0, z1, z2, i64_of w7, i64_of w8, i64_of w9⟩, hc, hm, hat, hnil⟩
set_option maxRecDepth 100000 in
theorem open_response {fuel : Nat} {cs : List Value} {x : DataW H × List MemPlace} (h : DataW.trod enc Try.prog W base spare held fuel 47 cs = some x) : ∃ (q : Rs) (a : Option Addr) (c : Nat), cs = (RsC q (.slice a q.vars.length c)).toList ∧ WfS q ∧ q.vars.length ≤ c ∧ c ≤ maxLen ∧ (q.vars.length ≤ 1000000 → CV.At W a q.vars.length q.vars) ∧ (a = none → c = 0) := by
  obtain ⟨xs, n, _, _, hlen, hxl, hf⟩ := DataW.trod_struct Try.underlying47 h
  have h0 : DataW.trod enc Try.prog W base spare held n 42 ((cs.drop 0).take (Try.prog.cellsOf 42)) = xs[0]? := hf 0 _ rfl
  have h1 : DataW.trod enc Try.prog W base spare held n 23 ((cs.drop 1).take (Try.prog.cellsOf 23)) = xs[1]? := hf 1 _ rfl
  have h2 : DataW.trod enc Try.prog W base spare held n 34 ((cs.drop 2).take (Try.prog.cellsOf 34)) = xs[2]? := hf 2 _ rfl
  have h3 : DataW.trod enc Try.prog W base spare held n 2 ((cs.drop 3).take (Try.prog.cellsOf 2)) = xs[3]? := hf 3 _ rfl
  have h4 : DataW.trod enc Try.prog W base spare held n 43 ((cs.drop 4).take (Try.prog.cellsOf 43)) = xs[4]? := hf 4 _ rfl
  have h5 : DataW.trod enc Try.prog W base spare held n 45 ((cs.drop 5).take (Try.prog.cellsOf 45)) = xs[5]? := hf 5 _ rfl
  have h6 : DataW.trod enc Try.prog W base spare held n 23 ((cs.drop 11).take (Try.prog.cellsOf 23)) = xs[6]? := hf 6 _ rfl
  have h7 : DataW.trod enc Try.prog W base spare held n 28 ((cs.drop 12).take (Try.prog.cellsOf 28)) = xs[7]? := hf 7 _ rfl
  rw [cells_S] at hlen
  rw [cells_sk] at h0
  rw [cells_u32] at h1
  rw [cells_err] at h2
  rw [cells_i64] at h3
  rw [cells_sv] at h4
  rw [cells_Rc] at h5
  rw [cells_u32] at h6
  rw [cells_E] at h7
  have hx : xs.length = 8 := hxl
  rw [List.getElem?_eq_getElem (by omega)] at h0 h1 h2 h3 h4 h5 h6 h7
  match cs, hlen with
  | [c0, c1, c2, c3, c4, c5, c6, c7, c8, c9, c10, c11, c12, c13, c14, c15, c16, c17], _ =>
    have h0' : DataW.trod enc Try.prog W base spare held n 42 [c0] = some xs[0] := h0
    obtain ⟨n0, e0, _, w0⟩ := DataW.trod_int Try.underlying42 h0'
    obtain rfl : c0 = _ := lone e0
    have h1' : DataW.trod enc Try.prog W base spare held n 23 [c1] = some xs[1] := h1
    obtain ⟨n1, e1, _, w1⟩ := DataW.trod_int Try.underlying23 h1'
    obtain rfl : c1 = _ := lone e1
    have h2' : DataW.trod enc Try.prog W base spare held n 34 [c2] = some xs[2] := h2
    obtain ⟨n2, e2, _, w2⟩ := DataW.trod_int Try.underlying34 h2'
    obtain rfl : c2 = _ := lone e2
    have h3' : DataW.trod enc Try.prog W base spare held n 2 [c3] = some xs[3] := h3
    obtain ⟨n3, e3, _, w3⟩ := DataW.trod_int Try.underlying2 h3'
    obtain rfl : c3 = _ := lone e3
    have h4' : DataW.trod enc Try.prog W base spare held n 43 [c4] = some xs[4] := h4
    obtain ⟨a, m, c, l, rfl, hl, hc, hm, hv, hat, hnil⟩ := open_vars h4'
    have h5' : DataW.trod enc Try.prog W base spare held n 45 [c5, c6, c7, c8, c9, c10] = some xs[5] := h5
    obtain ⟨r0, r1, r2, r3, r4, r5, ek, z0, z1, z2, z3, z4, z5⟩ := open_record h5'
    simp only [List.cons.injEq, and_true] at ek
    obtain ⟨rfl, rfl, rfl, rfl, rfl, rfl⟩ := ek
    have h6' : DataW.trod enc Try.prog W base spare held n 23 [c11] = some xs[6] := h6
    obtain ⟨n6, e6, _, w6⟩ := DataW.trod_int Try.underlying23 h6'
    obtain rfl : c11 = _ := lone e6
    have h7' : DataW.trod enc Try.prog W base spare held n 28 [c12, c13, c14, c15, c16, c17] = some xs[7] := h7
    obtain ⟨v0, v1, v2, v3, v4, v5, ek, x0, x1, x2, x3, x4, x5⟩ := open_event h7'
    simp only [List.cons.injEq, and_true] at ek
    obtain ⟨rfl, rfl, rfl, rfl, rfl, rfl⟩ := ek
    subst hl
    exact ⟨⟨n0, n1, n2, n3, l, r0, r1, r2, r3, r4, r5, n6, v0, v1, v2, v3, v4, v5⟩, a, c, rfl, ⟨i64_of w0, u32_of w1, i64_of w2, i64_of w3, hv, z0, z1, z2, z3, z4, z5, u32_of w6, x0, x1, x2, x3, x4, x5, by unfold maxLen at hm; show l.length ≤ _; omega⟩, hc, hm, hat, hnil⟩
set_option maxRecDepth 100000 in
theorem open_requestV {r : Reach} {b0 : Nat} {v : Value} {d : DataW H} {p : List MemPlace} (hv : Value.okWide Try.prog W r b0 32 v) (h : DataW.Trod enc Try.prog W base spare held 32 v d p) : ∃ (q : Rq) (a : Option Addr) (c : Nat), v = .agg (RqC q (.slice a q.model.length c)) ∧ Wf q ∧ q.model.length ≤ c ∧ c ≤ maxLen ∧ (q.model.length ≤ 1000000 → CB.At W a q.model.length q.model) ∧ (a = none → c = 0) := by
  obtain ⟨cs, rfl, hsz⟩ := okWide_struct Try.underlying32 hv
  obtain ⟨m, hm⟩ := h
  obtain ⟨q, a, c, hy, h2⟩ := open_request hm
  exact ⟨q, a, c, by rw [show cs = RqC q (.slice a q.model.length c) from Array.ext' hy], h2⟩
set_option maxRecDepth 100000 in
theorem open_responseV {r : Reach} {b0 : Nat} {v : Value} {d : DataW H} {p : List MemPlace} (hv : Value.okWide Try.prog W r b0 47 v) (h : DataW.Trod enc Try.prog W base spare held 47 v d p) : ∃ (q : Rs) (a : Option Addr) (c : Nat), v = .agg (RsC q (.slice a q.vars.length c)) ∧ WfS q ∧ q.vars.length ≤ c ∧ c ≤ maxLen ∧ (q.vars.length ≤ 1000000 → CV.At W a q.vars.length q.vars) ∧ (a = none → c = 0) := by
  obtain ⟨cs, rfl, hsz⟩ := okWide_struct Try.underlying47 hv
  obtain ⟨m, hm⟩ := h
  obtain ⟨q, a, c, hy, h2⟩ := open_response hm
  exact ⟨q, a, c, by rw [show cs = RsC q (.slice a q.vars.length c) from Array.ext' hy], h2⟩
end
end Go.Proofs.Ytdpfmaikijilkaa
