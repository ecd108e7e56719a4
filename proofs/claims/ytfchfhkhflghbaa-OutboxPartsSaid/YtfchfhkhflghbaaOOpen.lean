/-
  Arguments: rows of acts, of texts, of numbers.
-/
import Derived.Test.YtfchfhkhflghbaaGOpen
import Derived.Test.YtfchfhkhflghbaaOBase
namespace Go.Proofs.Ytfchfhkhflghbaa
open Go Go.ChangeShapes Go.WideShapes Go.RowKit Go.Joins Go.Deep

section
variable {H : Type} {enc : TypeId × Value → H} {P : Program} {W : World} {base : Nat} {spare : Nat → Bool} {held : Bool} {α : Type} {C : Cod α} {S T : TypeId}
theorem open_part (p : α → Prop) (hT : P.underlying S = some (.slice T)) (hk : P.cellsOf T = C.k) (x0 : α) (ho : ∀ (fuel : Nat) (cs : List Value) (x : DataW H × List MemPlace), DataW.trod enc P W base spare held fuel T cs = some x → ∃ y : α, cs = C.enc y ∧ p y)
    {fuel : Nat} {v : Value} {x : DataW H × List MemPlace} (h : DataW.trod enc P W base spare held fuel S [v] = some x) : ∃ (a : Option Addr) (n c : Nat) (l : List α), v = .slice a n c ∧ l.length = n ∧ n ≤ c ∧ c ≤ maxLen ∧ (∀ x ∈ l, p x) ∧ (∀ m, m ≤ n → m ≤ 1000000 → C.At W a m (l.take m)) ∧ (a = none → c = 0) := by
  rcases open_slice hT h with ⟨hcs, _⟩ | ⟨a, len, cap, m, n, D, Pl, hcs, _, hl, hm, hmm, _, hi⟩
  · simp at hcs
    subst hcs
    exact ⟨none, 0, 0, [], rfl, rfl, Nat.le_refl _, Nat.zero_le _, fun _ h => (by cases h), fun m hm _ => (by obtain rfl : m = 0 := (by omega); exact Cod.At.nil W), fun _ => rfl⟩
  · simp at hcs
    subst hcs
    have hlm : len ≤ m := by rw [hmm]; split <;> omega
    have hall : ∀ i, ∃ y : α, i < len → (∀ c, c < C.k → W.cell? (a.add (i * C.k + c)) = (C.enc y)[c]?) ∧ p y := fun i => by
      by_cases hil : i < len
      · obtain ⟨cs', hc, ht⟩ := hi i (by omega)
        rw [hk] at hc
        obtain ⟨y, rfl, hp⟩ := ho _ _ _ ht
        obtain ⟨_, _, hat⟩ := World.cells?_some hc
        refine ⟨y, fun _ => ⟨fun c hc6 => ?_, hp⟩⟩
        have e := hat c hc6
        rw [Addr.add_add] at e
        exact e
      · exact ⟨x0, fun h => absurd h hil⟩
    obtain ⟨f, hf⟩ := Classical.axiomOfChoice hall
    refine ⟨some a, len, cap, (List.range len).map f, rfl, by simp, hl, hm, fun x hx => ?_, fun q hq hbig => ⟨by simp; omega, hbig, ?_⟩, fun e => (by cases e)⟩
    · obtain ⟨i, hi', rfl⟩ := List.mem_map.1 hx
      exact (hf i (List.mem_range.1 hi')).2
    by_cases h0 : q = 0
    · exact .inl h0
    · obtain ⟨B, off, spot⟩ := a
      have hp := C.pos
      have hs := (hf 0 (by omega)).1 0 hp
      obtain ⟨u, hu⟩ : ∃ u, (C.enc (f 0))[0]? = some u := ⟨(C.enc (f 0))[0]'(by rw [C.len]; exact hp), List.getElem?_eq_getElem _⟩
      rw [hu] at hs
      have hspot : spot = none := by simpa [Addr.add] using World.cell?_spot hs
      subst hspot
      refine .inr ⟨B, off, rfl, ?_, fun i hi' => fun c hc => ?_⟩
      · have := World.block_lt_of_cell? W _ hs
        rwa [Addr.add_lit] at this
      · have hil : i < q ∧ i < len := by
          have : i < min q len := by simpa using hi'
          omega
        have := (hf i hil.2).1 c hc
        rw [Addr.add_lit, ← Nat.add_assoc] at this
        rw [this]
        simp
end
/-- a slice of bytes that came in -/
def Good (W : World) (s : Sl) : Prop := ∃ b : List UInt8, b.length = s.2.1 ∧ s.2.1 ≤ s.2.2 ∧ s.2.2 ≤ maxLen ∧ (s.2.1 ≤ 1000000 → CB.At W s.1 s.2.1 b) ∧ (s.1 = none → s.2.2 = 0)
/-- an act: its kind, its bytes, its number -/
abbrev Ac := Int × Sl × Int
def AcC : Cod Ac := ⟨fun x => [.int .i64 x.1, SlV x.2.1, .int .i64 x.2.2], 3, by decide, fun _ => rfl, fun _ v hv => by simp at hv; rcases hv with rfl | rfl | rfl <;> rfl⟩
def CI : Cod Int := ⟨fun x => [.int .i64 x], 1, by decide, fun _ => rfl, fun _ v hv => by simp at hv; subst hv; rfl⟩
section
variable {H : Type} {enc : TypeId × Value → H} {W : World} {base : Nat} {spare : Nat → Bool} {held : Bool}
theorem cells_int : Try.prog.cellsOf 3 = 1 := by kernel_rfl
theorem cells_b : Try.prog.cellsOf 5 = 1 := by kernel_rfl
theorem cells_sb : Try.prog.cellsOf 30 = 1 := by kernel_rfl
theorem cells_A : Try.prog.cellsOf 32 = 3 := by kernel_rfl
theorem u8_of {n : Int} (h : (Lit.int .u8 n).wf = true) : ∃ x : UInt8, n = x.toNat := by
  simp [Lit.wf, IntKind.min, IntKind.max, IntKind.signed, IntKind.bits] at h
  refine ⟨UInt8.ofNat n.toNat, ?_⟩
  rw [UInt8.toNat_ofNat']
  omega
theorem i64_le {n : Int} (h : (Lit.int .i64 n).wf = true) : n ≤ 9223372036854775807 := by
  simp only [Lit.wf, IntKind.min, IntKind.max, IntKind.signed, IntKind.bits, Bool.and_eq_true, decide_eq_true_eq, if_true] at h
  omega
theorem open_good {fuel : Nat} {cs : List Value} {x : DataW H × List MemPlace} (h : DataW.trod enc Try.prog W base spare held fuel 30 cs = some x) (hl : cs.length = 1) : ∃ s : Sl, cs = [SlV s] ∧ Good W s := by
  match cs, hl with
  | [v], _ =>
    obtain ⟨a, n, c, l, rfl, h1, h2, h3, _, h4, h5⟩ := open_part (C := CB) (fun _ => True) Try.underlying30 cells_b 0 (fun fuel cs x h => by
      obtain ⟨n, e, _, w⟩ := DataW.trod_int Try.underlying5 h
      obtain ⟨y, rfl⟩ := u8_of w
      exact ⟨y, e, trivial⟩) h
    refine ⟨(a, n, c), rfl, l, h1, h2, h3, fun hb => ?_, h5⟩
    have := h4 n (Nat.le_refl _) hb
    rwa [List.take_of_length_le (Nat.le_of_eq h1)] at this
theorem trod_len {fuel : Nat} {cs : List Value} {x : DataW H × List MemPlace} {ty e : TypeId} (hu : Try.prog.underlying ty = some (.slice e)) (h : DataW.trod enc Try.prog W base spare held fuel ty cs = some x) : cs.length = 1 := by
  rcases open_slice hu h with ⟨hcs, _⟩ | ⟨a, len, cap, m, n, D, Pl, hcs, _⟩
  · rw [hcs]; rfl
  · rw [hcs]; rfl
set_option maxRecDepth 100000 in
theorem open_act {fuel : Nat} {cs : List Value} {x : DataW H × List MemPlace} (h : DataW.trod enc Try.prog W base spare held fuel 32 cs = some x) : ∃ y : Ac, cs = AcC.enc y ∧ Good W y.2.1 := by
  obtain ⟨xs, n, _, _, hlen, hxl, hf⟩ := DataW.trod_struct Try.underlying32 h
  have h0 : DataW.trod enc Try.prog W base spare held n 3 ((cs.drop 0).take (Try.prog.cellsOf 3)) = xs[0]? := hf 0 _ rfl
  have h1 : DataW.trod enc Try.prog W base spare held n 30 ((cs.drop 1).take (Try.prog.cellsOf 30)) = xs[1]? := hf 1 _ rfl
  have h2 : DataW.trod enc Try.prog W base spare held n 3 ((cs.drop 2).take (Try.prog.cellsOf 3)) = xs[2]? := hf 2 _ rfl
  rw [cells_A] at hlen
  rw [cells_int] at h0 h2
  rw [cells_sb] at h1
  have hx : xs.length = 3 := hxl
  rw [List.getElem?_eq_getElem (by omega)] at h0 h1 h2
  obtain ⟨n0, e0, _, _⟩ := DataW.trod_int Try.underlying3 h0
  obtain ⟨s, e1, hg⟩ := open_good h1 (trod_len Try.underlying30 h1)
  obtain ⟨n2, e2, _, _⟩ := DataW.trod_int Try.underlying3 h2
  match cs, hlen with
  | [c0, c1, c2], _ =>
    simp at e0 e1 e2
    exact ⟨(n0, s, n2), by rw [e0, e1, e2]; rfl, hg⟩
theorem open_acts {fuel : Nat} {v : Value} {x : DataW H × List MemPlace} (h : DataW.trod enc Try.prog W base spare held fuel 22 v.cells.toList = some x) (hv : ∃ a n c, v = .slice a n c) : ∃ (a : Option Addr) (n c : Nat) (l : List Ac), v = .slice a n c ∧ l.length = n ∧ n ≤ maxLen ∧ (∀ x ∈ l, Good W x.2.1) ∧ ∀ m, m ≤ n → m ≤ 1000000 → AcC.At W a m (l.take m) := by
  obtain ⟨a, n, c, rfl⟩ := hv
  rw [show (Value.slice a n c).cells.toList = [Value.slice a n c] from rfl] at h
  obtain ⟨a', n', c', l, e, h1, h2, h3, h4, h5, _⟩ := open_part (C := AcC) (fun x => Good W x.2.1) Try.underlying22 cells_A (0, (none, 0, 0), 0) (fun _ _ _ h => open_act h) h
  exact ⟨a', n', c', l, e, h1, Nat.le_trans h2 h3, h4, h5⟩
theorem open_texts {fuel : Nat} {v : Value} {x : DataW H × List MemPlace} (h : DataW.trod enc Try.prog W base spare held fuel 40 v.cells.toList = some x) (hv : ∃ a n c, v = .slice a n c) : ∃ (a : Option Addr) (n c : Nat) (l : List Sl), v = .slice a n c ∧ l.length = n ∧ n ≤ maxLen ∧ (∀ x ∈ l, Good W x) ∧ ∀ m, m ≤ n → m ≤ 1000000 → CS.At W a m (l.take m) := by
  obtain ⟨a, n, c, rfl⟩ := hv
  rw [show (Value.slice a n c).cells.toList = [Value.slice a n c] from rfl] at h
  obtain ⟨a', n', c', l, e, h1, h2, h3, h4, h5, _⟩ := open_part (C := CS) (fun x => Good W x) Try.underlying40 cells_sb (none, 0, 0) (fun _ _ _ h => open_good h (trod_len Try.underlying30 h)) h
  exact ⟨a', n', c', l, e, h1, Nat.le_trans h2 h3, h4, h5⟩
theorem open_ints {fuel : Nat} {v : Value} {x : DataW H × List MemPlace} (h : DataW.trod enc Try.prog W base spare held fuel 41 v.cells.toList = some x) (hv : ∃ a n c, v = .slice a n c) : ∃ (a : Option Addr) (n c : Nat) (l : List Int), v = .slice a n c ∧ l.length = n ∧ n ≤ maxLen ∧ (∀ x : Int, x ∈ l → x ≤ 9223372036854775807) ∧ ∀ m, m ≤ n → m ≤ 1000000 → CI.At W a m (l.take m) := by
  obtain ⟨a, n, c, rfl⟩ := hv
  rw [show (Value.slice a n c).cells.toList = [Value.slice a n c] from rfl] at h
  obtain ⟨a', n', c', l, e, h1, h2, h3, h4, h5, _⟩ := open_part (C := CI) (fun x => x ≤ 9223372036854775807) Try.underlying41 cells_int 0 (fun _ _ _ h => by
    obtain ⟨n0, e0, _, w⟩ := DataW.trod_int Try.underlying3 h
    refine ⟨n0, e0, ?_⟩
    simp only [Lit.wf, IntKind.min, IntKind.max, IntKind.signed, IntKind.bits, Bool.and_eq_true, decide_eq_true_eq, if_true] at w
    omega) h
  exact ⟨a', n', c', l, e, h1, Nat.le_trans h2 h3, h4, h5⟩
end
end Go.Proofs.Ytfchfhkhflghbaa
