/-
  Arguments that are states, rows of events, models, opened to cells.
-/
import Derived.Test.YtclbbpkphfllbaaDoorE1
import Derived.Test.YtclbbpkphfllbaaDoorGOpen
import Derived.Test.YtclbbpkphfllbaaDoorMoSame
namespace Go.Proofs.YtclbbpkphfllbaaDoor
open Go Go.ChangeShapes Go.WideShapes Go.RowKit Go.Joins Go.Deep CodM VmM

section
variable {H : Type} {enc : TypeId × Value → H} {W : World} {base : Nat} {spare : Nat → Bool} {held : Bool}
theorem ccK : Tryd.prog.cellsOf 53 = 3 := by kernel_rfl
theorem ccE : Tryd.prog.cellsOf 55 = 6 := by kernel_rfl
theorem cc64 : Tryd.prog.cellsOf 2 = 1 := by kernel_rfl
theorem ccInt : Tryd.prog.cellsOf 3 = 1 := by kernel_rfl
set_option maxRecDepth 100000 in
theorem open_key {fuel : Nat} {cs : List Value} {x : DataW H × List MemPlace} (h : DataW.trod enc Tryd.prog W base spare held fuel 53 cs = some x) : ∃ a b c : Int, cs = [.int .i64 a, .int .i64 b, .int .i64 c] := by
  obtain ⟨xs, n, _, _, hlen, hxl, hf⟩ := DataW.trod_struct Tryd.underlying53 h
  have h0 : DataW.trod enc Tryd.prog W base spare held n 2 ((cs.drop 0).take (Tryd.prog.cellsOf 2)) = xs[0]? := hf 0 _ rfl
  have h1 : DataW.trod enc Tryd.prog W base spare held n 3 ((cs.drop 1).take (Tryd.prog.cellsOf 3)) = xs[1]? := hf 1 _ rfl
  have h2 : DataW.trod enc Tryd.prog W base spare held n 2 ((cs.drop 2).take (Tryd.prog.cellsOf 2)) = xs[2]? := hf 2 _ rfl
  rw [ccK] at hlen
  rw [cc64] at h0 h2
  rw [ccInt] at h1
  have hx : xs.length = 3 := hxl
  rw [List.getElem?_eq_getElem (by omega)] at h0 h1 h2
  obtain ⟨n0, e0, _, _⟩ := DataW.trod_int Tryd.underlying2 h0
  obtain ⟨n1, e1, _, _⟩ := DataW.trod_int Tryd.underlying3 h1
  obtain ⟨n2, e2, _, _⟩ := DataW.trod_int Tryd.underlying2 h2
  match cs, hlen with
  | [c0, c1, c2], _ =>
    simp at e0 e1 e2
    exact ⟨n0, n1, n2, by rw [e0, e1, e2]⟩
set_option maxRecDepth 100000 in
theorem open_event {fuel : Nat} {cs : List Value} {x : DataW H × List MemPlace} (h : DataW.trod enc Tryd.prog W base spare held fuel 55 cs = some x) : ∃ y : Ev, cs = CEv.enc y := by
  obtain ⟨xs, n, _, _, hlen, hxl, hf⟩ := DataW.trod_struct Tryd.underlying55 h
  have h0 : DataW.trod enc Tryd.prog W base spare held n 53 ((cs.drop 0).take (Tryd.prog.cellsOf 53)) = xs[0]? := hf 0 _ rfl
  have h1 : DataW.trod enc Tryd.prog W base spare held n 3 ((cs.drop 3).take (Tryd.prog.cellsOf 3)) = xs[1]? := hf 1 _ rfl
  have h2 : DataW.trod enc Tryd.prog W base spare held n 3 ((cs.drop 4).take (Tryd.prog.cellsOf 3)) = xs[2]? := hf 2 _ rfl
  have h3 : DataW.trod enc Tryd.prog W base spare held n 2 ((cs.drop 5).take (Tryd.prog.cellsOf 2)) = xs[3]? := hf 3 _ rfl
  rw [ccE] at hlen
  rw [ccK] at h0
  rw [cc64] at h3
  rw [ccInt] at h1 h2
  have hx : xs.length = 4 := hxl
  rw [List.getElem?_eq_getElem (by omega)] at h0 h1 h2 h3
  obtain ⟨a, b, c, e0⟩ := open_key h0
  obtain ⟨n1, e1, _, _⟩ := DataW.trod_int Tryd.underlying3 h1
  obtain ⟨n2, e2, _, _⟩ := DataW.trod_int Tryd.underlying3 h2
  obtain ⟨n3, e3, _, _⟩ := DataW.trod_int Tryd.underlying2 h3
  match cs, hlen with
  | [c0, c1, c2, c3, c4, c5], _ =>
    simp at e0 e1 e2 e3
    obtain ⟨f0, f1, f2⟩ := e0
    exact ⟨⟨a, b, c, n1, n2, n3⟩, by rw [f0, f1, f2, e1, e2, e3]; rfl⟩
theorem open_num {fuel : Nat} {cs : List Value} {x : DataW H × List MemPlace} (h : DataW.trod enc Tryd.prog W base spare held fuel 2 cs = some x) : ∃ y : Int, cs = CV.enc y := by
  obtain ⟨n, e, _, _⟩ := DataW.trod_int Tryd.underlying2 h
  exact ⟨n, e⟩
theorem open_events {fuel : Nat} {v : Value} {x : DataW H × List MemPlace} (h : DataW.trod enc Tryd.prog W base spare held fuel 25 v.cells.toList = some x) (hv : ∃ a n c, v = .slice a n c) : ∃ a n c l, v = .slice a n c ∧ l.length = n ∧ n ≤ maxLen ∧ (n ≤ 1000000 → CEv.At W a n l) :=
  open_rowsV Tryd.underlying25 ccE ⟨0, 0, 0, 0, 0, 0⟩ (fun _ _ _ h => open_event h) h hv
theorem nil_cap {S T : TypeId} (hT : Tryd.prog.underlying S = some (.slice T)) {fuel : Nat} {a : Option Addr} {n c : Nat} {x : DataW H × List MemPlace} (h : DataW.trod enc Tryd.prog W base spare held fuel S [.slice a n c] = some x) : a = none → c = 0 := by
  rcases open_slice hT h with ⟨hcs, _⟩ | ⟨a', len, cap, m, n', D, Pl, hcs, _⟩
  · simp at hcs
    exact fun _ => hcs.2.2
  · simp at hcs
    intro e
    rw [e] at hcs
    cases hcs.1
set_option maxRecDepth 100000 in
theorem open_state {r : Reach} {b0 : Nat} {v : Value} {d : DataW H} {p : List MemPlace} (hv : Value.okWide Tryd.prog W r b0 38 v) (h : DataW.Trod enc Tryd.prog W base spare held 38 v d p) :
    ∃ a n c l sent drawn, v = .agg #[.slice a n c, .int .i64 sent, .int .i64 drawn] ∧ l.length = n ∧ n ≤ maxLen ∧ (n ≤ 1000000 → CV.At W a n l) ∧ (a = none → c = 0) := by
  obtain ⟨v0, v1, v2, y0, y1, y2, k, rfl, _, _, h0, h1, h2⟩ := open_agg3 Tryd.underlying38 (by kernel_rfl) (by kernel_rfl) hv h
  obtain ⟨x, e1, _, _⟩ := DataW.trod_int Tryd.underlying2 h1
  obtain ⟨y, e2, _, _⟩ := DataW.trod_int Tryd.underlying2 h2
  simp at e1 e2
  subst e1
  subst e2
  obtain ⟨a, n, c, l, rfl, g1, g2, g3⟩ := open_rows Tryd.underlying36 cc64 0 (fun _ _ _ h => open_num h) h0
  exact ⟨a, n, c, l, x, y, rfl, g1, g2, g3, nil_cap Tryd.underlying36 h0⟩
theorem ccP : Tryd.prog.cellsOf 45 = 2 := by kernel_rfl
theorem ccPr : Tryd.prog.cellsOf 47 = 4 := by kernel_rfl
theorem ccV : Tryd.prog.cellsOf 36 = 1 := by kernel_rfl
theorem ccKs : Tryd.prog.cellsOf 43 = 1 := by kernel_rfl
set_option maxRecDepth 100000 in
theorem open_progc {fuel : Nat} {cs : List Value} {x : DataW H × List MemPlace} (h : DataW.trod enc Tryd.prog W base spare held fuel 45 cs = some x) : ∃ y a n c ks, cs = [.int .i64 y, .slice a n c] ∧ SlOk a n c ∧ ProgAt W a n ⟨y, ks⟩ := by
  obtain ⟨xs, m, _, _, hlen, hxl, hf⟩ := DataW.trod_struct Tryd.underlying45 h
  have h0 : DataW.trod enc Tryd.prog W base spare held m 3 ((cs.drop 0).take (Tryd.prog.cellsOf 3)) = xs[0]? := hf 0 _ rfl
  have h1 : DataW.trod enc Tryd.prog W base spare held m 43 ((cs.drop 1).take (Tryd.prog.cellsOf 43)) = xs[1]? := hf 1 _ rfl
  rw [ccP] at hlen
  rw [ccInt] at h0
  rw [ccKs] at h1
  have hx : xs.length = 2 := hxl
  rw [List.getElem?_eq_getElem (by omega)] at h0 h1
  obtain ⟨y, e0, _, w0⟩ := DataW.trod_int Tryd.underlying3 h0
  match cs, hlen with
  | [c0, c1], _ =>
    simp at e0
    obtain ⟨a, n, c, ks, rfl, hs, hk⟩ := open_kinds (v := c1) h1
    exact ⟨y, a, n, c, ks, by rw [e0], hs, i64_of w0, hk⟩
set_option maxRecDepth 100000 in
theorem open_proc {fuel : Nat} {cs : List Value} {x : DataW H × List MemPlace} (h : DataW.trod enc Tryd.prog W base spare held fuel 47 cs = some x) : ∃ (y : Pm) (a : Option Addr) (n c : Nat) (va : Option Addr) (vc : Nat), cs = [.int .i64 y.prog.vars, .slice a n c, .slice va y.vars.length vc, .int .i64 y.seed] ∧ ProgAt W a n y.prog ∧ SlOk a n c ∧ (y.vars.length ≤ 1000 → CV.At W va y.vars.length y.vars) ∧ (va = none → vc = 0) := by
  obtain ⟨xs, m, _, _, hlen, hxl, hf⟩ := DataW.trod_struct Tryd.underlying47 h
  have h0 : DataW.trod enc Tryd.prog W base spare held m 45 ((cs.drop 0).take (Tryd.prog.cellsOf 45)) = xs[0]? := hf 0 _ rfl
  have h1 : DataW.trod enc Tryd.prog W base spare held m 36 ((cs.drop 2).take (Tryd.prog.cellsOf 36)) = xs[1]? := hf 1 _ rfl
  have h2 : DataW.trod enc Tryd.prog W base spare held m 2 ((cs.drop 3).take (Tryd.prog.cellsOf 2)) = xs[2]? := hf 2 _ rfl
  rw [ccPr] at hlen
  rw [ccP] at h0
  rw [ccV] at h1
  rw [cc64] at h2
  have hx : xs.length = 3 := hxl
  rw [List.getElem?_eq_getElem (by omega)] at h0 h1 h2
  obtain ⟨s, e2, _, _⟩ := DataW.trod_int Tryd.underlying2 h2
  obtain ⟨y, a, n, c, ks, e0, hs, hp⟩ := open_progc h0
  match cs, hlen with
  | [c0, c1, c2, c3], _ =>
    simp at e0 e2
    obtain ⟨va, vn, vc, vl, rfl, g1, g2, g3⟩ := open_rows (v := c2) Tryd.underlying36 cc64 0 (fun _ _ _ h => open_num h) h1
    subst g1
    exact ⟨⟨⟨y, ks⟩, vl, s⟩, a, n, c, va, vc, by rw [e0.1, e0.2, e2], hp, hs, fun hl => g3 (by have h : vl.length ≤ 1000 := hl; omega), nil_cap Tryd.underlying36 h1⟩
set_option maxRecDepth 100000 in
theorem open_procs {fuel : Nat} {v : Value} {x : DataW H × List MemPlace} (h : DataW.trod enc Tryd.prog W base spare held fuel 24 [v] = some x) : ∃ a n c l, v = .slice a n c ∧ n ≤ maxLen ∧ PmsAt W a n l := by
  rcases open_slice Tryd.underlying24 h with ⟨hcs, _⟩ | ⟨a, len, cap, m, n, D, Pl, hcs, _, hl, hm, hmm, _, hi⟩
  · simp at hcs
    subst hcs
    exact ⟨none, 0, 0, [], rfl, Nat.zero_le _, rfl, .inl rfl⟩
  · simp at hcs
    subst hcs
    have hlm : len ≤ m := by rw [hmm]; split <;> omega
    have hall : ∀ i, ∃ y : Pm, i < len → ∃ (a' : Option Addr) (n' c' : Nat) (va : Option Addr) (vc : Nat), W.cell? (a.add (i * 4)) = some (.int .i64 y.prog.vars) ∧ W.cell? (a.add (i * 4 + 1)) = some (.slice a' n' c') ∧ W.cell? (a.add (i * 4 + 2)) = some (.slice va y.vars.length vc) ∧ W.cell? (a.add (i * 4 + 3)) = some (.int .i64 y.seed) ∧
        ProgAt W a' n' y.prog ∧ SlOk a' n' c' ∧ (y.vars.length ≤ 1000 → CV.At W va y.vars.length y.vars) ∧ (va = none → vc = 0) := fun i => by
      by_cases hil : i < len
      · obtain ⟨cs', hc, ht⟩ := hi i (by omega)
        rw [ccPr] at hc
        obtain ⟨_, _, hat⟩ := World.cells?_some hc
        obtain ⟨y, a', n', c', va, vc, rfl, r⟩ := open_proc ht
        have e0 := hat 0 (by omega)
        have e1 := hat 1 (by omega)
        have e2 := hat 2 (by omega)
        have e3 := hat 3 (by omega)
        rw [Addr.add_add] at e0 e1 e2 e3
        exact ⟨y, fun _ => ⟨a', n', c', va, vc, e0, e1, e2, e3, r⟩⟩
      · exact ⟨⟨⟨0, []⟩, [], 0⟩, fun h => absurd h hil⟩
    obtain ⟨f, hf⟩ := Classical.axiomOfChoice hall
    refine ⟨some a, len, cap, (List.range len).map f, rfl, by omega, by simp, ?_⟩
    by_cases h0 : len = 0
    · exact .inl h0
    · obtain ⟨B, off, spot⟩ := a
      obtain ⟨_, _, _, _, _, hs, _⟩ := hf 0 (by omega)
      have hspot : spot = none := by simpa [Addr.add] using World.cell?_spot hs
      subst hspot
      have hadd : ∀ j, (⟨B, off, none⟩ : Addr).add j = ⟨B, off + j, none⟩ := fun j => by unfold Addr.add; split <;> simp_all
      refine .inr ⟨B, off, rfl, ?_, fun i hi' => ?_⟩
      · have := World.block_lt_of_cell? W _ hs
        rwa [hadd] at this
      · obtain ⟨a', n', c', va, vc, e0, e1, e2, e3, r⟩ := hf i (by simpa using hi')
        rw [hadd] at e0 e1 e2 e3
        rw [List.getElem_map, List.getElem_range]
        exact ⟨a', n', c', va, vc, e0, by rw [Nat.add_assoc]; exact e1, by rw [Nat.add_assoc]; exact e2, by rw [Nat.add_assoc]; exact e3, ⟨r.1, r.2.1, r.2.2.1, r.2.2.2⟩⟩
set_option maxRecDepth 100000 in
theorem open_model {r : Reach} {b0 : Nat} {v : Value} {d : DataW H} {p : List MemPlace} (hv : Value.okWide Tryd.prog W r b0 27 v) (h : DataW.Trod enc Tryd.prog W base spare held 27 v d p) :
    ∃ a n c fa fn fc ps es, v = .agg #[.slice a n c, .slice fa fn fc] ∧ n ≤ maxLen ∧ PmsAt W a n ps ∧ es.length = fn ∧ fn ≤ maxLen ∧ (fn ≤ 1000000 → CEv.At W fa fn es) ∧ (a = none → c = 0) ∧ (fa = none → fc = 0) := by
  obtain ⟨v0, v1, y0, y1, k, rfl, _, _, h0, h1⟩ := open_agg2 Tryd.underlying27 (by kernel_rfl) (by kernel_rfl) hv h
  obtain ⟨a, n, c, ps, rfl, hn, hp⟩ := open_procs h0
  obtain ⟨fa, fn, fc, es, rfl, g1, g2, g3⟩ := open_rows Tryd.underlying25 ccE ⟨0, 0, 0, 0, 0, 0⟩ (fun _ _ _ h => open_event h) h1
  exact ⟨a, n, c, fa, fn, fc, ps, es, rfl, hn, hp, g1, g2, g3, nil_cap Tryd.underlying24 h0, nil_cap Tryd.underlying25 h1⟩
end
end Go.Proofs.YtclbbpkphfllbaaDoor
