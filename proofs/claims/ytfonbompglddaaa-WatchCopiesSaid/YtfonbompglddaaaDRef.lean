/-
  The document's watch in memory; Of, Get, Match, Set where it tells an error.
-/
import Derived.Test.YtfonbompglddaaaWMem
import Derived.Test.YtfonbompglddaaaGRow
import Derived.Test.YtfonbompglddaaaGRound
import Derived.Deep.LoopGhost
import Derived.Laws.OwnMore
namespace Go.Proofs.Ytfonbompglddaaa
open Go Go.RowKit Go.Lib Go.Sort Go.Proofs

abbrev oT : TypeId := 66
abbrev soT : TypeId := 27
theorem rowO : RowT Try.prog OnC soT oT 32 := ⟨Try.underlying27, OnV (0, bZ), by kernel_rfl, rfl⟩
abbrev RO (v : Value) : Obj := .cells #[v] 29
/-- the document's watch at R, its row, its list; within S -/
def Rf (w : World) (R : Nat) (S : Nat → Prop) (L : List On) : Prop :=
  ∃ v, w.heap[R]? = some (RO v) ∧ OnC.Own oT 0 w v L ∧ S R ∧ (∀ b, S b → b < w.heap.size) ∧ (∀ b, v.ownBlock = some b → S b ∧ b ≠ R) ∧ Wl L
def rfT : Thing (List On) where
  at_ := Rf
  lt := fun ⟨_, _, _, _, h, _⟩ => h
  but := fun ⟨v, hR, hO, hSR, hSl, hSB, h1⟩ hb hT =>
    ⟨v, (hb.block _ (hSl _ hSR) (hT _ hSR)).trans hR, hO.but hb fun b e => hT b (hSB b e).1, hSR, fun b hb' => Nat.lt_of_lt_of_le (hSl b hb') hb.size, hSB, h1⟩
theorem Rf.below {w w' : World} {R : Nat} {S : Nat → Prop} {x : List On} (h : Rf w R S x) (hb : Below w.heap.size w w') : Rf w' R S x := Thing.below (A := rfT) h hb
theorem Rf.wl {w : World} {R : Nat} {S : Nat → Prop} {x : List On} (h : Rf w R S x) : Wl x := by
  obtain ⟨v, hR, hO, hSR, hSl, hSB, h1⟩ := h
  exact h1
theorem Rf.open {w : World} {R : Nat} {S : Nat → Prop} {L : List On} (h : Rf w R S L) : ∃ a n c, w.heap[R]? = some (RO (.slice a n c)) ∧ n = L.length ∧ n ≤ c ∧ OnC.At w a n L ∧ ((a = none ∧ L = [] ∧ c = 0) ∨ ∃ g, a = some ⟨g, 0, none⟩ ∧ S g ∧ g ≠ R) := by
  obtain ⟨v, hR, hO, hSR, hSl, hSB, h1⟩ := h
  obtain ⟨a, c, rfl, hc, hA, hb, hn⟩ := hO.at_ (by have := h1.le; omega)
  refine ⟨a, _, c, hR, rfl, hc, hA, ?_⟩
  rcases hn with hn | ⟨g, rfl⟩
  · exact .inl hn
  · exact .inr ⟨g, rfl, hSB g rfl⟩
/-- it has another row now -/
theorem rf_end {w w5 : World} {R : Nat} {S : Nat → Prop} {L L' : List On} {v5 : Value} (h : Rf w R S L) (hb : Below w.heap.size w w5) (hl : Wl L') (ho : OnC.Own oT w.heap.size w5 v5 L') :
    rfT.at_ (w5.setCell ⟨R, 0, none⟩ v5) R (Ext S w (w5.setCell ⟨R, 0, none⟩ v5)) L' ∧ But S w (w5.setCell ⟨R, 0, none⟩ v5) := by
  obtain ⟨u, hR, hO, hSR, hSl, hSB, h1⟩ := h
  have hRl := hSl _ hSR
  have h5 : w5.heap[R]? = some (RO u) := (hb.block R hRl).trans hR
  have hs := heap_setCell_same w5 R 0 _ _ v5 h5
  have hbs : But S w (w5.setCell ⟨R, 0, none⟩ v5) := (But.of hb).setCell hSR _
  have hne : ∀ b, v5.ownBlock = some b → b ≠ R := fun b e e2 => by have := (ho.lt b e).1; omega
  have hz : (w5.setCell ⟨R, 0, none⟩ v5).heap.size = w5.heap.size := by simp [World.setCell]
  refine ⟨⟨v5, ?_, (ho.mono (Nat.zero_le _)).but ((But.refl (fun b => b = R) w5).setCell rfl _) (fun b e => hne b e), .inl hSR, fun b hb' => ?_, fun b e => ⟨.inr ⟨(ho.lt b e).1, ?_⟩, hne b e⟩, hl⟩, hbs⟩
  · rw [hs]
    rfl
  · rcases hb' with e | e
    · exact Nat.lt_of_lt_of_le (hSl b e) hbs.size
    · exact e.2
  · rw [hz]
    exact (ho.lt b e).2
theorem rf_zero (w : World) : Rf (w.alloc (RO (.slice none 0 0))) w.heap.size (fun b => b = w.heap.size) [] :=
  ⟨.slice none 0 0, heap_alloc_new _ _, World.ownsRow_nil _ _ _ _, rfl, fun b h => by subst h; simp, (fun b e => by cases e), Wl.nil⟩

/-- where one of a number stands -/
def OfIs (L : List On) (i : Nat) (r : Int) : Prop := (r = -1 ∧ lget L i = none) ∨ ∃ (k : Nat) (b : Bk), r = k ∧ L[k]? = some (i, b) ∧ lget L i = some b
theorem get_none_of {L : List On} {i : Nat} (h : ∀ x ∈ L, x.1 ≠ i) : lget L i = none := by
  unfold lget
  rw [Option.map_eq_none_iff, List.find?_eq_none]
  exact fun x hx => by simpa using h x hx
def OfTo (L : List On) (i : Nat) (w : World) (e : Ending) (w' : World) : Prop := ∃ r, e = .returned (.int .i64 r) ∧ OfIs L i r ∧ w = w'
set_option maxHeartbeats 1000000 in
theorem of_any {w : World} {R : Nat} {S : Nat → Prop} {L : List On} (h : Rf w R S L) (i : Nat) : Calls Try.prog 32 #[.pointer (some ⟨R, 0, none⟩), .int .u32 (i : Nat)] w (OfTo L i w) := by
  obtain ⟨a, n, c, hR, hn0, hnc, hA, hsome⟩ := h.open
  have r0 : w.cell? ⟨R, 0, none⟩ = some (.slice a n c) := by rw [cell_of_row _ _ _ _ _ _ hR]; rfl
  have HA := Lib.hid hA
  have HN1 : Hid (L.length = n) := hn0.symm
  have HW := Lib.hid h.wl
  have hn2 : n ≤ 1000000 := hA.2.1
  clear h hR hn0 hnc hsome hA
  go_enter Try.func32, Try.ntmps32
  go_wp2
  go_loopg [5] n (fun kx s5 wr => ∃ k : Nat, s5 = .int .i64 k ∧ k ≤ n ∧ n - k ≤ kx ∧ w = wr ∧ Aside (∀ (j : Nat) (y : On), j < k → L[j]? = some y → y.1 ≠ i))
  case atStart => exact ⟨0, by go_num, Nat.zero_le _, Nat.le_refl _, rfl, fun j y hj => absurd hj (Nat.not_lt_zero _)⟩
  case round =>
    obtain ⟨k, rfl, hkn, hkx, rfl, A⟩ := hrel
    by_cases hlt : k < n
    · have hlz : decide ((k : Int) < (n : Int)) = true := by simpa using hlt
      have hiz : (k : Int) < (n : Int) := by omega
      obtain ⟨B, off, rfl, hB, ⟨j, b1, b2, b3⟩, hx, hc⟩ := HA.out.cell hlt
      have y0 := (four hc).1
      simp only [show OnC.k = 4 from rfl] at y0
      have HX := Lib.hid hx
      clear hc hx
      by_cases h1 : j = i
      · subst h1
        go_wp2
        go_ret
        exact ⟨k, rfl, .inr ⟨k, _, rfl, HX.out, lget_of HW.out (List.mem_of_getElem? HX.out)⟩, rfl⟩
      · have hd : ((j : Int) == (i : Int)) = false := by simp; omega
        have HNE := Lib.hid h1
        clear h1
        go_wp2
        go_roundg (n - (k + 1))
        case measure => omega
        case rel =>
          refine ⟨k + 1, by go_num, by omega, Nat.le_refl _, rfl, fun j y hj hy e => ?_⟩
          by_cases e2 : j = k
          · subst e2
            rw [HX.out] at hy
            cases hy
            exact HNE.out e
          · exact A.out j y (by omega) hy e
    · have hlz : decide ((k : Int) < (n : Int)) = false := by simp; omega
      obtain rfl : k = n := by omega
      go_wp2
      go_ret
      refine ⟨-1, rfl, .inl ⟨rfl, get_none_of fun x hx => ?_⟩, rfl⟩
      obtain ⟨j, hj⟩ := List.mem_iff_getElem?.1 hx
      exact A.out j x (by have := (List.getElem?_eq_some_iff.1 hj).1; have := HN1.out; omega) hj
theorem OfIs.none {L : List On} {i : Nat} {r : Int} (h : OfIs L i r) (hn : lget L i = none) : r = -1 := by
  rcases h with h | ⟨k, b, _, _, h⟩
  · exact h.1
  · rw [hn] at h; cases h
theorem OfIs.some {L : List On} {i : Nat} {r : Int} {b : Bk} (h : OfIs L i r) (hn : lget L i = some b) : ∃ k : Nat, r = k ∧ L[k]? = some (i, b) := by
  rcases h with h | ⟨k, c, e, h1, h2⟩
  · rw [hn] at h; cases h.2
  · rw [hn] at h2
    cases h2
    exact ⟨k, e, h1⟩
abbrev BkZO : Obj := .cells #[.int .i64 0, .int .i64 0, .int .i64 0] 33
set_option maxHeartbeats 1000000 in
theorem rget_any {w : World} {R : Nat} {S : Nat → Prop} {L : List On} (h : Rf w R S L) (i : Nat) : Calls Try.prog 27 #[.pointer (some ⟨R, 0, none⟩), .int .u32 (i : Nat)] w (Tells (.tuple #[BkV ((lget L i).getD bZ), .bool (lget L i).isSome]) w) := by
  have hw : Rf (w.alloc BkZO) R S L := h.below ((Below.refl _ _).alloc (Nat.le_refl _) _)
  have HH := Lib.hid hw
  cases hg : lget L i with
  | none =>
    have HG := Lib.hid hg
    clear h hw hg
    go_enter Try.func27, Try.ntmps27
    go_wp2_with (go_at_call 32; refine (of_any HH.out i).mono ?_; rintro e w1 ⟨r, rfl, hr, rfl⟩; obtain rfl := hr.none HG.out; clear hr)
    exact bodyPost_ret (v := .tuple #[BkV bZ, .bool false]) (by simp [results, Try.results27, go_sem]) rfl ⟨rfl, (Below.refl _ _).alloc (Nat.le_refl _) _⟩
  | some b =>
    obtain ⟨a, n, c, hR, hn0, hnc, hA, hsome⟩ := hw.open
    have r0 : (w.alloc BkZO).cell? ⟨R, 0, none⟩ = some (.slice a n c) := by rw [cell_of_row _ _ _ _ _ _ hR]; rfl
    have HA := Lib.hid hA
    have HG := Lib.hid hg
    have HN0 := Lib.hid hn0
    have hn2 : n ≤ 1000000 := hA.2.1
    clear h hw hg hR hn0 hnc hA hsome
    go_enter Try.func27, Try.ntmps27
    go_wp2_with (go_at_call 32; refine (of_any HH.out i).mono ?_; rintro e w1 ⟨r, rfl, hr, rfl⟩; obtain ⟨k, rfl, hk⟩ := hr.some HG.out; (have hkn : k < n := (by rw [HN0.out]; exact (List.getElem?_eq_some_iff.1 hk).1)); obtain ⟨B, off, rfl, hB, y, hy, hc⟩ := HA.out.cell hkn; obtain rfl : y = (i, b) := (by rw [hk] at hy; exact (Option.some.inj hy).symm); obtain ⟨x0, x1, x2, x3⟩ := four hc; simp only [show OnC.k = 4 from rfl] at x0 x1 x2 x3; (have hkz : (k : Int) < (n : Int) := by omega); (have hk0 : ¬ (k : Int) < 0 := by omega); clear hr hk hc hy)
    exact bodyPost_ret (v := .tuple #[BkV b, .bool true]) (by simp [results, Try.results27, go_sem]) rfl ⟨rfl, (Below.refl _ _).alloc (Nat.le_refl _) _⟩
end Go.Proofs.Ytfonbompglddaaa
