/-
  The walks of the document's Of, Put, Drop.
-/
import Derived.Test.YtgfoagpmkbdciaaHEq
import Derived.Laws.OwnMore
namespace Go.Proofs.Ytgfoagpmkbdciaa
open Go Go.Shelf Go.RowKit Go.Lib Go.Sort Go.Proofs HpM

theorem ItOwn.at' {B : Nat} {w : World} {v : Value} {l : List It} (h : ItOwn B w v l) (hl : l.length ≤ 1000000) : ∃ a c, v = .slice a l.length c ∧ l.length ≤ c ∧ ItAt w a l.length l ∧ (∀ b, v.ownBlock = some b → a = some ⟨b, 0, none⟩ ∧ B ≤ b) ∧ ((a = none ∧ l = [] ∧ c = 0) ∨ ∃ g, a = some ⟨g, 0, none⟩) := by
  have h' := h
  obtain ⟨h1, ⟨rfl, hn⟩ | ⟨g, cap, cur, rfl, hg, hh, hc, _, hs, ht⟩⟩ := h
  · exact ⟨none, 0, by rw [hn], by omega, ⟨rfl, hl, .inl hn⟩, (fun b e => by cases e), .inl ⟨rfl, List.length_eq_zero_iff.1 hn, rfl⟩⟩
  · obtain ⟨hr, -, -⟩ := rowC_of_own h'
    refine ⟨_, cap, rfl, hc, ⟨rfl, hl, .inr ⟨g, 0, rfl, (Array.getElem?_eq_some_iff.1 hh).1, fun i hi => ?_⟩⟩, (fun b e => by cases e; exact ⟨rfl, hg⟩), .inr ⟨g, rfl⟩⟩
    have := hr.cell (i := i) (by simpa using hi)
    rw [getElem!_pos _ i (by simpa using hi)] at this
    rw [Nat.zero_add]
    simpa using this
theorem ItOwn.but' {S : Nat → Prop} {B : Nat} {w w' : World} {v : Value} {l : List It} (h : ItOwn B w v l) (hb : But S w w') (hs : ∀ b, v.ownBlock = some b → ¬ S b) : ItOwn B w' v l := by
  refine ⟨h.1, ?_⟩
  rcases h.2 with h2 | ⟨g, cap, cur, e, hg, hh, rest⟩
  · exact .inl h2
  · exact .inr ⟨g, cap, cur, e, hg, (hb.block g (Array.getElem?_eq_some_iff.1 hh).1 (hs g (by rw [e]; rfl))).trans hh, rest⟩
/-- the document's heap at R, its row, its list; within S -/
def RfS (w : World) (R : Nat) (S : Nat → Prop) (L : List It) : Prop :=
  ∃ v, w.heap[R]? = some (.cells #[v] 29 (0, 0)) ∧ ItOwn 0 w v L ∧ S R ∧ (∀ b, S b → b < w.heap.size) ∧ (∀ b, v.ownBlock = some b → S b ∧ b ≠ R)
theorem RfS.but {w w' : World} {R : Nat} {S T : Nat → Prop} {L : List It} (h : RfS w R S L) (hb : But T w w') (hT : ∀ b, S b → ¬ T b) : RfS w' R S L := by
  obtain ⟨v, hR, hO, hSR, hSl, hSB⟩ := h
  exact ⟨v, (hb.block _ (hSl _ hSR) (hT _ hSR)).trans hR, hO.but' hb fun b e => hT b (hSB b e).1, hSR, fun b hb' => Nat.lt_of_lt_of_le (hSl b hb') hb.size, hSB⟩
theorem RfS.below {w w' : World} {R : Nat} {S : Nat → Prop} {L : List It} (h : RfS w R S L) (hb : Below w.heap.size w w') : RfS w' R S L :=
  h.but (T := fun _ => False) (But.of hb) fun _ _ e => e
theorem RfS.open {w : World} {R : Nat} {S : Nat → Prop} {L : List It} (h : RfS w R S L) (hl : L.length ≤ 1000000) : ∃ a n c, w.heap[R]? = some (.cells #[.slice a n c] 29 (0, 0)) ∧ n = L.length ∧ n ≤ c ∧ ItAt w a n L ∧ ((a = none ∧ L = [] ∧ c = 0) ∨ ∃ g, a = some ⟨g, 0, none⟩ ∧ S g ∧ g ≠ R) := by
  obtain ⟨v, hR, hO, hSR, hSl, hSB⟩ := h
  obtain ⟨a, c, rfl, hc, hA, hb, hn⟩ := hO.at' hl
  refine ⟨a, _, c, hR, rfl, hc, hA, ?_⟩
  rcases hn with hn | ⟨g, rfl⟩
  · exact .inl hn
  · exact .inr ⟨g, rfl, hSB g rfl⟩
/-- where the first one of a name stands -/
def OfIs (L : List It) (n : Nm) (r : Int) : Prop :=
  (∃ (i : Nat) (x : It), L[i]? = some x ∧ nm x = n ∧ (∀ (j : Nat) (y : It), j < i → L[j]? = some y → nm y ≠ n) ∧ r = i) ∨ ((∀ (j : Nat) (y : It), L[j]? = some y → nm y ≠ n) ∧ r = -1)
def OfTo (L : List It) (n : Nm) (w : World) (e : Ending) (w' : World) : Prop := ∃ r, e = .returned (.int .i64 r) ∧ OfIs L n r ∧ w = w'

set_option maxHeartbeats 1000000 in
theorem of_any (w : World) (R : Nat) (S : Nat → Prop) (L : List It) (p q : Int) (h : RfS w R S L) (hl : L.length ≤ 1000000) : Calls Try.prog 29 #[.pointer (some ⟨R, 0, none⟩), .int .i64 p, .int .i64 q] w (OfTo L (p, q) w) := by
  obtain ⟨a, n, c, hR, hn0, hnc, hA, hsome⟩ := h.open hl
  have r0 : w.cell? ⟨R, 0, none⟩ = some (.slice a n c) := by rw [cell_of_row _ _ _ _ _ _ hR]; rfl
  have HA := Lib.hid hA
  have hn1 := hA.1
  have hn2 := hA.2.1
  have HN1 := Lib.hid hn1
  clear h hR hn0 hnc hsome hA hn1 hl
  go_enter Try.func29, Try.ntmps29
  go_wp2
  go_loopg [7] n (fun kx s7 wr => ∃ i : Nat, s7 = .int .i64 i ∧ i ≤ n ∧ n - i ≤ kx ∧ w = wr ∧ Aside (∀ (j : Nat) (y : It), j < i → L[j]? = some y → nm y ≠ (p, q)))
  case atStart => exact ⟨0, by go_num, Nat.zero_le _, Nat.le_refl _, rfl, fun j y hj => absurd hj (Nat.not_lt_zero _)⟩
  case round =>
    obtain ⟨i, rfl, hin, hkx, rfl, A⟩ := hrel
    by_cases hlt : i < n
    · have hlz : decide ((i : Int) < (n : Int)) = true := by simpa using hlt
      have hiz : (i : Int) < (n : Int) := by omega
      obtain ⟨B, off, rfl, hB, ⟨⟨⟨x0, x1, x2⟩, x3, x4, x5⟩, x6⟩, hx, hc⟩ := HA.out.cell hlt
      obtain ⟨y0, y1, y2, y3, y4, y5, y6⟩ := hc.seven
      have HX := Lib.hid hx
      clear hc hx
      by_cases h1 : x1 = p
      · subst h1
        by_cases h2 : x6 = q
        · subst h2
          go_wp2
          go_ret
          exact ⟨i, rfl, .inl ⟨i, _, HX.out, rfl, A.out, rfl⟩, rfl⟩
        · have hd : (x6 == q) = false := by simpa using h2
          have HNE := Lib.hid h2
          clear h2
          go_wp2
          go_roundg (n - (i + 1))
          case measure => omega
          case rel =>
            refine ⟨i + 1, by go_num, by omega, Nat.le_refl _, rfl, fun j y hj hy e => ?_⟩
            by_cases e2 : j = i
            · subst e2
              rw [HX.out] at hy
              cases hy
              exact HNE.out (congrArg (·.2) e)
            · exact A.out j y (by omega) hy e
      · have hd : (x1 == p) = false := by simpa using h1
        have HNE := Lib.hid h1
        clear h1
        go_wp2
        go_roundg (n - (i + 1))
        case measure => omega
        case rel =>
          refine ⟨i + 1, by go_num, by omega, Nat.le_refl _, rfl, fun j y hj hy e => ?_⟩
          by_cases e2 : j = i
          · subst e2
            rw [HX.out] at hy
            cases hy
            exact HNE.out (congrArg (·.1) e)
          · exact A.out j y (by omega) hy e
    · have hlz : decide ((i : Int) < (n : Int)) = false := by simp; omega
      obtain rfl : i = n := by omega
      go_wp2
      go_ret
      exact ⟨-1, rfl, .inr ⟨fun j y hy => A.out j y (by have := (List.getElem?_eq_some_iff.1 hy).1; have := HN1.out; omega) hy, rfl⟩, rfl⟩

def RfTo (v : Value) (R : Nat) (S : Nat → Prop) (L : List It) (w : World) (e : Ending) (w' : World) : Prop := e = .returned v ∧ RfS w' R (Ext S w w') L ∧ But S w w'
theorem OfIs.none {L : List It} {n : Nm} {r : Int} (h : OfIs L n r) (hn : ∀ y ∈ L, nm y ≠ n) : r = -1 := by
  rcases h with ⟨i, x, hx, e, _, _⟩ | ⟨_, h⟩
  · exact absurd e (hn x (List.mem_of_getElem? hx))
  · exact h
theorem OfIs.some {L : List It} {n : Nm} {r : Int} (h : OfIs L n r) (hn : ∃ y ∈ L, nm y = n) : ∃ (i : Nat) (x : It), L[i]? = some x ∧ nm x = n ∧ (∀ (j : Nat) (y : It), j < i → L[j]? = some y → nm y ≠ n) ∧ r = i := by
  rcases h with h | ⟨h, _⟩
  · exact h
  · obtain ⟨y, hy, e⟩ := hn
    obtain ⟨j, hj, ej⟩ := List.getElem_of_mem hy
    exact absurd e (h j y (by rw [List.getElem?_eq_getElem hj, ej]))
theorem rput_there (w : World) (R : Nat) (S : Nat → Prop) (L : List It) (x : It) (h : RfS w R S L) (hl : L.length ≤ 1000000) (hn : ∃ y ∈ L, nm y = nm x) : Calls Try.prog 16 #[.pointer (some ⟨R, 0, none⟩), ItV x] w (TellsIB 7 w) := by
  have HH : Hid (RfS (w.alloc (ItO x)) R S L) := h.below ((Below.refl _ _).alloc (Nat.le_refl _) _)
  have HN := Lib.hid hn
  obtain ⟨x0, x1, x2, x3, x4, x5, x6, -, -, -, -, -, -, -⟩ := box_here (heap_alloc_new w (ItO x))
  clear h hn
  go_enter Try.func16, Try.ntmps16
  go_wp2_with (go_at_call 29; refine (of_any _ R S L _ _ HH.out hl).mono ?_; rintro e w1 ⟨r, rfl, hr, rfl⟩; obtain ⟨i, y, -, -, -, rfl⟩ := hr.some HN.out)
  go_ret
  exact ⟨rfl, (Below.refl _ _).alloc (Nat.le_refl _) _⟩
theorem ItOwn.shape {B : Nat} {w : World} {v : Value} {l : List It} (h : ItOwn B w v l) : ∃ a n c, v = .slice a n c := by
  obtain ⟨h1, ⟨rfl, _⟩ | ⟨g, cap, cur, rfl, _⟩⟩ := h
  · exact ⟨_, _, _, rfl⟩
  · exact ⟨_, _, _, rfl⟩
theorem ItOwn.mono {B B' : Nat} {w : World} {v : Value} {l : List It} (h : ItOwn B w v l) (hB : B' ≤ B) : ItOwn B' w v l := by
  obtain ⟨h1, h2 | ⟨g, cap, cur, e, hg, r⟩⟩ := h
  · exact ⟨h1, .inl h2⟩
  · exact ⟨h1, .inr ⟨g, cap, cur, e, Nat.le_trans hB hg, r⟩⟩
theorem rf_end {w w5 : World} {R : Nat} {S : Nat → Prop} {L L' : List It} {v v5 : Value} (h : RfS w R S L) (hb : Below w.heap.size w w5) (ho : ItOwn w.heap.size w5 v5 L') : RfTo v R S L' w (.returned v) (w5.setCell ⟨R, 0, none⟩ v5) := by
  obtain ⟨u, hR, hO, hSR, hSl, hSB⟩ := h
  have hRl := hSl _ hSR
  have h5 : w5.heap[R]? = some (.cells #[u] 29 (0, 0)) := (hb.block R hRl).trans hR
  have hs := heap_setCell_same w5 R 0 _ _ v5 h5
  have hbs : But S w (w5.setCell ⟨R, 0, none⟩ v5) := (But.of hb).setCell hSR _
  have hne : ∀ b, v5.ownBlock = some b → b ≠ R := fun b e e2 => by have := (ho.lt b e).1; omega
  refine ⟨rfl, ⟨v5, ?_, (ho.mono (Nat.zero_le _)).but' ((But.refl (fun b => b = R) w5).setCell rfl _) (fun b e => hne b e), .inl hSR, fun b hb' => ?_, fun b e => ⟨.inr ⟨(ho.lt b e).1, ?_⟩, hne b e⟩⟩, hbs⟩
  · rw [hs]
    simp
  · rcases hb' with e | e
    · exact Nat.lt_of_lt_of_le (hSl b e) hbs.size
    · exact e.2
  · have := (ho.lt b e).2
    simpa [World.setCell] using this
theorem ins_first' (a : It) (t : List It) (x : It) (h : iLt a x = false) : ins iLt (a :: t) x = x :: a :: t := by
  unfold ins
  simp only [List.takeWhile_cons, List.dropWhile_cons, h, Bool.false_eq_true, if_false, List.nil_append]
theorem ins_split (L : List It) (x : It) (k : Nat) (h1 : ∀ (j : Nat) (y : It), j < k → L[j]? = some y → iLt y x = true) (hk : k ≤ L.length) (h2 : ∀ y, L[k]? = some y → iLt y x = false) : ins iLt L x = L.take k ++ x :: L.drop k := by
  induction L generalizing k with
  | nil => simp [ins]
  | cons a t ih =>
    cases k with
    | zero =>
      have := h2 a rfl
      rw [ins_first' a t x this]
      rfl
    | succ k =>
      have ha := h1 0 a (by omega) rfl
      have := ih k (fun j y hj hy => h1 (j + 1) y (by omega) hy) (by simpa using hk) (fun y hy => h2 y hy)
      unfold ins at this ⊢
      simp only [List.takeWhile_cons, List.dropWhile_cons, ha, if_true, List.cons_append, this, List.take_succ_cons, List.drop_succ_cons]
theorem rlt_g {x y : It} {t : Bool} (ht : t = iLt x y) (w : World) (n : Nat) (os : Array Obj) :
    Calls Try.prog 20 #[ItV x, ItV y] (grow (w.drewN n) os)
      fun e0 w'' => e0 = .returned (.bool t) ∧ ∃ p : GrownBy, w'' = grow (w.drewN p.n) p.os :=
  Calls.grown_of ((rlt_any x y _).mono fun _ _ ⟨he, os, hw⟩ => ⟨by rw [he, ht], 0, os, by rw [hw]; rfl⟩)
theorem step_append_none {ops : Array Oper} {o : Oper} {a : Act} {w : World} {K : Act → World → Prop} {Q : Exit → Act → World → Prop} {E : Prop} (hgd : o.guard = none) (s x : Operand)
    (ho : o.op = .call { callee := .builtin .append, args := #[s, x], argTypes := #[27, 27] })
    (base : Nat) (v : Value) (l : List It) (hs : a.eval s = v) (hown : ItOwn base w v l) (hx : a.eval x = .slice none 0 0) (h : K (a.put o.dst v) w) :
    if Region.wanted o (yielded ops a.tmps) = true then Oper.wp Try.prog o a w K Q else E := by
  have hw : Region.wanted o (yielded ops a.tmps) = true := by simp [Region.wanted, hgd]
  rw [if_pos hw]
  obtain ⟨i, hi, hz0, hz1, hz2⟩ := info_parts infoI
  have hrun := run_append_owned_none (P := Try.prog) (w := w) base 27 o.type 36 i 7 Try.underlying27 hi v l.length (itCells l) hown
  unfold Oper.wp execOp
  simp only [ho, resolve, invoke, builtin, Sem.run_bind, Sem.run_pure, Result.andThen_ok, List.map_toArray, List.map_cons, List.map_nil, hs, hx, hrun]
  exact h
end Go.Proofs.Ytgfoagpmkbdciaa
