/-
  The walk of the law CodeCopies.
-/
import Derived.Test.YtlgbkbmjfmomkaaDoorD4
import Derived.Test.YtlgbkbmjfmomkaaDoorC9
import Derived.Deep.RegionHeld3
namespace Go.Proofs.YtlgbkbmjfmomkaaDoor
open Go.RowKit CodM

theorem sameP_comm (p q : Prg) : sameP q p = sameP p q := by
  unfold sameP
  rw [show decide (q.vars = p.vars) = decide (p.vars = q.vars) from by simp [eq_comm], show decide (q.kinds = p.kinds) = decide (p.kinds = q.kinds) from by simp [eq_comm]]
theorem sameP_self (p : Prg) : sameP p p = true := by unfold sameP; simp

theorem Boxes.four {wb : World} {g : Nat} {x y : Int} {a b : Option Addr} {n m c d : Nat} (h : Boxes wb g x y a b n m c d) :
    wb.cell? ⟨g, 0, none⟩ = some (.int .i64 x) ∧ wb.cell? ⟨g, 1, none⟩ = some (.slice a n c) ∧ wb.cell? ⟨g + 1, 0, none⟩ = some (.int .i64 y) ∧ wb.cell? ⟨g + 1, 1, none⟩ = some (.slice b m d) :=
  ⟨by rw [cell_of_row _ _ _ _ _ _ h.1]; rfl, by rw [cell_of_row _ _ _ _ _ _ h.1]; rfl, by rw [cell_of_row _ _ _ _ _ _ h.2]; rfl, by rw [cell_of_row _ _ _ _ _ _ h.2]; rfl⟩
/-- what the law holds of the world while it compares -/
abbrev St (wb : World) (g : Nat) (x y : Int) (a b : Option Addr) (n m c d : Nat) (w' : World) : Prop :=
  w'.cell? ⟨g, 0, none⟩ = some (.int .i64 x) ∧ w'.cell? ⟨g, 1, none⟩ = some (.slice a n c) ∧ w'.cell? ⟨g + 1, 0, none⟩ = some (.int .i64 y) ∧ w'.cell? ⟨g + 1, 1, none⟩ = some (.slice b m d) ∧ Hid (Below wb.heap.size wb w')
theorem st_of {wb w' : World} {g : Nat} {x y : Int} {a b : Option Addr} {n m c d : Nat} (h : Boxes wb g x y a b n m c d) (hb : Below wb.heap.size wb w') : St wb g x y a b n m c d w' := by
  obtain ⟨h1, h2, h3, h4⟩ := (h.next hb).four
  exact ⟨h1, h2, h3, h4, hb⟩
theorem st_drew {wb w' : World} {g : Nat} {x y : Int} {a b : Option Addr} {n m c d : Nat} (h : St wb g x y a b n m c d w') : St wb g x y a b n m c d w'.drew :=
  ⟨h.1, h.2.1, h.2.2.1, h.2.2.2.1, h.2.2.2.2.out.drew⟩
def TellsSt (t : Bool) (wb : World) (g : Nat) (x y : Int) (a b : Option Addr) (n m c d : Nat) (e : Ending) (w' : World) : Prop := e = .returned (.bool t) ∧ St wb g x y a b n m c d w'

section
variable {wb : World} {g : Nat} {x y : Int} {a b : Option Addr} {n m c d : Nat} {ks ls : List (List Ins)}
theorem st_same (hB : Boxes wb g x y a b n m c d) (hp : ProgAt wb a n ⟨x, ks⟩) (hq : ProgAt wb b m ⟨y, ls⟩) (W : World) (hb : Hid (Below wb.heap.size wb W)) :
    Calls Tryd.prog 22 #[.agg #[.int .i64 x, .slice a n c], .agg #[.int .i64 y, .slice b m d]] W (TellsSt (sameP ⟨x, ks⟩ ⟨y, ls⟩) wb g x y a b n m c d) :=
  (same_any W a b n m c d ⟨x, ks⟩ ⟨y, ls⟩ (hp.below hb.out (Nat.le_refl _)) (hq.below hb.out (Nat.le_refl _))).mono fun _ _ ⟨he, h⟩ => ⟨he, st_of hB (hb.out.trans (h.mono hb.out.size))⟩
theorem st_same' (hB : Boxes wb g x y a b n m c d) (hp : ProgAt wb a n ⟨x, ks⟩) (hq : ProgAt wb b m ⟨y, ls⟩) (W : World) (hb : Hid (Below wb.heap.size wb W)) :
    Calls Tryd.prog 22 #[.agg #[.int .i64 y, .slice b m d], .agg #[.int .i64 x, .slice a n c]] W (TellsSt (sameP ⟨x, ks⟩ ⟨y, ls⟩) wb g x y a b n m c d) :=
  (same_any W b a m n d c ⟨y, ls⟩ ⟨x, ks⟩ (hq.below hb.out (Nat.le_refl _)) (hp.below hb.out (Nat.le_refl _))).mono fun _ _ ⟨he, h⟩ => ⟨by rw [he, sameP_comm], st_of hB (hb.out.trans (h.mono hb.out.size))⟩
theorem st_rsame (hB : Boxes wb g x y a b n m c d) (hp : ProgAt wb a n ⟨x, ks⟩) (hq : ProgAt wb b m ⟨y, ls⟩) (W : World) (hb : Hid (Below wb.heap.size wb W)) :
    Calls Tryd.prog 19 #[.agg #[.int .i64 x, .slice a n c], .agg #[.int .i64 y, .slice b m d]] W (TellsSt (sameP ⟨x, ks⟩ ⟨y, ls⟩) wb g x y a b n m c d) :=
  (rsame_any W a b n m c d ⟨x, ks⟩ ⟨y, ls⟩ (hp.below hb.out (Nat.le_refl _)) (hq.below hb.out (Nat.le_refl _))).mono fun _ _ ⟨he, h⟩ => ⟨he, st_of hB (hb.out.trans (h.mono hb.out.size))⟩
theorem st_much (hB : Boxes wb g x y a b n m c d) (hp : ProgAt wb a n ⟨x, ks⟩) (W : World) (hb : Hid (Below wb.heap.size wb W)) :
    Calls Tryd.prog 9 #[.agg #[.int .i64 x, .slice a n c]] W (TellsSt (muchB ⟨x, ks⟩) wb g x y a b n m c d) :=
  (much_any W a n c ⟨x, ks⟩ (hp.below hb.out (Nat.le_refl _))).mono fun _ _ ⟨he, h⟩ => ⟨he, st_of hB (hb.out.trans (h.mono hb.out.size))⟩
theorem st_much' (hB : Boxes wb g x y a b n m c d) (hq : ProgAt wb b m ⟨y, ls⟩) (W : World) (hb : Hid (Below wb.heap.size wb W)) :
    Calls Tryd.prog 9 #[.agg #[.int .i64 y, .slice b m d]] W (TellsSt (muchB ⟨y, ls⟩) wb g x y a b n m c d) :=
  (much_any W b m d ⟨y, ls⟩ (hq.below hb.out (Nat.le_refl _))).mono fun _ _ ⟨he, h⟩ => ⟨he, st_of hB (hb.out.trans (h.mono hb.out.size))⟩
end

theorem much_parts {p : Prg} (h : muchB p = false) : p.kinds.length ≤ 12 ∧ ∀ l ∈ p.kinds, l.length ≤ 200 := by
  unfold muchB at h
  rw [Bool.or_eq_false_iff] at h
  refine ⟨by simpa using h.1, fun l hl => ?_⟩
  have := List.any_eq_false.1 h.2 l hl
  simpa using this

/-- a number is written into a block of instructions: they read as others -/
theorem ins_set {B : Nat} {W : World} {a : Option Addr} {n : Nat} {l : List Ins} (h : InsOwn B W a n l) (G q : Nat) (z : Int) (hz : I64 z) :
    ∃ l', InsAt (W.setCell ⟨G, q * 2 + 1, none⟩ (.int .i64 z)) a n l' ∧ (a = some ⟨G, 0, none⟩ → q < n → (l'.getD q (0, 0)).2 = z) := by
  obtain ⟨⟨h1, h2, h3, h4⟩, h5⟩ := h
  rcases h5 with rfl | ⟨G', cur, rfl, hG, hh⟩
  · exact ⟨l, ⟨h1, h2, h3, .inl rfl⟩, fun _ hq => by omega⟩
  · rcases h4 with rfl | ⟨B', off, e, hB, hc⟩
    · exact ⟨l, ⟨h1, h2, h3, .inl rfl⟩, fun _ hq => by omega⟩
    · cases e
      by_cases hGG : G' = G
      · subst hGG
        have hs := heap_setCell_same W G' (q * 2 + 1) cur _ (.int .i64 z) hh
        have hcur : ∀ i, i < n → cur[i * 2]? = some (.int .i64 (l.getD i (0, 0)).1) ∧ cur[i * 2 + 1]? = some (.int .i64 (l.getD i (0, 0)).2) := fun i hi => by
          obtain ⟨e1, e2⟩ := hc i hi
          rw [cell_of_row _ _ _ _ _ _ hh, Nat.zero_add] at e1 e2
          exact ⟨e1, e2⟩
        refine ⟨l.set q ((l.getD q (0, 0)).1, z), ⟨by simpa using h1, fun x hx => ?_, h3, .inr ⟨G', 0, rfl, heap_lt hs, fun i hi => ?_⟩⟩, fun _ hq => ?_⟩
        · rcases List.mem_or_eq_of_mem_set hx with hx | rfl
          · exact h2 x hx
          · refine ⟨?_, hz⟩
            by_cases hq : q < l.length
            · exact (h2 _ (by simp [List.getD, hq] : l.getD q (0, 0) ∈ l)).1
            · rw [show l.getD q (0, 0) = (0, 0) from by simp [List.getD, hq]]
              exact (show I64 0 from ⟨by decide, by decide⟩)
        · obtain ⟨e1, e2⟩ := hcur i hi
          rw [cell_of_row _ _ _ _ _ _ hs, cell_of_row _ _ _ _ _ _ hs, Nat.zero_add, Array.getElem?_setIfInBounds_ne (by omega), e1]
          by_cases hiq : i = q
          · subst hiq
            have hil : i < l.length := by omega
            have hsz : i * 2 + 1 < cur.size := by
              rcases Nat.lt_or_ge (i * 2 + 1) cur.size with h' | h'
              · exact h'
              · rw [Array.getElem?_eq_none h'] at e2; cases e2
            simp [List.getD, hil, hsz]
          · rw [Array.getElem?_setIfInBounds_ne (by omega), e2]
            simp [List.getD, show q ≠ i from fun h => hiq h.symm]
        · simp [List.getD, show q < l.length from by omega]
      · have hs : (W.setCell ⟨G, q * 2 + 1, none⟩ (.int .i64 z)).heap[G']? = W.heap[G']? := Below.heap_setCell _ _ _ _ hGG
        refine ⟨l, ⟨h1, h2, h3, .inr ⟨G', 0, rfl, heap_lt (hs.trans hh), fun i hi => ?_⟩⟩, fun e _ => by cases e; exact absurd rfl hGG⟩
        exact ⟨(World.cell?_of_block (a := ⟨G', 0 + i * 2, none⟩) hs).trans (hc i hi).1, (World.cell?_of_block (a := ⟨G', 0 + i * 2 + 1, none⟩) hs).trans (hc i hi).2⟩
theorem cop_set {B : Nat} {W : World} {a : Option Addr} {n : Nat} {ks : List (List Ins)} (h : Cop B W a n ks) (hm : n ≤ 9223372036854775807) (G q k : Nat) (z : Int) (hz : I64 z) (cG : Array Value) (hG : W.heap[G]? = some (.cells cG 49 (0, 0)))
    (hk : ∃ X cur n' c', a = some ⟨X, 0, none⟩ ∧ W.heap[X]? = some (.cells cur 46 (0, 0)) ∧ k < n ∧ cur[k]? = some (.slice (some ⟨G, 0, none⟩) n' c') ∧ q < n') :
    ∃ ks', KindsAt (W.setCell ⟨G, q * 2 + 1, none⟩ (.int .i64 z)) a n ks' ∧ ((ks'.getD k []).getD q (0, 0)).2 = z := by
  obtain ⟨X, cur, n', c', rfl, hX, hkn, hck, hq⟩ := hk
  obtain ⟨h1, h2⟩ := h
  rcases h2 with h2 | ⟨X', cur', e, hB, hX', hc⟩
  · omega
  · cases e
    obtain rfl : cur = cur' := by rw [hX] at hX'; cases hX'; rfl
    have hne : X ≠ G := fun e => by subst e; rw [hX] at hG; cases hG
    have hXs : (W.setCell ⟨G, q * 2 + 1, none⟩ (.int .i64 z)).heap[X]? = some (.cells cur 46 (0, 0)) := (Below.heap_setCell _ _ _ _ hne).trans hX
    have hall : ∀ i, ∃ l', i < n → ∃ a' n' c', cur[i]? = some (.slice a' n' c') ∧ SlOk a' n' c' ∧ InsAt (W.setCell ⟨G, q * 2 + 1, none⟩ (.int .i64 z)) a' n' l' ∧ (a' = some ⟨G, 0, none⟩ → q < n' → (l'.getD q (0, 0)).2 = z) := fun i => by
      by_cases hi : i < n
      · obtain ⟨a', n', c', e1, e2, e3⟩ := hc i hi
        obtain ⟨l', f1, f2⟩ := ins_set e3 G q z hz
        exact ⟨l', fun _ => ⟨a', n', c', e1, e2, f1, f2⟩⟩
      · exact ⟨[], fun h => absurd h hi⟩
    obtain ⟨f, hf⟩ := Classical.axiomOfChoice hall
    have hget : ∀ i, i < n → ((List.range n).map f).getD i [] = f i := fun i hi => by simp [List.getD, hi]
    refine ⟨(List.range n).map f, ⟨by simp, hm, .inr ⟨X, 0, rfl, heap_lt hXs, fun i hi => ?_⟩⟩, ?_⟩
    · obtain ⟨a', n', c', e1, e2, e3, _⟩ := hf i hi
      exact ⟨a', n', c', by rw [cell_of_row _ _ _ _ _ _ hXs, Nat.zero_add]; exact e1, e2, by rw [hget i hi]; exact e3⟩
    · obtain ⟨a', n'', c'', e1, e2, e3, e4⟩ := hf k hkn
      rw [hck] at e1
      cases e1
      rw [hget k hkn]
      exact e4 rfl hq

/-- what the law holds of the world at its end -/
abbrev St7 (w7 : World) (ga gc gw B1 o1 B2 o2 : Nat) (x o u : Int) (vA vC v1 : Value) (W : World) : Prop :=
  W.cell? ⟨ga, 0, none⟩ = some (.int .i64 x) ∧ W.cell? ⟨ga, 1, none⟩ = some vA ∧ W.cell? ⟨gc, 0, none⟩ = some (.int .i64 x) ∧ W.cell? ⟨gc, 1, none⟩ = some vC ∧ W.cell? ⟨B1, o1, none⟩ = some v1 ∧
  W.cell? ⟨B2, o2, none⟩ = some (.int .i64 o) ∧ W.cell? ⟨B2, o2 + 1, none⟩ = some (.int .i64 u) ∧ W.cell? ⟨gw, 0, none⟩ = some (.int .i64 o) ∧ W.cell? ⟨gw, 1, none⟩ = some (.int .i64 u) ∧ Hid (Below w7.heap.size w7 W)
theorem cell_next {w7 W : World} {p : Addr} {v : Value} (h : w7.cell? p = some v) (hb : Below w7.heap.size w7 W) : W.cell? p = some v := (hb.cell (World.block_lt_of_cell? w7 _ h)).trans h
theorem st7_next {w7 : World} {ga gc gw B1 o1 B2 o2 : Nat} {x o u : Int} {vA vC v1 : Value} {W : World} (h : St7 w7 ga gc gw B1 o1 B2 o2 x o u vA vC v1 w7) (hb : Below w7.heap.size w7 W) : St7 w7 ga gc gw B1 o1 B2 o2 x o u vA vC v1 W := by
  obtain ⟨h1, h2, h3, h4, h5, h6, h7, h8, h9, _⟩ := h
  exact ⟨cell_next h1 hb, cell_next h2 hb, cell_next h3 hb, cell_next h4 hb, cell_next h5 hb, cell_next h6 hb, cell_next h7 hb, cell_next h8 hb, cell_next h9 hb, hb⟩
theorem st7_drew {w7 : World} {ga gc gw B1 o1 B2 o2 : Nat} {x o u : Int} {vA vC v1 : Value} (h : St7 w7 ga gc gw B1 o1 B2 o2 x o u vA vC v1 w7) : St7 w7 ga gc gw B1 o1 B2 o2 x o u vA vC v1 w7.drew :=
  st7_next h (Below.refl _ _).drew
def Tells7 (t : Bool) (S : World → Prop) (e : Ending) (w' : World) : Prop := e = .returned (.bool t) ∧ S w'
theorem cell_set_ne {w : World} {p : Addr} {G o : Nat} {u v : Value} (h : w.cell? p = some u) (hne : p.block ≠ G) : (w.setCell ⟨G, o, none⟩ v).cell? p = some u := (World.cell?_of_block (Below.heap_setCell _ _ _ _ hne)).trans h
theorem wrap_ne (u : Int) (h : I64 u) : wrap64 (u + 1) ≠ u ∧ I64 (wrap64 (u + 1)) := by
  obtain ⟨h0, h1⟩ := h
  unfold wrap64 I64
  refine ⟨?_, ?_, ?_⟩ <;> omega
end Go.Proofs.YtlgbkbmjfmomkaaDoor
