/-
  Bytes that are appended to a row of the call's own; the walk of appendLine.
-/
import Derived.Test.YtclbbpkphfllbaaDoorC5
import Derived.Test.YtclbbpkphfllbaaDoorShelf
import Derived.Lib.AppendIntMem
import Derived.Lib.AppendStr
import Derived.Lib.ItoaLen
import Derived.Lib.Slices
import Derived.Lib.SlBytesConst
import Derived.Laws.IdiomStrings
import Derived.Laws.AppendOwn
import Derived.Deep.AppendSrc
import Derived.OwnWalk
import Derived.BigCall
namespace Go.Proofs.YtclbbpkphfllbaaDoor
open Go.RowKit CodM

theorem infoB : (Tryd.prog.info? 5).map (fun i => (i.zero, i.size, i.bytes)) = some (some (.int .u8 0), 1, 1) := by kernel_rfl
/-- v is a row of the call's own, from block B on, of the bytes l -/
def Buf (B : Nat) (w : World) (v : Value) (l : List UInt8) : Prop := w.ownsRow B 5 1 v l.length (Lib.byteCells l)
theorem Buf.alloc {B : Nat} {w : World} {v : Value} {l : List UInt8} (h : Buf B w v l) (o : Obj) : Buf B (w.alloc o) v l := World.ownsRow.alloc h o
theorem Buf.of {B n : Nat} {w : World} {v : Value} {l : List UInt8} {xs : List Value} (h : w.ownsRow B 5 1 v n xs) (hn : n = l.length) (hx : xs = Lib.byteCells l) : Buf B w v l := by subst hn; subst hx; exact h
theorem byteCells_append (l m : List UInt8) : Lib.byteCells l ++ Lib.byteCells m = Lib.byteCells (l ++ m) := by simp [Lib.byteCells]
abbrev pow10 (B : Nat) (w : World) : Prop := Lib.TabBelow Tryd.prog B w "internal/strconv.uint64pow10" .u64 Lib.pow10Tab
theorem blank_word (l : List UInt8) : (⟨#[32, 32]⟩ : ByteArray) ++ strU l = strU ([32, 32] ++ l) := by
  unfold strU; apply ByteArray.ext; simp

def LineTo (B : Nat) (l : List UInt8) (w : World) (e : Ending) (w' : World) : Prop := ∃ v', e = .returned v' ∧ Buf B w' v' l ∧ Below B w w'
theorem bsz (s : ByteArray) : ((⟨#[32, 32]⟩ : ByteArray) ++ s).size = 2 + s.size := by simp [ByteArray.size_append]; rfl
theorem Buf.block {B : Nat} {w : World} {v : Value} {l : List UInt8} (h : Buf B w v l) : ∀ k, v.ownBlock = some k → B ≤ k ∧ k < w.heap.size := World.ownsRow.lt h
/-- behind an append to a row: a block of another type reads as it did -/
theorem Buf.keep {B : Nat} {w w' : World} {v : Value} {l : List UInt8} (h : Buf B w v l) (hg : w.grownBy w' v.ownBlock) {g : Nat} {cs : Array Value} {t : TypeId} {fr : Nat × Nat} (hh : w.heap[g]? = some (.cells cs t fr)) (ht : t ≠ 5) : w'.heap[g]? = some (.cells cs t fr) := by
  rw [hg.block g (by rcases Nat.lt_or_ge g w.heap.size with h' | h'; exact h'; rw [Array.getElem?_eq_none h'] at hh; cases hh) ?_]
  · exact hh
  · intro e
    rcases h.2 with ⟨rfl, _⟩ | ⟨g', cap, cur, rfl, _, hg', _⟩
    · simp [Value.ownBlock] at e
    · simp [Value.ownBlock] at e
      subst e
      rw [hh] at hg'
      cases hg'
      exact ht rfl
theorem Buf.grown {B : Nat} {w w1 w' : World} {v : Value} {l : List UInt8} (h : Buf B w v l) (hb : Below B w w1) (hB : B ≤ w1.heap.size) (hg : w1.grownBy w' v.ownBlock) : Below B w w' :=
  hb.grown hg hB (fun k hk => (h.block k hk).1)
theorem one_cell (w : World) (b : Int) (t : TypeId) (fr : Nat × Nat) : ∀ j u', [Value.int .u8 b][j]? = some u' → (w.alloc (.cells #[.int .u8 b] t fr)).cell? ((⟨w.heap.size, 0, none⟩ : Addr).add j) = some u' := by
  intro j u' hj
  match j, hj with
  | 0, hj =>
    simp at hj
    subst hj
    show (w.alloc (.cells #[.int .u8 b] t fr)).cell? ⟨w.heap.size, 0, none⟩ = _
    rw [cell_of_row _ _ _ _ _ _ (heap_alloc_new _ _)]
    rfl
theorem one_one (b : Int) : ∀ u ∈ [Value.int .u8 b], u.oneCell' = true := by intro u hu; simp at hu; subst hu; rfl

set_option maxHeartbeats 2000000 in
set_option maxRecDepth 100000 in
theorem appendLine_any (B : Nat) (v : Value) (l : List UInt8) (o m : Int) (w : World) (hW : Wds w) (hT : pow10 B w) (hB : B ≤ w.heap.size) (hb : Buf B w v l) (hm : I64 m) (hl : l.length ≤ 1000000) :
    Calls Tryd.prog 58 #[v, .agg #[.int .i64 o, .int .i64 m]] w (LineTo B (l ++ line (o, m)) w) := by
  obtain ⟨i0, hi, hz0, hz1, hz2⟩ := info_parts infoB
  have hwl := word_length o
  obtain ⟨m0, m1⟩ := hm
  have hil := Lib.itoa_length_le m m0 m1
  obtain ⟨s, hs⟩ : ∃ s, s = strU (word o) := ⟨_, rfl⟩
  have hss : s.size ≤ 5 := by rw [hs, strU_size]; exact hwl
  have HS := Lib.hid hs
  have HW := Lib.hid hW
  have HT := Lib.hid hT
  have HB := Lib.hid hb
  clear hs hW hT hb
  go_enter Tryd.func58, Tryd.ntmps58
  go_wp2_with (first
    | (go_at_call 71; refine (word_any _ _ ?_).mono ?_; (exact HW.out.alloc _); rintro e w' ⟨rfl, rfl⟩; rw [← HS.out])
    | (at_builtin; refine Lib.wpList_append_own_string _ rfl _ _ 22 9 rfl B 5 i0 Tryd.underlying22 Tryd.underlying9 hi hz0 hz1 hz2 _ _ _ rfl (HB.out.alloc _) _ rfl (by rw [bsz]; unfold maxLen; omega) (by rw [bsz]; omega) (by simp; omega) ?_; intro v1 w1 hown1 hgrow1 _; refine Hid.out ?_))
  have HB1 : Hid (Buf B w1 v1 (l ++ ([32, 32] ++ word o))) := by
    refine Buf.of hown1 ?_ ?_
    · rw [bsz, HS.out, strU_size]; simp; omega
    · rw [HS.out, blank_word, ← byteCells_append]; rfl
  have HN1 := Lib.hid (HB.out.grown ((Below.refl _ _).alloc hB _) (by simp; omega) hgrow1)
  have hbox1 := (HB.out.alloc _).keep hgrow1 (heap_alloc_new _ _) (by decide)
  have c0 : w1.cell? ⟨w.heap.size, 0, none⟩ = some (.int .i64 o) := by rw [cell_of_row _ _ _ _ _ _ hbox1]; rfl
  have c1 : w1.cell? ⟨w.heap.size, 1, none⟩ = some (.int .i64 m) := by rw [cell_of_row _ _ _ _ _ _ hbox1]; rfl
  have HBOX1 := Lib.hid hbox1
  clear hbox1
  have hsz1 : w.heap.size < w1.heap.size := by have := hgrow1.size; simp at this; omega
  clear hown1 hgrow1
  refine Lib.hid ?_
  rcases hnum : numbered o with _ | _
  · have HNUM := Lib.hid hnum
    clear hnum
    go_wp2_with (first
      | (go_at_call 72; refine (numbered_any _ _).mono ?_; rintro e w' ⟨rfl, rfl⟩; rw [HNUM.out])
      | (at_builtin; refine wpList_append_own _ rfl _ _ 22 rfl B 5 i0 (.int .u8 0) 1 1 Tryd.underlying22 hi hz0 hz1 hz2 rfl (by decide) _ _ _ rfl (HB1.out.alloc _) ⟨w1.heap.size, 0, none⟩ 1 1 [Value.int .u8 10] rfl rfl (one_cell _ _ _ _) (one_one _) (by unfold maxLen; simp; omega) (by simp; omega) (by simp; omega) ?_; intro v2 w2 hown2 hgrow2 _; refine Hid.out ?_))
    have HB2 : Hid (Buf B w2 v2 (l ++ line (o, m))) := by
      refine Buf.of hown2 ?_ ?_
      · simp [line, HNUM.out]; omega
      · rw [show [Value.int .u8 10] = Lib.byteCells [10] from rfl, byteCells_append]; simp [line, HNUM.out]
    have HN2 := Lib.hid (HN1.out.trans (HB1.out.grown ((Below.refl _ _).alloc (by omega) _) (by simp; omega) hgrow2))
    clear hown2 hgrow2
    refine Lib.hid ?_
    go_wp2
    go_ret
    exact ⟨_, rfl, HB2.out, HN2.out⟩
  · have HNUM := Lib.hid hnum
    clear hnum
    go_wp2_with (first
      | (go_at_call 72; refine (numbered_any _ _).mono ?_; rintro e w' ⟨rfl, rfl⟩; rw [HNUM.out])
      | (at_builtin; refine wpList_append_own _ rfl _ _ 22 rfl B 5 i0 (.int .u8 0) 1 1 Tryd.underlying22 hi hz0 hz1 hz2 rfl (by decide) _ _ _ rfl (HB1.out.alloc _) ⟨w1.heap.size, 0, none⟩ 1 1 [Value.int .u8 32] rfl rfl (one_cell _ _ _ _) (one_one _) (by unfold maxLen; simp; omega) (by simp; omega) (by simp; omega) ?_; intro v2 w2 hown2 hgrow2 _; refine Hid.out ?_))
    have HB2 : Hid (Buf B w2 v2 (l ++ ([32, 32] ++ word o ++ [32]))) := by
      refine Buf.of hown2 ?_ ?_
      · simp; omega
      · rw [show [Value.int .u8 32] = Lib.byteCells [32] from rfl, byteCells_append]; simp
    have HN2 := Lib.hid (HN1.out.trans (HB1.out.grown ((Below.refl _ _).alloc (by omega) _) (by simp; omega) hgrow2))
    have hbox2 := (HB1.out.alloc _).keep hgrow2 ((heap_alloc_old _ _ hsz1).trans HBOX1.out) (by decide)
    have c3 : w2.cell? ⟨w.heap.size, 1, none⟩ = some (.int .i64 m) := by rw [cell_of_row _ _ _ _ _ _ hbox2]; rfl
    have hsz2 : w1.heap.size < w2.heap.size := by have := hgrow2.size; simp at this; omega
    clear hown2 hgrow2 c0 c1 hbox2
    refine Lib.hid ?_
    go_wp2_with (first
      | (go_at_call 56; refine (Tryd.strconv_AppendInt_10 B _ m m0 m1 v2 _ w2 HB2.out (by omega) (by simp; omega) (HT.out.on HN2.out)).mono ?_; rintro e w3 ⟨v3, rfl, hown3, hbel3, -⟩; refine Hid.out ?_))
    have HB3 : Hid (Buf B w3 v3 (l ++ ([32, 32] ++ word o ++ [32] ++ Lib.itoa m))) := by
      refine Buf.of hown3 ?_ ?_
      · simp; omega
      · rw [byteCells_append]; simp
    have HN3 := Lib.hid (HN2.out.trans hbel3)
    have hsz3 : w2.heap.size ≤ w3.heap.size := hbel3.size
    clear hown3 hbel3
    refine Lib.hid ?_
    go_wp2_with (first
      | (at_builtin; refine wpList_append_own _ rfl _ _ 22 rfl B 5 i0 (.int .u8 0) 1 1 Tryd.underlying22 hi hz0 hz1 hz2 rfl (by decide) _ _ _ rfl (HB3.out.alloc _) ⟨w3.heap.size, 0, none⟩ 1 1 [Value.int .u8 10] rfl rfl (one_cell _ _ _ _) (one_one _) (by unfold maxLen; simp; omega) (by simp; omega) (by simp; omega) ?_; intro v4 w4 hown4 hgrow4 _; refine Hid.out ?_))
    have HB4 : Hid (Buf B w4 v4 (l ++ line (o, m))) := by
      refine Buf.of hown4 ?_ ?_
      · simp [line, HNUM.out]; omega
      · rw [show [Value.int .u8 10] = Lib.byteCells [10] from rfl, byteCells_append]; simp [line, HNUM.out]
    have HN4 := Lib.hid (HN3.out.trans (HB3.out.grown ((Below.refl _ _).alloc (by omega) _) (by simp; omega) hgrow4))
    clear hown4 hgrow4
    refine Lib.hid ?_
    go_wp2
    go_ret
    exact ⟨_, rfl, HB4.out, HN4.out⟩
end Go.Proofs.YtclbbpkphfllbaaDoor
