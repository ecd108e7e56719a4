/-
  The walks of numbersOf, appendLine.
-/
import Derived.Test.YtclbbpkphfllbaaDoorC9
import Derived.Test.YtclbbpkphfllbaaDoorMoBase
import Derived.Deep.LoopGhost
namespace Go.Proofs.YtclbbpkphfllbaaDoor
open Go.RowKit Go.Sort CodM

/-- bytes behind bytes; blocks of other types are as they were -/
def LineK (B : Nat) (l : List UInt8) (w : World) (e : Ending) (w' : World) : Prop := ∃ v', e = .returned v' ∧ Buf B w' v' l ∧ Below B w w' ∧ Lib.OthersKept 5 none w w'
theorem keep_grown {B : Nat} {w0 w w' : World} {v : Value} {l : List UInt8} (h : Buf B w v l) (hk : Lib.OthersKept 5 none w0 w) (hg : w.grownBy w' v.ownBlock) : Lib.OthersKept 5 none w0 w' := fun k o hi hb ho => by
  have h1 := hk k o hi hb ho
  refine (hg.block k (heap_lt h1) fun e => ?_).trans h1
  rcases h.2 with ⟨rfl, _⟩ | ⟨g', cap, cur, rfl, _, hg', _⟩
  · cases e
  · cases e
    rw [h1] at hg'
    cases hg'
    exact ho _ _ rfl
def nums (ns : List Int) : List UInt8 := ns.flatMap fun k => 32 :: Lib.itoa k
theorem nums_snoc (ns : List Int) (i : Nat) (x : Int) (h : ns[i]? = some x) : nums (ns.take (i + 1)) = nums (ns.take i) ++ (32 :: Lib.itoa x) := by
  rw [List.take_add_one, h]
  simp [nums]
theorem nums_len (ns : List Int) (h : ∀ x ∈ ns, I64 x) : (nums ns).length ≤ 22 * ns.length := by
  induction ns with
  | nil => simp [nums]
  | cons a t ih =>
    have h1 := ih fun x hx => h x (List.mem_cons_of_mem _ hx)
    obtain ⟨m0, m1⟩ := h a (List.mem_cons_self ..)
    have h2 := Lib.itoa_length_le a m0 m1
    show ((32 :: Lib.itoa a) ++ nums t).length ≤ _
    rw [List.length_append, List.length_cons, List.length_cons]
    omega
set_option maxHeartbeats 4000000 in
set_option maxRecDepth 100000 in
theorem mLine_any (B : Nat) (v : Value) (l wd : List UInt8) (w : World) (hT : pow10 B w) (hB : B ≤ w.heap.size) (hb : Buf B w v l) (hl : l.length ≤ 10000) (hwd : wd.length ≤ 100)
    (NB c : Nat) (m : Nat) (cs : Array Value) (T : TypeId) (fr : Nat × Nat) (hT2 : T ≠ 5) (hN : w.heap[NB]? = some (.cells cs T fr)) (ns : List Int) (hm : m = ns.length) (hm2 : m ≤ 10) (hns : ∀ x ∈ ns, I64 x) (hcs : ∀ (i : Nat) (x : Int), ns[i]? = some x → cs[i]? = some (Value.int .i64 x)) :
    Calls Tryd.prog 37 #[v, .string (strU wd), .slice (some ⟨NB, 0, none⟩) m c] w (LineK B (l ++ wd ++ nums ns ++ [10]) w) := by
  obtain ⟨i0, hi, hz0, hz1, hz2⟩ := info_parts infoB
  obtain ⟨s, hs⟩ : ∃ s, s = strU wd := ⟨_, rfl⟩
  have hss : s.size = wd.length := by rw [hs, strU_size]
  have hsl : s.size ≤ 100 := by omega
  rw [← hs]
  have HS := Lib.hid hs
  have HT := Lib.hid hT
  have HB := Lib.hid hb
  have HN := Lib.hid (And.intro hN (And.intro hT2 (And.intro hm (And.intro hns hcs))))
  have HSS := Lib.hid hss
  have hnl := nums_len ns hns
  rw [← hm] at hnl
  have HNL := Lib.hid hnl
  clear hs hT hb hN hT2 hm hns hcs hss hnl
  go_enter Tryd.func37, Tryd.ntmps37
  go_wp2_with (first
    | (at_builtin; refine Lib.wpList_append_own_string _ rfl _ _ 22 9 rfl B 5 i0 Tryd.underlying22 Tryd.underlying9 hi hz0 hz1 hz2 _ _ _ rfl HB.out _ rfl (by unfold maxLen; omega) (by omega) hB ?_; intro v1 w1 hown1 hgrow1 _; refine Hid.out ?_))
  have HB1 : Hid (Buf B w1 v1 (l ++ wd ++ nums (ns.take 0))) := by
    refine Buf.of hown1 ?_ ?_
    · rw [HSS.out]; simp [nums]
    · rw [HS.out]
      simp only [nums, List.take_zero, List.flatMap_nil, List.append_nil]
      rw [← byteCells_append]
      rfl
  have HN1 : Hid (Below B w w1 ∧ Lib.OthersKept 5 none w w1) := ⟨HB.out.grown (Below.refl _ _) hB hgrow1, keep_grown HB.out (Lib.OthersKept.refl _ _ _) hgrow1⟩
  clear hown1 hgrow1
  refine Lib.hid ?_
  go_wp2
  go_loopg [0, 14] m (fun kx s0 s14 wr => ∃ i : Nat, s14 = .int .i64 i ∧ i ≤ m ∧ m - i ≤ kx ∧ Aside (Buf B wr s0 (l ++ wd ++ nums (ns.take i)) ∧ Below B w wr ∧ Lib.OthersKept 5 none w wr))
  case atStart => exact ⟨0, by go_num, Nat.zero_le _, Nat.le_refl _, HB1.out, HN1.out⟩
  case round =>
    obtain ⟨i, rfl, hin, hkx, A⟩ := hrel
    have HBF := Lib.hid A.out.1
    have HBL := Lib.hid A.out.2
    have hszr := A.out.2.1.size
    have hlen : (l ++ wd ++ nums (ns.take i)).length ≤ 10400 := by
      have h1 := nums_len (ns.take i) fun x hx => HN.out.2.2.2.1 x (List.mem_of_mem_take hx)
      have h2 : (ns.take i).length ≤ 10 := by rw [List.length_take]; have := HN.out.2.2.1; omega
      rw [List.length_append, List.length_append]
      omega
    have HLEN := Lib.hid hlen
    clear A hlen
    by_cases hlt : i < m
    · have hlz : decide (i < m) = true := by simpa using hlt
      obtain ⟨x, hx⟩ : ∃ x, ns[i]? = some x := ⟨_, List.getElem?_eq_getElem (by have := HN.out.2.2.1; omega)⟩
      have hcell : ∀ W : World, Lib.OthersKept 5 none w W → W.cell? ⟨NB, i, none⟩ = some (.int .i64 x) := fun W hW => by
        have := hW NB _ HN.out.1 (fun e => by cases e) (fun c fz e => by cases e; exact HN.out.2.1 rfl)
        rw [cell_of_row _ _ _ _ _ _ this]
        exact HN.out.2.2.2.2 i x hx
      have d0 := hcell wr HBL.out.2
      obtain ⟨x0, x1⟩ := HN.out.2.2.2.1 x (List.mem_of_getElem? hx)
      have HX := Lib.hid hx
      have hxl := Lib.itoa_length_le x x0 x1
      have HXL := Lib.hid hxl
      clear hcell hx hxl
      go_wp2_with (at_builtin; refine wpList_append_own _ rfl _ _ 22 rfl B 5 i0 (.int .u8 0) 1 1 Tryd.underlying22 hi hz0 hz1 hz2 rfl (by decide) _ _ _ rfl (HBF.out.alloc _) ⟨wr.heap.size, 0, none⟩ 1 1 [Value.int .u8 32] rfl rfl (one_cell _ _ _ _) (one_one _) (by have := HLEN.out; unfold maxLen; omega) (by have := HLEN.out; omega) (by simp; omega) ?_; intro v2 w2 hown2 hgrow2 _; refine Hid.out ?_)
      have HB2 : Hid (Buf B w2 v2 (l ++ wd ++ nums (ns.take i) ++ [32])) := by
        refine Buf.of hown2 ?_ ?_
        · simp only [List.length_append, List.length_cons, List.length_nil]
        · rw [show [Value.int .u8 32] = Lib.byteCells [32] from rfl, byteCells_append]
      have HN2 : Hid (Below B w w2 ∧ Lib.OthersKept 5 none w w2) := ⟨HBL.out.1.trans (HBF.out.grown ((Below.refl _ _).alloc (by omega) _) (by simp; omega) hgrow2), keep_grown (HBF.out.alloc _) (HBL.out.2.alloc _) hgrow2⟩
      have hs2 : wr.heap.size ≤ w2.heap.size := by have := hgrow2.size; simp at this; omega
      clear hown2 hgrow2 d0
      refine Lib.hid ?_
      go_wp2_with (go_at_call 56; refine (Tryd.strconv_AppendInt_10 B _ x x0 x1 v2 _ w2 HB2.out (by omega) (by have := HLEN.out; rw [List.length_append, List.length_singleton]; omega) (HT.out.on HN2.out.1)).mono ?_; rintro e w3 ⟨v3, rfl, hown3, hbel3, hok3⟩; refine Hid.out ?_)
      have HB3 : Hid (Buf B w3 v3 (l ++ wd ++ nums (ns.take (i + 1)))) := by
        rw [nums_snoc ns i x HX.out]
        refine Buf.of hown3 ?_ ?_
        · simp only [List.length_append, List.length_cons, List.length_nil]; omega
        · rw [byteCells_append]; simp
      have HN3 : Hid (Below B w w3 ∧ Lib.OthersKept 5 none w w3) := ⟨HN2.out.1.trans hbel3, HN2.out.2.trans hok3⟩
      clear hown3 hbel3 hok3
      refine Lib.hid ?_
      go_wp2
      go_roundg (m - (i + 1))
      case measure => omega
      case rel => exact ⟨i + 1, by go_num, by omega, Nat.le_refl _, HB3.out, HN3.out⟩
    · have hlz : decide (i < m) = false := by simpa using hlt
      have hall : ns.take i = ns := List.take_of_length_le (by have := HN.out.2.2.1; omega)
      have HALL := Lib.hid hall
      clear hall
      go_wp2_with (at_builtin; refine wpList_append_own _ rfl _ _ 22 rfl B 5 i0 (.int .u8 0) 1 1 Tryd.underlying22 hi hz0 hz1 hz2 rfl (by decide) _ _ _ rfl (HBF.out.alloc _) ⟨wr.heap.size, 0, none⟩ 1 1 [Value.int .u8 10] rfl rfl (one_cell _ _ _ _) (one_one _) (by have := HLEN.out; unfold maxLen; omega) (by have := HLEN.out; omega) (by simp; omega) ?_; intro v4 w4 hown4 hgrow4 _; refine Hid.out ?_)
      have HB4 : Hid (Buf B w4 v4 (l ++ wd ++ nums ns ++ [10])) := by
        rw [HALL.out] at hown4
        refine Buf.of hown4 ?_ ?_
        · simp only [List.length_append, List.length_cons, List.length_nil]
        · rw [show [Value.int .u8 10] = Lib.byteCells [10] from rfl, byteCells_append]
      have HN4 : Hid (Below B w w4 ∧ Lib.OthersKept 5 none w w4) := ⟨HBL.out.1.trans (HBF.out.grown ((Below.refl _ _).alloc (by omega) _) (by simp; omega) hgrow4), keep_grown (HBF.out.alloc _) (HBL.out.2.alloc _) hgrow4⟩
      clear hown4 hgrow4
      refine Lib.hid ?_
      go_wp2
      go_ret
      exact ⟨_, rfl, HB4.out, HN4.out⟩
end Go.Proofs.YtclbbpkphfllbaaDoor
