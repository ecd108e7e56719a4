/-
  Programs as bytes: the mathematics; the walk of appendInstruction.
-/
import Derived.Test.YtlgbkbmjfmomkaaDoorC6
import Derived.Laws.BitsAllLaws
namespace Go.Proofs.YtlgbkbmjfmomkaaDoor
open Go.RowKit CodM

def byteI (z : Int) : UInt8 := UInt8.ofNat (z % 256).toNat
theorem byteI_val (z : Int) : ((byteI z).toNat : Int) = z % 256 := by
  unfold byteI
  have : (z % 256).toNat < 256 := by omega
  rw [UInt8.toNat_ofNat', Nat.mod_eq_of_lt (by omega)]
  omega
/-- the byte number k of 8, the highest first -/
def beAt (z : Int) (k : Nat) : UInt8 := byteI (z / 2 ^ (56 - 8 * k))
def be8 (z : Int) : List UInt8 := (List.range 8).map (beAt z)
def insBytes (x : Ins) : List UInt8 := byteI x.1 :: (if numbered x.1 then be8 x.2 else [])
def kindBytes (l : List Ins) : List UInt8 := byteI l.length :: l.flatMap insBytes
def bytesP (p : Prg) : List UInt8 := byteI p.vars :: byteI p.kinds.length :: p.kinds.flatMap kindBytes

theorem be8_length (z : Int) : (be8 z).length = 8 := by simp [be8]
theorem be8_step (z : Int) (k : Nat) (h : k < 8) : (be8 z).take (k + 1) = (be8 z).take k ++ [beAt z k] := by
  rw [List.take_succ_eq_append_getElem (by rw [be8_length]; exact h)]
  simp [be8]
theorem cell_byteI (z : Int) : [Value.int .u8 (z % 256)] = Lib.byteCells [byteI z] := by
  simp [Lib.byteCells, byteI_val]

def InsRel (B : Nat) (w0 : World) (g : Nat) (o m : Int) (l : List UInt8) (v i : Value) (wr : World) : Prop :=
  ∃ k : Nat, k ≤ 8 ∧ i = .int .i64 (56 - 8 * (k : Int)) ∧ Buf B wr v (l ++ (be8 m).take k) ∧ wr.heap[g]? = some (.cells #[.int .i64 o, .int .i64 m] 49) ∧ Below B w0 wr

set_option maxHeartbeats 2000000 in
set_option maxRecDepth 100000 in
theorem appendInstruction_any (B : Nat) (v : Value) (l : List UInt8) (o m : Int) (w : World) (hB : B ≤ w.heap.size) (hb : Buf B w v l) (ho : I64 o) (hm : I64 m) (hl : l.length ≤ 1000000) :
    Calls Tryd.prog 31 #[v, .agg #[.int .i64 o, .int .i64 m]] w (LineTo B (l ++ insBytes (o, m)) w) := by
  obtain ⟨i0, hi, hz0, hz1, hz2⟩ := info_parts infoB
  obtain ⟨m0, m1⟩ := hm
  obtain ⟨o0, o1⟩ := ho
  have HB := Lib.hid hb
  clear hb
  go_enter Tryd.func31, Tryd.ntmps31
  go_wp2_with (first
    | (at_builtin; refine wpList_append_own _ rfl _ _ 25 rfl B 5 i0 (.int .u8 0) 1 1 Tryd.underlying25 hi hz0 hz1 hz2 rfl (by decide) _ _ _ rfl ((HB.out.alloc _).alloc _) ⟨w.heap.size + 1, 0, none⟩ 1 1 [Value.int .u8 (o % 256)] rfl rfl (by have := one_cell (w.alloc (.cells #[.int .i64 o, .int .i64 m] 49)) (o % 256) 5 (0, 0); simpa using this) (one_one _) (by unfold maxLen; omega) (by omega) (by simp; omega) ?_; intro v1 w1 hown1 hgrow1 _; refine Hid.out ?_))
  have HB1 : Hid (Buf B w1 v1 (l ++ [byteI o])) := by
    refine Buf.of hown1 ?_ ?_
    · simp
    · rw [cell_byteI, byteCells_append]
  have HN1 := Lib.hid (HB.out.grown (((Below.refl _ _).alloc hB _).alloc (by simp; omega) _) (by simp; omega) hgrow1)
  have hbox1 := ((HB.out.alloc _).alloc _).keep hgrow1 ((heap_alloc_old _ _ (by simp)).trans (heap_alloc_new _ _)) (by decide)
  have c0 : w1.cell? ⟨w.heap.size, 0, none⟩ = some (.int .i64 o) := by rw [cell_of_row _ _ _ _ _ _ hbox1]; rfl
  have hsz1 : w.heap.size < w1.heap.size := by have := hgrow1.size; simp at this; omega
  have HBOX1 := Lib.hid hbox1
  clear hown1 hgrow1 hbox1
  refine Lib.hid ?_
  rcases hnum : numbered o with _ | _
  · have HNUM := Lib.hid hnum
    clear hnum
    go_wp2_with (first
      | (go_at_call 26; refine (numbered_any _ _).mono ?_; rintro e w' ⟨rfl, rfl⟩; rw [HNUM.out]))
    go_ret
    refine ⟨_, rfl, ?_, HN1.out⟩
    unfold insBytes
    simp only [HNUM.out]
    exact HB1.out
  · have HNUM := Lib.hid hnum
    clear hnum
    go_wp2_with (first
      | (go_at_call 26; refine (numbered_any _ _).mono ?_; rintro e w' ⟨rfl, rfl⟩; rw [HNUM.out]))
    clear c0
    go_loopw [0, 5] (fun v i wr => InsRel B w w.heap.size o m (l ++ [byteI o]) v i wr) (fun _ i _ => (intOf i + 8).toNat)
    case atStart => exact ⟨0, by omega, rfl, by simpa using HB1.out, HBOX1.out, HN1.out⟩
    case round =>
      obtain ⟨k, hk, rfl, hbuf, hbox, hbel⟩ := hrel
      have hsr : w.heap.size < wr.heap.size := by
        rcases Nat.lt_or_ge w.heap.size wr.heap.size with h' | h'
        · exact h'
        · rw [Array.getElem?_eq_none h'] at hbox; cases hbox
      have hlen : ((l ++ [byteI o]) ++ (be8 m).take k).length ≤ 1000010 := by simp [be8_length]; omega
      have c1 : wr.cell? ⟨w.heap.size, 1, none⟩ = some (.int .i64 m) := by rw [cell_of_row _ _ _ _ _ _ hbox]; rfl
      have HBUF := Lib.hid hbuf
      have HBOX := Lib.hid hbox
      have HBEL := Lib.hid hbel
      clear hbuf hbox hbel
      by_cases hlt : k < 8
      · go_wp2_with (first
          | (at_builtin; refine wpList_append_own _ rfl _ _ 25 rfl B 5 i0 (.int .u8 0) 1 1 Tryd.underlying25 hi hz0 hz1 hz2 rfl (by decide) _ _ _ rfl (HBUF.out.alloc _) ⟨wr.heap.size, 0, none⟩ 1 1 [Value.int .u8 (m / 2 ^ (56 - 8 * k) % 256)] rfl rfl (one_cell _ _ _ _) (one_one _) (by unfold maxLen; omega) (by omega) (by simp; omega) ?_; intro v2 w2 hown2 hgrow2 _; refine Hid.out ?_))
        have HB2 : Hid (Buf B w2 v2 ((l ++ [byteI o]) ++ (be8 m).take (k + 1))) := by
          refine Buf.of hown2 ?_ ?_
          · rw [be8_step m k hlt]; simp; omega
          · rw [cell_byteI, byteCells_append, be8_step m k hlt]; simp [beAt]
        have HBX2 := Lib.hid ((HBUF.out.alloc _).keep hgrow2 ((heap_alloc_old _ _ hsr).trans HBOX.out) (by decide))
        have HN2 := Lib.hid (HBEL.out.trans (HBUF.out.grown ((Below.refl _ _).alloc (by omega) _) (by simp; omega) hgrow2))
        clear hown2 hgrow2 c1
        refine Lib.hid ?_
        go_wp2
        go_roundw
        case rel => exact ⟨k + 1, by omega, by congr 1; omega, HB2.out, HBX2.out, HN2.out⟩
        case measure => simp [intOf]; omega
      · obtain rfl : k = 8 := by omega
        go_wp2
        go_ret
        refine ⟨_, rfl, ?_, HBEL.out⟩
        have h := HBUF.out
        rw [List.take_of_length_le (by rw [be8_length]; exact Nat.le_refl _)] at h
        unfold insBytes
        simp only [HNUM.out]
        simpa using h
end Go.Proofs.YtlgbkbmjfmomkaaDoor
