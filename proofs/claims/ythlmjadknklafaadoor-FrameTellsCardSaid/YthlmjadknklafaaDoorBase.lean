/-
  Byte slices as lists of numbers: what leaves them as they were, their parts, their text.
-/
import Derived.Test.YthlmjadknklafaaDoorMore
import Derived.Laws.BytesArg
import Derived.Laws.AppendOwnNone
import Derived.Deep.AppendSrc
namespace Go.Proofs.YthlmjadknklafaaDoor
open Go.RowKit CrcM

theorem Bts.below {w w' : World} {a : Option Addr} {len : Nat} {l : List Nat} (h : Bts w a len l) (hb : Below w.heap.size w w') : Bts w' a len l := by
  obtain ⟨h1, h2, h3, h4⟩ := h
  refine ⟨h1, h2, h3, ?_⟩
  rcases h4 with h4 | ⟨B, off, rfl, hB, hc⟩
  · exact .inl h4
  · exact .inr ⟨B, off, rfl, Nat.lt_of_lt_of_le hB hb.size, fun i hi => (hb.cell (p := ⟨B, off + i, none⟩) hB).trans (hc i hi)⟩
theorem Bts.drew {w : World} {a : Option Addr} {len : Nat} {l : List Nat} (h : Bts w a len l) : Bts w.drew a len l := h
theorem Bts.take {w : World} {a : Option Addr} {len : Nat} {l : List Nat} (h : Bts w a len l) (k : Nat) (hk : k ≤ len) : Bts w a k (l.take k) := by
  obtain ⟨h1, h2, h3, h4⟩ := h
  refine ⟨by rw [List.length_take]; omega, fun b hb => h2 b (List.mem_of_mem_take hb), by omega, ?_⟩
  rcases h4 with h4 | ⟨B, off, rfl, hB, hc⟩
  · exact .inl (by omega)
  · refine .inr ⟨B, off, rfl, hB, fun i hi => ?_⟩
    rw [hc i (by omega)]
    simp [List.getD, hi]
theorem Bts.drop {w : World} {B off : Nat} {len : Nat} {l : List Nat} (h : Bts w (some ⟨B, off, none⟩) len l) (k : Nat) (hk : k ≤ len) : Bts w (some ⟨B, off + k, none⟩) (len - k) (l.drop k) := by
  obtain ⟨h1, h2, h3, h4⟩ := h
  refine ⟨by rw [List.length_drop]; omega, fun b hb => h2 b (List.mem_of_mem_drop hb), by omega, ?_⟩
  rcases h4 with h4 | ⟨B', off', he, hB, hc⟩
  · exact .inl (by omega)
  · cases he
    refine .inr ⟨B, off + k, rfl, hB, fun i hi => ?_⟩
    rw [show off + k + i = off + (k + i) from by omega, hc (k + i) (by omega)]
    simp [List.getD, List.getElem?_drop]
theorem Bts.nought (w : World) (a : Option Addr) : Bts w a 0 [] := ⟨rfl, by simp, by omega, .inl rfl⟩

theorem Bts.at_ {w : World} {B off len : Nat} {l : List Nat} (h : Bts w (some ⟨B, off, none⟩) len l) :
    ∀ j u, (l.map fun (n : Nat) => Value.int .u8 (n : Int))[j]? = some u → w.cell? ((⟨B, off, none⟩ : Addr).add j) = some u := by
  intro j u hu
  obtain ⟨h1, h2, h3, h4⟩ := h
  have hj : j < l.length := by
    rcases Nat.lt_or_ge j l.length with h | h
    · exact h
    · simp [h] at hu
  rcases h4 with h4 | ⟨B', off', he, hB, hc⟩
  · omega
  · cases he
    have hadd : (⟨B, off, none⟩ : Addr).add j = ⟨B, off + j, none⟩ := by unfold Addr.add; split <;> simp_all
    rw [hadd, hc j (by omega)]
    simp [hj] at hu
    subst hu
    simp [List.getD, hj]

def strOf (l : List Nat) : ByteArray := strOfNums (l.map fun (n : Nat) => (n : Int))
theorem Bts.str {w : World} {a : Option Addr} {len : Nat} {l : List Nat} (h : Bts w a len l) (cap : Nat) :
    (convert 22 9 (.slice a len cap)).run Tryd.prog w = .ok (.string (strOf l)) w := by
  obtain ⟨h1, h2, h3, rfl | ⟨B, off, rfl, hB, hc⟩⟩ := h
  · obtain rfl : l = [] := List.length_eq_zero_iff.1 h1
    rw [run_convert_bytes_string w 22 9 5 _ 0 cap Tryd.underlying22 Tryd.underlying5 Tryd.underlying9]
    cases a with
    | none => simp [Conv.bytesToString]; rfl
    | some x =>
      rw [run_bytesToString w x 0 cap [] (by simp [loadCells, loadCellsFrom])]
      rfl
  · refine run_convert_bytes_arg w 22 5 Tryd.underlying22 Tryd.underlying5 B off len cap _ (by simpa using h1) (fun i hi => ?_) 9 Tryd.underlying9
    rw [hc i hi]
    simp [List.getD, show i < l.length from by omega]

theorem info5 : (Tryd.prog.info? 5).map (fun i => (i.zero, i.size, i.bytes)) = some (some (.int .u8 0), 1, 1) := by kernel_rfl

theorem own_bts {w : World} {base : Nat} {v : Value} {len : Nat} {l : List Nat} (h : w.ownsRow base 5 1 v len (l.map fun (n : Nat) => Value.int .u8 (n : Int))) (hl : l.length = len) (hb : ∀ b ∈ l, b < 256) (hlen : len ≤ 9223372036854775807) :
    ∃ a cap, v = .slice a len cap ∧ Bts w a len l := by
  obtain ⟨h1, ⟨rfl, rfl⟩ | ⟨g, cap, cur, rfl, _, hg, _, _, _, ht⟩⟩ := h
  · exact ⟨none, 0, rfl, hl, hb, hlen, .inl rfl⟩
  · refine ⟨_, cap, rfl, hl, hb, hlen, .inr ⟨g, 0, rfl, lt_of_block hg, fun i hi => ?_⟩⟩
    rw [cell_of_row _ _ _ _ _ _ hg, Nat.zero_add]
    have e : (cur.toList.take (len * 1))[i]? = (l.map fun (n : Nat) => Value.int .u8 (n : Int))[i]? := by rw [ht]
    rw [List.getElem?_take, if_pos (by omega)] at e
    simp [show i < l.length from by omega] at e
    simp [e, List.getD, show i < l.length from by omega]

end Go.Proofs.YthlmjadknklafaaDoor
