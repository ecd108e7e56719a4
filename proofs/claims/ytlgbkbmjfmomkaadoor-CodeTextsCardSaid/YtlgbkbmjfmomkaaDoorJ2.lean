/-
  What bytes are read as is written as those bytes; bytes that come in.
-/
import Derived.Test.YtlgbkbmjfmomkaaDoorJ1
import Derived.ChangeSlices
import Derived.ChangeShapes
import Derived.OpenShut
namespace Go.Proofs.YtlgbkbmjfmomkaaDoor
open Go.RowKit CodM

theorem byteI_u8 (x : UInt8) : byteI (x.toNat : Int) = x := by
  have h := x.toNat_lt
  apply UInt8.toNat_inj.1
  have := byteI_val (x.toNat : Int)
  omega
theorem byteI_cong {a b : Int} (h : a % 256 = b % 256) : byteI a = byteI b := by unfold byteI; rw [h]
theorem be8_num (l : List UInt8) (h : l.length = 8) : be8 (wrap64 (numOf l)) = l := by
  match l, h with
  | [a, b, c, d, e, f, g, i], _ =>
    have ha := a.toNat_lt; have hb := b.toNat_lt; have hc := c.toNat_lt; have hd := d.toNat_lt
    have he := e.toNat_lt; have hf := f.toNat_lt; have hg := g.toNat_lt; have hi := i.toNat_lt
    obtain ⟨N, hN⟩ : ∃ N, N = numOf [a, b, c, d, e, f, g, i] := ⟨_, rfl⟩
    have hN' : N = (((((((a.toNat : Int) * 256 + b.toNat) * 256 + c.toNat) * 256 + d.toNat) * 256 + e.toNat) * 256 + f.toNat) * 256 + g.toNat) * 256 + i.toNat := by
      rw [hN]; simp [numOf]
    rw [← hN]
    have hw : ∃ q : Int, wrap64 N = N - q * 18446744073709551616 := ⟨(N + 9223372036854775808) / 18446744073709551616, by unfold wrap64; omega⟩
    obtain ⟨q, hq⟩ := hw
    have key : ∀ (k : Nat) (x : UInt8), (wrap64 N / 2 ^ (56 - 8 * k)) % 256 = (x.toNat : Int) → beAt (wrap64 N) k = x := by
      intro k x hx
      unfold beAt
      rw [byteI_cong (b := (x.toNat : Int)) (by rw [hx]; have := x.toNat_lt; omega), byteI_u8]
    have e0 : beAt (wrap64 N) 0 = a := key 0 a (by rw [hq]; show (N - q * 18446744073709551616) / 72057594037927936 % 256 = _; omega)
    have e1 : beAt (wrap64 N) 1 = b := key 1 b (by rw [hq]; show (N - q * 18446744073709551616) / 281474976710656 % 256 = _; omega)
    have e2 : beAt (wrap64 N) 2 = c := key 2 c (by rw [hq]; show (N - q * 18446744073709551616) / 1099511627776 % 256 = _; omega)
    have e3 : beAt (wrap64 N) 3 = d := key 3 d (by rw [hq]; show (N - q * 18446744073709551616) / 4294967296 % 256 = _; omega)
    have e4 : beAt (wrap64 N) 4 = e := key 4 e (by rw [hq]; show (N - q * 18446744073709551616) / 16777216 % 256 = _; omega)
    have e5 : beAt (wrap64 N) 5 = f := key 5 f (by rw [hq]; show (N - q * 18446744073709551616) / 65536 % 256 = _; omega)
    have e6 : beAt (wrap64 N) 6 = g := key 6 g (by rw [hq]; show (N - q * 18446744073709551616) / 256 % 256 = _; omega)
    have e7 : beAt (wrap64 N) 7 = i := key 7 i (by rw [hq]; show (N - q * 18446744073709551616) / 1 % 256 = _; omega)
    show [beAt _ 0, beAt _ 1, beAt _ 2, beAt _ 3, beAt _ 4, beAt _ 5, beAt _ 6, beAt _ 7] = _
    rw [e0, e1, e2, e3, e4, e5, e6, e7]
theorem rdIns_bytes {l r : List UInt8} {x : Ins} (h : rdIns l = some (x, r)) : insBytes x ++ r = l := by
  cases l with
  | nil => simp [rdIns] at h
  | cons y t =>
    rcases hn : numbered (y.toNat : Int) with _ | _
    · simp [rdIns, hn] at h
      obtain ⟨rfl, rfl⟩ := h
      unfold insBytes
      simp [hn, byteI_u8]
    · by_cases hs : t.length < 8
      · simp [rdIns, hn, hs] at h
      · simp [rdIns, hn, hs] at h
        obtain ⟨rfl, rfl⟩ := h
        unfold insBytes
        simp only [hn, if_true, byteI_u8, List.cons_append, List.cons.injEq, true_and]
        rw [be8_num _ (by simp; omega)]
        exact List.take_append_drop 8 t
theorem rdN_bytes : ∀ {k : Nat} {l r : List UInt8} {xs : List Ins}, rdN k l = some (xs, r) → xs.flatMap insBytes ++ r = l
  | 0, l, r, xs, h => by simp [rdN] at h; rw [h.1, h.2]; rfl
  | k + 1, l, r, xs, h => by
    simp only [rdN, Option.bind_eq_some_iff, Option.map_eq_some_iff] at h
    obtain ⟨⟨x1, r1⟩, e1, ⟨x2, r2⟩, e2, e3⟩ := h
    simp at e3
    have h1 := rdN_bytes e1
    have h2 := rdIns_bytes e2
    simp only at h2
    rw [← e3.1, ← e3.2, List.flatMap_append, List.append_assoc]
    rw [← h2] at h1
    simpa using h1
theorem rdKind_bytes {l r : List UInt8} {xs : List Ins} (h : rdKind l = some (xs, r)) : kindBytes xs ++ r = l := by
  cases l with
  | nil => simp [rdKind] at h
  | cons y t =>
    have h1 := rdN_bytes (show rdN y.toNat t = some (xs, r) from h)
    have h2 := rdN_length (show rdN y.toNat t = some (xs, r) from h)
    unfold kindBytes
    rw [h2, byteI_u8, List.cons_append, h1]
theorem rdKs_bytes : ∀ {k : Nat} {l r : List UInt8} {xs : List (List Ins)}, rdKs k l = some (xs, r) → xs.flatMap kindBytes ++ r = l
  | 0, l, r, xs, h => by simp [rdKs] at h; rw [h.1, h.2]; rfl
  | k + 1, l, r, xs, h => by
    simp only [rdKs, Option.bind_eq_some_iff, Option.map_eq_some_iff] at h
    obtain ⟨⟨x1, r1⟩, e1, ⟨x2, r2⟩, e2, e3⟩ := h
    simp at e3
    have h1 := rdKs_bytes e1
    have h2 := rdKind_bytes e2
    simp only at h2
    rw [← e3.1, ← e3.2, List.flatMap_append, List.append_assoc]
    rw [← h2] at h1
    simpa using h1
theorem rdProg_bytes {l r : List UInt8} {p : Prg} (h : rdProg l = some (p, r)) : bytesP p ++ r = l := by
  match l, h with
  | [], h => simp [rdProg] at h
  | [x], h => simp [rdProg] at h
  | x :: y :: t, h =>
    simp only [rdProg, Option.map_eq_some_iff] at h
    obtain ⟨⟨ks, r1⟩, h1, h2⟩ := h
    simp at h2
    obtain ⟨rfl, rfl⟩ := h2
    have h3 := rdKs_bytes h1
    have h4 := rdKs_length h1
    unfold bytesP
    simp only
    rw [h4, byteI_u8, byteI_u8, List.cons_append, List.cons_append, h3]
theorem goodP_parts {l r : List UInt8} {p : Prg} (h : goodP l = some (p, r)) : rdProg l = some (p, r) ∧ CodM.may (codeNk p) p = true := by
  unfold goodP at h
  split at h
  · rename_i p' r' e
    split at h
    · rename_i hm; cases h; exact ⟨e, hm⟩
    · cases h
  · cases h
theorem goodP_take {l r : List UInt8} {p : Prg} (h : goodP l = some (p, r)) : bytesP p = l.take (l.length - r.length) := by
  have h1 := rdProg_bytes (goodP_parts h).1
  rw [← h1]
  simp
theorem goodP_left {l : List UInt8} (h : goodP l = none) : ∀ p r, rdProg l = some (p, r) → CodM.may (codeNk p) p = false := by
  intro p r e
  unfold goodP at h
  rw [e] at h
  simp only at h
  split at h
  · cases h
  · rename_i hm; simpa using hm
/-- a slice that reads as bytes is read as a string -/
theorem BytAt.str {w : World} {a : Option Addr} {l : List UInt8} (h : BytAt w a l) (c : Nat) : (convert 25 9 (.slice a l.length c)).run Tryd.prog w = .ok (.string (strU l)) w := by
  rcases h with rfl | ⟨B, off, rfl, hc⟩
  · show (convert 25 9 (.slice a 0 c)).run Tryd.prog w = _
    rw [run_convert_bytes_string w 25 9 5 _ 0 c Tryd.underlying25 Tryd.underlying5 Tryd.underlying9]
    cases a with
    | none => simp [Conv.bytesToString]; rfl
    | some x =>
      rw [run_bytesToString w x 0 c [] (by simp [loadCells, loadCellsFrom])]
      rfl
  · exact run_convert_bytes_back (P := Tryd.prog) w 25 9 5 ⟨B, off, none⟩ c l Tryd.underlying25 Tryd.underlying5 Tryd.underlying9 (fun j hj => by
      have hadd : (⟨B, off, none⟩ : Addr).add j = ⟨B, off + j, none⟩ := by unfold Addr.add; split <;> simp_all
      rw [hadd]
      exact hc j hj)
theorem BytAt.take {w : World} {a : Option Addr} {l : List UInt8} (h : BytAt w a l) (m : Nat) : BytAt w a (l.take m) := by
  rcases h with rfl | ⟨B, off, rfl, hc⟩
  · exact .inl (by simp)
  · refine .inr ⟨B, off, rfl, fun i hi => ?_⟩
    have hi' : i < l.length := by rw [List.length_take] at hi; omega
    rw [hc i hi']
    simp
theorem BytAt.below {w w' : World} {a : Option Addr} {l : List UInt8} (h : BytAt w a l) {b : Nat} (hb : Below b w w') (hs : w.heap.size ≤ b) : BytAt w' a l := by
  rcases h with rfl | ⟨B, off, rfl, hc⟩
  · exact .inl rfl
  · exact .inr ⟨B, off, rfl, fun i hi => (hb.cell (p := ⟨B, off + i, none⟩) (Nat.lt_of_lt_of_le (World.block_lt_of_cell? w _ (hc i hi)) hs)).trans (hc i hi)⟩
theorem Buf.byt {B : Nat} {w : World} {v : Value} {l : List UInt8} (h : Buf B w v l) : ∃ a c, v = .slice a l.length c ∧ l.length ≤ c ∧ c ≤ 9223372036854775807 ∧ BytAt w a l := by
  rcases h.2 with ⟨rfl, hn⟩ | ⟨g, cap, cur, rfl, hg, hh, hc, hm, hs, ht⟩
  · exact ⟨none, 0, by rw [hn], by omega, by omega, .inl (List.length_eq_zero_iff.1 hn)⟩
  · refine ⟨_, cap, rfl, hc, by unfold maxLen at hm; omega, .inr ⟨g, 0, rfl, fun i hi => ?_⟩⟩
    have := h.cells (g := g) rfl i (.int .u8 (l[i].toNat : Int)) (by simp [Lib.byteCells, hi])
    have hadd : (⟨g, 0, none⟩ : Addr).add i = ⟨g, 0 + i, none⟩ := by unfold Addr.add; split <;> simp_all
    rw [hadd] at this
    exact this
/-- the bytes of a slice that came in -/
theorem open_bytes {H : Type} {enc : TypeId × Value → H} {W : World} {base : Nat} {spare : Nat → Bool} {held : Bool} {fuel : Nat} {v : Value} {x : DataW H × List MemPlace} (h : DataW.trod enc Tryd.prog W base spare held fuel 25 v.cells.toList = some x) (hv : ∃ a n c, v = .slice a n c) :
    ∃ a l c, v = .slice a (List.length l) c ∧ l.length ≤ c ∧ c ≤ 9223372036854775807 ∧ BytAt W a l ∧ ((a = none ∧ c = 0 ∧ l = []) ∨ ∃ y, a = some y ∧ ∀ j u, (Lib.byteCells l)[j]? = some u → W.cell? (y.add j) = some u) := by
  obtain ⟨a, n, c, rfl⟩ := hv
  rcases Go.ChangeShapes.open_ints Tryd.underlying25 Tryd.underlying5 (by kernel_rfl) h with ⟨hcs, _⟩ | ⟨y, len, cap, zs, hcs, _, hl, hm, hz, _, hcell, hwf⟩
  · simp [Value.cells] at hcs
    obtain ⟨rfl, rfl, rfl⟩ := hcs
    exact ⟨none, [], 0, rfl, Nat.le_refl _, by omega, .inl rfl, .inl ⟨rfl, rfl, rfl⟩⟩
  · simp [Value.cells] at hcs
    obtain ⟨rfl, rfl, rfl⟩ := hcs
    have hzl : n ≤ zs.length := by rw [hz]; split <;> omega
    have hwf' : ∀ z ∈ zs, 0 ≤ z ∧ z < 256 := by
      intro z hz'
      have := (by have h := hwf z hz'; simp [Lit.wf, IntKind.min, IntKind.max, IntKind.signed, IntKind.bits] at h; omega : 0 ≤ z ∧ z ≤ 255)
      omega
    obtain ⟨l, hl'⟩ : ∃ l : List UInt8, l = (zs.take n).map fun z => UInt8.ofNat z.toNat := ⟨_, rfl⟩
    have hlen : l.length = n := by rw [hl']; simp; omega
    have hget : ∀ i (hi : i < l.length), ((l[i]).toNat : Int) = zs.getD i 0 := by
      intro i hi
      have hiz : i < zs.length := by omega
      have hb := hwf' zs[i] (List.getElem_mem hiz)
      subst hl'
      simp only [List.getElem_map, List.getElem_take, UInt8.toNat_ofNat', List.getD, List.getElem?_eq_getElem hiz, Option.getD_some]
      omega
    have hc : ∀ j (hj : j < l.length), W.cell? (y.add j) = some (.int .u8 (l[j].toNat : Int)) := by
      intro j hj
      rw [hcell j (by omega), ← hget j hj]
    refine ⟨some y, l, c, by rw [hlen], by omega, by unfold maxLen at hm; omega, ?_, .inr ⟨y, rfl, ?_⟩⟩
    · by_cases h0 : l = []
      · exact .inl h0
      · have hp : 0 < l.length := by cases l with | nil => exact absurd rfl h0 | cons => simp
        obtain ⟨B, off, spot⟩ := y
        have hs := hc 0 hp
        have hspot : spot = none := by simpa [Addr.add] using World.cell?_spot hs
        subst hspot
        refine .inr ⟨B, off, rfl, fun i hi => ?_⟩
        have hadd : (⟨B, off, none⟩ : Addr).add i = ⟨B, off + i, none⟩ := by unfold Addr.add; split <;> simp_all
        rw [← hadd]
        exact hc i hi
    · intro j u hu
      have hj : j < l.length := by
        rcases Nat.lt_or_ge j l.length with h' | h'
        · exact h'
        · rw [List.getElem?_eq_none (by simpa [Lib.byteCells] using h')] at hu; cases hu
      rw [hc j hj]
      simp [Lib.byteCells, hj] at hu
      rw [← hu]
end Go.Proofs.YtlgbkbmjfmomkaaDoor
