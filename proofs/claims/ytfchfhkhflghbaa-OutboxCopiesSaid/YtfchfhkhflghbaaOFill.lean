/-
  Bytes are taken out of the texts that wait: memory, step by step.
-/
import Derived.Test.YtfchfhkhflghbaaOPut
namespace Go.Proofs.Ytfchfhkhflghbaa
open Go Go.RowKit Go.Lib Go.Sort Go.Proofs

theorem cutT_add : ∀ (j n : Nat) (L : List By), cutT (j + n) L = cutT n (cutT j L)
  | _, _, [] => by simp [cutT]
  | j, n, t :: ts => by
    by_cases hj : j < t.length
    · have e : cutT j (t :: ts) = t.drop j :: ts := by unfold cutT; rw [if_pos hj]
      rw [e]
      by_cases hn : j + n < t.length
      · have e2 : cutT (j + n) (t :: ts) = t.drop (j + n) :: ts := by unfold cutT; rw [if_pos hn]
        have e3 : cutT n (t.drop j :: ts) = (t.drop j).drop n :: ts := by unfold cutT; rw [if_pos (by rw [List.length_drop]; omega)]
        rw [e2, e3, List.drop_drop]
      · have e2 : cutT (j + n) (t :: ts) = cutT (j + n - t.length) ts := by conv => lhs; unfold cutT; rw [if_neg hn]
        have e3 : cutT n (t.drop j :: ts) = cutT (n - (t.length - j)) ts := by conv => lhs; unfold cutT; rw [if_neg (by rw [List.length_drop]; omega), List.length_drop]
        rw [e2, e3, show j + n - t.length = n - (t.length - j) by omega]
    · have e : cutT j (t :: ts) = cutT (j - t.length) ts := by conv => lhs; unfold cutT; rw [if_neg hj]
      have e2 : cutT (j + n) (t :: ts) = cutT (j + n - t.length) ts := by conv => lhs; unfold cutT; rw [if_neg (by omega)]
      rw [e, e2, show j + n - t.length = (j - t.length) + n by omega, cutT_add]
theorem cutT_one (n : Nat) (t : By) (ts : List By) (hn : n ≤ t.length) (h : ∀ u ∈ ts, u ≠ []) : cutT n (t :: ts) = if n = t.length then ts else t.drop n :: ts := by
  by_cases h1 : n = t.length
  · rw [if_pos h1]
    conv => lhs; unfold cutT
    rw [if_neg (by omega), show n - t.length = 0 by omega, cutT_zero ts h]
  · rw [if_neg h1]
    unfold cutT
    rw [if_pos (by omega)]
/-- so many bytes have been taken, so many texts whole -/
structure Fil (w : World) (FT : Nat → Prop) (TB B off K SZ : Nat) (L : List By) (wr : World) (j q : Nat) : Prop where
  le : j ≤ K
  tb : ∃ cur, wr.heap[TB]? = some (.cells cur 5 (0, 0)) ∧ cur.size = K ∧ cur.toList.take j = CB.cells (L.flatten.take j)
  cnt : q + (cutT j L).length = L.length
  row : ∃ cur, wr.heap[B]? = some (.cells cur 30 (0, 0)) ∧ cur.size = SZ ∧ ∀ i (hi : i < (cutT j L).length), ∃ v, cur[off + q + i]? = some v ∧ Tx wr FT v (cutT j L)[i]
  but : But (fun b => b = TB ∨ b = B) w wr
section
variable {w : World} {FT : Nat → Prop} {TB B off K SZ : Nat} {L : List By} {wr : World} {j q : Nat}
theorem Fil.open_ (h : Fil w FT TB B off K SZ L wr j q) (hj : j < K) (hK : K ≤ L.flatten.length) (hL : ∀ t ∈ L, t ≠ []) :
    ∃ t ts X o ct, cutT j L = t :: ts ∧ 0 < t.length ∧ (∀ u ∈ ts, u ≠ []) ∧ wr.cell? ⟨B, off + q, none⟩ = some (.slice (some ⟨X, o, none⟩) t.length ct) ∧ wr.frozen? ⟨B, off + q, none⟩ = false ∧ t.length ≤ ct ∧ ct ≤ maxLen ∧ FT X ∧ CB.At wr (some ⟨X, o, none⟩) t.length t ∧ q < L.length := by
  have hne := cutT_ne j L hL
  have hfl := congrArg List.length (cutT_flat j L)
  rw [List.length_drop] at hfl
  obtain ⟨cur, hh, hsz, hall⟩ := h.row
  have hc := h.cnt
  cases hcut : cutT j L with
  | nil =>
    rw [hcut] at hfl
    simp only [List.flatten_nil, List.length_nil] at hfl
    omega
  | cons t ts =>
    rw [hcut] at hne hc
    obtain ⟨v, h1, h2⟩ := hall 0 (by rw [hcut]; simp)
    obtain ⟨X, o, ct, rfl, h3, h4, h5, h6⟩ := h2
    simp only [hcut, List.getElem_cons_zero] at h1 h3 h6
    refine ⟨t, ts, X, o, ct, rfl, List.length_pos_iff.2 (hne t (List.mem_cons_self ..)), fun u hu => hne u (List.mem_cons_of_mem _ hu), ?_, frozen_of_row _ _ _ _ _ hh, h3, h4, h5, h6, by simp at hc; omega⟩
    rw [cell_of_row _ _ _ _ _ _ hh]
    exact h1
theorem Fil.copy (h : Fil w FT TB B off K SZ L wr j q) {t : By} {ts : List By} {X o ct : Nat} (hcut : cutT j L = t :: ts) (hA : CB.At wr (some ⟨X, o, none⟩) t.length t) (n r cb tl : Nat) (hr : r = K - j) (htl : tl = t.length) (hn : n = min r tl) :
    ∃ w2, (∀ ty, (Builtin.copy_ #[30, 30] ty #[.slice (some ⟨TB, j, none⟩) r cb, .slice (some ⟨X, o, none⟩) tl ct]).run Try.prog wr = .ok (.int .i64 (n : Nat)) w2) ∧
      (∃ cur, w2.heap[TB]? = some (.cells cur 5 (0, 0)) ∧ cur.size = K ∧ cur.toList.take (j + n) = CB.cells (L.flatten.take (j + n))) ∧ But (fun b => b = TB) wr w2 := by
  subst htl
  obtain ⟨cur, hh, hsz, htk⟩ := h.tb
  have hle := h.le
  have hcl : cur.toList.length = cur.size := by simp
  have hn1 : n ≤ t.length := by omega
  have hcs : (CB.cells (t.take n)).length = n := by rw [CB.cells_len, List.length_take, Nat.min_eq_left hn1]; exact Nat.mul_one n
  have hsrc : ∀ i v, (CB.cells (t.take n))[i]? = some v → wr.cell? ((⟨X, o, none⟩ : Addr).add i) = some v := (hA.front n hn1).news
  have hs1 : (Try.prog.info? 5).map (·.size) = some 1 := by kernel_rfl
  have hrun := fun ty => run_copy_row (P := Try.prog) wr 30 30 ty 5 TB j r cb ⟨X, o, none⟩ t.length ct cur 5 (CB.cells (t.take n)) Try.underlying30 hs1 hh (by rw [hcs, hn]; exact Nat.min_comm _ _) hsrc (by rw [hcs]; omega) (CB.cells_one _)
  rw [hcs] at hrun
  refine ⟨_, hrun, ⟨_, setRow_heap wr TB cur _ 5 _ hh, ?_, ?_⟩, ⟨rfl, rfl, rfl, by simp, fun k _ hk => setRow_other wr TB k _ hk⟩⟩
  · simp only [List.size_toArray, List.length_append, List.length_take, List.length_drop, hcs, Array.length_toList]
    omega
  · have hd : L.flatten.drop j = t ++ ts.flatten := by rw [← cutT_flat, hcut, List.flatten_cons]
    have e1 : L.flatten.take (j + n) = L.flatten.take j ++ t.take n := by
      rw [List.take_add, hd, List.take_append_of_le_length hn1]
    rw [e1, CB.cells_app, ← htk]
    have hl : (cur.toList.take j ++ CB.cells (t.take n)).length = j + n := by rw [List.length_append, List.length_take, hcs]; omega
    simp only
    rw [← hl]
    exact List.take_left
theorem Fil.store (h : Fil w FT TB B off K SZ L wr j q) {t : By} {ts : List By} {X o ct n q' : Nat} (hcut : cutT j L = t :: ts) (h0 : ∀ u ∈ ts, u ≠ []) (hA : CB.At wr (some ⟨X, o, none⟩) t.length t) (hct : t.length ≤ ct) (hcm : ct ≤ maxLen) (hX : FT X) (hTB : ¬ FT TB) (hB : ¬ FT B) (hTBB : TB ≠ B)
    {w2 : World} (hn1 : n ≤ t.length) (hnK : j + n ≤ K) (htb : ∃ cur, w2.heap[TB]? = some (.cells cur 5 (0, 0)) ∧ cur.size = K ∧ cur.toList.take (j + n) = CB.cells (L.flatten.take (j + n))) (hb2 : But (fun b => b = TB) wr w2)
    (hq : q' = if n = t.length then q + 1 else q) {v : Value} (hv : n ≠ t.length → v = .slice (some ⟨X, o + n, none⟩) (t.length - n) (ct - n)) : Fil w FT TB B off K SZ L (w2.setCell ⟨B, off + q, none⟩ v) (j + n) q' := by
  obtain ⟨cur, hh, hsz, hall⟩ := h.row
  obtain ⟨ct2, htb, hts, htk⟩ := htb
  have h2 : w2.heap[B]? = some (.cells cur 30 (0, 0)) := (hb2.block B (heap_lt hh) (fun e => hTBB e.symm)).trans hh
  have hs := heap_setCell_same w2 B (off + q) _ _ v h2
  have hbB : But (fun b => b = B) w2 (w2.setCell ⟨B, off + q, none⟩ v) := (But.refl (fun b => b = B) _).setCell (p := ⟨B, off + q, none⟩) rfl _
  have hbw : But (fun b => b = TB ∨ b = B) wr (w2.setCell ⟨B, off + q, none⟩ v) := (hb2.mono fun _ _ e => Or.inl e).next hbB fun _ _ e => Or.inr e
  have hcut2 : cutT (j + n) L = if n = t.length then ts else t.drop n :: ts := by rw [cutT_add, hcut, cutT_one n t ts hn1 h0]
  have hcnt := h.cnt
  rw [hcut, List.length_cons] at hcnt
  have keep : ∀ b, FT b → b < wr.heap.size → (w2.setCell ⟨B, off + q, none⟩ v).heap[b]? = wr.heap[b]? := fun b e hl => hbw.block b hl fun e2 => e2.elim (fun e2 => hTB (e2 ▸ e)) fun e2 => hB (e2 ▸ e)
  have old : ∀ i (hi : i < ts.length), ∃ u, cur[off + q + (i + 1)]? = some u ∧ Tx wr FT u ts[i] := fun i hi => by
    obtain ⟨u, k1, k2⟩ := hall (i + 1) (by rw [hcut]; simpa using hi)
    refine ⟨u, k1, ?_⟩
    simp only [hcut, List.getElem_cons_succ] at k2
    exact k2
  refine ⟨hnK, ⟨ct2, (hbB.block TB (heap_lt htb) hTBB).trans htb, hts, htk⟩, ?_, ⟨_, hs, by simpa using hsz, fun i hi => ?_⟩, h.but.trans hbw⟩
  · rw [hcut2, hq]
    split
    · omega
    · rw [List.length_cons]; omega
  · by_cases hf : n = t.length
    · rw [if_pos hf] at hcut2 hq
      rw [hq]
      simp only [hcut2] at hi ⊢
      obtain ⟨u, k1, k2⟩ := old i hi
      refine ⟨u, ?_, k2.keep hbw.size keep fun _ e => e⟩
      rw [Array.getElem?_setIfInBounds_ne (by omega), show off + (q + 1) + i = off + q + (i + 1) by omega]
      exact k1
    · rw [if_neg hf] at hcut2 hq
      rw [hq]
      simp only [hcut2] at hi ⊢
      cases i with
      | zero =>
        have hlt : off + q < cur.size := by
          obtain ⟨u, k1, _⟩ := hall 0 (by rw [hcut]; simp)
          have := (Array.getElem?_eq_some_iff.1 k1).1
          omega
        refine ⟨v, by rw [Nat.add_zero, Array.getElem?_setIfInBounds_self_of_lt hlt], ?_⟩
        simp only [List.getElem_cons_zero]
        have hp := hA.part n t.length hn1 (Nat.le_refl _) X o rfl
        rw [show CB.k = 1 from rfl, Nat.mul_one, List.take_length] at hp
        refine ⟨X, o + n, ct - n, by rw [hv hf, List.length_drop], by rw [List.length_drop]; omega, by omega, hX, ?_⟩
        rw [List.length_drop]
        exact hp.same hbw.size fun p e hl => by cases e; exact keep X hX hl
      | succ i =>
        simp only [List.getElem_cons_succ]
        obtain ⟨u, k1, k2⟩ := old i (by simpa using hi)
        refine ⟨u, ?_, k2.keep hbw.size keep fun _ e => e⟩
        rw [Array.getElem?_setIfInBounds_ne (by omega)]
        exact k1
/-- the texts that were taken are cleared -/
theorem Fil.clear (h : Fil w FT TB B off K SZ L wr K q) (hB : ¬ FT B) (hTBB : TB ≠ B) (hoff : off + L.length ≤ SZ) (cc : Nat) :
    ∃ w2, (∀ ty, (Builtin.clear_ #[40] ty #[.slice (some ⟨B, off, none⟩) q cc]).run Try.prog wr = .ok (.tuple #[]) w2) ∧ Fil w FT TB B off K SZ L w2 K q ∧ But (fun b => b = B) wr w2 := by
  by_cases hq0 : q = 0
  · subst hq0
    exact ⟨wr, fun ty => by simp [Builtin.clear_, run_underlying rowS.slice], h, But.refl _ _⟩
  obtain ⟨z, hz, hzs⟩ := rowS.info
  obtain ⟨i0, hi0, hz0, hz1, hz2⟩ := info_of hz
  obtain ⟨cur, hh, hsz, hall⟩ := h.row
  have hcnt := h.cnt
  have hcl : cur.toList.length = cur.size := by simp
  have hone : ∀ u ∈ (Builtin.zeroCells z.cells q).toList, u.oneCell' = true := by
    have hzz : z = .slice none 0 0 := by
      have h1 : (Try.prog.info? 30).bind (fun i => i.zero) = some (.slice none 0 0) := by kernel_rfl
      rw [hi0] at h1
      have h2 : i0.zero = some (.slice none 0 0) := h1
      rw [hz0] at h2
      exact Option.some.inj h2
    subst hzz
    intro u hu
    simp only [Builtin.zeroCells, Array.toList_map, List.mem_map] at hu
    obtain ⟨i, _, rfl⟩ := hu
    simp [Value.cells, Nat.mod_one]
    rfl
  have hzl : (Builtin.zeroCells z.cells q).toList.length = q := by
    have hzs' : z.cells.size = 1 := hzs
    simp [Builtin.zeroCells, hzs']
  have hst := run_storeCells_at Try.prog B off 30 (Builtin.zeroCells z.cells q).toList 0 cur wr hh (by rw [hzl]; omega) hone
  simp only [Nat.add_zero] at hst
  have hbB : But (fun b => b = B) wr (wr.setRow B (cur.toList.take off ++ (Builtin.zeroCells z.cells q).toList ++ cur.toList.drop (off + (Builtin.zeroCells z.cells q).toList.length)).toArray) := ⟨rfl, rfl, rfl, by simp, fun k _ hk => setRow_other wr B k _ hk⟩
  refine ⟨_, fun ty => ?_, ⟨h.le, ?_, hcnt, ⟨_, setRow_heap wr B cur _ 30 _ hh, ?_, fun i hi => ?_⟩, h.but.trans (hbB.mono fun _ _ e => Or.inr e)⟩, hbB⟩
  · obtain ⟨q0, rfl⟩ : ∃ q0, q = q0 + 1 := ⟨q - 1, by omega⟩
    simp [Builtin.clear_, run_underlying rowS.slice, zeroValue, typeInfo, hi0, hz0, hst]
  · obtain ⟨ct, htb, k1, k2⟩ := h.tb
    exact ⟨ct, (hbB.block TB (heap_lt htb) hTBB).trans htb, k1, k2⟩
  · simp only [List.size_toArray, List.length_append, List.length_take, List.length_drop, hzl, Array.length_toList]
    omega
  · obtain ⟨u, k1, k2⟩ := hall i hi
    refine ⟨u, ?_, k2.keep hbB.size (fun b e hl => hbB.block b hl fun e2 => hB (e2 ▸ e)) fun _ e => e⟩
    have hlen : (cur.toList.take off ++ (Builtin.zeroCells z.cells q).toList).length = off + q := by rw [List.length_append, hzl, List.length_take]; omega
    rw [List.getElem?_toArray, List.getElem?_append_right (by omega), hlen, hzl, List.getElem?_drop, show off + q + (off + q + i - (off + q)) = off + q + i by omega]
    simpa using k1
end
end Go.Proofs.Ytfchfhkhflghbaa
