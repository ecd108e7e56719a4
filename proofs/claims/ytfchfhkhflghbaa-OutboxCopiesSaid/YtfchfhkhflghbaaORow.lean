/-
  A text is appended to the row of texts, wherever the row begins.
-/
import Derived.Test.YtfchfhkhflghbaaOLook
namespace Go.Proofs.Ytfchfhkhflghbaa
open Go Go.RowKit Go.Lib Go.Sort Go.Proofs

/-- the block of a row -/
def blk (a : Option Addr) (b : Nat) : Prop := ∃ p, a = some p ∧ p.block = b
/-- a row of values of the call's own is a row of texts -/
theorem rw_of_own {w w' : World} {FT FB : Nat → Prop} {v : Value} {L : List By} {xs : List Value} (h : w'.ownsRow w.heap.size 30 1 v L.length xs) (hx : ∀ i (hi : i < L.length), ∃ u, xs[i]? = some u ∧ Tx w' FT u L[i]) (hT : ∀ b, FT b → b < w.heap.size) (hB : ∀ b, w.heap.size ≤ b → b < w'.heap.size → FB b) (h0 : 0 < L.length) :
    ∃ a c, v = .slice a L.length c ∧ Rw w' FT FB a c L := by
  obtain ⟨h1, ⟨_, e⟩ | ⟨g, cap, cur, rfl, hg, hh, hc, hm, hs, ht⟩⟩ := h
  · omega
  · refine ⟨_, cap, rfl, .inr ⟨g, 0, cur, rfl, hB _ hg (heap_lt hh), fun e => absurd (hT _ e) (Nat.not_lt.2 hg), hh, by omega, hc, hm, fun i hi => ?_⟩⟩
    obtain ⟨u, hu, hx⟩ := hx i hi
    refine ⟨u, ?_, hx⟩
    rw [← ht, List.getElem?_take] at hu
    split at hu
    · simpa using hu
    · cases hu
theorem run_append_mid (P : Program) (w : World) (t ty e : TypeId) (i : TypeInfo) (ht : P.underlying t = some (.slice e)) (hi : P.info? e = some i) (hsz : i.size = 1)
    (g off sLen sCap : Nat) (cur : Array Value) (hg : w.heap[g]? = some (.cells cur e (0, 0)))
    (a : Addr) (c : Nat) (v : Value) (hv : w.cell? a = some v) (h1 : v.oneCell' = true)
    (hroom : sLen + 1 ≤ sCap) (hfit : off + sLen + 1 ≤ cur.size) :
    (Builtin.append_ #[t, t] ty #[.slice (some ⟨g, off, none⟩) sLen sCap, .slice (some a) 1 c]).run P w =
      .ok (.slice (some ⟨g, off, none⟩) (sLen + 1) sCap) (w.setRow g (cur.toList.take (off + sLen) ++ [v] ++ cur.toList.drop (off + sLen + 1)).toArray) := by
  have hn : ∀ j u, [v][j]? = some u → w.cell? (a.add j) = some u := by
    intro j u hj
    cases j with
    | zero => simp at hj; subst hj; simpa [Addr.add] using hv
    | succ j => simp at hj
  have hf := run_firstCells_some (P := P) w i.size 1 a 1 c [v] (by simp [hsz]) hn
  have hst := run_storeCells_at P g (off + sLen * i.size) e [v] 0 cur w hg (by simp [hsz]; omega) (by simpa using h1)
  simp only [Nat.add_zero, hsz, Nat.mul_one, List.length_singleton] at hst
  rw [hsz] at hf
  simp [Builtin.append_, run_underlying ht, sizeOf, typeInfo, hi, hsz, Builtin.lenOf, hroom, hf, Addr.add_lit, hst]
theorem Rw.push {w : World} {FT FB : Nat → Prop} {a : Option Addr} {c : Nat} {L : List By} (h : Rw w FT FB a c L) (hT : ∀ b, FT b → b < w.heap.size) (hL : L.length + 1 ≤ 1000000) (t : By) (x : Sl) (hx : Tx w FT (SlV x) t) (ad : Addr) (cc : Nat) (hv : w.cell? ad = some (SlV x)) :
    ∃ a' c' w', (∀ ty, (Builtin.append_ #[40, 40] ty #[.slice a L.length c, .slice (some ad) 1 cc]).run Try.prog w = .ok (.slice a' (L.length + 1) c') w') ∧ But (blk a) w w' ∧ Rw w' FT (fun b => FB b ∨ (w.heap.size ≤ b ∧ b < w'.heap.size)) a' c' (L ++ [t]) := by
  obtain ⟨z, hz, hzs⟩ := rowS.info
  obtain ⟨i0, hi0, hz0, hz1, hz2⟩ := info_of hz
  have hS := rowS.slice
  have hz1' : i0.size = 1 := hz1
  have hzs' : z.cells.size = 1 := hzs
  have hn : ∀ j u, [SlV x][j]? = some u → w.cell? (ad.add j) = some u := by
    intro j u hj
    cases j with
    | zero => simp at hj; subst hj; simpa [Addr.add] using hv
    | succ j => simp at hj
  have get : ∀ (xs : List Value), xs.length = L.length → (∀ i (hi : i < L.length), ∃ u, xs[i]? = some u ∧ Tx w FT u L[i]) → ∀ w', w.heap.size ≤ w'.heap.size → (∀ b, FT b → b < w.heap.size → w'.heap[b]? = w.heap[b]?) → ∀ i (hi : i < (L ++ [t]).length), ∃ u, (xs ++ [SlV x])[i]? = some u ∧ Tx w' FT u (L ++ [t])[i] := by
    intro xs hxl hxs w' hz hb i hi
    by_cases hlt : i < L.length
    · obtain ⟨u, h1, h2⟩ := hxs i hlt
      refine ⟨u, by rw [List.getElem?_append_left (by omega)]; exact h1, ?_⟩
      rw [List.getElem_append_left hlt]
      exact h2.keep hz hb fun _ e => e
    · have hl : i = L.length := by simp at hi; omega
      subst hl
      refine ⟨SlV x, by rw [List.getElem?_append_right (by omega), hxl]; simp, ?_⟩
      simp only [List.getElem_append_right (Nat.le_refl _), Nat.sub_self, List.getElem_singleton]
      exact hx.keep hz hb fun _ e => e
  rcases h with ⟨rfl, rfl, rfl⟩ | ⟨B, off, cur, rfl, hFB, hnT, hh, hoc, hlc, hcm, hall⟩
  · obtain ⟨v', w', hr, h2, h3, h4⟩ := rowS.run w 0 w.heap.size (.slice none 0 0) [] (World.ownsRow_nil _ _ _ _) ad 1 cc [x] rfl hn (by simp) (by simp) (Nat.le_refl _)
    have hb : But (blk none) w w' := (But.grown h3).mono fun j _ e => by cases e
    obtain ⟨a', c', rfl, hrw⟩ := rw_of_own (FT := FT) (FB := fun b => FB b ∨ (w.heap.size ≤ b ∧ b < w'.heap.size)) (L := [t]) (xs := [SlV x]) h2 (get [] rfl (fun i hi => absurd hi (Nat.not_lt_zero _)) w' h3.size fun b _ hl => h3.block b hl (fun e => by cases e)) hT (fun b h1 h2 => .inr ⟨h1, h2⟩) Nat.one_pos
    exact ⟨a', c', w', fun ty => hr, hb, hrw⟩
  · by_cases hroom : L.length + 1 ≤ c
    · have hr := fun ty => run_append_mid Try.prog w 40 ty 30 i0 hS hi0 hz1' B off L.length c cur hh ad cc (SlV x) hv rfl hroom (by omega)
      refine ⟨_, c, _, hr, ⟨rfl, rfl, rfl, by simp, fun k _ hk => setRow_other w B k _ fun e => hk ⟨_, rfl, e.symm⟩⟩, .inr ⟨B, off, _, rfl, .inl hFB, hnT, setRow_heap w B cur _ 30 _ hh, ?_, by simpa using hroom, hcm, ?_⟩⟩
      · simp only [List.size_toArray, List.length_append, List.length_take, List.length_drop, List.length_singleton, Array.length_toList]
        omega
      · intro i hi
        have hcl : cur.toList.length = cur.size := by simp
        have hi' : i < L.length + 1 := by simpa using hi
        by_cases hlt : i < L.length
        · obtain ⟨u, h1, h2⟩ := hall i hlt
          refine ⟨u, ?_, ?_⟩
          · rw [List.getElem?_toArray, List.append_assoc, List.getElem?_append_left (by rw [List.length_take]; omega), List.getElem?_take_of_lt (by omega)]
            simpa using h1
          · rw [List.getElem_append_left hlt]
            exact h2.keep (by simp) (fun b hb _ => setRow_other w B b _ fun e => hnT (e ▸ hb)) fun _ e => e
        · have hl : i = L.length := by omega
          subst hl
          refine ⟨SlV x, ?_, ?_⟩
          · rw [List.getElem?_toArray, List.append_assoc, List.getElem?_append_right (by rw [List.length_take]; omega), List.length_take, Nat.min_eq_left (by omega), Nat.sub_self]
            rfl
          · simp only [List.getElem_append_right (Nat.le_refl _), Nat.sub_self, List.getElem_singleton]
            exact hx.keep (by simp) (fun b hb _ => setRow_other w B b _ fun e => hnT (e ▸ hb)) fun _ e => e
    · have hcl : cur.toList.length = cur.size := by simp
      have hol : ((cur.toList.drop off).take L.length).length = L.length := by rw [List.length_take, List.length_drop]; omega
      have hoi : ∀ i, i < L.length → ((cur.toList.drop off).take L.length)[i]? = cur[off + i]? := fun i hi => by
        rw [List.getElem?_take_of_lt hi, List.getElem?_drop]
        simp
      obtain ⟨v', w', hr, h2, h3⟩ := run_append_arg_grows (P := Try.prog) w 40 0 30 i0 z 1 24 hS hi0 hz0 hz1' hz2 hzs' Nat.one_pos ⟨B, off, none⟩ L.length c ((cur.toList.drop off).take L.length) (by rw [hol, Nat.mul_one]) (fun j u hj => by
        have hjl : j < L.length := by have := (List.getElem?_eq_some_iff.1 hj).1; omega
        rw [hoi j hjl] at hj
        rw [Addr.add_lit, cell_of_row _ _ _ _ _ _ hh]
        exact hj) ad 1 cc [SlV x] rfl hn (by omega) (by unfold maxLen; omega) (by omega)
      have hb : But (blk (some ⟨B, off, none⟩)) w w' := (But.grown h3).mono fun j _ e => by cases e
      obtain ⟨a', c', rfl, hrw⟩ := rw_of_own (FT := FT) (FB := fun b => FB b ∨ (w.heap.size ≤ b ∧ b < w'.heap.size)) (L := L ++ [t]) (v := v') (by rw [List.length_append]; exact h2) (get _ hol (fun i hi => by
        obtain ⟨u, k1, k2⟩ := hall i hi
        exact ⟨u, by rw [hoi i hi]; exact k1, k2⟩) w' h3.size fun b _ hl => h3.block b hl (fun e => by cases e)) hT (fun b h1 h2 => .inr ⟨h1, h2⟩) (by simp)
      refine ⟨a', c', w', fun ty => ?_, hb, hrw⟩
      rw [List.length_append] at hr
      exact hr
/-- as one step of a region that draws -/
theorem Rw.step {w : World} {FT FB : Nat → Prop} {a : Option Addr} {c : Nat} {L : List By} {ops : Array Oper} {o : Oper} {ac : Act} {K : Act → World → Prop} {Q : Exit → Act → World → Prop} {E : Prop} (hgd : o.guard = none) (s y : Operand)
    (ho : o.op = .call { callee := .builtin .append, args := #[s, y], argTypes := #[40, 40] })
    (n : Nat) (hn : n = L.length) (h : Rw w FT FB a c L) (hT : ∀ b, FT b → b < w.heap.size) (hL : L.length + 1 ≤ 1000000) (t : By) (x : Sl) (hx : Tx w FT (SlV x) t) (ad : Addr) (cc : Nat) (hv : w.cell? ad = some (SlV x)) (hs : ac.eval s = .slice a n c) (hy : ac.eval y = .slice (some ad) 1 cc)
    (hK : ∀ a' c' w', But (blk a) w w' → Rw w' FT (fun b => FB b ∨ (w.heap.size ≤ b ∧ b < w'.heap.size)) a' c' (L ++ [t]) → K (ac.put o.dst (.slice a' (n + 1) c')) w') :
    if Region.wanted o (yielded ops ac.tmps) = true then Oper.wp Try.prog o ac w K Q else E := by
  subst hn
  have hw : Region.wanted o (yielded ops ac.tmps) = true := by simp [Region.wanted, hgd]
  rw [if_pos hw]
  obtain ⟨a', c', w', hr, h2, h3⟩ := h.push hT hL t x hx ad cc hv
  have hr := hr o.type
  unfold Oper.wp execOp
  simp only [ho, resolve, invoke, builtin, Sem.run_bind, Sem.run_pure, Result.andThen_ok, List.map_toArray, List.map_cons, List.map_nil, hs, hy, hr]
  exact hK a' c' w' h2 h3
end Go.Proofs.Ytfchfhkhflghbaa
