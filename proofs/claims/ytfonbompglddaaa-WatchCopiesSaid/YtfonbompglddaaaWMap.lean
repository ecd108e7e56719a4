/-
  A map from numbers to breakpoints, in a block: it tells a list.
-/
import Derived.Test.YtfonbompglddaaaWList
import Derived.Maps.Own
import Derived.Maps.OwnSet
import Derived.Maps.Range
import Derived.Maps.Views
import Derived.WalkArith
namespace Go.Proofs.Ytfonbompglddaaa
open Go Go.RowKit Go.Sort Go.Proofs Go.MapKept

abbrev kl (i : Nat) : Lit := .int .u32 (i : Nat)
def bD (b : Bk) : DataW Unit := .agg [.lit (.int .i64 b.1), .lit (.int .i64 b.2.1), .lit (.int .i64 b.2.2)]
/-- how a breakpoint reads -/
def bR (v : Value) : Option (DataW Unit × List MemPlace) :=
  match v with
  | .agg a => match a.toList with
    | [.int .i64 p, .int .i64 k, .int .i64 t] => some (bD (p, k, t), [])
    | _ => none
  | _ => none
theorem bR_mk (b : Bk) : bR (BkV b) = some (bD b, []) := rfl
theorem bR_inv {v : Value} {y : DataW Unit × List MemPlace} (h : bR v = some y) : ∃ b : Bk, v = BkV b ∧ y = (bD b, []) := by
  unfold bR at h
  split at h
  · next a =>
    split at h
    · next p k t e =>
      refine ⟨(p, k, t), ?_, (Option.some.inj h).symm⟩
      have : a = #[.int .i64 p, .int .i64 k, .int .i64 t] := by
        rw [← Array.toList_inj, e]
      rw [this]
    · cases h
  · cases h
theorem bD_inj {b c : Bk} (h : bD b = bD c) : b = c := by
  unfold bD at h
  simp at h
  obtain ⟨h1, h2, h3⟩ := h
  exact Prod.ext h1 (Prod.ext h2 h3)
theorem kl_inj {i j : Nat} (h : kl i = kl j) : i = j := by
  have := (Lit.int.inj h).2
  omega
theorem kl_wf {i : Nat} (h : i < 4294967296) : (kl i).wf = true := WalkArith.wf_u32 ⟨by omega, by omega⟩
theorem kl_key (i : Nat) : WideAt.IsKeyLit (kl i) := trivial

abbrev uT : TypeId := 31
abbrev mT : TypeId := 55
theorem hK : Maps.Keyed Try.prog uT := Maps.int_keyed Try.underlying31
theorem hMT : Try.prog.underlying mT = some (.map uT 33) := Try.underlying55
theorem key_of {i : Nat} (h : i < 4294967296) : keyOf Try.prog uT (.int .u32 (i : Nat)) = some (kl i) := Maps.keyOf_int_mk Try.underlying31 (kl_wf h)
theorem zero_b (w : World) : (zeroValue 33).run Try.prog w = .ok (BkV bZ) w := by kernel_rfl

/-- a datum says what a list holds -/
structure Says (D : DataW Unit) (L : List On) : Prop where
  size : Maps.size D = L.length
  has : ∀ x ∈ L, Maps.has D (kl x.1) = true ∧ ∀ z, D.atKey (kl x.1) z = bD x.2
  of : ∀ l, Maps.has D l = true → ∃ x ∈ L, l = kl x.1
theorem Says.some {D : DataW Unit} {L : List On} (h : Says D L) {i : Nat} {b : Bk} (hg : lget L i = some b) : Maps.has D (kl i) = true ∧ ∀ z, D.atKey (kl i) z = bD b := h.has (i, b) (lget_some hg)
theorem Says.none {D : DataW Unit} {L : List On} (h : Says D L) {i : Nat} (hg : lget L i = none) : Maps.has D (kl i) = false := by
  cases hh : Maps.has D (kl i) with
  | false => rfl
  | true =>
    obtain ⟨x, hx, e⟩ := h.of _ hh
    exact absurd (kl_inj e).symm (lget_none hg x hx)
/-- block M is a map that tells L -/
def MapL (w : World) (M : Nat) (L : List On) : Prop := ∃ D : DataW Unit, w.ownsMap Try.prog uT bR M L.length D ∧ Says D L
theorem MapL.lt {w : World} {M : Nat} {L : List On} (h : MapL w M L) : M < w.heap.size := by
  obtain ⟨D, h, _⟩ := h
  exact h.lt
theorem MapL.same {w w' : World} {M : Nat} {L : List On} (h : MapL w M L) (hb : w'.heap[M]? = w.heap[M]?) : MapL w' M L := by
  obtain ⟨D, ⟨es, c, h1, h2⟩, h3⟩ := h
  exact ⟨D, ⟨es, c, hb.trans h1, h2⟩, h3⟩
theorem MapL.made (w : World) : MapL (w.alloc (.map #[] 0)) w.heap.size [] := ⟨.map [], World.ownsMap_made w _ _ _, rfl, (fun _ h => by cases h), fun l h => by cases h⟩
theorem own_tight {w : World} {M n : Nat} {D : DataW Unit} (h : w.ownsMap Try.prog uT bR M n D) : w.ownsMap Try.prog uT bR M (Maps.size D) D := by
  obtain ⟨es, c, h1, h2, h3, h4⟩ := h
  refine ⟨es, c, h1, h2, ?_, h4⟩
  rw [h4]
  simp [Maps.size, length_sorted]
theorem MapL.of {w : World} {M n : Nat} {D : DataW Unit} {L : List On} (h : w.ownsMap Try.prog uT bR M n D) (hs : Says D L) : MapL w M L := ⟨D, hs.size ▸ own_tight h, hs⟩

theorem MapL.look {w : World} {M : Nat} {L : List On} (h : MapL w M L) {i : Nat} (hi : i < 4294967296) :
    (Instr.lookup mT (.map (some M)) (.int .u32 (i : Nat)) true).run Try.prog w = .ok (.tuple #[BkV ((lget L i).getD bZ), .bool (lget L i).isSome]) w := by
  obtain ⟨D, h1, h2⟩ := h
  obtain ⟨v, ps, hrun, hv⟩ := h1.look_ok hK hMT (zero_b w) (bR_mk bZ) (key_of hi)
  rw [hrun]
  obtain ⟨b, rfl, hb⟩ := bR_inv hv
  have hb := (Prod.mk.inj hb).1
  cases hg : lget L i with
  | none =>
    rw [h2.none hg]
    rw [Maps.atKey_of_not_has (h2.none hg)] at hb
    rw [← bD_inj hb]
    rfl
  | some c =>
    obtain ⟨g1, g2⟩ := h2.some hg
    rw [g1]
    rw [g2] at hb
    rw [← bD_inj hb]
    rfl
theorem MapL.look1 {w : World} {M : Nat} {L : List On} (h : MapL w M L) {i : Nat} (hi : i < 4294967296) :
    (Instr.lookup mT (.map (some M)) (.int .u32 (i : Nat)) false).run Try.prog w = .ok (BkV ((lget L i).getD bZ)) w := by
  obtain ⟨D, h1, h2⟩ := h
  obtain ⟨v, ps, hrun, hv⟩ := h1.lookup hK hMT (zero_b w) (bR_mk bZ) (key_of hi)
  rw [hrun]
  obtain ⟨b, rfl, hb⟩ := bR_inv hv
  have hb := (Prod.mk.inj hb).1
  cases hg : lget L i with
  | none =>
    rw [Maps.atKey_of_not_has (h2.none hg)] at hb
    rw [← bD_inj hb]
    rfl
  | some c =>
    obtain ⟨g1, g2⟩ := h2.some hg
    rw [g2] at hb
    rw [← bD_inj hb]
    rfl
theorem look_nil (w : World) {i : Nat} (hi : i < 4294967296) : (Instr.lookup mT (.map none) (.int .u32 (i : Nat)) true).run Try.prog w = .ok (.tuple #[BkV bZ, .bool false]) w :=
  Maps.look_nil true hK hMT (zero_b w) (key_of hi)
theorem MapL.len {w : World} {M : Nat} {L : List On} (h : MapL w M L) (ty : TypeId) : (Builtin.len_ #[mT] ty #[.map (some M)]).run Try.prog w = .ok (.int .i64 L.length) w := by
  obtain ⟨D, h1, h2⟩ := h
  rw [h1.len hMT ty, h2.size]
theorem MapL.put {w : World} {M : Nat} {L : List On} (h : MapL w M L) (x : On) (hi : x.1 < 4294967296) (hn : lget L x.1 = none) (hl : L.length < 16) :
    ∃ w', (Instr.mapUpdate mT (.map (some M)) (.int .u32 (x.1 : Nat)) (BkV x.2)).run Try.prog w = .ok () w' ∧ MapL w' M (ins x L) ∧ w.grownBy w' (some M) := by
  obtain ⟨D, h1, h2⟩ := h
  obtain ⟨w', hrun, h3, h4⟩ := h1.store hK hMT (by unfold maxLen; omega) (key_of hi) (bR_mk x.2)
  have hm := h1.isMap
  have hno := h2.none hn
  refine ⟨w', hrun, MapL.of h3 ⟨?_, fun y hy => ?_, fun l hl => ?_⟩, h4.grown⟩
  · rw [Maps.size_put (h1.tidy hK), if_neg (by rw [hno]; simp), h2.size, ins_len]
  · rcases (ins_mem x L y).1 hy with rfl | hy
    · exact ⟨Maps.has_put_same hm (kl_key _) _, fun z => Maps.atKey_put_same hm (kl_key _) _ _⟩
    · have hne : kl y.1 ≠ kl x.1 := fun e => lget_none hn y hy (kl_inj e)
      obtain ⟨g1, g2⟩ := h2.has y hy
      exact ⟨by rw [Maps.has_put_other hne]; exact g1, fun z => by rw [Maps.atKey_put_other hne]; exact g2 z⟩
  · by_cases e : l = kl x.1
    · exact ⟨x, (ins_mem x L x).2 (.inl rfl), e⟩
    · rw [Maps.has_put_other e] at hl
      obtain ⟨y, hy, e2⟩ := h2.of l hl
      exact ⟨y, (ins_mem x L y).2 (.inr hy), e2⟩
theorem MapL.drop {w : World} {M : Nat} {L : List On} (h : MapL w M L) (hL : Wl L) {i : Nat} {b : Bk} (hi : i < 4294967296) (hg : lget L i = some b) (ty : TypeId) :
    ∃ w', (Builtin.delete_ #[mT, uT] ty #[.map (some M), .int .u32 (i : Nat)]).run Try.prog w = .ok (.tuple #[]) w' ∧ MapL w' M (del i L) ∧ w.grownBy w' (some M) := by
  obtain ⟨D, h1, h2⟩ := h
  obtain ⟨w', hrun, h3, h4⟩ := h1.drop hK hMT (key_of hi) ty
  obtain ⟨k, hk⟩ := lget_at hg
  obtain ⟨y1, y2⟩ := h2.some hg
  refine ⟨w', hrun, MapL.of h3 ⟨?_, fun y hy => ?_, fun l hl => ?_⟩, h4.grown⟩
  · have := Maps.size_del (k := kl i) (h1.tidy hK)
    rw [y1, h2.size, ← del_len hL.up hk] at this
    simpa using this
  · obtain ⟨hy, hne⟩ := (del_mem i L y).1 hy
    have hne : kl y.1 ≠ kl i := fun e => hne (kl_inj e)
    obtain ⟨g1, g2⟩ := h2.has y hy
    exact ⟨by rw [Maps.has_del_other hne]; exact g1, fun z => by rw [Maps.atKey_del_other hne]; exact g2 z⟩
  · by_cases e : l = kl i
    · rw [e, Maps.has_del_same] at hl
      cases hl
    · rw [Maps.has_del_other e] at hl
      obtain ⟨y, hy, e2⟩ := h2.of l hl
      exact ⟨y, (del_mem i L y).2 ⟨hy, fun e3 => e (by rw [e2, e3])⟩, e2⟩
end Go.Proofs.Ytfonbompglddaaa
