/-
  Are two messages the same? As facts.
-/
import Derived.Test.YtdpfmaikijilkaaE1
namespace Go.Proofs.Ytdpfmaikijilkaa
open Go Go.RowKit Go.Sort Go.Proofs

/-- are two requests the same? -/
def sameQ (a b : Rq) : Bool := decide (a.kind = b.kind) && decide (a.id = b.id) && decide (a.ver = b.ver) && decide (a.model = b.model) && decide ((a.time, a.org, a.seq, a.pt, a.ek, a.dat) = (b.time, b.org, b.seq, b.pt, b.ek, b.dat)) &&
  decide (a.num = b.num) && decide ((a.bp, a.bk, a.bt) = (b.bp, b.bk, b.bt)) && decide (a.pr = b.pr) && decide (a.nm = b.nm) && decide (a.dn = b.dn)
theorem sameQ_iff (a b : Rq) : sameQ a b = true ↔ a = b := by
  cases a; cases b
  simp [sameQ]
  constructor
  · rintro ⟨⟨⟨⟨⟨⟨⟨⟨⟨h1, h2⟩, h3⟩, h4⟩, h5⟩, h6⟩, h7⟩, h8⟩, h9⟩, h10⟩
    simp_all
  · intro h
    simp_all
/-- are two responses the same? -/
def sameS (a b : Rs) : Bool := decide (a.kind = b.kind) && decide (a.id = b.id) && decide (a.err = b.err) && decide (a.floor = b.floor) && decide (a.vars = b.vars) && decide ((a.rt, a.ro, a.rs, a.rp, a.rn, a.rv) = (b.rt, b.ro, b.rs, b.rp, b.rn, b.rv)) &&
  decide (a.num = b.num) && decide ((a.time, a.org, a.seq, a.pt, a.ek, a.dat) = (b.time, b.org, b.seq, b.pt, b.ek, b.dat))
theorem sameS_iff (a b : Rs) : sameS a b = true ↔ a = b := by
  cases a; cases b
  simp [sameS]
  constructor
  · rintro ⟨⟨⟨⟨⟨⟨⟨h1, h2⟩, h3⟩, h4⟩, h5⟩, h6⟩, h7⟩, h8⟩
    simp_all
  · intro h
    simp_all
theorem sameQ_self (a : Rq) : sameQ a a = true := (sameQ_iff a a).2 rfl
theorem sameS_self (a : Rs) : sameS a a = true := (sameS_iff a a).2 rfl
theorem sameQ_ne {a b : Rq} (h : a ≠ b) : sameQ a b = false := by
  cases hs : sameQ a b with
  | true => exact absurd ((sameQ_iff a b).1 hs) h
  | false => rfl
theorem sameS_ne {a b : Rs} (h : a ≠ b) : sameS a b = false := by
  cases hs : sameS a b with
  | true => exact absurd ((sameS_iff a b).1 hs) h
  | false => rfl
theorem eq_of_gets {α : Type} {l r : List α} {n : Nat} (h1 : n = l.length) (h2 : n = r.length) (h : ∀ j, j < n → l[j]? = r[j]?) : l = r := by
  refine List.ext_getElem? fun j => ?_
  by_cases hj : j < n
  · exact h j hj
  · rw [List.getElem?_eq_none (by omega), List.getElem?_eq_none (by omega)]
/-- some draws on -/
def Dn (w w' : World) : Prop := ∃ q, w' = w.drewN q
theorem Dn.refl (w : World) : Dn w w := ⟨0, rfl⟩
theorem Dn.drew {a b : World} (h : Dn a b) : Dn a b.drew := by
  obtain ⟨q, rfl⟩ := h
  exact ⟨q + 1, rfl⟩
theorem Dn.below {a b : World} (h : Dn a b) : Below a.heap.size a b := by
  obtain ⟨q, rfl⟩ := h
  exact ⟨rfl, rfl, rfl, Nat.le_refl _, fun _ _ => rfl⟩
def DnV (v : Value) (w : World) (e : Ending) (w' : World) : Prop := e = .returned v ∧ Dn w w'
theorem CV_cell {w : World} {a : Option Addr} {n : Nat} {l : List Int} (h : CV.At w a n l) {i : Nat} (hi : i < n) : ∃ B off, a = some ⟨B, off, none⟩ ∧ ∃ x : Int, l[i]? = some x ∧ w.cell? ⟨B, off + i, none⟩ = some (.int .i64 x) := by
  obtain ⟨B, off, rfl, hB, x, hx, hc⟩ := h.cell hi
  have := hc 0 (by decide)
  rw [show off + i * CV.k + 0 = off + i by show off + i * 1 + 0 = _; omega] at this
  exact ⟨B, off, rfl, x, hx, this⟩
end Go.Proofs.Ytdpfmaikijilkaa
