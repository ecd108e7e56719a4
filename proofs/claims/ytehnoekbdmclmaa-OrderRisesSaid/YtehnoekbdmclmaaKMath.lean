/-
  Keys and events as plain numbers; their order; no program.
-/
import Derived.Test.YtehnoekbdmclmaaSMath2
import Derived.Shelf.SlSortCmp.Insertion
namespace Go.Proofs.Ytehnoekbdmclmaa
open Go.Sort Go.Proofs

/-- a key: its time, origin, seq -/
abbrev Ky := Int × Int × Int
/-- an event: its key, to, kind, datum -/
abbrev Ev := Ky × Int × Int × Int
def kLt (a b : Ky) : Bool := if a.1 = b.1 then (if a.2.1 = b.2.1 then decide (a.2.2 < b.2.2) else decide (a.2.1 < b.2.1)) else decide (a.1 < b.1)
def kCmp (a b : Ky) : Int := if a = b then 0 else if kLt a b then -1 else 1
def evLt (x y : Ev) : Bool := kLt x.1 y.1
def evCmp (x y : Ev) : Int := kCmp x.1 y.1
theorem kLt_iff (a b : Ky) : kLt a b = true ↔ a.1 < b.1 ∨ (a.1 = b.1 ∧ (a.2.1 < b.2.1 ∨ (a.2.1 = b.2.1 ∧ a.2.2 < b.2.2))) := by
  unfold kLt
  split
  · split
    · simp only [decide_eq_true_eq]; omega
    · simp only [decide_eq_true_eq]; omega
  · simp only [decide_eq_true_eq]; omega
theorem kLt_false (a b : Ky) : kLt a b = false ↔ ¬ (a.1 < b.1 ∨ (a.1 = b.1 ∧ (a.2.1 < b.2.1 ∨ (a.2.1 = b.2.1 ∧ a.2.2 < b.2.2)))) := by
  rw [← kLt_iff]
  simp
theorem kLt_swo : SWO kLt where
  irrefl x := by rw [kLt_false]; omega
  trans x y z h1 h2 := by rw [kLt_iff] at *; omega
  ntrans x y z h1 h2 := by rw [kLt_false] at *; omega
theorem ky_eq {a b : Ky} (h1 : kLt a b = false) (h2 : kLt b a = false) : a = b := by
  rw [kLt_false] at h1 h2
  obtain ⟨a1, a2, a3⟩ := a
  obtain ⟨b1, b2, b3⟩ := b
  simp only at h1 h2
  simp only [Prod.mk.injEq]
  omega
theorem evLt_swo : SWO evLt := ⟨fun x => kLt_swo.irrefl x.1, fun x y z => kLt_swo.trans x.1 y.1 z.1, fun x y z => kLt_swo.ntrans x.1 y.1 z.1⟩
theorem kCmp_neg (a b : Ky) : decide (kCmp a b < 0) = kLt a b := by
  unfold kCmp
  split
  · next h =>
    subst h
    rw [kLt_swo.irrefl]
    rfl
  · split
    · next h => rw [h]; rfl
    · next h => simp at h; rw [h]; rfl
theorem ltOf_evCmp : ltOf evCmp = evLt := by
  funext x y
  exact kCmp_neg x.1 y.1
/-- the document's comparison -/
theorem kCmp_eq (a b : Ky) : kCmp a b = if kLt b a then 1 else if kLt a b then -1 else 0 := by
  unfold kCmp
  by_cases h : a = b
  · subst h
    rw [kLt_swo.irrefl]
    simp
  · rw [if_neg h]
    cases h1 : kLt a b with
    | true => rw [kLt_swo.asymmA h1]; rfl
    | false =>
      cases h2 : kLt b a with
      | true => rfl
      | false => exact absurd (ky_eq h1 h2) h
theorem kCmp_symm (a b : Ky) : kCmp b a = -kCmp a b := by
  rw [kCmp_eq a b, kCmp_eq b a]
  cases h1 : kLt a b with
  | true => rw [kLt_swo.asymmA h1]; rfl
  | false =>
    cases h2 : kLt b a with
    | true => rfl
    | false => rfl
theorem kCmp_zero (a b : Ky) : kCmp a b = 0 ↔ a = b := by
  unfold kCmp
  by_cases h : a = b
  · simp [h]
  · rw [if_neg h]
    split <;> simp [h]
def evPut (l : List Ev) (e : Ev) : List Ev := StM.put evLt l e
def evSort (l : List Ev) : List Ev := StM.isort evLt l
/-- keys that rise -/
def rises : List Ky → Bool
  | [] => true
  | [_] => true
  | a :: b :: t => kLt a b && rises (b :: t)
end Go.Proofs.Ytehnoekbdmclmaa
