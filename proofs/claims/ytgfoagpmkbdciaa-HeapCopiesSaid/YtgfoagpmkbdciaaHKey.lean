/-
  Keys, events and items as plain numbers; their order; no program.
-/
import Derived.Shelf.SlSortCmp.Insertion
import Derived.Sort.LotA
namespace Go.Proofs.Ytgfoagpmkbdciaa
open Go.Sort Go.Proofs
/-- a key: its time, origin, seq -/
abbrev Ky := Int × Int × Int
/-- an event: its key, to, kind, datum -/
abbrev Ev := Ky × Int × Int × Int
def kLt (a b : Ky) : Bool := if a.1 = b.1 then (if a.2.1 = b.2.1 then decide (a.2.2 < b.2.2) else decide (a.2.1 < b.2.1)) else decide (a.1 < b.1)
def kCmp (a b : Ky) : Int := if a = b then 0 else if kLt a b then -1 else 1
def evLt (x y : Ev) : Bool := kLt x.1 y.1
def evCmp (x y : Ev) : Int := kCmp x.1 y.1
theorem kLt_iff (a b : Ky) : kLt a b = true ↔ a.1 < b.1 ∨ (a.1 = b.1 ∧ (a.2.1 < b.2.1 ∨ (a.2.1 = b.2.1 ∧ a.2.2 < b.2.2))) := by
  unfold kLt
  split
  · split
    · simp only [decide_eq_true_eq]; omega
    · simp only [decide_eq_true_eq]; omega
  · simp only [decide_eq_true_eq]; omega
theorem kLt_false (a b : Ky) : kLt a b = false ↔ ¬ (a.1 < b.1 ∨ (a.1 = b.1 ∧ (a.2.1 < b.2.1 ∨ (a.2.1 = b.2.1 ∧ a.2.2 < b.2.2)))) := by
  rw [← kLt_iff]
  simp
theorem kLt_swo : SWO kLt where
  irrefl x := by rw [kLt_false]; omega
  trans x y z h1 h2 := by rw [kLt_iff] at *; omega
  ntrans x y z h1 h2 := by rw [kLt_false] at *; omega
theorem ky_eq {a b : Ky} (h1 : kLt a b = false) (h2 : kLt b a = false) : a = b := by
  rw [kLt_false] at h1 h2
  obtain ⟨a1, a2, a3⟩ := a
  obtain ⟨b1, b2, b3⟩ := b
  simp only at h1 h2
  simp only [Prod.mk.injEq]
  omega
theorem evLt_swo : SWO evLt := ⟨fun x => kLt_swo.irrefl x.1, fun x y z => kLt_swo.trans x.1 y.1 z.1, fun x y z => kLt_swo.ntrans x.1 y.1 z.1⟩
theorem kCmp_neg (a b : Ky) : decide (kCmp a b < 0) = kLt a b := by
  unfold kCmp
  split
  · next h =>
    subst h
    rw [kLt_swo.irrefl]
    rfl
  · split
    · next h => rw [h]; rfl
    · next h => simp at h; rw [h]; rfl
theorem ltOf_evCmp : ltOf evCmp = evLt := by
  funext x y
  exact kCmp_neg x.1 y.1
/-- the document's comparison -/
theorem kCmp_eq (a b : Ky) : kCmp a b = if kLt b a then 1 else if kLt a b then -1 else 0 := by
  unfold kCmp
  by_cases h : a = b
  · subst h
    rw [kLt_swo.irrefl]
    simp
  · rw [if_neg h]
    cases h1 : kLt a b with
    | true => rw [kLt_swo.asymmA h1]; rfl
    | false =>
      cases h2 : kLt b a with
      | true => rfl
      | false => exact absurd (ky_eq h1 h2) h
theorem kCmp_symm (a b : Ky) : kCmp b a = -kCmp a b := by
  rw [kCmp_eq a b, kCmp_eq b a]
  cases h1 : kLt a b with
  | true => rw [kLt_swo.asymmA h1]; rfl
  | false =>
    cases h2 : kLt b a with
    | true => rfl
    | false => rfl
theorem kCmp_zero (a b : Ky) : kCmp a b = 0 ↔ a = b := by
  unfold kCmp
  by_cases h : a = b
  · simp [h]
  · rw [if_neg h]
    split <;> simp [h]

/-- an item: its event, its serial -/
abbrev It := Ev × Int
/-- a name: its origin, its serial -/
abbrev Nm := Int × Int
def nm (x : It) : Nm := (x.1.1.2.1, x.2)
def iLt (x y : It) : Bool := kLt x.1.1 y.1.1 || (decide (x.1.1 = y.1.1) && decide (x.2 < y.2))
def sCmp (a b : Int) : Int := if a < b then -1 else if b < a then 1 else 0
def iCmp (x y : It) : Int := if kCmp x.1.1 y.1.1 = 0 then sCmp x.2 y.2 else kCmp x.1.1 y.1.1
theorem iLt_iff (x y : It) : iLt x y = true ↔ kLt x.1.1 y.1.1 = true ∨ (x.1.1 = y.1.1 ∧ x.2 < y.2) := by
  unfold iLt
  simp
theorem iLt_false (x y : It) : iLt x y = false ↔ ¬ (kLt x.1.1 y.1.1 = true ∨ (x.1.1 = y.1.1 ∧ x.2 < y.2)) := by
  rw [← iLt_iff]
  simp
theorem iLt_swo : SWO iLt where
  irrefl x := by
    rw [iLt_false]
    have := kLt_swo.irrefl x.1.1
    simp [this]
  trans x y z h1 h2 := by
    rw [iLt_iff] at *
    rcases h1 with h1 | ⟨e1, l1⟩ <;> rcases h2 with h2 | ⟨e2, l2⟩
    · exact .inl (kLt_swo.trans _ _ _ h1 h2)
    · exact .inl (e2 ▸ h1)
    · exact .inl (e1 ▸ h2)
    · exact .inr ⟨e1.trans e2, by omega⟩
  ntrans x y z h1 h2 := by
    rw [iLt_false] at *
    intro h
    have a1 : kLt x.1.1 y.1.1 = false := by cases e : kLt x.1.1 y.1.1 with
      | true => exact absurd (.inl e) h1
      | false => rfl
    have a2 : kLt y.1.1 z.1.1 = false := by cases e : kLt y.1.1 z.1.1 with
      | true => exact absurd (.inl e) h2
      | false => rfl
    rcases h with h | ⟨e, l⟩
    · rw [kLt_swo.ntrans _ _ _ a1 a2] at h
      cases h
    · have b1 : kLt y.1.1 x.1.1 = false := by rw [e]; exact a2
      have e1 := ky_eq a1 b1
      have e2 : y.1.1 = z.1.1 := e1.symm.trans e
      have c1 : ¬ x.2 < y.2 := fun c => h1 (.inr ⟨e1, c⟩)
      have c2 : ¬ y.2 < z.2 := fun c => h2 (.inr ⟨e2, c⟩)
      omega
/-- neither comes ahead: of one name -/
theorem nm_of_eqv {x y : It} (h1 : iLt x y = false) (h2 : iLt y x = false) : nm x = nm y := by
  rw [iLt_false] at h1 h2
  have a1 : kLt x.1.1 y.1.1 = false := by cases e : kLt x.1.1 y.1.1 with
    | true => exact absurd (.inl e) h1
    | false => rfl
  have a2 : kLt y.1.1 x.1.1 = false := by cases e : kLt y.1.1 x.1.1 with
    | true => exact absurd (.inl e) h2
    | false => rfl
  have e := ky_eq a1 a2
  have c1 : ¬ x.2 < y.2 := fun c => h1 (.inr ⟨e, c⟩)
  have c2 : ¬ y.2 < x.2 := fun c => h2 (.inr ⟨e.symm, c⟩)
  unfold nm
  rw [e, show x.2 = y.2 by omega]
theorem iCmp_neg (x y : It) : decide (iCmp x y < 0) = iLt x y := by
  unfold iCmp
  rw [Bool.eq_iff_iff, iLt_iff, decide_eq_true_eq]
  split
  · next h =>
    have e := (kCmp_zero _ _).1 h
    rw [e, kLt_swo.irrefl]
    unfold sCmp
    split
    · simp; omega
    · split
      · simp; omega
      · simp; omega
  · next h =>
    have hne : x.1.1 ≠ y.1.1 := fun e => h ((kCmp_zero _ _).2 e)
    have := kCmp_neg x.1.1 y.1.1
    rw [← this]
    simp [hne]
theorem ltOf_iCmp : ltOf iCmp = iLt := by
  funext x y
  exact iCmp_neg x y
theorem iLt_of_nlt {x y : It} (h : iLt x y = false) (hn : nm x ≠ nm y) : iLt y x = true := by
  cases e : iLt y x with
  | true => rfl
  | false => exact absurd (nm_of_eqv h e) hn
end Go.Proofs.Ytgfoagpmkbdciaa
