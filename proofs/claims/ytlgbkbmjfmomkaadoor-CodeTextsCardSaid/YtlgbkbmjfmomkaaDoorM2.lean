/-
  Reading programs' texts as code does: what is read is written as that text; what is written is read.
-/
import Derived.Test.YtlgbkbmjfmomkaaDoorM1
namespace CodM
open Go

/-- the operation of a word -/
def opOf (x : List UInt8) : Option Int := (wordsL.findIdx? (fun y => y == x)).map fun (j : Nat) => (j : Int) + 1
theorem opOf_at : ∀ j : Fin 17, opOf (wordAt j.1) = some ((j.1 : Int) + 1) := by decide
theorem opOf_none {x : List UInt8} (h : opOf x = none) : ∀ j, j < 17 → wordAt j ≠ x := by
  intro j hj e
  have := opOf_at ⟨j, hj⟩
  rw [show wordAt (⟨j, hj⟩ : Fin 17).1 = x from e, h] at this
  cases this
theorem opOf_some {x : List UInt8} {o : Int} (h : opOf x = some o) : ∃ j, j < 17 ∧ x = wordAt j ∧ o = (j : Int) + 1 := by
  unfold opOf at h
  obtain ⟨j, hj, rfl⟩ := Option.map_eq_some_iff.1 h
  obtain ⟨h1, h2, _⟩ := List.findIdx?_eq_some_iff_getElem.1 hj
  refine ⟨j, by simpa [wordsL] using h1, ?_, rfl⟩
  rw [beq_iff_eq] at h2
  rw [← h2]
  simp [wordAt, List.getD, h1]
/-- the instruction that a line says, behind its blanks -/
def rdI (w : List UInt8) : Option Ins := match cutAt 32 w with
  | none => (opOf w).bind fun o => if numbered o then none else some (o, 0)
  | some (x, d) => (opOf x).bind fun o => if numbered o then (numRd d).map fun v => (o, v) else none
/-- do two blanks stand ahead? -/
def pre2 (l : List UInt8) : Bool := ([32, 32] : List UInt8).isPrefixOf l
/-- so many instructions at most, and what is left -/
def rdBody : Nat → List UInt8 → Option (List Ins × List UInt8)
  | 0, l => if pre2 l then none else some ([], l)
  | n + 1, l => if pre2 l then (cutAt 10 l).bind fun p => (rdI (p.1.drop 2)).bind fun i => (rdBody n p.2).map fun q => (i :: q.1, q.2) else some ([], l)
def kindW : List UInt8 := [107, 105, 110, 100]
def varsW : List UInt8 := [118, 97, 114, 115, 32]
def rdTK (l : List UInt8) : Option (List Ins × List UInt8) := (cutAt 10 l).bind fun p => if p.1 = kindW then rdBody 128 p.2 else none
/-- so many kinds at most, up to the end -/
def rdTKs : Nat → List UInt8 → Option (List (List Ins))
  | 0, l => if l = [] then some [] else none
  | n + 1, l => if l = [] then some [] else (rdTK l).bind fun p => (rdTKs n p.2).map fun ks => p.1 :: ks
def rdText (l : List UInt8) : Option Prg := (cutAt 10 l).bind fun p => if varsW.isPrefixOf p.1 then (numRd (p.1.drop 5)).bind fun v => (rdTKs 8 p.2).map fun ks => ⟨v, ks⟩ else none

/- what is read is written as that text -/
theorem rdI_line {w : List UInt8} {i : Ins} (h : rdI w = some i) : line i = 32 :: 32 :: w ++ [10] := by
  unfold rdI at h
  split at h
  · obtain ⟨o, ho, h⟩ := Option.bind_eq_some_iff.1 h
    split at h
    · cases h
    · rename_i hn
      cases h
      obtain ⟨j, hj, rfl, rfl⟩ := opOf_some ho
      unfold line
      simp only [hn, word_in j hj]
      simp
  · rename_i x d hc
    obtain ⟨o, ho, h⟩ := Option.bind_eq_some_iff.1 h
    split at h
    · rename_i hn
      obtain ⟨v, hv, rfl⟩ := Option.map_eq_some_iff.1 h
      obtain ⟨j, hj, rfl, rfl⟩ := opOf_some ho
      have hd := numRd_some hv
      obtain ⟨hw, _⟩ := cutAt_some hc
      unfold line
      simp only [hn, word_in j hj, if_true]
      rw [hw, hd]
      simp
    · cases h
theorem pre2_cut {l x r : List UInt8} (hp : pre2 l = true) (hc : cutAt 10 l = some (x, r)) : ∃ w, x = 32 :: 32 :: w := by
  obtain ⟨h1, h2⟩ := cutAt_some hc
  unfold pre2 at hp
  rw [List.isPrefixOf_iff_prefix] at hp
  obtain ⟨t, ht⟩ := hp
  match x, h1, h2 with
  | [], h1, _ => rw [h1] at ht; simp at ht
  | [a], h1, _ => rw [h1] at ht; simp at ht
  | a :: b :: w, h1, _ =>
    rw [h1] at ht
    simp at ht
    exact ⟨w, by rw [← ht.1, ← ht.2.1]⟩
theorem rdBody_text : ∀ {n : Nat} {l r : List UInt8} {xs : List Ins}, rdBody n l = some (xs, r) → l = xs.flatMap line ++ r ∧ xs.length ≤ n ∧ pre2 r = false
  | 0, l, r, xs, h => by
    unfold rdBody at h
    split at h
    · cases h
    · rename_i hp; cases h; exact ⟨rfl, Nat.le_refl _, by simpa using hp⟩
  | n + 1, l, r, xs, h => by
    unfold rdBody at h
    split at h
    · rename_i hp
      obtain ⟨⟨x, t⟩, hc, h⟩ := Option.bind_eq_some_iff.1 h
      obtain ⟨i, hi, h⟩ := Option.bind_eq_some_iff.1 h
      obtain ⟨⟨ys, r'⟩, hb, h⟩ := Option.map_eq_some_iff.1 h
      cases h
      obtain ⟨e1, e2, e3⟩ := rdBody_text hb
      obtain ⟨w, hw⟩ := pre2_cut hp hc
      simp only at hi hw e1
      rw [hw] at hi
      have hl := rdI_line hi
      obtain ⟨h1, _⟩ := cutAt_some hc
      refine ⟨?_, by simp; exact e2, e3⟩
      rw [List.flatMap_cons, hl, h1, hw, List.append_assoc, ← e1]
      simp
    · rename_i hp; cases h; exact ⟨rfl, by simp, by simpa using hp⟩
theorem rdTK_text {l r : List UInt8} {xs : List Ins} (h : rdTK l = some (xs, r)) : l = kindText xs ++ r ∧ xs.length ≤ 128 := by
  unfold rdTK at h
  obtain ⟨⟨x, t⟩, hc, h⟩ := Option.bind_eq_some_iff.1 h
  split at h
  · rename_i hk
    simp only at hk
    obtain ⟨e1, e2, _⟩ := rdBody_text h
    obtain ⟨h1, _⟩ := cutAt_some hc
    simp only at e1
    refine ⟨?_, e2⟩
    rw [h1, hk, e1]
    simp [kindText, kindW]
  · cases h
theorem rdTKs_text : ∀ {n : Nat} {l : List UInt8} {ks : List (List Ins)}, rdTKs n l = some ks → l = ks.flatMap kindText ∧ ks.length ≤ n
  | 0, l, ks, h => by
    unfold rdTKs at h
    split at h
    · rename_i e; cases h; exact ⟨e, Nat.le_refl _⟩
    · cases h
  | n + 1, l, ks, h => by
    unfold rdTKs at h
    split at h
    · rename_i e; cases h; exact ⟨e, by simp⟩
    · obtain ⟨⟨xs, r⟩, h1, h⟩ := Option.bind_eq_some_iff.1 h
      obtain ⟨ks', h2, h⟩ := Option.map_eq_some_iff.1 h
      cases h
      obtain ⟨e1, _⟩ := rdTK_text h1
      obtain ⟨e3, e4⟩ := rdTKs_text h2
      simp only at e3
      exact ⟨by rw [List.flatMap_cons, ← e3]; exact e1, by simp; exact e4⟩
theorem rdText_text {l : List UInt8} {p : Prg} (h : rdText l = some p) : l = text p ∧ p.kinds.length ≤ 8 := by
  unfold rdText at h
  obtain ⟨⟨x, t⟩, hc, h⟩ := Option.bind_eq_some_iff.1 h
  split at h
  · rename_i hp
    obtain ⟨v, hv, h⟩ := Option.bind_eq_some_iff.1 h
    obtain ⟨ks, hk, h⟩ := Option.map_eq_some_iff.1 h
    cases h
    obtain ⟨e1, e2⟩ := rdTKs_text hk
    obtain ⟨h1, _⟩ := cutAt_some hc
    rw [List.isPrefixOf_iff_prefix] at hp
    obtain ⟨d, hd⟩ := hp
    simp only at hv e1 hd
    have hx := numRd_some hv
    rw [← hd] at hx
    refine ⟨?_, e2⟩
    unfold text
    rw [h1, ← hd, ← e1, ← hx]
    simp [varsW]
  · cases h

/- what is written is read -/
theorem word_no (o : Int) (b : UInt8) (hb : b.toNat < 97) : b ∉ word o := by
  intro h
  unfold word at h
  split at h
  · rename_i ho
    have : ∀ k : Fin 17, ∀ x ∈ wordAt k.1, 97 ≤ x.toNat := by decide
    have := this ⟨(o - 1).toNat, by omega⟩ b h
    omega
  · simp at h
/-- a line's text, behind its blanks -/
def lineIn (x : Ins) : List UInt8 := word x.1 ++ (if numbered x.1 then 32 :: Lib.itoa x.2 else [])
theorem line_eq (x : Ins) : line x = (32 :: 32 :: lineIn x) ++ [10] := by unfold line lineIn; simp
theorem lineIn_no (x : Ins) : (10 : UInt8) ∉ lineIn x := by
  unfold lineIn
  intro h
  rcases List.mem_append.1 h with h | h
  · exact word_no x.1 10 (by decide) h
  · split at h
    · rcases List.mem_cons.1 h with h | h
      · exact absurd h (by decide)
      · exact itoa_no x.2 10 (by decide) h
    · simp at h
theorem mayIns_parts {nk v n : Int} {x : Ins} (h : mayIns nk v n x = true) : (1 ≤ x.1 ∧ x.1 ≤ 17) ∧ (numbered x.1 = false → x.2 = 0) := by
  unfold mayIns at h
  rw [Bool.and_eq_true, decide_eq_true_eq] at h
  refine ⟨h.1, fun hn => ?_⟩
  have h2 := h.2
  unfold numbered at hn
  simp at hn
  unfold mayNum many at h2
  simp [hn] at h2
  omega
theorem rdI_lineIn {nk v n : Int} {x : Ins} (h : mayIns nk v n x = true) (hx : -9223372036854775808 ≤ x.2 ∧ x.2 ≤ 9223372036854775807) : rdI (lineIn x) = some x := by
  obtain ⟨ho, hz⟩ := mayIns_parts h
  obtain ⟨o, m⟩ := x
  obtain ⟨k, hk, rfl⟩ := op_cases o ho
  have hop := opOf_at ⟨k, hk⟩
  simp only at hop hz hx
  have hw : (32 : UInt8) ∉ wordAt k := by have := word_no ((k : Int) + 1) 32 (by decide); rwa [word_in k hk] at this
  unfold lineIn rdI
  simp only [word_in k hk]
  rcases hn : numbered ((k : Int) + 1) with _ | _
  · have hc : cutAt 32 (wordAt k ++ []) = none := by
      rcases hc : cutAt 32 (wordAt k ++ []) with _ | ⟨x, r⟩
      · rfl
      · obtain ⟨h1, _⟩ := cutAt_some hc
        simp only [List.append_nil] at h1
        exact absurd (by rw [h1]; simp) hw
    simp only [Bool.false_eq_true, if_false]
    rw [hc]
    simp only [List.append_nil, hop, Option.bind_some, hn, Bool.false_eq_true, if_false]
    rw [hz hn]
  · simp only [if_true]
    rw [cutAt_of _ _ hw]
    simp only [hop, Option.bind_some, hn, if_true, numRd_itoa m hx.1 hx.2, Option.map_some]
theorem rdBody_of {nk v n : Int} : ∀ (xs : List Ins) (r : List UInt8) (k : Nat), (∀ x ∈ xs, mayIns nk v n x = true ∧ (-9223372036854775808 ≤ x.2 ∧ x.2 ≤ 9223372036854775807)) → xs.length ≤ k → pre2 r = false → rdBody k (xs.flatMap line ++ r) = some (xs, r)
  | [], r, k, _, _, hr => by cases k <;> simp [rdBody, hr]
  | x :: xs, r, 0, _, hl, _ => by simp at hl
  | x :: xs, r, k + 1, hx, hl, hr => by
    obtain ⟨h1, h2⟩ := hx x (by simp)
    have ih := rdBody_of xs r k (fun y hy => hx y (by simp [hy])) (by simpa using hl) hr
    have e : (x :: xs).flatMap line ++ r = (32 :: 32 :: lineIn x) ++ 10 :: (xs.flatMap line ++ r) := by
      rw [List.flatMap_cons, line_eq]; simp
    have hc : cutAt 10 ((32 :: 32 :: lineIn x) ++ 10 :: (xs.flatMap line ++ r)) = some (32 :: 32 :: lineIn x, xs.flatMap line ++ r) := cutAt_of _ _ (by simp [lineIn_no])
    rw [e]
    unfold rdBody
    rw [if_pos (by simp [pre2]), hc]
    simp only [Option.bind_some, List.drop_succ_cons, List.drop_zero, rdI_lineIn h1 h2, ih, Option.map_some]
theorem kindText_pre2 (ks : List (List Ins)) : pre2 (ks.flatMap kindText) = false := by
  cases ks with
  | nil => rfl
  | cons l t => simp [kindText, pre2, List.isPrefixOf]
theorem rdTK_of {nk v : Int} (xs : List Ins) (ks : List (List Ins)) (hx : ∀ x ∈ xs, mayIns nk v xs.length x = true ∧ (-9223372036854775808 ≤ x.2 ∧ x.2 ≤ 9223372036854775807)) (hl : xs.length ≤ 128) : rdTK (kindText xs ++ ks.flatMap kindText) = some (xs, ks.flatMap kindText) := by
  have e : kindText xs ++ ks.flatMap kindText = kindW ++ 10 :: (xs.flatMap line ++ ks.flatMap kindText) := by simp [kindText, kindW]
  have hc : cutAt 10 (kindW ++ 10 :: (xs.flatMap line ++ ks.flatMap kindText)) = some (kindW, xs.flatMap line ++ ks.flatMap kindText) := cutAt_of _ _ (by decide)
  rw [e]
  unfold rdTK
  rw [hc]
  simp only [Option.bind_some, if_true]
  exact rdBody_of xs _ 128 hx hl (kindText_pre2 ks)
theorem rdTKs_of {nk v : Int} : ∀ (ks : List (List Ins)) (n : Nat), (∀ l ∈ ks, mayKind nk v l = true ∧ ∀ x ∈ l, (-9223372036854775808 ≤ x.2 ∧ x.2 ≤ 9223372036854775807)) → ks.length ≤ n → rdTKs n (ks.flatMap kindText) = some ks
  | [], n, _, _ => by cases n <;> simp [rdTKs]
  | l :: ks, 0, _, hl => by simp at hl
  | l :: ks, n + 1, hk, hl => by
    obtain ⟨h1, h2⟩ := hk l (by simp)
    unfold mayKind at h1
    rw [Bool.and_eq_true, decide_eq_true_eq, List.all_eq_true] at h1
    have ih := rdTKs_of ks n (fun y hy => hk y (by simp [hy])) (by simpa using hl)
    have htk := rdTK_of l ks (fun x hx => ⟨h1.2 x hx, h2 x hx⟩) h1.1
    unfold rdTKs
    rw [List.flatMap_cons, if_neg (by simp [kindText]), htk]
    simp only [Option.bind_some, ih, Option.map_some]
theorem rdText_of {nk : Int} {p : Prg} (h : may nk p = true) (hw : ∀ l ∈ p.kinds, ∀ x ∈ l, -9223372036854775808 ≤ x.2 ∧ x.2 ≤ 9223372036854775807) : rdText (text p) = some p := by
  unfold may mayHead at h
  rw [Bool.and_eq_true, decide_eq_true_eq, List.all_eq_true] at h
  obtain ⟨⟨v0, v8, k1, k8⟩, hk⟩ := h
  have e : text p = (varsW ++ Lib.itoa p.vars) ++ 10 :: p.kinds.flatMap kindText := by simp [text, varsW]
  have hc : cutAt 10 ((varsW ++ Lib.itoa p.vars) ++ 10 :: p.kinds.flatMap kindText) = some (varsW ++ Lib.itoa p.vars, p.kinds.flatMap kindText) := cutAt_of _ _ (by
    intro h
    rcases List.mem_append.1 h with h | h
    · exact absurd h (by decide)
    · exact itoa_no p.vars 10 (by decide) h)
  have hks := rdTKs_of (nk := nk) (v := p.vars) p.kinds 8 (fun l hl => ⟨hk l hl, hw l hl⟩) k8
  rw [e]
  unfold rdText
  rw [hc]
  simp only [Option.bind_some]
  rw [if_pos (by simp [varsW, List.isPrefixOf])]
  have hd : (varsW ++ Lib.itoa p.vars).drop 5 = Lib.itoa p.vars := by simp [varsW]
  rw [hd, numRd_itoa p.vars (by omega) (by omega)]
  simp only [Option.bind_some, hks, Option.map_some]
end CodM
