/-
  What is written as bytes is read from them.
-/
import Derived.Test.YtlgbkbmjfmomkaaDoorL6
import Derived.Test.YtlgbkbmjfmomkaaDoorJ3
import Derived.Test.YtlgbkbmjfmomkaaDoorF4
namespace Go.Proofs.YtlgbkbmjfmomkaaDoor
open Go.RowKit CodM

theorem num_be8 (m : Int) (h : I64 m) : wrap64 (numOf (be8 m)) = m := by
  obtain ⟨h0, h1⟩ := h
  have e : be8 m = [beAt m 0, beAt m 1, beAt m 2, beAt m 3, beAt m 4, beAt m 5, beAt m 6, beAt m 7] := rfl
  have b0 : ((beAt m 0).toNat : Int) = m / 72057594037927936 % 256 := byteI_val _
  have b1 : ((beAt m 1).toNat : Int) = m / 281474976710656 % 256 := byteI_val _
  have b2 : ((beAt m 2).toNat : Int) = m / 1099511627776 % 256 := byteI_val _
  have b3 : ((beAt m 3).toNat : Int) = m / 4294967296 % 256 := byteI_val _
  have b4 : ((beAt m 4).toNat : Int) = m / 16777216 % 256 := byteI_val _
  have b5 : ((beAt m 5).toNat : Int) = m / 65536 % 256 := byteI_val _
  have b6 : ((beAt m 6).toNat : Int) = m / 256 % 256 := byteI_val _
  have b7 : ((beAt m 7).toNat : Int) = m / 1 % 256 := byteI_val _
  have hn : numOf (be8 m) = (((((((((beAt m 0).toNat : Int)) * 256 + (beAt m 1).toNat) * 256 + (beAt m 2).toNat) * 256 + (beAt m 3).toNat) * 256 + (beAt m 4).toNat) * 256 + (beAt m 5).toNat) * 256 + (beAt m 6).toNat) * 256 + (beAt m 7).toNat := by
    rw [e]; simp [numOf]
  obtain ⟨q1, e1⟩ : ∃ q, q = m / 256 := ⟨_, rfl⟩
  obtain ⟨q2, e2⟩ : ∃ q, q = q1 / 256 := ⟨_, rfl⟩
  obtain ⟨q3, e3⟩ : ∃ q, q = q2 / 256 := ⟨_, rfl⟩
  obtain ⟨q4, e4⟩ : ∃ q, q = q3 / 256 := ⟨_, rfl⟩
  obtain ⟨q5, e5⟩ : ∃ q, q = q4 / 256 := ⟨_, rfl⟩
  obtain ⟨q6, e6⟩ : ∃ q, q = q5 / 256 := ⟨_, rfl⟩
  obtain ⟨q7, e7⟩ : ∃ q, q = q6 / 256 := ⟨_, rfl⟩
  obtain ⟨q8, e8⟩ : ∃ q, q = q7 / 256 := ⟨_, rfl⟩
  have m1 : m / 256 = q1 := e1.symm
  have m2 : m / 65536 = q2 := by rw [e2, e1]; omega
  have m3 : m / 16777216 = q3 := by rw [e3, ← m2]; omega
  have m4 : m / 4294967296 = q4 := by rw [e4, ← m3]; omega
  have m5 : m / 1099511627776 = q5 := by rw [e5, ← m4]; omega
  have m6 : m / 281474976710656 = q6 := by rw [e6, ← m5]; omega
  have m7 : m / 72057594037927936 = q7 := by rw [e7, ← m6]; omega
  rw [m7] at b0
  rw [m6] at b1
  rw [m5] at b2
  rw [m4] at b3
  rw [m3] at b4
  rw [m2] at b5
  rw [m1] at b6
  rw [Int.ediv_one] at b7
  have c0 : ((beAt m 0).toNat : Int) = q7 - 256 * q8 := by omega
  have c1 : ((beAt m 1).toNat : Int) = q6 - 256 * q7 := by omega
  have c2 : ((beAt m 2).toNat : Int) = q5 - 256 * q6 := by omega
  have c3 : ((beAt m 3).toNat : Int) = q4 - 256 * q5 := by omega
  have c4 : ((beAt m 4).toNat : Int) = q3 - 256 * q4 := by omega
  have c5 : ((beAt m 5).toNat : Int) = q2 - 256 * q3 := by omega
  have c6 : ((beAt m 6).toNat : Int) = q1 - 256 * q2 := by omega
  have c7 : ((beAt m 7).toNat : Int) = m - 256 * q1 := by omega
  have hs : numOf (be8 m) = m - 18446744073709551616 * q8 := by rw [hn, c0, c1, c2, c3, c4, c5, c6, c7]; clear b0 b1 b2 b3 b4 b5 b6 b7 e1 e2 e3 e4 e5 e6 e7 e8 m1 m2 m3 m4 m5 m6 m7; omega
  rw [hs]
  clear b0 b1 b2 b3 b4 b5 b6 b7 e1 e2 e3 e4 e5 e6 e7 e8 m1 m2 m3 m4 m5 m6 m7 c0 c1 c2 c3 c4 c5 c6 c7
  unfold wrap64
  omega
theorem rdIns_of {nk v n : Int} {x : Ins} (h : mayIns nk v n x = true) (hx : I64 x.2) (r : List UInt8) : rdIns (insBytes x ++ r) = some (x, r) := by
  obtain ⟨ho, hz⟩ := mayIns_parts h
  obtain ⟨o, m⟩ := x
  simp only at ho hz hx
  have hb : ((byteI o).toNat : Int) = o := by rw [byteI_val]; omega
  unfold insBytes
  simp only
  rcases hn : numbered o with _ | _
  · simp only [Bool.false_eq_true, if_false, List.cons_append, List.nil_append, rdIns, hb, hn]
    rw [hz hn]
  · simp only [if_true, List.cons_append, rdIns, hb, hn]
    rw [if_neg (by simp [be8_length])]
    have e1 : (be8 m ++ r).take 8 = be8 m := by rw [List.take_append_of_le_length (by rw [be8_length]; exact Nat.le_refl _), List.take_of_length_le (by rw [be8_length]; exact Nat.le_refl _)]
    have e2 : (be8 m ++ r).drop 8 = r := by rw [List.drop_append_of_le_length (by rw [be8_length]; exact Nat.le_refl _), List.drop_eq_nil_of_le (by rw [be8_length]; exact Nat.le_refl _)]; rfl
    rw [e1, e2, num_be8 m hx]
theorem rdN_cons (k : Nat) : ∀ (l r : List UInt8) (x : Ins), rdIns l = some (x, r) → rdN (k + 1) l = (rdN k r).map fun q => (x :: q.1, q.2) := by
  induction k with
  | zero => intro l r x h; simp [rdN, h]
  | succ k ih =>
    intro l r x h
    rw [rdN, ih l r x h, rdN]
    rcases rdN k r with _ | ⟨xs, t⟩
    · rfl
    · simp only [Option.map_some, Option.bind_some]
      rcases rdIns t with _ | ⟨y, t'⟩ <;> rfl
theorem rdN_of {nk v n : Int} : ∀ (xs : List Ins) (r : List UInt8), (∀ x ∈ xs, mayIns nk v n x = true ∧ I64 x.2) → rdN xs.length (xs.flatMap insBytes ++ r) = some (xs, r)
  | [], r, _ => rfl
  | x :: xs, r, h => by
    obtain ⟨h1, h2⟩ := h x (by simp)
    rw [List.flatMap_cons, List.append_assoc, List.length_cons, rdN_cons _ _ _ _ (rdIns_of h1 h2 _), rdN_of xs r (fun y hy => h y (by simp [hy]))]
    rfl
theorem rdKind_of {nk v : Int} (xs : List Ins) (r : List UInt8) (h : mayKind nk v xs = true) (hx : ∀ x ∈ xs, I64 x.2) : rdKind (kindBytes xs ++ r) = some (xs, r) := by
  unfold CodM.mayKind at h
  rw [Bool.and_eq_true, decide_eq_true_eq, List.all_eq_true] at h
  have hb : (byteI (xs.length : Int)).toNat = xs.length := by have := byteI_nat xs.length (by omega); omega
  show rdN (byteI (xs.length : Int)).toNat (xs.flatMap insBytes ++ r) = _
  rw [hb]
  exact rdN_of xs r (fun x hx' => ⟨h.2 x hx', hx x hx'⟩)
theorem rdKs_cons (k : Nat) : ∀ (l r : List UInt8) (x : List Ins), rdKind l = some (x, r) → rdKs (k + 1) l = (rdKs k r).map fun q => (x :: q.1, q.2) := by
  induction k with
  | zero => intro l r x h; simp [rdKs, h]
  | succ k ih =>
    intro l r x h
    rw [rdKs, ih l r x h, rdKs]
    rcases rdKs k r with _ | ⟨xs, t⟩
    · rfl
    · simp only [Option.map_some, Option.bind_some]
      rcases rdKind t with _ | ⟨y, t'⟩ <;> rfl
theorem rdKs_of {nk v : Int} : ∀ (ks : List (List Ins)) (r : List UInt8), (∀ l ∈ ks, mayKind nk v l = true ∧ ∀ x ∈ l, I64 x.2) → rdKs ks.length (ks.flatMap kindBytes ++ r) = some (ks, r)
  | [], r, _ => rfl
  | x :: xs, r, h => by
    obtain ⟨h1, h2⟩ := h x (by simp)
    rw [List.flatMap_cons, List.append_assoc, List.length_cons, rdKs_cons _ _ _ _ (rdKind_of _ _ h1 h2), rdKs_of xs r (fun y hy => h y (by simp [hy]))]
    rfl
theorem rdProg_of {nk : Int} {p : Prg} (h : CodM.may nk p = true) (hw : ∀ l ∈ p.kinds, ∀ x ∈ l, I64 x.2) (r : List UInt8) : rdProg (bytesP p ++ r) = some (p, r) := by
  unfold CodM.may mayHead at h
  rw [Bool.and_eq_true, decide_eq_true_eq, List.all_eq_true] at h
  obtain ⟨⟨v0, v8, k1, k8⟩, hk⟩ := h
  have hb : (byteI (p.kinds.length : Int)).toNat = p.kinds.length := by have := byteI_nat p.kinds.length (by omega); omega
  have hv : ((byteI p.vars).toNat : Int) = p.vars := by rw [byteI_val]; omega
  show (rdKs (byteI (p.kinds.length : Int)).toNat (p.kinds.flatMap kindBytes ++ r)).map _ = _
  rw [hb, rdKs_of p.kinds r (fun l hl => ⟨hk l hl, hw l hl⟩), Option.map_some, hv]
theorem goodP_of {p : Prg} (h : CodM.may (codeNk p) p = true) (hw : ∀ l ∈ p.kinds, ∀ x ∈ l, I64 x.1 ∧ I64 x.2) (r : List UInt8) : goodP (bytesP p ++ r) = some (p, r) :=
  goodP_good (rdProg_of h (fun l hl x hx => (hw l hl x hx).2) r) h
theorem goodT_of {p : Prg} (h : CodM.may (codeNk p) p = true) (hw : ∀ l ∈ p.kinds, ∀ x ∈ l, I64 x.1 ∧ I64 x.2) : goodT (text p) = some p := by
  unfold goodT
  rw [rdText_of h (fun l hl x hx => (hw l hl x hx).2)]
  simp [h]
theorem text_length {p : Prg} (h : CodM.may (codeNk p) p = true) (hw : ∀ l ∈ p.kinds, ∀ x ∈ l, I64 x.1 ∧ I64 x.2) : (text p).length ≤ 40000 := by
  obtain ⟨⟨v0, v8, k1, k8⟩, h128⟩ := may_parts h
  have h1 := kinds_length p.kinds (fun l hl => ⟨hw l hl, h128 l hl⟩)
  have h2 := Lib.itoa_length_le p.vars (by omega) (by omega)
  unfold text
  simp only [List.length_append, List.length_cons, List.length_nil]
  omega
theorem bytes_length {p : Prg} (h : CodM.may (codeNk p) p = true) : (bytesP p).length ≤ 10000 := by
  obtain ⟨⟨v0, v8, k1, k8⟩, h128⟩ := may_parts h
  have h1 := kindsB_length p.kinds h128
  unfold bytesP
  simp only [List.length_cons]
  omega
end Go.Proofs.YtlgbkbmjfmomkaaDoor
