/-
  An instruction's line: where its word ends; the word's operation, found word by word.
-/
import Derived.Test.YtlgbkbmjfmomkaaDoorL1
import Derived.Test.YtlgbkbmjfmomkaaDoorN1
import Derived.Laws.OwnMore
namespace Go.Proofs.YtlgbkbmjfmomkaaDoor
open Go.RowKit CodM

/-- one more digit -/
def valStep (n : Int) (x : UInt8) : Int := if x = 45 then n else (10 * n + ((x.toNat : Int) - 48) % 256) % 18446744073709551616
def valU (l : List UInt8) : Int := l.foldl valStep 0
def valF (l : List UInt8) : Int := wrap64 (if l.head? = some 45 then -valU l else valU l)
theorem valU_bounds (l : List UInt8) : 0 ≤ valU l ∧ valU l < 18446744073709551616 := by
  have : ∀ (l : List UInt8) (n : Int), (0 ≤ n ∧ n < 18446744073709551616) → 0 ≤ l.foldl valStep n ∧ l.foldl valStep n < 18446744073709551616 := by
    intro l
    induction l with
    | nil => intro n h; exact h
    | cons x t ih =>
      intro n h
      refine ih _ ?_
      unfold valStep
      split <;> omega
  exact this l 0 (by omega)
theorem valU_snoc (l : List UInt8) (k : Nat) (h : k < l.length) : valU (l.take (k + 1)) = valStep (valU (l.take k)) l[k] := by
  unfold valU
  rw [List.take_succ_eq_append_getElem h, List.foldl_append]
  rfl
theorem strU_get (l : List UInt8) (k : Nat) (h : k < (strU l).size) (h' : k < l.length) : (strU l)[k]'h = l[k]'h' := rfl
def ValRel (w : World) (l : List UInt8) (n i : Value) (wr : World) : Prop :=
  ∃ k : Nat, k ≤ l.length ∧ i = .int .i64 k ∧ n = .int .u64 (valU (l.take k)) ∧ w = wr
def TellsV (v : Int) (w : World) (e : Ending) (w' : World) : Prop := e = .returned (.int .i64 v) ∧ w = w'

set_option maxHeartbeats 2000000 in
set_option maxRecDepth 100000 in
theorem rvalue_any (l : List UInt8) (w : World) (hl : l.length ≤ 1000000) : Calls Tryd.prog 39 #[.string (strU l)] w (TellsV (valF l) w) := by
  obtain ⟨X, hX⟩ : ∃ X, X = strU l := ⟨_, rfl⟩
  have hsz : X.size = l.length := by rw [hX, strU_size]
  rw [← hX]
  obtain ⟨V, hV⟩ : ∃ V, V = valF l := ⟨_, rfl⟩
  rw [← hV]
  have HX := Lib.hid hX
  have HV := Lib.hid hV
  clear hX hV
  go_enter Tryd.func39, Tryd.ntmps39
  go_wp2
  go_loopw [3, 4] (fun n i wr => ValRel w l n i wr) (fun _ i _ => l.length - (intOf i).toNat)
  case atStart => exact ⟨0, Nat.zero_le _, rfl, by simp [valU], rfl⟩
  case round =>
    obtain ⟨k, hk, rfl, rfl, rfl⟩ := hrel
    obtain ⟨U, hU⟩ : ∃ U, U = valU (l.take k) := ⟨_, rfl⟩
    obtain ⟨u0, u1⟩ := valU_bounds (l.take k)
    rw [← hU] at u0 u1 ⊢
    have HU := Lib.hid hU
    clear hU
    by_cases hlt : k < l.length
    · have hk2 : k < X.size := by omega
      have hxk : X[k] = l[k] := by
        have := HX.out
        subst this
        exact strU_get l k hk2 hlt
      have HXK := Lib.hid hxk
      clear hxk
      go_wp2
      · refine ⟨⟨k + 1, by omega, by go_num, ?_, rfl⟩, by simp [intOf]; omega⟩
        rename_i h45
        rw [HXK.out] at h45 ⊢
        rw [valU_snoc l k hlt, ← HU.out]
        have hne : l[k] ≠ 45 := fun e => by rw [e] at h45; exact absurd h45 (by decide)
        unfold valStep
        rw [if_neg hne, show IntKind.u64.wrap (10 * U) = 10 * U % 18446744073709551616 from by simp [IntKind.wrap, IntKind.signed, IntKind.bits], show ∀ z, IntKind.u64.wrap z = z % 18446744073709551616 from fun z => by simp [IntKind.wrap, IntKind.signed, IntKind.bits]]
        congr 1
        omega
      · refine ⟨⟨k + 1, by omega, by go_num, ?_, rfl⟩, by simp [intOf]; omega⟩
        rename_i h45
        rw [HXK.out] at h45
        rw [valU_snoc l k hlt, ← HU.out]
        have he : l[k] = 45 := by
          apply UInt8.toNat_inj.1
          simp at h45
          have : ((45 : UInt8).toNat : Int) = 45 := rfl
          omega
        unfold valStep
        rw [if_pos he]
    · obtain rfl : k = l.length := by omega
      have hU' : U = valU l := by rw [HU.out, List.take_length]
      have HU' := Lib.hid hU'
      clear hU'
      by_cases hl0 : l = []
      · have h0 : ¬ (0 < X.size) := by rw [hsz, hl0]; simp
        have hVE : V = wrap64 U := by rw [HV.out, HU'.out, hl0]; rfl
        have HVE := Lib.hid hVE
        subst hl0
        clear hVE
        go_wp2
        go_ret
        exact ⟨by rw [HVE.out]; rfl, rfl⟩
      · obtain ⟨y, t, hl0⟩ : ∃ y t, l = y :: t := by
          cases l with
          | nil => exact absurd rfl hl0
          | cons y t => exact ⟨y, t, rfl⟩
        have h0 : 0 < X.size := by rw [hsz, hl0]; simp
        have hx0 : X[0] = y := by
          have := HX.out
          subst this
          refine (strU_get l 0 h0 (by rw [hl0]; simp)).trans ?_
          simp [hl0]
        have HX0 := Lib.hid hx0
        have HL0 := Lib.hid hl0
        clear hx0 hl0
        go_wp2
        · rename_i h45
          rw [HX0.out] at h45
          have he : y = 45 := by
            apply UInt8.toNat_inj.1
            simp at h45
            have : ((45 : UInt8).toNat : Int) = 45 := rfl
            omega
          have hv : V = wrap64 (IntKind.u64.wrap (-U)) := by
            rw [HV.out]
            unfold valF
            rw [if_pos (by rw [HL0.out, he]; rfl), ← HU'.out, show IntKind.u64.wrap (-U) = -U % 18446744073709551616 from by simp [IntKind.wrap, IntKind.signed, IntKind.bits]]
            unfold wrap64
            omega
          go_ret
          exact ⟨by rw [hv]; rfl, rfl⟩
        · rename_i h45
          rw [HX0.out] at h45
          have hne : y ≠ 45 := fun e => by rw [e] at h45; exact absurd h45 (by decide)
          have hv : V = wrap64 U := by
            rw [HV.out]
            unfold valF
            rw [if_neg (by rw [HL0.out]; simpa using hne), ← HU'.out]
          go_ret
          exact ⟨by rw [hv]; rfl, rfl⟩

/- digits -/
theorem valU_dec (n : Nat) (h : n < 18446744073709551616) : valU (Lib.decDigits n) = n := by
  induction n using Nat.strongRecOn with
  | _ n ih =>
    rw [Lib.decDigits]
    split
    · rename_i h10
      have e : (UInt8.ofNat (48 + n)).toNat = 48 + n := by rw [UInt8.toNat_ofNat', Nat.mod_eq_of_lt (by omega)]
      have hne : UInt8.ofNat (48 + n) ≠ 45 := fun h45 => by rw [h45] at e; have : (45 : UInt8).toNat = 45 := rfl; omega
      show valStep 0 _ = _
      unfold valStep
      rw [if_neg hne, e]
      omega
    · rename_i h10
      have e : (UInt8.ofNat (48 + n % 10)).toNat = 48 + n % 10 := by rw [UInt8.toNat_ofNat', Nat.mod_eq_of_lt (by omega)]
      have hne : UInt8.ofNat (48 + n % 10) ≠ 45 := fun h45 => by rw [h45] at e; have : (45 : UInt8).toNat = 45 := rfl; omega
      have hi := ih (n / 10) (by omega) (by omega)
      unfold valU at hi ⊢
      rw [List.foldl_append, hi]
      show valStep _ _ = _
      unfold valStep
      rw [if_neg hne, e]
      omega
theorem valF_itoa (v : Int) (h : I64 v) : valF (Lib.itoa v) = v := by
  obtain ⟨h0, h1⟩ := h
  unfold valF Lib.itoa
  by_cases hn : v < 0
  · rw [if_pos hn, List.head?_cons, if_pos rfl]
    have : valU (45 :: Lib.decDigits v.natAbs) = valU (Lib.decDigits v.natAbs) := rfl
    rw [this, valU_dec _ (by omega)]
    unfold wrap64
    omega
  · rw [if_neg hn]
    have hne : ¬ (Lib.decDigits v.toNat).head? = some 45 := fun h45 => by
      have := digit_mem v.toNat 45 (List.mem_of_head? h45)
      have : (45 : UInt8).toNat = 45 := rfl
      omega
    rw [if_neg hne, valU_dec _ (by omega)]
    unfold wrap64
    omega
end Go.Proofs.YtlgbkbmjfmomkaaDoor
namespace Go.Proofs.YtlgbkbmjfmomkaaDoor
open Go.RowKit CodM

/-- what stands ahead of each byte 10, behind what has been read of a line -/
def linesAcc : List UInt8 → List UInt8 → List (List UInt8)
  | _, [] => []
  | cur, x :: t => if x = 10 then cur :: linesAcc [] t else linesAcc (cur ++ [x]) t
def strsV (ls : List (List UInt8)) : List Value := ls.map fun x => .string (strU x)
/-- a row of strings of the call's own, from B on -/
abbrev SOwn (B : Nat) (w : World) (v : Value) (ls : List (List UInt8)) : Prop := w.ownsRow B 9 1 v ls.length (strsV ls)
theorem infoStr : (Tryd.prog.info? 9).map (fun i => (i.zero, i.size, i.bytes)) = some (some (.string ⟨#[]⟩), 1, 16) := by kernel_rfl
theorem str_one (s : ByteArray) : ∀ u ∈ [Value.string s], u.oneCell' = true := by intro u hu; simp at hu; subst hu; rfl
theorem strU_extract (l : List UInt8) (a b : Nat) : (strU l).extract a b = strU ((l.drop a).take (b - a)) := by
  unfold strU
  apply ByteArray.ext
  apply Array.ext'
  simp
def LnRel (w : World) (l : List UInt8) (v fr i : Value) (wr : World) : Prop :=
  ∃ (k f : Nat) (ls : List (List UInt8)), k ≤ l.length ∧ f ≤ k ∧ i = .int .i64 k ∧ fr = .int .i64 f ∧ linesAcc [] l = ls ++ linesAcc ((l.drop f).take (k - f)) (l.drop k) ∧ ls.length ≤ k ∧ SOwn w.heap.size wr v ls ∧ Below w.heap.size w wr
def LinesTo (l : List UInt8) (w : World) (e : Ending) (w' : World) : Prop :=
  ∃ v b, e = .returned (.tuple #[v, .bool b]) ∧ SOwn w.heap.size w' v (linesAcc [] l) ∧ Below w.heap.size w w'

set_option maxHeartbeats 2000000 in
set_option maxRecDepth 100000 in
theorem rlines_any (l : List UInt8) (w : World) (hl : l.length ≤ 1000000) : Calls Tryd.prog 38 #[.string (strU l)] w (LinesTo l w) := by
  obtain ⟨i0, hi, hz0, hz1, hz2⟩ := info_parts infoStr
  obtain ⟨X, hX⟩ : ∃ X, X = strU l := ⟨_, rfl⟩
  have hsz : X.size = l.length := by rw [hX, strU_size]
  rw [← hX]
  have HX := Lib.hid hX
  clear hX
  go_enter Tryd.func38, Tryd.ntmps38
  go_wp2
  go_loopw [4, 5, 6] (fun v f i wr => LnRel w l v f i wr) (fun _ _ i _ => l.length - (intOf i).toNat)
  case atStart => exact ⟨0, 0, [], Nat.zero_le _, Nat.le_refl _, rfl, rfl, by simp, Nat.le_refl _, World.ownsRow_nil _ _ _ _, Below.refl _ _⟩
  case round =>
    obtain ⟨k, f, ls, hk, hf, rfl, rfl, hrd, hls, hown, hbel⟩ := hrel
    have HRD := Lib.hid hrd
    have HOWN := Lib.hid hown
    have HB := Lib.hid hbel
    have hszr : w.heap.size ≤ wr.heap.size := hbel.size
    clear hrd hown hbel
    by_cases hlt : k < l.length
    · have hk2 : k < X.size := by omega
      have hxk : X[k] = l[k] := by
        have := HX.out
        subst this
        exact strU_get l k hk2 hlt
      have HXK := Lib.hid hxk
      have hdr : l.drop k = l[k] :: l.drop (k + 1) := List.drop_eq_getElem_cons hlt
      have HDR := Lib.hid hdr
      have if1 : (f : Int) ≤ (k : Int) := by omega
      clear hxk hdr
      by_cases h10 : l[k] = 10
      · have hd : ((X[k].toNat : Int) == 10) = true := by rw [HXK.out, h10]; rfl
        have HMO : Hid (linesAcc [] l = (ls ++ [(l.drop f).take (k - f)]) ++ linesAcc ((l.drop (k + 1)).take (k + 1 - (k + 1))) (l.drop (k + 1))) := by
          show _ = _
          rw [HRD.out, HDR.out]
          simp [linesAcc, h10]
        have HEX : Hid (X.extract f k = strU ((l.drop f).take (k - f))) := by show _ = _; rw [HX.out]; exact strU_extract l f k
        clear h10
        go_wp2_with (first
          | (at_builtin; refine wpList_append_own _ rfl _ _ 67 rfl w.heap.size 9 i0 (.string ⟨#[]⟩) 1 16 Tryd.underlying67 hi hz0 hz1 hz2 rfl (by decide) _ _ _ rfl (World.ownsRow.alloc HOWN.out _) ⟨wr.heap.size, 0, none⟩ 1 1 [.string (X.extract f k)] rfl rfl (one_val _ _ _ _) (str_one _) (by unfold maxLen; omega) (by omega) (by simp; omega) ?_; intro v3 w3 hown3 hgrow3 _; refine Hid.out ?_))
        have HO3 : Hid (SOwn w.heap.size w3 v3 (ls ++ [(l.drop f).take (k - f)])) := by
          show w3.ownsRow _ _ _ _ _ _
          rw [HEX.out] at hown3
          simpa [strsV] using hown3
        have HB3 := Lib.hid (HB.out.trans (((Below.refl wr.heap.size wr).alloc (Nat.le_refl _) (.cells #[.string (X.extract f k)] 9)).mono hszr) |>.grown hgrow3 (by simp; omega) (fun j hj => (World.ownsRow.lt (World.ownsRow.alloc HOWN.out (.cells #[.string (X.extract f k)] 9)) j hj).1))
        clear hown3 hgrow3 hd
        refine Lib.hid ?_
        go_wp2
        go_roundw
        case rel =>
          (try ((repeat apply Exists.intro); refine And.intro ?_ rfl))
          exact ⟨k + 1, k + 1, ls ++ [(l.drop f).take (k - f)], by omega, Nat.le_refl _, by go_num, by go_num, HMO.out, by simp; omega, HO3.out, HB3.out⟩
        case measure => simp [intOf]; omega
      · have hd : ((X[k].toNat : Int) == 10) = false := by
          rw [HXK.out, beq_eq_false_iff_ne]
          intro e
          exact h10 (UInt8.toNat_inj.1 (by have : ((10 : UInt8).toNat : Int) = 10 := rfl; omega))
        have HMO : Hid (linesAcc [] l = ls ++ linesAcc ((l.drop f).take (k + 1 - f)) (l.drop (k + 1))) := by
          show _ = _
          rw [HRD.out, HDR.out, linesAcc, if_neg h10, show k + 1 - f = (k - f) + 1 from by omega, List.take_succ_eq_append_getElem (by simp; omega)]
          simp [show f + (k - f) = k from by omega]
        go_wp2
        go_roundw
        case rel =>
          (try ((repeat apply Exists.intro); refine And.intro ?_ rfl))
          exact ⟨k + 1, f, ls, by omega, by omega, by go_num, rfl, HMO.out, by omega, HOWN.out, HB.out⟩
        case measure => simp [intOf]; omega
    · obtain rfl : k = l.length := by omega
      have HE : Hid (linesAcc [] l = ls) := by
        show _ = _
        rw [HRD.out, List.drop_eq_nil_of_le (Nat.le_refl _)]
        simp [linesAcc]
      go_wp2
      go_ret2
      exact ⟨_, _, rfl, by rw [HE.out]; exact HOWN.out, HB.out⟩

/- the lines of a text -/
theorem linesAcc_line (x r : List UInt8) (h : (10 : UInt8) ∉ x) : ∀ c, linesAcc c (x ++ 10 :: r) = (c ++ x) :: linesAcc [] r := by
  induction x with
  | nil => intro c; simp [linesAcc]
  | cons y t ih =>
    intro c
    simp only [List.mem_cons, not_or] at h
    show linesAcc c (y :: (t ++ 10 :: r)) = _
    rw [linesAcc, if_neg (fun e => h.1 e.symm), ih h.2 (c ++ [y])]
    simp
theorem lines_kinds : ∀ (xs : List Ins) (r : List UInt8), linesAcc [] (xs.flatMap line ++ r) = xs.map (fun x => 32 :: 32 :: lineIn x) ++ linesAcc [] r
  | [], r => rfl
  | x :: xs, r => by
    rw [List.flatMap_cons, line_eq, List.append_assoc, List.append_assoc]
    show linesAcc [] ((32 :: 32 :: lineIn x) ++ 10 :: (xs.flatMap line ++ r)) = _
    rw [linesAcc_line _ _ (by simp [lineIn_no]), lines_kinds xs r]
    rfl
theorem lines_tks : ∀ (ks : List (List Ins)), linesAcc [] (ks.flatMap kindText) = ks.flatMap (fun l => kindW :: l.map (fun x => 32 :: 32 :: lineIn x))
  | [] => rfl
  | l :: ks => by
    have e : (l :: ks).flatMap kindText = kindW ++ 10 :: (l.flatMap line ++ ks.flatMap kindText) := by simp [List.flatMap_cons, kindText, kindW]
    rw [e, linesAcc_line _ _ (by decide), lines_kinds, lines_tks ks]
    rfl
theorem lines_text (p : Prg) : linesAcc [] (text p) = (varsW ++ Lib.itoa p.vars) :: p.kinds.flatMap (fun l => kindW :: l.map (fun x => 32 :: 32 :: lineIn x)) := by
  have e : text p = (varsW ++ Lib.itoa p.vars) ++ 10 :: p.kinds.flatMap kindText := by simp [text, varsW]
  rw [e, linesAcc_line _ _ (by
    intro h
    rcases List.mem_append.1 h with h | h
    · exact absurd h (by decide)
    · exact itoa_no p.vars 10 (by decide) h), lines_tks]
  rfl
end Go.Proofs.YtlgbkbmjfmomkaaDoor
namespace Go.Proofs.YtlgbkbmjfmomkaaDoor
open Go.RowKit CodM

/-- the operation of a word, 0 of none -/
def opZ (x : List UInt8) : Int := (opOf x).getD 0
/-- the instruction that a line says, whatever it says -/
def slopIns (w : List UInt8) : Ins := match cutAt 32 w with
  | none => (opZ w, 0)
  | some (x, d) => (opZ x, valF d)
/-- the kinds behind so many lines more; none: it is given up -/
def slopKs : List (List Ins) → List (List UInt8) → Option (List (List Ins))
  | ks, [] => some ks
  | ks, ln :: t => if ln = kindW then slopKs (ks ++ [[]]) t
    else if ks = [] ∨ ln.length < 3 then none
    else slopKs (ks.dropLast ++ [ks.getLast?.getD [] ++ [slopIns (ln.drop 2)]]) t
/-- the program that lines make -/
def slop : List (List UInt8) → Option Prg
  | [] => some ⟨0, []⟩
  | h :: t => (slopKs [] t).map fun ks => ⟨if 5 < h.length then valF (h.drop 5) else 0, ks⟩
/-- what the document's Of answers of a text -/
def slopT (l : List UInt8) : Option Prg := match slop (linesAcc [] l) with
  | some p => if CodM.may (codeNk p) p = true ∧ text p = l then some p else none
  | none => none

theorem slopIns_line {nk v n : Int} {x : Ins} (h : mayIns nk v n x = true) (hx : I64 x.2) : slopIns (lineIn x) = x := by
  obtain ⟨ho, hz⟩ := mayIns_parts h
  obtain ⟨o, m⟩ := x
  obtain ⟨k, hk, rfl⟩ := op_cases o ho
  have hop := opOf_at ⟨k, hk⟩
  simp only at hop hz hx
  have hw : (32 : UInt8) ∉ wordAt k := by have := word_no ((k : Int) + 1) 32 (by decide); rwa [word_in k hk] at this
  unfold lineIn slopIns
  simp only [word_in k hk]
  rcases hn : numbered ((k : Int) + 1) with _ | _
  · have hc : cutAt 32 (wordAt k ++ []) = none := by
      rcases hc : cutAt 32 (wordAt k ++ []) with _ | ⟨x, r⟩
      · rfl
      · obtain ⟨h1, _⟩ := cutAt_some hc
        simp only [List.append_nil] at h1
        exact absurd (by rw [h1]; simp) hw
    simp only [Bool.false_eq_true, if_false]
    rw [hc]
    simp only [List.append_nil, opZ, hop, Option.getD_some]
    rw [hz hn]
  · simp only [if_true]
    rw [cutAt_of _ _ hw]
    simp only [opZ, hop, Option.getD_some, valF_itoa m hx]
theorem lineIn_ne {nk v n : Int} {x : Ins} (h : mayIns nk v n x = true) : (32 :: 32 :: lineIn x) ≠ kindW ∧ ¬ (32 :: 32 :: lineIn x).length < 3 := by
  obtain ⟨ho, _⟩ := mayIns_parts h
  refine ⟨fun e => ?_, ?_⟩
  · unfold kindW at e
    cases e
  obtain ⟨o, m⟩ := x
  obtain ⟨k, hk, rfl⟩ := op_cases o ho
  have : wordAt k ≠ [] := wordAt_ne k hk
  unfold lineIn
  simp only [word_in k hk, List.length_cons, List.length_append]
  have : 0 < (wordAt k).length := List.length_pos_iff.2 this
  omega
theorem slopKs_ins {nk v n : Int} : ∀ (xs ys : List Ins) (ks : List (List Ins)) (t : List (List UInt8)), (∀ x ∈ xs, mayIns nk v n x = true ∧ I64 x.2) →
    slopKs (ks ++ [ys]) (xs.map (fun x => 32 :: 32 :: lineIn x) ++ t) = slopKs (ks ++ [ys ++ xs]) t
  | [], ys, ks, t, _ => by simp
  | x :: xs, ys, ks, t, h => by
    obtain ⟨h1, h2⟩ := h x (by simp)
    obtain ⟨e1, e2⟩ := lineIn_ne h1
    show slopKs (ks ++ [ys]) ((32 :: 32 :: lineIn x) :: (xs.map (fun x => 32 :: 32 :: lineIn x) ++ t)) = _
    rw [slopKs, if_neg e1, if_neg (fun hh => hh.elim (fun h => by simp at h) e2)]
    have e3 : (ks ++ [ys]).dropLast ++ [(ks ++ [ys]).getLast?.getD [] ++ [slopIns ((32 :: 32 :: lineIn x).drop 2)]] = ks ++ [ys ++ [x]] := by
      rw [List.dropLast_concat, List.getLast?_concat]
      simp [slopIns_line h1 h2]
    rw [e3, slopKs_ins xs (ys ++ [x]) ks t (fun y hy => h y (by simp [hy]))]
    simp
theorem slopKs_kinds {nk v : Int} : ∀ (ks pre : List (List Ins)), (∀ l ∈ ks, mayKind nk v l = true ∧ ∀ x ∈ l, I64 x.2) →
    slopKs pre (ks.flatMap (fun l => kindW :: l.map (fun x => 32 :: 32 :: lineIn x))) = some (pre ++ ks)
  | [], pre, _ => by simp [slopKs]
  | l :: ks, pre, h => by
    obtain ⟨h1, h2⟩ := h l (by simp)
    unfold CodM.mayKind at h1
    rw [Bool.and_eq_true, decide_eq_true_eq, List.all_eq_true] at h1
    rw [List.flatMap_cons]
    show slopKs pre (kindW :: (l.map (fun x => 32 :: 32 :: lineIn x) ++ ks.flatMap (fun l => kindW :: l.map (fun x => 32 :: 32 :: lineIn x)))) = _
    rw [slopKs, if_pos rfl, slopKs_ins l [] pre _ (fun x hx => ⟨h1.2 x hx, h2 x hx⟩), List.nil_append, slopKs_kinds ks (pre ++ [l]) (fun y hy => h y (by simp [hy]))]
    simp
theorem slop_text {nk : Int} {p : Prg} (h : CodM.may nk p = true) (hw : ∀ l ∈ p.kinds, ∀ x ∈ l, I64 x.2) : slop (linesAcc [] (text p)) = some p := by
  unfold CodM.may mayHead at h
  rw [Bool.and_eq_true, decide_eq_true_eq, List.all_eq_true] at h
  obtain ⟨⟨v0, v8, k1, k8⟩, hk⟩ := h
  rw [lines_text, slop, slopKs_kinds p.kinds [] (fun l hl => ⟨hk l hl, hw l hl⟩)]
  have hd : (varsW ++ Lib.itoa p.vars).drop 5 = Lib.itoa p.vars := by simp [varsW]
  have hl : 5 < (varsW ++ Lib.itoa p.vars).length := by
    have : Lib.itoa p.vars ≠ [] := by
      unfold Lib.itoa
      split
      · simp
      · exact decDigits_ne _
    have := List.length_pos_iff.2 this
    simp [varsW]
    omega
  simp only [Option.map_some, List.nil_append, if_pos hl, hd]
  rw [valF_itoa p.vars (by unfold I64; omega)]
theorem rdBody_wf : ∀ {n : Nat} {l r : List UInt8} {xs : List Ins}, rdBody n l = some (xs, r) → ∀ x ∈ xs, I64 x.1 ∧ I64 x.2
  | 0, l, r, xs, h => by
    unfold rdBody at h
    split at h
    · cases h
    · cases h; intro x hx; cases hx
  | n + 1, l, r, xs, h => by
    unfold rdBody at h
    split at h
    · obtain ⟨⟨x, t⟩, hc, h⟩ := Option.bind_eq_some_iff.1 h
      obtain ⟨i, hi, h⟩ := Option.bind_eq_some_iff.1 h
      obtain ⟨⟨ys, r'⟩, hb, h⟩ := Option.map_eq_some_iff.1 h
      cases h
      intro z hz
      rcases List.mem_cons.1 hz with rfl | hz
      · exact rdI_wf hi
      · exact rdBody_wf hb z hz
    · cases h; intro x hx; cases hx
theorem rdTKs_wf : ∀ {n : Nat} {l : List UInt8} {ks : List (List Ins)}, rdTKs n l = some ks → ∀ y ∈ ks, ∀ x ∈ y, I64 x.1 ∧ I64 x.2
  | 0, l, ks, h => by
    unfold rdTKs at h
    split at h
    · cases h; intro y hy; cases hy
    · cases h
  | n + 1, l, ks, h => by
    unfold rdTKs at h
    split at h
    · cases h; intro y hy; cases hy
    · obtain ⟨⟨xs, r⟩, h1, h⟩ := Option.bind_eq_some_iff.1 h
      obtain ⟨ks', h2, h⟩ := Option.map_eq_some_iff.1 h
      cases h
      unfold rdTK at h1
      obtain ⟨⟨x, t⟩, hc, h1⟩ := Option.bind_eq_some_iff.1 h1
      split at h1
      · intro y hy
        rcases List.mem_cons.1 hy with rfl | hy
        · exact rdBody_wf h1
        · exact rdTKs_wf h2 y hy
      · cases h1
theorem rdText_wf {l : List UInt8} {p : Prg} (h : rdText l = some p) : ∀ y ∈ p.kinds, ∀ x ∈ y, I64 x.1 ∧ I64 x.2 := by
  unfold rdText at h
  obtain ⟨⟨x, t⟩, hc, h⟩ := Option.bind_eq_some_iff.1 h
  split at h
  · obtain ⟨v, hv, h⟩ := Option.bind_eq_some_iff.1 h
    obtain ⟨ks, hk, h⟩ := Option.map_eq_some_iff.1 h
    cases h
    exact rdTKs_wf hk
  · cases h
theorem opZ_wf (x : List UInt8) : I64 (opZ x) := by
  unfold opZ
  rcases h : opOf x with _ | o
  · exact ⟨by decide, by decide⟩
  · obtain ⟨j, hj, _, rfl⟩ := opOf_some h
    unfold I64
    simp only [Option.getD_some]
    omega
theorem valF_wf (l : List UInt8) : I64 (valF l) := by
  unfold valF I64 wrap64
  omega
theorem slopIns_wf (w : List UInt8) : I64 (slopIns w).1 ∧ I64 (slopIns w).2 := by
  unfold slopIns
  split
  · exact ⟨opZ_wf _, show I64 0 from ⟨by decide, by decide⟩⟩
  · exact ⟨opZ_wf _, valF_wf _⟩
def KsWf (ks : List (List Ins)) : Prop := ∀ l ∈ ks, ∀ x ∈ l, I64 x.1 ∧ I64 x.2
theorem slopKs_wf : ∀ (t : List (List UInt8)) (ks out : List (List Ins)), slopKs ks t = some out → KsWf ks → KsWf out
  | [], ks, out, h, hw => by rw [slopKs] at h; cases h; exact hw
  | ln :: t, ks, out, h, hw => by
    rw [slopKs] at h
    split at h
    · refine slopKs_wf t _ out h ?_
      intro l hl x hx
      rcases List.mem_append.1 hl with hl | hl
      · exact hw l hl x hx
      · simp only [List.mem_singleton] at hl
        subst hl
        cases hx
    · split at h
      · cases h
      · rename_i hn
        refine slopKs_wf t _ out h ?_
        intro l hl x hx
        rcases List.mem_append.1 hl with hl | hl
        · exact hw l (List.dropLast_subset _ hl) x hx
        · simp only [List.mem_singleton] at hl
          subst hl
          rcases List.mem_append.1 hx with hx | hx
          · rcases hg : ks.getLast? with _ | y
            · rw [hg] at hx; cases hx
            · rw [hg] at hx
              exact hw y (List.mem_of_getLast? hg) x hx
          · simp only [List.mem_singleton] at hx
            subst hx
            exact slopIns_wf _
theorem slop_wf {ls : List (List UInt8)} {p : Prg} (h : slop ls = some p) : KsWf p.kinds := by
  unfold slop at h
  split at h
  · cases h
    intro l hl
    cases hl
  · obtain ⟨ks, hk, rfl⟩ := Option.map_eq_some_iff.1 h
    exact slopKs_wf _ _ _ hk (by intro l hl; cases hl)
/-- the program that the text reader reads is the document's -/
theorem slopT_good (l : List UInt8) : slopT l = goodT l := by
  unfold slopT
  rcases hs : slop (linesAcc [] l) with _ | p
  · simp only
    rcases hg : goodT l with _ | q
    · rfl
    · obtain ⟨hrd, hmay⟩ := goodT_some hg
      obtain ⟨ht, _⟩ := rdText_text hrd
      have hq := slop_text hmay (fun y hy x hx => (rdText_wf hrd y hy x hx).2)
      rw [← ht, hs] at hq
      cases hq
  · simp only
    split
    · rename_i h
      rw [← h.2, goodT_of h.1 (slop_wf hs)]
    · rename_i h
      rcases hg : goodT l with _ | q
      · rfl
      · obtain ⟨hrd, hmay⟩ := goodT_some hg
        obtain ⟨ht, _⟩ := rdText_text hrd
        have hq := slop_text hmay (fun y hy x hx => (rdText_wf hrd y hy x hx).2)
        rw [← ht, hs] at hq
        cases hq
        exact absurd ⟨hmay, ht.symm⟩ h
end Go.Proofs.YtlgbkbmjfmomkaaDoor
namespace Go.Proofs.YtlgbkbmjfmomkaaDoor
open Go.RowKit CodM

/-- kinds in blocks below B2 read in w' as they did, where those blocks did not turn -/
theorem KV.low {B B2 : Nat} {w w' : World} {vs : List Value} {ks : List (List Ins)} (h : KV B w vs ks) (hlo : ∀ u ∈ vs, ∀ k, u.ownBlock = some k → k < B2) (hb : ∀ k, k < B2 → w'.heap[k]? = w.heap[k]?) : KV B w' vs ks := by
  refine ⟨h.1, fun j hj => ?_⟩
  obtain ⟨a', n', c', e1, e2, ⟨e3, e4⟩⟩ := h.2 j hj
  refine ⟨a', n', c', e1, e2, ?_⟩
  rcases e4 with e4 | ⟨G, cur, rfl, hG, hh⟩
  · exact ⟨⟨e3.1, e3.2.1, e3.2.2.1, .inl e4⟩, .inl e4⟩
  · have hl : G < B2 := hlo _ (List.mem_of_getElem? e1) G rfl
    have hbl : w'.heap[G]? = w.heap[G]? := hb G hl
    have hh' := hbl.trans hh
    refine ⟨⟨e3.1, e3.2.1, e3.2.2.1, ?_⟩, .inr ⟨G, cur, rfl, hG, hh'⟩⟩
    rcases e3.2.2.2 with h4 | ⟨B', off, e, hB, hc⟩
    · exact .inl h4
    · cases e
      exact .inr ⟨G, 0, rfl, heap_lt hh', fun i hi => ⟨(World.cell?_of_block (a := ⟨G, 0 + i * 2, none⟩) hbl).trans (hc i hi).1, (World.cell?_of_block (a := ⟨G, 0 + i * 2 + 1, none⟩) hbl).trans (hc i hi).2⟩⟩
theorem KV.snoc {B : Nat} {w : World} {vs : List Value} {ks : List (List Ins)} (h : KV B w vs ks) {a : Option Addr} {n c : Nat} {xs : List Ins} (hsl : SlOk a n c) (hx : InsOwn B w a n xs) : KV B w (vs ++ [.slice a n c]) (ks ++ [xs]) := by
  refine ⟨by simp [h.1], fun j hj => ?_⟩
  by_cases hj' : j < ks.length
  · obtain ⟨a', n', c', e1, e2, e3⟩ := h.2 j hj'
    refine ⟨a', n', c', by rw [List.getElem?_append_left (by rw [h.1]; exact hj')]; exact e1, e2, ?_⟩
    rw [show (ks ++ [xs]).getD j [] = ks.getD j [] from by simp [List.getD, List.getElem?_append_left hj']]
    exact e3
  · obtain rfl : j = ks.length := by simp at hj; omega
    refine ⟨a, n, c, ?_, hsl, ?_⟩
    · rw [List.getElem?_append_right (by rw [h.1]; exact Nat.le_refl _), h.1, Nat.sub_self]; rfl
    · rw [show (ks ++ [xs]).getD ks.length [] = xs from by simp [List.getD]]
      exact hx
/-- a row of kinds of the call's own: all but the last in blocks below B2, the last one grows in a block from B2 on -/
structure OfRow (B B2 : Nat) (w : World) (v : Value) (vs : List Value) (pre : List (List Ins)) (lv : Value) (last : List Ins) : Prop where
  row : w.ownsRow B 46 1 v (pre.length + 1) (vs ++ [lv])
  pre : KV B w vs pre
  lo : ∀ u ∈ vs, ∀ k, u.ownBlock = some k → k < B2
  own : IOwn B2 w lv last
  le : B ≤ B2
  hi : B2 ≤ w.heap.size
theorem OfRow.first {B : Nat} {w : World} {v : Value} (h : w.ownsRow B 46 1 v 1 [.slice none 0 0]) (hB : B ≤ w.heap.size) : OfRow B w.heap.size w v [] [] (.slice none 0 0) [] :=
  ⟨h, KV.nil _ _, fun _ hu => absurd hu (by simp), ⟨rfl, .inl ⟨rfl, rfl⟩⟩, hB, Nat.le_refl _⟩
/-- the row's own block holds kinds -/
theorem OfRow.block {B B2 : Nat} {w : World} {v : Value} {vs : List Value} {pre : List (List Ins)} {lv : Value} {last : List Ins} (h : OfRow B B2 w v vs pre lv last) :
    ∃ g c cur, v = .slice (some ⟨g, 0, none⟩) (pre.length + 1) c ∧ B ≤ g ∧ w.heap[g]? = some (.cells cur 46 (0, 0)) ∧ ∀ k, lv.ownBlock = some k → k ≠ g := by
  obtain ⟨_, ⟨_, h2⟩ | ⟨g, cap, cur, e, hg, hh, _⟩⟩ := h.row
  · omega
  · refine ⟨g, cap, cur, e, hg, hh, fun k hk e => ?_⟩
    subst e
    rcases h.own.2 with ⟨rfl, _⟩ | ⟨g', c', cur', rfl, _, hh', _⟩
    · simp [Value.ownBlock] at hk
    · simp [Value.ownBlock] at hk
      subst hk
      rw [hh] at hh'
      cases hh'
theorem OfRow.but {S : Nat → Prop} {B B2 : Nat} {w w' : World} {v : Value} {vs : List Value} {pre : List (List Ins)} {lv : Value} {last : List Ins} (h : OfRow B B2 w v vs pre lv last) (hb : But S w w')
    (hs : ∀ k cur, S k → w.heap[k]? ≠ some (.cells cur 49 (0, 0))) (hs2 : ∀ k cur, S k → w.heap[k]? ≠ some (.cells cur 46 (0, 0))) : OfRow B B2 w' v vs pre lv last := by
  refine ⟨⟨h.row.1, ?_⟩, h.pre.but hb hs, h.lo, h.own.but hb hs, h.le, Nat.le_trans h.hi hb.size⟩
  rcases h.row.2 with h2 | ⟨g, cap, cur, e, hg, hh, r⟩
  · exact .inl h2
  · exact .inr ⟨g, cap, cur, e, hg, hb.heap hh (fun s => hs2 g cur s hh), r⟩
theorem OfRow.next {B B2 : Nat} {w w' : World} {v : Value} {vs : List Value} {pre : List (List Ins)} {lv : Value} {last : List Ins} (h : OfRow B B2 w v vs pre lv last) (hb : Below w.heap.size w w') : OfRow B B2 w' v vs pre lv last :=
  h.but (S := fun _ => False) (But.of hb) (fun _ _ h => h.elim) (fun _ _ h => h.elim)
/-- an instruction behind the last kind's, and that kind's slice written back -/
theorem OfRow.put {B B2 : Nat} {w w' : World} {v : Value} {vs : List Value} {pre : List (List Ins)} {lv lv' : Value} {last last' : List Ins} (h : OfRow B B2 w v vs pre lv last)
    (hg : w.grownBy w' lv.ownBlock) (ho : IOwn B2 w' lv' last') {g c : Nat} (hv : v = .slice (some ⟨g, 0, none⟩) (pre.length + 1) c) : OfRow B B2 (w'.setCell ⟨g, pre.length, none⟩ lv') v vs pre lv' last' := by
  obtain ⟨g0, c0, cur, e, hgB, hh, hne⟩ := h.block
  rw [hv] at e
  simp only [Value.slice.injEq, Option.some.injEq, Addr.mk.injEq, and_true, true_and] at e
  obtain ⟨rfl, rfl⟩ := e
  subst hv
  have hb : w'.heap[g]? = w.heap[g]? := hg.block g (heap_lt hh) (fun e => hne g e.symm rfl)
  have hh' := hb.trans hh
  have hrow : w'.ownsRow B 46 1 (.slice (some ⟨g, 0, none⟩) (pre.length + 1) c) (pre.length + 1) (vs ++ [lv]) := by
    refine ⟨h.row.1, ?_⟩
    rcases h.row.2 with h2 | ⟨g', cap', cur', e', hg', hh2, r⟩
    · exact .inl h2
    · simp only [Value.slice.injEq, Option.some.injEq, Addr.mk.injEq, and_true, true_and] at e'
      obtain ⟨rfl, rfl⟩ := e'
      exact .inr ⟨g, c, cur', rfl, hg', hb.trans hh2, r⟩
  have hst := (hrow.stored pre.length lv').1
  have hset : (vs ++ [lv]).set pre.length lv' = vs ++ [lv'] := by rw [← h.pre.1]; simp
  rw [hset] at hst
  have hpre : KV B w' vs pre := h.pre.low h.lo (fun k hk => hg.block k (Nat.lt_of_lt_of_le hk h.hi) (fun e => by
    have := (World.ownsRow.lt h.own k e.symm).1
    omega))
  refine ⟨hst, hpre.but (S := fun k => k = g) ⟨rfl, rfl, rfl, by simp [World.setCell], fun k _ hk => Below.heap_setCell _ _ _ _ hk⟩ ?_, h.lo, ho.set _ _ _ ?_, h.le, ?_⟩
  · rintro k cur' rfl e
    rw [hh'] at e
    cases e
  · intro k hk e
    subst e
    rcases ho.2 with ⟨rfl, _⟩ | ⟨g', c', cur', rfl, _, hh2, _⟩
    · simp [Value.ownBlock] at hk
    · simp [Value.ownBlock] at hk
      subst hk
      rw [hh'] at hh2
      cases hh2
  · exact Nat.le_trans h.hi (Nat.le_trans hg.size (by simp [World.setCell]))
/-- another kind, of no instruction yet -/
theorem OfRow.kind {B B2 : Nat} {w w' : World} {v v' : Value} {vs : List Value} {pre : List (List Ins)} {lv : Value} {last : List Ins} (h : OfRow B B2 w v vs pre lv last) (hw : ∀ x ∈ last, I64 x.1 ∧ I64 x.2) (hm : last.length ≤ 9223372036854775807)
    (ho : w'.ownsRow B 46 1 v' (pre.length + 1 + 1) (vs ++ [lv] ++ [.slice none 0 0])) (hg : w.grownBy w' v.ownBlock) : OfRow B w'.heap.size w' v' (vs ++ [lv]) (pre ++ [last]) (.slice none 0 0) [] := by
  obtain ⟨g, c, cur, rfl, hgB, hh, hne⟩ := h.block
  have hbut : But (fun k => k = g) w w' := ⟨hg.os, hg.tape, hg.output, hg.size, fun k hk hs => hg.block k hk (fun e => hs (by simpa [Value.ownBlock] using e))⟩
  have hI : ∀ k cur', k = g → w.heap[k]? ≠ some (.cells cur' 49 (0, 0)) := by
    rintro k cur' rfl e
    rw [hh] at e
    cases e
  have hpre := h.pre.but hbut hI
  have hown := h.own.but hbut hI
  obtain ⟨a, n, e1, e2, e3⟩ := insOwn_of hown rfl hw hm
  have hlow : ∀ u ∈ vs ++ [lv], ∀ k, u.ownBlock = some k → k < w'.heap.size := by
    intro u hu k hk
    rcases List.mem_append.1 hu with hu | hu
    · exact Nat.lt_of_lt_of_le (h.lo u hu k hk) (Nat.le_trans h.hi hg.size)
    · simp only [List.mem_singleton] at hu
      subst hu
      exact Nat.lt_of_lt_of_le (World.ownsRow.lt h.own k hk).2 hg.size
  subst e1
  exact ⟨by simpa using ho, hpre.snoc e2 (e3.mono h.le), hlow, ⟨rfl, .inl ⟨rfl, rfl⟩⟩, Nat.le_trans h.le (Nat.le_trans h.hi hg.size), Nat.le_refl _⟩
/-- the whole row -/
theorem OfRow.all {B B2 : Nat} {w : World} {v : Value} {vs : List Value} {pre : List (List Ins)} {lv : Value} {last : List Ins} (h : OfRow B B2 w v vs pre lv last) (hw : ∀ x ∈ last, I64 x.1 ∧ I64 x.2) (hm : last.length ≤ 9223372036854775807) :
    KRow B w v (vs ++ [lv]) (pre ++ [last]) := by
  obtain ⟨a, n, e1, e2, e3⟩ := insOwn_of h.own rfl hw hm
  subst e1
  exact ⟨by simpa using h.row, h.pre.snoc e2 (e3.mono h.le)⟩
end Go.Proofs.YtlgbkbmjfmomkaaDoor
namespace Go.Proofs.YtlgbkbmjfmomkaaDoor
open Go.RowKit CodM

/-- what the document's Of answers -/
def OfTo (l : List UInt8) (w : World) (e : Ending) (w' : World) : Prop :=
  Below w.heap.size w w' ∧ match slopT l with
  | none => e = .returned (.tuple #[.agg #[.int .i64 0, .slice none 0 0], .bool false])
  | some p => ∃ a n c, e = .returned (.tuple #[.agg #[.int .i64 p.vars, .slice a n c], .bool true]) ∧ SlOk a n c ∧ Cop w.heap.size w' a n p.kinds

/-- the program so far, behind k lines -/
def OfSt (B : Nat) (ls : List (List UInt8)) (k : Nat) (wr : World) (v : Int) (kv : Value) (ks : List (List Ins)) : Prop :=
  slop ls = (if k = 0 then slop ls else (slopKs ks (ls.drop k)).map fun q => ⟨v, q⟩) ∧ (k = 0 → ks = [] ∧ v = 0) ∧ I64 v ∧ KsWf ks ∧ ks.length ≤ k ∧ (∀ y ∈ ks, y.length ≤ k) ∧
    ((ks = [] ∧ kv = .slice none 0 0) ∨ ∃ B2 vs pre lv last, ks = pre ++ [last] ∧ OfRow B B2 wr kv vs pre lv last)
def OfRel (w : World) (Pb : Nat) (ls : List (List UInt8)) (lv : Value) (i : Value) (wr : World) : Prop :=
  ∃ (k : Nat) (v : Int) (kv : Value) (ks : List (List Ins)), k ≤ ls.length ∧ i = .int .i64 k ∧ OfSt w.heap.size ls k wr v kv ks ∧ SOwn (w.heap.size + 1) wr lv ls ∧
    wr.heap[w.heap.size]? = some (.cells #[.int .i64 0, .slice none 0 0] 24 (0, 0)) ∧ wr.heap[Pb]? = some (.cells #[.int .i64 v, kv] 24 (0, 0)) ∧ Below w.heap.size w wr

theorem linesAcc_le : ∀ (l c : List UInt8), ∀ x ∈ linesAcc c l, x.length ≤ c.length + l.length
  | [], c, x, h => by cases h
  | a :: t, c, x, h => by
    rw [linesAcc] at h
    split at h
    · rcases List.mem_cons.1 h with rfl | h
      · simp
      · have := linesAcc_le t [] x h
        simp at this ⊢
        omega
    · have := linesAcc_le t (c ++ [a]) x h
      simp at this ⊢
      omega
theorem linesAcc_len : ∀ (l c : List UInt8), (linesAcc c l).length ≤ l.length
  | [], c => by simp [linesAcc]
  | a :: t, c => by
    rw [linesAcc]
    split
    · have := linesAcc_len t []
      simp
      omega
    · have := linesAcc_len t (c ++ [a])
      simp
      omega
theorem SOwn.but {S : Nat → Prop} {B : Nat} {w w' : World} {v : Value} {ls : List (List UInt8)} (h : SOwn B w v ls) (hb : But S w w') (hs : ∀ k cur, S k → w.heap[k]? ≠ some (.cells cur 9 (0, 0))) : SOwn B w' v ls := by
  obtain ⟨h1, h2⟩ := h
  refine ⟨h1, ?_⟩
  rcases h2 with h2 | ⟨g, cap, cur, e, hg, hh, r⟩
  · exact .inl h2
  · exact .inr ⟨g, cap, cur, e, hg, hb.heap hh (fun s => hs g cur s hh), r⟩
/-- a row of strings is read -/
theorem SOwn.read {B : Nat} {w : World} {v : Value} {ls : List (List UInt8)} (h : SOwn B w v ls) : ∃ a c, v = .slice a ls.length c ∧ (ls.length = 0 ∨ ∃ g, a = some ⟨g, 0, none⟩ ∧ ∀ j (hj : j < ls.length), w.cell? ⟨g, j, none⟩ = some (.string (strU ls[j]))) := by
  rcases h.2 with ⟨rfl, h2⟩ | ⟨g, cap, cur, rfl, r⟩
  · exact ⟨none, 0, by rw [h2], .inl h2⟩
  · refine ⟨_, cap, rfl, .inr ⟨g, rfl, fun j hj => ?_⟩⟩
    rw [World.ownsRow.cellAt h j (by omega)]
    simp [strsV, hj]

theorem OfSt.prog {B k : Nat} {ls : List (List UInt8)} {wr : World} {v : Int} {kv : Value} {ks : List (List Ins)} (h : OfSt B ls k wr v kv ks) (hk : k ≤ 1000000) :
    ∃ a c, kv = .slice a ks.length c ∧ SlOk a ks.length c ∧ Cop B wr a ks.length ks ∧ ProgAt wr a ks.length ⟨v, ks⟩ := by
  obtain ⟨-, -, hv, hw, hl, hy, h7⟩ := h
  rcases h7 with ⟨rfl, rfl⟩ | ⟨B2, vs, pre, lv, last, rfl, ho⟩
  · exact ⟨none, 0, rfl, ⟨Nat.le_refl _, fun _ => rfl⟩, ⟨rfl, .inl rfl⟩, hv, ⟨rfl, by decide, .inl rfl⟩⟩
  · have hr := ho.all (fun x hx => hw last (by simp) x hx) (by have := hy last (by simp); omega)
    obtain ⟨a, c, h1, h2, h3, h4⟩ := hr.kinds (by omega)
    exact ⟨a, c, h1, h2, h3, hv, h4⟩
theorem OfSt.fin {B : Nat} {ls : List (List UInt8)} {wr : World} {v : Int} {kv : Value} {ks : List (List Ins)} (h : OfSt B ls ls.length wr v kv ks) : slop ls = some ⟨v, ks⟩ := by
  obtain ⟨h1, h0, -⟩ := h
  cases ls with
  | nil =>
    obtain ⟨rfl, rfl⟩ := h0 rfl
    rfl
  | cons a t =>
    rw [if_neg (by simp)] at h1
    rw [h1, List.drop_eq_nil_of_le (Nat.le_refl _)]
    rfl
theorem OfSt.ne0 {B k : Nat} {ls : List (List UInt8)} {wr : World} {v : Int} {kv : Value} {ks : List (List Ins)} (h : OfSt B ls k wr v kv ks) (hk : k ≠ 0) : slop ls = (slopKs ks (ls.drop k)).map fun q => ⟨v, q⟩ := by
  have := h.1
  rwa [if_neg hk] at this
theorem OfSt.head {B : Nat} {ls : List (List UInt8)} {wr : World} {v v' : Int} {kv : Value} {ks : List (List Ins)} {x : List UInt8} (h : OfSt B ls 0 wr v kv ks) (w' : World) (hl : 0 < ls.length) (hx : x = ls[0]) (hv : v' = if 5 < x.length then valF (x.drop 5) else 0) :
    OfSt B ls 1 w' v' kv ks := by
  obtain ⟨-, h0, -, -, -, -, h7⟩ := h
  obtain ⟨rfl, -⟩ := h0 rfl
  have e : kv = .slice none 0 0 := by
    rcases h7 with h7 | ⟨_, _, _, _, _, e, _⟩
    · exact h7.2
    · simp at e
  refine ⟨?_, (fun h => absurd h (by decide)), ?_, (fun y hy => absurd hy (by simp)), Nat.zero_le _, (fun y hy => absurd hy (by simp)), .inl ⟨rfl, e⟩⟩
  · rw [if_neg (by decide)]
    cases ls with
    | nil => simp at hl
    | cons a t =>
      simp only [List.getElem_cons_zero] at hx
      subst hx
      simp [slop, hv]
  · rw [hv]
    split
    · exact valF_wf _
    · exact ⟨by decide, by decide⟩
end Go.Proofs.YtlgbkbmjfmomkaaDoor
namespace Go.Proofs.YtlgbkbmjfmomkaaDoor
open Go.RowKit CodM

theorem OfSt.kindTo {B k : Nat} {ls : List (List UInt8)} {wr wr' : World} {v : Int} {kv kv' : Value} {ks : List (List Ins)} (h : OfSt B ls k wr v kv ks) (hk : k ≠ 0) (hdr : ls.drop k = kindW :: ls.drop (k + 1))
    (hrow : ∃ B2 vs pre lv last, ks ++ [[]] = pre ++ [last] ∧ OfRow B B2 wr' kv' vs pre lv last) : OfSt B ls (k + 1) wr' v kv' (ks ++ [[]]) := by
  have h0 := h.ne0 hk
  obtain ⟨_, _, hv, hw, hl, hy, _⟩ := h
  refine ⟨?_, fun h => absurd h (Nat.succ_ne_zero _), hv, ?_, by simp; omega, ?_, .inr hrow⟩
  · rw [if_neg (Nat.succ_ne_zero _), h0, hdr, slopKs, if_pos rfl]
  · intro l hl
    rcases List.mem_append.1 hl with hl | hl
    · exact hw l hl
    · simp only [List.mem_singleton] at hl
      subst hl
      intro x hx
      cases hx
  · intro y hym
    rcases List.mem_append.1 hym with h | h
    · have := hy y h; omega
    · simp only [List.mem_singleton] at h
      subst h
      exact Nat.zero_le _
theorem OfSt.insTo {B B2 k : Nat} {ls : List (List UInt8)} {wr wr' : World} {v : Int} {kv kv' lv : Value} {vs : List Value} {pre : List (List Ins)} {last : List Ins} {x : List UInt8} (h : OfSt B ls k wr v kv (pre ++ [last])) (hk : k ≠ 0) (hdr : ls.drop k = x :: ls.drop (k + 1)) (hx : x ≠ kindW) (hlen : ¬ x.length < 3)
    (hrow : OfRow B B2 wr' kv' vs pre lv (last ++ [slopIns (x.drop 2)])) : OfSt B ls (k + 1) wr' v kv' (pre ++ [last ++ [slopIns (x.drop 2)]]) := by
  have h0 := h.ne0 hk
  obtain ⟨_, _, hv, hw, hl, hy, _⟩ := h
  refine ⟨?_, fun h => absurd h (Nat.succ_ne_zero _), hv, ?_, by simp at hl ⊢; omega, ?_, .inr ⟨B2, vs, pre, lv, _, rfl, hrow⟩⟩
  · rw [if_neg (Nat.succ_ne_zero _), h0, hdr, slopKs, if_neg hx, if_neg (fun hh => hh.elim (fun h => by simp at h) hlen), List.dropLast_concat, List.getLast?_concat]
    rfl
  · intro l hlm
    rcases List.mem_append.1 hlm with h | h
    · exact hw l (List.mem_append_left _ h)
    · simp only [List.mem_singleton] at h
      subst h
      intro y hy'
      rcases List.mem_append.1 hy' with h | h
      · exact hw last (by simp) y h
      · simp only [List.mem_singleton] at h
        subst h
        exact slopIns_wf _
  · intro y hym
    rcases List.mem_append.1 hym with h | h
    · have := hy y (List.mem_append_left _ h); omega
    · simp only [List.mem_singleton] at h
      subst h
      have := hy last (by simp)
      simp
      omega
theorem OfSt.given {B k : Nat} {ls : List (List UInt8)} {wr : World} {v : Int} {kv : Value} {ks : List (List Ins)} {x : List UInt8} (h : OfSt B ls k wr v kv ks) (hk : k ≠ 0) (hdr : ls.drop k = x :: ls.drop (k + 1)) (hx : x ≠ kindW) (hn : ks = [] ∨ x.length < 3) : slop ls = none := by
  rw [h.ne0 hk, hdr, slopKs, if_neg hx, if_pos hn]
  rfl
/-- a line further: the loop's state again -/
theorem of_close {w wr w4 : World} {S : Nat → Prop} {Pb : Nat} {ls : List (List UInt8)} {lv : Value} {k : Nat} {v : Int} {kv : Value} {ks : List (List Ins)} (hbut : But S wr w4)
    (hS : ∀ j, S j → w.heap.size < j ∧ ∀ cur, wr.heap[j]? ≠ some (.cells cur 9 (0, 0))) (how : SOwn (w.heap.size + 1) wr lv ls) (hrb : wr.heap[w.heap.size]? = some (.cells #[.int .i64 0, .slice none 0 0] 24 (0, 0)))
    (hpb : w4.heap[Pb]? = some (.cells #[.int .i64 v, kv] 24 (0, 0))) (hb : Below w.heap.size w wr) (hk : k + 1 ≤ ls.length) (hst : OfSt w.heap.size ls (k + 1) w4 v kv ks) : OfRel w Pb ls lv (.int .i64 ((k : Int) + 1)) w4 :=
  ⟨k + 1, v, kv, ks, hk, by go_num, hst, how.but hbut (fun j cur hj => (hS j hj).2 cur), hbut.heap hrb (fun h => absurd (hS _ h).1 (Nat.lt_irrefl _)), hpb,
    hb.trans ((hbut.below w.heap.size hb.size (fun j hj => Nat.le_of_lt (hS j hj).1)))⟩
end Go.Proofs.YtlgbkbmjfmomkaaDoor
namespace Go.Proofs.YtlgbkbmjfmomkaaDoor
open Go.RowKit CodM

/-- where the word ends -/
def cutPos (y : List UInt8) : Nat := match cutAt 32 y with
  | none => y.length
  | some (u, _) => u.length
theorem cutPos_le (y : List UInt8) : cutPos y ≤ y.length := by
  unfold cutPos
  rcases h : cutAt 32 y with _ | ⟨u, d⟩
  · exact Nat.le_refl _
  · obtain ⟨e, _⟩ := cutAt_some h
    show u.length ≤ y.length
    rw [e, List.length_append]
    omega
theorem cutPos_ne (y : List UInt8) (j : Nat) (hj : j < cutPos y) (hl : j < y.length) : y[j] ≠ 32 := by
  unfold cutPos at hj
  rcases h : cutAt 32 y with _ | ⟨u, d⟩
  · exact fun e => cutAt_none h (by rw [← e]; exact List.getElem_mem hl)
  · rw [h] at hj
    obtain ⟨e, hn⟩ := cutAt_some h
    intro e2
    refine hn ?_
    have : y[j] = u[j]'hj := by
      subst e
      exact List.getElem_append_left hj
    rw [← e2, this]
    exact List.getElem_mem _
theorem cutPos_at (y : List UInt8) (hl : cutPos y < y.length) : y[cutPos y] = 32 := by
  rcases h : cutAt 32 y with _ | ⟨u, d⟩
  · unfold cutPos at hl
    rw [h] at hl
    exact absurd hl (Nat.lt_irrefl _)
  · obtain ⟨e, _⟩ := cutAt_some h
    have hp : cutPos y = u.length := by unfold cutPos; rw [h]
    have : y[cutPos y]? = some 32 := by
      rw [hp, e, List.getElem?_append_right (Nat.le_refl _), Nat.sub_self]
      rfl
    exact (List.getElem?_eq_some_iff.1 this).2
theorem slopIns_at (y : List UInt8) : slopIns y = (opZ (y.take (cutPos y)), if cutPos y < y.length then valF (y.drop (cutPos y + 1)) else 0) := by
  unfold slopIns
  rcases h : cutAt 32 y with _ | ⟨u, d⟩
  · have hp : cutPos y = y.length := by unfold cutPos; rw [h]
    rw [hp, List.take_of_length_le (Nat.le_refl _), if_neg (Nat.lt_irrefl _)]
  · obtain ⟨e, _⟩ := cutAt_some h
    have hp : cutPos y = u.length := by unfold cutPos; rw [h]
    have h1 : y.take u.length = u := by rw [e]; simp
    have h2 : y.drop (u.length + 1) = d := by rw [e]; simp
    have h3 : u.length < y.length := by rw [e]; simp
    rw [hp, h1, h2, if_pos h3]
/-- the operation, of the first k words -/
def opUp (u : List UInt8) : Nat → Int
  | 0 => 0
  | k + 1 => if wordAt k = u then (k : Int) + 1 else opUp u k
theorem opUp_at : ∀ j : Fin 17, opUp (wordAt j.1) 17 = (j.1 : Int) + 1 := by decide
theorem opUp_no {u : List UInt8} : ∀ k, (∀ j, j < k → wordAt j ≠ u) → opUp u k = 0
  | 0, _ => rfl
  | k + 1, h => by
    rw [opUp, if_neg (h k (Nat.lt_succ_self _))]
    exact opUp_no k fun j hj => h j (by omega)
theorem opUp_all (u : List UInt8) : opUp u 17 = opZ u := by
  unfold opZ
  rcases h : opOf u with _ | o
  · rw [opUp_no 17]
    · rfl
    · intro j hj e
      have := opOf_at ⟨j, hj⟩
      simp only at this
      rw [e, h] at this
      cases this
  · obtain ⟨j, hj, rfl, rfl⟩ := opOf_some h
    exact opUp_at ⟨j, hj⟩
def WordsO (o : Nat) (w : World) (e : Ending) (w' : World) : Prop := e = .returned (.slice (some ⟨w.heap.size, 0, none⟩) 17 17) ∧ w'.cell? ⟨w.heap.size, o, none⟩ = some (.string (strU (wordAt o))) ∧ Below w.heap.size w w'
theorem rwords_o (o : Nat) (ho : o < 17) (w : World) : Calls Tryd.prog 40 #[] w (WordsO o w) := by
  refine (rwords_any w).mono ?_
  rintro e w' ⟨rfl, rfl⟩
  exact ⟨rfl, words_cell w o ho, (Below.refl _ w).alloc (Nat.le_refl _) _⟩
end Go.Proofs.YtlgbkbmjfmomkaaDoor
