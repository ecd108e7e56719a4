/-
  The walk of a response's variables.
-/
import Derived.Test.YtdpfmaikijilkaaW14
import Derived.Laws.CopyOwn
import Derived.Deep.OwnRows
namespace Go.Proofs.Ytdpfmaikijilkaa
open Go Go.RowKit Go.Sort Go.Proofs

/-- so many of a list, noughts behind it -/
def padV (n : Nat) (l : List Int) : List Int := l.take n ++ List.replicate (n - l.length) 0
theorem padV_len (n : Nat) (l : List Int) : (padV n l).length = n := by simp [padV]; omega
theorem padV_self (l : List Int) : padV l.length l = l := by simp [padV]
theorem padV_nil (n : Nat) : padV n [] = List.replicate n 0 := by simp [padV]
def wholes : List Int → Wi → Option (List Int × Wi)
  | [], S => some ([], S)
  | v :: t, S => (wholeW S v).bind fun p => (wholes t p.2).map fun r => (p.1 :: r.1, r.2)
def gVars : FldS := fun q S => (octW S q.vars.length 8).bind fun p => (wholes (padV p.1.toNat q.vars) p.2).map fun r => ({ q with vars := r.1 }, r.2)
abbrev cellsV (l : List Int) : List Value := l.map (Value.int .i64)
theorem cellsV_one (l : List Int) : ∀ v ∈ cellsV l, v.oneCell' = true := by
  intro v hv
  obtain ⟨x, _, rfl⟩ := List.mem_map.1 hv
  rfl
theorem splice_pad (n : Nat) (l : List Int) : splice (cellsV (List.replicate n 0)) 0 (cellsV (l.take n)) = cellsV (padV n l) := by
  simp only [splice, List.take_zero, List.nil_append, Nat.zero_add, cellsV, padV, List.map_append, List.length_map, ← List.map_drop, List.drop_replicate]
  congr 3
  simp
  omega
theorem made_V (n : Nat) : madeCells #[Value.int .i64 0] n = (cellsV (List.replicate n 0)).toArray := by
  apply Array.ext
  · simp [madeCells]
  · intro i h1 h2
    simp [madeCells, Nat.mod_one]
theorem CV_cells {w : World} {a : Option Addr} {n : Nat} {l : List Int} (h : CV.At w a n l) (k : Nat) (hk : 0 < (cellsV (l.take k)).length) : ∃ ad, a = some ad ∧ ∀ j v, (cellsV (l.take k))[j]? = some v → w.cell? (ad.add j) = some v := by
  have h0 : 0 < n := by
    have := h.1
    simp only [cellsV, List.length_map, List.length_take] at hk
    omega
  obtain ⟨B, off, rfl, -⟩ := h.cell h0
  refine ⟨_, rfl, fun j v hv => h.news j v ?_⟩
  rw [List.getElem?_map, List.getElem?_take] at hv
  split at hv
  · show (l.flatMap CV.enc)[j]? = _
    have e : ∀ l : List Int, l.flatMap CV.enc = l.map (Value.int .i64) := fun l => by
      induction l with
      | nil => rfl
      | cons x t ih => rw [List.flatMap_cons, ih]; rfl
    rw [e, List.getElem?_map]
    exact hv
  · cases hv

/-- in the midst of them -/
structure VSt (f1 f2 : FuncId) (P g wb R : Nat) (F' : Nat → Prop) (w' : World) (K n : Nat) (L : List Int) (S1 : Wi) (i : Nat) (acc : List Int) (Si : Wi) (Fi : Nat → Prop) (wr : World) : Prop where
  len : acc.length = i
  eq : wholes L S1 = (wholes (L.drop i) Si).map fun r => (acc ++ r.1, r.2)
  but : But F' w' wr
  wire : WAt wr P g Fi Si
  sub : ∀ b, Fi b → F' b ∨ w'.heap.size ≤ b
  nR : ¬ Fi R
  nb : ¬ Fi wb
  bd : Si.bytes.length ≤ K + 8 + 8 * i
  e1 : Si.fn1 = f1
  e2 : Si.fn2 = f2
  row : wr.heap[R]? = some (.cells (cellsV (acc ++ L.drop i)).toArray 2 (0, 0))
  own : wr.heap[wb]? = some (wbox f1 f2 P)
def VRel (f1 f2 : FuncId) (P g wb R : Nat) (F' : Nat → Prop) (w' : World) (K n : Nat) (L : List Int) (S1 : Wi) (vs : Value) (wr : World) : Prop :=
  ∃ (i k : Nat) (acc : List Int) (Si : Wi) (Fi : Nat → Prop), vs = .int .i64 (i : Int) ∧ i + k = n ∧ VSt f1 f2 P g wb R F' w' K n L S1 i acc Si Fi wr

theorem infoV : (Try.prog.info? 2).map (fun i => (i.zero, i.size, i.bytes)) = some (some (.int .i64 0), 1, 8) := by kernel_rfl
/-- behind the count -/
structure VMid (f1 f2 : FuncId) (P g M : Nat) (F' : Nat → Prop) (w' : World) (K n m : Nat) (a : Option Addr) (cap : Nat) (L : List Int) (S1 : Wi) (w3 : World) : Prop where
  but : But F' w' w3
  size : w'.heap.size + 2 ≤ w3.heap.size
  wire : ∃ F1, (∀ b, F1 b → F' b ∨ w'.heap.size ≤ b) ∧ ¬ F1 w'.heap.size ∧ WAt w3 P g F1 S1
  bd : S1.bytes.length ≤ K + 8
  e1 : S1.fn1 = f1
  e2 : S1.fn2 = f2
  own : w3.heap[w'.heap.size]? = some (wbox f1 f2 P)
  cnt : w3.cell? ⟨w'.heap.size + 1, 0, none⟩ = some (.int .i64 (n : Int))
  cm : w3.cell? ⟨M, 4, none⟩ = some (.slice a m cap)
  at_ : CV.At w3 a m L
theorem vars_mid {f1 f2 : FuncId} {P g M : Nat} {F' : Nat → Prop} {w' w2 w3 : World} {K n m cap : Nat} {a : Option Addr} {q : Rs} {S S1 : Wi} {T : TypeId} {c : Array Value} (hB : BAt f1 f2 w' P g F' S M T c K) (hc : c[4]? = some (.slice a m cap)) (hat : CV.At w' a m q.vars) (hna : ∀ p, a = some p → q.vars ≠ [] → ¬ F' p.block)
    (hw2 : w2 = (w'.alloc (wbox f1 f2 P)).alloc (.cells #[.int .i64 (m : Int)] 3)) (hq : octW S (m : Int) 8 = some ((n : Int), S1)) (h : LeafTo P g (w'.heap.size + 1) 0 F' w2 (.int .i64) (some ((n : Int), S1)) (.returned (.tuple #[])) w3) :
    VMid f1 f2 P g M F' w' K n m a cap q.vars S1 w3 := by
  obtain ⟨hb, -, ⟨F1, hs, hw⟩, hst⟩ := h
  have hz2 : w2.heap.size = w'.heap.size + 2 := by rw [hw2]; simp
  have hlt := hB.lt
  have hbw : But F' w' w2 := by rw [hw2]; exact ((But.refl F' w').alloc _).alloc _
  have hb3 : But F' w' w3 := hbw.next hb fun j hj e => e.elim id fun e => by omega
  have hz3 := hb.size
  have hk := oct_keeps hq
  have hnF : ¬ F' w'.heap.size := fun e => by have := hB.wire.lt _ e; omega
  have hown : w2.heap[w'.heap.size]? = some (wbox f1 f2 P) := by rw [hw2, heap_alloc_old _ _ (by simp), heap_alloc_new]
  have hcnt : w2.cell? ⟨w'.heap.size + 1, 0, none⟩ = some (.int .i64 (m : Int)) := by
    have e : w2.heap[w'.heap.size + 1]? = some (.cells #[.int .i64 (m : Int)] 3 (0, 0)) := by
      have := heap_alloc_new (w'.alloc (wbox f1 f2 P)) (.cells #[.int .i64 (m : Int)] 3 (0, 0))
      rw [World.size_alloc] at this
      rw [hw2, this]
    rw [cell_of_row _ _ _ _ _ _ e]
    rfl
  have hst' : St w2 w3 (w'.heap.size + 1) 0 (.int .i64 (n : Int)) := hst
  refine ⟨hb3, by omega, ⟨F1, fun b e => (hs b e).imp_right (by omega), fun e => (hs _ e).elim hnF (by omega), hw⟩, by have := hB.bd; have := hk.2.2; omega, hk.1.trans hB.e1, hk.2.1.trans hB.e2, ?_, hst'.cell hcnt, ?_, ?_⟩
  · rw [hb.block _ (by omega) (fun e => e.elim hnF (by omega)), hown]
  · have e : w3.heap[M]? = w'.heap[M]? := hb3.block M hlt hB.nf
    rw [World.cell?_of_block (a := ⟨M, 4, none⟩) e, cell_of_row _ _ _ _ _ _ hB.box]
    exact hc
  · exact hat.but' hb3 fun p e e2 _ => hna p e e2
theorem CV_row {w : World} {R : Nat} {l : List Int} {T : TypeId} {fr : Nat × Nat} (h : w.heap[R]? = some (.cells (cellsV l).toArray T fr)) (hl : l.length ≤ 1000000) : CV.At w (some ⟨R, 0, none⟩) l.length l := by
  refine ⟨rfl, hl, .inr ⟨R, 0, rfl, (Array.getElem?_eq_some_iff.1 h).1, fun i hi c hc => ?_⟩⟩
  obtain rfl : c = 0 := by have : c < 1 := hc; omega
  obtain ⟨f1, f2⟩ := fr
  rw [cell_of_row _ _ _ _ _ _ h]
  show (cellsV l).toArray[0 + i * 1 + 0]? = some (Value.int .i64 l[i])
  simp [hi]
theorem set_mid (acc t : List Int) (v v' : Int) : (cellsV (acc ++ v :: t)).toArray.setIfInBounds acc.length (.int .i64 v') = (cellsV (acc ++ [v'] ++ t)).toArray := by
  simp [cellsV, List.setIfInBounds_toArray]
theorem vars_step {f1 f2 : FuncId} {P g wb R : Nat} {F' Fi : Nat → Prop} {w' wr w8 : World} {K n i : Nat} {L acc : List Int} {S1 Si S' : Wi} {v v' : Int} (h : VSt f1 f2 P g wb R F' w' K n L S1 i acc Si Fi wr) (hv : L[i]? = some v) (hR : w'.heap.size ≤ R) (hwb : wb ≠ R) (hq : wholeW Si v = some (v', S'))
    (hl : LeafTo P g R i Fi wr.drew (.int .i64) (some (v', S')) (.returned (.tuple #[])) w8) : ∃ F2, VSt f1 f2 P g wb R F' w' K n L S1 (i + 1) (acc ++ [v']) S' F2 w8 := by
  obtain ⟨hb, -, ⟨F2, hs, hw⟩, hst⟩ := hl
  have hz := h.but.size
  have hdrop : L.drop i = v :: L.drop (i + 1) := by
    obtain ⟨h1, h2⟩ := List.getElem?_eq_some_iff.1 hv
    rw [← h2]
    exact List.drop_eq_getElem_cons h1
  have hbw : But F' w' w8 := (h.but.drew).next hb fun j hj e => e.elim (fun e => (h.sub j e).resolve_right (by omega)) (fun e => by omega)
  have hrl := (Array.getElem?_eq_some_iff.1 h.row).1
  have hbl := (Array.getElem?_eq_some_iff.1 h.own).1
  have hk := whole_keeps hq
  refine ⟨F2, by rw [List.length_append, h.len]; rfl, ?_, hbw, hw, fun b e => (hs b e).elim (h.sub b) fun e => .inr (Nat.le_trans hz e), fun e => (hs _ e).elim h.nR (Nat.not_le.2 hrl), fun e => (hs _ e).elim h.nb (Nat.not_le.2 hbl), by have := h.bd; have := hk.2.2; omega, hk.1.trans h.e1, hk.2.1.trans h.e2, ?_, ?_⟩
  · rw [h.eq, hdrop]
    simp only [wholes, hq, Option.bind_some, Option.map_map]
    congr 1
    funext r
    simp
  · have hr : wr.drew.heap[R]? = some (.cells (cellsV (acc ++ L.drop i)).toArray 2 (0, 0)) := h.row
    rw [hst, heap_setCell_same _ _ _ _ _ _ hr, hdrop, ← h.len, set_mid]
  · rw [hb.block wb hbl (fun e => e.elim h.nb hwb)]
    exact h.own
theorem vars_none {f1 f2 : FuncId} {P g wb R : Nat} {F' Fi : Nat → Prop} {w' wr : World} {K n i : Nat} {L acc : List Int} {S1 Si : Wi} {v : Int} (h : VSt f1 f2 P g wb R F' w' K n L S1 i acc Si Fi wr) (hv : L[i]? = some v) (hq : wholeW Si v = none) : wholes L S1 = none := by
  obtain ⟨h1, h2⟩ := List.getElem?_eq_some_iff.1 hv
  rw [h.eq, List.drop_eq_getElem_cons h1, h2]
  simp only [wholes, hq, Option.bind_none, Option.map_none]
theorem vars_end {f1 f2 : FuncId} {P g M wb R : Nat} {F F' Fi : Nat → Prop} {w w' wr : World} {K n m cap : Nat} {acc : List Int} {q : Rs} {S S1 Si : Wi} {a : Option Addr} (h : VSt f1 f2 P g wb R F' w' K n (padV n q.vars) S1 n acc Si Fi wr) (hn : n ≤ 8) (hR : w'.heap.size ≤ R)
    {N : Nat} (hN : N ≤ w'.heap.size) (hb : But (fun k => F k ∨ k = M) w w') (hsub : ∀ b, F' b → F b ∨ w.heap.size ≤ b) (hB : BAt f1 f2 w' P g F' S M 47 (RsC q (.slice a m cap)) K) (hu1 : U32 q.id) (hu2 : U32 q.num) :
    wholes (padV n q.vars) S1 = some (acc, Si) ∧ SMid N f1 f2 P g M F w { q with vars := acc } Si (K + 5000) (wr.setCell ⟨M, 4, none⟩ (.slice (some ⟨R, 0, none⟩) n n)) := by
  have hz := hb.size
  have hlt := hB.lt
  have hbox : wr.heap[M]? = some (.cells (RsC q (.slice a m cap)) 47 (0, 0)) := (h.but.block M hlt hB.nf).trans hB.box
  have hc4 : wr.cell? ⟨M, 4, none⟩ = some (.slice a m cap) := by rw [cell_of_row _ _ _ _ _ _ hbox]; rfl
  have hnF : ¬ Fi M := fun e => (h.sub M e).elim hB.nf (by omega)
  have hdrop : (padV n q.vars).drop n = [] := List.drop_of_length_le (by rw [padV_len]; exact Nat.le_refl _)
  have hrow := h.row
  rw [hdrop, List.append_nil] at hrow
  have hbs : But (fun k => k = M) wr (wr.setCell ⟨M, 4, none⟩ (.slice (some ⟨R, 0, none⟩) n n)) := (But.refl (fun k => k = M) _).setCell (p := ⟨M, 4, none⟩) rfl _
  have hrow2 := (hbs.block R (Array.getElem?_eq_some_iff.1 hrow).1 (by omega)).trans hrow
  have hlen := h.len
  refine ⟨by rw [h.eq, hdrop]; simp [wholes], (hb.next h.but fun j hj e => .inl ((hsub j e).resolve_right (by omega))).setCell (.inr rfl) _, Fi, some ⟨R, 0, none⟩, n, fun b e => (h.sub b e).elim (hsub b) fun e => .inr (by omega), ⟨h.wire.set hc4 (fun x e => by cases e) hnF hB.ne _, ?_, hnF, hB.ne, by have := h.bd; omega, h.e1, h.e2⟩, by dsimp only; omega, CV_row (l := acc) hrow2 (by omega), fun p e _ => ?_, Nat.le_trans hN (Nat.le_trans h.but.size hbs.size), hu1, hu2⟩
  · rw [heap_setCell_same _ _ _ _ _ _ hbox]
    dsimp only
    rw [hlen]
    rfl
  · cases e
    exact ⟨⟨h.nR, by show R ≠ M; omega⟩, by show N ≤ R; omega⟩
theorem made_row (w : World) (n : Nat) : (w.alloc (.cells (madeCells #[Value.int .i64 0] n) 2)).heap[w.heap.size]? = some (.cells (cellsV (List.replicate n 0)).toArray 2 (0, 0)) := by
  rw [heap_alloc_new, made_V]
theorem row_pad {w : World} {g n : Nat} {l : List Int} (h : Hid (w.heap[g]? = some (.cells (splice (cellsV (List.replicate n 0)) 0 (cellsV (l.take n))).toArray 2 (0, 0)))) : Hid (w.heap[g]? = some (.cells (cellsV (padV n l)).toArray 2 (0, 0))) := by
  rw [splice_pad] at h
  exact h
set_option maxHeartbeats 2000000 in
set_option maxRecDepth 100000 in
theorem fieldVars : FieldS 67 gVars := by
  intro N f1 f2 P g M F w q S K w' ⟨hb, F', a, cap, hsub, hB, hcap, hat, hmod, hN, hu1, hu2⟩ hK
  have hbd := hB.bd
  have hlt := hB.lt
  have hz := hb.size
  obtain ⟨m, hm⟩ : ∃ m, m = q.vars.length := ⟨_, rfl⟩
  obtain ⟨w2, hw2⟩ : ∃ w2, w2 = (w'.alloc (wbox f1 f2 P)).alloc (.cells #[.int .i64 (m : Int)] 3) := ⟨_, rfl⟩
  have hoct : Calls Try.prog 76 #[wv f1 f2 P, .pointer (some ⟨w'.heap.size + 1, 0, none⟩), .int .i64 8] w2 (LeafTo P g (w'.heap.size + 1) 0 F' w2 (.int .i64) (octW S (m : Int) 8)) := by
    have hb1 : Below w'.heap.size w' w2 := by rw [hw2]; exact ((Below.refl _ _).alloc (Nat.le_refl _) _).alloc (by simp) _
    have h2 : w2.heap[w'.heap.size + 1]? = some (.cells #[.int .i64 (m : Int)] 3 (0, 0)) := by
      have := heap_alloc_new (w'.alloc (wbox f1 f2 P)) (.cells #[.int .i64 (m : Int)] 3 (0, 0))
      rw [World.size_alloc] at this
      rw [hw2, this]
    rw [← hB.e2, ← hB.e1]
    exact octet_any S P g _ 0 F' m w2 (hB.wire.below hb1) ⟨by rw [cell_of_row _ _ _ _ _ _ h2]; rfl, frozen_of_row _ _ _ _ _ h2, fun e => by have := hB.wire.lt _ e; omega, by have := (Array.getElem?_eq_some_iff.1 hB.wire.box).1; omega⟩ 8 (by omega)
  have hM4 : w'.cell? ⟨M, 4, none⟩ = some (.slice a m cap) := by rw [cell_of_row _ _ _ _ _ _ hB.box, hm]; rfl
  have hmid := fun (n : Nat) (S1 : Wi) (w3 : World) => vars_mid (n := n) (S1 := S1) (w3 := w3) hB (by rw [hm]; rfl : (RsC q (Value.slice a q.vars.length cap))[4]? = some (Value.slice a m cap)) (by rw [hm]; exact hat) (fun p e e2 => (hmod p e e2).1.1) hw2
  have HB := Lib.hid (And.intro hb (And.intro hsub (And.intro hcap (And.intro hat (And.intro hN (And.intro hu1 hu2))))))
  have HBB := Lib.hid hB
  have HMID := Lib.hid hmid
  have HM := Lib.hid hm
  have HZ := Lib.hid hz
  have HW2 := Lib.hid hw2
  clear hb hsub hcap hat hmod hN hu1 hu2 hB hm hz hmid hw2
  obtain ⟨Rz, hRz⟩ : ∃ R, R = gVars q S := ⟨_, rfl⟩
  rw [← hRz]
  have HRz := Lib.hid hRz
  clear hRz
  cases hq : octW S (m : Int) 8 with
  | none =>
    rw [hq] at hoct
    have HOCT := Lib.hid hoct
    have HQN := Lib.hid hq
    clear hoct hq
    go_enter Try.func67, Try.ntmps67
    go_wp2_with (first
      | (go_at_call 76; rw [← HW2.out]; refine HOCT.out.mono ?_; rintro e w3 ⟨hb3, rfl⟩))
    refine ⟨rfl, ?_⟩
    have e3 := HQN.out
    rw [HM.out] at e3
    rw [HRz.out]
    simp only [gVars, e3, Option.bind_none]
    have hzw := HZ.out
    have hb' : But F' w' w3 := (by rw [HW2.out]; exact ((But.refl F' w').alloc _).alloc _ : But F' w' w2).next hb3 fun j hj e => e.elim id (fun e => by omega)
    exact ⟨HB.out.1.next hb' fun j hj e => .inl ((HB.out.2.1 j e).resolve_right (by omega)), rfl⟩
  | some r =>
    obtain ⟨v1, S1⟩ := r
    have hv1 := octW_bd hq
    obtain ⟨n, rfl⟩ : ∃ n : Nat, v1 = (n : Int) := ⟨v1.toNat, by omega⟩
    rw [hq] at hoct
    have HOCT := Lib.hid hoct
    have hn8 : n ≤ 8 := by omega
    obtain ⟨i0, hi0, hz0, hz1, hz2⟩ := info_of infoV
    have HQ := Lib.hid hq
    have HSZ : Hid ((Try.prog.info? 2).map (·.size) = some 1) := by rw [hi0]; simp [Lib.hid_eq, hz1]
    clear hoct hq hv1
    go_enter Try.func67, Try.ntmps67
    go_wp2_with (first
      | (go_at_call 76; rw [← HW2.out]; refine HOCT.out.mono ?_; rintro e w3 ⟨hb3, rfl, hf3⟩; have HV := HMID.out n S1 w3 HQ.out ⟨hb3, rfl, hf3⟩; have c3 := HV.cnt; have d3 := HV.cm; have l3 : M < w3.heap.size := World.block_lt_of_cell? _ _ d3; have HVV := Lib.hid HV; clear HV hb3 hf3)
      | (at_make; refine wpList_make_row _ rfl (.tmp 14) (.tmp 14) 43 rfl 2 i0 (.int .i64 0) Try.underlying43 hi0 hz0 hz1 rfl .i64 .i64 n rfl rfl (by rw [hz2]; omega) (by omega) ?_)
      | (refine wpList_copy_splice rfl (.tmp 16) (.tmp 20) 43 43 rfl 2 Try.underlying43 HSZ.out (some ⟨w3.heap.size, 0, none⟩) a n n m cap rfl rfl w3.heap.size 0 (cellsV (List.replicate n 0)) 2 (made_row w3 n) (cellsV (q.vars.take n)) (by rw [HM.out]; simp [Nat.min_comm]) (fun h0 => ⟨rfl, CV_cells (HVV.out.at_.below ((Below.refl _ _).alloc (Nat.le_refl _) _)) n h0⟩) (by simp; omega) (cellsV_one _) w3.heap.size w3 ((Below.refl _ _).alloc (Nat.le_refl _) _) (Nat.le_refl _) ?_; intro w5 hrow hb5; have HROW := row_pad hrow; have HB5 := Lib.hid hb5; clear hrow hb5 c3 d3))
    go_loopw [24] (fun vs wr => VRel f1 f2 P g w'.heap.size w3.heap.size F' w' K n (padV n q.vars) S1 vs wr) (fun v _ => ((n : Int) - intOf v).toNat)
    case atStart =>
      obtain ⟨F1, hs1, hn1, hw1⟩ := HVV.out.wire
      have hv := HVV.out
      have hz3 := hv.size
      have hbw : But F' w' w5 := hv.but.trans (But.of HB5.out)
      exact ⟨0, n, [], S1, F1, rfl, by omega, ⟨rfl, by simp, hbw, hw1.below HB5.out, hs1, fun e => by have := hw1.lt _ e; omega, hn1, by have := hv.bd; omega, hv.e1, hv.e2, HROW.out, (HB5.out.block _ (by omega)).trans hv.own⟩⟩
    case round =>
      obtain ⟨i, k, acc, Si, Fi, rfl, hik, hst⟩ := hrel
      have hbox : wr.heap[M]? = w'.heap[M]? := hst.but.block M hlt HBB.out.nf
      rcases k with _ | k
      · obtain rfl : i = n := by omega
        have c4 : wr.cell? ⟨M, 4, none⟩ = some (.slice a m cap) := (World.cell?_of_block (a := ⟨M, 4, none⟩) hbox).trans hM4
        have f4 : wr.frozen? ⟨M, 4, none⟩ = false := (frozen_same (a := ⟨M, 4, none⟩) hbox).trans (frozen_of_row _ _ _ _ _ HBB.out.box)
        have HST := Lib.hid hst
        clear hst hbox
        go_wp2
        go_end0
        obtain ⟨hb, hsub, hcap, hat, hN, hu1, hu2⟩ := HB.out
        have hB := HBB.out
        rw [← HM.out] at hB
        obtain ⟨e1, e2⟩ := vars_end HST.out hn8 (by have := HVV.out.size; omega) hN hb hsub hB hu1 hu2
        have e3 := HQ.out
        rw [HM.out] at e3
        rw [HRz.out]
        simp only [gVars, e3, Option.bind_some, Int.toNat_natCast, e1, Option.map_some]
        exact ⟨rfl, e2⟩
      · obtain ⟨v, hv⟩ : ∃ v, (padV n q.vars)[i]? = some v := ⟨_, List.getElem?_eq_getElem (by rw [padV_len]; omega)⟩
        have hin : i < n := by omega
        have a1 : wr.cell? ⟨w'.heap.size, 0, none⟩ = some (.func (.func f1) #[] #[.pointer (some ⟨P, 0, none⟩)]) := by rw [cell_of_row _ _ _ _ _ _ hst.own]; rfl
        have b1 : wr.cell? ⟨w'.heap.size, 1, none⟩ = some (.func (.func f2) #[] #[.pointer (some ⟨P, 0, none⟩)]) := by rw [cell_of_row _ _ _ _ _ _ hst.own]; rfl
        have hplc : Plc wr.drew P w3.heap.size i Fi (.int .i64 v) := by
          have hr : wr.drew.heap[w3.heap.size]? = _ := hst.row
          refine ⟨?_, frozen_of_row _ _ _ _ _ hr, hst.nR, fun e => ?_⟩
          · rw [cell_of_row _ _ _ _ _ _ hr]
            have := hst.len
            obtain ⟨h1, h2⟩ := List.getElem?_eq_some_iff.1 hv
            simp only [cellsV, List.getElem?_toArray, List.getElem?_map]
            rw [List.getElem?_append_right (by omega), List.getElem?_drop, hst.len, Nat.sub_self, Nat.add_zero, hv]
            rfl
          · have e1 := hst.wire.box
            have e2 := hst.row
            rw [e, e1] at e2
            have := congrArg (fun o => match o with | some (Obj.cells _ t _) => t | _ => 0) e2
            exact absurd this (show ¬ ((105 : Nat) = 2) by decide)
        have hcall := whole_any Si P g w3.heap.size i Fi v wr.drew (hst.wire.below (Below.refl _ _).drew) hplc (by have := hst.bd; omega)
        rw [hst.e1, hst.e2] at hcall
        have HST := Lib.hid hst
        have HVI := Lib.hid hv
        clear hst hbox hplc hv
        cases hw : wholeW Si v with
        | none =>
          rw [hw] at hcall
          have HC := Lib.hid hcall
          have HNO : Hid (∀ w8, But (fun k => Fi k ∨ k = w3.heap.size) wr.drew w8 → STo N f1 f2 P g M F w (K + 5000) Rz (.panicked fieldPanic) w8) := fun w8 hb8 => by
            have e3 := HQ.out
            rw [HM.out] at e3
            rw [HRz.out]
            simp only [gVars, e3, Option.bind_some, Int.toNat_natCast, vars_none HST.out HVI.out hw, Option.map_none]
            have hz3 := HVV.out.size
            have hzw := HST.out.but.size
            have hb' : But F' w' w8 := (HST.out.but.drew).next hb8 fun j hj e => e.elim (fun e => (HST.out.sub j e).resolve_right (by omega)) (fun e => by omega)
            exact ⟨HB.out.1.next hb' fun j hj e => .inl ((HB.out.2.1 j e).resolve_right (by omega)), rfl⟩
          clear hcall
          go_wp2
          go_region_dies
          all_goals
            refine HC.out.mono ?_
            rintro e w8 ⟨hb8, rfl⟩
            exact ⟨rfl, HNO.out w8 hb8⟩
        | some r =>
          obtain ⟨v', S'⟩ := r
          rw [hw] at hcall
          have HC := Lib.hid hcall
          have HWW := Lib.hid hw
          clear hcall hw
          go_wp2
          go_region_law (first
            | (go_simp; refine HC.out.mono ?_; rintro e w8 ⟨hb8, rfl, hf8⟩; have HL8 := Lib.hid (vars_step HST.out HVI.out (by have := HVV.out.size; omega) (by have := HVV.out.size; omega) HWW.out ⟨hb8, rfl, hf8⟩); clear hb8 hf8; dsimp only))
          all_goals
            go_wp2
            go_roundw
            case rel =>
              obtain ⟨F2, h2⟩ := HL8.out
              exact ⟨i + 1, k, _, _, F2, by simp, by omega, h2⟩
            case measure => simp [intOf]; omega
end Go.Proofs.Ytdpfmaikijilkaa
