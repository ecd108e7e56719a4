/-
  The walk of encode, for requests.
-/
import Derived.Test.YtdpfmaikijilkaaW19
import Derived.Test.YtdpfmaikijilkaaSQ
namespace Go.Proofs.Ytdpfmaikijilkaa
open Go Go.RowKit Go.Sort Go.Proofs Go.MapKept

def EncTo (w : World) (r : Option (List UInt8)) (e : Ending) (w' : World) : Prop :=
  Below w.heap.size w w' ∧ match r with
    | none => e = .returned (.tuple #[.slice none 0 0, .int .i64 2])
    | some b => b.length ≤ 60000 ∧ ∃ v, e = .returned (.tuple #[v, .int .i64 0]) ∧ CB.Own 5 w.heap.size w' v b
def encQ (q : Rq) : Option (List UInt8) := match tabQ q.kind with
  | none => none
  | some fs => match passQ (fs.map (·.2)) q (.wr [byteI q.kind]) with
    | some (_, .wr b) => if (decQ b).2 = 0 ∧ sameQ (decQ b).1 q = true then some b else none
    | _ => none
theorem Cod.Own.raise {w : World} {v : Value} {l : List UInt8} {B : Nat} (h : CB.Own 5 0 w v l) (hB : ∀ b, v.ownBlock = some b → B ≤ b) : CB.Own 5 B w v l := by
  obtain ⟨h1, h2 | ⟨g, cap, cur, e, _, r⟩⟩ := h
  · exact ⟨h1, .inl h2⟩
  · exact ⟨h1, .inr ⟨g, cap, cur, e, hB g (by rw [e]; rfl), r⟩⟩
theorem CB_low {w : World} {a : Option Addr} {n : Nat} {l : List UInt8} (h : CB.At w a n l) : ∀ p, a = some p → l ≠ [] → p.block < w.heap.size := fun p e h0 => by
  obtain ⟨B, off, e4, hB, -⟩ := h.cell (i := 0) (by have := h.1; have := List.length_pos_iff.2 h0; omega)
  rw [e] at e4
  cases e4
  exact hB
theorem wrapB_kind (k : Int) : IntKind.u8.wrap k = ((byteI k).toNat : Int) := by rw [byteI_val]; simp [IntKind.wrap, IntKind.signed, IntKind.bits]

/-- the boxes at the beginning -/
structure En0 (w W : World) (Mp : Nat) (q : Rq) (mv : Value) : Prop where
  below : Below w.heap.size w W
  b0 : W.heap[w.heap.size]? = some (.cells #[.func (.func 51) #[] #[], .map (some Mp), .func (.func 27) #[] #[]] 72 (0, 0))
  b1 : W.heap[w.heap.size + 1]? = some (.cells (RqC q mv) 32 (0, 0))
section
variable {w W : World} {Mp : Nat} {q : Rq} {mv : Value}
theorem En0.of (h : (w.alloc (.cells #[.func (.func 51) #[] #[], .map (some Mp), .func (.func 27) #[] #[]] 72)).alloc (.cells (RqC q mv) 32) = W) : En0 w W Mp q mv ∧ W.heap.size = w.heap.size + 2 := by
  subst h
  have z1 := World.size_alloc w (.cells #[.func (.func 51) #[] #[], .map (some Mp), .func (.func 27) #[] #[]] 72)
  refine ⟨⟨((Below.refl _ _).alloc (Nat.le_refl _) _).alloc (by omega) _, ?_, ?_⟩, by simp⟩
  · rw [heap_alloc_old _ _ (by omega), heap_alloc_new]
  · rw [← z1, heap_alloc_new]
theorem En0.but {S : Nat → Prop} {W' : World} (h : En0 w W Mp q mv) (hb : But S W W') (hS : ∀ k, S k → w.heap.size + 2 ≤ k) : En0 w W' Mp q mv :=
  ⟨h.below.trans (hb.below h.below.size (fun k e => by have := hS k e; omega)), (hb.block _ (Array.getElem?_eq_some_iff.1 h.b0).1 fun e => by have := hS _ e; omega).trans h.b0, (hb.block _ (Array.getElem?_eq_some_iff.1 h.b1).1 fun e => by have := hS _ e; omega).trans h.b1⟩
theorem En0.cells (h : En0 w W Mp q mv) : W.cell? ⟨w.heap.size, 0, none⟩ = some (.func (.func 51) #[] #[]) ∧ W.cell? ⟨w.heap.size, 1, none⟩ = some (.map (some Mp)) ∧ W.cell? ⟨w.heap.size, 2, none⟩ = some (.func (.func 27) #[] #[]) ∧ W.cell? ⟨w.heap.size + 1, 0, none⟩ = some (.int .i64 q.kind) :=
  ⟨by rw [cell_of_row _ _ _ _ _ _ h.b0]; rfl, by rw [cell_of_row _ _ _ _ _ _ h.b0]; rfl, by rw [cell_of_row _ _ _ _ _ _ h.b0]; rfl, by rw [cell_of_row _ _ _ _ _ _ h.b1]; rfl⟩
/-- .. and the one that is passed -/
structure En3 (w W : World) (Mp : Nat) (q : Rq) (mv : Value) : Prop where
  e0 : En0 w W Mp q mv
  m : W.heap[w.heap.size + 2]? = some (.cells (RqC q mv) 32 (0, 0))
  size : W.heap.size = w.heap.size + 3
theorem En3.of {W3 : World} {O : Array Value} (h : En0 w W Mp q mv) (hz : W.heap.size = w.heap.size + 2) (e : (W.alloc (.cells O 32)).setRow (w.heap.size + 2) (RqC q mv) = W3) : En3 w W3 Mp q mv := by
  subst e
  have hn := heap_alloc_new W (.cells O 32)
  rw [hz] at hn
  refine ⟨⟨below_setRow (h.below.alloc h.below.size _) (by omega) _, ?_, ?_⟩, setRow_heap _ _ _ _ _ _ hn, by simp [World.setRow]; omega⟩
  · rw [setRow_other _ _ _ _ (by omega), heap_alloc_old _ _ (by omega)]; exact h.b0
  · rw [setRow_other _ _ _ _ (by omega), heap_alloc_old _ _ (by omega)]; exact h.b1
/-- .. and a writer -/
structure En7 (w W : World) (Mp : Nat) (q : Rq) (mv : Value) (P : Nat) : Prop where
  e0 : En0 w W Mp q mv
  m : W.heap[w.heap.size + 2]? = some (.cells (RqC q mv) 32 (0, 0))
  row : W.heap[w.heap.size + 3]? = some (.cells #[.int .u8 ((byteI q.kind).toNat : Int)] 5 (0, 0))
  box : W.heap[w.heap.size + 4]? = some (.cells #[.slice (some ⟨w.heap.size + 3, 0, none⟩) 1 1] 24 (0, 0))
  p : W.heap[P]? = some (.cells #[.pointer (some ⟨w.heap.size + 4, 0, none⟩)] 105 (0, 0))
  hP : w.heap.size + 5 ≤ P
theorem En7.of {W7 : World} {P : Nat} (h : En3 w W Mp q mv) (hb : Below (w.heap.size + 5) ((W.alloc (.cells #[.int .u8 (q.kind % 256)] 5)).alloc (.cells #[.slice (some ⟨W.heap.size, 0, none⟩) 1 1] 24)) W7) (hP : w.heap.size + 5 ≤ P) (hp : W7.heap[P]? = some (.cells #[.pointer (some ⟨W.heap.size + 1, 0, none⟩)] 105 (0, 0))) : En7 w W7 Mp q mv P := by
  have hz := h.size
  have n3 : ((W.alloc (.cells #[.int .u8 (q.kind % 256)] 5)).alloc (.cells #[.slice (some ⟨W.heap.size, 0, none⟩) 1 1] 24)).heap[w.heap.size + 3]? = some (.cells #[.int .u8 (q.kind % 256)] 5 (0, 0)) := by
    rw [heap_alloc_old _ _ (by simp; omega), ← hz, heap_alloc_new]
  have n4 : ((W.alloc (.cells #[.int .u8 (q.kind % 256)] 5)).alloc (.cells #[.slice (some ⟨W.heap.size, 0, none⟩) 1 1] 24)).heap[w.heap.size + 4]? = some (.cells #[.slice (some ⟨W.heap.size, 0, none⟩) 1 1] 24 (0, 0)) := by
    have := heap_alloc_new (W.alloc (.cells #[.int .u8 (q.kind % 256)] 5)) (.cells #[.slice (some ⟨W.heap.size, 0, none⟩) 1 1] 24)
    rw [World.size_alloc, hz] at this
    rw [hz]
    exact this
  have hold : ∀ k, k < w.heap.size + 3 → ((W.alloc (.cells #[.int .u8 (q.kind % 256)] 5)).alloc (.cells #[.slice (some ⟨W.heap.size, 0, none⟩) 1 1] 24)).heap[k]? = W.heap[k]? := fun k hk => by rw [heap_alloc_old _ _ (by simp; omega), heap_alloc_old _ _ (by omega)]
  have hbw : Below w.heap.size w ((W.alloc (.cells #[.int .u8 (q.kind % 256)] 5)).alloc (.cells #[.slice (some ⟨W.heap.size, 0, none⟩) 1 1] 24)) := (h.e0.below.alloc (by omega) _).alloc (by simp; omega) _
  revert n3 n4 hold hbw hb
  generalize (W.alloc (.cells #[.int .u8 (q.kind % 256)] 5)).alloc (.cells #[.slice (some ⟨W.heap.size, 0, none⟩) 1 1] 24) = W4
  intro hb n3 n4 hold hbw
  refine ⟨⟨hbw.trans (hb.mono (by omega)), (hb.block _ (by omega)).trans ((hold _ (by omega)).trans h.e0.b0), (hb.block _ (by omega)).trans ((hold _ (by omega)).trans h.e0.b1)⟩, (hb.block _ (by omega)).trans ((hold _ (by omega)).trans h.m), ?_, ?_, ?_, hP⟩
  · rw [hb.block _ (by omega), n3, byteI_val]
  · rw [hb.block _ (by omega), n4, hz]
  · rw [hz] at hp; exact hp
theorem En7.qat {P : Nat} {a : Option Addr} {cap : Nat} (h : En7 w W Mp q mv P) (hmv : mv = .slice a q.model.length cap) (ha : CB.At w a q.model.length q.model) (hc : q.model.length ≤ cap) (u1 : U32 q.id) (u2 : U32 q.num) :
    QAt 0 (Wi.wr [byteI q.kind]).fn1 (Wi.wr [byteI q.kind]).fn2 P (w.heap.size + 4) (w.heap.size + 2) (fun b => b = w.heap.size + 3 ∨ b = w.heap.size + 4) q (.wr [byteI q.kind]) 100 W := by
  subst hmv
  have hP := h.hP
  have hlt := (Array.getElem?_eq_some_iff.1 h.box).1
  have hl := CB_low ha
  refine ⟨a, cap, ⟨⟨h.p, by omega, .inr rfl, fun b e => by omega, _, h.box, ⟨rfl, .inr ⟨w.heap.size + 3, 1, #[.int .u8 ((byteI q.kind).toNat : Int)], rfl, Nat.zero_le _, h.row, Nat.le_refl _, by decide, rfl, rfl⟩⟩, fun b e => ?_⟩, h.m, by omega, by omega, by simp [Wi.bytes], rfl, rfl⟩, hc, ha.below h.e0.below, fun p e e2 => ⟨⟨?_, ?_⟩, Nat.zero_le _⟩, Nat.zero_le _, u1, u2⟩
  · obtain rfl : w.heap.size + 3 = b := by simpa [Value.ownBlock] using e
    exact ⟨.inl rfl, by omega⟩
  · have := hl p e e2; omega
  · have := hl p e e2; omega
/-- .. behind the fields -/
structure En8 (w W : World) (Mp : Nat) (q : Rq) (mv : Value) (b : List UInt8) (ad : Option Addr) (c : Nat) : Prop where
  e0 : En0 w W Mp q mv
  box : W.heap[w.heap.size + 4]? = some (.cells #[.slice ad b.length c] 24 (0, 0))
  own : CB.Own 5 w.heap.size W (.slice ad b.length c) b
  at_ : CB.At W ad b.length b
  le : b.length ≤ c
  mx : c ≤ 9223372036854775807
  bd : b.length ≤ 60000
theorem En8.no {P g M : Nat} {W8 : World} {q8 : Rq} {r : List UInt8} {F' : Nat → Prop} {f2 : FuncId} {K : Nat} (hat : QAt 0 (Wi.wr [byteI q.kind]).fn1 f2 P g M F' q8 (.rd r) K W8) : False := by
  obtain ⟨a, cap, h1, _⟩ := hat
  exact absurd h1.e1 (show ¬ ((84 : Nat) = 81) by decide)
theorem En8.of {P : Nat} {W8 : World} {q8 : Rq} {b : List UInt8} {F' : Nat → Prop} {f1 f2 : FuncId} (h : En7 w W Mp q mv P) (hb : But (fun k => (k = w.heap.size + 3 ∨ k = w.heap.size + 4) ∨ k = w.heap.size + 2) W W8) (hsub : ∀ b, F' b → (b = w.heap.size + 3 ∨ b = w.heap.size + 4) ∨ W.heap.size ≤ b)
    (hat : QAt 0 f1 f2 P (w.heap.size + 4) (w.heap.size + 2) F' q8 (.wr b) 50100 W8) : ∃ ad c, En8 w W8 Mp q mv b ad c := by
  obtain ⟨a, cap, h1, _⟩ := hat
  have hbd := h1.bd
  have hst := h1.wire.st
  have hz := h.e0.below.size
  obtain ⟨v, h2, h3, h4⟩ := hst
  have hbl : b.length ≤ 50100 := hbd
  obtain ⟨ad, c, rfl, hle, hat, _⟩ := h3.at_ (by omega)
  refine ⟨ad, c, h.e0.but hb (fun k e => by omega), h2, h3.raise fun k e => ?_, hat, hle, ?_, by omega⟩
  · have := hsub k (h4 k e).1
    omega
  · rcases h3.2 with ⟨e, _⟩ | ⟨g, cap, cur, e, _, _, _, hm, _⟩
    · injection e with e1 e2 e3; omega
    · injection e with e1 e2 e3; unfold maxLen at hm; omega
theorem En8.below {b : List UInt8} {ad : Option Addr} {c : Nat} {W' : World} (h : En8 w W Mp q mv b ad c) (hb : Below W.heap.size W W') : En8 w W' Mp q mv b ad c :=
  ⟨h.e0.but (S := fun _ => False) (But.of hb) (fun _ e => e.elim), (hb.block _ (Array.getElem?_eq_some_iff.1 h.box).1).trans h.box, h.own.below hb, h.at_.below hb, h.le, h.mx, h.bd⟩
theorem En8.cell {b : List UInt8} {ad : Option Addr} {c : Nat} (h : En8 w W Mp q mv b ad c) : W.cell? ⟨w.heap.size + 4, 0, none⟩ = some (.slice ad b.length c) := by rw [cell_of_row _ _ _ _ _ _ h.box]; rfl
end
/-- a struct is loaded, where a guard lets it -/
theorem wpList_load_row_on {P : Program} {ops : Array Oper} {rest : List Oper} {o : Oper} {a : Act} {w : World} {Q : Exit → Act → World → Prop} (hw : Region.wanted o (yielded ops a.tmps) = true) (ty : TypeId) (x : Operand) (ho : o.op = .load ty x)
    (g : Nat) (hx : a.eval x = .pointer (some ⟨g, 0, none⟩)) (t : TypeId) (cs : Array Value) (fr : Nat × Nat) (d : TypeDesc) (hg : w.heap[g]? = some (.cells cs t fr))
    (hu : P.underlying ty = some d) (hd : (match d with | .struct _ | .array _ _ => true | _ => false) = true) (hi : (P.info? ty).map (·.size) = some cs.size)
    (h : wpList P ops Q rest (a.put o.dst (.agg cs)) w) : wpList P ops Q (o :: rest) a w :=
  wpList_step fun K hK => by rw [if_pos hw]; exact wp_load_row ty x ho g hx t cs fr d hg hu hd hi (hK _ _ h)
theorem grow_row (W : World) (O cs : Array Value) (T : TypeId) : Below W.heap.size W ((W.alloc (.cells O T)).setRow W.heap.size cs) ∧ ((W.alloc (.cells O T)).setRow W.heap.size cs).heap[W.heap.size]? = some (.cells cs T (0, 0)) :=
  ⟨below_setRow ((Below.refl _ _).alloc (Nat.le_refl _) _) (Nat.le_refl _) _, setRow_heap _ _ _ _ _ _ (heap_alloc_new _ _)⟩
end Go.Proofs.Ytdpfmaikijilkaa
