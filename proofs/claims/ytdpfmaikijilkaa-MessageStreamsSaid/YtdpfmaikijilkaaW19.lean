/-
  The walk of decode, for requests.
-/
import Derived.Test.YtdpfmaikijilkaaW18
import Derived.Laws.CopyOwn
import Derived.Laws.ResultCell
namespace Go.Proofs.Ytdpfmaikijilkaa
open Go Go.RowKit Go.Sort Go.Proofs Go.MapKept

def DecTo (w : World) (r : Rq × Int) (e : Ending) (w' : World) : Prop :=
  ∃ a cap, e = .returned (.tuple #[.agg (RqC r.1 (.slice a r.1.model.length cap)), .int .i64 r.2]) ∧ r.1.model.length ≤ cap ∧ CB.At w' a r.1.model.length r.1.model ∧ (∀ p, a = some p → r.1.model ≠ [] → w.heap.size ≤ p.block) ∧ U32 r.1.id ∧ U32 r.1.num ∧ Below w.heap.size w w'
theorem results_two {P : Program} {fn : Func} {p u : Tmp} {ty : TypeId} (h : fn.results = #[.cell p ty, .tmp u]) (tmps : Array Value) (w : World) (g : Nat) (t : TypeId) (cs : Array Value) (fr : Nat × Nat) (d : TypeDesc)
    (hp : tmps.getD p undef = .pointer (some ⟨g, 0, none⟩)) (hg : w.heap[g]? = some (.cells cs t fr))
    (hu : P.underlying ty = some d) (hd : (match d with | .struct _ | .array _ _ => true | _ => false) = true) (hi : (P.info? ty).map (·.size) = some cs.size) :
    (results fn tmps).run P w = .ok (.tuple #[.agg cs, tmps.getD u undef]) w := by
  rw [results_cell_tmp h, hp]
  simp [asAddr, run_loadVar_row w g t ty cs fr d hg hu hd hi, Result.andThen]
theorem infoQ (q : Rq) (mv : Value) : (Try.prog.info? 32).map (·.size) = some (RqC q mv).size := by
  show _ = some 17
  kernel_rfl
theorem RqC_one (q : Rq) (a : Option Addr) (n c : Nat) : (RqC q (.slice a n c)).all (·.oneCell') = true := by
  simp [RqC]
  exact ⟨rfl, rfl, rfl, rfl, rfl, rfl, rfl, rfl, rfl, rfl, rfl, rfl, rfl, rfl, rfl, rfl, rfl⟩
/-- the boxes at the beginning -/
structure DSt (w w4 : World) (O0 O1 O2 O3 : Obj) : Prop where
  b0 : w4.heap[w.heap.size]? = some O0
  b1 : w4.heap[w.heap.size + 1]? = some O1
  b2 : w4.heap[w.heap.size + 1 + 1]? = some O2
  b3 : w4.heap[w.heap.size + 1 + 1 + 1]? = some O3
  below : Below w.heap.size w w4
  size : w4.heap.size = w.heap.size + 4
theorem DSt.of {w w4 : World} {O0 O1 O2 O3 : Obj} (h : (((w.alloc O0).alloc O1).alloc O2).alloc O3 = w4) : DSt w w4 O0 O1 O2 O3 := by
  subst h
  have z1 := World.size_alloc w O0
  have z2 := World.size_alloc (w.alloc O0) O1
  have z3 := World.size_alloc ((w.alloc O0).alloc O1) O2
  refine ⟨?_, ?_, ?_, ?_, (((Below.refl _ _).alloc (Nat.le_refl _) _).alloc (by omega) _).alloc (by omega) _ |>.alloc (by omega) _, by simp⟩
  · rw [heap_alloc_old _ _ (by omega), heap_alloc_old _ _ (by omega), heap_alloc_old _ _ (by omega), heap_alloc_new]
  · rw [heap_alloc_old _ _ (by omega), heap_alloc_old _ _ (by omega), ← z1, heap_alloc_new]
  · rw [heap_alloc_old _ _ (by omega), ← z1, ← z2, heap_alloc_new]
  · rw [← z1, ← z2, ← z3, heap_alloc_new]

set_option maxHeartbeats 2000000 in
set_option maxRecDepth 100000 in
theorem decode_nil (w : World) (Mp : Nat) (a : Option Addr) (c : Nat) :
    Calls Try.prog 33 #[gQ Mp, .slice a 0 c] w (DecTo w (zeroQ 0, 12)) := by
  go_enter Try.func33, Try.ntmps33
  go_wp2_with (first
    | (show wpList _ _ _ (Oper.mk _ (.load _ (.tmp 7)) _ _ _ _ :: _) _ _; refine wpList_load_row rfl 32 (.tmp 7) rfl (w.heap.size + 1 + 1 + 1) rfl 32 (RqC (zeroQ 0) (.slice none 0 0)) (0, 0) _ (DSt.of rfl).b3 Try.underlying32 rfl (infoQ _ _) ?_)
    | (show wpList _ _ _ (Oper.mk _ (.store _ (.tmp 4) (.tmp 15)) _ _ _ _ :: _) _ _; refine wpList_store_row rfl 32 (.tmp 4) (.tmp 15) rfl (w.heap.size + 1) (RqC (zeroQ 0) (.slice none 0 0)) rfl rfl 32 _ (DSt.of rfl).b1 (infoQ _ _) rfl (RqC_one _ _ _ _) ?_))
  generalize hw4 : World.alloc _ _ = w4
  have hd := DSt.of hw4
  exact ⟨rfl, _, results_two rfl _ _ (w.heap.size + 1) 32 (RqC (zeroQ 0) (.slice none 0 0)) (0, 0) _ rfl (setRow_heap _ _ _ _ _ _ hd.b1) Try.underlying32 rfl (infoQ _ _), none, 0, rfl, Nat.le_refl _, CB_nil _ _, fun p e => (by cases e), ⟨by decide, by decide⟩, ⟨by decide, by decide⟩, below_setRow hd.below (Nat.le_succ _) _⟩

/-- a request that is read, ahead of its fields -/
structure Rd0 (w W : World) (g : Nat) (k : Int) (ad : Addr) (c : Nat) (l : List UInt8) : Prop where
  below : Below w.heap.size w W
  m : W.heap[w.heap.size + 1 + 1]? = some (.cells (RqC (zeroQ k) (.slice none 0 0)) 32 (0, 0))
  z : W.heap[w.heap.size + 1 + 1 + 1]? = some (.cells (RqC (zeroQ 0) (.slice none 0 0)) 32 (0, 0))
  res : W.heap[w.heap.size + 1]? = some (.cells (RqC (zeroQ 0) (.slice none 0 0)) 32 (0, 0))
  left : W.heap[g]? = some (.cells #[.slice (some ad) l.length c] 24 (0, 0))
  data : CB.At W (some ad) l.length l
  le : l.length ≤ c
  mx : c ≤ 9223372036854775807
  low : ad.block < w.heap.size
  hg : g = w.heap.size + 4
theorem Rd0.old {w w4 w5 : World} {O0 O1 O2 O3 O : Obj} (hd : DSt w w4 O0 O1 O2 O3) (h : (w4.alloc O).drew = w5) : w5.heap[w.heap.size]? = w4.heap[w.heap.size]? := by
  subst h
  exact heap_alloc_old _ _ (by have := hd.size; omega)
theorem Rd0.of {w w4 w5 : World} {O0 : Obj} {ad : Addr} {c : Nat} {l : List UInt8} (hd : DSt w w4 O0 (.cells (RqC (zeroQ 0) (.slice none 0 0)) 32) (.cells (RqC (zeroQ 0) (.slice none 0 0)) 32) (.cells (RqC (zeroQ 0) (.slice none 0 0)) 32))
    (h : (w4.alloc (.cells #[.slice (some ad) l.length c] 24)).drew = w5) (hl : CB.At w (some ad) l.length l ∧ l.length ≤ c ∧ c ≤ 9223372036854775807 ∧ ad.block < w.heap.size) : Rd0 w w5 w4.heap.size 0 ad c l := by
  subst h
  obtain ⟨hl, h1, h2, h3⟩ := hl
  have hz := hd.size
  have hb : Below w.heap.size w (w4.alloc (.cells #[.slice (some ad) l.length c] 24)).drew := (hd.below.alloc (by omega) _).drew
  exact ⟨hb, (heap_alloc_old _ _ (by omega)).trans hd.b2, (heap_alloc_old _ _ (by omega)).trans hd.b3, (heap_alloc_old _ _ (by omega)).trans hd.b1, heap_alloc_new _ _, hl.below hb, h1, h2, h3, hz⟩
theorem Rd0.set {w W : World} {g : Nat} {ad : Addr} {c : Nat} {l : List UInt8} (h : Rd0 w W g 0 ad c l) (k : Int) : Rd0 w (W.setCell ⟨w.heap.size + 1 + 1, 0, none⟩ (.int .i64 k)) g k ad c l := by
  have hb : But (fun b => b = w.heap.size + 1 + 1) W (W.setCell ⟨w.heap.size + 1 + 1, 0, none⟩ (.int .i64 k)) := (But.refl (fun b => b = w.heap.size + 1 + 1) W).setCell (p := ⟨w.heap.size + 1 + 1, 0, none⟩) rfl _
  have hg := h.hg
  refine ⟨h.below.setCell (p := ⟨w.heap.size + 1 + 1, 0, none⟩) (by show w.heap.size ≤ w.heap.size + 1 + 1; omega) _, ?_, (hb.block _ (Array.getElem?_eq_some_iff.1 h.z).1 (by omega)).trans h.z, (hb.block _ (Array.getElem?_eq_some_iff.1 h.res).1 (by omega)).trans h.res, (hb.block _ (Array.getElem?_eq_some_iff.1 h.left).1 (by omega)).trans h.left, h.data.but hb (fun p e => by cases e; have := h.low; show ¬ ad.block = _; omega), h.le, h.mx, h.low, hg⟩
  rw [heap_setCell_same _ _ _ _ _ _ h.m]
  rfl
/-- .. with a reader -/
structure Rd7 (w W : World) (g P : Nat) (k : Int) (ad : Addr) (c : Nat) (l : List UInt8) : Prop where
  r : Rd0 w W g k ad c l
  p : W.heap[P]? = some (.cells #[.pointer (some ⟨g, 0, none⟩)] 105 (0, 0))
  hP : g < P
theorem Rd7.of {w W W' : World} {g P : Nat} {k : Int} {ad : Addr} {c : Nat} {l : List UInt8} (h : Rd0 w W g k ad c l) (hb : Below W.heap.size W W') (hP : W.heap.size ≤ P) (hp : W'.heap[P]? = some (.cells #[.pointer (some ⟨g, 0, none⟩)] 105 (0, 0))) : Rd7 w W' g P k ad c l := by
  have hl := (Array.getElem?_eq_some_iff.1 h.left).1
  have hb' : Below w.heap.size w W' := h.below.trans (hb.mono (by have := h.below.size; omega))
  exact ⟨⟨hb', (hb.block _ (Array.getElem?_eq_some_iff.1 h.m).1).trans h.m, (hb.block _ (Array.getElem?_eq_some_iff.1 h.z).1).trans h.z, (hb.block _ (Array.getElem?_eq_some_iff.1 h.res).1).trans h.res, (hb.block _ hl).trans h.left, h.data.below hb, h.le, h.mx, h.low, h.hg⟩, hp, by omega⟩
theorem U32_0 : U32 0 := ⟨by decide, by decide⟩
theorem Rd7.qat {w W : World} {g P : Nat} {k : Int} {ad : Addr} {c : Nat} {l : List UInt8} (h : Rd7 w W g P k ad c l) (hn : l.length ≤ 900000) : QAt w.heap.size (Wi.rd l).fn1 (Wi.rd l).fn2 P g (w.heap.size + 1 + 1) (fun b => b = g) (zeroQ k) (.rd l) 900000 W := by
  have hg := h.r.hg
  have hP := h.hP
  have hl := (Array.getElem?_eq_some_iff.1 h.r.left).1
  refine ⟨none, 0, ⟨⟨h.p, by omega, rfl, fun b e => by omega, some ad, c, h.r.left, h.r.data, h.r.le, h.r.mx, fun p e => ?_⟩, h.r.m, by omega, by omega, hn, rfl, rfl⟩, Nat.le_refl _, CB_nil _ _, fun p e => (by cases e), h.r.below.size, U32_0, U32_0⟩
  cases e
  have := h.r.low
  show ¬ ad.block = g
  omega
/-- .. behind its fields -/
theorem Rd8.bad {w W W' : World} {g P : Nat} {k : Int} {ad : Addr} {c : Nat} {l : List UInt8} (h : Rd7 w W g P k ad c l) (hb : But (fun b => b = g ∨ b = w.heap.size + 1 + 1) W W') :
    Below w.heap.size w W' ∧ W'.heap[w.heap.size + 1 + 1 + 1]? = some (.cells (RqC (zeroQ 0) (.slice none 0 0)) 32 (0, 0)) ∧ W'.heap[w.heap.size + 1]? = some (.cells (RqC (zeroQ 0) (.slice none 0 0)) 32 (0, 0)) := by
  have hg := h.r.hg
  exact ⟨h.r.below.trans (hb.below h.r.below.size (fun k e => by omega)), (hb.block _ (Array.getElem?_eq_some_iff.1 h.r.z).1 (by omega)).trans h.r.z, (hb.block _ (Array.getElem?_eq_some_iff.1 h.r.res).1 (by omega)).trans h.r.res⟩
theorem Rd8.left {N : Nat} {f1 f2 : FuncId} {P g M : Nat} {F : Nat → Prop} {q : Rq} {r : List UInt8} {K : Nat} {W : World} (h : QAt N f1 f2 P g M F q (.rd r) K W) : ∃ a c, W.cell? ⟨g, 0, none⟩ = some (.slice a r.length c) := by
  obtain ⟨_, _, h1, _⟩ := h
  obtain ⟨a, c, h2, _⟩ := h1.wire.st
  exact ⟨a, c, by rw [cell_of_row _ _ _ _ _ _ h2]; rfl⟩
structure Rd9 (N M : Nat) (q : Rq) (a : Option Addr) (cap : Nat) (W : World) : Prop where
  box : W.heap[M]? = some (.cells (RqC q (.slice a q.model.length cap)) 32 (0, 0))
  le : q.model.length ≤ cap
  at_ : CB.At W a q.model.length q.model
  fresh : ∀ p, a = some p → q.model ≠ [] → N ≤ p.block
  u1 : U32 q.id
  u2 : U32 q.num
theorem Rd8.model {N : Nat} {f1 f2 : FuncId} {P g M : Nat} {F : Nat → Prop} {q : Rq} {S : Wi} {K : Nat} {W : World} (h : QAt N f1 f2 P g M F q S K W) : ∃ a cap, Rd9 N M q a cap W := by
  obtain ⟨a, cap, h1, h2, h3, h4, h5, h6, h7⟩ := h
  exact ⟨a, cap, h1.box, h2, h3, fun p e e2 => (h4 p e e2).2, h6, h7⟩
theorem cell_row_no {w : World} {B : Nat} {q : Rq} {a : Option Addr} {n c : Nat} {T : TypeId} (h : w.heap[B]? = some (.cells (RqC q (.slice a n c)) T (0, 0))) {p : Addr} {m : Nat} {l : List UInt8} (hl : CB.At w (some p) m l) (h0 : l ≠ []) : p.block ≠ B := by
  obtain ⟨B', off, e4, -, x, hx, hcell⟩ := hl.cell (i := 0) (by have := hl.1; have := List.length_pos_iff.2 h0; omega)
  cases e4
  intro e
  have e5 := hcell 0 (by decide)
  obtain rfl : B' = B := e
  rw [cell_of_row _ _ _ _ _ _ h] at e5
  exact RqC_nobyte _ _ _ _ _ _ e5
theorem Rd8.keep {w W : World} {M : Nat} {q : Rq} {a : Option Addr} {cap : Nat} (h : Rd9 w.heap.size M q a cap W) (hr : W.heap[w.heap.size + 1]? = some (.cells (RqC (zeroQ 0) (.slice none 0 0)) 32 (0, 0))) (cs : Array Value) : CB.At (W.setRow (w.heap.size + 1) cs) a q.model.length q.model := by
  by_cases h0 : q.model = []
  · have := h.at_
    rw [h0] at this ⊢
    exact CB_nil _ _
  · refine h.at_.same (by simp) fun p e _ => setRow_other _ _ _ _ ?_
    subst e
    exact cell_row_no hr h.at_ h0
def RdOnly (f : FldQ) : Prop := ∀ q l q' S', f q (.rd l) = some (q', S') → ∃ r, S' = .rd r
theorem passQ_rd : ∀ (l : List FldQ), (∀ f ∈ l, RdOnly f) → ∀ (q : Rq) (r : List UInt8) (q' : Rq) (o : List UInt8), passQ l q (.rd r) ≠ some (q', .wr o)
  | [], _, q, r, q', o, h => by simp [passQ] at h
  | f :: t, hl, q, r, q', o, h => by
    simp only [passQ, Option.bind_eq_some_iff] at h
    obtain ⟨⟨q1, S1⟩, h1, h2⟩ := h
    obtain ⟨r1, rfl⟩ := hl f (List.mem_cons_self ..) _ _ _ _ h1
    exact passQ_rd t (fun g hg => hl g (List.mem_cons_of_mem _ hg)) _ _ _ _ h2
theorem fn_rd {S : Wi} (h : S.fn1 = (Wi.rd []).fn1) : ∃ r, S = .rd r := by
  cases S with
  | wr o => exact absurd h (show ¬ ((81 : Nat) = 84) by decide)
  | rd r => exact ⟨r, rfl⟩
theorem wordW_rd' {l : List UInt8} {v v' : Int} {S' : Wi} (h : wordW (.rd l) v = some (v', S')) : ∃ r, S' = .rd r := fn_rd (word_keeps h).1
theorem wholeW_rd' {l : List UInt8} {v v' : Int} {S' : Wi} (h : wholeW (.rd l) v = some (v', S')) : ∃ r, S' = .rd r := fn_rd (whole_keeps h).1
theorem octW_rd' {l : List UInt8} {v m v' : Int} {S' : Wi} (h : octW (.rd l) v m = some (v', S')) : ∃ r, S' = .rd r := fn_rd (oct_keeps h).1
theorem anyW_rd' {l : List UInt8} {v v' : Int} {S' : Wi} (h : anyW (.rd l) v = some (v', S')) : ∃ r, S' = .rd r := fn_rd (any_keeps h).1
theorem rest_rd' {l m l' : List UInt8} {S' : Wi} (h : (Wi.rd l).rest m = some (l', S')) : ∃ r, S' = .rd r := fn_rd (Wi.rest_keeps h).1
theorem contentV_rd {l : List UInt8} {a b c : Int} {v : Int × Int × Int} {S' : Wi} (h : contentV (.rd l) a b c = some (v, S')) : ∃ r, S' = .rd r := by
  simp only [contentV, Option.map_eq_some_iff, Option.bind_eq_some_iff] at h
  obtain ⟨⟨_, S1⟩, h1, ⟨_, S2⟩, h2, ⟨_, S3⟩, h3, e⟩ := h
  obtain ⟨r1, rfl⟩ := octW_rd' h1
  obtain ⟨r2, rfl⟩ := octW_rd' h2
  obtain ⟨r3, rfl⟩ := wholeW_rd' h3
  cases e
  exact ⟨_, rfl⟩
theorem keyV_rd {l : List UInt8} {a b c : Int} {v : Int × Int × Int} {S' : Wi} (h : keyV (.rd l) a b c = some (v, S')) : ∃ r, S' = .rd r := by
  simp only [keyV, Option.map_eq_some_iff, Option.bind_eq_some_iff] at h
  obtain ⟨⟨_, S1⟩, h1, ⟨_, S2⟩, h2, ⟨_, S3⟩, h3, e⟩ := h
  obtain ⟨r1, rfl⟩ := wholeW_rd' h1
  obtain ⟨r2, rfl⟩ := octW_rd' h2
  obtain ⟨r3, rfl⟩ := wholeW_rd' h3
  cases e
  exact ⟨_, rfl⟩
theorem rdID : RdOnly fID := fun q l q' S' h => by
  simp only [fID, Option.map_eq_some_iff] at h
  obtain ⟨⟨_, S1⟩, h1, e⟩ := h
  obtain ⟨r, rfl⟩ := wordW_rd' h1
  cases e
  exact ⟨_, rfl⟩
theorem rdNum : RdOnly fNum := fun q l q' S' h => by
  simp only [fNum, Option.map_eq_some_iff] at h
  obtain ⟨⟨_, S1⟩, h1, e⟩ := h
  obtain ⟨r, rfl⟩ := wordW_rd' h1
  cases e
  exact ⟨_, rfl⟩
theorem rdVer : RdOnly fVer := fun q l q' S' h => by
  simp only [fVer, Option.map_eq_some_iff] at h
  obtain ⟨⟨_, S1⟩, h1, e⟩ := h
  obtain ⟨r, rfl⟩ := octW_rd' h1
  cases e
  exact ⟨_, rfl⟩
theorem rdProc : RdOnly fProc := fun q l q' S' h => by
  simp only [fProc, Option.map_eq_some_iff] at h
  obtain ⟨⟨_, S1⟩, h1, e⟩ := h
  obtain ⟨r, rfl⟩ := octW_rd' h1
  cases e
  exact ⟨_, rfl⟩
theorem rdModel : RdOnly fModel := fun q l q' S' h => by
  simp only [fModel, Option.map_eq_some_iff] at h
  obtain ⟨⟨_, S1⟩, h1, e⟩ := h
  obtain ⟨r, rfl⟩ := rest_rd' h1
  cases e
  exact ⟨_, rfl⟩
theorem rdEvent : RdOnly fEvent := fun q l q' S' h => by
  simp only [fEvent, Option.map_eq_some_iff, Option.bind_eq_some_iff] at h
  obtain ⟨⟨_, S1⟩, h1, ⟨_, S2⟩, h2, e⟩ := h
  obtain ⟨r1, rfl⟩ := wholeW_rd' h1
  obtain ⟨r2, rfl⟩ := contentV_rd h2
  cases e
  exact ⟨_, rfl⟩
theorem rdBreak : RdOnly fBreak := fun q l q' S' h => by
  simp only [fBreak, Option.map_eq_some_iff, Option.bind_eq_some_iff] at h
  obtain ⟨⟨_, S1⟩, h1, ⟨_, S2⟩, h2, ⟨_, S3⟩, h3, e⟩ := h
  obtain ⟨r1, rfl⟩ := octW_rd' h1
  obtain ⟨r2, rfl⟩ := anyW_rd' h2
  obtain ⟨r3, rfl⟩ := wholeW_rd' h3
  cases e
  exact ⟨_, rfl⟩
theorem rdRate : RdOnly fRate := fun q l q' S' h => by
  simp only [fRate, Option.map_eq_some_iff, Option.bind_eq_some_iff] at h
  obtain ⟨⟨_, S1⟩, h1, ⟨_, S2⟩, h2, e⟩ := h
  obtain ⟨r1, rfl⟩ := wholeW_rd' h1
  obtain ⟨r2, rfl⟩ := wholeW_rd' h2
  cases e
  exact ⟨_, rfl⟩
theorem tabQ_rd {k : Int} {fs : List (FuncId × FldQ)} (h : tabQ k = some fs) : ∀ f ∈ fs.map (·.2), RdOnly f := by
  unfold tabQ at h
  by_cases h1 : k = 1
  · rw [if_pos h1] at h
    cases h
    exact forall_two rdID rdVer
  rw [if_neg h1] at h
  by_cases h2 : k = 2
  · rw [if_pos h2] at h
    cases h
    exact forall_two rdID rdModel
  rw [if_neg h2] at h
  by_cases h3 : k = 3
  · rw [if_pos h3] at h
    cases h
    exact forall_two rdID rdEvent
  rw [if_neg h3] at h
  by_cases h4 : k = 4
  · rw [if_pos h4] at h
    cases h
    exact forall_three rdID rdNum rdBreak
  rw [if_neg h4] at h
  by_cases h5 : k = 5
  · rw [if_pos h5] at h
    cases h
    exact forall_two rdID rdNum
  rw [if_neg h5] at h
  by_cases h6 : k = 6
  · rw [if_pos h6] at h
    cases h
    exact forall_two rdID rdProc
  rw [if_neg h6] at h
  by_cases h7 : k = 7
  · rw [if_pos h7] at h
    cases h
    exact forall_one rdID
  rw [if_neg h7] at h
  by_cases h8 : k = 8
  · rw [if_pos h8] at h
    cases h
    exact forall_one rdID
  rw [if_neg h8] at h
  by_cases h9 : k = 9
  · rw [if_pos h9] at h
    cases h
    exact forall_one rdID
  rw [if_neg h9] at h
  by_cases h10 : k = 10
  · rw [if_pos h10] at h
    cases h
    exact forall_two rdID rdRate
  rw [if_neg h10] at h
  by_cases h11 : k = 11
  · rw [if_pos h11] at h
    cases h
    exact forall_one rdID
  rw [if_neg h11] at h
  by_cases h12 : k = 12
  · rw [if_pos h12] at h
    cases h
    exact forall_one rdID
  rw [if_neg h12] at h
  cases h
set_option maxHeartbeats 2000000 in
set_option maxRecDepth 100000 in
theorem decode_tag (w : World) (base Mp : Nat) (hG : GMap 96 base Mp tabReq w) (B off c : Nat) (x : UInt8) (l : List UInt8) (hb : CB.At w (some ⟨B, off, none⟩) (x :: l).length (x :: l)) (hc : l.length + 1 ≤ c) (hcm : c ≤ 9223372036854775807) (hn : l.length ≤ 900000) (ht : tabQ x.toNat = none) :
    Calls Try.prog 33 #[gQ Mp, .slice (some ⟨B, off, none⟩) (l.length + 1) c] w (DecTo w (zeroQ 0, 12)) := by
  obtain ⟨B', off', e', hB, x', hx, hcell⟩ := hb.cell (i := 0) (by simp)
  cases e'
  obtain rfl : x = x' := by simpa using hx
  have c0 : w.cell? ⟨B, off, none⟩ = some (.int .u8 x.toNat) := by
    have h0 : w.cell? ⟨B, off, none⟩ = (CB.enc x)[0]? := by simpa using hcell 0 (by decide)
    exact h0
  have hkx := x.toNat_lt
  have hl1 : CB.At w (some ⟨B, off + 1, none⟩) l.length l := by
    have := hb.part 1 (x :: l).length (by simp) (Nat.le_refl _) B off rfl
    simpa [CB] using this
  have hl2 : c = 1 → CB.At w (some ⟨B, off, none⟩) l.length l ∧ l.length ≤ 0 := fun e => by
    have h0 : l.length = 0 := by omega
    have h1 : l = [] := List.length_eq_zero_iff.1 h0
    subst h1
    exact ⟨CB_nil _ _, Nat.le_refl _⟩
  have HL1 : Hid (CB.At w (some ⟨B, off + 1, none⟩) l.length l ∧ l.length ≤ c - 1 ∧ c - 1 ≤ 9223372036854775807 ∧ (⟨B, off + 1, none⟩ : Addr).block < w.heap.size) := ⟨hl1, by omega, by omega, hB⟩
  have HL2 : Hid (c = 1 → CB.At w (some ⟨B, off, none⟩) l.length l ∧ l.length ≤ 0 ∧ 0 ≤ 9223372036854775807 ∧ (⟨B, off, none⟩ : Addr).block < w.heap.size) := fun e => ⟨(hl2 e).1, (hl2 e).2, by omega, hB⟩
  have hun := Try.underlying22
  have hmn := Try.underlying70
  have hzs : ∀ W, (zeroValue 97).run Try.prog W = .ok (.slice none 0 0) W := fun W => by go_simp
  have hlk : lookF tabReq x.toNat = none := by rw [tabQ_look, ht]; rfl
  have HLK : Hid (∀ W, Below w.heap.size w W → (Instr.lookup 70 (.map (some Mp)) (.int .i64 x.toNat) true).run Try.prog W = .ok (.tuple #[.slice none 0 0, .bool false]) W) := fun W hW => (hG.below hW).look_none hmn hun (hzs W) hlk
  clear hlk hzs hun hmn ht hG hb hx hcell hl1 hl2 hcm hn
  go_enter Try.func33, Try.ntmps33
  go_wp2_with fail
  generalize hw4 : World.alloc _ _ = w4
  have hd := DSt.of hw4
  have c4 : w4.cell? ⟨B, off, none⟩ = some (.int .u8 x.toNat) := (hd.below.cell hB).trans c0
  have hB4 : B < w4.heap.size := Nat.lt_of_lt_of_le hB hd.below.size
  have HD := Lib.hid hd
  clear hd hw4 c0 hB
  by_cases hc1 : c = 1
  all_goals
    go_region
    all_goals
      generalize hw5 : World.drew _ = w5
      have h5 : ∃ ad c', Rd0 w w5 w4.heap.size 0 ad c' l := by first | exact ⟨_, _, Rd0.of HD.out hw5 (HL2.out hc1)⟩ | exact ⟨_, _, Rd0.of HD.out hw5 HL1.out⟩
      obtain ⟨ad, c', h5⟩ := h5
      have m5 : w5.cell? ⟨w.heap.size, 1, none⟩ = some (.map (some Mp)) := by
        have e := (Rd0.old HD.out hw5).trans HD.out.b0
        rw [cell_of_row _ _ _ _ _ _ e]
        rfl
      have k5 : w5.cell? ⟨w.heap.size, 0, none⟩ = some (.func (.func 51) #[] #[]) := by
        have e := (Rd0.old HD.out hw5).trans HD.out.b0
        rw [cell_of_row _ _ _ _ _ _ e]
        rfl
      have H5 := Lib.hid h5
      have H5Z := Lib.hid (And.intro h5.below (And.intro h5.z h5.res))
      clear h5 hw5 c4 hB4
      go_wp2_with (first
        | (refine wpList_lookF rfl (.tmp 24) (.tmp 25) _ rfl _ _ _ rfl rfl (HLK.out _ H5.out.below) ?_)
        | (show wpList _ _ _ (Oper.mk _ (.load _ (.tmp 7)) _ _ _ _ :: _) _ _; refine wpList_load_row rfl 32 (.tmp 7) rfl (w.heap.size + 1 + 1 + 1) rfl 32 (RqC (zeroQ 0) (.slice none 0 0)) (0, 0) _ H5Z.out.2.1 Try.underlying32 rfl (infoQ _ _) ?_)
        | (show wpList _ _ _ (Oper.mk _ (.store _ (.tmp 4) (.tmp 31)) _ _ _ _ :: _) _ _; refine wpList_store_row rfl 32 (.tmp 4) (.tmp 31) rfl (w.heap.size + 1) (RqC (zeroQ 0) (.slice none 0 0)) rfl rfl 32 _ H5Z.out.2.2 (infoQ _ _) rfl (RqC_one _ _ _ _) ?_))
      exact ⟨rfl, _, results_two rfl _ _ (w.heap.size + 1) 32 (RqC (zeroQ 0) (.slice none 0 0)) (0, 0) _ rfl (setRow_heap _ _ _ _ _ _ H5Z.out.2.2) Try.underlying32 rfl (infoQ _ _), none, 0, rfl, Nat.le_refl _, CB_nil _ _, fun p e => (by cases e), ⟨by decide, by decide⟩, ⟨by decide, by decide⟩, below_setRow H5Z.out.1 (Nat.le_succ _) _⟩
set_option maxHeartbeats 2000000 in
set_option maxRecDepth 100000 in
theorem decode_bad (w : World) (base Mp : Nat) (hG : GMap 96 base Mp tabReq w) (B off c : Nat) (x : UInt8) (l : List UInt8) (hb : CB.At w (some ⟨B, off, none⟩) (x :: l).length (x :: l)) (hc : l.length + 1 ≤ c) (hcm : c ≤ 9223372036854775807) (hn : l.length ≤ 900000) (fs : List (FuncId × FldQ)) (ht : tabQ x.toNat = some fs) (hp : passQ (fs.map (·.2)) (zeroQ x.toNat) (.rd l) = none) :
    Calls Try.prog 33 #[gQ Mp, .slice (some ⟨B, off, none⟩) (l.length + 1) c] w (DecTo w (zeroQ 0, 14)) := by
  obtain ⟨B', off', e', hB, x', hx, hcell⟩ := hb.cell (i := 0) (by simp)
  cases e'
  obtain rfl : x = x' := by simpa using hx
  have c0 : w.cell? ⟨B, off, none⟩ = some (.int .u8 x.toNat) := by
    have h0 : w.cell? ⟨B, off, none⟩ = (CB.enc x)[0]? := by simpa using hcell 0 (by decide)
    exact h0
  have hkx := x.toNat_lt
  have hl1 : CB.At w (some ⟨B, off + 1, none⟩) l.length l := by
    have := hb.part 1 (x :: l).length (by simp) (Nat.le_refl _) B off rfl
    simpa [CB] using this
  have hl2 : c = 1 → CB.At w (some ⟨B, off, none⟩) l.length l ∧ l.length ≤ 0 := fun e => by
    have h0 : l.length = 0 := by omega
    have h1 : l = [] := List.length_eq_zero_iff.1 h0
    subst h1
    exact ⟨CB_nil _ _, Nat.le_refl _⟩
  have HL1 : Hid (CB.At w (some ⟨B, off + 1, none⟩) l.length l ∧ l.length ≤ c - 1 ∧ c - 1 ≤ 9223372036854775807 ∧ (⟨B, off + 1, none⟩ : Addr).block < w.heap.size) := ⟨hl1, by omega, by omega, hB⟩
  have HL2 : Hid (c = 1 → CB.At w (some ⟨B, off, none⟩) l.length l ∧ l.length ≤ 0 ∧ 0 ≤ 9223372036854775807 ∧ (⟨B, off, none⟩ : Addr).block < w.heap.size) := fun e => ⟨(hl2 e).1, (hl2 e).2, by omega, hB⟩
  have hun := Try.underlying22
  have hmn := Try.underlying70
  obtain ⟨hfl, hfs, hent⟩ := tabQ_ok ht
  have hlk : lookF tabReq x.toNat = some (fs.map (·.1)) := by rw [tabQ_look, ht]; rfl
  obtain ⟨gf, hgf, hrow, hlook⟩ := hG.look_all (P := Try.prog) hmn hun hlk (by rw [List.length_map]; omega)
  rw [List.length_map] at hrow hlook
  have HLK := Lib.hid hlook
  have HROW := Lib.hid (And.intro hgf hrow)
  clear hgf hrow hlook
  have HF := Lib.hid (And.intro hfl (And.intro hfs hent))
  have HN := Lib.hid hn
  clear hlk hun hmn ht hG hb hx hcell hl1 hl2 hcm hn hfl hfs hent
  have HP := Lib.hid hp
  clear hp
  go_enter Try.func33, Try.ntmps33
  go_wp2_with fail
  generalize hw4 : World.alloc _ _ = w4
  have hd := DSt.of hw4
  have c4 : w4.cell? ⟨B, off, none⟩ = some (.int .u8 x.toNat) := (hd.below.cell hB).trans c0
  have hB4 : B < w4.heap.size := Nat.lt_of_lt_of_le hB hd.below.size
  have HD := Lib.hid hd
  clear hd hw4 c0 hB
  by_cases hc1 : c = 1
  all_goals
    go_region
    all_goals
      generalize hw5 : World.drew _ = w5
      have h5 : ∃ ad c', Rd0 w w5 w4.heap.size 0 ad c' l := by first | exact ⟨_, _, Rd0.of HD.out hw5 (HL2.out hc1)⟩ | exact ⟨_, _, Rd0.of HD.out hw5 HL1.out⟩
      obtain ⟨ad, c', h5⟩ := h5
      have m5 : w5.cell? ⟨w.heap.size, 1, none⟩ = some (.map (some Mp)) := by
        have e := (Rd0.old HD.out hw5).trans HD.out.b0
        rw [cell_of_row _ _ _ _ _ _ e]
        rfl
      have k5 : w5.cell? ⟨w.heap.size, 0, none⟩ = some (.func (.func 51) #[] #[]) := by
        have e := (Rd0.old HD.out hw5).trans HD.out.b0
        rw [cell_of_row _ _ _ _ _ _ e]
        rfl
      have H5 := Lib.hid h5
      have H5Z := Lib.hid (And.intro h5.below (And.intro h5.z h5.res))
      clear h5 hw5 c4 hB4
      have k6 : w5.cell? ⟨w.heap.size + 1 + 1, 0, none⟩ = some (.int .i64 0) := by rw [cell_of_row _ _ _ _ _ _ H5.out.m]; rfl
      have f6 : w5.frozen? ⟨w.heap.size + 1 + 1, 0, none⟩ = false := frozen_of_row _ _ _ _ _ H5.out.m
      go_wp2_with (first
        | (refine wpList_lookF rfl (.tmp 24) (.tmp 25) _ rfl _ _ _ rfl rfl (HLK.out _ H5.out.below) ?_)
        | (go_at_call 51; refine (kindQ_any _ _).mono ?_; rintro e w6 ⟨rfl, rfl⟩)
        | (go_at_call 62; refine (reader_any _ _ l).mono ?_; rintro e w7 ⟨P7, rfl, hP7, hb7, hp7⟩; have H7 := Lib.hid (Rd7.of (H5.out.set x.toNat) hb7 hP7 hp7); have m7 : w7.cell? ⟨w.heap.size + 1 + 1, 0, none⟩ = some (.int .i64 x.toNat) := (by rw [cell_of_row _ _ _ _ _ _ H7.out.r.m]; rfl); clear hb7 hp7 hP7 k6 f6 k5 m5)
        | (go_at_call 60; refine (passQ_any fs HF.out.2.1 HF.out.2.2 (Rd7.qat H7.out HN.out) (Nat.le_refl _) _ _ HF.out.1 (HROW.out.2.below (H7.out.r.below)) (fun p e _ => (by cases e; have := HROW.out.1; have := H7.out.r.hg; exact ⟨by show ¬ gf = _; omega, by show gf ≠ _; omega⟩))).mono ?_; rw [HP.out]; rintro e w8 ⟨hb8, rfl⟩; have H8 := Lib.hid (Rd8.bad H7.out hb8); clear hb8)
        | (show wpList _ _ _ (Oper.mk _ (.load _ (.tmp 7)) _ _ _ _ :: _) _ _; refine wpList_load_row rfl 32 (.tmp 7) rfl (w.heap.size + 1 + 1 + 1) rfl 32 (RqC (zeroQ 0) (.slice none 0 0)) (0, 0) _ H8.out.2.1 Try.underlying32 rfl (infoQ _ _) ?_)
        | (show wpList _ _ _ (Oper.mk _ (.store _ (.tmp 4) (.tmp 46)) _ _ _ _ :: _) _ _; refine wpList_store_row rfl 32 (.tmp 4) (.tmp 46) rfl (w.heap.size + 1) (RqC (zeroQ 0) (.slice none 0 0)) rfl rfl 32 _ H8.out.2.2 (infoQ _ _) rfl (RqC_one _ _ _ _) ?_))
      exact ⟨rfl, _, results_two rfl _ _ (w.heap.size + 1) 32 (RqC (zeroQ 0) (.slice none 0 0)) (0, 0) _ rfl (setRow_heap _ _ _ _ _ _ H8.out.2.2) Try.underlying32 rfl (infoQ _ _), none, 0, rfl, Nat.le_refl _, CB_nil _ _, fun p e => (by cases e), ⟨by decide, by decide⟩, ⟨by decide, by decide⟩, below_setRow H8.out.1 (Nat.le_succ _) _⟩
set_option maxHeartbeats 2000000 in
set_option maxRecDepth 100000 in
theorem decode_more (w : World) (base Mp : Nat) (hG : GMap 96 base Mp tabReq w) (B off c : Nat) (x : UInt8) (l : List UInt8) (hb : CB.At w (some ⟨B, off, none⟩) (x :: l).length (x :: l)) (hc : l.length + 1 ≤ c) (hcm : c ≤ 9223372036854775807) (hn : l.length ≤ 900000) (fs : List (FuncId × FldQ)) (ht : tabQ x.toNat = some fs) (q : Rq) (y : UInt8) (r : List UInt8) (hp : passQ (fs.map (·.2)) (zeroQ x.toNat) (.rd l) = some (q, .rd (y :: r))) :
    Calls Try.prog 33 #[gQ Mp, .slice (some ⟨B, off, none⟩) (l.length + 1) c] w (DecTo w (zeroQ 0, 14)) := by
  obtain ⟨B', off', e', hB, x', hx, hcell⟩ := hb.cell (i := 0) (by simp)
  cases e'
  obtain rfl : x = x' := by simpa using hx
  have c0 : w.cell? ⟨B, off, none⟩ = some (.int .u8 x.toNat) := by
    have h0 : w.cell? ⟨B, off, none⟩ = (CB.enc x)[0]? := by simpa using hcell 0 (by decide)
    exact h0
  have hkx := x.toNat_lt
  have hl1 : CB.At w (some ⟨B, off + 1, none⟩) l.length l := by
    have := hb.part 1 (x :: l).length (by simp) (Nat.le_refl _) B off rfl
    simpa [CB] using this
  have hl2 : c = 1 → CB.At w (some ⟨B, off, none⟩) l.length l ∧ l.length ≤ 0 := fun e => by
    have h0 : l.length = 0 := by omega
    have h1 : l = [] := List.length_eq_zero_iff.1 h0
    subst h1
    exact ⟨CB_nil _ _, Nat.le_refl _⟩
  have HL1 : Hid (CB.At w (some ⟨B, off + 1, none⟩) l.length l ∧ l.length ≤ c - 1 ∧ c - 1 ≤ 9223372036854775807 ∧ (⟨B, off + 1, none⟩ : Addr).block < w.heap.size) := ⟨hl1, by omega, by omega, hB⟩
  have HL2 : Hid (c = 1 → CB.At w (some ⟨B, off, none⟩) l.length l ∧ l.length ≤ 0 ∧ 0 ≤ 9223372036854775807 ∧ (⟨B, off, none⟩ : Addr).block < w.heap.size) := fun e => ⟨(hl2 e).1, (hl2 e).2, by omega, hB⟩
  have hun := Try.underlying22
  have hmn := Try.underlying70
  obtain ⟨hfl, hfs, hent⟩ := tabQ_ok ht
  have hlk : lookF tabReq x.toNat = some (fs.map (·.1)) := by rw [tabQ_look, ht]; rfl
  obtain ⟨gf, hgf, hrow, hlook⟩ := hG.look_all (P := Try.prog) hmn hun hlk (by rw [List.length_map]; omega)
  rw [List.length_map] at hrow hlook
  have HLK := Lib.hid hlook
  have HROW := Lib.hid (And.intro hgf hrow)
  clear hgf hrow hlook
  have HF := Lib.hid (And.intro hfl (And.intro hfs hent))
  have HN := Lib.hid hn
  clear hlk hun hmn ht hG hb hx hcell hl1 hl2 hcm hn hfl hfs hent
  have HP := Lib.hid hp
  clear hp
  go_enter Try.func33, Try.ntmps33
  go_wp2_with fail
  generalize hw4 : World.alloc _ _ = w4
  have hd := DSt.of hw4
  have c4 : w4.cell? ⟨B, off, none⟩ = some (.int .u8 x.toNat) := (hd.below.cell hB).trans c0
  have hB4 : B < w4.heap.size := Nat.lt_of_lt_of_le hB hd.below.size
  have HD := Lib.hid hd
  clear hd hw4 c0 hB
  by_cases hc1 : c = 1
  all_goals
    go_region
    all_goals
      generalize hw5 : World.drew _ = w5
      have h5 : ∃ ad c', Rd0 w w5 w4.heap.size 0 ad c' l := by first | exact ⟨_, _, Rd0.of HD.out hw5 (HL2.out hc1)⟩ | exact ⟨_, _, Rd0.of HD.out hw5 HL1.out⟩
      obtain ⟨ad, c', h5⟩ := h5
      have m5 : w5.cell? ⟨w.heap.size, 1, none⟩ = some (.map (some Mp)) := by
        have e := (Rd0.old HD.out hw5).trans HD.out.b0
        rw [cell_of_row _ _ _ _ _ _ e]
        rfl
      have k5 : w5.cell? ⟨w.heap.size, 0, none⟩ = some (.func (.func 51) #[] #[]) := by
        have e := (Rd0.old HD.out hw5).trans HD.out.b0
        rw [cell_of_row _ _ _ _ _ _ e]
        rfl
      have H5 := Lib.hid h5
      have H5Z := Lib.hid (And.intro h5.below (And.intro h5.z h5.res))
      clear h5 hw5 c4 hB4
      have k6 : w5.cell? ⟨w.heap.size + 1 + 1, 0, none⟩ = some (.int .i64 0) := by rw [cell_of_row _ _ _ _ _ _ H5.out.m]; rfl
      have f6 : w5.frozen? ⟨w.heap.size + 1 + 1, 0, none⟩ = false := frozen_of_row _ _ _ _ _ H5.out.m
      go_wp2_with (first
        | (refine wpList_lookF rfl (.tmp 24) (.tmp 25) _ rfl _ _ _ rfl rfl (HLK.out _ H5.out.below) ?_)
        | (go_at_call 51; refine (kindQ_any _ _).mono ?_; rintro e w6 ⟨rfl, rfl⟩)
        | (go_at_call 62; refine (reader_any _ _ l).mono ?_; rintro e w7 ⟨P7, rfl, hP7, hb7, hp7⟩; have H7 := Lib.hid (Rd7.of (H5.out.set x.toNat) hb7 hP7 hp7); have m7 : w7.cell? ⟨w.heap.size + 1 + 1, 0, none⟩ = some (.int .i64 x.toNat) := (by rw [cell_of_row _ _ _ _ _ _ H7.out.r.m]; rfl); clear hb7 hp7 hP7 k6 f6 k5 m5)
        | (go_at_call 60; refine (passQ_any fs HF.out.2.1 HF.out.2.2 (Rd7.qat H7.out HN.out) (Nat.le_refl _) _ _ HF.out.1 (HROW.out.2.below (H7.out.r.below)) (fun p e _ => (by cases e; have := HROW.out.1; have := H7.out.r.hg; exact ⟨by show ¬ gf = _; omega, by show gf ≠ _; omega⟩))).mono ?_; rw [HP.out]; rintro e w8 ⟨hb8, rfl, F8, hs8, hq8⟩; obtain ⟨a8, c8, l8⟩ := Rd8.left hq8; have H8 := Lib.hid (Rd8.bad H7.out hb8); clear hb8 hs8 hq8)
        | (show wpList _ _ _ (Oper.mk _ (.load _ (.tmp 7)) _ _ _ _ :: _) _ _; refine wpList_load_row rfl 32 (.tmp 7) rfl (w.heap.size + 1 + 1 + 1) rfl 32 (RqC (zeroQ 0) (.slice none 0 0)) (0, 0) _ H8.out.2.1 Try.underlying32 rfl (infoQ _ _) ?_)
        | (show wpList _ _ _ (Oper.mk _ (.store _ (.tmp 4) (.tmp 46)) _ _ _ _ :: _) _ _; refine wpList_store_row rfl 32 (.tmp 4) (.tmp 46) rfl (w.heap.size + 1) (RqC (zeroQ 0) (.slice none 0 0)) rfl rfl 32 _ H8.out.2.2 (infoQ _ _) rfl (RqC_one _ _ _ _) ?_))
      exact ⟨rfl, _, results_two rfl _ _ (w.heap.size + 1) 32 (RqC (zeroQ 0) (.slice none 0 0)) (0, 0) _ rfl (setRow_heap _ _ _ _ _ _ H8.out.2.2) Try.underlying32 rfl (infoQ _ _), none, 0, rfl, Nat.le_refl _, CB_nil _ _, fun p e => (by cases e), ⟨by decide, by decide⟩, ⟨by decide, by decide⟩, below_setRow H8.out.1 (Nat.le_succ _) _⟩
set_option maxHeartbeats 2000000 in
set_option maxRecDepth 100000 in
theorem decode_ok (w : World) (base Mp : Nat) (hG : GMap 96 base Mp tabReq w) (B off c : Nat) (x : UInt8) (l : List UInt8) (hb : CB.At w (some ⟨B, off, none⟩) (x :: l).length (x :: l)) (hc : l.length + 1 ≤ c) (hcm : c ≤ 9223372036854775807) (hn : l.length ≤ 900000) (fs : List (FuncId × FldQ)) (ht : tabQ x.toNat = some fs) (q : Rq) (hp : passQ (fs.map (·.2)) (zeroQ x.toNat) (.rd l) = some (q, .rd [])) :
    Calls Try.prog 33 #[gQ Mp, .slice (some ⟨B, off, none⟩) (l.length + 1) c] w (DecTo w (q, 0)) := by
  obtain ⟨B', off', e', hB, x', hx, hcell⟩ := hb.cell (i := 0) (by simp)
  cases e'
  obtain rfl : x = x' := by simpa using hx
  have c0 : w.cell? ⟨B, off, none⟩ = some (.int .u8 x.toNat) := by
    have h0 : w.cell? ⟨B, off, none⟩ = (CB.enc x)[0]? := by simpa using hcell 0 (by decide)
    exact h0
  have hkx := x.toNat_lt
  have hl1 : CB.At w (some ⟨B, off + 1, none⟩) l.length l := by
    have := hb.part 1 (x :: l).length (by simp) (Nat.le_refl _) B off rfl
    simpa [CB] using this
  have hl2 : c = 1 → CB.At w (some ⟨B, off, none⟩) l.length l ∧ l.length ≤ 0 := fun e => by
    have h0 : l.length = 0 := by omega
    have h1 : l = [] := List.length_eq_zero_iff.1 h0
    subst h1
    exact ⟨CB_nil _ _, Nat.le_refl _⟩
  have HL1 : Hid (CB.At w (some ⟨B, off + 1, none⟩) l.length l ∧ l.length ≤ c - 1 ∧ c - 1 ≤ 9223372036854775807 ∧ (⟨B, off + 1, none⟩ : Addr).block < w.heap.size) := ⟨hl1, by omega, by omega, hB⟩
  have HL2 : Hid (c = 1 → CB.At w (some ⟨B, off, none⟩) l.length l ∧ l.length ≤ 0 ∧ 0 ≤ 9223372036854775807 ∧ (⟨B, off, none⟩ : Addr).block < w.heap.size) := fun e => ⟨(hl2 e).1, (hl2 e).2, by omega, hB⟩
  have hun := Try.underlying22
  have hmn := Try.underlying70
  obtain ⟨hfl, hfs, hent⟩ := tabQ_ok ht
  have hlk : lookF tabReq x.toNat = some (fs.map (·.1)) := by rw [tabQ_look, ht]; rfl
  obtain ⟨gf, hgf, hrow, hlook⟩ := hG.look_all (P := Try.prog) hmn hun hlk (by rw [List.length_map]; omega)
  rw [List.length_map] at hrow hlook
  have HLK := Lib.hid hlook
  have HROW := Lib.hid (And.intro hgf hrow)
  clear hgf hrow hlook
  have HF := Lib.hid (And.intro hfl (And.intro hfs hent))
  have HN := Lib.hid hn
  clear hlk hun hmn ht hG hb hx hcell hl1 hl2 hcm hn hfl hfs hent
  have HP := Lib.hid hp
  clear hp
  go_enter Try.func33, Try.ntmps33
  go_wp2_with fail
  generalize hw4 : World.alloc _ _ = w4
  have hd := DSt.of hw4
  have c4 : w4.cell? ⟨B, off, none⟩ = some (.int .u8 x.toNat) := (hd.below.cell hB).trans c0
  have hB4 : B < w4.heap.size := Nat.lt_of_lt_of_le hB hd.below.size
  have HD := Lib.hid hd
  clear hd hw4 c0 hB
  by_cases hc1 : c = 1
  all_goals
    go_region
    all_goals
      generalize hw5 : World.drew _ = w5
      have h5 : ∃ ad c', Rd0 w w5 w4.heap.size 0 ad c' l := by first | exact ⟨_, _, Rd0.of HD.out hw5 (HL2.out hc1)⟩ | exact ⟨_, _, Rd0.of HD.out hw5 HL1.out⟩
      obtain ⟨ad, c', h5⟩ := h5
      have m5 : w5.cell? ⟨w.heap.size, 1, none⟩ = some (.map (some Mp)) := by
        have e := (Rd0.old HD.out hw5).trans HD.out.b0
        rw [cell_of_row _ _ _ _ _ _ e]
        rfl
      have k5 : w5.cell? ⟨w.heap.size, 0, none⟩ = some (.func (.func 51) #[] #[]) := by
        have e := (Rd0.old HD.out hw5).trans HD.out.b0
        rw [cell_of_row _ _ _ _ _ _ e]
        rfl
      have H5 := Lib.hid h5
      have H5Z := Lib.hid (And.intro h5.below (And.intro h5.z h5.res))
      clear h5 hw5 c4 hB4
      have k6 : w5.cell? ⟨w.heap.size + 1 + 1, 0, none⟩ = some (.int .i64 0) := by rw [cell_of_row _ _ _ _ _ _ H5.out.m]; rfl
      have f6 : w5.frozen? ⟨w.heap.size + 1 + 1, 0, none⟩ = false := frozen_of_row _ _ _ _ _ H5.out.m
      go_wp2_with (first
        | (refine wpList_lookF rfl (.tmp 24) (.tmp 25) _ rfl _ _ _ rfl rfl (HLK.out _ H5.out.below) ?_)
        | (go_at_call 51; refine (kindQ_any _ _).mono ?_; rintro e w6 ⟨rfl, rfl⟩)
        | (go_at_call 62; refine (reader_any _ _ l).mono ?_; rintro e w7 ⟨P7, rfl, hP7, hb7, hp7⟩; have H7 := Lib.hid (Rd7.of (H5.out.set x.toNat) hb7 hP7 hp7); have m7 : w7.cell? ⟨w.heap.size + 1 + 1, 0, none⟩ = some (.int .i64 x.toNat) := (by rw [cell_of_row _ _ _ _ _ _ H7.out.r.m]; rfl); clear hb7 hp7 hP7 k6 f6 k5 m5)
        | (go_at_call 60; refine (passQ_any fs HF.out.2.1 HF.out.2.2 (Rd7.qat H7.out HN.out) (Nat.le_refl _) _ _ HF.out.1 (HROW.out.2.below (H7.out.r.below)) (fun p e _ => (by cases e; have := HROW.out.1; have := H7.out.r.hg; exact ⟨by show ¬ gf = _; omega, by show gf ≠ _; omega⟩))).mono ?_; rw [HP.out]; rintro e w8 ⟨hb8, rfl, F8, hs8, hq8⟩; obtain ⟨a8, c8, l8⟩ := Rd8.left hq8; obtain ⟨am, cm, hm8⟩ := Rd8.model hq8; have H8 := Lib.hid (And.intro (Rd8.bad H7.out hb8) hm8); clear hb8 hs8 hq8)
        | (show wpList _ _ _ (Oper.mk _ (.load _ (.tmp 6)) _ _ _ _ :: _) _ _; refine wpList_load_row rfl 32 (.tmp 6) rfl (w.heap.size + 1 + 1) rfl 32 (RqC q (.slice am q.model.length cm)) (0, 0) _ H8.out.2.box Try.underlying32 rfl (infoQ _ _) ?_)
        | (show wpList _ _ _ (Oper.mk _ (.store _ (.tmp 4) (.tmp 47)) _ _ _ _ :: _) _ _; refine wpList_store_row rfl 32 (.tmp 4) (.tmp 47) rfl (w.heap.size + 1) (RqC q (.slice am q.model.length cm)) rfl rfl 32 _ H8.out.1.2.2 (infoQ _ _) rfl (RqC_one _ _ _ _) ?_))
      exact ⟨rfl, _, results_two rfl _ _ (w.heap.size + 1) 32 (RqC q (.slice am q.model.length cm)) (0, 0) _ rfl (setRow_heap _ _ _ _ _ _ H8.out.1.2.2) Try.underlying32 rfl (infoQ _ _), am, cm, rfl, H8.out.2.le, Rd8.keep H8.out.2 H8.out.1.2.2 _, H8.out.2.fresh, H8.out.2.u1, H8.out.2.u2, below_setRow H8.out.1.1 (Nat.le_succ _) _⟩
theorem decode_any (w : World) (base Mp : Nat) (hG : GMap 96 base Mp tabReq w) (a : Option Addr) (c : Nat) (b : List UInt8) (hb : CB.At w a b.length b) (hc : b.length ≤ c) (hcm : c ≤ 9223372036854775807) (hn : b.length ≤ 900000) :
    Calls Try.prog 33 #[gQ Mp, .slice a b.length c] w (DecTo w (decQ b)) := by
  cases b with
  | nil => exact decode_nil w Mp a c
  | cons x l =>
    obtain ⟨B, off, rfl, -⟩ := hb.cell (i := 0) (by simp)
    have hl : (x :: l).length = l.length + 1 := rfl
    rw [hl] at hc hn ⊢
    cases ht : tabQ x.toNat with
    | none =>
      have e : decQ (x :: l) = (zeroQ 0, 12) := by simp only [decQ, ht]
      rw [e]
      exact decode_tag w base Mp hG B off c x l hb hc hcm (by omega) ht
    | some fs =>
      cases hp : passQ (fs.map (·.2)) (zeroQ x.toNat) (.rd l) with
      | none =>
        have e : decQ (x :: l) = (zeroQ 0, 14) := by simp only [decQ, ht, hp]
        rw [e]
        exact decode_bad w base Mp hG B off c x l hb hc hcm (by omega) fs ht hp
      | some r =>
        obtain ⟨q, S⟩ := r
        cases S with
        | wr o => exact absurd hp (passQ_rd _ (tabQ_rd ht) _ _ _ _)
        | rd r =>
          cases r with
          | nil =>
            have e : decQ (x :: l) = (q, 0) := by simp only [decQ, ht, hp]
            rw [e]
            exact decode_ok w base Mp hG B off c x l hb hc hcm (by omega) fs ht q hp
          | cons y r =>
            have e : decQ (x :: l) = (zeroQ 0, 14) := by simp only [decQ, ht, hp]
            rw [e]
            exact decode_more w base Mp hG B off c x l hb hc hcm (by omega) fs ht q y r hp
end Go.Proofs.Ytdpfmaikijilkaa
