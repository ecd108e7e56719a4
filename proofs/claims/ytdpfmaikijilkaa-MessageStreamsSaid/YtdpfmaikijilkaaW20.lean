/-
  The walk of decode, for responses.
-/
import Derived.Test.YtdpfmaikijilkaaW17
import Derived.Test.YtdpfmaikijilkaaW19
namespace Go.Proofs.Ytdpfmaikijilkaa
open Go Go.RowKit Go.Sort Go.Proofs Go.MapKept

theorem CV_nil (w : World) (a : Option Addr) : CV.At w a 0 [] := ⟨rfl, by decide, .inl rfl⟩
theorem kindS_any (w : World) (M : Nat) : Calls Try.prog 63 #[.pointer (some ⟨M, 0, none⟩)] w (fun e w' => e = .returned (.pointer (some ⟨M, 0, none⟩)) ∧ w = w') := by
  go_enter Try.func63, Try.ntmps63
  go_wp2
  go_ret
  exact ⟨rfl, rfl⟩

def zeroS (k : Int) : Rs := ⟨k, 0, 0, 0, [], 0, 0, 0, 0, 0, 0, 0, 0, 0, 0, 0, 0, 0⟩
/-- the fields that a kind names -/
def tabS (k : Int) : Option (List (FuncId × FldS)) :=
  if k = 1 then some [(64, gID), (65, gErr), (66, gFloor)] else
  if k = 2 then some [(64, gID), (66, gFloor), (67, gVars)] else
  if k = 3 then some [(68, gRecord)] else
  if k = 4 then some [(69, gNum), (70, gEvent)] else
  if k = 5 then some [(65, gErr)] else none
theorem tabS_look (k : Int) : lookF tabRes k = (tabS k).map (·.map (·.1)) := by
  unfold tabS tabRes
  simp only [lookF]
  by_cases h1 : k = 1
  · subst h1; rfl
  rw [if_neg h1, if_neg h1]
  by_cases h2 : k = 2
  · subst h2; rfl
  rw [if_neg h2, if_neg h2]
  by_cases h3 : k = 3
  · subst h3; rfl
  rw [if_neg h3, if_neg h3]
  by_cases h4 : k = 4
  · subst h4; rfl
  rw [if_neg h4, if_neg h4]
  by_cases h5 : k = 5
  · subst h5; rfl
  rw [if_neg h5, if_neg h5]
  rfl
theorem tabS_ok {k : Int} {fs : List (FuncId × FldS)} (h : tabS k = some fs) : fs.length ≤ 10 ∧ (∀ x ∈ fs, FieldS x.1 x.2) ∧ ∀ x ∈ fs, ∀ args w, Sem.run Try.prog (callFunc x.1 args) w = .ok (.enter x.1 args) w := by
  unfold tabS at h
  by_cases h1 : k = 1
  · rw [if_pos h1] at h
    cases h
    refine ⟨by decide, ?_, ?_⟩
    · exact forall_three fieldSID fieldSErr fieldSFloor
    · intro x hx args w
      simp only [List.mem_cons, List.not_mem_nil, or_false] at hx
      rcases hx with rfl | rfl | rfl <;> rfl
  rw [if_neg h1] at h
  by_cases h2 : k = 2
  · rw [if_pos h2] at h
    cases h
    refine ⟨by decide, ?_, ?_⟩
    · exact forall_three fieldSID fieldSFloor fieldVars
    · intro x hx args w
      simp only [List.mem_cons, List.not_mem_nil, or_false] at hx
      rcases hx with rfl | rfl | rfl <;> rfl
  rw [if_neg h2] at h
  by_cases h3 : k = 3
  · rw [if_pos h3] at h
    cases h
    refine ⟨by decide, ?_, ?_⟩
    · exact forall_one fieldSRecord
    · intro x hx args w
      simp only [List.mem_cons, List.not_mem_nil, or_false] at hx
      subst hx; rfl
  rw [if_neg h3] at h
  by_cases h4 : k = 4
  · rw [if_pos h4] at h
    cases h
    refine ⟨by decide, ?_, ?_⟩
    · exact forall_two fieldSNum fieldSEvent
    · intro x hx args w
      simp only [List.mem_cons, List.not_mem_nil, or_false] at hx
      rcases hx with rfl | rfl <;> rfl
  rw [if_neg h4] at h
  by_cases h5 : k = 5
  · rw [if_pos h5] at h
    cases h
    refine ⟨by decide, ?_, ?_⟩
    · exact forall_one fieldSErr
    · intro x hx args w
      simp only [List.mem_cons, List.not_mem_nil, or_false] at hx
      subst hx; rfl
  rw [if_neg h5] at h
  cases h
/-- what bytes are, as a response; an error -/
def decS : List UInt8 → Rs × Int
  | [] => (zeroS 0, 12)
  | x :: l => match tabS x.toNat with
    | none => (zeroS 0, 12)
    | some fs => match passS (fs.map (·.2)) (zeroS x.toNat) (.rd l) with
      | some (q, .rd []) => (q, 0)
      | _ => (zeroS 0, 14)
def DecToS (w : World) (r : Rs × Int) (e : Ending) (w' : World) : Prop :=
  ∃ a cap, e = .returned (.tuple #[.agg (RsC r.1 (.slice a r.1.vars.length cap)), .int .i64 r.2]) ∧ r.1.vars.length ≤ cap ∧ CV.At w' a r.1.vars.length r.1.vars ∧ (∀ p, a = some p → r.1.vars ≠ [] → w.heap.size ≤ p.block) ∧ U32 r.1.id ∧ U32 r.1.num ∧ Below w.heap.size w w'
theorem infoS (q : Rs) (mv : Value) : (Try.prog.info? 47).map (·.size) = some (RsC q mv).size := by
  show _ = some 18
  kernel_rfl
theorem RsC_one (q : Rs) (a : Option Addr) (n c : Nat) : (RsC q (.slice a n c)).all (·.oneCell') = true := by
  simp [RsC]
  exact ⟨rfl, rfl, rfl, rfl, rfl, rfl, rfl, rfl, rfl, rfl, rfl, rfl, rfl, rfl, rfl, rfl, rfl, rfl⟩
set_option maxHeartbeats 2000000 in
set_option maxRecDepth 100000 in
theorem sdecode_nil (w : World) (Mp : Nat) (a : Option Addr) (c : Nat) :
    Calls Try.prog 38 #[gS Mp, .slice a 0 c] w (DecToS w (zeroS 0, 12)) := by
  go_enter Try.func38, Try.ntmps38
  go_wp2_with (first
    | (show wpList _ _ _ (Oper.mk _ (.load _ (.tmp 7)) _ _ _ _ :: _) _ _; refine wpList_load_row rfl 47 (.tmp 7) rfl (w.heap.size + 1 + 1 + 1) rfl 47 (RsC (zeroS 0) (.slice none 0 0)) (0, 0) _ (DSt.of rfl).b3 Try.underlying47 rfl (infoS _ _) ?_)
    | (show wpList _ _ _ (Oper.mk _ (.store _ (.tmp 4) (.tmp 15)) _ _ _ _ :: _) _ _; refine wpList_store_row rfl 47 (.tmp 4) (.tmp 15) rfl (w.heap.size + 1) (RsC (zeroS 0) (.slice none 0 0)) rfl rfl 47 _ (DSt.of rfl).b1 (infoS _ _) rfl (RsC_one _ _ _ _) ?_))
  generalize hw4 : World.alloc _ _ = w4
  have hd := DSt.of hw4
  exact ⟨rfl, _, results_two rfl _ _ (w.heap.size + 1) 47 (RsC (zeroS 0) (.slice none 0 0)) (0, 0) _ rfl (setRow_heap _ _ _ _ _ _ hd.b1) Try.underlying47 rfl (infoS _ _), none, 0, rfl, Nat.le_refl _, CV_nil _ _, fun p e => (by cases e), ⟨by decide, by decide⟩, ⟨by decide, by decide⟩, below_setRow hd.below (Nat.le_succ _) _⟩

/-- a response that is read, ahead of its fields -/
structure Sd0 (w W : World) (g : Nat) (k : Int) (ad : Addr) (c : Nat) (l : List UInt8) : Prop where
  below : Below w.heap.size w W
  m : W.heap[w.heap.size + 1 + 1]? = some (.cells (RsC (zeroS k) (.slice none 0 0)) 47 (0, 0))
  z : W.heap[w.heap.size + 1 + 1 + 1]? = some (.cells (RsC (zeroS 0) (.slice none 0 0)) 47 (0, 0))
  res : W.heap[w.heap.size + 1]? = some (.cells (RsC (zeroS 0) (.slice none 0 0)) 47 (0, 0))
  left : W.heap[g]? = some (.cells #[.slice (some ad) l.length c] 24 (0, 0))
  data : CB.At W (some ad) l.length l
  le : l.length ≤ c
  mx : c ≤ 9223372036854775807
  low : ad.block < w.heap.size
  hg : g = w.heap.size + 4
theorem Sd0.old {w w4 w5 : World} {O0 O1 O2 O3 O : Obj} (hd : DSt w w4 O0 O1 O2 O3) (h : (w4.alloc O).drew = w5) : w5.heap[w.heap.size]? = w4.heap[w.heap.size]? := by
  subst h
  exact heap_alloc_old _ _ (by have := hd.size; omega)
theorem Sd0.of {w w4 w5 : World} {O0 : Obj} {ad : Addr} {c : Nat} {l : List UInt8} (hd : DSt w w4 O0 (.cells (RsC (zeroS 0) (.slice none 0 0)) 47) (.cells (RsC (zeroS 0) (.slice none 0 0)) 47) (.cells (RsC (zeroS 0) (.slice none 0 0)) 47))
    (h : (w4.alloc (.cells #[.slice (some ad) l.length c] 24)).drew = w5) (hl : CB.At w (some ad) l.length l ∧ l.length ≤ c ∧ c ≤ 9223372036854775807 ∧ ad.block < w.heap.size) : Sd0 w w5 w4.heap.size 0 ad c l := by
  subst h
  obtain ⟨hl, h1, h2, h3⟩ := hl
  have hz := hd.size
  have hb : Below w.heap.size w (w4.alloc (.cells #[.slice (some ad) l.length c] 24)).drew := (hd.below.alloc (by omega) _).drew
  exact ⟨hb, (heap_alloc_old _ _ (by omega)).trans hd.b2, (heap_alloc_old _ _ (by omega)).trans hd.b3, (heap_alloc_old _ _ (by omega)).trans hd.b1, heap_alloc_new _ _, hl.below hb, h1, h2, h3, hz⟩
theorem Sd0.set {w W : World} {g : Nat} {ad : Addr} {c : Nat} {l : List UInt8} (h : Sd0 w W g 0 ad c l) (k : Int) : Sd0 w (W.setCell ⟨w.heap.size + 1 + 1, 0, none⟩ (.int .i64 k)) g k ad c l := by
  have hb : But (fun b => b = w.heap.size + 1 + 1) W (W.setCell ⟨w.heap.size + 1 + 1, 0, none⟩ (.int .i64 k)) := (But.refl (fun b => b = w.heap.size + 1 + 1) W).setCell (p := ⟨w.heap.size + 1 + 1, 0, none⟩) rfl _
  have hg := h.hg
  refine ⟨h.below.setCell (p := ⟨w.heap.size + 1 + 1, 0, none⟩) (by show w.heap.size ≤ w.heap.size + 1 + 1; omega) _, ?_, (hb.block _ (Array.getElem?_eq_some_iff.1 h.z).1 (by omega)).trans h.z, (hb.block _ (Array.getElem?_eq_some_iff.1 h.res).1 (by omega)).trans h.res, (hb.block _ (Array.getElem?_eq_some_iff.1 h.left).1 (by omega)).trans h.left, h.data.but hb (fun p e => by cases e; have := h.low; show ¬ ad.block = _; omega), h.le, h.mx, h.low, hg⟩
  rw [heap_setCell_same _ _ _ _ _ _ h.m]
  rfl
/-- .. with a reader -/
structure Sd7 (w W : World) (g P : Nat) (k : Int) (ad : Addr) (c : Nat) (l : List UInt8) : Prop where
  r : Sd0 w W g k ad c l
  p : W.heap[P]? = some (.cells #[.pointer (some ⟨g, 0, none⟩)] 105 (0, 0))
  hP : g < P
theorem Sd7.of {w W W' : World} {g P : Nat} {k : Int} {ad : Addr} {c : Nat} {l : List UInt8} (h : Sd0 w W g k ad c l) (hb : Below W.heap.size W W') (hP : W.heap.size ≤ P) (hp : W'.heap[P]? = some (.cells #[.pointer (some ⟨g, 0, none⟩)] 105 (0, 0))) : Sd7 w W' g P k ad c l := by
  have hl := (Array.getElem?_eq_some_iff.1 h.left).1
  have hb' : Below w.heap.size w W' := h.below.trans (hb.mono (by have := h.below.size; omega))
  exact ⟨⟨hb', (hb.block _ (Array.getElem?_eq_some_iff.1 h.m).1).trans h.m, (hb.block _ (Array.getElem?_eq_some_iff.1 h.z).1).trans h.z, (hb.block _ (Array.getElem?_eq_some_iff.1 h.res).1).trans h.res, (hb.block _ hl).trans h.left, h.data.below hb, h.le, h.mx, h.low, h.hg⟩, hp, by omega⟩
theorem Sd7.qat {w W : World} {g P : Nat} {k : Int} {ad : Addr} {c : Nat} {l : List UInt8} (h : Sd7 w W g P k ad c l) (hn : l.length ≤ 900000) : SAt W.heap.size (Wi.rd l).fn1 (Wi.rd l).fn2 P g (w.heap.size + 1 + 1) (fun b => b = g) (zeroS k) (.rd l) 900000 W := by
  have hg := h.r.hg
  have hP := h.hP
  have hl := (Array.getElem?_eq_some_iff.1 h.r.left).1
  refine ⟨none, 0, ⟨⟨h.p, by omega, rfl, fun b e => by omega, some ad, c, h.r.left, h.r.data, h.r.le, h.r.mx, fun p e => ?_⟩, h.r.m, by omega, by omega, hn, rfl, rfl⟩, Nat.le_refl _, CV_nil _ _, fun p e => (by cases e), Nat.le_refl _, U32_0, U32_0⟩
  cases e
  have := h.r.low
  show ¬ ad.block = g
  omega
/-- .. behind its fields -/
theorem Sd8.bad {w W W' : World} {g P : Nat} {k : Int} {ad : Addr} {c : Nat} {l : List UInt8} (h : Sd7 w W g P k ad c l) (hb : But (fun b => b = g ∨ b = w.heap.size + 1 + 1) W W') :
    Below w.heap.size w W' ∧ W'.heap[w.heap.size + 1 + 1 + 1]? = some (.cells (RsC (zeroS 0) (.slice none 0 0)) 47 (0, 0)) ∧ W'.heap[w.heap.size + 1]? = some (.cells (RsC (zeroS 0) (.slice none 0 0)) 47 (0, 0)) := by
  have hg := h.r.hg
  exact ⟨h.r.below.trans (hb.below h.r.below.size (fun k e => by omega)), (hb.block _ (Array.getElem?_eq_some_iff.1 h.r.z).1 (by omega)).trans h.r.z, (hb.block _ (Array.getElem?_eq_some_iff.1 h.r.res).1 (by omega)).trans h.r.res⟩
theorem Sd8.left {N : Nat} {f1 f2 : FuncId} {P g M : Nat} {F : Nat → Prop} {q : Rs} {r : List UInt8} {K : Nat} {W : World} (h : SAt N f1 f2 P g M F q (.rd r) K W) : ∃ a c, W.cell? ⟨g, 0, none⟩ = some (.slice a r.length c) := by
  obtain ⟨_, _, h1, _⟩ := h
  obtain ⟨a, c, h2, _⟩ := h1.wire.st
  exact ⟨a, c, by rw [cell_of_row _ _ _ _ _ _ h2]; rfl⟩
structure Sd9 (N M : Nat) (q : Rs) (a : Option Addr) (cap : Nat) (W : World) : Prop where
  box : W.heap[M]? = some (.cells (RsC q (.slice a q.vars.length cap)) 47 (0, 0))
  le : q.vars.length ≤ cap
  at_ : CV.At W a q.vars.length q.vars
  fresh : ∀ p, a = some p → q.vars ≠ [] → N ≤ p.block
  u1 : U32 q.id
  u2 : U32 q.num
theorem Sd8.model {N : Nat} {f1 f2 : FuncId} {P g M : Nat} {F : Nat → Prop} {q : Rs} {S : Wi} {K : Nat} {W : World} (h : SAt N f1 f2 P g M F q S K W) : ∃ a cap, Sd9 N M q a cap W := by
  obtain ⟨a, cap, h1, h2, h3, h4, h5, h6, h7⟩ := h
  exact ⟨a, cap, h1.box, h2, h3, fun p e e2 => (h4 p e e2).2, h6, h7⟩
theorem Sd8.keep {w W : World} {N M : Nat} {q : Rs} {a : Option Addr} {cap : Nat} (h : Sd9 N M q a cap W) (hN : w.heap.size + 1 < N) (cs : Array Value) : CV.At (W.setRow (w.heap.size + 1) cs) a q.vars.length q.vars := by
  by_cases h0 : q.vars = []
  · have := h.at_
    rw [h0] at this ⊢
    exact CV_nil _ _
  · exact h.at_.same (by simp) fun p e _ => setRow_other _ _ _ _ (by have := h.fresh p e h0; omega)
def RdOnlyS (f : FldS) : Prop := ∀ q l q' S', f q (.rd l) = some (q', S') → ∃ r, S' = .rd r
theorem passS_rd : ∀ (l : List FldS), (∀ f ∈ l, RdOnlyS f) → ∀ (q : Rs) (r : List UInt8) (q' : Rs) (o : List UInt8), passS l q (.rd r) ≠ some (q', .wr o)
  | [], _, q, r, q', o, h => by simp [passS] at h
  | f :: t, hl, q, r, q', o, h => by
    simp only [passS, Option.bind_eq_some_iff] at h
    obtain ⟨⟨q1, S1⟩, h1, h2⟩ := h
    obtain ⟨r1, rfl⟩ := hl f (List.mem_cons_self ..) _ _ _ _ h1
    exact passS_rd t (fun g hg => hl g (List.mem_cons_of_mem _ hg)) _ _ _ _ h2
theorem wholes_rd : ∀ (v : List Int) (l : List UInt8) (v' : List Int) (S' : Wi), wholes v (.rd l) = some (v', S') → ∃ r, S' = .rd r
  | [], l, v', S', h => by
    simp only [wholes, Option.some.injEq, Prod.mk.injEq] at h
    exact ⟨l, h.2.symm⟩
  | x :: t, l, v', S', h => by
    simp only [wholes, Option.map_eq_some_iff, Option.bind_eq_some_iff] at h
    obtain ⟨⟨_, S1⟩, h1, ⟨_, S2⟩, h2, e⟩ := h
    obtain ⟨r1, rfl⟩ := wholeW_rd' h1
    obtain ⟨r2, rfl⟩ := wholes_rd t _ _ _ h2
    cases e
    exact ⟨_, rfl⟩
theorem rdSID : RdOnlyS gID := fun q l q' S' h => by
  simp only [gID, Option.map_eq_some_iff] at h
  obtain ⟨⟨_, S1⟩, h1, e⟩ := h
  obtain ⟨r1, rfl⟩ := wordW_rd' h1
  cases e
  exact ⟨_, rfl⟩
theorem rdSNum : RdOnlyS gNum := fun q l q' S' h => by
  simp only [gNum, Option.map_eq_some_iff] at h
  obtain ⟨⟨_, S1⟩, h1, e⟩ := h
  obtain ⟨r1, rfl⟩ := wordW_rd' h1
  cases e
  exact ⟨_, rfl⟩
theorem rdSErr : RdOnlyS gErr := fun q l q' S' h => by
  simp only [gErr, Option.map_eq_some_iff] at h
  obtain ⟨⟨_, S1⟩, h1, e⟩ := h
  obtain ⟨r1, rfl⟩ := octW_rd' h1
  cases e
  exact ⟨_, rfl⟩
theorem rdSFloor : RdOnlyS gFloor := fun q l q' S' h => by
  simp only [gFloor, Option.map_eq_some_iff] at h
  obtain ⟨⟨_, S1⟩, h1, e⟩ := h
  obtain ⟨r1, rfl⟩ := wholeW_rd' h1
  cases e
  exact ⟨_, rfl⟩
theorem rdSRecord : RdOnlyS gRecord := fun q l q' S' h => by
  simp only [gRecord, Option.map_eq_some_iff, Option.bind_eq_some_iff] at h
  obtain ⟨⟨_, S1⟩, h1, ⟨_, S2⟩, h2, ⟨_, S3⟩, h3, ⟨_, S4⟩, h4, e⟩ := h
  obtain ⟨r1, rfl⟩ := keyV_rd h1
  obtain ⟨r2, rfl⟩ := octW_rd' h2
  obtain ⟨r3, rfl⟩ := octW_rd' h3
  obtain ⟨r4, rfl⟩ := wholeW_rd' h4
  cases e
  exact ⟨_, rfl⟩
theorem rdSEvent : RdOnlyS gEvent := fun q l q' S' h => by
  simp only [gEvent, Option.map_eq_some_iff, Option.bind_eq_some_iff] at h
  obtain ⟨⟨_, S1⟩, h1, ⟨_, S2⟩, h2, e⟩ := h
  obtain ⟨r1, rfl⟩ := keyV_rd h1
  obtain ⟨r2, rfl⟩ := contentV_rd h2
  cases e
  exact ⟨_, rfl⟩
theorem rdSVars : RdOnlyS gVars := fun q l q' S' h => by
  simp only [gVars, Option.map_eq_some_iff, Option.bind_eq_some_iff] at h
  obtain ⟨⟨_, S1⟩, h1, ⟨_, S2⟩, h2, e⟩ := h
  obtain ⟨r1, rfl⟩ := octW_rd' h1
  obtain ⟨r2, rfl⟩ := wholes_rd _ _ _ _ h2
  cases e
  exact ⟨_, rfl⟩
theorem tabS_rd {k : Int} {fs : List (FuncId × FldS)} (h : tabS k = some fs) : ∀ f ∈ fs.map (·.2), RdOnlyS f := by
  unfold tabS at h
  by_cases h1 : k = 1
  · rw [if_pos h1] at h
    cases h
    exact forall_three rdSID rdSErr rdSFloor
  rw [if_neg h1] at h
  by_cases h2 : k = 2
  · rw [if_pos h2] at h
    cases h
    exact forall_three rdSID rdSFloor rdSVars
  rw [if_neg h2] at h
  by_cases h3 : k = 3
  · rw [if_pos h3] at h
    cases h
    exact forall_one rdSRecord
  rw [if_neg h3] at h
  by_cases h4 : k = 4
  · rw [if_pos h4] at h
    cases h
    exact forall_two rdSNum rdSEvent
  rw [if_neg h4] at h
  by_cases h5 : k = 5
  · rw [if_pos h5] at h
    cases h
    exact forall_one rdSErr
  rw [if_neg h5] at h
  cases h
set_option maxHeartbeats 2000000 in
set_option maxRecDepth 100000 in
theorem sdecode_tag (w : World) (base Mp : Nat) (hG : GMap 108 base Mp tabRes w) (B off c : Nat) (x : UInt8) (l : List UInt8) (hb : CB.At w (some ⟨B, off, none⟩) (x :: l).length (x :: l)) (hc : l.length + 1 ≤ c) (hcm : c ≤ 9223372036854775807) (hn : l.length ≤ 900000) (ht : tabS x.toNat = none) :
    Calls Try.prog 38 #[gS Mp, .slice (some ⟨B, off, none⟩) (l.length + 1) c] w (DecToS w (zeroS 0, 12)) := by
  obtain ⟨B', off', e', hB, x', hx, hcell⟩ := hb.cell (i := 0) (by simp)
  cases e'
  obtain rfl : x = x' := by simpa using hx
  have c0 : w.cell? ⟨B, off, none⟩ = some (.int .u8 x.toNat) := by
    have h0 : w.cell? ⟨B, off, none⟩ = (CB.enc x)[0]? := by simpa using hcell 0 (by decide)
    exact h0
  have hkx := x.toNat_lt
  have hl1 : CB.At w (some ⟨B, off + 1, none⟩) l.length l := by
    have := hb.part 1 (x :: l).length (by simp) (Nat.le_refl _) B off rfl
    simpa [CB] using this
  have hl2 : c = 1 → CB.At w (some ⟨B, off, none⟩) l.length l ∧ l.length ≤ 0 := fun e => by
    have h0 : l.length = 0 := by omega
    have h1 : l = [] := List.length_eq_zero_iff.1 h0
    subst h1
    exact ⟨CB_nil _ _, Nat.le_refl _⟩
  have HL1 : Hid (CB.At w (some ⟨B, off + 1, none⟩) l.length l ∧ l.length ≤ c - 1 ∧ c - 1 ≤ 9223372036854775807 ∧ (⟨B, off + 1, none⟩ : Addr).block < w.heap.size) := ⟨hl1, by omega, by omega, hB⟩
  have HL2 : Hid (c = 1 → CB.At w (some ⟨B, off, none⟩) l.length l ∧ l.length ≤ 0 ∧ 0 ≤ 9223372036854775807 ∧ (⟨B, off, none⟩ : Addr).block < w.heap.size) := fun e => ⟨(hl2 e).1, (hl2 e).2, by omega, hB⟩
  have hun := Try.underlying42
  have hmn := Try.underlying76
  have hzs : ∀ W, (zeroValue 109).run Try.prog W = .ok (.slice none 0 0) W := fun W => by go_simp
  have hlk : lookF tabRes x.toNat = none := by rw [tabS_look, ht]; rfl
  have HLK : Hid (∀ W, Below w.heap.size w W → (Instr.lookup 76 (.map (some Mp)) (.int .i64 x.toNat) true).run Try.prog W = .ok (.tuple #[.slice none 0 0, .bool false]) W) := fun W hW => (hG.below hW).look_none hmn hun (hzs W) hlk
  clear hlk hzs hun hmn ht hG hb hx hcell hl1 hl2 hcm hn
  go_enter Try.func38, Try.ntmps38
  go_wp2_with fail
  generalize hw4 : World.alloc _ _ = w4
  have hd := DSt.of hw4
  have c4 : w4.cell? ⟨B, off, none⟩ = some (.int .u8 x.toNat) := (hd.below.cell hB).trans c0
  have hB4 : B < w4.heap.size := Nat.lt_of_lt_of_le hB hd.below.size
  have HD := Lib.hid hd
  clear hd hw4 c0 hB
  by_cases hc1 : c = 1
  all_goals
    go_region
    all_goals
      generalize hw5 : World.drew _ = w5
      have h5 : ∃ ad c', Sd0 w w5 w4.heap.size 0 ad c' l := by first | exact ⟨_, _, Sd0.of HD.out hw5 (HL2.out hc1)⟩ | exact ⟨_, _, Sd0.of HD.out hw5 HL1.out⟩
      obtain ⟨ad, c', h5⟩ := h5
      have m5 : w5.cell? ⟨w.heap.size, 1, none⟩ = some (.map (some Mp)) := by
        have e := (Sd0.old HD.out hw5).trans HD.out.b0
        rw [cell_of_row _ _ _ _ _ _ e]
        rfl
      have k5 : w5.cell? ⟨w.heap.size, 0, none⟩ = some (.func (.func 63) #[] #[]) := by
        have e := (Sd0.old HD.out hw5).trans HD.out.b0
        rw [cell_of_row _ _ _ _ _ _ e]
        rfl
      have H5 := Lib.hid h5
      have H5Z := Lib.hid (And.intro h5.below (And.intro h5.z h5.res))
      clear h5 hw5 c4 hB4
      go_wp2_with (first
        | (refine wpList_lookF rfl (.tmp 24) (.tmp 25) _ rfl _ _ _ rfl rfl (HLK.out _ H5.out.below) ?_)
        | (show wpList _ _ _ (Oper.mk _ (.load _ (.tmp 7)) _ _ _ _ :: _) _ _; refine wpList_load_row rfl 47 (.tmp 7) rfl (w.heap.size + 1 + 1 + 1) rfl 47 (RsC (zeroS 0) (.slice none 0 0)) (0, 0) _ H5Z.out.2.1 Try.underlying47 rfl (infoS _ _) ?_)
        | (show wpList _ _ _ (Oper.mk _ (.store _ (.tmp 4) (.tmp 31)) _ _ _ _ :: _) _ _; refine wpList_store_row rfl 47 (.tmp 4) (.tmp 31) rfl (w.heap.size + 1) (RsC (zeroS 0) (.slice none 0 0)) rfl rfl 47 _ H5Z.out.2.2 (infoS _ _) rfl (RsC_one _ _ _ _) ?_))
      exact ⟨rfl, _, results_two rfl _ _ (w.heap.size + 1) 47 (RsC (zeroS 0) (.slice none 0 0)) (0, 0) _ rfl (setRow_heap _ _ _ _ _ _ H5Z.out.2.2) Try.underlying47 rfl (infoS _ _), none, 0, rfl, Nat.le_refl _, CV_nil _ _, fun p e => (by cases e), ⟨by decide, by decide⟩, ⟨by decide, by decide⟩, below_setRow H5Z.out.1 (Nat.le_succ _) _⟩
set_option maxHeartbeats 2000000 in
set_option maxRecDepth 100000 in
theorem sdecode_bad (w : World) (base Mp : Nat) (hG : GMap 108 base Mp tabRes w) (B off c : Nat) (x : UInt8) (l : List UInt8) (hb : CB.At w (some ⟨B, off, none⟩) (x :: l).length (x :: l)) (hc : l.length + 1 ≤ c) (hcm : c ≤ 9223372036854775807) (hn : l.length ≤ 900000) (fs : List (FuncId × FldS)) (ht : tabS x.toNat = some fs) (hp : passS (fs.map (·.2)) (zeroS x.toNat) (.rd l) = none) :
    Calls Try.prog 38 #[gS Mp, .slice (some ⟨B, off, none⟩) (l.length + 1) c] w (DecToS w (zeroS 0, 14)) := by
  obtain ⟨B', off', e', hB, x', hx, hcell⟩ := hb.cell (i := 0) (by simp)
  cases e'
  obtain rfl : x = x' := by simpa using hx
  have c0 : w.cell? ⟨B, off, none⟩ = some (.int .u8 x.toNat) := by
    have h0 : w.cell? ⟨B, off, none⟩ = (CB.enc x)[0]? := by simpa using hcell 0 (by decide)
    exact h0
  have hkx := x.toNat_lt
  have hl1 : CB.At w (some ⟨B, off + 1, none⟩) l.length l := by
    have := hb.part 1 (x :: l).length (by simp) (Nat.le_refl _) B off rfl
    simpa [CB] using this
  have hl2 : c = 1 → CB.At w (some ⟨B, off, none⟩) l.length l ∧ l.length ≤ 0 := fun e => by
    have h0 : l.length = 0 := by omega
    have h1 : l = [] := List.length_eq_zero_iff.1 h0
    subst h1
    exact ⟨CB_nil _ _, Nat.le_refl _⟩
  have HL1 : Hid (CB.At w (some ⟨B, off + 1, none⟩) l.length l ∧ l.length ≤ c - 1 ∧ c - 1 ≤ 9223372036854775807 ∧ (⟨B, off + 1, none⟩ : Addr).block < w.heap.size) := ⟨hl1, by omega, by omega, hB⟩
  have HL2 : Hid (c = 1 → CB.At w (some ⟨B, off, none⟩) l.length l ∧ l.length ≤ 0 ∧ 0 ≤ 9223372036854775807 ∧ (⟨B, off, none⟩ : Addr).block < w.heap.size) := fun e => ⟨(hl2 e).1, (hl2 e).2, by omega, hB⟩
  have hun := Try.underlying42
  have hmn := Try.underlying76
  obtain ⟨hfl, hfs, hent⟩ := tabS_ok ht
  have hlk : lookF tabRes x.toNat = some (fs.map (·.1)) := by rw [tabS_look, ht]; rfl
  obtain ⟨gf, hgf, hrow, hlook⟩ := hG.look_all (P := Try.prog) hmn hun hlk (by rw [List.length_map]; omega)
  rw [List.length_map] at hrow hlook
  have HLK := Lib.hid hlook
  have HROW := Lib.hid (And.intro hgf hrow)
  clear hgf hrow hlook
  have HF := Lib.hid (And.intro hfl (And.intro hfs hent))
  have HN := Lib.hid hn
  clear hlk hun hmn ht hG hb hx hcell hl1 hl2 hcm hn hfl hfs hent
  have HP := Lib.hid hp
  clear hp
  go_enter Try.func38, Try.ntmps38
  go_wp2_with fail
  generalize hw4 : World.alloc _ _ = w4
  have hd := DSt.of hw4
  have c4 : w4.cell? ⟨B, off, none⟩ = some (.int .u8 x.toNat) := (hd.below.cell hB).trans c0
  have hB4 : B < w4.heap.size := Nat.lt_of_lt_of_le hB hd.below.size
  have HD := Lib.hid hd
  clear hd hw4 c0 hB
  by_cases hc1 : c = 1
  all_goals
    go_region
    all_goals
      generalize hw5 : World.drew _ = w5
      have h5 : ∃ ad c', Sd0 w w5 w4.heap.size 0 ad c' l := by first | exact ⟨_, _, Sd0.of HD.out hw5 (HL2.out hc1)⟩ | exact ⟨_, _, Sd0.of HD.out hw5 HL1.out⟩
      obtain ⟨ad, c', h5⟩ := h5
      have m5 : w5.cell? ⟨w.heap.size, 1, none⟩ = some (.map (some Mp)) := by
        have e := (Sd0.old HD.out hw5).trans HD.out.b0
        rw [cell_of_row _ _ _ _ _ _ e]
        rfl
      have k5 : w5.cell? ⟨w.heap.size, 0, none⟩ = some (.func (.func 63) #[] #[]) := by
        have e := (Sd0.old HD.out hw5).trans HD.out.b0
        rw [cell_of_row _ _ _ _ _ _ e]
        rfl
      have H5 := Lib.hid h5
      have H5Z := Lib.hid (And.intro h5.below (And.intro h5.z h5.res))
      clear h5 hw5 c4 hB4
      have k6 : w5.cell? ⟨w.heap.size + 1 + 1, 0, none⟩ = some (.int .i64 0) := by rw [cell_of_row _ _ _ _ _ _ H5.out.m]; rfl
      have f6 : w5.frozen? ⟨w.heap.size + 1 + 1, 0, none⟩ = false := frozen_of_row _ _ _ _ _ H5.out.m
      go_wp2_with (first
        | (refine wpList_lookF rfl (.tmp 24) (.tmp 25) _ rfl _ _ _ rfl rfl (HLK.out _ H5.out.below) ?_)
        | (go_at_call 63; refine (kindS_any _ _).mono ?_; rintro e w6 ⟨rfl, rfl⟩)
        | (go_at_call 62; refine (reader_any _ _ l).mono ?_; rintro e w7 ⟨P7, rfl, hP7, hb7, hp7⟩; have H7 := Lib.hid (Sd7.of (H5.out.set x.toNat) hb7 hP7 hp7); have m7 : w7.cell? ⟨w.heap.size + 1 + 1, 0, none⟩ = some (.int .i64 x.toNat) := (by rw [cell_of_row _ _ _ _ _ _ H7.out.r.m]; rfl); have HW7 : Hid (w.heap.size + 1 < w7.heap.size) := (Array.getElem?_eq_some_iff.1 H7.out.r.res).1; clear hb7 hp7 hP7 k6 f6 k5 m5)
        | (go_at_call 71; refine (passS_any fs HF.out.2.1 HF.out.2.2 (Sd7.qat H7.out HN.out) (Nat.le_refl _) _ _ HF.out.1 (HROW.out.2.below (H7.out.r.below)) (fun p e _ => (by cases e; have := HROW.out.1; have := H7.out.r.hg; exact ⟨by show ¬ gf = _; omega, by show gf ≠ _; omega⟩))).mono ?_; rw [HP.out]; rintro e w8 ⟨hb8, rfl⟩; have H8 := Lib.hid (Sd8.bad H7.out hb8); clear hb8)
        | (show wpList _ _ _ (Oper.mk _ (.load _ (.tmp 7)) _ _ _ _ :: _) _ _; refine wpList_load_row rfl 47 (.tmp 7) rfl (w.heap.size + 1 + 1 + 1) rfl 47 (RsC (zeroS 0) (.slice none 0 0)) (0, 0) _ H8.out.2.1 Try.underlying47 rfl (infoS _ _) ?_)
        | (show wpList _ _ _ (Oper.mk _ (.store _ (.tmp 4) (.tmp 46)) _ _ _ _ :: _) _ _; refine wpList_store_row rfl 47 (.tmp 4) (.tmp 46) rfl (w.heap.size + 1) (RsC (zeroS 0) (.slice none 0 0)) rfl rfl 47 _ H8.out.2.2 (infoS _ _) rfl (RsC_one _ _ _ _) ?_))
      exact ⟨rfl, _, results_two rfl _ _ (w.heap.size + 1) 47 (RsC (zeroS 0) (.slice none 0 0)) (0, 0) _ rfl (setRow_heap _ _ _ _ _ _ H8.out.2.2) Try.underlying47 rfl (infoS _ _), none, 0, rfl, Nat.le_refl _, CV_nil _ _, fun p e => (by cases e), ⟨by decide, by decide⟩, ⟨by decide, by decide⟩, below_setRow H8.out.1 (Nat.le_succ _) _⟩
set_option maxHeartbeats 2000000 in
set_option maxRecDepth 100000 in
theorem sdecode_more (w : World) (base Mp : Nat) (hG : GMap 108 base Mp tabRes w) (B off c : Nat) (x : UInt8) (l : List UInt8) (hb : CB.At w (some ⟨B, off, none⟩) (x :: l).length (x :: l)) (hc : l.length + 1 ≤ c) (hcm : c ≤ 9223372036854775807) (hn : l.length ≤ 900000) (fs : List (FuncId × FldS)) (ht : tabS x.toNat = some fs) (q : Rs) (y : UInt8) (r : List UInt8) (hp : passS (fs.map (·.2)) (zeroS x.toNat) (.rd l) = some (q, .rd (y :: r))) :
    Calls Try.prog 38 #[gS Mp, .slice (some ⟨B, off, none⟩) (l.length + 1) c] w (DecToS w (zeroS 0, 14)) := by
  obtain ⟨B', off', e', hB, x', hx, hcell⟩ := hb.cell (i := 0) (by simp)
  cases e'
  obtain rfl : x = x' := by simpa using hx
  have c0 : w.cell? ⟨B, off, none⟩ = some (.int .u8 x.toNat) := by
    have h0 : w.cell? ⟨B, off, none⟩ = (CB.enc x)[0]? := by simpa using hcell 0 (by decide)
    exact h0
  have hkx := x.toNat_lt
  have hl1 : CB.At w (some ⟨B, off + 1, none⟩) l.length l := by
    have := hb.part 1 (x :: l).length (by simp) (Nat.le_refl _) B off rfl
    simpa [CB] using this
  have hl2 : c = 1 → CB.At w (some ⟨B, off, none⟩) l.length l ∧ l.length ≤ 0 := fun e => by
    have h0 : l.length = 0 := by omega
    have h1 : l = [] := List.length_eq_zero_iff.1 h0
    subst h1
    exact ⟨CB_nil _ _, Nat.le_refl _⟩
  have HL1 : Hid (CB.At w (some ⟨B, off + 1, none⟩) l.length l ∧ l.length ≤ c - 1 ∧ c - 1 ≤ 9223372036854775807 ∧ (⟨B, off + 1, none⟩ : Addr).block < w.heap.size) := ⟨hl1, by omega, by omega, hB⟩
  have HL2 : Hid (c = 1 → CB.At w (some ⟨B, off, none⟩) l.length l ∧ l.length ≤ 0 ∧ 0 ≤ 9223372036854775807 ∧ (⟨B, off, none⟩ : Addr).block < w.heap.size) := fun e => ⟨(hl2 e).1, (hl2 e).2, by omega, hB⟩
  have hun := Try.underlying42
  have hmn := Try.underlying76
  obtain ⟨hfl, hfs, hent⟩ := tabS_ok ht
  have hlk : lookF tabRes x.toNat = some (fs.map (·.1)) := by rw [tabS_look, ht]; rfl
  obtain ⟨gf, hgf, hrow, hlook⟩ := hG.look_all (P := Try.prog) hmn hun hlk (by rw [List.length_map]; omega)
  rw [List.length_map] at hrow hlook
  have HLK := Lib.hid hlook
  have HROW := Lib.hid (And.intro hgf hrow)
  clear hgf hrow hlook
  have HF := Lib.hid (And.intro hfl (And.intro hfs hent))
  have HN := Lib.hid hn
  clear hlk hun hmn ht hG hb hx hcell hl1 hl2 hcm hn hfl hfs hent
  have HP := Lib.hid hp
  clear hp
  go_enter Try.func38, Try.ntmps38
  go_wp2_with fail
  generalize hw4 : World.alloc _ _ = w4
  have hd := DSt.of hw4
  have c4 : w4.cell? ⟨B, off, none⟩ = some (.int .u8 x.toNat) := (hd.below.cell hB).trans c0
  have hB4 : B < w4.heap.size := Nat.lt_of_lt_of_le hB hd.below.size
  have HD := Lib.hid hd
  clear hd hw4 c0 hB
  by_cases hc1 : c = 1
  all_goals
    go_region
    all_goals
      generalize hw5 : World.drew _ = w5
      have h5 : ∃ ad c', Sd0 w w5 w4.heap.size 0 ad c' l := by first | exact ⟨_, _, Sd0.of HD.out hw5 (HL2.out hc1)⟩ | exact ⟨_, _, Sd0.of HD.out hw5 HL1.out⟩
      obtain ⟨ad, c', h5⟩ := h5
      have m5 : w5.cell? ⟨w.heap.size, 1, none⟩ = some (.map (some Mp)) := by
        have e := (Sd0.old HD.out hw5).trans HD.out.b0
        rw [cell_of_row _ _ _ _ _ _ e]
        rfl
      have k5 : w5.cell? ⟨w.heap.size, 0, none⟩ = some (.func (.func 63) #[] #[]) := by
        have e := (Sd0.old HD.out hw5).trans HD.out.b0
        rw [cell_of_row _ _ _ _ _ _ e]
        rfl
      have H5 := Lib.hid h5
      have H5Z := Lib.hid (And.intro h5.below (And.intro h5.z h5.res))
      clear h5 hw5 c4 hB4
      have k6 : w5.cell? ⟨w.heap.size + 1 + 1, 0, none⟩ = some (.int .i64 0) := by rw [cell_of_row _ _ _ _ _ _ H5.out.m]; rfl
      have f6 : w5.frozen? ⟨w.heap.size + 1 + 1, 0, none⟩ = false := frozen_of_row _ _ _ _ _ H5.out.m
      go_wp2_with (first
        | (refine wpList_lookF rfl (.tmp 24) (.tmp 25) _ rfl _ _ _ rfl rfl (HLK.out _ H5.out.below) ?_)
        | (go_at_call 63; refine (kindS_any _ _).mono ?_; rintro e w6 ⟨rfl, rfl⟩)
        | (go_at_call 62; refine (reader_any _ _ l).mono ?_; rintro e w7 ⟨P7, rfl, hP7, hb7, hp7⟩; have H7 := Lib.hid (Sd7.of (H5.out.set x.toNat) hb7 hP7 hp7); have m7 : w7.cell? ⟨w.heap.size + 1 + 1, 0, none⟩ = some (.int .i64 x.toNat) := (by rw [cell_of_row _ _ _ _ _ _ H7.out.r.m]; rfl); have HW7 : Hid (w.heap.size + 1 < w7.heap.size) := (Array.getElem?_eq_some_iff.1 H7.out.r.res).1; clear hb7 hp7 hP7 k6 f6 k5 m5)
        | (go_at_call 71; refine (passS_any fs HF.out.2.1 HF.out.2.2 (Sd7.qat H7.out HN.out) (Nat.le_refl _) _ _ HF.out.1 (HROW.out.2.below (H7.out.r.below)) (fun p e _ => (by cases e; have := HROW.out.1; have := H7.out.r.hg; exact ⟨by show ¬ gf = _; omega, by show gf ≠ _; omega⟩))).mono ?_; rw [HP.out]; rintro e w8 ⟨hb8, rfl, F8, hs8, hq8⟩; obtain ⟨a8, c8, l8⟩ := Sd8.left hq8; have H8 := Lib.hid (Sd8.bad H7.out hb8); clear hb8 hs8 hq8)
        | (show wpList _ _ _ (Oper.mk _ (.load _ (.tmp 7)) _ _ _ _ :: _) _ _; refine wpList_load_row rfl 47 (.tmp 7) rfl (w.heap.size + 1 + 1 + 1) rfl 47 (RsC (zeroS 0) (.slice none 0 0)) (0, 0) _ H8.out.2.1 Try.underlying47 rfl (infoS _ _) ?_)
        | (show wpList _ _ _ (Oper.mk _ (.store _ (.tmp 4) (.tmp 46)) _ _ _ _ :: _) _ _; refine wpList_store_row rfl 47 (.tmp 4) (.tmp 46) rfl (w.heap.size + 1) (RsC (zeroS 0) (.slice none 0 0)) rfl rfl 47 _ H8.out.2.2 (infoS _ _) rfl (RsC_one _ _ _ _) ?_))
      exact ⟨rfl, _, results_two rfl _ _ (w.heap.size + 1) 47 (RsC (zeroS 0) (.slice none 0 0)) (0, 0) _ rfl (setRow_heap _ _ _ _ _ _ H8.out.2.2) Try.underlying47 rfl (infoS _ _), none, 0, rfl, Nat.le_refl _, CV_nil _ _, fun p e => (by cases e), ⟨by decide, by decide⟩, ⟨by decide, by decide⟩, below_setRow H8.out.1 (Nat.le_succ _) _⟩
set_option maxHeartbeats 2000000 in
set_option maxRecDepth 100000 in
theorem sdecode_ok (w : World) (base Mp : Nat) (hG : GMap 108 base Mp tabRes w) (B off c : Nat) (x : UInt8) (l : List UInt8) (hb : CB.At w (some ⟨B, off, none⟩) (x :: l).length (x :: l)) (hc : l.length + 1 ≤ c) (hcm : c ≤ 9223372036854775807) (hn : l.length ≤ 900000) (fs : List (FuncId × FldS)) (ht : tabS x.toNat = some fs) (q : Rs) (hp : passS (fs.map (·.2)) (zeroS x.toNat) (.rd l) = some (q, .rd [])) :
    Calls Try.prog 38 #[gS Mp, .slice (some ⟨B, off, none⟩) (l.length + 1) c] w (DecToS w (q, 0)) := by
  obtain ⟨B', off', e', hB, x', hx, hcell⟩ := hb.cell (i := 0) (by simp)
  cases e'
  obtain rfl : x = x' := by simpa using hx
  have c0 : w.cell? ⟨B, off, none⟩ = some (.int .u8 x.toNat) := by
    have h0 : w.cell? ⟨B, off, none⟩ = (CB.enc x)[0]? := by simpa using hcell 0 (by decide)
    exact h0
  have hkx := x.toNat_lt
  have hl1 : CB.At w (some ⟨B, off + 1, none⟩) l.length l := by
    have := hb.part 1 (x :: l).length (by simp) (Nat.le_refl _) B off rfl
    simpa [CB] using this
  have hl2 : c = 1 → CB.At w (some ⟨B, off, none⟩) l.length l ∧ l.length ≤ 0 := fun e => by
    have h0 : l.length = 0 := by omega
    have h1 : l = [] := List.length_eq_zero_iff.1 h0
    subst h1
    exact ⟨CB_nil _ _, Nat.le_refl _⟩
  have HL1 : Hid (CB.At w (some ⟨B, off + 1, none⟩) l.length l ∧ l.length ≤ c - 1 ∧ c - 1 ≤ 9223372036854775807 ∧ (⟨B, off + 1, none⟩ : Addr).block < w.heap.size) := ⟨hl1, by omega, by omega, hB⟩
  have HL2 : Hid (c = 1 → CB.At w (some ⟨B, off, none⟩) l.length l ∧ l.length ≤ 0 ∧ 0 ≤ 9223372036854775807 ∧ (⟨B, off, none⟩ : Addr).block < w.heap.size) := fun e => ⟨(hl2 e).1, (hl2 e).2, by omega, hB⟩
  have hun := Try.underlying42
  have hmn := Try.underlying76
  obtain ⟨hfl, hfs, hent⟩ := tabS_ok ht
  have hlk : lookF tabRes x.toNat = some (fs.map (·.1)) := by rw [tabS_look, ht]; rfl
  obtain ⟨gf, hgf, hrow, hlook⟩ := hG.look_all (P := Try.prog) hmn hun hlk (by rw [List.length_map]; omega)
  rw [List.length_map] at hrow hlook
  have HLK := Lib.hid hlook
  have HROW := Lib.hid (And.intro hgf hrow)
  clear hgf hrow hlook
  have HF := Lib.hid (And.intro hfl (And.intro hfs hent))
  have HN := Lib.hid hn
  clear hlk hun hmn ht hG hb hx hcell hl1 hl2 hcm hn hfl hfs hent
  have HP := Lib.hid hp
  clear hp
  go_enter Try.func38, Try.ntmps38
  go_wp2_with fail
  generalize hw4 : World.alloc _ _ = w4
  have hd := DSt.of hw4
  have c4 : w4.cell? ⟨B, off, none⟩ = some (.int .u8 x.toNat) := (hd.below.cell hB).trans c0
  have hB4 : B < w4.heap.size := Nat.lt_of_lt_of_le hB hd.below.size
  have HD := Lib.hid hd
  clear hd hw4 c0 hB
  by_cases hc1 : c = 1
  all_goals
    go_region
    all_goals
      generalize hw5 : World.drew _ = w5
      have h5 : ∃ ad c', Sd0 w w5 w4.heap.size 0 ad c' l := by first | exact ⟨_, _, Sd0.of HD.out hw5 (HL2.out hc1)⟩ | exact ⟨_, _, Sd0.of HD.out hw5 HL1.out⟩
      obtain ⟨ad, c', h5⟩ := h5
      have m5 : w5.cell? ⟨w.heap.size, 1, none⟩ = some (.map (some Mp)) := by
        have e := (Sd0.old HD.out hw5).trans HD.out.b0
        rw [cell_of_row _ _ _ _ _ _ e]
        rfl
      have k5 : w5.cell? ⟨w.heap.size, 0, none⟩ = some (.func (.func 63) #[] #[]) := by
        have e := (Sd0.old HD.out hw5).trans HD.out.b0
        rw [cell_of_row _ _ _ _ _ _ e]
        rfl
      have H5 := Lib.hid h5
      have H5Z := Lib.hid (And.intro h5.below (And.intro h5.z h5.res))
      clear h5 hw5 c4 hB4
      have k6 : w5.cell? ⟨w.heap.size + 1 + 1, 0, none⟩ = some (.int .i64 0) := by rw [cell_of_row _ _ _ _ _ _ H5.out.m]; rfl
      have f6 : w5.frozen? ⟨w.heap.size + 1 + 1, 0, none⟩ = false := frozen_of_row _ _ _ _ _ H5.out.m
      go_wp2_with (first
        | (refine wpList_lookF rfl (.tmp 24) (.tmp 25) _ rfl _ _ _ rfl rfl (HLK.out _ H5.out.below) ?_)
        | (go_at_call 63; refine (kindS_any _ _).mono ?_; rintro e w6 ⟨rfl, rfl⟩)
        | (go_at_call 62; refine (reader_any _ _ l).mono ?_; rintro e w7 ⟨P7, rfl, hP7, hb7, hp7⟩; have H7 := Lib.hid (Sd7.of (H5.out.set x.toNat) hb7 hP7 hp7); have m7 : w7.cell? ⟨w.heap.size + 1 + 1, 0, none⟩ = some (.int .i64 x.toNat) := (by rw [cell_of_row _ _ _ _ _ _ H7.out.r.m]; rfl); have HW7 : Hid (w.heap.size + 1 < w7.heap.size) := (Array.getElem?_eq_some_iff.1 H7.out.r.res).1; clear hb7 hp7 hP7 k6 f6 k5 m5)
        | (go_at_call 71; refine (passS_any fs HF.out.2.1 HF.out.2.2 (Sd7.qat H7.out HN.out) (Nat.le_refl _) _ _ HF.out.1 (HROW.out.2.below (H7.out.r.below)) (fun p e _ => (by cases e; have := HROW.out.1; have := H7.out.r.hg; exact ⟨by show ¬ gf = _; omega, by show gf ≠ _; omega⟩))).mono ?_; rw [HP.out]; rintro e w8 ⟨hb8, rfl, F8, hs8, hq8⟩; obtain ⟨a8, c8, l8⟩ := Sd8.left hq8; obtain ⟨am, cm, hm8⟩ := Sd8.model hq8; have H8 := Lib.hid (And.intro (Sd8.bad H7.out hb8) hm8); clear hb8 hs8 hq8)
        | (show wpList _ _ _ (Oper.mk _ (.load _ (.tmp 6)) _ _ _ _ :: _) _ _; refine wpList_load_row rfl 47 (.tmp 6) rfl (w.heap.size + 1 + 1) rfl 47 (RsC q (.slice am q.vars.length cm)) (0, 0) _ H8.out.2.box Try.underlying47 rfl (infoS _ _) ?_)
        | (show wpList _ _ _ (Oper.mk _ (.store _ (.tmp 4) (.tmp 47)) _ _ _ _ :: _) _ _; refine wpList_store_row rfl 47 (.tmp 4) (.tmp 47) rfl (w.heap.size + 1) (RsC q (.slice am q.vars.length cm)) rfl rfl 47 _ H8.out.1.2.2 (infoS _ _) rfl (RsC_one _ _ _ _) ?_))
      exact ⟨rfl, _, results_two rfl _ _ (w.heap.size + 1) 47 (RsC q (.slice am q.vars.length cm)) (0, 0) _ rfl (setRow_heap _ _ _ _ _ _ H8.out.1.2.2) Try.underlying47 rfl (infoS _ _), am, cm, rfl, H8.out.2.le, Sd8.keep H8.out.2 HW7.out _, fun p e e2 => Nat.le_trans (by have := HW7.out; omega) (H8.out.2.fresh p e e2), H8.out.2.u1, H8.out.2.u2, below_setRow H8.out.1.1 (Nat.le_succ _) _⟩
theorem sdecode_any (w : World) (base Mp : Nat) (hG : GMap 108 base Mp tabRes w) (a : Option Addr) (c : Nat) (b : List UInt8) (hb : CB.At w a b.length b) (hc : b.length ≤ c) (hcm : c ≤ 9223372036854775807) (hn : b.length ≤ 900000) :
    Calls Try.prog 38 #[gS Mp, .slice a b.length c] w (DecToS w (decS b)) := by
  cases b with
  | nil => exact sdecode_nil w Mp a c
  | cons x l =>
    obtain ⟨B, off, rfl, -⟩ := hb.cell (i := 0) (by simp)
    have hl : (x :: l).length = l.length + 1 := rfl
    rw [hl] at hc hn ⊢
    cases ht : tabS x.toNat with
    | none =>
      have e : decS (x :: l) = (zeroS 0, 12) := by simp only [decS, ht]
      rw [e]
      exact sdecode_tag w base Mp hG B off c x l hb hc hcm (by omega) ht
    | some fs =>
      cases hp : passS (fs.map (·.2)) (zeroS x.toNat) (.rd l) with
      | none =>
        have e : decS (x :: l) = (zeroS 0, 14) := by simp only [decS, ht, hp]
        rw [e]
        exact sdecode_bad w base Mp hG B off c x l hb hc hcm (by omega) fs ht hp
      | some r =>
        obtain ⟨q, S⟩ := r
        cases S with
        | wr o => exact absurd hp (passS_rd _ (tabS_rd ht) _ _ _ _)
        | rd r =>
          cases r with
          | nil =>
            have e : decS (x :: l) = (q, 0) := by simp only [decS, ht, hp]
            rw [e]
            exact sdecode_ok w base Mp hG B off c x l hb hc hcm (by omega) fs ht q hp
          | cons y r =>
            have e : decS (x :: l) = (zeroS 0, 14) := by simp only [decS, ht, hp]
            rw [e]
            exact sdecode_more w base Mp hG B off c x l hb hc hcm (by omega) fs ht q y r hp
end Go.Proofs.Ytdpfmaikijilkaa
