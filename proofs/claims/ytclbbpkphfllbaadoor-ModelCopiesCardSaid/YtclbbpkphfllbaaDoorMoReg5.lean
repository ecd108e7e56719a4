/-
  The region of the law ModelCopies that copies a model and a state, in whatever order.
-/
import Derived.Test.YtclbbpkphfllbaaDoorMoReg
import Derived.Laws.CopyOwn
namespace Go.Proofs.YtclbbpkphfllbaaDoor
open Go Go.RowKit Go.Sort Go.Proofs CodM VmM

abbrev D5 : List Nat := [9, 10, 54, 55, 56, 57]
abbrev ops5 : List Oper := [{ dst := some 54, op := Op.load 27 (Operand.tmp 4), type := 27, pos := "law.go:89", after := #[], guard := none },
  { dst := some 55, op := Op.call { callee := Callee.value (Operand.func 14), args := #[Operand.tmp 54], argTypes := #[27] }, type := 27, pos := "law.go:89", after := #[{ on := 0, ground := Ground.data }], guard := none },
  { dst := some 56, op := Op.load 38 (Operand.tmp 6), type := 38, pos := "law.go:89", after := #[], guard := none },
  { dst := some 57, op := Op.call { callee := Callee.value (Operand.func 15), args := #[Operand.tmp 56], argTypes := #[38] }, type := 38, pos := "law.go:89", after := #[{ on := 2, ground := Ground.data }, { on := 1, ground := Ground.chain }], guard := none },
  { dst := some 9, op := Op.alloc 27, type := 0, pos := "law.go:89", after := #[], guard := none },
  { dst := some 10, op := Op.alloc 38, type := 0, pos := "law.go:89", after := #[], guard := none },
  { dst := none, op := Op.store 27 (Operand.tmp 9) (Operand.tmp 55), type := 0, pos := "law.go:89",
    after := #[{ on := 4, ground := Ground.data }, { on := 1, ground := Ground.data }, { on := 3, ground := Ground.chain }, { on := 0, ground := Ground.phase }, { on := 1, ground := Ground.phase }, { on := 2, ground := Ground.textOnly Departure.lateStores }, { on := 3, ground := Ground.textOnly Departure.lateStoresUnsure }, { on := 4, ground := Ground.phase }, { on := 5, ground := Ground.phase }], guard := none },
  { dst := none, op := Op.store 38 (Operand.tmp 10) (Operand.tmp 57), type := 0, pos := "law.go:89",
    after := #[{ on := 5, ground := Ground.data }, { on := 3, ground := Ground.data }, { on := 6, ground := Ground.chain }, { on := 0, ground := Ground.phase }, { on := 1, ground := Ground.phase }, { on := 2, ground := Ground.phase }, { on := 3, ground := Ground.phase }, { on := 4, ground := Ground.phase }, { on := 5, ground := Ground.phase }, { on := 6, ground := Ground.phase }], guard := none }]
/-- a box of the region's own -/
def FB (T : TypeId) (k : Nat) (w0 : World) (e : Value) (w : World) (st : Array Value → Prop) : Prop := ∃ g cs, e = .pointer (some ⟨g, 0, none⟩) ∧ w0.heap.size ≤ g ∧ w.heap[g]? = some (.cells cs T (0, 0)) ∧ cs.size = k ∧ st cs
theorem FB.below {T : TypeId} {k : Nat} {w0 w w' : World} {e : Value} {st : Array Value → Prop} (h : FB T k w0 e w st) (hb : Below w.heap.size w w') : FB T k w0 e w' st := by
  obtain ⟨g, cs, h1, h2, h3, h4⟩ := h
  exact ⟨g, cs, h1, h2, (hb.block g (heap_lt h3)).trans h3, h4⟩
theorem FB.set {T T' : TypeId} {k : Nat} {w0 w : World} {e : Value} {st : Array Value → Prop} (h : FB T k w0 e w st) {g' : Nat} {old : Array Value} (hg : w.heap[g']? = some (.cells old T' (0, 0))) (hne : T ≠ T') (cs' : Array Value) : FB T k w0 e (w.setRow g' cs') st := by
  obtain ⟨g, cs, h1, h2, h3, h4⟩ := h
  exact ⟨g, cs, h1, h2, (setRow_other w g' g cs' fun e => by subst e; rw [hg] at h3; cases h3; exact hne rfl).trans h3, h4⟩
theorem FB.imp {T : TypeId} {k : Nat} {w0 w : World} {e : Value} {st st' : Array Value → Prop} (h : FB T k w0 e w st) (hi : ∀ cs, st cs → st' cs) : FB T k w0 e w st' := by
  obtain ⟨g, cs, h1, h2, h3, h4, h5⟩ := h
  exact ⟨g, cs, h1, h2, h3, h4, hi _ h5⟩
/-- a copied model, a copied state, as values -/
def F1 (w0 : World) (n fn : Nat) (ps : List Pm) (es : List Ev) (e : Value) (w : World) : Prop :=
  ∃ a c fa fc, e = .agg #[.slice a n c, .slice fa fn fc] ∧ CopPs w0.heap.size w a n ps ∧ CEv.Own 55 w0.heap.size w (.slice fa fn fc) es
def F3 (w0 : World) (vn : Nat) (lx : List Int) (s1 d1 : Int) (e : Value) (w : World) : Prop :=
  ∃ a c, e = .agg #[.slice a vn c, .int .i64 s1, .int .i64 d1] ∧ CV.Own 2 w0.heap.size w (.slice a vn c) lx
theorem F1.nx {w0 w w' : World} {n fn : Nat} {ps : List Pm} {es : List Ev} {e : Value} (h : F1 w0 n fn ps es e w) (hx : Nx w w') : F1 w0 n fn ps es e w' := by
  obtain ⟨a, c, fa, fc, h1, h2, h3⟩ := h
  exact ⟨a, c, fa, fc, h1, hx.cops h2, hx.own (by decide) (by decide) h3⟩
theorem F3.nx {w0 w w' : World} {vn : Nat} {lx : List Int} {s1 d1 : Int} {e : Value} (h : F3 w0 vn lx s1 d1 e w) (hx : Nx w w') : F3 w0 vn lx s1 d1 e w' := by
  obtain ⟨a, c, h1, h2⟩ := h
  exact ⟨a, c, h1, hx.own (by decide) (by decide) h2⟩
abbrev On (L : Array Bool) (i : Nat) : Prop := L.getD i false = true
/-- how things stand while the region runs: L says which of its operations have run -/
structure J5 (w0 : World) (a0 : Act) (A S : Array Value) (n fn vn : Nat) (ps : List Pm) (es : List Ev) (lx : List Int) (s1 d1 : Int) (L : Array Bool) (a : Act) (w : World) : Prop where
  ag : Ag D5 a0 a
  bel : Below w0.heap.size w0 w
  l0 : On L 0 → a.eval (.tmp 54) = .agg A
  l1 : On L 1 → F1 w0 n fn ps es (a.eval (.tmp 55)) w
  l2 : On L 2 → a.eval (.tmp 56) = .agg S
  l3 : On L 3 → F3 w0 vn lx s1 d1 (a.eval (.tmp 57)) w
  l4 : On L 4 → FB 27 2 w0 (a.eval (.tmp 9)) w fun cs => On L 6 → a.eval (.tmp 55) = .agg cs
  l5 : On L 5 → FB 38 3 w0 (a.eval (.tmp 10)) w fun cs => On L 7 → a.eval (.tmp 57) = .agg cs
  p6 : On L 6 → On L 1 ∧ On L 4
  p7 : On L 7 → On L 3 ∧ On L 5
theorem on_old {L : Array Bool} {i k : Nat} (h : On (L.setIfInBounds i true) k) (hne : i ≠ k) : On L k := by
  unfold On at h
  rwa [getD_set_ne false hne] at h
theorem on_not {L : Array Bool} {i : Nat} (h : L[i]? = some false) : ¬ On L i := by
  intro h2
  unfold On at h2
  rw [Array.getD_eq_getD_getElem?, h] at h2
  cases h2
theorem on_new {L : Array Bool} {i k : Nat} (h : On L k) : On (L.setIfInBounds i true) k := getD_set_true h
theorem wanted5 {o : Oper} {l : List Oper} {a : Act} (h : o.guard = none) : Region.wanted o (yielded l.toArray a.tmps) = true := by simp [Region.wanted, h]

section
variable {w0 : World} {a0 : Act} {A S : Array Value} {n fn vn : Nat} {ps : List Pm} {es : List Ev} {lx : List Int} {s1 d1 : Int}
/-- a step that fills the slot of a load -/
theorem J5.load0 {L : Array Bool} {a : Act} {w : World} (h : J5 w0 a0 A S n fn vn ps es lx s1 d1 L a w) (hz : 58 ≤ a0.tmps.size) : J5 w0 a0 A S n fn vn ps es lx s1 d1 (L.setIfInBounds 0 true) (a.put (some 54) (.agg A)) w :=
  ⟨h.ag.put (by decide) _, h.bel, fun _ => Act.eval_put_same _ _ _ (by rw [h.ag.size]; omega),
   fun k => by rw [Act.eval_put_ne _ _ _ _ (by decide)]; exact h.l1 (on_old k (by decide)),
   fun k => by rw [Act.eval_put_ne _ _ _ _ (by decide)]; exact h.l2 (on_old k (by decide)),
   fun k => by rw [Act.eval_put_ne _ _ _ _ (by decide)]; exact h.l3 (on_old k (by decide)),
   fun k => by rw [Act.eval_put_ne _ _ 9 _ (by decide), Act.eval_put_ne _ _ 55 _ (by decide)]; exact (h.l4 (on_old k (by decide))).imp fun cs f k2 => f (on_old k2 (by decide)),
   fun k => by rw [Act.eval_put_ne _ _ 10 _ (by decide), Act.eval_put_ne _ _ 57 _ (by decide)]; exact (h.l5 (on_old k (by decide))).imp fun cs f k2 => f (on_old k2 (by decide)),
   fun k => ⟨on_new (h.p6 (on_old k (by decide))).1, on_new (h.p6 (on_old k (by decide))).2⟩, fun k => ⟨on_new (h.p7 (on_old k (by decide))).1, on_new (h.p7 (on_old k (by decide))).2⟩⟩
theorem J5.load2 {L : Array Bool} {a : Act} {w : World} (h : J5 w0 a0 A S n fn vn ps es lx s1 d1 L a w) (hz : 58 ≤ a0.tmps.size) : J5 w0 a0 A S n fn vn ps es lx s1 d1 (L.setIfInBounds 2 true) (a.put (some 56) (.agg S)) w :=
  ⟨h.ag.put (by decide) _, h.bel, fun k => by rw [Act.eval_put_ne _ _ _ _ (by decide)]; exact h.l0 (on_old k (by decide)),
   fun k => by rw [Act.eval_put_ne _ _ _ _ (by decide)]; exact h.l1 (on_old k (by decide)),
   fun _ => Act.eval_put_same _ _ _ (by rw [h.ag.size]; omega),
   fun k => by rw [Act.eval_put_ne _ _ _ _ (by decide)]; exact h.l3 (on_old k (by decide)),
   fun k => by rw [Act.eval_put_ne _ _ 9 _ (by decide), Act.eval_put_ne _ _ 55 _ (by decide)]; exact (h.l4 (on_old k (by decide))).imp fun cs f k2 => f (on_old k2 (by decide)),
   fun k => by rw [Act.eval_put_ne _ _ 10 _ (by decide), Act.eval_put_ne _ _ 57 _ (by decide)]; exact (h.l5 (on_old k (by decide))).imp fun cs f k2 => f (on_old k2 (by decide)),
   fun k => ⟨on_new (h.p6 (on_old k (by decide))).1, on_new (h.p6 (on_old k (by decide))).2⟩, fun k => ⟨on_new (h.p7 (on_old k (by decide))).1, on_new (h.p7 (on_old k (by decide))).2⟩⟩
theorem J5.call1 {L : Array Bool} {a : Act} {w w' : World} (h : J5 w0 a0 A S n fn vn ps es lx s1 d1 L a w) (hz : 58 ≤ a0.tmps.size) (hi : L[1]? = some false) {v : Value} (hb : Below w.heap.size w w') (hv : F1 w0 n fn ps es v w') : J5 w0 a0 A S n fn vn ps es lx s1 d1 (L.setIfInBounds 1 true) (a.put (some 55) v) w' :=
  ⟨h.ag.put (by decide) _, h.bel.trans (hb.mono h.bel.size), fun k => by rw [Act.eval_put_ne _ _ _ _ (by decide)]; exact h.l0 (on_old k (by decide)),
   fun _ => by rw [Act.eval_put_same _ _ _ (by rw [h.ag.size]; omega)]; exact hv,
   fun k => by rw [Act.eval_put_ne _ _ _ _ (by decide)]; exact h.l2 (on_old k (by decide)),
   fun k => by rw [Act.eval_put_ne _ _ _ _ (by decide)]; exact (h.l3 (on_old k (by decide))).nx (Nx.below hb),
   fun k => by rw [Act.eval_put_ne _ _ 9 _ (by decide)]; exact ((h.l4 (on_old k (by decide))).below hb).imp fun cs f k2 => absurd (h.p6 (on_old k2 (by decide))).1 (on_not hi),
   fun k => by rw [Act.eval_put_ne _ _ 10 _ (by decide), Act.eval_put_ne _ _ 57 _ (by decide)]; exact ((h.l5 (on_old k (by decide))).below hb).imp fun cs f k2 => f (on_old k2 (by decide)),
   fun k => ⟨on_new (h.p6 (on_old k (by decide))).1, on_new (h.p6 (on_old k (by decide))).2⟩, fun k => ⟨on_new (h.p7 (on_old k (by decide))).1, on_new (h.p7 (on_old k (by decide))).2⟩⟩
theorem J5.call3 {L : Array Bool} {a : Act} {w w' : World} (h : J5 w0 a0 A S n fn vn ps es lx s1 d1 L a w) (hz : 58 ≤ a0.tmps.size) (hi : L[3]? = some false) {v : Value} (hb : Below w.heap.size w w') (hv : F3 w0 vn lx s1 d1 v w') : J5 w0 a0 A S n fn vn ps es lx s1 d1 (L.setIfInBounds 3 true) (a.put (some 57) v) w' :=
  ⟨h.ag.put (by decide) _, h.bel.trans (hb.mono h.bel.size), fun k => by rw [Act.eval_put_ne _ _ _ _ (by decide)]; exact h.l0 (on_old k (by decide)),
   fun k => by rw [Act.eval_put_ne _ _ _ _ (by decide)]; exact (h.l1 (on_old k (by decide))).nx (Nx.below hb),
   fun k => by rw [Act.eval_put_ne _ _ _ _ (by decide)]; exact h.l2 (on_old k (by decide)),
   fun _ => by rw [Act.eval_put_same _ _ _ (by rw [h.ag.size]; omega)]; exact hv,
   fun k => by rw [Act.eval_put_ne _ _ 9 _ (by decide), Act.eval_put_ne _ _ 55 _ (by decide)]; exact ((h.l4 (on_old k (by decide))).below hb).imp fun cs f k2 => f (on_old k2 (by decide)),
   fun k => by rw [Act.eval_put_ne _ _ 10 _ (by decide)]; exact ((h.l5 (on_old k (by decide))).below hb).imp fun cs f k2 => absurd (h.p7 (on_old k2 (by decide))).1 (on_not hi),
   fun k => ⟨on_new (h.p6 (on_old k (by decide))).1, on_new (h.p6 (on_old k (by decide))).2⟩, fun k => ⟨on_new (h.p7 (on_old k (by decide))).1, on_new (h.p7 (on_old k (by decide))).2⟩⟩
theorem J5.alloc4 {L : Array Bool} {a : Act} {w : World} (h : J5 w0 a0 A S n fn vn ps es lx s1 d1 L a w) (hz : 58 ≤ a0.tmps.size) (hi : L[4]? = some false) (u0 u1 : Value) : J5 w0 a0 A S n fn vn ps es lx s1 d1 (L.setIfInBounds 4 true) (a.put (some 9) (.pointer (some ⟨w.heap.size, 0, none⟩))) (w.alloc (.cells #[u0, u1] 27)) := by
  have hb : Below w.heap.size w (w.alloc (.cells #[u0, u1] 27)) := (Below.refl _ _).alloc (Nat.le_refl _) _
  exact ⟨h.ag.put (by decide) _, h.bel.trans (hb.mono h.bel.size), fun k => by rw [Act.eval_put_ne _ _ _ _ (by decide)]; exact h.l0 (on_old k (by decide)),
   fun k => by rw [Act.eval_put_ne _ _ _ _ (by decide)]; exact (h.l1 (on_old k (by decide))).nx (Nx.below hb),
   fun k => by rw [Act.eval_put_ne _ _ _ _ (by decide)]; exact h.l2 (on_old k (by decide)),
   fun k => by rw [Act.eval_put_ne _ _ _ _ (by decide)]; exact (h.l3 (on_old k (by decide))).nx (Nx.below hb),
   fun _ => by rw [Act.eval_put_same _ _ _ (by rw [h.ag.size]; omega)]; exact ⟨w.heap.size, #[u0, u1], rfl, h.bel.size, heap_alloc_new _ _, rfl, fun k2 => absurd (h.p6 (on_old k2 (by decide))).2 (on_not hi)⟩,
   fun k => by rw [Act.eval_put_ne _ _ 10 _ (by decide), Act.eval_put_ne _ _ 57 _ (by decide)]; exact ((h.l5 (on_old k (by decide))).below hb).imp fun cs f k2 => f (on_old k2 (by decide)),
   fun k => ⟨on_new (h.p6 (on_old k (by decide))).1, on_new (h.p6 (on_old k (by decide))).2⟩, fun k => ⟨on_new (h.p7 (on_old k (by decide))).1, on_new (h.p7 (on_old k (by decide))).2⟩⟩
theorem J5.alloc5 {L : Array Bool} {a : Act} {w : World} (h : J5 w0 a0 A S n fn vn ps es lx s1 d1 L a w) (hz : 58 ≤ a0.tmps.size) (hi : L[5]? = some false) (u0 u1 u2 : Value) : J5 w0 a0 A S n fn vn ps es lx s1 d1 (L.setIfInBounds 5 true) (a.put (some 10) (.pointer (some ⟨w.heap.size, 0, none⟩))) (w.alloc (.cells #[u0, u1, u2] 38)) := by
  have hb : Below w.heap.size w (w.alloc (.cells #[u0, u1, u2] 38)) := (Below.refl _ _).alloc (Nat.le_refl _) _
  exact ⟨h.ag.put (by decide) _, h.bel.trans (hb.mono h.bel.size), fun k => by rw [Act.eval_put_ne _ _ _ _ (by decide)]; exact h.l0 (on_old k (by decide)),
   fun k => by rw [Act.eval_put_ne _ _ _ _ (by decide)]; exact (h.l1 (on_old k (by decide))).nx (Nx.below hb),
   fun k => by rw [Act.eval_put_ne _ _ _ _ (by decide)]; exact h.l2 (on_old k (by decide)),
   fun k => by rw [Act.eval_put_ne _ _ _ _ (by decide)]; exact (h.l3 (on_old k (by decide))).nx (Nx.below hb),
   fun k => by rw [Act.eval_put_ne _ _ 9 _ (by decide), Act.eval_put_ne _ _ 55 _ (by decide)]; exact ((h.l4 (on_old k (by decide))).below hb).imp fun cs f k2 => f (on_old k2 (by decide)),
   fun _ => by rw [Act.eval_put_same _ _ _ (by rw [h.ag.size]; omega)]; exact ⟨w.heap.size, #[u0, u1, u2], rfl, h.bel.size, heap_alloc_new _ _, rfl, fun k2 => absurd (h.p7 (on_old k2 (by decide))).2 (on_not hi)⟩,
   fun k => ⟨on_new (h.p6 (on_old k (by decide))).1, on_new (h.p6 (on_old k (by decide))).2⟩, fun k => ⟨on_new (h.p7 (on_old k (by decide))).1, on_new (h.p7 (on_old k (by decide))).2⟩⟩
theorem J5.store6 {L : Array Bool} {a : Act} {w : World} (h : J5 w0 a0 A S n fn vn ps es lx s1 d1 L a w) (h1 : On L 1) (h4 : On L 4) {g : Nat} {old cs : Array Value} (hg : w.heap[g]? = some (.cells old 27 (0, 0))) (he : a.eval (.tmp 9) = .pointer (some ⟨g, 0, none⟩)) (hw : w0.heap.size ≤ g) (hv : a.eval (.tmp 55) = .agg cs) (hk : cs.size = 2) :
    J5 w0 a0 A S n fn vn ps es lx s1 d1 (L.setIfInBounds 6 true) a (w.setRow g cs) :=
  ⟨h.ag, below_setRow h.bel hw cs, fun k => h.l0 (on_old k (by decide)), fun k => (h.l1 (on_old k (by decide))).nx (Nx.set hg (.inl rfl) cs), fun k => h.l2 (on_old k (by decide)), fun k => (h.l3 (on_old k (by decide))).nx (Nx.set hg (.inl rfl) cs),
   fun _ => ⟨g, cs, he, hw, setRow_heap w g old cs _ _ hg, hk, fun _ => hv⟩, fun k => ((h.l5 (on_old k (by decide))).set hg (by decide) cs).imp fun cs f k2 => f (on_old k2 (by decide)), fun _ => ⟨on_new h1, on_new h4⟩, fun k => ⟨on_new (h.p7 (on_old k (by decide))).1, on_new (h.p7 (on_old k (by decide))).2⟩⟩
theorem J5.store7 {L : Array Bool} {a : Act} {w : World} (h : J5 w0 a0 A S n fn vn ps es lx s1 d1 L a w) (h3 : On L 3) (h5 : On L 5) {g : Nat} {old cs : Array Value} (hg : w.heap[g]? = some (.cells old 38 (0, 0))) (he : a.eval (.tmp 10) = .pointer (some ⟨g, 0, none⟩)) (hw : w0.heap.size ≤ g) (hv : a.eval (.tmp 57) = .agg cs) (hk : cs.size = 3) :
    J5 w0 a0 A S n fn vn ps es lx s1 d1 (L.setIfInBounds 7 true) a (w.setRow g cs) :=
  ⟨h.ag, below_setRow h.bel hw cs, fun k => h.l0 (on_old k (by decide)), fun k => (h.l1 (on_old k (by decide))).nx (Nx.set hg (.inr rfl) cs), fun k => h.l2 (on_old k (by decide)), fun k => (h.l3 (on_old k (by decide))).nx (Nx.set hg (.inr rfl) cs),
   fun k => ((h.l4 (on_old k (by decide))).set hg (by decide) cs).imp fun cs f k2 => f (on_old k2 (by decide)), fun _ => ⟨g, cs, he, hw, setRow_heap w g old cs _ _ hg, hk, fun _ => hv⟩, fun k => ⟨on_new (h.p6 (on_old k (by decide))).1, on_new (h.p6 (on_old k (by decide))).2⟩, fun _ => ⟨on_new h3, on_new h5⟩⟩
end
end Go.Proofs.YtclbbpkphfllbaaDoor
