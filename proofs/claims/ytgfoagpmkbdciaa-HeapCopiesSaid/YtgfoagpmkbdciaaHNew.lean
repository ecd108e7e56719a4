/-
  The walks of New, item.
-/
import Derived.Test.YtgfoagpmkbdciaaHMost2
import Derived.Test.YtgfoagpmkbdciaaHDrop
namespace Go.Proofs.Ytgfoagpmkbdciaa
open Go Go.Shelf Go.RowKit Go.Lib Go.Sort Go.Proofs HpM

/-- a heap without items -/
def NewTo (w : World) (e : Ending) (w' : World) : Prop :=
  ∃ G, e = .returned (.pointer (some ⟨G, 0, none⟩)) ∧ w.heap.size ≤ G ∧ HeapSt w' G (fun b => w.heap.size ≤ b ∧ b < w'.heap.size) #[] (fun _ => none) ∧ Below w.heap.size w w'
theorem new_any (w : World) : Calls Try.prog 8 #[] w (NewTo w) := by
  go_enter Try.func8, Try.ntmps8
  go_wp2_with fail
  go_ret
  refine ⟨w.heap.size, rfl, Nat.le_refl _, ⟨⟨Nat.le_refl _, by simp⟩, fun b h => h.2, .inl ⟨rfl, rfl, heap_alloc_new _ _⟩⟩, (Below.refl _ _).alloc (Nat.le_refl _) _⟩

/-- an item of a time, an origin, a serial -/
abbrev itOf (t o s : Int) : It := (((t, o, 0), 0, 0, 0), s)
theorem item_any (t o s : Int) (w : World) : Calls Try.prog 21 #[.int .i64 t, .int .i64 o, .int .i64 s] w (fun e w' => e = .returned (ItV (itOf t o s)) ∧ Below w.heap.size w w') := by
  have hbz : (w.alloc (ItO (itOf t o s))).heap[w.heap.size]? = some (ItO (itOf t o s)) := heap_alloc_new _ _
  obtain ⟨x0, x1, x2, x3, x4, x5, x6, -, -, -, -, -, -, -⟩ := box_here hbz
  clear hbz
  go_enter Try.func21, Try.ntmps21
  go_wp2_with fail
  refine bodyPost_ret (v := ItV (itOf t o s)) (by simp [results, Try.results21, go_sem, x0, x1, x2, x3, x4, x5, x6]) rfl ⟨rfl, ?_⟩
  exact (Below.refl _ _).alloc (Nat.le_refl _) _

/-- a heap that stands for a list -/
def Hp (w : World) (G : Nat) (F : Nat → Prop) (L : List It) : Prop := ∃ d f, HeapSt w G F d f ∧ Rep f d L
theorem Hp.but {w w' : World} {G : Nat} {F S : Nat → Prop} {L : List It} (h : Hp w G F L) (hb : But S w w') (hs : ∀ b, F b → ¬ S b) : Hp w' G F L := by
  obtain ⟨d, f, h, r⟩ := h
  exact ⟨d, f, h.but hb hs, r⟩
theorem Hp.below {w w' : World} {G : Nat} {F : Nat → Prop} {L : List It} (h : Hp w G F L) (hb : Below w.heap.size w w') : Hp w' G F L := by
  obtain ⟨d, f, h, r⟩ := h
  exact ⟨d, f, h.below hb, r⟩
theorem Hp.lt {w : World} {G : Nat} {F : Nat → Prop} {L : List It} (h : Hp w G F L) : ∀ b, F b → b < w.heap.size := by
  obtain ⟨d, f, h, r⟩ := h
  exact h.2.1
theorem Hp.at_ {w : World} {G : Nat} {F : Nat → Prop} {L : List It} (h : Hp w G F L) : F G := by
  obtain ⟨d, f, h, r⟩ := h
  exact h.1
theorem Rep.hasF {f : Pl} {d : Array It} {L : List It} (h : Rep f d L) (n : Nm) : hasF f n = decide (∃ x ∈ L, nm x = n) := by
  unfold Go.Proofs.Ytgfoagpmkbdciaa.hasF
  rw [Bool.eq_iff_iff, h.has, decide_eq_true_eq]
/-- the heap holds another list -/
def HpTo (v : Value) (G : Nat) (F : Nat → Prop) (L : List It) (w : World) (e : Ending) (w' : World) : Prop := e = .returned v ∧ Hp w' G (Ext F w w') L ∧ But F w w'
theorem hp_new (w : World) : Calls Try.prog 8 #[] w (fun e w' => ∃ G, e = .returned (.pointer (some ⟨G, 0, none⟩)) ∧ w.heap.size ≤ G ∧ Hp w' G (fun b => w.heap.size ≤ b ∧ b < w'.heap.size) [] ∧ Below w.heap.size w w') :=
  (new_any w).mono fun _ _ ⟨G, h1, h2, h3, h4⟩ => ⟨G, h1, h2, ⟨_, _, h3, Rep.empty⟩, h4⟩
theorem hp_len {w : World} {G : Nat} {F : Nat → Prop} {L : List It} (h : Hp w G F L) : Calls Try.prog 24 #[.pointer (some ⟨G, 0, none⟩)] w (SameI (L.length : Nat) w) := by
  obtain ⟨d, f, h, r⟩ := h
  rw [← r.size]
  exact len_any w G F d f h
theorem hp_has {w : World} {G : Nat} {F : Nat → Prop} {L : List It} (h : Hp w G F L) (a b : Int) : Calls Try.prog 28 #[.pointer (some ⟨G, 0, none⟩), .int .i64 a, .int .i64 b] w (SameB (decide (∃ x ∈ L, nm x = (a, b))) w) := by
  obtain ⟨d, f, h, r⟩ := h
  exact has_is h (r.hasF _).symm
theorem hp_put {w : World} {G : Nat} {F : Nat → Prop} {L L' : List It} (h : Hp w G F L) (x : It) (hn : ∀ y ∈ L, nm y ≠ nm x) (hs : L.length < 1024) (hL : L' = ins iLt L x) : Calls Try.prog 15 #[.pointer (some ⟨G, 0, none⟩), ItV x] w (HpTo (.int .i64 0) G F L' w) := by
  obtain ⟨d, f, h, r⟩ := h
  have hh : hasF f (nm x) = false := by
    rw [r.hasF, decide_eq_false_iff_not]
    exact fun ⟨y, hy, e⟩ => hn y hy e
  refine (put_new w G F d f x h hh (by rw [r.size]; exact hs) r.hp).mono fun e w' ⟨h1, d', f', h2, h3, h4, h5⟩ => ?_
  exact ⟨h1, ⟨d', f', h2, hL ▸ r.put (hasF_none hh) h2.plc h3 h4⟩, h5⟩
theorem hp_there {w : World} {G : Nat} {F : Nat → Prop} {L : List It} (h : Hp w G F L) (x : It) (hn : ∃ y ∈ L, nm y = nm x) : Calls Try.prog 15 #[.pointer (some ⟨G, 0, none⟩), ItV x] w (TellsIB 7 w) := by
  obtain ⟨d, f, h, r⟩ := h
  exact put_twice w G F d f x h (by rw [r.hasF, decide_eq_true_eq]; exact hn)
theorem hp_full {w : World} {G : Nat} {F : Nat → Prop} {L : List It} (h : Hp w G F L) (x : It) (hn : ∀ y ∈ L, nm y ≠ nm x) (hs : 1024 ≤ L.length) : Calls Try.prog 15 #[.pointer (some ⟨G, 0, none⟩), ItV x] w (TellsIB 5 w) := by
  obtain ⟨d, f, h, r⟩ := h
  exact put_full w G F d f x h (by rw [r.hasF, decide_eq_false_iff_not]; exact fun ⟨y, hy, e⟩ => hn y hy e) (by rw [r.size]; exact hs)
theorem hp_least0 {w : World} {G : Nat} {F : Nat → Prop} (h : Hp w G F []) : Calls Try.prog 22 #[.pointer (some ⟨G, 0, none⟩)] w (ItTo itZ false w) := by
  obtain ⟨d, f, h, r⟩ := h
  exact least_none w G F d f h r.size
theorem hp_least1 {w : World} {G : Nat} {F : Nat → Prop} {x : It} {t : List It} (h : Hp w G F (x :: t)) : Calls Try.prog 22 #[.pointer (some ⟨G, 0, none⟩)] w (ItTo x true w) := by
  obtain ⟨d, f, h, r⟩ := h
  have hs : 0 < d.size := by rw [r.size]; simp
  obtain ⟨B, M, cap, _, _, hF⟩ := h.full hs
  have := least_some w G B M cap d f hF hs
  rwa [r.least] at this
theorem hp_most0 {w : World} {G : Nat} {F : Nat → Prop} (h : Hp w G F []) : Calls Try.prog 23 #[.pointer (some ⟨G, 0, none⟩)] w (ItTo itZ false w) := by
  obtain ⟨d, f, h, r⟩ := h
  exact most_none w G F d f h r.size
theorem hp_most1 {w : World} {G : Nat} {F : Nat → Prop} {x : It} {t : List It} (h : Hp w G F (t ++ [x])) : Calls Try.prog 23 #[.pointer (some ⟨G, 0, none⟩)] w (ItTo x true w) := by
  obtain ⟨d, f, h, r⟩ := h
  have hs : 0 < d.size := by rw [r.size]; simp
  obtain ⟨B, M, cap, _, _, hF⟩ := h.full hs
  refine (most_some w G B M cap d f hF hs).mono fun e w' ⟨y, h1, h2, h3, h4⟩ => ?_
  obtain rfl := r.most h2 h3
  exact ⟨h1, h4⟩
theorem hp_take0 {w : World} {G : Nat} {F : Nat → Prop} (h : Hp w G F []) : Calls Try.prog 19 #[.pointer (some ⟨G, 0, none⟩)] w (ItTo itZ false w) := by
  obtain ⟨d, f, h, r⟩ := h
  exact take_none w G F d f h r.size
theorem hp_take1 {w : World} {G : Nat} {F : Nat → Prop} {x : It} {t : List It} (h : Hp w G F (x :: t)) : Calls Try.prog 19 #[.pointer (some ⟨G, 0, none⟩)] w (HpTo (.tuple #[ItV x, .bool true]) G F t w) := by
  obtain ⟨d, f, h, r⟩ := h
  have hs : 0 < d.size := by rw [r.size]; simp
  have := take_some w G F d f h hs r.hp
  rw [r.least] at this
  refine this.mono fun e w' ⟨h1, d', f', h2, h3, h4, h5⟩ => ?_
  have rr := r.drop h2.plc h3 h4
  rw [List.erase_cons_head] at rr
  exact ⟨h1, ⟨d', f', h2, rr⟩, h5⟩
theorem hp_drop0 {w : World} {G : Nat} {F : Nat → Prop} {L : List It} (h : Hp w G F L) (a b : Int) (hn : ∀ y ∈ L, nm y ≠ (a, b)) : Calls Try.prog 17 #[.pointer (some ⟨G, 0, none⟩), .int .i64 a, .int .i64 b] w (ItTo itZ false w) := by
  obtain ⟨d, f, h, r⟩ := h
  exact drop_none w G F d f a b h (by rw [r.hasF, decide_eq_false_iff_not]; exact fun ⟨y, hy, e⟩ => hn y hy e)
theorem hp_drop1 {w : World} {G : Nat} {F : Nat → Prop} {L L' : List It} (h : Hp w G F L) (a b : Int) (x : It) (hx : x ∈ L) (hn : nm x = (a, b)) (hL : L' = L.erase x) : Calls Try.prog 17 #[.pointer (some ⟨G, 0, none⟩), .int .i64 a, .int .i64 b] w (HpTo (.tuple #[ItV x, .bool true]) G F L' w) := by
  obtain ⟨d, f, h, r⟩ := h
  obtain ⟨k, hk, rfl⟩ := r.mem.1 hx
  have hf := r.plc.at_ k hk
  rw [hn] at hf
  refine (drop_some w G F d f a b k h hf r.hp).mono fun e w' ⟨h1, d', f', h2, h3, h4, h5⟩ => ?_
  exact ⟨h1, ⟨d', f', h2, hL ▸ r.drop h2.plc h3 h4⟩, h5⟩

/-- as it began at w; a heap behind it that stands for a list; and what else stands there -/
def HpX (w W : World) (G : Nat) (L : List It) (X : List (Nat × Obj)) : Prop :=
  (∃ F, (∀ b, F b → w.heap.size ≤ b) ∧ Hp W G F L ∧ ∀ p ∈ X, ¬ F p.1 ∧ w.heap.size ≤ p.1 ∧ W.heap[p.1]? = some p.2) ∧ (X.map Prod.fst).Nodup ∧ Below w.heap.size w W
theorem HpX.out {w W : World} {G : Nat} {L : List It} {X : List (Nat × Obj)} (h : HpX w W G L X) : Below w.heap.size w W := h.2.2
theorem HpX.get {w W : World} {G : Nat} {L : List It} {X : List (Nat × Obj)} (h : HpX w W G L X) {b : Nat} {o : Obj} (hm : (b, o) ∈ X) : W.heap[b]? = some o := by
  obtain ⟨⟨F, h1, h2, h3⟩, h4, h5⟩ := h
  exact (h3 _ hm).2.2
theorem HpX.below {w W W' : World} {G : Nat} {L : List It} {X : List (Nat × Obj)} (h : HpX w W G L X) (hb : Below W.heap.size W W') : HpX w W' G L X := by
  obtain ⟨⟨F, h1, h2, h3⟩, h4, h5⟩ := h
  refine ⟨⟨F, h1, h2.below hb, fun p hp => ?_⟩, h4, h5.trans (hb.mono h5.size)⟩
  obtain ⟨a, b, c⟩ := h3 p hp
  exact ⟨a, b, (hb.block _ (Array.getElem?_eq_some_iff.1 c).1).trans c⟩
/-- a block more -/
theorem HpX.box {w W : World} {G : Nat} {L : List It} {X : List (Nat × Obj)} (h : HpX w W G L X) (o : Obj) : HpX w (W.alloc o) G L ((W.heap.size, o) :: X) := by
  obtain ⟨⟨F, h1, h2, h3⟩, h4, h5⟩ := h
  have hl : ∀ p ∈ X, p.1 < W.heap.size := fun p hp => (Array.getElem?_eq_some_iff.1 (h3 p hp).2.2).1
  refine ⟨⟨F, h1, h2.below ((Below.refl _ _).alloc (Nat.le_refl _) o), fun p hp => ?_⟩, ?_, h5.alloc h5.size o⟩
  · rcases List.mem_cons.1 hp with rfl | hp
    · exact ⟨fun e => Nat.lt_irrefl _ (h2.lt _ e), h5.size, heap_alloc_new _ _⟩
    · exact ⟨(h3 p hp).1, (h3 p hp).2.1, (heap_alloc_old _ _ (hl p hp)).trans (h3 p hp).2.2⟩
  · rw [List.map_cons, List.nodup_cons]
    refine ⟨fun hm => ?_, h4⟩
    obtain ⟨p, hp, e⟩ := List.mem_map.1 hm
    exact absurd (hl p hp) (by rw [e]; exact Nat.lt_irrefl _)
/-- fewer -/
theorem HpX.less {w W : World} {G : Nat} {L : List It} {X Y : List (Nat × Obj)} (h : HpX w W G L X) (hs : List.Sublist Y X) : HpX w W G L Y := by
  obtain ⟨⟨F, h1, h2, h3⟩, h4, h5⟩ := h
  exact ⟨⟨F, h1, h2, fun p hp => h3 p (hs.subset hp)⟩, h4.sublist (hs.map _), h5⟩
/-- one of the blocks is written -/
theorem HpX.put {w W W' : World} {G b : Nat} {L : List It} {X : List (Nat × Obj)} {o o' : Obj} (h : HpX w W G L ((b, o) :: X)) (hb : But (fun k => k = b) W W') (ho : W'.heap[b]? = some o') : HpX w W' G L ((b, o') :: X) := by
  obtain ⟨⟨F, h1, h2, h3⟩, h4, h5⟩ := h
  have h0 := h3 _ (List.mem_cons_self ..)
  rw [List.map_cons, List.nodup_cons] at h4
  refine ⟨⟨F, h1, h2.but hb fun k hk e => h0.1 (e ▸ hk), fun p hp => ?_⟩, ?_, h5.trans (hb.below h5.size fun k e => by subst e; exact h0.2.1)⟩
  · rcases List.mem_cons.1 hp with rfl | hp
    · exact ⟨h0.1, h0.2.1, ho⟩
    · obtain ⟨p1, p2, p3⟩ := h3 p (List.mem_cons_of_mem _ hp)
      exact ⟨p1, p2, (hb.block _ (Array.getElem?_eq_some_iff.1 p3).1 (fun e => h4.1 (List.mem_map.2 ⟨p, hp, e⟩))).trans p3⟩
  · rw [List.map_cons, List.nodup_cons]
    exact h4
/-- an answer, and the heap's list -/
def AnsX (v : Value) (w : World) (G : Nat) (L : List It) (X : List (Nat × Obj)) (e : Ending) (W' : World) : Prop := e = .returned v ∧ HpX w W' G L X
theorem hpx_to {w W W' : World} {G : Nat} {L' : List It} {X : List (Nat × Obj)} {F : Nat → Prop} {v : Value} {e : Ending} (h1 : ∀ b, F b → w.heap.size ≤ b) (h3 : ∀ p ∈ X, ¬ F p.1 ∧ w.heap.size ≤ p.1 ∧ W.heap[p.1]? = some p.2) (h4 : (X.map Prod.fst).Nodup) (hb : Below w.heap.size w W)
    (h : HpTo v G F L' W e W') : AnsX v w G L' X e W' := by
  obtain ⟨he, h2, hB⟩ := h
  refine ⟨he, ⟨_, fun b e => ?_, h2, fun p hp => ?_⟩, h4, hb.trans (hB.below hb.size h1)⟩
  · rcases e with e | e
    · exact h1 b e
    · exact Nat.le_trans hb.size e.1
  · obtain ⟨p1, p2, p3⟩ := h3 p hp
    have hl := (Array.getElem?_eq_some_iff.1 p3).1
    exact ⟨fun e => e.elim p1 fun e => absurd hl (Nat.not_lt.2 e.1), p2, (hB.block _ hl p1).trans p3⟩
theorem hk_new {w W : World} (hb : Below w.heap.size w W) : Calls Try.prog 8 #[] W (fun e W' => ∃ G, e = .returned (.pointer (some ⟨G, 0, none⟩)) ∧ HpX w W' G [] []) :=
  (hp_new W).mono fun _ _ ⟨G, h1, _, h3, h4⟩ => ⟨G, h1, ⟨_, fun _ e => Nat.le_trans hb.size e.1, h3, fun _ h => absurd h (List.not_mem_nil)⟩, List.nodup_nil, hb.trans (h4.mono hb.size)⟩
theorem hk_len {w W : World} {G : Nat} {L : List It} {X : List (Nat × Obj)} (h : HpX w W G L X) : Calls Try.prog 24 #[.pointer (some ⟨G, 0, none⟩)] W (SameI (L.length : Nat) W) := by
  obtain ⟨⟨F, h1, h2, h3⟩, h4, h5⟩ := h
  exact hp_len h2
theorem hk_put {w W : World} {G : Nat} {L L' : List It} {X : List (Nat × Obj)} (h : HpX w W G L X) (x : It) (hn : ∀ y ∈ L, nm y ≠ nm x) (hs : L.length < 1024) (hL : L' = ins iLt L x) : Calls Try.prog 15 #[.pointer (some ⟨G, 0, none⟩), ItV x] W (AnsX (.int .i64 0) w G L' X) := by
  obtain ⟨⟨F, h1, h2, h3⟩, h4, h5⟩ := h
  exact (hp_put h2 x hn hs hL).mono fun _ _ h => hpx_to h1 h3 h4 h5 h
theorem hk_there {w W : World} {G : Nat} {L : List It} {X : List (Nat × Obj)} (h : HpX w W G L X) (x : It) (hn : ∃ y ∈ L, nm y = nm x) : Calls Try.prog 15 #[.pointer (some ⟨G, 0, none⟩), ItV x] W (AnsX (.int .i64 7) w G L X) := by
  obtain ⟨⟨F, h1, h2, h3⟩, h4, h5⟩ := id h
  exact (hp_there h2 x hn).mono fun _ _ e => ⟨e.1, h.below e.2⟩
theorem hk_full {w W : World} {G : Nat} {L : List It} {X : List (Nat × Obj)} (h : HpX w W G L X) (x : It) (hn : ∀ y ∈ L, nm y ≠ nm x) (hs : 1024 ≤ L.length) : Calls Try.prog 15 #[.pointer (some ⟨G, 0, none⟩), ItV x] W (AnsX (.int .i64 5) w G L X) := by
  obtain ⟨⟨F, h1, h2, h3⟩, h4, h5⟩ := id h
  exact (hp_full h2 x hn hs).mono fun _ _ e => ⟨e.1, h.below e.2⟩
/-- the first, the last, if there is one -/
def hd (L : List It) : It := L.headD itZ
def lt (L : List It) : It := L.getLastD itZ
theorem hk_least {w W : World} {G : Nat} {L : List It} {X : List (Nat × Obj)} (h : HpX w W G L X) (x : It) (t : Bool) (hx : x = hd L) (ht : t = !L.isEmpty) : Calls Try.prog 22 #[.pointer (some ⟨G, 0, none⟩)] W (AnsX (.tuple #[ItV x, .bool t]) w G L X) := by
  obtain ⟨⟨F, h1, h2, h3⟩, h4, h5⟩ := id h
  subst hx ht
  cases L with
  | nil => exact (hp_least0 h2).mono fun _ _ e => ⟨e.1, h.below e.2⟩
  | cons x t => exact (hp_least1 h2).mono fun _ _ e => ⟨e.1, h.below e.2⟩
theorem hk_most {w W : World} {G : Nat} {L : List It} {X : List (Nat × Obj)} (h : HpX w W G L X) (x : It) (t : Bool) (hx : x = lt L) (ht : t = !L.isEmpty) : Calls Try.prog 23 #[.pointer (some ⟨G, 0, none⟩)] W (AnsX (.tuple #[ItV x, .bool t]) w G L X) := by
  obtain ⟨⟨F, h1, h2, h3⟩, h4, h5⟩ := id h
  subst hx ht
  rcases List.eq_nil_or_concat L with rfl | ⟨t, x, rfl⟩
  · exact (hp_most0 h2).mono fun _ _ e => ⟨e.1, h.below e.2⟩
  · rw [List.concat_eq_append] at h h2 ⊢
    refine (hp_most1 h2).mono fun _ _ e => ⟨e.1.trans ?_, h.below e.2⟩
    unfold Go.Proofs.Ytgfoagpmkbdciaa.lt
    simp
theorem hk_take {w W : World} {G : Nat} {L L' : List It} {X : List (Nat × Obj)} (h : HpX w W G L X) (x : It) (t : Bool) (hx : x = hd L) (ht : t = !L.isEmpty) (hL : L' = L.tail) : Calls Try.prog 19 #[.pointer (some ⟨G, 0, none⟩)] W (AnsX (.tuple #[ItV x, .bool t]) w G L' X) := by
  obtain ⟨⟨F, h1, h2, h3⟩, h4, h5⟩ := id h
  subst hL hx ht
  cases L with
  | nil => exact (hp_take0 h2).mono fun _ _ e => ⟨e.1, h.below e.2⟩
  | cons x t => exact (hp_take1 h2).mono fun _ _ h => hpx_to h1 h3 h4 h5 h
theorem hk_drop1 {w W : World} {G : Nat} {L L' : List It} {X : List (Nat × Obj)} (h : HpX w W G L X) (a b : Int) (x : It) (hx : x ∈ L) (hn : nm x = (a, b)) (hL : L' = L.erase x) : Calls Try.prog 17 #[.pointer (some ⟨G, 0, none⟩), .int .i64 a, .int .i64 b] W (AnsX (.tuple #[ItV x, .bool true]) w G L' X) := by
  obtain ⟨⟨F, h1, h2, h3⟩, h4, h5⟩ := id h
  exact (hp_drop1 h2 a b x hx hn hL).mono fun _ _ h => hpx_to h1 h3 h4 h5 h
theorem hk_drop0 {w W : World} {G : Nat} {L : List It} {X : List (Nat × Obj)} (h : HpX w W G L X) (a b : Int) (hn : ∀ y ∈ L, nm y ≠ (a, b)) : Calls Try.prog 17 #[.pointer (some ⟨G, 0, none⟩), .int .i64 a, .int .i64 b] W (AnsX (.tuple #[ItV itZ, .bool false]) w G L X) := by
  obtain ⟨⟨F, h1, h2, h3⟩, h4, h5⟩ := id h
  exact (hp_drop0 h2 a b hn).mono fun _ _ e => ⟨e.1, h.below e.2⟩
end Go.Proofs.Ytgfoagpmkbdciaa
