/-
  The walk of the closure that lets two items change places (over any program that bears its body; an item's cells a variable).
-/
import Derived.Test.YtgfoagpmkbdciaaHMem
import Derived.Shelf.SlSortCmp.KitK
import Derived.Sort.WalkB2
import Derived.Sort.WalkB12
import Derived.Shelf.SlSortCmp.QuietGrown
import Derived.ProofKit
import Derived.Lib.Hide
import Derived.Maps.Own
namespace Go.Proofs.Ytgfoagpmkbdciaa
open Go Go.Shelf Go.RowKit Go.Lib Go.Sort Go.Proofs

/-- what a program bears: the closure's body, and its types; k: an item's cells -/
structure SwP (P : Program) (k : Nat) : Prop where
  mixed : P.follows .mixedOrders = true
  fSwap : P.funcs[45]? = some Try.f45
  t0 : P.underlying 0 = some (TypeDesc.tuple #[])
  a0 : ∀ w, (isAgg 0).run P w = .ok false w
  z0 : ∀ w, (Go.sizeOf 0).run P w = .ok 1 w
  v0 : ∀ w, (zeroValue 0).run P w = .ok (Value.tuple #[]) w
  t3 : P.underlying 3 = some (TypeDesc.int IntKind.i64)
  a3 : ∀ w, (isAgg 3).run P w = .ok false w
  z3 : ∀ w, (Go.sizeOf 3).run P w = .ok 1 w
  v3 : ∀ w, (zeroValue 3).run P w = .ok (Value.int IntKind.i64 0) w
  t27 : P.underlying 27 = some (TypeDesc.slice 36)
  a27 : ∀ w, (isAgg 27).run P w = .ok false w
  z27 : ∀ w, (Go.sizeOf 27).run P w = .ok 1 w
  v27 : ∀ w, (zeroValue 27).run P w = .ok (Value.slice none 0 0) w
  t55 : P.underlying 55 = some (TypeDesc.map 64 3)
  a55 : ∀ w, (isAgg 55).run P w = .ok false w
  z55 : ∀ w, (Go.sizeOf 55).run P w = .ok 1 w
  v55 : ∀ w, (zeroValue 55).run P w = .ok (Value.map none) w
  aI : ∀ w, (isAgg 36).run P w = .ok true w
  zI : ∀ w, (Go.sizeOf 36).run P w = .ok k w
  eNamed : ∀ args w, (callFunc 34 args).run P w = .ok (.enter 34 args) w
  named : ∀ x w, Calls P 34 #[.agg (encI x).toArray] w (GwV (Nm2 x) w)
  put : ∀ (w : World) (M : Nat) (f : Pl), MapF w M f → ∀ (a b : Int) (k : Nat),
    ∃ w', (Instr.mapUpdate 55 (.map (some M)) (.agg #[.int .i64 a, .int .i64 b]) (.int .i64 (k : Nat))).run P w = .ok () w' ∧ MapF w' M (fset f (a, b) k) ∧ w.grownBy w' (some M)

/-- m[n] = i, at the operation -/
theorem wpList_put {P : Program} {k : Nat} (L : SwP P k) (w : World) {ops : Array Oper} {rest : List Oper} {o : Oper} {a : Act} {Q : Exit → Act → World → Prop}
    (hg : o.guard = none) (m x v : Operand) (hop : o.op = Op.mapUpdate 55 m x v) (M : Nat) (f : Pl) (hf : MapF w M f) (hm : a.eval m = .map (some M)) (p q : Int) (i : Nat)
    (hx : a.eval x = .agg #[.int .i64 p, .int .i64 q]) (hv : a.eval v = .int .i64 (i : Nat)) (hK : ∀ w', MapF w' M (fset f (p, q) i) → w.grownBy w' (some M) → wpList P ops Q rest (a.put o.dst undef) w') :
    wpList P ops Q (o :: rest) a w := by
  refine wpList_plain hg fun K' hK' => ?_
  obtain ⟨w', hrun, r1, r2⟩ := L.put w M f hf p q i
  unfold Oper.wp
  simp [execOp, hop, hm, hx, hv, hrun, Result.andThen]
  exact hK' _ _ (hK w' r1 r2)

/-- the two captured variables -/
structure Caps (w : World) (P1 P2 B nC cap M : Nat) : Prop where
  c1 : w.cell? ⟨P1, 0, none⟩ = some (.slice (some ⟨B, 0, none⟩) nC cap)
  c2 : w.cell? ⟨P2, 0, none⟩ = some (.map (some M))
  n1 : P1 ≠ B
  n2 : P2 ≠ B
def SwapTo (B M cap : Nat) (d : Array It) (f : Pl) (i j : Nat) (w : World) (e : Ending) (w' : World) : Prop :=
  e = .returned (.tuple #[]) ∧ RowC w' B cap (swp d i j) ∧ MapF w' M (fset (fset f (nm (swp d i j)[i]!) i) (nm (swp d i j)[j]!) j) ∧ But (fun b => b = B ∨ b = M) w w'

theorem Caps.same {w w' : World} {P1 P2 B nC cap M : Nat} (h : Caps w P1 P2 B nC cap M) (h1 : w'.heap[P1]? = w.heap[P1]?) (h2 : w'.heap[P2]? = w.heap[P2]?) : Caps w' P1 P2 B nC cap M :=
  ⟨(World.cell?_of_block (w := w) h1).trans h.c1, (World.cell?_of_block (w := w) h2).trans h.c2, h.n1, h.n2⟩
theorem Caps.lt {w : World} {P1 P2 B nC cap M : Nat} (h : Caps w P1 P2 B nC cap M) : P1 < w.heap.size ∧ P2 < w.heap.size := ⟨World.block_lt_of_cell? w _ h.c1, World.block_lt_of_cell? w _ h.c2⟩
theorem cell_ne_map {w : World} {b M : Nat} {f : Pl} {v : Value} (hc : w.cell? ⟨b, 0, none⟩ = some v) (hM : MapF w M f) : b ≠ M := fun e => by
  obtain ⟨l, c, hb, _⟩ := hM
  subst e
  unfold World.cell? at hc
  simp [hb] at hc
theorem row_ne_map {w : World} {B cap M : Nat} {d : Array It} {f : Pl} (hR : RowC w B cap d) (hM : MapF w M f) : B ≠ M := fun e => by
  obtain ⟨l, c, hb, _⟩ := hM
  obtain ⟨cur, hh, _⟩ := hR.cells
  rw [e, hb] at hh
  cases hh
/-- the row, the map and what was captured, in a world -/
structure SwW (w : World) (P1 P2 B M nC cap : Nat) (d : Array It) (f : Pl) : Prop where
  row : RowC w B cap d
  map : MapF w M f
  caps : Caps w P1 P2 B nC cap M
theorem SwW.gw {w w' : World} {P1 P2 B M nC cap : Nat} {d : Array It} {f : Pl} (h : SwW w P1 P2 B M nC cap d f) (g : Gw w w') : SwW w' P1 P2 B M nC cap d f :=
  ⟨h.row.same (g.block h.row.lt), h.map.same (g.block h.map.lt), h.caps.same (g.block h.caps.lt.1) (g.block h.caps.lt.2)⟩
theorem SwW.stored {w w' : World} {P1 P2 B M nC cap : Nat} {d : Array It} {f f' : Pl} (h : SwW w P1 P2 B M nC cap d f) (hm : MapF w' M f') (g : w.grownBy w' (some M)) : SwW w' P1 P2 B M nC cap d f' := by
  have hne : ∀ b, b ≠ M → b < w.heap.size → w'.heap[b]? = w.heap[b]? := fun b hb hl => g.block b hl fun e => hb (Option.some.inj e)
  exact ⟨h.row.same (hne _ (row_ne_map h.row h.map) h.row.lt), hm, h.caps.same (hne _ (cell_ne_map h.caps.c1 h.map) h.caps.lt.1) (hne _ (cell_ne_map h.caps.c2 h.map) h.caps.lt.2)⟩
abbrev SwS (P : Program) (k P1 P2 B M nC cap o : Nat) (cs : List Value) (W : World) : Prop :=
  W.cell? ⟨P1, 0, none⟩ = some (.slice (some ⟨B, 0, none⟩) nC cap) ∧ W.cell? ⟨P2, 0, none⟩ = some (.map (some M)) ∧ Sem.run P (loadCellsFrom ⟨B, o, none⟩ 0 k #[]) W = .ok cs.toArray W
theorem SwW.s {w : World} {P1 P2 B M nC cap : Nat} {d : Array It} {f : Pl} (h : SwW w P1 P2 B M nC cap d f) (P : Program) (k i : Nat) (hk : k = 7) (hi : i < d.size) : SwS P k P1 P2 B M nC cap (i * k) (encI d[i]!) w := by
  subst hk
  exact ⟨h.caps.c1, h.caps.c2, (h.row.cell hi).load P⟩

theorem SwW.store {P : Program} {k : Nat} (L : SwP P k) {w w1 : World} {P1 P2 B M nC cap : Nat} {d : Array It} {f : Pl} (h : SwW w P1 P2 B M nC cap d f) (g : Gw w.drew w1) (x : It) (i : Nat) :
    ∃ w', Sem.run P (Instr.mapUpdate 55 (.map (some M)) (Nm2 x) (.int .i64 (i : Nat))) w1 = .ok () w' ∧ SwW w' P1 P2 B M nC cap d (fset f (nm x) i) ∧ But (fun b => b = B ∨ b = M) w w' := by
  have g' : Gw w w1 := (Gw.refl w).drew.trans g
  have h1 := h.gw g'
  obtain ⟨w', hrun, hm, hg⟩ := L.put w1 M f h1.map (nm x).1 (nm x).2 i
  refine ⟨w', hrun, h1.stored hm hg, ?_⟩
  exact ((But.refl _ w).gw g').trans ((But.grown hg).mono fun b _ e => .inr (Option.some.inj e))

section
variable {P : Program}
set_option maxHeartbeats 4000000 in
set_option maxRecDepth 1000000 in
theorem swap_w {k : Nat} (L : SwP P k) (hk7 : k = 7) (w : World) (P1 P2 B M nC cap i j : Nat) (d : Array It) (f : Pl) (hR : RowC w B cap d) (hM : MapF w M f) (hC : Caps w P1 P2 B nC cap M)
    (hi : i < d.size) (hj : j < d.size) (hd : d.size ≤ nC) :
    Calls P 45 #[.int .i64 i, .int .i64 j, .pointer (some ⟨P1, 0, none⟩), .pointer (some ⟨P2, 0, none⟩)] w (SwapTo B M cap d f i j w) := by
  have mixed := L.mixed; have t0 := L.t0; have a0 := L.a0; have z0 := L.z0; have v0 := L.v0; have t3 := L.t3; have a3 := L.a3; have z3 := L.z3; have v3 := L.v3; have t27 := L.t27; have a27 := L.a27; have z27 := L.z27; have v27 := L.v27; have t55 := L.t55; have a55 := L.a55; have z55 := L.z55; have v55 := L.v55; have aI := L.aI; have zI := L.zI
  have c1 := hC.c1
  have c2 := hC.c2
  have R : RowK encI k w B 0 d := ⟨fun x => by rw [hk7]; exact encI_len x, encI_one, by rw [hk7]; exact hR.holds, hR.lt⟩
  have S1 : SWK encI k w B 0 d w := SWK.start R.hH
  have ea : ((i : Int)).toNat = i := by omega
  have pa : (0 : Int) ≤ (i : Int) := by omega
  have ba : (i : Int) < (nC : Int) := by omega
  have ec : ((j : Int)).toNat = j := by omega
  have pc : (0 : Int) ≤ (j : Int) := by omega
  have bc : (j : Int) < (nC : Int) := by omega
  have S2 : Aside (SWK encI k w B 0 (swp d i j) ((w.drew.setCells B (0 + i * k) (encI d[j]!)).setCells B (0 + j * k) (encI d[i]!))) := S1.swapped R i j hi hj
  have l44a := S1.ld1 R rfl P i hi
  have l44b := S1.ld1 R rfl P j hj
  have s44a := S1.st1 R rfl P i hi d[j]!
  have s44b := S1.st2 R rfl P i j hi hj d[j]! d[i]!
  have n44a : (encI d[i]!).length = k := R.hk _
  have n44b : (encI d[j]!).length = k := R.hk _
  have c1' : ∀ (o : Nat) (u : List Value), (w.drew.setCells B o u).cell? ⟨P1, 0, none⟩ = some (.slice (some ⟨B, 0, none⟩) nC cap) := fun o u => by
    rw [World.cell?_setCells_out B _ _ _ _ (fun e _ => absurd e hC.n1)]; exact hC.c1
  have HC := Lib.hid hC
  have HR := Lib.hid hR
  have HM := Lib.hid hM
  have HX : Hid (i < d.size ∧ j < d.size ∧ d.size ≤ nC ∧ k = 7) := ⟨hi, hj, hd, hk7⟩
  simp only [Nat.zero_add] at l44a l44b s44a s44b S2
  generalize encI d[i]! = cI44 at S2 l44a s44b n44a
  generalize encI d[j]! = cJ44 at S2 l44b s44a s44b n44b
  have FG := L.fSwap
  clear S1 R hC hR hM hk7
  go_enter FG, Try.ntmps45
  go_wp2_with fail
  go_big_region_o
  have hw2 : SwW ((w.drew.setCells B (i * k) cJ44).setCells B (j * k) cI44) P1 P2 B M nC cap (swp d i j) f ∧ But (fun b => b = B ∨ b = M) w ((w.drew.setCells B (i * k) cJ44).setCells B (j * k) cI44) := by
    have S3 := S2.out
    rw [HX.out.2.2.2] at S3
    have hb := swk_but S3
    rw [← HX.out.2.2.2] at hb
    refine ⟨⟨?_, HM.out.same (hb.block _ HM.out.lt fun e => row_ne_map HR.out HM.out e.symm), HC.out.same (hb.block _ HC.out.lt.1 HC.out.n1) (hb.block _ HC.out.lt.2 HC.out.n2)⟩, hb.mono fun _ _ h => .inl h⟩
    have := HR.out.swk (swp_size _ _ _) S3
    rw [← HX.out.2.2.2] at this
    exact this
  clear l44a l44b s44a s44b c1' c1 c2 S2 n44a n44b
  generalize (w.drew.setCells B (i * k) cJ44).setCells B (j * k) cI44 = w2 at hw2 ⊢
  have HW2 := Lib.hid hw2
  obtain ⟨x1, hx1⟩ : ∃ x, x = (swp d i j)[i]! := ⟨_, rfl⟩
  have hi' : i < (swp d i j).size := by rw [swp_size]; exact HX.out.1
  have hj' : j < (swp d i j).size := by rw [swp_size]; exact HX.out.2.1
  obtain ⟨c1, c2, l1⟩ := hw2.1.s P k i HX.out.2.2.2 hi'
  rw [← hx1] at l1
  have HX1 := Lib.hid hx1
  have HI := Lib.hid (And.intro hi' hj')
  have HDR := Lib.hid (hx1 ▸ (hw2.1.gw (Gw.refl w2).drew).s P k i HX.out.2.2.2 hi' : SwS P k P1 P2 B M nC cap (i * k) (encI x1) w2.drew)
  have eN := L.eNamed
  clear hw2 hx1 hi' hj'
  go_wp2_with fail
  have c1n : ∀ n, (w2.drewN n).cell? ⟨P1, 0, none⟩ = some (.slice (some ⟨B, 0, none⟩) nC cap) := fun _ => HW2.out.1.caps.c1
  have l1' : Sem.run P (loadCellsFrom ⟨B, i * k, none⟩ 0 k #[]) w2.drew = .ok (encI x1).toArray w2.drew := HDR.out.2.2
  clear l1
  go_region_with_o
    (first
      | (go_at_fn 34; ((with_reducible refine (L.named _ _).mono ?_)); rintro e0 W1 ⟨rfl, hg⟩; obtain ⟨w3, hrun, hs3⟩ := HW2.out.1.store L hg x1 i; have HS3 := Lib.hid hs3; have hW1 := HW2.out.1.gw ((Gw.refl w2).drew.trans hg); obtain ⟨p1, p2, p3⟩ := (HX1.out ▸ hW1.s P k i HX.out.2.2.2 HI.out.1 : SwS P k P1 P2 B M nC cap (i * k) (encI x1) W1); clear hs3 hg hW1))
  all_goals
    clear hrun p1 p2 p3 c1 c2 c1n l1'
    obtain ⟨x2, hx2⟩ : ∃ x, x = (swp d i j)[j]! := ⟨_, rfl⟩
    have HX2 := Lib.hid hx2
    have HDR2 := Lib.hid (hx2 ▸ (HS3.out.1.gw (Gw.refl w3).drew).s P k j HX.out.2.2.2 HI.out.2 : SwS P k P1 P2 B M nC cap (j * k) (encI x2) w3.drew)
    have c1 := HS3.out.1.caps.c1
    have c2 := HS3.out.1.caps.c2
    have l1' : Sem.run P (loadCellsFrom ⟨B, j * k, none⟩ 0 k #[]) w3.drew = .ok (encI x2).toArray w3.drew := HDR2.out.2.2
    clear hx2
    go_wp2_with fail
    go_region_with_o
      (first
        | (go_at_fn 34; ((with_reducible refine (L.named _ _).mono ?_)); rintro e0 W4 ⟨rfl, hg⟩; obtain ⟨w5, hrun, hs3⟩ := HS3.out.1.store L hg x2 j; have HS5 := Lib.hid hs3; have hW1 := HS3.out.1.gw ((Gw.refl w3).drew.trans hg); obtain ⟨p1, p2, p3⟩ := (HX2.out ▸ hW1.s P k j HX.out.2.2.2 HI.out.2 : SwS P k P1 P2 B M nC cap (j * k) (encI x2) W4); clear hs3 hg hW1))
    all_goals
      go_end0
      refine ⟨rfl, HS5.out.1.row, ?_, (HW2.out.2.trans HS3.out.2).trans HS5.out.2⟩
      rw [← HX1.out, ← HX2.out]
      exact HS5.out.1.map
end
end Go.Proofs.Ytgfoagpmkbdciaa
