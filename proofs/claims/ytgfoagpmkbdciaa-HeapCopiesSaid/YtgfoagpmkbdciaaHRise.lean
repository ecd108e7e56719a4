/-
  The walk of rise.
-/
import Derived.Test.YtgfoagpmkbdciaaHSwap
import Derived.Deep.LoopGhost
import Derived.BigQuiet
import Derived.Deep.CutRange
namespace Go.Proofs.Ytgfoagpmkbdciaa
open Go Go.Shelf Go.RowKit Go.Lib Go.Sort Go.Proofs HpM

theorem swP : SwP Try.prog 7 := {
  mixed := by kernel_rfl
  fSwap := Try.func45
  t0 := Try.underlying0
  a0 := Try.isAgg0
  z0 := Try.sizeOf0
  v0 := Try.zeroValue0
  t3 := Try.underlying3
  a3 := Try.isAgg3
  z3 := Try.sizeOf3
  v3 := Try.zeroValue3
  t27 := Try.underlying27
  a27 := Try.isAgg27
  z27 := Try.sizeOf27
  v27 := Try.zeroValue27
  t55 := Try.underlying55
  a55 := Try.isAgg55
  z55 := Try.sizeOf55
  v55 := Try.zeroValue55
  aI := Try.isAgg36
  zI := Try.sizeOf36
  eNamed := enters_of Try.func34 (by kernel_rfl) rfl
  named := named_any
  put := put_run }

/-- a heap whose items move -/
structure HpW (w : World) (G P1 P2 B M nC cap : Nat) (d : Array It) (f : Pl) : Prop where
  sw : SwW w P1 P2 B M nC cap d f
  g : w.heap[G]? = some (.cells #[.slice (some ⟨B, 0, none⟩) d.size cap, .map (some M)] 57 (0, 0))
  le : d.size ≤ nC
  big : d.size ≤ 1000000
  plc : Plc f d
theorem HpW.gB {w : World} {G P1 P2 B M nC cap : Nat} {d : Array It} {f : Pl} (h : HpW w G P1 P2 B M nC cap d f) : G ≠ B := fun e => by
  obtain ⟨cur, hh, _⟩ := h.sw.row.cells
  have := h.g
  rw [e, hh] at this
  cases this
theorem HpW.gM {w : World} {G P1 P2 B M nC cap : Nat} {d : Array It} {f : Pl} (h : HpW w G P1 P2 B M nC cap d f) : G ≠ M := fun e => by
  obtain ⟨l, c, hb, _⟩ := h.sw.map
  have := h.g
  rw [e, hb] at this
  cases this
theorem HpW.ltG {w : World} {G P1 P2 B M nC cap : Nat} {d : Array It} {f : Pl} (h : HpW w G P1 P2 B M nC cap d f) : G < w.heap.size := (Array.getElem?_eq_some_iff.1 h.g).1
theorem HpW.gw {w w' : World} {G P1 P2 B M nC cap : Nat} {d : Array It} {f : Pl} (h : HpW w G P1 P2 B M nC cap d f) (g : Gw w w') : HpW w' G P1 P2 B M nC cap d f :=
  ⟨h.sw.gw g, (g.block h.ltG).trans h.g, h.le, h.big, h.plc⟩
theorem HpW.c0 {w : World} {G P1 P2 B M nC cap : Nat} {d : Array It} {f : Pl} (h : HpW w G P1 P2 B M nC cap d f) : w.cell? ⟨G, 0, none⟩ = some (.slice (some ⟨B, 0, none⟩) d.size cap) := by
  rw [cell_of_row _ _ _ _ _ _ h.g]; rfl
theorem HpW.c1 {w : World} {G P1 P2 B M nC cap : Nat} {d : Array It} {f : Pl} (h : HpW w G P1 P2 B M nC cap d f) : w.cell? ⟨G, 1, none⟩ = some (.map (some M)) := by
  rw [cell_of_row _ _ _ _ _ _ h.g]; rfl
/-- behind an exchange -/
theorem HpW.swapped {w w' : World} {G P1 P2 B M nC cap i j : Nat} {d : Array It} {f : Pl} (h : HpW w G P1 P2 B M nC cap d f) (hi : i < d.size) (hj : j < d.size) {e : Ending} (hs : SwapTo B M cap d f i j w e w') :
    HpW w' G P1 P2 B M nC cap (swp d i j) (fset (fset f (nm (swp d i j)[i]!) i) (nm (swp d i j)[j]!) j) ∧ But (fun b => b = B ∨ b = M) w w' := by
  obtain ⟨_, h1, h2, h3⟩ := hs
  have ne : ∀ b, b ≠ B → b ≠ M → b < w.heap.size → w'.heap[b]? = w.heap[b]? := fun b a c l => h3.block b l fun hh => hh.elim a c
  refine ⟨⟨⟨h1, h2, h.sw.caps.same (ne _ h.sw.caps.n1 (cell_ne_map h.sw.caps.c1 h.sw.map) h.sw.caps.lt.1) (ne _ h.sw.caps.n2 (cell_ne_map h.sw.caps.c2 h.sw.map) h.sw.caps.lt.2)⟩, ?_, by rw [swp_size]; exact h.le, by rw [swp_size]; exact h.big, h.plc.swap hi hj⟩, h3⟩
  rw [swp_size]
  exact (ne _ h.gB h.gM h.ltG).trans h.g
theorem swap_any (w : World) (G P1 P2 B M nC cap i j : Nat) (d : Array It) (f : Pl) (h : HpW w G P1 P2 B M nC cap d f) (hi : i < d.size) (hj : j < d.size) :
    Calls Try.prog 45 #[.int .i64 i, .int .i64 j, .pointer (some ⟨P1, 0, none⟩), .pointer (some ⟨P2, 0, none⟩)] w
      fun e w' => e = .returned (.tuple #[]) ∧ HpW w' G P1 P2 B M nC cap (swp d i j) (fset (fset f (nm (swp d i j)[i]!) i) (nm (swp d i j)[j]!) j) ∧ But (fun b => b = B ∨ b = M) w w' :=
  (swap_w swP rfl w P1 P2 B M nC cap i j d f h.sw.row h.sw.map h.sw.caps hi hj h.le).mono fun _ _ hs => ⟨hs.1, h.swapped hi hj hs⟩

theorem parent_g {i p : Nat} (hp : p = (i - 1) / 2) (hi : i < 1000000) (w : World) (h0 : 0 < i) (n : Nat) (os : Array Obj) :
    Calls Try.prog 44 #[.int .i64 i] (grow (w.drewN n) os) fun e w'' => e = .returned (.int .i64 (p : Int)) ∧ ∃ p : GrownBy, w'' = grow (w.drewN p.n) p.os :=
  Calls.grown_of ((parent_any i (by omega) _ h0).mono fun _ _ ⟨he, hw⟩ => ⟨by rw [he, hp], 0, #[], by rw [grow_empty, ← hw]; rfl⟩)
theorem icmp_g {x y : It} {q : Int} (hq : q = iCmp x y) (w : World) (n : Nat) (os : Array Obj) :
    Calls Try.prog 40 #[.agg #[.int .i64 x.1.1.1, .int .i64 x.1.1.2.1, .int .i64 x.1.1.2.2, .int .i64 x.1.2.1, .int .i64 x.1.2.2.1, .int .i64 x.1.2.2.2, .int .i64 x.2], .agg #[.int .i64 y.1.1.1, .int .i64 y.1.1.2.1, .int .i64 y.1.1.2.2, .int .i64 y.1.2.1, .int .i64 y.1.2.2.1, .int .i64 y.1.2.2.2, .int .i64 y.2]] (grow (w.drewN n) os)
      fun e0 w'' => e0 = .returned (.int .i64 q) ∧ ∃ p : GrownBy, w'' = grow (w.drewN p.n) p.os :=
  Calls.grown_of ((icmp_any x y _).mono fun _ _ h => hq ▸ h)

/-- the lexical walk of a region, shut against unfolding -/
structure WQ (P : Program) (ops : Array Oper) (C : World → Prop) (Q : Act → Prop) (l : List Oper) (a : Act) : Prop where
  out : wpQuiet P ops C Q l a
theorem WQ.nil {P : Program} {ops : Array Oper} {C : World → Prop} {Q : Act → Prop} {a : Act} (h : Q a) : WQ P ops C Q [] a := ⟨h⟩
theorem WQ.step {P : Program} {ops : Array Oper} {C : World → Prop} {Q : Act → Prop} {a : Act} {o : Oper} {rest : List Oper}
    (h : ∀ K : Act → Prop, (∀ a, WQ P ops C Q rest a → K a) → if Region.wanted o (yielded ops a.tmps) then o.quiet P a C K else K (a.put o.dst undef)) : WQ P ops C Q (o :: rest) a := by
  refine ⟨wpQuiet_step fun K hK => ?_⟩
  exact h K fun a ha => hK a ha.out
/-- a region that draws its order, walked once: its calls lay blocks -/
theorem wp_region_gw {P : Program} {id : Nat} {Q : Exit → Act → World → Prop} {a : Act} {w : World} {l : List Oper} (hm : P.follows .mixedOrders = true) (hB : Region.lexB .any l.toArray = true)
    (h : WQ P l.toArray (fun w' => ∃ p : GrownBy, w' = grow (w.drewN p.n) p.os) (fun a' => ∀ w', (∃ p : GrownBy, w' = grow (w.drewN p.n) p.os) → Q .normal a' w') l a) : (Code.region id l.toArray true).wp P Q a w :=
  wp_region_quiet_grown hm hB h.out

/-- so many items, the same ones, moved -/
structure Moved (w0 w : World) (G P1 P2 B M nC cap : Nat) (d0 d : Array It) (f : Pl) : Prop where
  hp : HpW w G P1 P2 B M nC cap d f
  size : d.size = d0.size
  perm : d.toList.Perm d0.toList
  but : But (fun b => b = B ∨ b = M) w0 w
theorem Moved.gw {w0 w w' : World} {G P1 P2 B M nC cap : Nat} {d0 d : Array It} {f : Pl} (h : Moved w0 w G P1 P2 B M nC cap d0 d f) (g : Gw w w') : Moved w0 w' G P1 P2 B M nC cap d0 d f :=
  ⟨h.hp.gw g, h.size, h.perm, h.but.gw g⟩
theorem Moved.swap {w0 w w' : World} {G P1 P2 B M nC cap : Nat} {d0 d d' : Array It} {f f' : Pl} (h : Moved w0 w G P1 P2 B M nC cap d0 d f) {i j : Nat} (hi : i < d.size) (hj : j < d.size) (hd : d' = swp d i j)
    (hp : HpW w' G P1 P2 B M nC cap d' f') (hb : But (fun b => b = B ∨ b = M) w w') : Moved w0 w' G P1 P2 B M nC cap d0 d' f' :=
  ⟨hp, by rw [hd, swp_size]; exact h.size, by rw [hd]; exact (swp_perm d hi hj).trans h.perm, h.but.trans hb⟩
def RiseTo (G P1 P2 B M nC cap i : Nat) (d : Array It) (w : World) (e : Ending) (w' : World) : Prop :=
  e = .returned (.tuple #[]) ∧ ∃ d' f', Moved w w' G P1 P2 B M nC cap d d' f' ∧ Down iLt d' i

set_option maxHeartbeats 4000000 in
set_option maxRecDepth 100000 in
theorem rise_any (w : World) (G P1 P2 B M nC cap i : Nat) (d : Array It) (f : Pl) (h : HpW w G P1 P2 B M nC cap d f) (hi : i < d.size) (hu : UpA iLt d i) :
    Calls Try.prog 35 #[.pointer (some ⟨G, 0, none⟩), .int .i64 i, .func (.func 45) #[] #[.pointer (some ⟨P1, 0, none⟩), .pointer (some ⟨P2, 0, none⟩)]] w (RiseTo G P1 P2 B M nC cap i d w) := by
  have mixed : Try.prog.follows .mixedOrders = true := by kernel_rfl
  have A0 : Aside (Moved w w G P1 P2 B M nC cap d d f ∧ UpA iLt d i) := ⟨⟨h, rfl, List.Perm.refl _, But.refl _ _⟩, hu⟩
  clear h hu
  go_enter Try.func35, Try.ntmps35
  go_wp2
  go_loopg [1] i (fun kx s1 wr => ∃ (m : Nat) (dk : Array It) (fk : Pl), s1 = .int .i64 m ∧ m < d.size ∧ m ≤ kx ∧ Aside (Moved w wr G P1 P2 B M nC cap d dk fk ∧ ((m = i ∧ UpA iLt dk i) ∨ UpB iLt dk m)))
  case atStart => exact ⟨i, d, f, rfl, hi, Nat.le_refl _, ⟨A0.out.1, .inl ⟨rfl, A0.out.2⟩⟩⟩
  case round =>
    clear A0
    obtain ⟨m, dk, fk, rfl, hmd, hkx, A⟩ := hrel
    have hbig : m < 1000000 := by have := A.out.1.hp.big; have := A.out.1.size; omega
    by_cases h0 : 0 < m
    · have hd0 : decide ((m : Int) > 0) = true := by simpa using h0
      obtain ⟨p, hp⟩ : ∃ p, p = (m - 1) / 2 := ⟨_, rfl⟩
      have hpm : p < m := by omega
      have hdk : dk.size = d.size := A.out.1.size
      have c0 := fun n os => ((A.out.1.hp.gw ⟨n, os, rfl⟩).c0 : (grow (wr.drewN n) os).cell? ⟨G, 0, none⟩ = _)
      have x7 := fun n os => ((A.out.1.hp.sw.gw ⟨n, os, rfl⟩).row.cell (i := m) (by omega)).seven
      have y7 := fun n os => ((A.out.1.hp.sw.gw ⟨n, os, rfl⟩).row.cell (i := p) (by omega)).seven
      obtain ⟨x, hx⟩ : ∃ x, x = dk[m]! := ⟨_, rfl⟩
      obtain ⟨y, hy⟩ : ∃ y, y = dk[p]! := ⟨_, rfl⟩
      rw [← hx] at x7
      rw [← hy] at y7
      have x0 := fun n os => (x7 n os).1
      have x1 := fun n os => (x7 n os).2.1
      have x2 := fun n os => (x7 n os).2.2.1
      have x3 := fun n os => (x7 n os).2.2.2.1
      have x4 := fun n os => (x7 n os).2.2.2.2.1
      have x5 := fun n os => (x7 n os).2.2.2.2.2.1
      have x6 := fun n os => (x7 n os).2.2.2.2.2.2
      have y0 := fun n os => (y7 n os).1
      have y1 := fun n os => (y7 n os).2.1
      have y2 := fun n os => (y7 n os).2.2.1
      have y3 := fun n os => (y7 n os).2.2.2.1
      have y4 := fun n os => (y7 n os).2.2.2.2.1
      have y5 := fun n os => (y7 n os).2.2.2.2.2.1
      have y6 := fun n os => (y7 n os).2.2.2.2.2.2
      have HXY := Lib.hid (And.intro hx hy)
      have HP := Lib.hid hp
      have hmz : (m : Int) < (dk.size : Int) := by omega
      have hpz : (p : Int) < (dk.size : Int) := by omega
      have HDK := Lib.hid hdk
      clear x7 y7 hx hy hp hdk
      obtain ⟨q, hq⟩ : ∃ q, q = iCmp x y := ⟨_, rfl⟩
      have hl : decide (q < 0) = iLt x y := by rw [hq]; exact iCmp_neg x y
      have HQ := Lib.hid hq
      clear hq
      cases hlt : iLt x y with
      | true =>
        rw [hlt] at hl
        have HLT := Lib.hid hlt
        clear hlt
        go_wp2_with fail
        refine wp_region_gw (by kernel_rfl) (by kernel_rfl) ?_
        iterate 21 (refine WQ.step (fun K hK => ?_); go_simp; first | (refine hK _ ?_; clear hK K) | (apply Exists.intro; refine ⟨fun _ => ?_, hK _ ?_⟩; (first | (go_at_call 44; exact parent_g HP.out hbig wr h0 _ _) | (go_at_call 40; exact icmp_g HQ.out wr _ _)); clear hK K))
        refine WQ.nil ?_
        intro _ hw'
        obtain ⟨⟨nq, osq⟩, hw''⟩ := hw'
        subst hw''
        have HM2 := Lib.hid (A.out.1.gw ⟨nq, osq, rfl⟩ : Moved w (grow (wr.drewN nq) osq) G P1 P2 B M nC cap d dk fk)
        clear c0 x0 x1 x2 x3 x4 x5 x6 y0 y1 y2 y3 y4 y5 y6
        generalize grow (wr.drewN nq) osq = w2 at HM2 ⊢
        have hms : m < dk.size := by omega
        have hps : p < dk.size := by omega
        obtain ⟨d2, hd2⟩ : ∃ d2, d2 = swp dk m p := ⟨_, rfl⟩
        have HD2 := Lib.hid hd2
        clear hd2 hd0 hl hmz hpz
        go_wp2_with (first
          | (go_at_call 44; refine (parent_any m (by omega) _ h0).mono ?_; rintro e w' ⟨rfl, rfl⟩; rw [← HP.out])
          | (go_at_call 45; refine (swap_any _ G P1 P2 B M nC cap m p dk fk HM2.out.hp hms hps).mono ?_; rintro e w3 ⟨rfl, hs⟩; have HS := Lib.hid hs; clear hs))
        go_roundg p
        case measure => omega
        case rel =>
          refine ⟨p, d2, _, rfl, by omega, Nat.le_refl _, ⟨HM2.out.swap hms hps HD2.out (HD2.out ▸ HS.out.1) HS.out.2, .inr ?_⟩⟩
          rw [HD2.out]
          refine up_step iLt_swo (i := m) ?_ HP.out h0 hms ?_
          · rcases A.out.2 with ⟨rfl, h⟩ | h
            · exact h
            · exact h.a
          · rw [← HXY.out.1, ← HXY.out.2]
            exact HLT.out
      | false =>
        rw [hlt] at hl
        have HLT := Lib.hid hlt
        clear hlt
        go_wp2_with fail
        refine wp_region_gw (by kernel_rfl) (by kernel_rfl) ?_
        iterate 21 (refine WQ.step (fun K hK => ?_); go_simp; first | (refine hK _ ?_; clear hK K) | (apply Exists.intro; refine ⟨fun _ => ?_, hK _ ?_⟩; (first | (go_at_call 44; exact parent_g HP.out hbig wr h0 _ _) | (go_at_call 40; exact icmp_g HQ.out wr _ _)); clear hK K))
        refine WQ.nil ?_
        intro _ hw'
        obtain ⟨⟨nq, osq⟩, hw''⟩ := hw'
        subst hw''
        have HM2 := Lib.hid (A.out.1.gw ⟨nq, osq, rfl⟩ : Moved w (grow (wr.drewN nq) osq) G P1 P2 B M nC cap d dk fk)
        clear c0 x0 x1 x2 x3 x4 x5 x6 y0 y1 y2 y3 y4 y5 y6
        generalize grow (wr.drewN nq) osq = w2 at HM2 ⊢
        go_wp2
        go_end0
        refine ⟨rfl, dk, fk, HM2.out, up_done iLt_swo (i := m) ?_ fun _ => ?_⟩
        · rcases A.out.2 with ⟨rfl, h⟩ | h
          · exact .inl ⟨rfl, h⟩
          · exact .inr h
        · rw [← HP.out, ← HXY.out.1, ← HXY.out.2]
          exact HLT.out
    · obtain rfl : m = 0 := by omega
      go_wp2_with fail
      refine wp_region_gw (by kernel_rfl) (by kernel_rfl) ?_
      iterate 21 (refine WQ.step (fun K hK => ?_); go_simp; first | (refine hK _ ?_; clear hK K) | (apply Exists.intro; refine ⟨fun _ => ?_, hK _ ?_⟩; (first | (go_at_call 44; exact parent_g HP.out hbig wr h0 _ _)); clear hK K))
      refine WQ.nil ?_
      intro _ hw'
      obtain ⟨⟨nq, osq⟩, hw''⟩ := hw'
      subst hw''
      have HM2 := Lib.hid (A.out.1.gw ⟨nq, osq, rfl⟩ : Moved w (grow (wr.drewN nq) osq) G P1 P2 B M nC cap d dk fk)
      generalize grow (wr.drewN nq) osq = w2 at HM2 ⊢
      go_wp2
      go_end0
      refine ⟨rfl, dk, fk, HM2.out, up_done iLt_swo (i := 0) ?_ fun h => absurd h (Nat.lt_irrefl _)⟩
      rcases A.out.2 with ⟨rfl, h⟩ | h
      · exact .inl ⟨rfl, h⟩
      · exact .inr h
end Go.Proofs.Ytgfoagpmkbdciaa
