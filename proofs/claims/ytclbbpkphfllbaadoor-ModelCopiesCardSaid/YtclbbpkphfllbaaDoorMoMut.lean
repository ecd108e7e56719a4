/-
  A world in which numbers have been written into some blocks; what a copied model is there.
-/
import Derived.Test.YtclbbpkphfllbaaDoorMoCop2
namespace Go.Proofs.YtclbbpkphfllbaaDoor
open Go Go.RowKit Go.Sort Go.Proofs CodM VmM

/-- numbers of the blocks from B to E may have been written; all else is as it was -/
structure Mut (B E : Nat) (w w' : World) : Prop where
  but : But (fun b => B ≤ b ∧ b < E) w w'
  sl : ∀ p a n c, w.cell? p = some (.slice a n c) → w'.cell? p = some (.slice a n c)
  int : ∀ p q, w.cell? p = some (.int .i64 q) → ∃ q', w'.cell? p = some (.int .i64 q')
  fr : ∀ p : Addr, p.block < w.heap.size → w'.frozen? p = w.frozen? p
theorem Mut.refl (B E : Nat) (w : World) : Mut B E w w := ⟨But.refl _ _, fun _ _ _ _ h => h, fun _ q h => ⟨q, h⟩, fun _ _ => rfl⟩
theorem Mut.below {B E : Nat} {w w' w2 : World} (h : Mut B E w w') (hb : Below w'.heap.size w' w2) : Mut B E w w2 :=
  ⟨h.but.next (T := fun _ => False) (But.of hb) fun _ _ e => e.elim, fun p a n c hp => keepc hb (h.sl p a n c hp), fun p q hp => by
    obtain ⟨q', h'⟩ := h.int p q hp
    exact ⟨q', keepc hb h'⟩, fun p hp => (World.frozen?_of_block (hb.block p.block (Nat.lt_of_lt_of_le hp h.but.size))).trans (h.fr p hp)⟩
theorem Mut.set {B E : Nat} {w w' : World} (h : Mut B E w w') {p : Addr} (h1 : B ≤ p.block) (h2 : p.block < E) {q : Int} (hp : w'.cell? p = some (.int .i64 q)) (q' : Int) : Mut B E w (w'.setCell p (.int .i64 q')) := by
  refine ⟨h.but.setCell ⟨h1, h2⟩ _, fun p2 a n c hp2 => ?_, fun p2 r hp2 => ?_, fun p2 hp2 => by rw [World.frozen?_setCell]; exact h.fr p2 hp2⟩
  · have h3 := h.sl p2 a n c hp2
    by_cases e : p = p2
    · subst e
      rw [hp] at h3
      cases h3
    · rw [World.cell?_setCell_other _ _ _ _ e]
      exact h3
  · obtain ⟨r', h3⟩ := h.int p2 r hp2
    by_cases e : p = p2
    · subst e
      exact ⟨q', World.cell?_setCell_same _ _ _ hp⟩
    · exact ⟨r', by rw [World.cell?_setCell_other _ _ _ _ e]; exact h3⟩
theorem CV.own_but {S : Nat → Prop} {B : Nat} {w w' : World} {v : Value} {l : List Int} (h : CV.Own 2 B w v l) (hb : But S w w') (hS : ∀ b, S b → b < B) : CV.Own 2 B w' v l := h.but hb fun b e e2 => by have := (h.lt b e).1; have := hS b e2; omega
theorem InsOwn.but {S : Nat → Prop} {B : Nat} {w w' : World} {a : Option Addr} {n : Nat} {l : List Ins} (h : InsOwn B w a n l) (hb : But S w w') (hS : ∀ b, S b → b < B) : InsOwn B w' a n l := by
  obtain ⟨⟨h1, h2, h3, h4⟩, h5⟩ := h
  rcases h5 with h5 | ⟨G, cur, rfl, hG, hh⟩
  · exact ⟨⟨h1, h2, h3, .inl h5⟩, .inl h5⟩
  · have hb' : w'.heap[G]? = w.heap[G]? := hb.block G (heap_lt hh) fun e => by have := hS G e; omega
    refine ⟨⟨h1, h2, h3, ?_⟩, .inr ⟨G, cur, rfl, hG, hb'.trans hh⟩⟩
    rcases h4 with h4 | ⟨B', off, e, hB, hc⟩
    · exact .inl h4
    · cases e
      refine .inr ⟨G, 0, rfl, heap_lt (hb'.trans hh), fun i hi => ?_⟩
      exact ⟨(World.cell?_of_block (a := ⟨G, 0 + i * 2, none⟩) hb').trans (hc i hi).1, (World.cell?_of_block (a := ⟨G, 0 + i * 2 + 1, none⟩) hb').trans (hc i hi).2⟩
theorem Cop.but {S : Nat → Prop} {B : Nat} {w w' : World} {a : Option Addr} {n : Nat} {ks : List (List Ins)} (h : Cop B w a n ks) (hb : But S w w') (hS : ∀ b, S b → b < B) : Cop B w' a n ks := by
  refine ⟨h.1, ?_⟩
  rcases h.2 with h2 | ⟨G, cur, rfl, hG, hh, hc⟩
  · exact .inl h2
  · refine .inr ⟨G, cur, rfl, hG, (hb.block G (heap_lt hh) fun e => by have := hS G e; omega).trans hh, fun i hi => ?_⟩
    obtain ⟨a', n', c', e1, e2, e3⟩ := hc i hi
    exact ⟨a', n', c', e1, e2, e3.but hb hS⟩
theorem CopPs.but {S : Nat → Prop} {B : Nat} {w w' : World} {a : Option Addr} {n : Nat} {l : List Pm} (h : CopPs B w a n l) (hb : But S w w') (hS : ∀ b, S b → b < B) : CopPs B w' a n l := by
  obtain ⟨h1, h2 | ⟨G, cur, rfl, hG, hh, hc⟩⟩ := h
  · exact ⟨h1, .inl h2⟩
  · refine ⟨h1, .inr ⟨G, cur, rfl, hG, (hb.block G (heap_lt hh) fun e => by have := hS G e; omega).trans hh, fun i x hx => ?_⟩⟩
    obtain ⟨a, n, c, va, vc, c0, c1, c2, c3, h4, h5, h6⟩ := hc i x hx
    exact ⟨a, n, c, va, vc, c0, c1, c2, c3, h4, h5.but hb hS, CV.own_but h6 hb hS⟩
/-- a place that holds a number and may be written -/
def Spot (w : World) (B E : Nat) (p : Addr) : Prop := B ≤ p.block ∧ p.block < E ∧ (∃ q, w.cell? p = some (.int .i64 q)) ∧ w.frozen? p = false
theorem Spot.mut {w w' : World} {B E : Nat} {p : Addr} (h : Spot w B E p) (hm : Mut B E w w') : ∃ q, w'.cell? p = some (.int .i64 q) ∧ w'.frozen? p = false := by
  obtain ⟨h1, h2, ⟨q, h3⟩, h4⟩ := h
  obtain ⟨q', h5⟩ := hm.int p q h3
  exact ⟨q', h5, (hm.fr p (World.block_lt_of_cell? w _ h3)).trans h4⟩
/-- a row of numbers that may be written -/
def SpotV (w : World) (B E : Nat) (a : Option Addr) (n : Nat) : Prop := n = 0 ∨ ∃ V, a = some ⟨V, 0, none⟩ ∧ ∀ k, k < n → Spot w B E ⟨V, k, none⟩
def SpotI (w : World) (B E : Nat) (a : Option Addr) (n : Nat) : Prop := n = 0 ∨ ∃ V, a = some ⟨V, 0, none⟩ ∧ ∀ k, k < n → Spot w B E ⟨V, k * 2 + 1, none⟩
def SpotK (w : World) (B E : Nat) (a : Option Addr) (n : Nat) : Prop := n = 0 ∨ ∃ V, a = some ⟨V, 0, none⟩ ∧ ∀ k, k < n → ∃ ia im ic, w.cell? ⟨V, k, none⟩ = some (.slice ia im ic) ∧ im ≤ 1000 ∧ SpotI w B E ia im
structure SpotP (w : World) (B E : Nat) (G i : Nat) : Prop where
  seed : Spot w B E ⟨G, i * 4 + 3, none⟩
  vars : ∃ va vn vc, w.cell? ⟨G, i * 4 + 2, none⟩ = some (.slice va vn vc) ∧ vn ≤ 1000 ∧ SpotV w B E va vn
  kinds : ∃ ka kn kc, w.cell? ⟨G, i * 4 + 1, none⟩ = some (.slice ka kn kc) ∧ kn ≤ 1000 ∧ SpotK w B E ka kn
def SpotPs (w : World) (B E : Nat) (a : Option Addr) (n : Nat) : Prop := n = 0 ∨ ∃ G, a = some ⟨G, 0, none⟩ ∧ ∀ i, i < n → SpotP w B E G i
theorem ownV_spot {B E n c : Nat} {w : World} {a : Option Addr} {l : List Int} (h : CV.Own 2 B w (.slice a n c) l) (hE : w.heap.size ≤ E) (hl : l.length ≤ 1000) : n ≤ 1000 ∧ SpotV w B E a n := by
  obtain ⟨a', c', e, _, hA, _, _⟩ := h.at_ (Nat.le_trans hl (by decide))
  obtain ⟨_, ⟨e2, h0⟩ | ⟨g, cap, cur, e2, hg, hh, hnc, _, hs, ht⟩⟩ := h
  · cases e2
    exact ⟨Nat.zero_le _, .inl rfl⟩
  · cases e2
    refine ⟨hl, .inr ⟨g, rfl, fun k hk => ⟨hg, Nat.lt_of_lt_of_le (heap_lt hh) hE, ?_, frozen_of_row _ _ _ _ _ hh⟩⟩⟩
    cases e
    obtain ⟨B', off', e3, _, x, _, hc⟩ := hA.cell hk
    cases e3
    have := hc 0 (by decide)
    rw [show CV.k = 1 from rfl, Nat.mul_one, Nat.zero_add] at this
    exact ⟨x, this⟩
end Go.Proofs.YtclbbpkphfllbaaDoor
