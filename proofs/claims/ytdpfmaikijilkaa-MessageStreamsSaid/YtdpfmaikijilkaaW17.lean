/-
  The walk of pass, over the fields of a response; a panic is recovered.
-/
import Derived.Test.YtdpfmaikijilkaaW15
import Derived.Test.YtdpfmaikijilkaaW16
import Derived.Defers
import Derived.Recover
namespace Go.Proofs.Ytdpfmaikijilkaa
open Go Go.RowKit Go.Sort Go.Proofs

def passS : List FldS → Rs → Wi → Option (Rs × Wi)
  | [], q, S => some (q, S)
  | f :: t, q, S => (f q S).bind fun p => passS t p.1 p.2
theorem Cod.At.setV {w : World} {a : Option Addr} {n : Nat} {l : List Int} (h : CV.At w a n l) {B o : Nat} {u : Value} (hc : w.cell? ⟨B, o, none⟩ = some u) (hu : ∀ x, u ≠ .int .i64 x) (u' : Value) : CV.At (w.setCell ⟨B, o, none⟩ u') a n l := by
  obtain ⟨h1, h2, h3 | ⟨B', off, e, hB, hk⟩⟩ := h
  · exact ⟨h1, h2, .inl h3⟩
  · refine ⟨h1, h2, .inr ⟨B', off, e, by simpa [World.setCell] using hB, fun i hi c hc' => ?_⟩⟩
    have hk' := hk i hi c hc'
    have hne : (⟨B, o, none⟩ : Addr) ≠ ⟨B', off + i * CV.k + c, none⟩ := by
      intro e2
      rw [← e2, hc] at hk'
      obtain rfl : c = 0 := by have : c < 1 := hc'; omega
      have e3 : (CV.enc l[i])[0]? = some (.int .i64 l[i]) := rfl
      rw [e3] at hk'
      exact hu _ (Option.some.inj hk')
    rw [World.cell?_setCell_other _ _ _ _ hne]
    exact hk'
theorem catchS_idle (p : Addr) (w : World) :
    CallsD Try.prog 89 #[.pointer (some p)] .returning w fun e u' w' => e = .returned (.tuple #[]) ∧ u' = .returning ∧ w' = w := by
  refine callsD_of_wpS Try.func89 rfl fun c₀ cs hu => ?_
  apply wpS_seq
  apply wpS_region
  simp [wpOpsS, go_sem, recoverD, hu, Try.ntmps89, Exit.thenS]
  apply wpS_seq
  apply wpS_region
  simp [wpOpsS, go_sem, Exit.thenS, Array.replicate]
  refine wpS_cond (t := false) (by simp [Act.eval]) ?_
  simp only [Bool.false_eq_true, if_false]
  refine wpS_of_wp (wp_skip ?_)
  cases c₀
  simp_all [bodyPostS, results, Try.results89]
theorem catchS_panicking (R : Nat) (x : Value) (u : TypeId) (pv : Value) (older : List PanicEntry) (w : World) (h0 : w.heap[R]? = some (.cells #[x] 4)) :
    CallsD Try.prog 89 #[.pointer (some ⟨R, 0, none⟩)] (.panicking ({ v := .iface u pv, recovered := false } :: older)) w fun e u' w' =>
      e = .returned (.tuple #[]) ∧ u' = .panicking ({ v := .iface u pv, recovered := true } :: older) ∧ w' = w.setCell ⟨R, 0, none⟩ (.bool false) := by
  have c0 : w.cell? ⟨R, 0, none⟩ = some x := by rw [cell_of_row _ _ _ _ _ _ h0]; rfl
  have f0 : w.frozen? ⟨R, 0, none⟩ = false := frozen_of_row _ _ _ _ _ h0
  refine callsD_of_wpS Try.func89 rfl fun c₀ cs hu => ?_
  apply wpS_seq
  apply wpS_region
  simp [wpOpsS, go_sem, recoverD, hu, Try.ntmps89, Exit.thenS]
  apply wpS_seq
  apply wpS_region
  simp [wpOpsS, go_sem, Exit.thenS, Array.replicate]
  refine wpS_cond (t := true) (by simp [Act.eval]) ?_
  simp only [if_true]
  apply wpS_region
  simp [wpOpsS, go_sem, c0, f0, bodyPostS, results, Try.results89]
/-- a request and its wire, in memory -/
def SAt (N : Nat) (f1 f2 : FuncId) (P g M : Nat) (F : Nat → Prop) (q : Rs) (S : Wi) (K : Nat) (w : World) : Prop :=
  ∃ a cap, BAt f1 f2 w P g F S M 47 (RsC q (.slice a q.vars.length cap)) K ∧ q.vars.length ≤ cap ∧ CV.At w a q.vars.length q.vars ∧ (∀ p, a = some p → q.vars ≠ [] → (¬ F p.block ∧ p.block ≠ M) ∧ N ≤ p.block) ∧ N ≤ w.heap.size ∧ U32 q.id ∧ U32 q.num
section
variable {N : Nat} {f1 f2 : FuncId} {P g M : Nat} {F : Nat → Prop} {w w' : World} {q : Rs} {S : Wi} {K : Nat}
theorem SAt.mid (h : SAt N f1 f2 P g M F q S K w) : SMid N f1 f2 P g M F w q S K w := by
  obtain ⟨a, cap, h1, h2⟩ := h
  exact ⟨But.refl _ _, F, a, cap, fun _ e => .inl e, h1, h2⟩
theorem SMid.at_ (h : SMid N f1 f2 P g M F w q S K w') : ∃ F', (∀ b, F' b → F b ∨ w.heap.size ≤ b) ∧ SAt N f1 f2 P g M F' q S K w' := by
  obtain ⟨_, F', a, cap, h1, h2, h3⟩ := h
  exact ⟨F', h1, a, cap, h2, h3⟩
theorem SAt.lt (h : SAt N f1 f2 P g M F q S K w) : M < w.heap.size := by
  obtain ⟨a, cap, h1, _⟩ := h
  exact h1.lt
theorem SAt.ltF (h : SAt N f1 f2 P g M F q S K w) : ∀ b, F b → b < w.heap.size := by
  obtain ⟨a, cap, h1, _⟩ := h
  exact h1.wire.lt
theorem SAt.ltP (h : SAt N f1 f2 P g M F q S K w) : P < w.heap.size := by
  obtain ⟨a, cap, h1, _⟩ := h
  exact (Array.getElem?_eq_some_iff.1 h1.wire.box).1
theorem SAt.below (h : SAt N f1 f2 P g M F q S K w) (hb : Below w.heap.size w w') : SAt N f1 f2 P g M F q S K w' := by
  obtain ⟨a, cap, h1, h2, h3, h4, h5, h6⟩ := h
  exact ⟨a, cap, h1.below hb, h2, h3.below hb, h4, Nat.le_trans h5 hb.size, h6⟩
theorem SAt.mono {K' : Nat} (h : SAt N f1 f2 P g M F q S K w) (hK : K ≤ K') : SAt N f1 f2 P g M F q S K' w := by
  obtain ⟨a, cap, h1, h2⟩ := h
  exact ⟨a, cap, ⟨h1.wire, h1.box, h1.nf, h1.ne, Nat.le_trans h1.bd hK, h1.e1, h1.e2⟩, h2⟩
theorem SAt.set (h : SAt N f1 f2 P g M F q S K w) {B o : Nat} {u : Value} (hc : w.cell? ⟨B, o, none⟩ = some u) (hu : ∀ x, u ≠ .int .u8 x) (hu2 : ∀ x, u ≠ .int .i64 x) (hF : ¬ F B) (hP : B ≠ P) (hM : B ≠ M) (u' : Value) : SAt N f1 f2 P g M F q S K (w.setCell ⟨B, o, none⟩ u') := by
  obtain ⟨a, cap, h1, h2, h3, h4, h5, h6⟩ := h
  have hbs : But (fun k => k = B) w (w.setCell ⟨B, o, none⟩ u') := (But.refl (fun k => k = B) _).setCell (p := ⟨B, o, none⟩) rfl _
  exact ⟨a, cap, ⟨h1.wire.set hc hu hF hP u', (hbs.block M h1.lt (Ne.symm hM)).trans h1.box, h1.nf, h1.ne, h1.bd, h1.e1, h1.e2⟩, h2, h3.setV hc hu2 u', h4, Nat.le_trans h5 hbs.size, h6⟩
end
def PassS (N : Nat) (f1 f2 : FuncId) (P g M : Nat) (F : Nat → Prop) (w : World) (K : Nat) (r : Option (Rs × Wi)) (e : Ending) (w' : World) : Prop :=
  But (fun k => F k ∨ k = M) w w' ∧ match r with
    | none => e = .returned (.bool false)
    | some (q, S) => e = .returned (.bool true) ∧ ∃ F', (∀ b, F' b → F b ∨ w.heap.size ≤ b) ∧ SAt N f1 f2 P g M F' q S K w'
def PRelS (N : Nat) (f1 f2 : FuncId) (P g M : Nat) (F : Nat → Prop) (w1 : World) (K n : Nat) (sems : List FldS) (q : Rs) (S : Wi) (vs : Value) (wr : World) : Prop :=
  ∃ (i k : Nat) (qi : Rs) (Si : Wi), vs = .int .i64 (i : Int) ∧ i + k = n ∧ passS sems q S = passS (sems.drop i) qi Si ∧ SMid N f1 f2 P g M F w1 qi Si (K + 5000 * i) wr

set_option maxHeartbeats 2000000 in
set_option maxRecDepth 100000 in
theorem passS_any (fs : List (FuncId × FldS)) (hfs : ∀ x ∈ fs, FieldS x.1 x.2) (hent : ∀ x ∈ fs, ∀ args w, Sem.run Try.prog (callFunc x.1 args) w = .ok (.enter x.1 args) w)
    {N : Nat} {f1 f2 : FuncId} {P g M : Nat} {F : Nat → Prop} {w : World} {q : Rs} {S : Wi} {K : Nat} (h : SAt N f1 f2 P g M F q S K w) (hK : K ≤ 900000) (a : Option Addr) (c : Nat) (hl : fs.length ≤ 10) (hrow : CF.At w a fs.length (fs.map (·.1))) (hrF : ∀ p, a = some p → fs ≠ [] → ¬ F p.block ∧ p.block ≠ M) :
    Calls Try.prog 71 #[wv f1 f2 P, .pointer (some ⟨M, 0, none⟩), .slice a fs.length c] w (PassS N f1 f2 P g M F w (K + 50000) (passS (fs.map (·.2)) q S)) := by
  have hmf : ∀ (fn : Fn) (first cap : Array Value) (w : World), (Instr.makeFunc fn first cap).run Try.prog w = .ok (.func fn first cap) w := fun _ _ _ _ => rfl
  obtain ⟨w1, hw1⟩ : ∃ w1, w1 = (w.alloc (wbox f1 f2 P)).alloc (.cells #[.bool false] 4) := ⟨_, rfl⟩
  have hlow : Below w.heap.size w w1 := by rw [hw1]; exact ((Below.refl _ _).alloc (Nat.le_refl _) _).alloc (by simp) _
  have hz1 : w1.heap.size = w.heap.size + 2 := by rw [hw1]; simp
  have ho0 : w1.heap[w.heap.size]? = some (wbox f1 f2 P) := by rw [hw1, heap_alloc_old _ _ (by simp), heap_alloc_new]
  have ho1 : w1.heap[w.heap.size + 1]? = some (.cells #[.bool false] 4 (0, 0)) := by
    have := heap_alloc_new (w.alloc (wbox f1 f2 P)) (.cells #[.bool false] 4 (0, 0))
    rw [World.size_alloc] at this
    rw [hw1, this]
  obtain ⟨n, hn⟩ : ∃ n, n = fs.length := ⟨_, rfl⟩
  rw [← hn]
  have hq1 := (h.below hlow)
  have hlt := h.lt
  have hltF := h.ltF
  have hltP := h.ltP
  have hrow1 := hrow.below hlow
  -- what stands throughout
  have hkeep : ∀ (qi : Rs) (Si : Wi) (Ki : Nat) (wr : World), SMid N f1 f2 P g M F w1 qi Si Ki wr → wr.heap[w.heap.size]? = some (wbox f1 f2 P) ∧ wr.heap[w.heap.size + 1]? = some (.cells #[.bool false] 4 (0, 0)) ∧ CF.At wr a fs.length (fs.map (·.1)) := fun qi Si Ki wr hm => by
    refine ⟨(hm.1.block _ (by omega) fun e => e.elim (fun e => by have := hltF _ e; omega) (by omega)).trans ho0, (hm.1.block _ (by omega) fun e => e.elim (fun e => by have := hltF _ e; omega) (by omega)).trans ho1, hrow1.but' hm.1 fun p e e2 _ e3 => ?_⟩
    have hne : fs ≠ [] := fun e4 => e2 (by rw [e4]; rfl)
    exact e3.elim (hrF p e hne).1 (hrF p e hne).2
  have HQ1 := Lib.hid hq1
  have HO1 := Lib.hid ho1
  have HKP := Lib.hid hkeep
  have HN := Lib.hid hn
  have HW1 := Lib.hid hw1
  have HLT := Lib.hid (And.intro hlt (And.intro hltF (And.intro hltP (And.intro hlow hz1))))
  have HFS := Lib.hid hfs
  have HEN := Lib.hid hent
  have hn10 : n ≤ 10 := by omega
  clear h hrow hrF hrow1 hkeep hq1 hn hw1 hlt hltF hltP hlow hz1 ho0 ho1 hfs hent hl
  go_enter_defers Try.func71, Try.ntmps71
  go_wp2_with fail
  rw [← HW1.out]
  go_loopw [12] (fun vs wr => PRelS N f1 f2 P g M F w1 K n (fs.map (·.2)) q S vs wr) (fun v _ => ((n : Int) - intOf v).toNat)
  case atStart => exact ⟨0, n, q, S, rfl, by omega, by simp, HQ1.out.mid⟩
  case round =>
    obtain ⟨i, k, qi, Si, rfl, hik, hpq, hmid⟩ := hrel
    obtain ⟨o0, o1, hrow⟩ := HKP.out _ _ _ _ hmid
    have a1 : wr.cell? ⟨w.heap.size, 0, none⟩ = some (.func (.func f1) #[] #[.pointer (some ⟨P, 0, none⟩)]) := by rw [cell_of_row _ _ _ _ _ _ o0]; rfl
    have b1 : wr.cell? ⟨w.heap.size, 1, none⟩ = some (.func (.func f2) #[] #[.pointer (some ⟨P, 0, none⟩)]) := by rw [cell_of_row _ _ _ _ _ _ o0]; rfl
    have k1 : wr.cell? ⟨w.heap.size + 1, 0, none⟩ = some (.bool false) := by rw [cell_of_row _ _ _ _ _ _ o1]; rfl
    have g1 : wr.frozen? ⟨w.heap.size + 1, 0, none⟩ = false := frozen_of_row _ _ _ _ _ o1
    have hl1 := (Array.getElem?_eq_some_iff.1 o1).1
    rcases k with _ | k
    · obtain rfl : i = n := by omega
      have HMID := Lib.hid hmid
      have HPQ := Lib.hid hpq
      clear hmid hpq o0 o1 hrow
      go_wp2
      refine leaves_cons (f := 89) (args := #[.pointer (some ⟨w.heap.size + 1, 0, none⟩)]) (by simp) (by simp [go_sem]) ?_
      refine (catchS_idle _ _).mono ?_
      rintro e u' w'' ⟨rfl, rfl, rfl⟩
      have k2 : (wr.setCell ⟨w.heap.size + 1, 0, none⟩ (.bool true)).cell? ⟨w.heap.size + 1, 0, none⟩ = some (.bool true) := World.cell?_setCell_same _ _ _ k1
      simp [Leaves, settle, results, Try.results71, go_sem, k2]
      obtain ⟨hlt, hltF, hltP, hlow, hz1⟩ := HLT.out
      obtain ⟨F', hsub, hat⟩ := HMID.out.at_
      rw [HPQ.out, List.drop_of_length_le (by rw [List.length_map]; exact Nat.le_of_eq HN.out.symm)]
      have hb := (But.of hlow).next HMID.out.1 (S := fun k => F k ∨ k = M) (fun j hj e => e)
      refine ⟨hb.next (T := fun k => k = w.heap.size + 1) ((But.refl (fun k => k = w.heap.size + 1) wr).setCell (p := ⟨w.heap.size + 1, 0, none⟩) rfl _) (fun j hj e => by omega), rfl, F', fun b e => (hsub b e).imp_right (by omega), ?_⟩
      exact (hat.set k1 (fun x e => by cases e) (fun x e => by cases e) (fun e => (hsub _ e).elim (fun e => by have := hltF _ e; omega) (by omega)) (by omega) (by omega) _).mono (by omega)
    · obtain ⟨fn, sem, hx⟩ : ∃ fn : FuncId, ∃ sem : FldS, fs[i]? = some (fn, sem) := ⟨_, _, List.getElem?_eq_getElem (by have := HN.out; omega)⟩
      have hmem := List.mem_of_getElem? hx
      have hent := HEN.out _ hmem
      have hcall := HFS.out _ hmem N f1 f2 P g M F w1 qi Si (K + 5000 * i) wr hmid (by omega)
      have hin : i < n := by omega
      obtain ⟨B, off, rfl, hBl, x, hxx, hcell⟩ := hrow.cell (i := i) (by have := HN.out; omega)
      have hx2 : x = fn := by
        rw [List.getElem?_map, hx] at hxx
        simpa using hxx.symm
      subst hx2
      have hc0 : wr.cell? ⟨B, off + i, none⟩ = some (.func (.func x) #[] #[]) := by
        have := hcell 0 (by decide)
        rw [show off + i * CF.k + 0 = off + i by show off + i * 1 + 0 = _; omega] at this
        exact this
      have hdrop : (fs.map (·.2)).drop i = sem :: (fs.map (·.2)).drop (i + 1) := by
        have h1 : (fs.map (·.2))[i]? = some sem := by rw [List.getElem?_map, hx]; rfl
        obtain ⟨h2, h3⟩ := List.getElem?_eq_some_iff.1 h1
        rw [List.drop_eq_getElem_cons h2, h3]
      rw [hdrop] at hpq
      have HPQ := Lib.hid hpq
      have HMID := Lib.hid hmid
      dsimp only at hcall hent
      clear hrow hcell hxx hdrop hpq hmid hmem o0 o1
      cases hq : sem qi Si with
      | none =>
        rw [hq] at hcall
        have HC := Lib.hid hcall
        clear hcall
        go_wp2_with (first
          | (refine HC.out.mono ?_; rintro e w8 ⟨hb8, rfl⟩))
        obtain ⟨hlt, hltF, hltP, hlow, hz1⟩ := HLT.out
        have h0 : w8.heap[w.heap.size + 1]? = some (.cells #[.bool false] 4 (0, 0)) := (hb8.block _ (by omega) fun e => e.elim (fun e => by have := hltF _ e; omega) (by omega)).trans HO1.out
        refine leaves_cons (f := 89) (args := #[.pointer (some ⟨w.heap.size + 1, 0, none⟩)]) (by simp) (by simp [go_sem]) ?_
        refine (catchS_panicking (w.heap.size + 1) _ 34 _ [] _ h0).mono ?_
        rintro e u' w'' ⟨rfl, rfl, rfl⟩
        have k8 : w8.cell? ⟨w.heap.size + 1, 0, none⟩ = some (.bool false) := by rw [cell_of_row _ _ _ _ _ _ h0]; rfl
        have k2 : (w8.setCell ⟨w.heap.size + 1, 0, none⟩ (.bool false)).cell? ⟨w.heap.size + 1, 0, none⟩ = some (.bool false) := World.cell?_setCell_same _ _ _ k8
        simp [Leaves, settle, results, Try.results71, go_sem, k2]
        rw [HPQ.out]
        simp only [passS, hq, Option.bind_none]
        exact ⟨((But.of hlow).next hb8 (S := fun k => F k ∨ k = M) (fun j hj e => e)).next (T := fun k => k = w.heap.size + 1) ((But.refl (fun k => k = w.heap.size + 1) w8).setCell (p := ⟨w.heap.size + 1, 0, none⟩) rfl _) (fun j hj e => by omega), rfl⟩
      | some r =>
        obtain ⟨q', S'⟩ := r
        rw [hq] at hcall
        have HC := Lib.hid hcall
        have HQ2 := Lib.hid hq
        clear hcall hq
        go_wp2_with (first
          | (refine HC.out.mono ?_; rintro e w8 ⟨rfl, hm8⟩; have HM8 := Lib.hid hm8; clear hm8))
        go_roundw
        case rel =>
          exact ⟨i + 1, k, q', S', by simp, by omega, by rw [HPQ.out]; simp only [passS, HQ2.out, Option.bind_some], HM8.out⟩
        case measure => simp [intOf]; omega
end Go.Proofs.Ytdpfmaikijilkaa
