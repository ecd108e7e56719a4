/-
  Plain mathematics: what a run leaves true. No program is named here.
-/
import Derived.Test.YthhpoihfaggafaaDoorVMath
namespace VmM
open CodM

/-- what is sent, one by one -/
def SentOk (m : Mch) (e : Ev) (s0 : Int) (l : List Ev) : Prop := ∀ k (h : k < l.length), e.time < l[k].time ∧ l[k].time ≤ 1099511627776 ∧ l[k].org = m.self ∧ l[k].seq = s0 + k ∧ 1 ≤ l[k].to ∧ l[k].to ≤ m.procs
/-- what is told, one by one -/
def ToldOk (m : Mch) (e : Ev) (l : List Rc) : Prop := ∀ k (h : k < l.length), l[k].time = e.time ∧ l[k].org = e.org ∧ l[k].seq = e.seq ∧ l[k].proc = m.self ∧ l[k].nth = k
/-- behind n instructions -/
structure Inv (m : Mch) (e : Ev) (p : Ps) (n : Nat) (s : Run) : Prop where
  vars : s.vars.length = p.vars.length
  sends : SentOk m e p.sent s.sends
  ls : s.sends.length ≤ 4
  sent : s.sent = p.sent + s.sends.length
  tells : ToldOk m e s.tells
  lt : s.tells.length ≤ 4
  drawn : p.drawn ≤ s.drawn ∧ s.drawn ≤ p.drawn + n
/-- the stack, the place alone differ, and variables' values -/
structure Alike (s t : Run) : Prop where
  vars : t.vars.length = s.vars.length
  sends : t.sends = s.sends
  sent : t.sent = s.sent
  drawn : t.drawn = s.drawn
  tells : t.tells = s.tells
theorem Alike.refl (s : Run) : Alike s s := ⟨rfl, rfl, rfl, rfl, rfl⟩
theorem Alike.trans {s t u : Run} (h : Alike s t) (k : Alike t u) : Alike s u := ⟨k.vars.trans h.vars, k.sends.trans h.sends, k.sent.trans h.sent, k.drawn.trans h.drawn, k.tells.trans h.tells⟩
theorem alike_push (n : Int) (s : Run) : Alike s (push n s) := by unfold push; split <;> exact ⟨rfl, rfl, rfl, rfl, rfl⟩
theorem alike_drop (s : Run) : Alike s (drop s) := ⟨rfl, rfl, rfl, rfl, rfl⟩
theorem alike_two (f : Int → Int → Int) (s : Run) : Alike s (two f s) := ((alike_drop s).trans (alike_drop _)).trans (alike_push _ _)
theorem alike_next (s : Run) (k : Nat) : Alike s { s with next := k } := ⟨rfl, rfl, rfl, rfl, rfl⟩
theorem alike_set (k : Nat) (v : Int) (s : Run) : Alike s (setVar k v s) := ⟨by simp [setVar], rfl, rfl, rfl, rfl⟩
theorem Inv.alike {m : Mch} {e : Ev} {p : Ps} {n : Nat} {s t : Run} (h : Inv m e p n s) (k : Alike s t) : Inv m e p (n + 1) t := by
  refine ⟨k.vars.trans h.vars, by rw [k.sends]; exact h.sends, by rw [k.sends]; exact h.ls, by rw [k.sends, k.sent]; exact h.sent, by rw [k.tells]; exact h.tells, by rw [k.tells]; exact h.lt, by rw [k.drawn]; exact h.drawn.1, ?_⟩
  rw [k.drawn]
  have := h.drawn.2
  omega
theorem w64_small (n : Int) (h : -9223372036854775808 ≤ n ∧ n < 9223372036854775808) : w64 n = n := by unfold w64; omega
theorem inv_send {m : Mch} {e : Ev} {p : Ps} {n : Nat} {s : Run} (h : Inv m e p n s) (k : Int) (h0 : 0 ≤ p.sent ∧ p.sent ≤ 4611686018427387904) : Inv m e p (n + 1) (send m e k s) := by
  have hd : Alike s (drop (drop (drop s))) := ((alike_drop s).trans (alike_drop _)).trans (alike_drop _)
  unfold send
  dsimp only
  split
  · exact h.alike hd
  · rename_i hc
    have hm : mayE m.procs (sentBy m e k s) = true := by
      cases hx : mayE m.procs (sentBy m e k s) with
      | true => rfl
      | false => exact absurd (.inr hx) hc
    have hl : s.sends.length < 4 := by
      have h4 := h.ls
      have : ¬ s.sends.length = 4 := fun h => hc (.inl h)
      omega
    unfold mayE at hm
    simp only [decide_eq_true_eq] at hm
    have hs := h.sent
    refine ⟨h.vars, ?_, by simp; omega, ?_, h.tells, h.lt, h.drawn.1, by have := h.drawn.2; show s.drawn ≤ _; omega⟩
    · intro j hj
      by_cases hj2 : j < s.sends.length
      · have := h.sends j hj2
        simpa [List.getElem_append_left hj2] using this
      · have hj3 : j = s.sends.length := by simp at hj; omega
        subst hj3
        have e1 : (s.sends ++ [sentBy m e k s])[s.sends.length] = sentBy m e k s := by simp
        show e.time < ((s.sends ++ [sentBy m e k s])[s.sends.length]).time ∧ _
        rw [e1]
        refine ⟨?_, hm.2.1, rfl, hs, hm.2.2.2.2.2.2.1, hm.2.2.2.2.2.2.2.1⟩
        show e.time < e.time + delay (top (drop s))
        unfold delay
        omega
    · show w64 (s.sent + 1) = p.sent + ((s.sends ++ [sentBy m e k s]).length : Int)
      rw [w64_small _ (by omega), hs]
      simp
      omega
theorem inv_tell {m : Mch} {e : Ev} {p : Ps} {n : Nat} {s : Run} (h : Inv m e p n s) : Inv m e p (n + 1) (tell m e s) := by
  unfold tell
  dsimp only
  split
  · exact h.alike (alike_drop s)
  · rename_i hc
    have hl := h.lt
    refine ⟨h.vars, h.sends, h.ls, h.sent, ?_, by simp; omega, h.drawn.1, by have := h.drawn.2; show s.drawn ≤ _; omega⟩
    intro j hj
    by_cases hj2 : j < s.tells.length
    · have := h.tells j hj2
      simpa [List.getElem_append_left hj2] using this
    · have hj3 : j = s.tells.length := by simp at hj; omega
      subst hj3
      simp
theorem inv_ite {m : Mch} {e : Ev} {p : Ps} {n : Nat} {c : Prop} [Decidable c] {a b : Run} (ha : Inv m e p n a) (hb : Inv m e p n b) : Inv m e p n (if c then a else b) := by
  by_cases h : c
  · rw [if_pos h]; exact ha
  · rw [if_neg h]; exact hb
theorem inv_drawn {m : Mch} {e : Ev} {p : Ps} {n : Nat} {s : Run} (h : Inv m e p n s) (hd : 0 ≤ p.drawn ∧ p.drawn + n + 1 < 9223372036854775808) (v : Int) : Inv m e p (n + 1) { push v s with drawn := w64 (s.drawn + 1) } := by
  have k := alike_push v s
  have hw := h.drawn
  have e1 : w64 (s.drawn + 1) = s.drawn + 1 := w64_small _ (by omega)
  refine ⟨k.vars.trans h.vars, ?_, ?_, ?_, ?_, ?_, ?_, ?_⟩
  · show SentOk m e p.sent (push v s).sends
    rw [k.sends]; exact h.sends
  · show (push v s).sends.length ≤ 4
    rw [k.sends]; exact h.ls
  · show (push v s).sent = p.sent + ((push v s).sends.length : Int)
    rw [k.sends, k.sent]; exact h.sent
  · show ToldOk m e (push v s).tells
    rw [k.tells]; exact h.tells
  · show (push v s).tells.length ≤ 4
    rw [k.tells]; exact h.lt
  · show p.drawn ≤ w64 (s.drawn + 1)
    rw [e1]; omega
  · show w64 (s.drawn + 1) ≤ p.drawn + ((n + 1 : Nat) : Int)
    rw [e1]; omega
theorem inv_op {m : Mch} {e : Ev} {p : Ps} {n : Nat} {s : Run} (h : Inv m e p n s) (h0 : 0 ≤ p.sent ∧ p.sent ≤ 4611686018427387904) (hd : 0 ≤ p.drawn ∧ p.drawn + n + 1 < 9223372036854775808) (len : Nat) (x : Ins) : Inv m e p (n + 1) (op m e len x s) := by
  delta op
  refine inv_ite (h.alike (alike_push _ _)) ?_
  refine inv_ite (h.alike (alike_push _ _)) ?_
  refine inv_ite (h.alike ((alike_drop s).trans (alike_set _ _ _))) ?_
  refine inv_ite (h.alike (alike_push _ _)) ?_
  refine inv_ite (h.alike (alike_push _ _)) ?_
  refine inv_ite (h.alike (alike_push _ _)) ?_
  refine inv_ite (inv_drawn h hd _) ?_
  refine inv_ite (h.alike (alike_two _ _)) ?_
  refine inv_ite (h.alike (alike_two _ _)) ?_
  refine inv_ite (h.alike (alike_two _ _)) ?_
  refine inv_ite (h.alike (alike_two _ _)) ?_
  refine inv_ite (h.alike (alike_two _ _)) ?_
  refine inv_ite (h.alike (alike_next _ _)) ?_
  refine inv_ite (inv_ite (h.alike ((alike_drop s).trans (alike_next _ _))) (h.alike (alike_drop s))) ?_
  refine inv_ite (inv_send h _ h0) ?_
  refine inv_ite (inv_tell h) ?_
  exact h.alike (alike_next _ _)
theorem Inv.mono {m : Mch} {e : Ev} {p : Ps} {n k : Nat} {s : Run} (h : Inv m e p n s) (hk : n ≤ k) : Inv m e p k s := ⟨h.vars, h.sends, h.ls, h.sent, h.tells, h.lt, h.drawn.1, by have := h.drawn.2; omega⟩
theorem Inv.at_ {m : Mch} {e : Ev} {p : Ps} {n : Nat} {s : Run} (h : Inv m e p n s) (k : Nat) : Inv m e p n { s with next := k } := ⟨h.vars, h.sends, h.ls, h.sent, h.tells, h.lt, h.drawn⟩
theorem inv_go {m : Mch} {e : Ev} {p : Ps} (h0 : 0 ≤ p.sent ∧ p.sent ≤ 4611686018427387904) (code : List Ins) : ∀ (f n : Nat) (s : Run), Inv m e p n s → (0 ≤ p.drawn ∧ p.drawn + n + f < 9223372036854775808) → Inv m e p (n + f) (go m e code f s)
  | 0, n, s, h, _ => h
  | f + 1, n, s, h, hd => by
    unfold go
    split
    · have h1 := inv_op (h.at_ (s.next + 1)) h0 (by omega) code.length (code.getD s.next (0, 0))
      have h2 := inv_go h0 code f (n + 1) _ h1 (by omega)
      rw [show n + 1 + f = n + (f + 1) by omega] at h2
      exact h2
    · exact h.mono (by omega)
/-- what a run leaves true -/
theorem run_inv (m : Mch) (p : Prg) (s : Ps) (e : Ev) (h0 : 0 ≤ s.sent ∧ s.sent ≤ 4611686018427387904) (hd : 0 ≤ s.drawn ∧ s.drawn ≤ 4611686018427387904) :
    (run m p s e).st.vars.length = s.vars.length ∧ SentOk m e s.sent (run m p s e).sends ∧ (run m p s e).sends.length ≤ 4 ∧ (run m p s e).st.sent = s.sent + (run m p s e).sends.length ∧ ToldOk m e (run m p s e).tells ∧ (run m p s e).tells.length ≤ 4 ∧ s.drawn ≤ (run m p s e).st.drawn ∧ (run m p s e).st.drawn ≤ s.drawn + 256 := by
  have hi : Inv m e s 0 (start s) := ⟨rfl, fun k h => absurd h (Nat.not_lt_zero k), by show 0 ≤ 4; omega, by show s.sent = s.sent + ((0 : Nat) : Int); omega, fun k h => absurd h (Nat.not_lt_zero k), by show 0 ≤ 4; omega, by show s.drawn ≤ s.drawn; omega, by show s.drawn ≤ s.drawn + ((0 : Nat) : Int); omega⟩
  have h := inv_go h0 (codeOf p e.kind) 256 0 (start s) hi (by omega)
  have h2 := h.drawn
  refine ⟨h.vars, h.sends, h.ls, h.sent, h.tells, h.lt, h2.1, ?_⟩
  show (go m e (codeOf p e.kind) 256 (start s)).drawn ≤ _
  omega
end VmM
