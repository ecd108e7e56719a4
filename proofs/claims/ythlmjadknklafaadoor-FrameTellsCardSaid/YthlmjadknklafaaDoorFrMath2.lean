/-
  Frames against their encoding: what is told, encoded, is what came; texts of bytes are the same only if the bytes are.
-/
import Derived.Test.YthlmjadknklafaaDoorMem
namespace FrM
open CrcM

theorem enc_eq (r : List Nat) (hb : ∀ x ∈ r, x < 256) (h : 6 + len r ≤ r.length) :
    enc ((r.drop 6).take (len r)) = r.take (6 + len r) ↔ num ((r.drop 2).take 4) = more 0 ((r.drop 6).take (len r)) := by
  obtain ⟨a, b, c, d, e, f, t, rfl⟩ : ∃ a b c d e f t, r = a :: b :: c :: d :: e :: f :: t := by
    rcases r with _ | ⟨a, _ | ⟨b, _ | ⟨c, _ | ⟨d, _ | ⟨e, _ | ⟨f, t⟩⟩⟩⟩⟩⟩
    case cons.cons.cons.cons.cons.cons => exact ⟨a, b, c, d, e, f, t, rfl⟩
    all_goals (simp only [List.length_cons, List.length_nil] at h; omega)
  · have ha := hb a (by simp)
    have hb' := hb b (by simp)
    have hc := hb c (by simp)
    have hd := hb d (by simp)
    have he := hb e (by simp)
    have hf := hb f (by simp)
    have hl : len (a :: b :: c :: d :: e :: f :: t) = 256 * a + b := by simp [len]
    rw [hl] at h ⊢
    simp only [List.length_cons] at h
    have hm := more_lt 0 (((a :: b :: c :: d :: e :: f :: t).drop 6).take (256 * a + b)) (by decide) (fun x hx => hb x (List.mem_of_mem_drop (List.mem_of_mem_take hx)))
    have hpl : (((a :: b :: c :: d :: e :: f :: t).drop 6).take (256 * a + b)).length = 256 * a + b := by
      rw [List.length_take]; simp; omega
    have hn : num (((a :: b :: c :: d :: e :: f :: t).drop 2).take 4) = 256 * (256 * (256 * c + d) + e) + f := by simp [num]
    have ht : (a :: b :: c :: d :: e :: f :: t).take (6 + (256 * a + b)) = [a, b, c, d, e, f] ++ t.take (256 * a + b) := by
      rw [Nat.add_comm]; simp
    rw [hn, ht]
    simp only [enc, hpl]
    simp only [List.drop_succ_cons, List.drop_zero] at hm ⊢
    unfold top at hm
    generalize more 0 (t.take (256 * a + b)) = M at hm ⊢
    constructor
    · intro e1
      simp at e1
      omega
    · intro e1
      congr 1
      simp
      omega

theorem enc_bytes (p : List Nat) (hb : ∀ x ∈ p, x < 256) (hl : p.length ≤ 4096) : ∀ z ∈ enc p, z < 256 := by
  have hm := more_lt 0 p (by decide) hb
  unfold top at hm
  intro z hz
  unfold enc at hz
  rcases List.mem_append.1 hz with hz | hz
  · simp at hz
    omega
  · exact hb z hz
theorem enc_length (p : List Nat) : (enc p).length = 6 + p.length := by simp [enc]; omega

theorem enc_got {r : List Nat} {n : Nat} (hb : ∀ x ∈ r, x < 256) (h : look r = .got n) : enc ((r.drop 6).take n) = r.take (6 + n) := by
  obtain ⟨rfl, _, _, h3, h4⟩ := look_got h
  exact (enc_eq r hb h3).2 h4

theorem Got.enc {l : List Nat} (hb : ∀ x ∈ l, x < 256) {ps : List (List Nat)} {k : Nat} (h : Got l ps k) : (ps.map FrM.enc).flatten = l.take k := by
  induction h with
  | none => simp
  | more h hl ih =>
    rw [List.map_append, List.flatten_append, ih]
    simp only [List.map_cons, List.map_nil, List.flatten_cons, List.flatten_nil, List.append_nil]
    rw [enc_got (fun x hx => hb x (List.mem_of_mem_drop hx)) hl]
    exact (List.take_add).symm

theorem Got.each {l : List Nat} {ps : List (List Nat)} {k : Nat} (h : Got l ps k) : ∀ p ∈ ps, 1 ≤ p.length ∧ p.length ≤ 4096 := by
  induction h with
  | none => simp
  | more h hl ih =>
    intro p hp
    rcases List.mem_append.1 hp with hp | hp
    · exact ih p hp
    · obtain ⟨_, h1, h2, h3, _⟩ := look_got hl
      simp at hp
      subst hp
      rw [List.length_drop] at h3
      simp
      omega
end FrM
namespace Go.Proofs.YthlmjadknklafaaDoor
open Go.RowKit CrcM FrM
theorem strOf_inj {l m : List Nat} (hl : ∀ x ∈ l, x < 256) (hm : ∀ x ∈ m, x < 256) (h : (strOf l).toList = (strOf m).toList) : l = m := by
  have hd : ∀ l : List Nat, (strOf l).toList = l.map fun n => UInt8.ofNat n := by
    intro l
    have h1 : (strOf l).data.toList = l.map fun n => UInt8.ofNat n := by
      unfold strOf
      rw [strOfNums_data, List.map_map]
      rfl
    rw [← h1]
    exact ByteArray.toList_eq _
  rw [hd, hd] at h
  have hlen : l.length = m.length := by simpa using congrArg List.length h
  refine List.ext_getElem hlen fun i h1 h2 => ?_
  have e : (l.map fun n => UInt8.ofNat n)[i]? = (m.map fun n => UInt8.ofNat n)[i]? := by rw [h]
  simp [h1, h2] at e
  have a1 := hl _ (List.getElem_mem h1)
  have a2 := hm _ (List.getElem_mem h2)
  have := congrArg UInt8.toNat e
  simp at this
  omega
end Go.Proofs.YthlmjadknklafaaDoor
