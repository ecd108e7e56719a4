/-
  The mathematics of a pace: how far it goes, and the least reading at which it has gone so far. No program is named.
-/
import Init.Data.Int.DivMod.Lemmas
namespace Go.Proofs.Ytpcnfefeeolbpaa

/-- a pace: where it starts, since when, its rate, and its clock -/
structure Pc where
  st : Int
  ba : Int
  nu : Int
  de : Int
  cl : Int
deriving DecidableEq

structure Pc.Ok (p : Pc) : Prop where
  st0 : 0 ≤ p.st
  st1 : p.st ≤ 1099511627776
  ba0 : 0 ≤ p.ba
  ba1 : p.ba ≤ p.cl
  nu0 : 0 ≤ p.nu
  nu1 : p.nu ≤ 1048576
  de0 : 1 ≤ p.de
  de1 : p.de ≤ 1048576
  cl1 : p.cl ≤ 9223372036854775807

/-- what goes by a rate, and not beyond a bound -/
def scal (n nu de most : Int) : Int := min (n * nu / de) most

def Pc.gone (p : Pc) : Int := scal (p.cl - p.ba) p.nu p.de (1099511627776 - p.st)
def Pc.hz (p : Pc) : Int := p.st + p.gone
def Pc.tick (p : Pc) (c : Int) : Pc := { p with cl := max p.cl c }
def rateBad (nu de : Int) : Bool := decide (de < 1) || decide (1048576 < de) || decide (nu < 0) || decide (1048576 < nu)
def Pc.rate (p : Pc) (nu de : Int) : Pc := ⟨p.hz, p.cl, nu, de, p.cl⟩
def pc0 : Pc := ⟨0, 0, 0, 1, 0⟩

theorem pc0_ok : pc0.Ok := by constructor <;> decide

theorem scal_bd (n nu de most : Int) (hn : 0 ≤ n) (h0 : 0 ≤ nu) (hd : 1 ≤ de) (hm : 0 ≤ most) : 0 ≤ scal n nu de most ∧ scal n nu de most ≤ most := by
  unfold scal
  have : 0 ≤ n * nu / de := Int.ediv_nonneg (Int.mul_nonneg hn h0) (by omega)
  omega

theorem Pc.Ok.gone_bd {p : Pc} (h : p.Ok) : 0 ≤ p.gone ∧ p.gone ≤ 1099511627776 - p.st :=
  scal_bd _ _ _ _ (by have := h.ba1; omega) h.nu0 h.de0 (by have := h.st1; omega)

theorem Pc.Ok.hz_bd {p : Pc} (h : p.Ok) : p.st ≤ p.hz ∧ 0 ≤ p.hz ∧ p.hz ≤ 1099511627776 := by
  have := h.gone_bd; have := h.st0; unfold Pc.hz; omega

theorem Pc.Ok.tick {p : Pc} (h : p.Ok) (c : Int) (hc : c ≤ 9223372036854775807) : (p.tick c).Ok := by
  obtain ⟨h1, h2, h3, h4, h5, h6, h7, h8, h9⟩ := h
  constructor <;> simp only [Pc.tick] <;> omega

theorem Pc.Ok.rate {p : Pc} (h : p.Ok) (nu de : Int) (hb : rateBad nu de = false) : (p.rate nu de).Ok := by
  have hz := h.hz_bd
  simp [rateBad] at hb
  obtain ⟨h1, h2, h3, h4, h5, h6, h7, h8, h9⟩ := h
  constructor <;> simp only [Pc.rate] <;> omega

theorem scal_mono {n n' nu de most : Int} (h : n ≤ n') (h0 : 0 ≤ nu) (hd : 1 ≤ de) : scal n nu de most ≤ scal n' nu de most := by
  unfold scal
  have : n * nu / de ≤ n' * nu / de := Int.ediv_le_ediv (by omega) (Int.mul_le_mul_of_nonneg_right h h0)
  omega

theorem Pc.Ok.hz_tick {p : Pc} (h : p.Ok) (c : Int) : p.hz ≤ (p.tick c).hz := by
  have := scal_mono (n := p.cl - p.ba) (n' := max p.cl c - p.ba) (most := 1099511627776 - p.st) (by omega) h.nu0 h.de0
  unfold Pc.hz Pc.gone Pc.tick
  simp only
  omega

/-- setting a rate does not change the horizon -/
theorem Pc.Ok.hz_rate {p : Pc} (h : p.Ok) (nu de : Int) : (p.rate nu de).hz = p.hz := by
  have hz := h.hz_bd
  have e : (p.rate nu de).hz = p.hz + scal (p.cl - p.cl) nu de (1099511627776 - p.hz) := rfl
  have e0 : scal (p.cl - p.cl) nu de (1099511627776 - p.hz) = 0 := by
    unfold scal
    rw [Int.sub_self, Int.zero_mul, Int.zero_ediv]; omega
  omega

theorem tick_tick (p : Pc) (a b : Int) : (p.tick a).tick b = p.tick (max a b) := by
  simp only [Pc.tick]; congr 1; omega

/-- the reading at which a time is reached -/
def Pc.after (p : Pc) (t : Int) : Int := ((t - p.st) * p.de + p.nu - 1) / p.nu
def Pc.wait (p : Pc) (t : Int) : Int × Bool :=
  if 1099511627776 < t then (0, false) else if t ≤ p.hz then (p.cl, true) else if p.nu = 0 then (0, false)
  else if 9223372036854775807 - p.ba < p.after t then (0, false) else (p.ba + p.after t, true)

/-- at a clock the horizon is a time at least just if as much as is wanted has gone by -/
theorem scal_ge (n nu de most k : Int) (hk : k ≤ most) (hd : 1 ≤ de) : k ≤ scal n nu de most ↔ k * de ≤ n * nu := by
  unfold scal
  rw [Int.le_min]
  constructor
  · intro ⟨h, _⟩
    exact (Int.le_ediv_iff_mul_le (by omega)).1 h
  · intro h
    exact ⟨(Int.le_ediv_iff_mul_le (by omega)).2 h, hk⟩

theorem after_le (a nu x : Int) (hn : 1 ≤ nu) : (a + nu - 1) / nu ≤ x ↔ a ≤ x * nu := by
  have h1 := Int.emod_add_mul_ediv (a + nu - 1) nu
  have h2 := Int.emod_nonneg (a + nu - 1) (b := nu) (by omega)
  have h3 := Int.emod_lt_of_pos (a + nu - 1) (b := nu) (by omega)
  generalize (a + nu - 1) % nu = r at *
  generalize (a + nu - 1) / nu = q at *
  constructor
  · intro h
    have : nu * q ≤ nu * x := Int.mul_le_mul_of_nonneg_left h (by omega)
    rw [Int.mul_comm x nu]; omega
  · intro h
    by_cases hc : q ≤ x
    · exact hc
    · have : nu * (x + 1) ≤ nu * q := Int.mul_le_mul_of_nonneg_left (by omega) (by omega)
      rw [Int.mul_add, Int.mul_one] at this
      rw [Int.mul_comm x nu] at h; omega

theorem Pc.Ok.reach {p : Pc} (h : p.Ok) (t c : Int) (ht : t ≤ 1099511627776) (hc : p.cl ≤ c) : t ≤ (p.tick c).hz ↔ (t - p.st) * p.de ≤ (c - p.ba) * p.nu := by
  have e : (p.tick c).hz = p.st + scal (c - p.ba) p.nu p.de (1099511627776 - p.st) := by
    have : max p.cl c = c := by omega
    simp only [Pc.tick, Pc.hz, Pc.gone, this]
  rw [e, ← scal_ge _ _ _ (1099511627776 - p.st) _ (by omega) h.de0]
  omega

/-- what the document's search ends at -/
def Pc.Least (p : Pc) (t m : Int) : Prop := p.cl ≤ m ∧ m ≤ 9223372036854775807 ∧ t ≤ (p.tick m).hz ∧ ∀ x, p.cl ≤ x → x < m → (p.tick x).hz < t

theorem Pc.Ok.wait_least {p : Pc} (h : p.Ok) (t m : Int) (ht : t ≤ 1099511627776) (hm : p.Least t m) : p.wait t = (m, true) := by
  obtain ⟨h1, h2, h3, h4⟩ := hm
  unfold Pc.wait
  rw [if_neg (by omega)]
  have hself : p.tick p.cl = p := by cases p; simp [Pc.tick]
  by_cases hz : t ≤ p.hz
  · rw [if_pos hz]
    have : m = p.cl := by
      by_cases hc : p.cl < m
      · have := h4 p.cl (by omega) hc
        rw [hself] at this; omega
      · omega
    rw [this]
  rw [if_neg hz]
  rw [h.reach t m ht h1] at h3
  have hst : p.st < t := by have := h.hz_bd; omega
  have hd := h.de0
  have hp : 0 < (t - p.st) * p.de := Int.mul_pos (by omega) (by omega)
  have hn0 := h.nu0
  have hnu : p.nu ≠ 0 := by intro h0; rw [h0, Int.mul_zero] at h3; omega
  rw [if_neg hnu]
  have ha := after_le ((t - p.st) * p.de) p.nu
  have hle : p.after t ≤ m - p.ba := by unfold Pc.after; exact (ha _ (by omega)).2 h3
  rw [if_neg (by omega)]
  have hge : ¬ p.ba + p.after t < m := by
    intro hlt
    by_cases hc : p.cl ≤ p.ba + p.after t
    · have := h4 _ hc hlt
      have r := h.reach t (p.ba + p.after t) ht hc
      have : ¬ t ≤ (p.tick (p.ba + p.after t)).hz := by omega
      apply this; rw [r]
      have e : p.ba + p.after t - p.ba = p.after t := by omega
      rw [e]
      exact (ha (p.after t) (by omega)).1 (by unfold Pc.after; omega)
    · have e := (ha (p.cl - p.ba) (by omega)).1 (by unfold Pc.after at hc; omega)
      have r := h.reach t p.cl ht (by omega)
      rw [hself] at r
      exact hz (r.2 e)
  have : p.ba + p.after t = m := by omega
  rw [this]

theorem Pc.Ok.wait_none {p : Pc} (h : p.Ok) (t : Int) (hm : 1099511627776 < t ∨ (p.tick 9223372036854775807).hz < t) : p.wait t = (0, false) := by
  unfold Pc.wait
  by_cases ht : 1099511627776 < t
  · rw [if_pos ht]
  rw [if_neg ht]
  have hm : (p.tick 9223372036854775807).hz < t := by omega
  have hmono := h.hz_tick 9223372036854775807
  rw [if_neg (by omega)]
  have r := h.reach t 9223372036854775807 (by omega) h.cl1
  by_cases hnu : p.nu = 0
  · rw [if_pos hnu]
  rw [if_neg hnu]
  have hn0 := h.nu0
  have ha := after_le ((t - p.st) * p.de) p.nu (9223372036854775807 - p.ba) (by omega)
  rw [if_pos]
  apply Int.not_le.1
  intro hc
  have := r.2 (ha.1 (by unfold Pc.after at hc; exact hc))
  omega

theorem Pc.Ok.wait_bd {p : Pc} (h : p.Ok) (t : Int) : 0 ≤ (p.wait t).1 ∧ (p.wait t).1 ≤ 9223372036854775807 := by
  have h1 := h.ba0; have h2 := h.ba1; have h3 := h.cl1
  unfold Pc.wait
  split
  · exact ⟨by simp, by simp⟩
  split
  · exact ⟨by simp; omega, h3⟩
  split
  · exact ⟨by simp, by simp⟩
  split
  · exact ⟨by simp, by simp⟩
  rename_i a b c d
  have hn := h.nu0
  have hst : p.st < t := by have := h.hz_bd; omega
  have hd := h.de0
  have hp : 0 < (t - p.st) * p.de := Int.mul_pos (by omega) (by omega)
  have : 0 ≤ p.after t := Int.ediv_nonneg (by omega) (by omega)
  exact ⟨by simp only; omega, by simp only; omega⟩

/-! The document's way: bit by bit. -/

/-- a number that is held at one more than a bound -/
def capd (v most : Int) : Int := if most < v then most + 1 else v

theorem capd_step (v most a : Int) (hm : 0 ≤ most) (ha : 0 ≤ a) : capd (2 * capd v most + a) most = capd (2 * v + a) most := by
  unfold capd
  by_cases h : most < v
  · rw [if_pos h, if_pos (by omega), if_pos (by omega)]
  · rw [if_neg h]

theorem capd_min (v most : Int) : min (capd v most) most = min v most := by
  unfold capd
  split <;> omega

theorem capd_bd (v most : Int) (hv : 0 ≤ v) (hm : 0 ≤ most) : 0 ≤ capd v most ∧ capd v most ≤ most + 1 := by
  unfold capd
  split <;> omega

/-- one more bit -/
theorem bit_step (m nu de : Int) (b : Int) (hd : 1 ≤ de) :
    (2 * m + b) * nu / de = 2 * (m * nu / de) + (2 * (m * nu % de) + b * nu) / de ∧ (2 * m + b) * nu % de = (2 * (m * nu % de) + b * nu) % de := by
  have e : (2 * m + b) * nu = (2 * (m * nu % de) + b * nu) + de * (2 * (m * nu / de)) := by
    have := Int.emod_add_mul_ediv (m * nu) de
    rw [Int.add_mul, Int.mul_assoc]
    generalize m * nu % de = r at *
    generalize m * nu / de = q at *
    have e1 : de * (2 * q) = 2 * (de * q) := by rw [Int.mul_left_comm]
    rw [e1]
    omega
  constructor
  · rw [e, Int.add_mul_ediv_left _ _ (by omega)]; omega
  · rw [e, Int.add_mul_emod_self_left]

end Go.Proofs.Ytpcnfefeeolbpaa
