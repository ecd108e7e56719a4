/-
  The walk of the document's SameResponse.
-/
import Derived.Test.YtdpfmaikijilkaaSQ
import Derived.Deep.CutRange
namespace Go.Proofs.Ytdpfmaikijilkaa
open Go Go.RowKit Go.Sort Go.Proofs

theorem RsC_cells {W : World} {B : Nat} {q : Rs} {mv : Value} {T : TypeId} {fr : Nat × Nat} (h : W.heap[B]? = some (.cells (RsC q mv) T fr)) : W.cell? ⟨B, 0, none⟩ = some (.int .i64 q.kind) ∧ W.cell? ⟨B, 1, none⟩ = some (.int .u32 q.id) ∧ W.cell? ⟨B, 2, none⟩ = some (.int .i64 q.err) ∧ W.cell? ⟨B, 3, none⟩ = some (.int .i64 q.floor) ∧ W.cell? ⟨B, 4, none⟩ = some mv ∧ W.cell? ⟨B, 5, none⟩ = some (.int .i64 q.rt) ∧ W.cell? ⟨B, 6, none⟩ = some (.int .i64 q.ro) ∧ W.cell? ⟨B, 7, none⟩ = some (.int .i64 q.rs) ∧ W.cell? ⟨B, 8, none⟩ = some (.int .i64 q.rp) ∧ W.cell? ⟨B, 9, none⟩ = some (.int .i64 q.rn) ∧ W.cell? ⟨B, 10, none⟩ = some (.int .i64 q.rv) ∧ W.cell? ⟨B, 11, none⟩ = some (.int .u32 q.num) ∧ W.cell? ⟨B, 12, none⟩ = some (.int .i64 q.time) ∧ W.cell? ⟨B, 13, none⟩ = some (.int .i64 q.org) ∧ W.cell? ⟨B, 14, none⟩ = some (.int .i64 q.seq) ∧ W.cell? ⟨B, 15, none⟩ = some (.int .i64 q.pt) ∧ W.cell? ⟨B, 16, none⟩ = some (.int .i64 q.ek) ∧ W.cell? ⟨B, 17, none⟩ = some (.int .i64 q.dat) := by
  obtain ⟨f1, f2⟩ := fr
  exact ⟨by rw [cell_of_row _ _ _ _ _ _ h]; rfl, by rw [cell_of_row _ _ _ _ _ _ h]; rfl, by rw [cell_of_row _ _ _ _ _ _ h]; rfl, by rw [cell_of_row _ _ _ _ _ _ h]; rfl, by rw [cell_of_row _ _ _ _ _ _ h]; rfl, by rw [cell_of_row _ _ _ _ _ _ h]; rfl, by rw [cell_of_row _ _ _ _ _ _ h]; rfl, by rw [cell_of_row _ _ _ _ _ _ h]; rfl, by rw [cell_of_row _ _ _ _ _ _ h]; rfl, by rw [cell_of_row _ _ _ _ _ _ h]; rfl, by rw [cell_of_row _ _ _ _ _ _ h]; rfl, by rw [cell_of_row _ _ _ _ _ _ h]; rfl, by rw [cell_of_row _ _ _ _ _ _ h]; rfl, by rw [cell_of_row _ _ _ _ _ _ h]; rfl, by rw [cell_of_row _ _ _ _ _ _ h]; rfl, by rw [cell_of_row _ _ _ _ _ _ h]; rfl, by rw [cell_of_row _ _ _ _ _ _ h]; rfl, by rw [cell_of_row _ _ _ _ _ _ h]; rfl⟩
theorem nat_ne_cast {m n : Nat} (h : ¬ m = n) : ((m : Int) != (n : Int)) = true := bne_iff_ne.2 (by omega)
set_option maxHeartbeats 2000000 in
set_option maxRecDepth 100000 in
theorem rsameResponse_any (w : World) (a b : Rs) (x y : Option Addr) (c d : Nat) (ha : CV.At w x a.vars.length a.vars) (hb : CV.At w y b.vars.length b.vars) :
    Calls Try.prog 18 #[.agg (RsC a (.slice x a.vars.length c)), .agg (RsC b (.slice y b.vars.length d))] w (fun e w' => e = .returned (.bool (sameS a b)) ∧ Below w.heap.size w w') := by
  have mixed : Try.prog.follows .mixedOrders = true := by kernel_rfl
  obtain ⟨R, hR⟩ : ∃ R, R = sameS a b := ⟨_, rfl⟩
  rw [← hR]
  obtain ⟨t1, h1⟩ : ∃ t, t = decide (a.vars = b.vars) := ⟨_, rfl⟩
  have he := evE a.time a.org a.seq a.pt a.ek a.dat b.time b.org b.seq b.pt b.ek b.dat
  have hbr := rcE a.rt a.ro a.rs a.rp a.rn a.rv b.rt b.ro b.rs b.rp b.rn b.rv
  obtain ⟨t2, h2⟩ : ∃ t, t = decide ((a.time, a.org, a.seq, a.pt, a.ek, a.dat) = (b.time, b.org, b.seq, b.pt, b.ek, b.dat)) := ⟨_, rfl⟩
  obtain ⟨t3, h3⟩ : ∃ t, t = decide ((a.rt, a.ro, a.rs, a.rp, a.rn, a.rv) = (b.rt, b.ro, b.rs, b.rp, b.rn, b.rv)) := ⟨_, rfl⟩
  rw [← h2] at he
  rw [← h3] at hbr
  have hg1 := fun (op : BinOp) (x y : Operand) (xs ys : Array Value) (w : World) => run_eqGuard_agg (P := Try.prog) w op 28 x y xs ys evGuard
  have hg2 := fun (op : BinOp) (x y : Operand) (xs ys : Array Value) (w : World) => run_eqGuard_agg (P := Try.prog) w op 45 x y xs ys rcGuard
  have HR : Hid (R = (decide (a.kind = b.kind) && decide (a.id = b.id) && decide (a.err = b.err) && decide (a.floor = b.floor) && t1 && t3 && decide (a.num = b.num) && t2)) := by
    rw [Lib.hid_eq, hR, h1, h2, h3]
    rfl
  have hn2 := ha.2.1
  have HL := Lib.hid ha
  have HL2 := Lib.hid hb
  have HT1 := Lib.hid h1
  obtain ⟨m, hm⟩ : ∃ m, m = a.vars.length := ⟨_, rfl⟩
  obtain ⟨n, hn⟩ : ∃ n, n = b.vars.length := ⟨_, rfl⟩
  have HM := Lib.hid (And.intro hm hn)
  rw [← hm] at hn2
  clear hR h1 h2 h3
  obtain ⟨va, hva⟩ : ∃ v, v = Value.slice x a.vars.length c := ⟨_, rfl⟩
  obtain ⟨vb, hvb⟩ : ∃ v, v = Value.slice y b.vars.length d := ⟨_, rfl⟩
  rw [← hva, ← hvb]
  rw [← hm] at hva
  rw [← hn] at hvb
  have HVA := Lib.hid hva
  have HVB := Lib.hid hvb
  clear ha hb hm hn hva hvb
  go_enter Try.func18, Try.ntmps18
  go_upto_region 1 with fail
  generalize hw : World.alloc (World.alloc _ _) _ = wl
  have hb1 : Below w.heap.size w wl := by rw [← hw]; exact ((Below.refl _ _).alloc (Nat.le_refl _) _).alloc (by simp) _
  have x1 : wl.heap[w.heap.size]? = some (.cells (RsC a va) 47 (0, 0)) := by rw [← hw, heap_alloc_old _ _ (by simp), heap_alloc_new]
  have x2 : wl.heap[w.heap.size + 1]? = some (.cells (RsC b vb) 47 (0, 0)) := by
    have := heap_alloc_new (w.alloc (.cells (RsC a va) 47)) (.cells (RsC b vb) 47)
    rw [World.size_alloc] at this
    rw [← hw]
    exact this
  obtain ⟨p0, p1, p2, p3, p4, p5, p6, p7, p8, p9, p10, p11, p12, p13, p14, p15, p16, p17⟩ := RsC_cells x1
  obtain ⟨q0, q1, q2, q3, q4, q5, q6, q7, q8, q9, q10, q11, q12, q13, q14, q15, q16, q17⟩ := RsC_cells x2
  have HB1 := Lib.hid hb1
  rw [HVA.out] at p4
  rw [HVB.out] at q4
  clear hw x1 x2 hb1
  by_cases c0 : a.kind = b.kind
  case neg =>
    go_wp2
    go_ret
    refine ⟨?_, HB1.out⟩
    rw [HR.out]
    clear he hbr hg1 hg2 HR
    simp [*]
  by_cases c1 : a.id = b.id
  case neg =>
    go_wp2
    go_ret
    refine ⟨?_, HB1.out⟩
    rw [HR.out]
    clear he hbr hg1 hg2 HR
    simp [*]
  by_cases c2 : a.err = b.err
  case neg =>
    go_wp2
    go_ret
    refine ⟨?_, HB1.out⟩
    rw [HR.out]
    clear he hbr hg1 hg2 HR
    simp [*]
  by_cases c3 : a.floor = b.floor
  case neg =>
    go_wp2
    go_ret
    refine ⟨?_, HB1.out⟩
    rw [HR.out]
    clear he hbr hg1 hg2 HR
    simp [*]
  by_cases hmn : m = n
  case neg =>
    have ht : t1 = false := by rw [HT1.out]; exact decide_eq_false fun e => hmn (by rw [HM.out.1, HM.out.2, e])
    have hd := nat_ne_cast hmn
    have HNE := Lib.hid hmn
    clear hmn
    go_wp2
    go_ret
    refine ⟨?_, HB1.out⟩
    rw [HR.out]
    clear he hbr hg1 hg2 HR
    simp [*]
  subst hmn
  go_wp2_with fail
  go_loopg [5] m (fun kx s5 wr => ∃ i : Nat, s5 = .int .i64 i ∧ i ≤ m ∧ m - i ≤ kx ∧ Aside (Dn wl wr ∧ ∀ j, j < i → a.vars[j]? = b.vars[j]?))
  case atStart => exact ⟨0, by go_num, Nat.zero_le _, Nat.le_refl _, ⟨Dn.refl _, fun j hj => absurd hj (Nat.not_lt_zero _)⟩⟩
  case round =>
    obtain ⟨i, rfl, hin, hkx, A⟩ := hrel
    obtain ⟨qq, hqq⟩ := A.out.1
    subst hqq
    have hbd : Below w.heap.size w (wl.drewN qq) := HB1.out.trans ((Dn.below ⟨qq, rfl⟩).mono HB1.out.size)
    by_cases hlt : i < m
    · have hlz : decide ((i : Int) < (m : Int)) = true := by simpa using hlt
      have hiz : (i : Int) < (m : Int) := by omega
      obtain ⟨B, off, rfl, u, hu, hc⟩ := CV_cell (HL.out.below HB1.out) (i := i) (by rw [← HM.out.1]; exact hlt)
      obtain ⟨B', off', rfl, v, hv, hc'⟩ := CV_cell (HL2.out.below HB1.out) (i := i) (by rw [← HM.out.2]; exact hlt)
      have HX := Lib.hid (And.intro hu hv)
      have HBD := Lib.hid hbd
      clear hu hv hbd
      by_cases huv : u = v
      · subst huv
        go_wp2_with fail
        go_region
        all_goals
          go_wp2
          go_roundg (m - (i + 1))
          case measure => omega
          case rel =>
            refine ⟨i + 1, by go_num, by omega, Nat.le_refl _, ⟨A.out.1.drew, fun j hj => ?_⟩⟩
            by_cases e2 : j = i
            · subst e2
              exact HX.out.1.trans HX.out.2.symm
            · exact A.out.2 j (by omega)
      · have HUV := Lib.hid huv
        go_wp2_with fail
        go_region
        all_goals
          go_wp2
          go_ret
          have ht : t1 = false := by
            rw [HT1.out]
            refine decide_eq_false fun e2 => ?_
            have h1 := HX.out.1
            rw [e2] at h1
            exact HUV.out (Option.some.inj (h1.symm.trans HX.out.2))
          refine ⟨?_, HB1.out.trans ((Dn.below (Dn.drew ⟨qq, rfl⟩)).mono HB1.out.size)⟩
          rw [HR.out, ht]
          simp
    · have hlz : decide ((i : Int) < (m : Int)) = false := by simp; omega
      obtain rfl : i = m := by omega
      have ht : t1 = true := by rw [HT1.out]; exact decide_eq_true (eq_of_gets HM.out.1 HM.out.2 A.out.2)
      have HBD := Lib.hid hbd
      clear hbd
      rcases t2 with _ | _ <;> rcases t3 with _ | _ <;> by_cases hnum : a.num = b.num
      all_goals
        go_wp2
        go_ret
        refine ⟨?_, HBD.out⟩
        rw [HR.out, ht]
        clear he hbr hg1 hg2 HR
        simp [*]
end Go.Proofs.Ytdpfmaikijilkaa
