/-
  The law MessageSame, walked.
-/
import Derived.Test.YtnafeppljnjbeaaQT
import Derived.Test.YtnafeppljnjbeaaE3
import Derived.Test.YtnafeppljnjbeaaE5
namespace Go.Proofs.Ytnafeppljnjbeaa
open Go Go.RowKit Go.Sort Go.Proofs

theorem CB_kept {w W : World} {q : Rq} {a : Option Addr} (h : CB.At w a q.model.length q.model) (hb : Below w.heap.size w W) : CB.At W a q.model.length q.model := h.below hb
set_option maxHeartbeats 4000000 in
set_option maxRecDepth 100000 in
theorem same_law (w : World) (a b : Rq) (x y : Rs) (pa pb px py : Option Addr) (ca cb cx cy : Nat) (ha : a.model.length ≤ 1000000 → CB.At w pa a.model.length a.model) (hb : b.model.length ≤ 1000000 → CB.At w pb b.model.length b.model) (hx : x.vars.length ≤ 1000000 → CV.At w px x.vars.length x.vars) (hy : y.vars.length ≤ 1000000 → CV.At w py y.vars.length y.vars) :
    Calls Try.prog 7 #[.agg (RqC a (.slice pa a.model.length ca)), .agg (RqC b (.slice pb b.model.length cb)), .agg (RsC x (.slice px x.vars.length cx)), .agg (RsC y (.slice py y.vars.length cy))] w (fun e w' => e = .returned (.bool true) ∧ Below w.heap.size w w') := by
  have mixed : Try.prog.follows .mixedOrders = true := by kernel_rfl
  obtain ⟨la, hla⟩ : ∃ n, n = a.model.length := ⟨_, rfl⟩
  obtain ⟨lb, hlb⟩ : ∃ n, n = b.model.length := ⟨_, rfl⟩
  obtain ⟨lx, hlx⟩ : ∃ n, n = x.vars.length := ⟨_, rfl⟩
  obtain ⟨ly, hly⟩ : ∃ n, n = y.vars.length := ⟨_, rfl⟩
  have HL := Lib.hid (And.intro hla (And.intro hlb (And.intro hlx hly)))
  obtain ⟨A, hA⟩ : ∃ A, A = RqC a (.slice pa a.model.length ca) := ⟨_, rfl⟩
  obtain ⟨B, hB⟩ : ∃ A, A = RqC b (.slice pb b.model.length cb) := ⟨_, rfl⟩
  obtain ⟨X, hX⟩ : ∃ A, A = RsC x (.slice px x.vars.length cx) := ⟨_, rfl⟩
  obtain ⟨Y, hY⟩ : ∃ A, A = RsC y (.slice py y.vars.length cy) := ⟨_, rfl⟩
  have HIA : Hid ((Try.prog.info? 32).map (·.size) = some A.size) := by rw [Lib.hid_eq, hA]; exact infoQ _ _
  have HIB : Hid ((Try.prog.info? 32).map (·.size) = some B.size) := by rw [Lib.hid_eq, hB]; exact infoQ _ _
  have HIX : Hid ((Try.prog.info? 47).map (·.size) = some X.size) := by rw [Lib.hid_eq, hX]; exact infoS _ _
  have HIY : Hid ((Try.prog.info? 47).map (·.size) = some Y.size) := by rw [Lib.hid_eq, hY]; exact infoS _ _
  rw [← hA, ← hB, ← hX, ← hY]
  have HC := Lib.hid (And.intro hA (And.intro hB (And.intro hX hY)))
  have HM := Lib.hid (And.intro ha (And.intro hb (And.intro hx hy)))
  clear hla hlb hlx hly hA hB hX hY ha hb hx hy
  go_enter Try.func7, Try.ntmps7
  go_upto_region 1 with fail
  generalize hw : World.alloc (World.alloc (World.alloc (World.alloc _ _) _) _) _ = w1
  have z1 := World.size_alloc w (.cells A 32)
  have z2 := World.size_alloc (w.alloc (.cells A 32)) (.cells B 32)
  have z3 := World.size_alloc ((w.alloc (.cells A 32)).alloc (.cells B 32)) (.cells X 47)
  have hb1 : Below w.heap.size w w1 := by rw [← hw]; exact ((((Below.refl _ _).alloc (Nat.le_refl _) _).alloc (by omega) _).alloc (by omega) _).alloc (by omega) _
  have x0 : w1.heap[w.heap.size]? = some (.cells A 32 (0, 0)) := by rw [← hw, heap_alloc_old _ _ (by omega), heap_alloc_old _ _ (by omega), heap_alloc_old _ _ (by omega), heap_alloc_new]
  have x1 : w1.heap[w.heap.size + 1]? = some (.cells B 32 (0, 0)) := by rw [← hw, heap_alloc_old _ _ (by omega), heap_alloc_old _ _ (by omega), ← z1, heap_alloc_new]
  have x2 : w1.heap[w.heap.size + 1 + 1]? = some (.cells X 47 (0, 0)) := by rw [← hw, heap_alloc_old _ _ (by omega), ← z1, ← z2, heap_alloc_new]
  have x3 : w1.heap[w.heap.size + 1 + 1 + 1]? = some (.cells Y 47 (0, 0)) := by rw [← hw, ← z1, ← z2, ← z3, heap_alloc_new]
  have p0 : w1.cell? ⟨w.heap.size, 3, none⟩ = some (.slice pa la ca) := by rw [cell_of_row _ _ _ _ _ _ x0, HC.out.1, HL.out.1]; rfl
  have p1 : w1.cell? ⟨w.heap.size + 1, 3, none⟩ = some (.slice pb lb cb) := by rw [cell_of_row _ _ _ _ _ _ x1, HC.out.2.1, HL.out.2.1]; rfl
  have p2 : w1.cell? ⟨w.heap.size + 1 + 1, 4, none⟩ = some (.slice px lx cx) := by rw [cell_of_row _ _ _ _ _ _ x2, HC.out.2.2.1, HL.out.2.2.1]; rfl
  have p3 : w1.cell? ⟨w.heap.size + 1 + 1 + 1, 4, none⟩ = some (.slice py ly cy) := by rw [cell_of_row _ _ _ _ _ _ x3, HC.out.2.2.2, HL.out.2.2.2]; rfl
  have S0 : Stand w1 w.heap.size A 32 := ⟨x0⟩
  have S1 : Stand w1 (w.heap.size + 1) B 32 := ⟨x1⟩
  have S2 : Stand w1 (w.heap.size + 1 + 1) X 47 := ⟨x2⟩
  have S3 : Stand w1 (w.heap.size + 1 + 1 + 1) Y 47 := ⟨x3⟩
  have HB1 := Lib.hid hb1
  clear hw z1 z2 z3 x0 x1 x2 x3 hb1
  by_cases hall : la ≤ 5000 ∧ lb ≤ 5000 ∧ lx ≤ 100 ∧ ly ≤ 100
  case neg =>
    go_wp2_with (first
      | (go_at_call 8; refine (known_any _).mono ?_; rintro e w2 ⟨rfl, hb2⟩; have H2 := Lib.hid (HB1.out.trans (hb2.mono HB1.out.size)); clear hb2))
    all_goals first
      | (go_ret; exact ⟨rfl, H2.out⟩)
      | (exfalso; exact hall ⟨by omega, by omega, by omega, by omega⟩)
  obtain ⟨e1, e2, e3, e4⟩ := hall
  have hqa : CB.At w pa a.model.length a.model := HM.out.1 (by rw [← HL.out.1]; omega)
  have hqb : CB.At w pb b.model.length b.model := HM.out.2.1 (by rw [← HL.out.2.1]; omega)
  have hsx : CV.At w px x.vars.length x.vars := HM.out.2.2.1 (by rw [← HL.out.2.2.1]; omega)
  have hsy : CV.At w py y.vars.length y.vars := HM.out.2.2.2 (by rw [← HL.out.2.2.2]; omega)
  obtain ⟨r1, hr1⟩ : ∃ r, r = sameQ a b := ⟨_, rfl⟩
  obtain ⟨r2, hr2⟩ : ∃ r, r = sameS x y := ⟨_, rfl⟩
  have C1 : ∀ W, Hid (Below w1.heap.size w1 W) → Calls Try.prog 27 #[.agg A, .agg B] W (fun e w' => e = .returned (.bool r1) ∧ Hid (Below w1.heap.size w1 w')) := fun W hW => by
    rw [HC.out.1, HC.out.2.1, hr1]
    have hbW := HB1.out.trans (hW.out.mono HB1.out.size)
    exact q_call hW (sameRequest_any W a b pa pb ca cb (hqa.below hbW) (hqb.below hbW))
  have C2 : ∀ W, Hid (Below w1.heap.size w1 W) → Calls Try.prog 12 #[.agg A, .agg B] W (fun e w' => e = .returned (.bool r1) ∧ Hid (Below w1.heap.size w1 w')) := fun W hW => by
    rw [HC.out.1, HC.out.2.1, hr1]
    have hbW := HB1.out.trans (hW.out.mono HB1.out.size)
    exact q_call hW (rsameRequest_any W a b pa pb ca cb (hqa.below hbW) (hqb.below hbW))
  have C3 : ∀ W, Hid (Below w1.heap.size w1 W) → Calls Try.prog 28 #[.agg X, .agg Y] W (fun e w' => e = .returned (.bool r2) ∧ Hid (Below w1.heap.size w1 w')) := fun W hW => by
    rw [HC.out.2.2.1, HC.out.2.2.2, hr2]
    have hbW := HB1.out.trans (hW.out.mono HB1.out.size)
    exact q_call hW (sameResponse_any W x y px py cx cy (hsx.below hbW) (hsy.below hbW))
  have C4 : ∀ W, Hid (Below w1.heap.size w1 W) → Calls Try.prog 18 #[.agg X, .agg Y] W (fun e w' => e = .returned (.bool r2) ∧ Hid (Below w1.heap.size w1 w')) := fun W hW => by
    rw [HC.out.2.2.1, HC.out.2.2.2, hr2]
    have hbW := HB1.out.trans (hW.out.mono HB1.out.size)
    exact q_call hW (rsameResponse_any W x y px py cx cy (hsx.below hbW) (hsy.below hbW))
  have C5 : ∀ W, Hid (Below w1.heap.size w1 W) → Calls Try.prog 27 #[.agg A, .agg A] W (fun e w' => e = .returned (.bool true) ∧ Hid (Below w1.heap.size w1 w')) := fun W hW => by
    rw [HC.out.1, ← sameQ_self a]
    have hbW := HB1.out.trans (hW.out.mono HB1.out.size)
    exact q_call hW (sameRequest_any W a a pa pa ca ca (hqa.below hbW) (hqa.below hbW))
  have C6 : ∀ W, Hid (Below w1.heap.size w1 W) → Calls Try.prog 28 #[.agg X, .agg X] W (fun e w' => e = .returned (.bool true) ∧ Hid (Below w1.heap.size w1 w')) := fun W hW => by
    rw [HC.out.2.2.1, ← sameS_self x]
    have hbW := HB1.out.trans (hW.out.mono HB1.out.size)
    exact q_call hW (sameResponse_any W x x px px cx cx (hsx.below hbW) (hsx.below hbW))
  have C7 : ∀ W, Hid (Below w1.heap.size w1 W) → Calls Try.prog 8 #[] W (fun e w' => e = .returned (.bool true) ∧ Hid (Below w1.heap.size w1 w')) := fun W hW => q_call hW (known_any W)
  have HCC := Lib.hid (And.intro C1 (And.intro C2 (And.intro C3 (And.intro C4 (And.intro C5 (And.intro C6 C7))))))
  have HSS := Lib.hid (And.intro S0 (And.intro S1 (And.intro S2 S3)))
  clear C1 C2 C3 C4 C5 C6 C7 hqa hqb hsx hsy hr1 hr2 HM S0 S1 S2 S3
  go_wp2_with fail
  clear p0 p1 p2 p3
  refine wp_region_class (C := fun W => Hid (Below w1.heap.size w1 W)) mixed (by kernel_rfl) (Lib.hid (Below.refl _ _).drew) ?_
  refine WQ.take (.agg A) (by kernel_rfl) (fun W hW => q_load 32 (.tmp 4) rfl (w.heap.size) rfl 32 A (0, 0) _ (HSS.out.1.at_ hW) Try.underlying32 rfl HIA.out) ?_
  simp only [Act.put, List.setIfInBounds_toArray, List.set_cons_zero, List.set_cons_succ]
  refine WQ.take (.agg B) (by kernel_rfl) (fun W hW => q_load 32 (.tmp 5) rfl (w.heap.size + 1) rfl 32 B (0, 0) _ (HSS.out.2.1.at_ hW) Try.underlying32 rfl HIB.out) ?_
  simp only [Act.put, List.setIfInBounds_toArray, List.set_cons_zero, List.set_cons_succ]
  refine WQ.take (.bool r1) (by kernel_rfl) (fun W hW => q_enter (by go_simp) (HCC.out.1 W hW)) ?_
  simp only [Act.put, List.setIfInBounds_toArray, List.set_cons_zero, List.set_cons_succ]
  refine WQ.take (.agg A) (by kernel_rfl) (fun W hW => q_load 32 (.tmp 4) rfl (w.heap.size) rfl 32 A (0, 0) _ (HSS.out.1.at_ hW) Try.underlying32 rfl HIA.out) ?_
  simp only [Act.put, List.setIfInBounds_toArray, List.set_cons_zero, List.set_cons_succ]
  refine WQ.take (.agg B) (by kernel_rfl) (fun W hW => q_load 32 (.tmp 5) rfl (w.heap.size + 1) rfl 32 B (0, 0) _ (HSS.out.2.1.at_ hW) Try.underlying32 rfl HIB.out) ?_
  simp only [Act.put, List.setIfInBounds_toArray, List.set_cons_zero, List.set_cons_succ]
  refine WQ.take (.bool r1) (by kernel_rfl) (fun W hW => q_enter (by go_simp) (HCC.out.2.1 W hW)) ?_
  simp only [Act.put, List.setIfInBounds_toArray, List.set_cons_zero, List.set_cons_succ]
  refine WQ.take (.bool true) (by kernel_rfl) (fun _ _ => by cases r1 <;> exact ⟨rfl, rfl⟩) ?_
  simp only [Act.put, List.setIfInBounds_toArray, List.set_cons_zero, List.set_cons_succ]
  refine WQ.take (.bool true) (by kernel_rfl) (fun _ _ => ⟨rfl, rfl⟩) ?_
  simp only [Act.put, List.setIfInBounds_toArray, List.set_cons_zero, List.set_cons_succ]
  refine WQ.take (.agg X) (by kernel_rfl) (fun W hW => q_load 47 (.tmp 6) rfl (w.heap.size + 1 + 1) rfl 47 X (0, 0) _ (HSS.out.2.2.1.at_ hW) Try.underlying47 rfl HIX.out) ?_
  simp only [Act.put, List.setIfInBounds_toArray, List.set_cons_zero, List.set_cons_succ]
  refine WQ.take (.agg Y) (by kernel_rfl) (fun W hW => q_load 47 (.tmp 7) rfl (w.heap.size + 1 + 1 + 1) rfl 47 Y (0, 0) _ (HSS.out.2.2.2.at_ hW) Try.underlying47 rfl HIY.out) ?_
  simp only [Act.put, List.setIfInBounds_toArray, List.set_cons_zero, List.set_cons_succ]
  refine WQ.take (.bool r2) (by kernel_rfl) (fun W hW => q_enter (by go_simp) (HCC.out.2.2.1 W hW)) ?_
  simp only [Act.put, List.setIfInBounds_toArray, List.set_cons_zero, List.set_cons_succ]
  refine WQ.take (.agg X) (by kernel_rfl) (fun W hW => q_load 47 (.tmp 6) rfl (w.heap.size + 1 + 1) rfl 47 X (0, 0) _ (HSS.out.2.2.1.at_ hW) Try.underlying47 rfl HIX.out) ?_
  simp only [Act.put, List.setIfInBounds_toArray, List.set_cons_zero, List.set_cons_succ]
  refine WQ.take (.agg Y) (by kernel_rfl) (fun W hW => q_load 47 (.tmp 7) rfl (w.heap.size + 1 + 1 + 1) rfl 47 Y (0, 0) _ (HSS.out.2.2.2.at_ hW) Try.underlying47 rfl HIY.out) ?_
  simp only [Act.put, List.setIfInBounds_toArray, List.set_cons_zero, List.set_cons_succ]
  refine WQ.take (.bool r2) (by kernel_rfl) (fun W hW => q_enter (by go_simp) (HCC.out.2.2.2.1 W hW)) ?_
  simp only [Act.put, List.setIfInBounds_toArray, List.set_cons_zero, List.set_cons_succ]
  refine WQ.take (.bool true) (by kernel_rfl) (fun _ _ => by cases r2 <;> exact ⟨rfl, rfl⟩) ?_
  simp only [Act.put, List.setIfInBounds_toArray, List.set_cons_zero, List.set_cons_succ]
  refine WQ.take (.bool true) (by kernel_rfl) (fun _ _ => ⟨rfl, rfl⟩) ?_
  simp only [Act.put, List.setIfInBounds_toArray, List.set_cons_zero, List.set_cons_succ]
  refine WQ.take (.bool true) (by kernel_rfl) (fun _ _ => ⟨rfl, rfl⟩) ?_
  simp only [Act.put, List.setIfInBounds_toArray, List.set_cons_zero, List.set_cons_succ]
  refine WQ.take (.agg A) (by kernel_rfl) (fun W hW => q_load 32 (.tmp 4) rfl (w.heap.size) rfl 32 A (0, 0) _ (HSS.out.1.at_ hW) Try.underlying32 rfl HIA.out) ?_
  simp only [Act.put, List.setIfInBounds_toArray, List.set_cons_zero, List.set_cons_succ]
  refine WQ.take (.agg A) (by kernel_rfl) (fun W hW => q_load 32 (.tmp 4) rfl (w.heap.size) rfl 32 A (0, 0) _ (HSS.out.1.at_ hW) Try.underlying32 rfl HIA.out) ?_
  simp only [Act.put, List.setIfInBounds_toArray, List.set_cons_zero, List.set_cons_succ]
  refine WQ.take (.bool true) (by kernel_rfl) (fun W hW => q_enter (by go_simp) (HCC.out.2.2.2.2.1 W hW)) ?_
  simp only [Act.put, List.setIfInBounds_toArray, List.set_cons_zero, List.set_cons_succ]
  refine WQ.take (.bool true) (by kernel_rfl) (fun _ _ => ⟨rfl, rfl⟩) ?_
  simp only [Act.put, List.setIfInBounds_toArray, List.set_cons_zero, List.set_cons_succ]
  refine WQ.take (.bool true) (by kernel_rfl) (fun _ _ => ⟨rfl, rfl⟩) ?_
  simp only [Act.put, List.setIfInBounds_toArray, List.set_cons_zero, List.set_cons_succ]
  refine WQ.take (.agg X) (by kernel_rfl) (fun W hW => q_load 47 (.tmp 6) rfl (w.heap.size + 1 + 1) rfl 47 X (0, 0) _ (HSS.out.2.2.1.at_ hW) Try.underlying47 rfl HIX.out) ?_
  simp only [Act.put, List.setIfInBounds_toArray, List.set_cons_zero, List.set_cons_succ]
  refine WQ.take (.agg X) (by kernel_rfl) (fun W hW => q_load 47 (.tmp 6) rfl (w.heap.size + 1 + 1) rfl 47 X (0, 0) _ (HSS.out.2.2.1.at_ hW) Try.underlying47 rfl HIX.out) ?_
  simp only [Act.put, List.setIfInBounds_toArray, List.set_cons_zero, List.set_cons_succ]
  refine WQ.take (.bool true) (by kernel_rfl) (fun W hW => q_enter (by go_simp) (HCC.out.2.2.2.2.2.1 W hW)) ?_
  simp only [Act.put, List.setIfInBounds_toArray, List.set_cons_zero, List.set_cons_succ]
  refine WQ.take (.bool true) (by kernel_rfl) (fun _ _ => ⟨rfl, rfl⟩) ?_
  simp only [Act.put, List.setIfInBounds_toArray, List.set_cons_zero, List.set_cons_succ]
  refine WQ.take (.bool true) (by kernel_rfl) (fun _ _ => ⟨rfl, rfl⟩) ?_
  simp only [Act.put, List.setIfInBounds_toArray, List.set_cons_zero, List.set_cons_succ]
  refine WQ.take (.bool true) (by kernel_rfl) (fun W hW => q_enter (by go_simp) (HCC.out.2.2.2.2.2.2 W hW)) ?_
  simp only [Act.put, List.setIfInBounds_toArray, List.set_cons_zero, List.set_cons_succ]
  refine WQ.take (.bool true) (by kernel_rfl) (fun _ _ => ⟨rfl, rfl⟩) ?_
  simp only [Act.put, List.setIfInBounds_toArray, List.set_cons_zero, List.set_cons_succ]
  refine WQ.take (.bool true) (by kernel_rfl) (fun _ _ => ⟨rfl, rfl⟩) ?_
  simp only [Act.put, List.setIfInBounds_toArray, List.set_cons_zero, List.set_cons_succ]
  refine WQ.nil ?_
  intro W hW
  go_wp2
  go_ret
  exact ⟨rfl, HB1.out.trans (hW.out.mono HB1.out.size)⟩
end Go.Proofs.Ytnafeppljnjbeaa
