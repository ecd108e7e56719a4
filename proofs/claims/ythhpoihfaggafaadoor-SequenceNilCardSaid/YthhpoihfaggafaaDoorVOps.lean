/-
  The walks of the operations that reckon, that push, that jump.
-/
import Derived.Test.YthhpoihfaggafaaDoorVPush
namespace Go.Proofs.YthhpoihfaggafaaDoor
open Go Go.RowKit Go.Sort Go.Proofs CodM VmM

theorem w64_wrap (n : Int) : w64 n = wrap64 n := by
  simp [w64, wrap64]
set_option maxHeartbeats 1000000 in
theorem add_any (X : Fx) (hX : X.Ok) (s : Run) (W : World) (h : At X s W) (n : Int) : Calls Tryd.prog 117 #[.pointer (some ⟨X.R, 0, none⟩), .int .i64 n] W (Done X (two (fun a b => w64 (a + b)) s)) := by
  have HS := Lib.hid h
  have HX := Lib.hid hX
  clear h hX
  obtain ⟨a, ha⟩ : ∃ a, a = top (drop s) := ⟨_, rfl⟩
  obtain ⟨b, hb⟩ : ∃ b, b = top s := ⟨_, rfl⟩
  have HT : Hid (∀ W, At X s W → Calls Tryd.prog 142 #[.pointer (some ⟨X.R, 0, none⟩)] W (fun e w' => e = .returned (.tuple #[.int .i64 a, .int .i64 b]) ∧ At X (drop (drop s)) w')) := by
    rw [Lib.hid_eq, ha, hb]
    exact fun W h => takeTwo_any X HX.out s W h
  have HE : Hid (two (fun a b => w64 (a + b)) s = push (wrap64 (a + b)) (drop (drop s))) := by
    rw [Lib.hid_eq, ha, hb, ← w64_wrap]
    rfl
  clear ha hb
  go_enter Tryd.func117, Tryd.ntmps117
  go_wp2_with (first
    | (go_at_call 142; refine (HT.out _ HS.out).mono ?_; rintro e w1 ⟨rfl, h1⟩; have H1 := Lib.hid h1; clear h1)
    | (go_at_call 110; refine (push_any X HX.out _ _ H1.out _).mono ?_; rintro e w2 ⟨rfl, h2⟩; have H2 := Lib.hid h2; clear h2))
  go_end0
  refine ⟨rfl, ?_⟩
  rw [HE.out]
  exact H2.out
set_option maxHeartbeats 1000000 in
theorem sub_any (X : Fx) (hX : X.Ok) (s : Run) (W : World) (h : At X s W) (n : Int) : Calls Tryd.prog 118 #[.pointer (some ⟨X.R, 0, none⟩), .int .i64 n] W (Done X (two (fun a b => w64 (a - b)) s)) := by
  have HS := Lib.hid h
  have HX := Lib.hid hX
  clear h hX
  obtain ⟨a, ha⟩ : ∃ a, a = top (drop s) := ⟨_, rfl⟩
  obtain ⟨b, hb⟩ : ∃ b, b = top s := ⟨_, rfl⟩
  have HT : Hid (∀ W, At X s W → Calls Tryd.prog 142 #[.pointer (some ⟨X.R, 0, none⟩)] W (fun e w' => e = .returned (.tuple #[.int .i64 a, .int .i64 b]) ∧ At X (drop (drop s)) w')) := by
    rw [Lib.hid_eq, ha, hb]
    exact fun W h => takeTwo_any X HX.out s W h
  have HE : Hid (two (fun a b => w64 (a - b)) s = push (wrap64 (a - b)) (drop (drop s))) := by
    rw [Lib.hid_eq, ha, hb, ← w64_wrap]
    rfl
  clear ha hb
  go_enter Tryd.func118, Tryd.ntmps118
  go_wp2_with (first
    | (go_at_call 142; refine (HT.out _ HS.out).mono ?_; rintro e w1 ⟨rfl, h1⟩; have H1 := Lib.hid h1; clear h1)
    | (go_at_call 110; refine (push_any X HX.out _ _ H1.out _).mono ?_; rintro e w2 ⟨rfl, h2⟩; have H2 := Lib.hid h2; clear h2))
  go_end0
  refine ⟨rfl, ?_⟩
  rw [HE.out]
  exact H2.out
set_option maxHeartbeats 1000000 in
theorem mul_any (X : Fx) (hX : X.Ok) (s : Run) (W : World) (h : At X s W) (n : Int) : Calls Tryd.prog 119 #[.pointer (some ⟨X.R, 0, none⟩), .int .i64 n] W (Done X (two (fun a b => w64 (a * b)) s)) := by
  have HS := Lib.hid h
  have HX := Lib.hid hX
  clear h hX
  obtain ⟨a, ha⟩ : ∃ a, a = top (drop s) := ⟨_, rfl⟩
  obtain ⟨b, hb⟩ : ∃ b, b = top s := ⟨_, rfl⟩
  have HT : Hid (∀ W, At X s W → Calls Tryd.prog 142 #[.pointer (some ⟨X.R, 0, none⟩)] W (fun e w' => e = .returned (.tuple #[.int .i64 a, .int .i64 b]) ∧ At X (drop (drop s)) w')) := by
    rw [Lib.hid_eq, ha, hb]
    exact fun W h => takeTwo_any X HX.out s W h
  have HE : Hid (two (fun a b => w64 (a * b)) s = push (wrap64 (a * b)) (drop (drop s))) := by
    rw [Lib.hid_eq, ha, hb, ← w64_wrap]
    rfl
  clear ha hb
  go_enter Tryd.func119, Tryd.ntmps119
  go_wp2_with (first
    | (go_at_call 142; refine (HT.out _ HS.out).mono ?_; rintro e w1 ⟨rfl, h1⟩; have H1 := Lib.hid h1; clear h1)
    | (go_at_call 110; refine (push_any X HX.out _ _ H1.out _).mono ?_; rintro e w2 ⟨rfl, h2⟩; have H2 := Lib.hid h2; clear h2))
  go_end0
  refine ⟨rfl, ?_⟩
  rw [HE.out]
  exact H2.out
set_option maxHeartbeats 1000000 in
theorem less_any (X : Fx) (hX : X.Ok) (s : Run) (W : World) (h : At X s W) (n : Int) : Calls Tryd.prog 120 #[.pointer (some ⟨X.R, 0, none⟩), .int .i64 n] W (Done X (two (fun a b => if a < b then 1 else 0) s)) := by
  have HS := Lib.hid h
  have HX := Lib.hid hX
  clear h hX
  obtain ⟨a, ha⟩ : ∃ a, a = top (drop s) := ⟨_, rfl⟩
  obtain ⟨b, hb⟩ : ∃ b, b = top s := ⟨_, rfl⟩
  have HT : Hid (∀ W, At X s W → Calls Tryd.prog 142 #[.pointer (some ⟨X.R, 0, none⟩)] W (fun e w' => e = .returned (.tuple #[.int .i64 a, .int .i64 b]) ∧ At X (drop (drop s)) w')) := by
    rw [Lib.hid_eq, ha, hb]
    exact fun W h => takeTwo_any X HX.out s W h
  have HE : Hid (two (fun a b => if a < b then 1 else 0) s = push (if decide (a < b) = true then 1 else 0) (drop (drop s))) := by
    rw [Lib.hid_eq, ha, hb]
    simp only [two, decide_eq_true_eq]
  clear ha hb
  go_enter Tryd.func120, Tryd.ntmps120
  go_wp2_with (first
    | (go_at_call 142; refine (HT.out _ HS.out).mono ?_; rintro e w1 ⟨rfl, h1⟩; have H1 := Lib.hid h1; clear h1)
    | (go_at_call 143; refine (pushTruth_any X HX.out _ _ H1.out _).mono ?_; rintro e w2 ⟨rfl, h2⟩; have H2 := Lib.hid h2; clear h2))
  go_end0
  refine ⟨rfl, ?_⟩
  rw [HE.out]
  exact H2.out
set_option maxHeartbeats 1000000 in
theorem opSame_any (X : Fx) (hX : X.Ok) (s : Run) (W : World) (h : At X s W) (n : Int) : Calls Tryd.prog 121 #[.pointer (some ⟨X.R, 0, none⟩), .int .i64 n] W (Done X (two (fun a b => if a = b then 1 else 0) s)) := by
  have HS := Lib.hid h
  have HX := Lib.hid hX
  clear h hX
  obtain ⟨a, ha⟩ : ∃ a, a = top (drop s) := ⟨_, rfl⟩
  obtain ⟨b, hb⟩ : ∃ b, b = top s := ⟨_, rfl⟩
  have HT : Hid (∀ W, At X s W → Calls Tryd.prog 142 #[.pointer (some ⟨X.R, 0, none⟩)] W (fun e w' => e = .returned (.tuple #[.int .i64 a, .int .i64 b]) ∧ At X (drop (drop s)) w')) := by
    rw [Lib.hid_eq, ha, hb]
    exact fun W h => takeTwo_any X HX.out s W h
  have HE : Hid (two (fun a b => if a = b then 1 else 0) s = push (if decide (a = b) = true then 1 else 0) (drop (drop s))) := by
    rw [Lib.hid_eq, ha, hb]
    simp only [two, decide_eq_true_eq]
  clear ha hb
  go_enter Tryd.func121, Tryd.ntmps121
  go_wp2_with (first
    | (go_at_call 142; refine (HT.out _ HS.out).mono ?_; rintro e w1 ⟨rfl, h1⟩; have H1 := Lib.hid h1; clear h1)
    | (go_at_call 143; refine (pushTruth_any X HX.out _ _ H1.out _).mono ?_; rintro e w2 ⟨rfl, h2⟩; have H2 := Lib.hid h2; clear h2))
  go_end0
  refine ⟨rfl, ?_⟩
  rw [HE.out]
  exact H2.out
set_option maxHeartbeats 1000000 in
theorem time_any (X : Fx) (hX : X.Ok) (s : Run) (W : World) (h : At X s W) (n : Int) : Calls Tryd.prog 113 #[.pointer (some ⟨X.R, 0, none⟩), .int .i64 n] W (Done X (push X.e.time s)) := by
  have HS := Lib.hid h
  have HX := Lib.hid hX
  obtain ⟨vv, sv, tv, h⟩ := h
  have c1 := h.event.1
  clear h hX
  go_enter Tryd.func113, Tryd.ntmps113
  go_wp2_with (first
    | (go_at_call 110; refine (push_any X HX.out _ _ HS.out _).mono ?_; rintro e w2 ⟨rfl, h2⟩; have H2 := Lib.hid h2; clear h2))
  go_end0
  exact ⟨rfl, H2.out⟩
set_option maxHeartbeats 1000000 in
theorem data_any (X : Fx) (hX : X.Ok) (s : Run) (W : World) (h : At X s W) (n : Int) : Calls Tryd.prog 114 #[.pointer (some ⟨X.R, 0, none⟩), .int .i64 n] W (Done X (push X.e.data s)) := by
  have HS := Lib.hid h
  have HX := Lib.hid hX
  obtain ⟨vv, sv, tv, h⟩ := h
  have c1 := h.event.2.2.2.2.2
  clear h hX
  go_enter Tryd.func114, Tryd.ntmps114
  go_wp2_with (first
    | (go_at_call 110; refine (push_any X HX.out _ _ HS.out _).mono ?_; rintro e w2 ⟨rfl, h2⟩; have H2 := Lib.hid h2; clear h2))
  go_end0
  exact ⟨rfl, H2.out⟩
set_option maxHeartbeats 1000000 in
theorem self_any (X : Fx) (hX : X.Ok) (s : Run) (W : World) (h : At X s W) (n : Int) : Calls Tryd.prog 115 #[.pointer (some ⟨X.R, 0, none⟩), .int .i64 n] W (Done X (push X.m.self s)) := by
  have HS := Lib.hid h
  have HX := Lib.hid hX
  obtain ⟨vv, sv, tv, h⟩ := h
  have c1 := h.cells.1
  have c2 := (h.mcells hX).1
  have hs := hX.self
  clear h hX
  go_enter Tryd.func115, Tryd.ntmps115
  go_wp2_with (first
    | (go_at_call 110; refine (push_any X HX.out _ _ HS.out _).mono ?_; rintro e w2 ⟨rfl, h2⟩; have H2 := Lib.hid h2; clear h2))
  go_end0
  exact ⟨rfl, H2.out⟩
theorem St.jump {X : Fx} {W : World} {s : Run} {vv sv tv : Value} (h : St X W s vv sv tv) (hX : X.Ok) (k : Nat) : St X (W.setCell ⟨X.R, 8, none⟩ (.int .i64 (k : Int))) { s with next := k } vv sv tv :=
  h.turn hX 8 _ rfl h.room ⟨rfl, rfl⟩ ⟨rfl, rfl⟩ ⟨rfl, rfl⟩
set_option maxHeartbeats 1000000 in
theorem jump_any (X : Fx) (hX : X.Ok) (s : Run) (W : World) (h : At X s W) (k : Nat) (_hk : k ≤ 128) : Calls Tryd.prog 122 #[.pointer (some ⟨X.R, 0, none⟩), .int .i64 (k : Int)] W (Done X { s with next := k }) := by
  have HX := Lib.hid hX
  obtain ⟨vv, sv, tv, h⟩ := h
  have HS := Lib.hid h
  have c8 := h.cells.2.2.1
  have f8 := h.free 8
  clear h hX
  go_enter Tryd.func122, Tryd.ntmps122
  go_wp2
  go_end0
  exact ⟨rfl, vv, sv, tv, HS.out.jump HX.out k⟩
set_option maxHeartbeats 1000000 in
theorem zero_any (X : Fx) (hX : X.Ok) (s : Run) (W : World) (h : At X s W) (k : Nat) (hk : k ≤ 128) : Calls Tryd.prog 123 #[.pointer (some ⟨X.R, 0, none⟩), .int .i64 (k : Int)] W (Done X (if top s = 0 then { drop s with next := k } else drop s)) := by
  have HS := Lib.hid h
  have HX := Lib.hid hX
  clear h hX
  obtain ⟨a, ha⟩ : ∃ a, a = top s := ⟨_, rfl⟩
  have HT : Hid (∀ W, At X s W → Calls Tryd.prog 140 #[.pointer (some ⟨X.R, 0, none⟩)] W (fun e w' => e = .returned (.int .i64 a) ∧ At X (drop s) w')) := by
    rw [Lib.hid_eq, ha]
    exact fun W h => take_any X HX.out s W h
  rw [← ha]
  clear ha
  by_cases h0 : a = 0
  · rw [if_pos h0]
    subst h0
    go_enter Tryd.func123, Tryd.ntmps123
    go_wp2_with (first
      | (go_at_call 140; refine (HT.out _ HS.out).mono ?_; rintro e w1 ⟨rfl, h1⟩; have H1 := Lib.hid h1; clear h1)
      | (go_at_call 122; refine (jump_any X HX.out _ _ H1.out k hk).mono ?_; rintro e w2 ⟨rfl, h2⟩; have H2 := Lib.hid h2; clear h2))
    go_end0
    exact ⟨rfl, H2.out⟩
  · rw [if_neg h0]
    have hb : (a == 0) = false := by simpa using h0
    go_enter Tryd.func123, Tryd.ntmps123
    go_wp2_with (first
      | (go_at_call 140; refine (HT.out _ HS.out).mono ?_; rintro e w1 ⟨rfl, h1⟩; have H1 := Lib.hid h1; clear h1))
    go_end0
    exact ⟨rfl, H1.out⟩
set_option maxHeartbeats 1000000 in
theorem end_any (X : Fx) (hX : X.Ok) (s : Run) (W : World) (h : At X s W) (n : Int) : Calls Tryd.prog 126 #[.pointer (some ⟨X.R, 0, none⟩), .int .i64 n] W (Done X { s with next := X.cd.length }) := by
  have HX := Lib.hid hX
  obtain ⟨vv, sv, tv, h⟩ := h
  have HS := Lib.hid h
  have c8 := h.cells.2.2.1
  have c7 := h.cells.2.1
  have f8 := h.free 8
  clear h hX
  go_enter Tryd.func126, Tryd.ntmps126
  go_wp2
  go_end0
  exact ⟨rfl, vv, sv, tv, HS.out.jump HX.out _⟩
/-- a variable -/
theorem St.var {X : Fx} {W : World} {s : Run} {vv sv tv : Value} (h : St X W s vv sv tv) (hn : s.vars.length ≤ 8) {k : Nat} (hk : k < s.vars.length) : ∃ V c, vv = .slice (some ⟨V, 0, none⟩) s.vars.length c ∧ W.cell? ⟨V, k, none⟩ = some (.int .i64 (s.vars.getD k 0)) := by
  obtain ⟨a, c, rfl, _, hat, _, hsh⟩ := h.vars.at_ (by omega)
  obtain ⟨B, off, rfl, _, x, hx, hc⟩ := hat.cell hk
  rcases hsh with ⟨h1, _⟩ | ⟨g, h1⟩
  · cases h1
  · cases h1
    refine ⟨B, c, rfl, ?_⟩
    have := hc 0 (by decide)
    have e : s.vars.getD k 0 = x := by simp [List.getD, hx]
    rw [e]
    simpa [CV] using this
set_option maxHeartbeats 1000000 in
theorem load_any (X : Fx) (hX : X.Ok) (s : Run) (W : World) (h : At X s W) (hn : s.vars.length ≤ 8) (k : Nat) (hk : k < s.vars.length) : Calls Tryd.prog 111 #[.pointer (some ⟨X.R, 0, none⟩), .int .i64 (k : Int)] W (Done X (push (s.vars.getD k 0) s)) := by
  have HS := Lib.hid h
  have HX := Lib.hid hX
  obtain ⟨vv, sv, tv, h⟩ := h
  have c9 := h.cells.2.2.2.1
  obtain ⟨V, c, rfl, hc⟩ := h.var hn hk
  have hkI : (k : Int) < (s.vars.length : Int) := by omega
  obtain ⟨x, hx⟩ : ∃ x, x = s.vars.getD k 0 := ⟨_, rfl⟩
  rw [← hx] at hc ⊢
  clear h hX hx
  go_enter Tryd.func111, Tryd.ntmps111
  go_wp2_with (first
    | (go_at_call 110; refine (push_any X HX.out _ _ HS.out _).mono ?_; rintro e w2 ⟨rfl, h2⟩; have H2 := Lib.hid h2; clear h2))
  go_end0
  exact ⟨rfl, H2.out⟩
end Go.Proofs.YthhpoihfaggafaaDoor
