/- The law TurnDoes answers true for every number and every point, where the library's table of powers is as the program's text lays it: each turn brings points as its matrix does. -/
import Derived.Test.YtppifnglkjcclaaDoorTurnAlive
import Derived.Test.YtppifnglkjcclaaDoorTurnLaid
import Derived.Test.YtppifnglkjcclaaDoorTurnMat
import Derived.RowKit3
import Derived.OpenShut
namespace Go.Proofs.YtppifnglkjcclaaDoor
open Go.RowKit
set_option linter.unusedVariables false

theorem run_same2 (a b : Int) (w : World) : (binOp .eql 23 (.agg #[.int .i64 a, .int .i64 b]) (.agg #[.int .i64 a, .int .i64 b])).run Tryd.prog w = .ok (.bool true) w := by simp [go_sem]

set_option maxRecDepth 100000 in
set_option maxHeartbeats 2000000 in
theorem does_core (t x y X Y a b c d p1 p2 p3 : Int) (M S : Bool) (w : World) (hg : Tab w) (e1 : IntKind.i64.wrap (a * d) = p1) (e2 : IntKind.i64.wrap (b * c) = p2) (e3 : IntKind.i64.wrap (p1 - p2) = p3) (h3 : decide (p3 < 0) = M) (h4 : (a == 0) = S)
    (KO : ∀ w, Calls Tryd.prog 7 #[.int .i64 t] w fun e w' => e = .returned (.agg #[.int .i64 a, .int .i64 b, .int .i64 c, .int .i64 d]) ∧ Below w.heap.size w w')
    (KD : ∀ w, Calls Tryd.prog 8 #[.agg #[.int .i64 a, .int .i64 b, .int .i64 c, .int .i64 d], .int .i64 x, .int .i64 y] w fun e w' => e = .returned (.tuple #[.int .i64 X, .int .i64 Y]) ∧ Below w.heap.size w w')
    (KT : ∀ w, Calls Tryd.prog 9 #[.int .i64 t, .agg #[.int .i64 x, .int .i64 y]] w fun e w' => e = .returned (.agg #[.int .i64 X, .int .i64 Y]) ∧ Below w.heap.size w w')
    (KM : ∀ w, Calls Tryd.prog 10 #[.int .i64 t] w fun e w' => e = .returned (.bool M) ∧ Below w.heap.size w w')
    (KS : ∀ w, Calls Tryd.prog 11 #[.int .i64 t] w fun e w' => e = .returned (.bool S) ∧ Below w.heap.size w w') :
    Calls Tryd.prog 3 #[.int .i64 t, .agg #[.int .i64 x, .int .i64 y]] w fun e w' => e = .returned (.bool true) ∧ Below w.heap.size w w' := by
  have HO := Lib.hid KO; have HD := Lib.hid KD; have HT := Lib.hid KT; have HM := Lib.hid KM; have HS := Lib.hid KS; have G := Lib.hid hg
  clear KO KD KT KM KS hg
  go_enter Tryd.func3, Tryd.ntmps3
  go_wp2_with fail
  refine (alive_any _ (G.out.below (up_alloc (Below.refl _ _) _))).mono ?_
  rintro e w1 ⟨rfl, hb⟩
  have x0 := bl_cell (p := ⟨w.heap.size, 0, none⟩) (v := .int .i64 x) hb (by simp [go_sem])
  have y0 := bl_cell (p := ⟨w.heap.size, 1, none⟩) (v := .int .i64 y) hb (by simp [go_sem])
  have B1 := Lib.hid (up_trans (up_alloc (Below.refl _ _) _) hb); clear hb
  go_wp2_with fail
  refine (HO.out _).mono ?_
  rintro e w2 ⟨rfl, hb⟩
  have x1 := bl_cell hb x0
  have y1 := bl_cell hb y0
  have B2 := Lib.hid (up_trans B1.out hb); clear hb x0 y0
  have x2 := bl_cell (up_alloc (Below.refl _ _) (.cells #[.int .i64 a, .int .i64 b, .int .i64 c, .int .i64 d] 26)) x1
  have y2 := bl_cell (up_alloc (Below.refl _ _) (.cells #[.int .i64 a, .int .i64 b, .int .i64 c, .int .i64 d] 26)) y1
  go_wp2_with fail
  refine (HD.out _).mono ?_
  rintro e w3 ⟨rfl, hb⟩
  have X0 := bl_cell hb x2
  have X1 := bl_cell hb y2
  have M0 := bl_cell (p := ⟨w2.heap.size, 0, none⟩) (v := .int .i64 a) hb (by simp [go_sem])
  have M1 := bl_cell (p := ⟨w2.heap.size, 1, none⟩) (v := .int .i64 b) hb (by simp [go_sem])
  have M2 := bl_cell (p := ⟨w2.heap.size, 2, none⟩) (v := .int .i64 c) hb (by simp [go_sem])
  have M3 := bl_cell (p := ⟨w2.heap.size, 3, none⟩) (v := .int .i64 d) hb (by simp [go_sem])
  have B3 := Lib.hid (up_trans (up_alloc B2.out _) hb); clear hb x1 y1 x2 y2
  generalize w2.heap.size = BM at *
  have jX0 := fun u : Later w3 => u.cell X0; have jX1 := fun u : Later w3 => u.cell X1
  have jM0 := fun u : Later w3 => u.cell M0; have jM1 := fun u : Later w3 => u.cell M1; have jM2 := fun u : Later w3 => u.cell M2; have jM3 := fun u : Later w3 => u.cell M3
  clear X0 X1 M0 M1 M2 M3
  have q := fun w => run_same2 X Y w
  go_wp2_with fail
  refine later_start (w := w3) ?_
  intro u
  refine wp_region_later (by kernel_rfl) (by kernel_rfl) ?_
  repeat (go_big_quiet_step (first
    | (go_at_call 9; with_reducible exact Later.call (HT.out _))
    | (go_at_call 10; with_reducible exact Later.call (HM.out _))
    | (go_at_call 11; with_reducible exact Later.call (HS.out _))))
  refine wpQuiet_nil ?_
  rintro _ ⟨u2, rfl⟩
  go_wp2
  go_ret
  exact ⟨rfl, up_trans B3.out u2.up⟩

theorem mat_does (i : Fin 8) (x y : Int) (h0 : -9223372036854775808 ≤ x) (h1 : x ≤ 9223372036854775807) (k0 : -9223372036854775808 ≤ y) (k1 : y ≤ 9223372036854775807) : mdo (mx (i.val : Int)) x y = doT (i.val : Int) x y := by
  have H : ∀ r : Int, (r = 0 ∨ r = 1 ∨ r = 2 ∨ r = 3 ∨ r = 4 ∨ r = 5 ∨ r = 6 ∨ r = 7) → mdo (mx r) x y = doT r x y := by
    intro r hr
    rcases hr with rfl | rfl | rfl | rfl | rfl | rfl | rfl | rfl
    all_goals
      simp only [mdo, mx, doT, neg64, IntKind.wrap_i64]
      refine Prod.ext ?_ ?_ <;> simp <;> omega
  have hi := i.isLt
  exact H _ (by omega)
theorem mat_signs (i : Fin 8) : decide (IntKind.i64.wrap (IntKind.i64.wrap ((mx (i.val : Int)).a * (mx (i.val : Int)).d) - IntKind.i64.wrap ((mx (i.val : Int)).b * (mx (i.val : Int)).c)) < 0) = mir (i.val : Int) ∧ ((mx (i.val : Int)).a == 0) = swp (i.val : Int) := by
  have : ∀ i : Fin 8, decide (IntKind.i64.wrap (IntKind.i64.wrap ((mx (i.val : Int)).a * (mx (i.val : Int)).d) - IntKind.i64.wrap ((mx (i.val : Int)).b * (mx (i.val : Int)).c)) < 0) = mir (i.val : Int) ∧ ((mx (i.val : Int)).a == 0) = swp (i.val : Int) := by decide +kernel
  exact this i
theorem does_fin (a : Int) : ∃ i : Fin 8, a % 8 = (i.val : Int) := ⟨⟨(a % 8).toNat, by omega⟩, by simp; omega⟩
theorem mirrors_b (t : Int) (w : World) : Calls Tryd.prog 10 #[.int .i64 t] w fun e w' => e = .returned (.bool (mir t)) ∧ Below w.heap.size w w' :=
  (mirrors_any t w).mono fun _ _ ⟨he, hw⟩ => ⟨he, by rw [hw]; exact Below.refl _ _⟩
theorem swaps_b (t : Int) (w : World) : Calls Tryd.prog 11 #[.int .i64 t] w fun e w' => e = .returned (.bool (swp t)) ∧ Below w.heap.size w w' :=
  (swaps_any t w).mono fun _ _ ⟨he, hw⟩ => ⟨he, by rw [hw]; exact Below.refl _ _⟩

theorem walkTurnDoes (t x y : Int) (w : World) (h0 : (Lit.int .i64 t).wf = true) (hx : (Lit.int .i64 x).wf = true) (hy : (Lit.int .i64 y).wf = true) (hg : Tab w) :
    Calls Tryd.prog 3 #[.int .i64 t, .agg #[.int .i64 x, .int .i64 y]] w fun e w' => e = .returned (.bool true) ∧ Below w.heap.size w w' := by
  obtain ⟨x0, x1⟩ := bounds_i64 hx
  obtain ⟨y0, y1⟩ := bounds_i64 hy
  obtain ⟨i, hi⟩ := does_fin t
  obtain ⟨s1, s2⟩ := mat_signs i
  have e := mat_does i x y x0 x1 y0 y1
  refine does_core t x y (doT (i.val : Int) x y).1 (doT (i.val : Int) x y).2 (mx (i.val : Int)).a (mx (i.val : Int)).b (mx (i.val : Int)).c (mx (i.val : Int)).d _ _ _ (mir (i.val : Int)) (swp (i.val : Int)) w hg rfl rfl rfl s1 s2 ?_ ?_ ?_ ?_ ?_
  · intro w; have := refOf_any t w; rwa [hi] at this
  · intro w; have := refDo_any (mx (i.val : Int)) x y w; rwa [e] at this
  · intro w; have := do_any t x y w x0 x1 y0 y1; rwa [hi] at this
  · intro w
    have := mirrors_b t w
    rwa [show mir t = mir (i.val : Int) by rw [← hi]; unfold mir; rw [show t % 8 % 8 = t % 8 by omega]] at this
  · intro w
    have := swaps_b t w
    rwa [show swp t = swp (i.val : Int) by rw [← hi]; unfold swp; rw [rem4]] at this
end Go.Proofs.YtppifnglkjcclaaDoor
