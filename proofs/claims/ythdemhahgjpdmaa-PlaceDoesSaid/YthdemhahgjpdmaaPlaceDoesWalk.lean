/- The law PlaceDoes answers true for every place, point, rectangle and number: a place brings points, and rectangles, as its turn and its way do. -/
import Derived.Test.YthdemhahgjpdmaaPlaceAlive
import Derived.Test.YthdemhahgjpdmaaPlaceRef
namespace Go.Proofs.Ythdemhahgjpdmaa
open Go.RowKit
set_option linter.unusedVariables false

set_option maxRecDepth 100000 in
set_option maxHeartbeats 2000000 in
theorem pdoes_core (t X Y x y x0 y0 x1 y1 n p1 p2 m0 m1 m2 m3 s1 s2 : Int) (w : World) (e1 : IntKind.i64.wrap (n - x) = s1) (e2 : IntKind.i64.wrap (n - y) = s2)
    (KD : ∀ w, Calls Try.prog 7 #[.agg #[.int .i64 t, .int .i64 X, .int .i64 Y], .agg #[.int .i64 x, .int .i64 y]] w fun e w' => e = .returned (.agg #[.int .i64 p1, .int .i64 p2]) ∧ Below w.heap.size w w')
    (RD : ∀ w, Calls Try.prog 8 #[.agg #[.int .i64 t, .int .i64 X, .int .i64 Y], .agg #[.int .i64 x, .int .i64 y]] w fun e w' => e = .returned (.agg #[.int .i64 p1, .int .i64 p2]) ∧ Below w.heap.size w w')
    (KB : ∀ w, Calls Try.prog 9 #[.agg #[.int .i64 t, .int .i64 X, .int .i64 Y], .agg #[.int .i64 x0, .int .i64 y0, .int .i64 x1, .int .i64 y1]] w fun e w' => e = .returned (.agg #[.int .i64 m0, .int .i64 m1, .int .i64 m2, .int .i64 m3]) ∧ Below w.heap.size w w')
    (RB : ∀ w, Calls Try.prog 10 #[.agg #[.int .i64 t, .int .i64 X, .int .i64 Y], .agg #[.int .i64 x0, .int .i64 y0, .int .i64 x1, .int .i64 y1]] w fun e w' => e = .returned (.agg #[.int .i64 m0, .int .i64 m1, .int .i64 m2, .int .i64 m3]) ∧ Below w.heap.size w w')
    (D4 : ∀ w, Calls Try.prog 7 #[.agg #[.int .i64 4, .int .i64 n, .int .i64 0], .agg #[.int .i64 x, .int .i64 y]] w fun e w' => e = .returned (.agg #[.int .i64 s1, .int .i64 y]) ∧ Below w.heap.size w w')
    (D6 : ∀ w, Calls Try.prog 7 #[.agg #[.int .i64 6, .int .i64 0, .int .i64 n], .agg #[.int .i64 x, .int .i64 y]] w fun e w' => e = .returned (.agg #[.int .i64 x, .int .i64 s2]) ∧ Below w.heap.size w w') :
    Calls Try.prog 3 #[.agg #[.int .i64 t, .int .i64 X, .int .i64 Y], .agg #[.int .i64 x, .int .i64 y], .agg #[.int .i64 x0, .int .i64 y0, .int .i64 x1, .int .i64 y1], .int .i64 n] w fun e w' => e = .returned (.bool true) ∧ Below w.heap.size w w' := by
  have HD := Lib.hid KD; have HR := Lib.hid RD; have HB := Lib.hid KB; have HG := Lib.hid RB; have H4 := Lib.hid D4; have H6 := Lib.hid D6
  have HX := Lib.hid fun w => flipX_any n w; have HY := Lib.hid fun w => flipY_any n w; have HM := Lib.hid fun w => move_any n x w
  clear KD RD KB RB D4 D6
  go_enter Try.func3, Try.ntmps3
  go_wp2_with fail
  refine (alive_any _).mono ?_
  rintro e w1 ⟨rfl, hb⟩
  have A := (((Bx.new w 23 [.int .i64 t, .int .i64 X, .int .i64 Y]).alloc (.cells #[.int .i64 x, .int .i64 y] 25)).alloc (.cells #[.int .i64 x0, .int .i64 y0, .int .i64 x1, .int .i64 y1] 27)).up hb
  have P := ((Bx.new (w.alloc (.cells #[.int .i64 t, .int .i64 X, .int .i64 Y] 23)) 25 [.int .i64 x, .int .i64 y]).alloc (.cells #[.int .i64 x0, .int .i64 y0, .int .i64 x1, .int .i64 y1] 27)).up hb
  have R := (Bx.new ((w.alloc (.cells #[.int .i64 t, .int .i64 X, .int .i64 Y] 23)).alloc (.cells #[.int .i64 x, .int .i64 y] 25)) 27 [.int .i64 x0, .int .i64 y0, .int .i64 x1, .int .i64 y1]).up hb
  simp only [World.size_alloc] at P R
  have B1 := Lib.hid (up_trans (up_alloc (up_alloc (up_alloc (Below.refl _ w) _) _) _) hb)
  clear hb
  have a0 := fun u : Later w1 => u.cell (A.cell 0 rfl); have a1 := fun u : Later w1 => u.cell (A.cell 1 rfl); have a2 := fun u : Later w1 => u.cell (A.cell 2 rfl)
  have b0 := fun u : Later w1 => u.cell (P.cell 0 rfl); have b1 := fun u : Later w1 => u.cell (P.cell 1 rfl)
  have c0 := fun u : Later w1 => u.cell (R.cell 0 rfl); have c1 := fun u : Later w1 => u.cell (R.cell 1 rfl); have c2 := fun u : Later w1 => u.cell (R.cell 2 rfl); have c3 := fun u : Later w1 => u.cell (R.cell 3 rfl)
  clear A P R
  have q1 := fun w => run_ne2 p1 p2 w; have q2 := fun w => run_ne4 m0 m1 m2 m3 w
  have q3 := fun w => run_eq2 s1 y w; have q4 := fun w => run_eq2 x s2 w; have q5 := fun w => run_eq3 0 n x w
  go_wp2_with fail
  refine later_start (w := w1) ?_
  intro u
  refine wp_region_later (by kernel_rfl) (by kernel_rfl) ?_
  repeat (go_big_quiet_step (first
    | (go_at_call 7; with_reducible exact Later.call (HD.out _))
    | (go_at_call 8; with_reducible exact Later.call (HR.out _))
    | (go_at_call 9; with_reducible exact Later.call (HB.out _))
    | (go_at_call 10; with_reducible exact Later.call (HG.out _))))
  refine wpQuiet_nil ?_
  rintro _ ⟨u2, rfl⟩
  go_wp2_with fail
  refine wp_region_later (by kernel_rfl) (by kernel_rfl) ?_
  repeat (go_big_quiet_step (first
    | (go_at_call 11; with_reducible exact Later.call (HX.out _))
    | (go_at_call 12; with_reducible exact Later.call (HY.out _))
    | (go_at_call 13; with_reducible exact Later.call (HM.out _))
    | (go_at_call 7; first | (with_reducible exact Later.call (H4.out _)) | (with_reducible exact Later.call (H6.out _)))))
  refine wpQuiet_nil ?_
  rintro _ ⟨u3, rfl⟩
  go_wp2
  go_ret
  exact ⟨rfl, up_trans B1.out u3.up⟩

theorem flip_x (n x y : Int) (y0 : -9223372036854775808 ≤ y) (y1 : y ≤ 9223372036854775807) : pdo 4 n 0 x y = (IntKind.i64.wrap (n - x), y) := by
  show (IntKind.i64.wrap (IntKind.i64.wrap (-x) + n), IntKind.i64.wrap (y + 0)) = _
  refine Prod.ext ?_ ?_ <;> simp only [IntKind.wrap_i64] <;> omega
theorem flip_y (n x y : Int) (x0 : -9223372036854775808 ≤ x) (x1 : x ≤ 9223372036854775807) : pdo 6 0 n x y = (x, IntKind.i64.wrap (n - y)) := by
  show (IntKind.i64.wrap (x + 0), IntKind.i64.wrap (IntKind.i64.wrap (-y) + n)) = _
  refine Prod.ext ?_ ?_ <;> simp only [IntKind.wrap_i64] <;> omega
theorem walkPlaceDoes (t X Y x y x0 y0 x1 y1 n : Int) (w : World) (ht : (Lit.int .i64 t).wf = true) (hX : (Lit.int .i64 X).wf = true) (hY : (Lit.int .i64 Y).wf = true) (hx : (Lit.int .i64 x).wf = true) (hy : (Lit.int .i64 y).wf = true)
    (h0 : (Lit.int .i64 x0).wf = true) (h1 : (Lit.int .i64 y0).wf = true) (h2 : (Lit.int .i64 x1).wf = true) (h3 : (Lit.int .i64 y1).wf = true) (hn : (Lit.int .i64 n).wf = true) :
    Calls Try.prog 3 #[.agg #[.int .i64 t, .int .i64 X, .int .i64 Y], .agg #[.int .i64 x, .int .i64 y], .agg #[.int .i64 x0, .int .i64 y0, .int .i64 x1, .int .i64 y1], .int .i64 n] w fun e w' => e = .returned (.bool true) ∧ Below w.heap.size w w' := by
  obtain ⟨xl, xh⟩ := bounds_i64 hx
  obtain ⟨yl, yh⟩ := bounds_i64 hy
  refine pdoes_core t X Y x y x0 y0 x1 y1 n _ _ _ _ _ _ _ _ w rfl rfl (fun w => pdo_any t X Y x y w xl xh yl yh) (fun w => refPdo_any t X Y x y w xl xh yl yh) (fun w => pbox_any t X Y x0 y0 x1 y1 w h0 h1 h2 h3) (fun w => refPbox_any t X Y x0 y0 x1 y1 w h0 h1 h2 h3) ?_ ?_
  · intro w; have := pdo_any 4 n 0 x y w xl xh yl yh; rwa [flip_x n x y yl yh] at this
  · intro w; have := pdo_any 6 0 n x y w xl xh yl yh; rwa [flip_y n x y xl xh] at this
end Go.Proofs.Ythdemhahgjpdmaa
