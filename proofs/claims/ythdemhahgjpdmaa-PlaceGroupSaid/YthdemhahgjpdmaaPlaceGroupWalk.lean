/- The law PlaceGroup answers true for every two places and every point: one place behind another one does both; each is undone. -/
import Derived.Test.YthdemhahgjpdmaaPlaceAlive
import Derived.Test.YthdemhahgjpdmaaPlaceRef
import Derived.Test.YthdemhahgjpdmaaPlaceMath
import Derived.Test.YthdemhahgjpdmaaAnyOrder
namespace Go.Proofs.Ythdemhahgjpdmaa
open Go.RowKit
set_option linter.unusedVariables false

set_option maxRecDepth 100000 in
set_option maxHeartbeats 2000000 in
theorem pgroup_core (t X Y t' X' Y' x y k X2 Y2 b Xb Yb p1 p2 q1 q2 : Int) (w : World) (hb0 : 0 ≤ b) (hb7 : b ≤ 7)
    (KT : ∀ w, Calls Try.prog 14 #[.agg #[.int .i64 t, .int .i64 X, .int .i64 Y], .agg #[.int .i64 t', .int .i64 X', .int .i64 Y']] w fun e w' => e = .returned (.agg #[.int .i64 k, .int .i64 X2, .int .i64 Y2]) ∧ Below w.heap.size w w')
    (KB : ∀ w, Calls Try.prog 15 #[.agg #[.int .i64 t, .int .i64 X, .int .i64 Y]] w fun e w' => e = .returned (.agg #[.int .i64 b, .int .i64 Xb, .int .i64 Yb]) ∧ Below w.heap.size w w')
    (RT : ∀ w, Calls Try.prog 16 #[.agg #[.int .i64 t, .int .i64 X, .int .i64 Y], .agg #[.int .i64 t', .int .i64 X', .int .i64 Y']] w fun e w' => e = .returned (.agg #[.int .i64 k, .int .i64 X2, .int .i64 Y2]) ∧ Below w.heap.size w w')
    (D1 : ∀ w, Calls Try.prog 7 #[.agg #[.int .i64 k, .int .i64 X2, .int .i64 Y2], .agg #[.int .i64 x, .int .i64 y]] w fun e w' => e = .returned (.agg #[.int .i64 q1, .int .i64 q2]) ∧ Below w.heap.size w w')
    (D2 : ∀ w, Calls Try.prog 7 #[.agg #[.int .i64 t, .int .i64 X, .int .i64 Y], .agg #[.int .i64 x, .int .i64 y]] w fun e w' => e = .returned (.agg #[.int .i64 p1, .int .i64 p2]) ∧ Below w.heap.size w w')
    (D3 : ∀ w, Calls Try.prog 7 #[.agg #[.int .i64 t', .int .i64 X', .int .i64 Y'], .agg #[.int .i64 p1, .int .i64 p2]] w fun e w' => e = .returned (.agg #[.int .i64 q1, .int .i64 q2]) ∧ Below w.heap.size w w')
    (D4 : ∀ w, Calls Try.prog 7 #[.agg #[.int .i64 b, .int .i64 Xb, .int .i64 Yb], .agg #[.int .i64 p1, .int .i64 p2]] w fun e w' => e = .returned (.agg #[.int .i64 x, .int .i64 y]) ∧ Below w.heap.size w w')
    (T1 : ∀ w, Calls Try.prog 14 #[.agg #[.int .i64 t, .int .i64 X, .int .i64 Y], .agg #[.int .i64 b, .int .i64 Xb, .int .i64 Yb]] w fun e w' => e = .returned (.agg #[.int .i64 0, .int .i64 0, .int .i64 0]) ∧ Below w.heap.size w w')
    (T2 : ∀ w, Calls Try.prog 14 #[.agg #[.int .i64 b, .int .i64 Xb, .int .i64 Yb], .agg #[.int .i64 t, .int .i64 X, .int .i64 Y]] w fun e w' => e = .returned (.agg #[.int .i64 0, .int .i64 0, .int .i64 0]) ∧ Below w.heap.size w w') :
    Calls Try.prog 4 #[.agg #[.int .i64 t, .int .i64 X, .int .i64 Y], .agg #[.int .i64 t', .int .i64 X', .int .i64 Y'], .agg #[.int .i64 x, .int .i64 y]] w fun e w' => e = .returned (.bool true) ∧ Below w.heap.size w w' := by
  have HT := Lib.hid KT; have HB := Lib.hid KB; have HR := Lib.hid RT; have H1 := Lib.hid D1; have H2 := Lib.hid D2; have H3 := Lib.hid D3; have H4 := Lib.hid D4; have H5 := Lib.hid T1; have H6 := Lib.hid T2
  clear KT KB RT D1 D2 D3 D4 T1 T2
  go_enter Try.func4, Try.ntmps4
  go_wp2_with fail
  refine (alive_any _).mono ?_
  rintro e w1 ⟨rfl, hb⟩
  have A := (((Bx.new w 23 [.int .i64 t, .int .i64 X, .int .i64 Y]).alloc (.cells #[.int .i64 t', .int .i64 X', .int .i64 Y'] 23)).alloc (.cells #[.int .i64 x, .int .i64 y] 25)).up hb
  have C := ((Bx.new (w.alloc (.cells #[.int .i64 t, .int .i64 X, .int .i64 Y] 23)) 23 [.int .i64 t', .int .i64 X', .int .i64 Y']).alloc (.cells #[.int .i64 x, .int .i64 y] 25)).up hb
  have P := (Bx.new ((w.alloc (.cells #[.int .i64 t, .int .i64 X, .int .i64 Y] 23)).alloc (.cells #[.int .i64 t', .int .i64 X', .int .i64 Y'] 23)) 25 [.int .i64 x, .int .i64 y]).up hb
  simp only [World.size_alloc] at C P
  have B1 := Lib.hid (up_trans (up_alloc (up_alloc (up_alloc (Below.refl _ w) _) _) _) hb)
  clear hb
  go_wp2_with fail
  refine wp_region_boxes' 7 63 [(5, 7), (6, 8)] [23] (fun _ => [.int .i64 0, .int .i64 0, .int .i64 0]) (by kernel_rfl) (by kernel_rfl) rfl (fun ty hty o ρ w' ho => by simp only [List.mem_singleton] at hty; subst hty; simp [execOp, ho, go_sem])
    ⟨_, fun v0 h0 K HK => by
      have a0 := fun u : Later v0 => u.cell ((A.up h0).cell 0 rfl); have a1 := fun u : Later v0 => u.cell ((A.up h0).cell 1 rfl); have a2 := fun u : Later v0 => u.cell ((A.up h0).cell 2 rfl)
      have c0 := fun u : Later v0 => u.cell ((C.up h0).cell 0 rfl); have c1 := fun u : Later v0 => u.cell ((C.up h0).cell 1 rfl); have c2 := fun u : Later v0 => u.cell ((C.up h0).cell 2 rfl)
      simp only [List.take_succ_cons, List.take_zero, List.filter_cons, List.filter_nil, isAlloc, Bool.not_true, Bool.not_false, if_true, Bool.false_eq_true, if_false]
      repeat (go_big_quiet_step (first
        | (go_at_call 14; with_reducible exact Later.call (HT.out _))
        | (go_at_call 15; with_reducible exact Later.call (HB.out _))))
      exact wpQuiet_nil (HK.out _ rfl), ?tail⟩
  case tail =>
    intro gf w2 h2 hg hne
    obtain ⟨lg, G⟩ := hg (5, 7) (by simp) _ _ rfl rfl
    obtain ⟨lh, H⟩ := hg (6, 8) (by simp) _ _ rfl rfl
    have ne := hne (5, 7) (by simp) (6, 8) (by simp) (by decide)
    simp only [puts, List.drop_succ_cons, List.drop_zero] at lg G lh H ne ⊢
    generalize gf 5 = g at *
    generalize gf 6 = h at *
    clear hg hne
    have ne' : h ≠ g := fun e => ne e.symm
    have g0 := G.cell 0 rfl; have g1 := G.cell 1 rfl; have g2 := G.cell 2 rfl; have gF := G.free
    have h0 := H.cell 0 rfl; have h1 := H.cell 1 rfl; have h2' := H.cell 2 rfl; have hF := H.free
    go_wp2_with fail
    have G3 : Bx ((((((w2.setCell ⟨g, 0, none⟩ (.int .i64 k)).setCell ⟨g, 1, none⟩ (.int .i64 X2)).setCell ⟨g, 2, none⟩ (.int .i64 Y2)).setCell ⟨h, 0, none⟩ (.int .i64 b)).setCell ⟨h, 1, none⟩ (.int .i64 Xb)).setCell ⟨h, 2, none⟩ (.int .i64 Yb)) g _ := (((G.set3 (.int .i64 k) (.int .i64 X2) (.int .i64 Y2)).far (p := ⟨h, 0, none⟩) ne' (.int .i64 b)).far (p := ⟨h, 1, none⟩) ne' (.int .i64 Xb)).far (p := ⟨h, 2, none⟩) ne' (.int .i64 Yb)
    have H3 : Bx ((((((w2.setCell ⟨g, 0, none⟩ (.int .i64 k)).setCell ⟨g, 1, none⟩ (.int .i64 X2)).setCell ⟨g, 2, none⟩ (.int .i64 Y2)).setCell ⟨h, 0, none⟩ (.int .i64 b)).setCell ⟨h, 1, none⟩ (.int .i64 Xb)).setCell ⟨h, 2, none⟩ (.int .i64 Yb)) h _ := (((H.far (p := ⟨g, 0, none⟩) ne (.int .i64 k)).far (p := ⟨g, 1, none⟩) ne (.int .i64 X2)).far (p := ⟨g, 2, none⟩) ne (.int .i64 Y2)).set3 (.int .i64 b) (.int .i64 Xb) (.int .i64 Yb)
    have u3 : Below w1.heap.size w1 ((((((w2.setCell ⟨g, 0, none⟩ (.int .i64 k)).setCell ⟨g, 1, none⟩ (.int .i64 X2)).setCell ⟨g, 2, none⟩ (.int .i64 Y2)).setCell ⟨h, 0, none⟩ (.int .i64 b)).setCell ⟨h, 1, none⟩ (.int .i64 Xb)).setCell ⟨h, 2, none⟩ (.int .i64 Yb)) := up_set (up_set (up_set (up_set (up_set (up_set h2 lg _) lg _) lg _) lh _) lh _) lh _
    generalize ((((((w2.setCell ⟨g, 0, none⟩ (.int .i64 k)).setCell ⟨g, 1, none⟩ (.int .i64 X2)).setCell ⟨g, 2, none⟩ (.int .i64 Y2)).setCell ⟨h, 0, none⟩ (.int .i64 b)).setCell ⟨h, 1, none⟩ (.int .i64 Xb)).setCell ⟨h, 2, none⟩ (.int .i64 Yb)) = w3 at *
    clear G H g0 g1 g2 gF h0 h1 h2' hF h2 lg lh
    have A3 := A.up u3; have C3 := C.up u3; have P3 := P.up u3
    have B3 := Lib.hid (up_trans B1.out u3)
    clear A C P u3
    have a0 := fun u : Later w3 => u.cell (A3.cell 0 rfl); have a1 := fun u : Later w3 => u.cell (A3.cell 1 rfl); have a2 := fun u : Later w3 => u.cell (A3.cell 2 rfl)
    have c0 := fun u : Later w3 => u.cell (C3.cell 0 rfl); have c1 := fun u : Later w3 => u.cell (C3.cell 1 rfl); have c2 := fun u : Later w3 => u.cell (C3.cell 2 rfl)
    have x0 := fun u : Later w3 => u.cell (P3.cell 0 rfl); have x1 := fun u : Later w3 => u.cell (P3.cell 1 rfl)
    have g0 := fun u : Later w3 => u.cell (G3.cell 0 rfl); have g1 := fun u : Later w3 => u.cell (G3.cell 1 rfl); have g2 := fun u : Later w3 => u.cell (G3.cell 2 rfl)
    have h0 := fun u : Later w3 => u.cell (H3.cell 0 rfl); have h1 := fun u : Later w3 => u.cell (H3.cell 1 rfl); have h2 := fun u : Later w3 => u.cell (H3.cell 2 rfl)
    clear A3 C3 P3 G3 H3
    have z1 := fun w => run_ne3 k X2 Y2 w; have z2 := fun w => run_ne2 q1 q2 w; have z3 := fun w => run_eq2 x y w; have z4 := fun w => run_eq3 0 0 0 w
    refine later_start (w := w3) ?_
    intro u
    refine wp_region_later (by kernel_rfl) (by kernel_rfl) ?_
    repeat (go_big_quiet_step (first
      | (go_at_call 16; with_reducible exact Later.call (HR.out _))
      | (go_at_call 7; first | (with_reducible exact Later.call (H1.out _)) | (with_reducible exact Later.call (H2.out _)) | (with_reducible exact Later.call (H3.out _)))))
    refine wpQuiet_nil ?_
    rintro _ ⟨u2, rfl⟩
    go_wp2_with fail
    refine wp_region_later (by kernel_rfl) (by kernel_rfl) ?_
    repeat (go_big_quiet_step (first
      | (go_at_call 7; first | (with_reducible exact Later.call (H2.out _)) | (with_reducible exact Later.call (H4.out _)))
      | (go_at_call 14; first | (with_reducible exact Later.call (H5.out _)) | (with_reducible exact Later.call (H6.out _)))))
    refine wpQuiet_nil ?_
    rintro _ ⟨u4, rfl⟩
    go_wp2
    go_ret
    exact ⟨rfl, up_trans B3.out u4.up⟩

theorem walkPlaceGroup (t X Y t' X' Y' x y : Int) (w : World) (ht : (Lit.int .i64 t).wf = true) (hX : (Lit.int .i64 X).wf = true) (hY : (Lit.int .i64 Y).wf = true) (ht' : (Lit.int .i64 t').wf = true) (hX' : (Lit.int .i64 X').wf = true) (hY' : (Lit.int .i64 Y').wf = true) (hx : (Lit.int .i64 x).wf = true) (hy : (Lit.int .i64 y).wf = true) :
    Calls Try.prog 4 #[.agg #[.int .i64 t, .int .i64 X, .int .i64 Y], .agg #[.int .i64 t', .int .i64 X', .int .i64 Y'], .agg #[.int .i64 x, .int .i64 y]] w fun e w' => e = .returned (.bool true) ∧ Below w.heap.size w w' := by
  obtain ⟨xl, xh⟩ := bounds_i64 hx
  obtain ⟨yl, yh⟩ := bounds_i64 hy
  obtain ⟨Xl, Xh⟩ := bounds_i64 hX
  obtain ⟨Yl, Yh⟩ := bounds_i64 hY
  obtain ⟨b0, b7⟩ := back_in t
  obtain ⟨e1, e2⟩ := back_then t
  obtain ⟨f1, f2⟩ := back_way t X Y Xl Xh Yl Yh
  have bl1 : -9223372036854775808 ≤ (pbackXY t X Y).1 := by
    obtain ⟨j, hj⟩ := fin8 (backT t)
    unfold pbackXY; rw [hj]; exact do_low1 j _ _ (wrap_low _) (wrap_low _)
  have bh1 : (pbackXY t X Y).1 ≤ 9223372036854775807 := by
    obtain ⟨j, hj⟩ := fin8 (backT t)
    unfold pbackXY; rw [hj]; exact do_high1 j _ _ (wrap_high _) (wrap_high _)
  have bl2 : -9223372036854775808 ≤ (pbackXY t X Y).2 := by
    obtain ⟨j, hj⟩ := fin8 (backT t)
    unfold pbackXY; rw [hj]; exact do_low2 j _ _ (wrap_low _) (wrap_low _)
  have bh2 : (pbackXY t X Y).2 ≤ 9223372036854775807 := by
    obtain ⟨j, hj⟩ := fin8 (backT t)
    unfold pbackXY; rw [hj]; exact do_high2 j _ _ (wrap_high _) (wrap_high _)
  refine pgroup_core t X Y t' X' Y' x y (thenT t t') (pdo t' X' Y' X Y).1 (pdo t' X' Y' X Y).2 (backT t) (pbackXY t X Y).1 (pbackXY t X Y).2 (pdo t X Y x y).1 (pdo t X Y x y).2 (pdo t' X' Y' (pdo t X Y x y).1 (pdo t X Y x y).2).1 (pdo t' X' Y' (pdo t X Y x y).1 (pdo t X Y x y).2).2 w b0 b7
    (fun w => pthen_any t X Y t' X' Y' w Xl Xh Yl Yh) (fun w => pback_any t X Y w) (fun w => refPthen_any t X Y t' X' Y' w Xl Xh Yl Yh) ?_ (fun w => pdo_any t X Y x y w xl xh yl yh)
    (fun w => pdo_any t' X' Y' _ _ w (pdo_low1 _ _ _ _ _) (pdo_high1 _ _ _ _ _) (pdo_low2 _ _ _ _ _) (pdo_high2 _ _ _ _ _)) ?_ ?_ ?_
  · intro w
    have := pdo_any (thenT t t') (pdo t' X' Y' X Y).1 (pdo t' X' Y' X Y).2 x y w xl xh yl yh
    rwa [pdo_then t X Y t' X' Y' x y xl xh yl yh] at this
  · intro w
    have := pdo_any (backT t) (pbackXY t X Y).1 (pbackXY t X Y).2 (pdo t X Y x y).1 (pdo t X Y x y).2 w (pdo_low1 _ _ _ _ _) (pdo_high1 _ _ _ _ _) (pdo_low2 _ _ _ _ _) (pdo_high2 _ _ _ _ _)
    rwa [pdo_back t X Y x y Xl Xh Yl Yh xl xh yl yh] at this
  · intro w
    have := pthen_any t X Y (backT t) (pbackXY t X Y).1 (pbackXY t X Y).2 w Xl Xh Yl Yh
    rwa [e1, f1] at this
  · intro w
    have := pthen_any (backT t) (pbackXY t X Y).1 (pbackXY t X Y).2 t X Y w bl1 bh1 bl2 bh2
    rwa [e2, f2] at this
end Go.Proofs.Ythdemhahgjpdmaa
