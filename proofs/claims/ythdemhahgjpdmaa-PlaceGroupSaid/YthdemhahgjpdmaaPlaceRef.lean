/- What the document's own places answer: where a point comes, a rectangle, and one place behind another one. -/
import Derived.Test.YthdemhahgjpdmaaPlaceCode
import Derived.Test.YthdemhahgjpdmaaTurnMath
import Derived.Test.YthdemhahgjpdmaaRefLow
namespace Go.Proofs.Ythdemhahgjpdmaa
open Go.RowKit
set_option linter.unusedVariables false

theorem refPdo_core (t X Y x y a b c d p q s1 s2 : Int) (w : World) (e1 : IntKind.i64.wrap (p + X) = s1) (e2 : IntKind.i64.wrap (q + Y) = s2)
    (KO : ∀ w, Calls Try.prog 22 #[.int .i64 t] w fun e w' => e = .returned (.agg #[.int .i64 a, .int .i64 b, .int .i64 c, .int .i64 d]) ∧ Below w.heap.size w w')
    (KD : ∀ w, Calls Try.prog 21 #[.agg #[.int .i64 a, .int .i64 b, .int .i64 c, .int .i64 d], .int .i64 x, .int .i64 y] w fun e w' => e = .returned (.tuple #[.int .i64 p, .int .i64 q]) ∧ Below w.heap.size w w') :
    Calls Try.prog 8 #[.agg #[.int .i64 t, .int .i64 X, .int .i64 Y], .agg #[.int .i64 x, .int .i64 y]] w fun e w' => e = .returned (.agg #[.int .i64 s1, .int .i64 s2]) ∧ Below w.heap.size w w' := by
  have HO := Lib.hid KO; have HD := Lib.hid KD
  clear KO KD
  go_enter Try.func8, Try.ntmps8
  go_wp2_with fail
  have A := ((Bx.new w 23 [.int .i64 t, .int .i64 X, .int .i64 Y]).alloc (.cells #[.int .i64 x, .int .i64 y] 25)).alloc (.cells #[.int .i64 0, .int .i64 0] 25)
  have C := (Bx.new (w.alloc (.cells #[.int .i64 t, .int .i64 X, .int .i64 Y] 23)) 25 [.int .i64 x, .int .i64 y]).alloc (.cells #[.int .i64 0, .int .i64 0] 25)
  have R := Bx.new ((w.alloc (.cells #[.int .i64 t, .int .i64 X, .int .i64 Y] 23)).alloc (.cells #[.int .i64 x, .int .i64 y] 25)) 25 [.int .i64 0, .int .i64 0]
  simp only [World.size_alloc] at C R
  have B1 := up_alloc (up_alloc (up_alloc (Below.refl _ w) (.cells #[.int .i64 t, .int .i64 X, .int .i64 Y] 23)) (.cells #[.int .i64 x, .int .i64 y] 25)) (.cells #[.int .i64 0, .int .i64 0] 25)
  generalize ((w.alloc (.cells #[.int .i64 t, .int .i64 X, .int .i64 Y] 23)).alloc (.cells #[.int .i64 x, .int .i64 y] 25)).alloc (.cells #[.int .i64 0, .int .i64 0] 25) = w1 at *
  have HB := Lib.hid B1; clear B1
  have a0 := fun u : Later w1 => u.cell (A.cell 0 rfl); have a1 := fun u : Later w1 => u.cell (A.cell 1 rfl); have a2 := fun u : Later w1 => u.cell (A.cell 2 rfl)
  have c0 := fun u : Later w1 => u.cell (C.cell 0 rfl); have c1 := fun u : Later w1 => u.cell (C.cell 1 rfl)
  clear A C
  refine later_start (w := w1) ?_
  intro u
  refine wp_region_later (by kernel_rfl) (by kernel_rfl) ?_
  repeat (go_big_quiet_step (first
    | (go_at_call 22; with_reducible exact Later.call (HO.out _))
    | (go_at_call 21; with_reducible exact Later.call (HD.out _))))
  refine wpQuiet_nil ?_
  rintro _ ⟨u2, rfl⟩
  have R2 := R.up u2.up
  have a1' := a1 u2; have a2' := a2 u2
  have B := up_trans HB.out u2.up
  have r0 := R2.cell 0 rfl; have r1 := R2.cell 1 rfl; have rf := R2.free
  clear R R2 a0 a1 a2 c0 c1
  generalize u2.now = w2 at *
  go_wp2
  refine bodyPost_ret (v := .agg #[.int .i64 s1, .int .i64 s2]) (by simp [results, Try.results8, go_sem, r0, r1]) rfl ⟨rfl, ?_⟩
  repeat (first | (with_reducible exact B) | (with_reducible apply up_alloc) | (with_reducible refine up_set ?_ (by simp only; omega) _))
theorem refPdo_any (t X Y x y : Int) (w : World) (h0 : -9223372036854775808 ≤ x) (h1 : x ≤ 9223372036854775807) (k0 : -9223372036854775808 ≤ y) (k1 : y ≤ 9223372036854775807) :
    Calls Try.prog 8 #[.agg #[.int .i64 t, .int .i64 X, .int .i64 Y], .agg #[.int .i64 x, .int .i64 y]] w fun e w' => e = .returned (.agg #[.int .i64 (pdo t X Y x y).1, .int .i64 (pdo t X Y x y).2]) ∧ Below w.heap.size w w' := by
  obtain ⟨i, hi⟩ := fin8 t
  have e := mat_does i x y h0 h1 k0 k1
  refine refPdo_core t X Y x y (mx (i.val : Int)).a (mx (i.val : Int)).b (mx (i.val : Int)).c (mx (i.val : Int)).d (doT (i.val : Int) x y).1 (doT (i.val : Int) x y).2 _ _ w ?_ ?_ ?_ ?_
  · unfold pdo add64; rw [hi]
  · unfold pdo add64; rw [hi]
  · intro w; have := refOf_any t w; rwa [hi] at this
  · intro w; have := refDo_any (mx (i.val : Int)) x y w; rwa [e] at this

theorem refPbox_core (t X Y x0 y0 x1 y1 p0 p1 q0 q1 m0 m1 m2 m3 : Int) (w : World) 
    (KP : ∀ w, Calls Try.prog 8 #[.agg #[.int .i64 t, .int .i64 X, .int .i64 Y], .agg #[.int .i64 x0, .int .i64 y0]] w fun e w' => e = .returned (.agg #[.int .i64 p0, .int .i64 p1]) ∧ Below w.heap.size w w')
    (KQ : ∀ w, Calls Try.prog 8 #[.agg #[.int .i64 t, .int .i64 X, .int .i64 Y], .agg #[.int .i64 x1, .int .i64 y1]] w fun e w' => e = .returned (.agg #[.int .i64 q0, .int .i64 q1]) ∧ Below w.heap.size w w')
    (L0 : ∀ w, Calls Try.prog 23 #[.int .i64 p0, .int .i64 q0] w fun e w' => e = .returned (.int .i64 m0) ∧ Below w.heap.size w w')
    (L1 : ∀ w, Calls Try.prog 23 #[.int .i64 p1, .int .i64 q1] w fun e w' => e = .returned (.int .i64 m1) ∧ Below w.heap.size w w')
    (G0 : ∀ w, Calls Try.prog 24 #[.int .i64 p0, .int .i64 q0] w fun e w' => e = .returned (.int .i64 m2) ∧ Below w.heap.size w w')
    (G1 : ∀ w, Calls Try.prog 24 #[.int .i64 p1, .int .i64 q1] w fun e w' => e = .returned (.int .i64 m3) ∧ Below w.heap.size w w') :
    Calls Try.prog 10 #[.agg #[.int .i64 t, .int .i64 X, .int .i64 Y], .agg #[.int .i64 x0, .int .i64 y0, .int .i64 x1, .int .i64 y1]] w fun e w' => e = .returned (.agg #[.int .i64 m0, .int .i64 m1, .int .i64 m2, .int .i64 m3]) ∧ Below w.heap.size w w' := by
  have HP := Lib.hid KP; have HQ := Lib.hid KQ; have HL0 := Lib.hid L0; have HL1 := Lib.hid L1; have HG0 := Lib.hid G0; have HG1 := Lib.hid G1
  clear KP KQ L0 L1 G0 G1
  go_enter Try.func10, Try.ntmps10
  go_wp2_with fail
  refine (HP.out _).mono ?_
  rintro e w1 ⟨rfl, hb⟩
  have A := (((Bx.new w 23 [.int .i64 t, .int .i64 X, .int .i64 Y]).alloc (.cells #[.int .i64 x0, .int .i64 y0, .int .i64 x1, .int .i64 y1] 27)).alloc (.cells #[.int .i64 0, .int .i64 0, .int .i64 0, .int .i64 0] 27)).up hb
  have C := ((Bx.new (w.alloc (.cells #[.int .i64 t, .int .i64 X, .int .i64 Y] 23)) 27 [.int .i64 x0, .int .i64 y0, .int .i64 x1, .int .i64 y1]).alloc (.cells #[.int .i64 0, .int .i64 0, .int .i64 0, .int .i64 0] 27)).up hb
  have R := (Bx.new ((w.alloc (.cells #[.int .i64 t, .int .i64 X, .int .i64 Y] 23)).alloc (.cells #[.int .i64 x0, .int .i64 y0, .int .i64 x1, .int .i64 y1] 27)) 27 [.int .i64 0, .int .i64 0, .int .i64 0, .int .i64 0]).up hb
  simp only [World.size_alloc] at C R
  have B1 := Lib.hid (up_trans (up_alloc (up_alloc (up_alloc (Below.refl _ w) _) _) _) hb)
  clear hb
  have A' := A.alloc (.cells #[.int .i64 p0, .int .i64 p1] 25)
  have C' := C.alloc (.cells #[.int .i64 p0, .int .i64 p1] 25)
  have R' := R.alloc (.cells #[.int .i64 p0, .int .i64 p1] 25)
  have P' := Bx.new w1 25 [.int .i64 p0, .int .i64 p1]
  have a0 := A'.cell 0 rfl; have a1 := A'.cell 1 rfl; have a2 := A'.cell 2 rfl
  have c2 := C'.cell 2 rfl; have c3 := C'.cell 3 rfl
  clear A C R A' C'
  go_wp2_with fail
  refine (HQ.out _).mono ?_
  rintro e w2 ⟨rfl, hb⟩
  have P2 := (P'.up hb).alloc (.cells #[.int .i64 q0, .int .i64 q1] 25)
  have R2 := (R'.up hb).alloc (.cells #[.int .i64 q0, .int .i64 q1] 25)
  have Q2 := Bx.new w2 25 [.int .i64 q0, .int .i64 q1]
  have B3 := up_alloc (up_trans (up_alloc B1.out _) hb) (.cells #[.int .i64 q0, .int .i64 q1] 25)
  clear hb R' P' a0 a1 a2 c2 c3
  go_wp2_with fail
  generalize w2.alloc (.cells #[.int .i64 q0, .int .i64 q1] 25) = w3 at *
  have HB := Lib.hid B3; clear B3
  have d0 := fun u : Later w3 => u.cell (P2.cell 0 rfl); have d1 := fun u : Later w3 => u.cell (P2.cell 1 rfl)
  have f0 := fun u : Later w3 => u.cell (Q2.cell 0 rfl); have f1 := fun u : Later w3 => u.cell (Q2.cell 1 rfl)
  clear P2 Q2
  refine later_start (w := w3) ?_
  intro u
  refine wp_region_later_tail 21 (by kernel_rfl) (by kernel_rfl) ?_
  simp only [List.take_succ_cons, List.take_zero, List.drop_succ_cons, List.drop_zero]
  repeat (go_big_quiet_step (first
    | (go_at_call 23; first | (with_reducible exact Later.call (HL0.out _)) | (with_reducible exact Later.call (HL1.out _)))
    | (go_at_call 24; first | (with_reducible exact Later.call (HG0.out _)) | (with_reducible exact Later.call (HG1.out _)))))
  refine wpQuiet_nil ?_
  rintro _ ⟨u2, rfl⟩
  clear d0 d1 f0 f1
  have R3 := R2.up u2.up
  have B := up_trans HB.out u2.up
  have r0 := R3.cell 0 rfl; have r1 := R3.cell 1 rfl; have r2 := R3.cell 2 rfl; have r3 := R3.cell 3 rfl; have rf := R3.free
  clear R2 R3
  generalize u2.now = w4 at *
  go_wp2
  refine bodyPost_ret (v := .agg #[.int .i64 m0, .int .i64 m1, .int .i64 m2, .int .i64 m3]) (by simp [results, Try.results10, go_sem, r0, r1, r2, r3]) rfl ⟨rfl, ?_⟩
  repeat (first | (with_reducible exact B) | (with_reducible apply up_alloc) | (with_reducible refine up_set ?_ (by simp only; omega) _))
theorem refPbox_any (t X Y x0 y0 x1 y1 : Int) (w : World) (h0 : (Lit.int .i64 x0).wf = true) (h1 : (Lit.int .i64 y0).wf = true) (h2 : (Lit.int .i64 x1).wf = true) (h3 : (Lit.int .i64 y1).wf = true) :
    Calls Try.prog 10 #[.agg #[.int .i64 t, .int .i64 X, .int .i64 Y], .agg #[.int .i64 x0, .int .i64 y0, .int .i64 x1, .int .i64 y1]] w fun e w' => e = .returned (.agg #[.int .i64 (min (pdo t X Y x0 y0).1 (pdo t X Y x1 y1).1), .int .i64 (min (pdo t X Y x0 y0).2 (pdo t X Y x1 y1).2), .int .i64 (max (pdo t X Y x0 y0).1 (pdo t X Y x1 y1).1), .int .i64 (max (pdo t X Y x0 y0).2 (pdo t X Y x1 y1).2)]) ∧ Below w.heap.size w w' :=
  refPbox_core t X Y x0 y0 x1 y1 _ _ _ _ _ _ _ _ w
    (fun w => refPdo_any t X Y x0 y0 w (bounds_i64 h0).1 (bounds_i64 h0).2 (bounds_i64 h1).1 (bounds_i64 h1).2) (fun w => refPdo_any t X Y x1 y1 w (bounds_i64 h2).1 (bounds_i64 h2).2 (bounds_i64 h3).1 (bounds_i64 h3).2)
    (fun w => low_b _ _ w) (fun w => low_b _ _ w) (fun w => high_b _ _ w) (fun w => high_b _ _ w)

theorem refPthen_core (t X Y t' X' Y' k x y : Int) (A B M : Mx) (w : World)
    (KD : ∀ w, Calls Try.prog 8 #[.agg #[.int .i64 t', .int .i64 X', .int .i64 Y'], .agg #[.int .i64 X, .int .i64 Y]] w fun e w' => e = .returned (.agg #[.int .i64 x, .int .i64 y]) ∧ Below w.heap.size w w')
    (OA : ∀ w, Calls Try.prog 22 #[.int .i64 t] w fun e w' => e = .returned (.agg #[.int .i64 A.a, .int .i64 A.b, .int .i64 A.c, .int .i64 A.d]) ∧ Below w.heap.size w w')
    (OB : ∀ w, Calls Try.prog 22 #[.int .i64 t'] w fun e w' => e = .returned (.agg #[.int .i64 B.a, .int .i64 B.b, .int .i64 B.c, .int .i64 B.d]) ∧ Below w.heap.size w w')
    (MT : ∀ w, Calls Try.prog 28 #[.agg #[.int .i64 A.a, .int .i64 A.b, .int .i64 A.c, .int .i64 A.d], .agg #[.int .i64 B.a, .int .i64 B.b, .int .i64 B.c, .int .i64 B.d]] w fun e w' => e = .returned (.agg #[.int .i64 M.a, .int .i64 M.b, .int .i64 M.c, .int .i64 M.d]) ∧ Below w.heap.size w w')
    (MR : ∀ w, Calls Try.prog 19 #[.agg #[.int .i64 M.a, .int .i64 M.b, .int .i64 M.c, .int .i64 M.d]] w fun e w' => e = .returned (.int .i64 k) ∧ Below w.heap.size w w') :
    Calls Try.prog 16 #[.agg #[.int .i64 t, .int .i64 X, .int .i64 Y], .agg #[.int .i64 t', .int .i64 X', .int .i64 Y']] w fun e w' => e = .returned (.agg #[.int .i64 k, .int .i64 x, .int .i64 y]) ∧ Below w.heap.size w w' := by
  have HD := Lib.hid KD; have HOA := Lib.hid OA; have HOB := Lib.hid OB; have HT := Lib.hid MT; have HR := Lib.hid MR
  clear KD OA OB MT MR
  go_enter Try.func16, Try.ntmps16
  go_wp2_with fail
  refine (HD.out _).mono ?_
  rintro e w1 ⟨rfl, hb⟩
  have AA := (((Bx.new w 23 [.int .i64 t, .int .i64 X, .int .i64 Y]).alloc (.cells #[.int .i64 t', .int .i64 X', .int .i64 Y'] 23)).alloc (.cells #[.int .i64 0, .int .i64 0, .int .i64 0] 23)).up hb
  have CC := ((Bx.new (w.alloc (.cells #[.int .i64 t, .int .i64 X, .int .i64 Y] 23)) 23 [.int .i64 t', .int .i64 X', .int .i64 Y']).alloc (.cells #[.int .i64 0, .int .i64 0, .int .i64 0] 23)).up hb
  have R := (Bx.new ((w.alloc (.cells #[.int .i64 t, .int .i64 X, .int .i64 Y] 23)).alloc (.cells #[.int .i64 t', .int .i64 X', .int .i64 Y'] 23)) 23 [.int .i64 0, .int .i64 0, .int .i64 0]).up hb
  simp only [World.size_alloc] at CC R
  have B3 := up_alloc (up_trans (up_alloc (up_alloc (up_alloc (Below.refl _ w) _) _) _) hb) (.cells #[.int .i64 x, .int .i64 y] 25)
  clear hb
  have A2 := AA.alloc (.cells #[.int .i64 x, .int .i64 y] 25); have C2 := CC.alloc (.cells #[.int .i64 x, .int .i64 y] 25); have R2 := R.alloc (.cells #[.int .i64 x, .int .i64 y] 25)
  have P2 := Bx.new w1 25 [.int .i64 x, .int .i64 y]
  clear AA CC R
  go_wp2_with fail
  generalize w1.alloc (.cells #[.int .i64 x, .int .i64 y] 25) = w3 at *
  have HB := Lib.hid B3; clear B3
  have a0 := fun u : Later w3 => u.cell (A2.cell 0 rfl); have c0 := fun u : Later w3 => u.cell (C2.cell 0 rfl)
  have d0 := fun u : Later w3 => u.cell (P2.cell 0 rfl); have d1 := fun u : Later w3 => u.cell (P2.cell 1 rfl)
  clear P2 A2 C2
  refine later_start (w := w3) ?_
  intro u
  refine wp_region_later_tail 13 (by kernel_rfl) (by kernel_rfl) ?_
  simp only [List.take_succ_cons, List.take_zero, List.drop_succ_cons, List.drop_zero]
  repeat (go_big_quiet_step (first
    | (go_at_call 22; first | (with_reducible exact Later.call (HOA.out _)) | (with_reducible exact Later.call (HOB.out _)))
    | (go_at_call 28; with_reducible exact Later.call (HT.out _))
    | (go_at_call 19; with_reducible exact Later.call (HR.out _))))
  refine wpQuiet_nil ?_
  rintro _ ⟨u2, rfl⟩
  clear a0 c0 d0 d1
  have R3 := R2.up u2.up
  have B9 := up_trans HB.out u2.up
  have r0 := R3.cell 0 rfl; have r1 := R3.cell 1 rfl; have r2 := R3.cell 2 rfl; have rf := R3.free
  clear R2 R3
  generalize u2.now = w4 at *
  go_wp2
  refine bodyPost_ret (v := .agg #[.int .i64 k, .int .i64 x, .int .i64 y]) (by simp [results, Try.results16, go_sem, r0, r1, r2]) rfl ⟨rfl, ?_⟩
  repeat (first | (with_reducible exact B9) | (with_reducible apply up_alloc) | (with_reducible refine up_set ?_ (by simp only; omega) _))
theorem refTurn_then (i j : Fin 8) (w : World) :
    Calls Try.prog 19 #[.agg #[.int .i64 (mthen (mx (i.val : Int)) (mx (j.val : Int))).a, .int .i64 (mthen (mx (i.val : Int)) (mx (j.val : Int))).b, .int .i64 (mthen (mx (i.val : Int)) (mx (j.val : Int))).c, .int .i64 (mthen (mx (i.val : Int)) (mx (j.val : Int))).d]] w fun e w' => e = .returned (.int .i64 (thenT (i.val : Int) (j.val : Int))) ∧ Below w.heap.size w w' := by
  obtain ⟨r0, r7⟩ := then_in i j
  have e : (((thenT (i.val : Int) (j.val : Int)).toNat : Nat) : Int) = thenT (i.val : Int) (j.val : Int) := by omega
  have := refTurn_yes (thenT (i.val : Int) (j.val : Int)).toNat (by omega) w
  rw [mat_then]
  rwa [e] at this
theorem refPthen_any (t X Y t' X' Y' : Int) (w : World) (h0 : -9223372036854775808 ≤ X) (h1 : X ≤ 9223372036854775807) (k0 : -9223372036854775808 ≤ Y) (k1 : Y ≤ 9223372036854775807) :
    Calls Try.prog 16 #[.agg #[.int .i64 t, .int .i64 X, .int .i64 Y], .agg #[.int .i64 t', .int .i64 X', .int .i64 Y']] w fun e w' => e = .returned (.agg #[.int .i64 (thenT t t'), .int .i64 (pdo t' X' Y' X Y).1, .int .i64 (pdo t' X' Y' X Y).2]) ∧ Below w.heap.size w w' := by
  obtain ⟨i, hi⟩ := fin8 t
  obtain ⟨j, hj⟩ := fin8 t'
  rw [show thenT t t' = thenT (i.val : Int) (j.val : Int) by rw [then_mod, hi, hj]]
  refine refPthen_core t X Y t' X' Y' _ _ _ (mx (i.val : Int)) (mx (j.val : Int)) (mthen (mx (i.val : Int)) (mx (j.val : Int))) w (fun w => refPdo_any t' X' Y' X Y w h0 h1 k0 k1) ?_ ?_ (fun w => refThen_any _ _ w) (fun w => refTurn_then i j w)
  · intro w; have := refOf_any t w; rwa [hi] at this
  · intro w; have := refOf_any t' w; rwa [hj] at this
end Go.Proofs.Ythdemhahgjpdmaa
