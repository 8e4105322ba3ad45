/- What place's small calls answer for every place and every point: where a point comes, the place that goes without a turn, and the two that flip. -/
import Derived.Test.YthdemhahgjpdmaaTurnDo
import Derived.Test.YthdemhahgjpdmaaBoxes
import Derived.Test.YthdemhahgjpdmaaRefLow
import Derived.Test.YthdemhahgjpdmaaQuietTail
import Derived.RowKit3
import Derived.OpenShut
namespace Go.Proofs.Ythdemhahgjpdmaa
open Go.RowKit
set_option linter.unusedVariables false

/-- The sum, as it goes round. -/
def add64 (x y : Int) : Int := IntKind.i64.wrap (x + y)
/-- Where the place of the turn t and the way X Y brings x y. -/
def pdo (t X Y x y : Int) : Int × Int := (add64 (doT (t % 8) x y).1 X, add64 (doT (t % 8) x y).2 Y)

theorem move_any (x y : Int) (w : World) : Calls Try.prog 13 #[.int .i64 x, .int .i64 y] w fun e w' => e = .returned (.agg #[.int .i64 0, .int .i64 x, .int .i64 y]) ∧ Below w.heap.size w w' := by
  go_enter Try.func13, Try.ntmps13
  go_wp2
  refine bodyPost_ret (v := .agg #[.int .i64 0, .int .i64 x, .int .i64 y]) (by simp [results, Try.results13, go_sem]) rfl ⟨rfl, ?_⟩
  repeat (first | (with_reducible exact Below.refl _ _) | (with_reducible apply up_alloc) | (with_reducible refine up_set ?_ (by simp only; omega) _))
theorem flipX_any (s : Int) (w : World) : Calls Try.prog 11 #[.int .i64 s] w fun e w' => e = .returned (.agg #[.int .i64 4, .int .i64 s, .int .i64 0]) ∧ Below w.heap.size w w' := by
  go_enter Try.func11, Try.ntmps11
  go_wp2
  refine bodyPost_ret (v := .agg #[.int .i64 4, .int .i64 s, .int .i64 0]) (by simp [results, Try.results11, go_sem]) rfl ⟨rfl, ?_⟩
  repeat (first | (with_reducible exact Below.refl _ _) | (with_reducible apply up_alloc) | (with_reducible refine up_set ?_ (by simp only; omega) _))
theorem flipY_any (s : Int) (w : World) : Calls Try.prog 12 #[.int .i64 s] w fun e w' => e = .returned (.agg #[.int .i64 6, .int .i64 0, .int .i64 s]) ∧ Below w.heap.size w w' := by
  go_enter Try.func12, Try.ntmps12
  go_wp2
  refine bodyPost_ret (v := .agg #[.int .i64 6, .int .i64 0, .int .i64 s]) (by simp [results, Try.results12, go_sem]) rfl ⟨rfl, ?_⟩
  repeat (first | (with_reducible exact Below.refl _ _) | (with_reducible apply up_alloc) | (with_reducible refine up_set ?_ (by simp only; omega) _))
theorem with_any (t x y : Int) (w : World) : Calls Try.prog 25 #[.int .i64 t, .agg #[.int .i64 x, .int .i64 y]] w fun e w' => e = .returned (.agg #[.int .i64 t, .int .i64 x, .int .i64 y]) ∧ Below w.heap.size w w' := by
  go_enter Try.func25, Try.ntmps25
  go_wp2
  refine bodyPost_ret (v := .agg #[.int .i64 t, .int .i64 x, .int .i64 y]) (by simp [results, Try.results25, go_sem]) rfl ⟨rfl, ?_⟩
  repeat (first | (with_reducible exact Below.refl _ _) | (with_reducible apply up_alloc) | (with_reducible refine up_set ?_ (by simp only; omega) _))

theorem pdo_core (t X Y x y p q s1 s2 : Int) (w : World) (e1 : IntKind.i64.wrap (p + X) = s1) (e2 : IntKind.i64.wrap (q + Y) = s2)
    (K : ∀ w, Calls Try.prog 20 #[.int .i64 t, .agg #[.int .i64 x, .int .i64 y]] w fun e w' => e = .returned (.agg #[.int .i64 p, .int .i64 q]) ∧ Below w.heap.size w w') :
    Calls Try.prog 7 #[.agg #[.int .i64 t, .int .i64 X, .int .i64 Y], .agg #[.int .i64 x, .int .i64 y]] w fun e w' => e = .returned (.agg #[.int .i64 s1, .int .i64 s2]) ∧ Below w.heap.size w w' := by
  have HK := Lib.hid K
  clear K
  go_enter Try.func7, Try.ntmps7
  go_wp2_with fail
  refine (HK.out _).mono ?_
  rintro e w1 ⟨rfl, hb⟩
  have A := (((Bx.new w 23 [.int .i64 t, .int .i64 X, .int .i64 Y]).alloc (.cells #[.int .i64 x, .int .i64 y] 25)).alloc (.cells #[.int .i64 0, .int .i64 0] 25)).up hb
  have P := ((Bx.new (w.alloc (.cells #[.int .i64 t, .int .i64 X, .int .i64 Y] 23)) 25 [.int .i64 x, .int .i64 y]).alloc (.cells #[.int .i64 0, .int .i64 0] 25)).up hb
  have R := (Bx.new ((w.alloc (.cells #[.int .i64 t, .int .i64 X, .int .i64 Y] 23)).alloc (.cells #[.int .i64 x, .int .i64 y] 25)) 25 [.int .i64 0, .int .i64 0]).up hb
  simp only [World.size_alloc] at P R
  have B1 := Lib.hid (up_trans (up_alloc (up_alloc (up_alloc (Below.refl _ w) _) _) _) hb)
  clear hb
  have a1 := A.cell 1 rfl; have a2 := A.cell 2 rfl
  have p0 := P.cell 0 rfl; have p1 := P.cell 1 rfl; have pf := P.free
  have r0 := R.cell 0 rfl; have r1 := R.cell 1 rfl; have rf := R.free
  clear A P R
  go_wp2
  refine bodyPost_ret (v := .agg #[.int .i64 s1, .int .i64 s2]) (by simp [results, Try.results7, go_sem, r0, r1]) rfl ⟨rfl, ?_⟩
  have B2 := B1.out
  repeat (first | (with_reducible exact B2) | (with_reducible refine up_set ?_ (by simp only; omega) _))

theorem pdo_any (t X Y x y : Int) (w : World) (h0 : -9223372036854775808 ≤ x) (h1 : x ≤ 9223372036854775807) (k0 : -9223372036854775808 ≤ y) (k1 : y ≤ 9223372036854775807) :
    Calls Try.prog 7 #[.agg #[.int .i64 t, .int .i64 X, .int .i64 Y], .agg #[.int .i64 x, .int .i64 y]] w fun e w' => e = .returned (.agg #[.int .i64 (pdo t X Y x y).1, .int .i64 (pdo t X Y x y).2]) ∧ Below w.heap.size w w' :=
  pdo_core t X Y x y _ _ _ _ w rfl rfl fun w => do_any t x y w h0 h1 k0 k1

theorem pback_core (t X Y k nx ny x y : Int) (w : World) (e1 : IntKind.i64.wrap (-X) = nx) (e2 : IntKind.i64.wrap (-Y) = ny)
    (KB : ∀ w, Calls Try.prog 27 #[.int .i64 t] w fun e w' => e = .returned (.int .i64 k) ∧ Below w.heap.size w w')
    (KD : ∀ w, Calls Try.prog 20 #[.int .i64 k, .agg #[.int .i64 nx, .int .i64 ny]] w fun e w' => e = .returned (.agg #[.int .i64 x, .int .i64 y]) ∧ Below w.heap.size w w')
    (KW : ∀ w, Calls Try.prog 25 #[.int .i64 k, .agg #[.int .i64 x, .int .i64 y]] w fun e w' => e = .returned (.agg #[.int .i64 k, .int .i64 x, .int .i64 y]) ∧ Below w.heap.size w w') :
    Calls Try.prog 15 #[.agg #[.int .i64 t, .int .i64 X, .int .i64 Y]] w fun e w' => e = .returned (.agg #[.int .i64 k, .int .i64 x, .int .i64 y]) ∧ Below w.heap.size w w' := by
  have HB := Lib.hid KB; have HD := Lib.hid KD; have HW := Lib.hid KW
  clear KB KD KW
  go_enter Try.func15, Try.ntmps15
  go_wp2_with fail
  refine (HB.out _).mono ?_
  rintro e w1 ⟨rfl, hb⟩
  have A := ((Bx.new w 23 [.int .i64 t, .int .i64 X, .int .i64 Y]).alloc (.cells #[.int .i64 0, .int .i64 0, .int .i64 0] 23)).up hb
  have R := (Bx.new (w.alloc (.cells #[.int .i64 t, .int .i64 X, .int .i64 Y] 23)) 23 [.int .i64 0, .int .i64 0, .int .i64 0]).up hb
  simp only [World.size_alloc] at R
  have B1 := Lib.hid (up_trans (up_alloc (up_alloc (Below.refl _ w) _) _) hb)
  clear hb
  have a1 := A.cell 1 rfl; have a2 := A.cell 2 rfl
  clear A
  go_wp2_with fail
  refine (HD.out _).mono ?_
  rintro e w2 ⟨rfl, hb⟩
  have R2 := R.up hb
  have B2 := Lib.hid (up_trans B1.out hb)
  clear hb R a1 a2
  go_wp2_with fail
  refine (HW.out _).mono ?_
  rintro e w3 ⟨rfl, hb⟩
  have R3 := R2.up hb
  have B := up_trans B2.out hb
  clear hb R2
  have r0 := R3.cell 0 rfl; have r1 := R3.cell 1 rfl; have r2 := R3.cell 2 rfl; have rf := R3.free
  clear R3
  go_wp2
  refine bodyPost_ret (v := .agg #[.int .i64 k, .int .i64 x, .int .i64 y]) (by simp [results, Try.results15, go_sem, r0, r1, r2]) rfl ⟨rfl, ?_⟩
  repeat (first | (with_reducible exact B) | (with_reducible apply up_alloc) | (with_reducible refine up_set ?_ (by simp only; omega) _))
theorem back_b (t : Int) (w : World) : Calls Try.prog 27 #[.int .i64 t] w fun e w' => e = .returned (.int .i64 (backT t)) ∧ Below w.heap.size w w' :=
  (back_any t w).mono fun _ _ ⟨he, hw⟩ => ⟨he, by rw [hw]; exact Below.refl _ _⟩
theorem then_b (a b : Int) (w : World) : Calls Try.prog 26 #[.int .i64 a, .int .i64 b] w fun e w' => e = .returned (.int .i64 (thenT a b)) ∧ Below w.heap.size w w' :=
  (then_any a b w).mono fun _ _ ⟨he, hw⟩ => ⟨he, by rw [hw]; exact Below.refl _ _⟩
theorem wrap_low (x : Int) : -9223372036854775808 ≤ IntKind.i64.wrap x := by rw [IntKind.wrap_i64]; omega
theorem wrap_high (x : Int) : IntKind.i64.wrap x ≤ 9223372036854775807 := by rw [IntKind.wrap_i64]; omega
/-- The way back, ahead of its turn: where it brings the place's way. -/
def pbackXY (t X Y : Int) : Int × Int := doT (backT t % 8) (neg64 X) (neg64 Y)
theorem pback_any (t X Y : Int) (w : World) :
    Calls Try.prog 15 #[.agg #[.int .i64 t, .int .i64 X, .int .i64 Y]] w fun e w' => e = .returned (.agg #[.int .i64 (backT t), .int .i64 (pbackXY t X Y).1, .int .i64 (pbackXY t X Y).2]) ∧ Below w.heap.size w w' :=
  pback_core t X Y (backT t) _ _ _ _ w rfl rfl (fun w => back_b t w) (fun w => do_any _ _ _ w (wrap_low _) (wrap_high _) (wrap_low _) (wrap_high _)) (fun w => with_any _ _ _ w)

theorem pthen_core (t X Y t' X' Y' k x y : Int) (w : World)
    (KT : ∀ w, Calls Try.prog 26 #[.int .i64 t, .int .i64 t'] w fun e w' => e = .returned (.int .i64 k) ∧ Below w.heap.size w w')
    (KD : ∀ w, Calls Try.prog 7 #[.agg #[.int .i64 t', .int .i64 X', .int .i64 Y'], .agg #[.int .i64 X, .int .i64 Y]] w fun e w' => e = .returned (.agg #[.int .i64 x, .int .i64 y]) ∧ Below w.heap.size w w')
    (KW : ∀ w, Calls Try.prog 25 #[.int .i64 k, .agg #[.int .i64 x, .int .i64 y]] w fun e w' => e = .returned (.agg #[.int .i64 k, .int .i64 x, .int .i64 y]) ∧ Below w.heap.size w w') :
    Calls Try.prog 14 #[.agg #[.int .i64 t, .int .i64 X, .int .i64 Y], .agg #[.int .i64 t', .int .i64 X', .int .i64 Y']] w fun e w' => e = .returned (.agg #[.int .i64 k, .int .i64 x, .int .i64 y]) ∧ Below w.heap.size w w' := by
  have HT := Lib.hid KT; have HD := Lib.hid KD; have HW := Lib.hid KW
  clear KT KD KW
  go_enter Try.func14, Try.ntmps14
  go_wp2_with fail
  have A := ((Bx.new w 23 [.int .i64 t, .int .i64 X, .int .i64 Y]).alloc (.cells #[.int .i64 t', .int .i64 X', .int .i64 Y'] 23)).alloc (.cells #[.int .i64 0, .int .i64 0, .int .i64 0] 23)
  have C := (Bx.new (w.alloc (.cells #[.int .i64 t, .int .i64 X, .int .i64 Y] 23)) 23 [.int .i64 t', .int .i64 X', .int .i64 Y']).alloc (.cells #[.int .i64 0, .int .i64 0, .int .i64 0] 23)
  have R := Bx.new ((w.alloc (.cells #[.int .i64 t, .int .i64 X, .int .i64 Y] 23)).alloc (.cells #[.int .i64 t', .int .i64 X', .int .i64 Y'] 23)) 23 [.int .i64 0, .int .i64 0, .int .i64 0]
  simp only [World.size_alloc] at C R
  have B1 := up_alloc (up_alloc (up_alloc (Below.refl _ w) (.cells #[.int .i64 t, .int .i64 X, .int .i64 Y] 23)) (.cells #[.int .i64 t', .int .i64 X', .int .i64 Y'] 23)) (.cells #[.int .i64 0, .int .i64 0, .int .i64 0] 23)
  generalize ((w.alloc (.cells #[.int .i64 t, .int .i64 X, .int .i64 Y] 23)).alloc (.cells #[.int .i64 t', .int .i64 X', .int .i64 Y'] 23)).alloc (.cells #[.int .i64 0, .int .i64 0, .int .i64 0] 23) = w1 at *
  have HB := Lib.hid B1; clear B1
  have a0 := fun u : Later w1 => u.cell (A.cell 0 rfl); have a1 := fun u : Later w1 => u.cell (A.cell 1 rfl); have a2 := fun u : Later w1 => u.cell (A.cell 2 rfl)
  have c0 := fun u : Later w1 => u.cell (C.cell 0 rfl); have c1 := fun u : Later w1 => u.cell (C.cell 1 rfl); have c2 := fun u : Later w1 => u.cell (C.cell 2 rfl)
  clear A C
  refine later_start (w := w1) ?_
  intro u
  refine wp_region_later_tail 13 (by kernel_rfl) (by kernel_rfl) ?_
  simp only [List.take_succ_cons, List.take_zero, List.drop_succ_cons, List.drop_zero]
  repeat (go_big_quiet_step (first
    | (go_at_call 26; with_reducible exact Later.call (HT.out _))
    | (go_at_call 7; with_reducible exact Later.call (HD.out _))
    | (go_at_call 25; with_reducible exact Later.call (HW.out _))))
  refine wpQuiet_nil ?_
  rintro _ ⟨u2, rfl⟩
  clear a0 a1 a2 c0 c1 c2
  have R2 := R.up u2.up
  have B := up_trans HB.out u2.up
  have r0 := R2.cell 0 rfl; have r1 := R2.cell 1 rfl; have r2 := R2.cell 2 rfl; have rf := R2.free
  clear R R2
  generalize u2.now = w2 at *
  go_wp2
  refine bodyPost_ret (v := .agg #[.int .i64 k, .int .i64 x, .int .i64 y]) (by simp [results, Try.results14, go_sem, r0, r1, r2]) rfl ⟨rfl, ?_⟩
  repeat (first | (with_reducible exact B) | (with_reducible apply up_alloc) | (with_reducible refine up_set ?_ (by simp only; omega) _))
theorem pthen_any (t X Y t' X' Y' : Int) (w : World) (h0 : -9223372036854775808 ≤ X) (h1 : X ≤ 9223372036854775807) (k0 : -9223372036854775808 ≤ Y) (k1 : Y ≤ 9223372036854775807) :
    Calls Try.prog 14 #[.agg #[.int .i64 t, .int .i64 X, .int .i64 Y], .agg #[.int .i64 t', .int .i64 X', .int .i64 Y']] w fun e w' => e = .returned (.agg #[.int .i64 (thenT t t'), .int .i64 (pdo t' X' Y' X Y).1, .int .i64 (pdo t' X' Y' X Y).2]) ∧ Below w.heap.size w w' :=
  pthen_core t X Y t' X' Y' _ _ _ w (fun w => then_b t t' w) (fun w => pdo_any t' X' Y' X Y w h0 h1 k0 k1) (fun w => with_any _ _ _ w)

theorem pbox_core (t X Y x0 y0 x1 y1 p0 p1 q0 q1 m0 m1 m2 m3 : Int) (w : World) (e0 : (if q0 < p0 then q0 else p0) = m0) (e1 : (if q1 < p1 then q1 else p1) = m1) (e2 : (if p0 < q0 then q0 else p0) = m2) (e3 : (if p1 < q1 then q1 else p1) = m3)
    (KP : ∀ w, Calls Try.prog 7 #[.agg #[.int .i64 t, .int .i64 X, .int .i64 Y], .agg #[.int .i64 x0, .int .i64 y0]] w fun e w' => e = .returned (.agg #[.int .i64 p0, .int .i64 p1]) ∧ Below w.heap.size w w')
    (KQ : ∀ w, Calls Try.prog 7 #[.agg #[.int .i64 t, .int .i64 X, .int .i64 Y], .agg #[.int .i64 x1, .int .i64 y1]] w fun e w' => e = .returned (.agg #[.int .i64 q0, .int .i64 q1]) ∧ Below w.heap.size w w') :
    Calls Try.prog 9 #[.agg #[.int .i64 t, .int .i64 X, .int .i64 Y], .agg #[.int .i64 x0, .int .i64 y0, .int .i64 x1, .int .i64 y1]] w fun e w' => e = .returned (.agg #[.int .i64 m0, .int .i64 m1, .int .i64 m2, .int .i64 m3]) ∧ Below w.heap.size w w' := by
  have HP := Lib.hid KP; have HQ := Lib.hid KQ
  clear KP KQ
  go_enter Try.func9, Try.ntmps9
  go_wp2_with fail
  refine (HP.out _).mono ?_
  rintro e w1 ⟨rfl, hb⟩
  have A := (((Bx.new w 23 [.int .i64 t, .int .i64 X, .int .i64 Y]).alloc (.cells #[.int .i64 x0, .int .i64 y0, .int .i64 x1, .int .i64 y1] 27)).alloc (.cells #[.int .i64 0, .int .i64 0, .int .i64 0, .int .i64 0] 27)).up hb
  have C := ((Bx.new (w.alloc (.cells #[.int .i64 t, .int .i64 X, .int .i64 Y] 23)) 27 [.int .i64 x0, .int .i64 y0, .int .i64 x1, .int .i64 y1]).alloc (.cells #[.int .i64 0, .int .i64 0, .int .i64 0, .int .i64 0] 27)).up hb
  have R := (Bx.new ((w.alloc (.cells #[.int .i64 t, .int .i64 X, .int .i64 Y] 23)).alloc (.cells #[.int .i64 x0, .int .i64 y0, .int .i64 x1, .int .i64 y1] 27)) 27 [.int .i64 0, .int .i64 0, .int .i64 0, .int .i64 0]).up hb
  simp only [World.size_alloc] at C R
  have B1 := Lib.hid (up_trans (up_alloc (up_alloc (up_alloc (Below.refl _ w) _) _) _) hb)
  clear hb
  have A' := A.alloc (.cells #[.int .i64 p0, .int .i64 p1] 25)
  have C' := C.alloc (.cells #[.int .i64 p0, .int .i64 p1] 25)
  have R' := R.alloc (.cells #[.int .i64 p0, .int .i64 p1] 25)
  have P' := Bx.new w1 25 [.int .i64 p0, .int .i64 p1]
  have a0 := A'.cell 0 rfl; have a1 := A'.cell 1 rfl; have a2 := A'.cell 2 rfl
  have c2 := C'.cell 2 rfl; have c3 := C'.cell 3 rfl
  clear A C R A' C'
  go_wp2_with fail
  refine (HQ.out _).mono ?_
  rintro e w2 ⟨rfl, hb⟩
  have P2 := (P'.up hb).alloc (.cells #[.int .i64 q0, .int .i64 q1] 25)
  have R2 := (R'.up hb).alloc (.cells #[.int .i64 q0, .int .i64 q1] 25)
  have B := up_trans (up_alloc B1.out _) hb
  clear hb R' P' a0 a1 a2 c2 c3
  have p0' := P2.cell 0 rfl; have p1' := P2.cell 1 rfl
  have r0 := R2.cell 0 rfl; have r1 := R2.cell 1 rfl; have r2 := R2.cell 2 rfl; have r3 := R2.cell 3 rfl; have rf := R2.free
  clear R2 P2
  go_wp2
  refine bodyPost_ret (v := .agg #[.int .i64 m0, .int .i64 m1, .int .i64 m2, .int .i64 m3]) (by simp [results, Try.results9, go_sem, r0, r1, r2, r3]) rfl ⟨rfl, ?_⟩
  repeat (first | (with_reducible exact B) | (with_reducible apply up_alloc) | (with_reducible refine up_set ?_ (by simp only; omega) _))
theorem pbox_any (t X Y x0 y0 x1 y1 : Int) (w : World) (h0 : (Lit.int .i64 x0).wf = true) (h1 : (Lit.int .i64 y0).wf = true) (h2 : (Lit.int .i64 x1).wf = true) (h3 : (Lit.int .i64 y1).wf = true) :
    Calls Try.prog 9 #[.agg #[.int .i64 t, .int .i64 X, .int .i64 Y], .agg #[.int .i64 x0, .int .i64 y0, .int .i64 x1, .int .i64 y1]] w fun e w' => e = .returned (.agg #[.int .i64 (min (pdo t X Y x0 y0).1 (pdo t X Y x1 y1).1), .int .i64 (min (pdo t X Y x0 y0).2 (pdo t X Y x1 y1).2), .int .i64 (max (pdo t X Y x0 y0).1 (pdo t X Y x1 y1).1), .int .i64 (max (pdo t X Y x0 y0).2 (pdo t X Y x1 y1).2)]) ∧ Below w.heap.size w w' :=
  pbox_core t X Y x0 y0 x1 y1 _ _ _ _ _ _ _ _ w (min_if _ _) (min_if _ _) (max_if _ _) (max_if _ _)
    (fun w => pdo_any t X Y x0 y0 w (bounds_i64 h0).1 (bounds_i64 h0).2 (bounds_i64 h1).1 (bounds_i64 h1).2) (fun w => pdo_any t X Y x1 y1 w (bounds_i64 h2).1 (bounds_i64 h2).2 (bounds_i64 h3).1 (bounds_i64 h3).2)
end Go.Proofs.Ythdemhahgjpdmaa
