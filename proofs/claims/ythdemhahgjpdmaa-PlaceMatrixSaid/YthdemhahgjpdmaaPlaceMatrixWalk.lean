/- The law PlaceMatrix answers true for every place, every array of six numbers and every point: a place's matrix brings points as it does; a place comes back from its matrix, and from no other one. -/
import Derived.Test.YthdemhahgjpdmaaPlaceAlive
import Derived.Test.YthdemhahgjpdmaaPlaceMat
namespace Go.Proofs.Ythdemhahgjpdmaa
open Go.RowKit
set_option linter.unusedVariables false

set_option maxRecDepth 100000 in
set_option maxHeartbeats 2000000 in
theorem pmatrix_yes (t X Y x y m0 m1 m2 m3 m4 m5 a b c d r T P1 P2 S1 Q1 P3 P4 S2 Q2 : Int) (w : World) (hT : 0 ≤ T) (hr : bits .and .i64 t 7 = r)
    (e1 : IntKind.i64.wrap (a * x) = P1) (e2 : IntKind.i64.wrap (c * y) = P2) (e3 : IntKind.i64.wrap (P1 + P2) = S1) (e4 : IntKind.i64.wrap (S1 + X) = Q1) (e5 : IntKind.i64.wrap (b * x) = P3) (e6 : IntKind.i64.wrap (d * y) = P4) (e7 : IntKind.i64.wrap (P3 + P4) = S2) (e8 : IntKind.i64.wrap (S2 + Y) = Q2)
    (KM : ∀ w, Calls Try.prog 17 #[.agg #[.int .i64 t, .int .i64 X, .int .i64 Y]] w fun e w' => e = .returned (.agg #[.int .i64 a, .int .i64 b, .int .i64 c, .int .i64 d, .int .i64 X, .int .i64 Y]) ∧ Below w.heap.size w w')
    (K1 : ∀ w, Calls Try.prog 18 #[.agg #[.int .i64 a, .int .i64 b, .int .i64 c, .int .i64 d, .int .i64 X, .int .i64 Y]] w fun e w' => e = .returned (.tuple #[.agg #[.int .i64 r, .int .i64 X, .int .i64 Y], .bool true]) ∧ Below w.heap.size w w')
    (K2 : ∀ w, Calls Try.prog 18 #[.agg #[.int .i64 m0, .int .i64 m1, .int .i64 m2, .int .i64 m3, .int .i64 m4, .int .i64 m5]] w fun e w' => e = .returned (.tuple #[.agg #[.int .i64 T, .int .i64 m4, .int .i64 m5], .bool true]) ∧ Below w.heap.size w w')
    (KT : ∀ w, Calls Try.prog 19 #[.agg #[.int .i64 m0, .int .i64 m1, .int .i64 m2, .int .i64 m3]] w fun e w' => e = .returned (.int .i64 T) ∧ Below w.heap.size w w')
    (KD : ∀ w, Calls Try.prog 7 #[.agg #[.int .i64 t, .int .i64 X, .int .i64 Y], .agg #[.int .i64 x, .int .i64 y]] w fun e w' => e = .returned (.agg #[.int .i64 Q1, .int .i64 Q2]) ∧ Below w.heap.size w w') :
    Calls Try.prog 5 #[.agg #[.int .i64 t, .int .i64 X, .int .i64 Y], .agg #[.int .i64 m0, .int .i64 m1, .int .i64 m2, .int .i64 m3, .int .i64 m4, .int .i64 m5], .agg #[.int .i64 x, .int .i64 y]] w fun e w' => e = .returned (.bool true) ∧ Below w.heap.size w w' := by
  have HM := Lib.hid KM; have H1 := Lib.hid K1; have H2 := Lib.hid K2; have HT := Lib.hid KT; have HD := Lib.hid KD
  clear KM K1 K2 KT KD
  go_enter Try.func5, Try.ntmps5
  go_wp2_with fail
  refine (alive_any _).mono ?_
  rintro e w1 ⟨rfl, hb⟩
  have A := (((Bx.new w 23 [.int .i64 t, .int .i64 X, .int .i64 Y]).alloc (.cells #[.int .i64 m0, .int .i64 m1, .int .i64 m2, .int .i64 m3, .int .i64 m4, .int .i64 m5] 37)).alloc (.cells #[.int .i64 x, .int .i64 y] 25)).up hb
  have M := ((Bx.new (w.alloc (.cells #[.int .i64 t, .int .i64 X, .int .i64 Y] 23)) 37 [.int .i64 m0, .int .i64 m1, .int .i64 m2, .int .i64 m3, .int .i64 m4, .int .i64 m5]).alloc (.cells #[.int .i64 x, .int .i64 y] 25)).up hb
  have P := (Bx.new ((w.alloc (.cells #[.int .i64 t, .int .i64 X, .int .i64 Y] 23)).alloc (.cells #[.int .i64 m0, .int .i64 m1, .int .i64 m2, .int .i64 m3, .int .i64 m4, .int .i64 m5] 37)) 25 [.int .i64 x, .int .i64 y]).up hb
  simp only [World.size_alloc] at M P
  have B1 := Lib.hid (up_trans (up_alloc (up_alloc (up_alloc (Below.refl _ w) _) _) _) hb)
  clear hb
  have a0 := A.cell 0 rfl; have a1 := A.cell 1 rfl; have a2 := A.cell 2 rfl
  go_wp2_with fail
  refine (HM.out _).mono ?_
  rintro e w2 ⟨rfl, hb⟩
  clear a0 a1 a2
  have A2 := (A.up hb).alloc (.cells #[.int .i64 a, .int .i64 b, .int .i64 c, .int .i64 d, .int .i64 X, .int .i64 Y] 37)
  have M2 := (M.up hb).alloc (.cells #[.int .i64 a, .int .i64 b, .int .i64 c, .int .i64 d, .int .i64 X, .int .i64 Y] 37)
  have P2' := (P.up hb).alloc (.cells #[.int .i64 a, .int .i64 b, .int .i64 c, .int .i64 d, .int .i64 X, .int .i64 Y] 37)
  have W2 := Bx.new w2 37 [.int .i64 a, .int .i64 b, .int .i64 c, .int .i64 d, .int .i64 X, .int .i64 Y]
  have B2 := Lib.hid (up_alloc (up_trans B1.out hb) (.cells #[.int .i64 a, .int .i64 b, .int .i64 c, .int .i64 d, .int .i64 X, .int .i64 Y] 37))
  clear A M P hb
  have x0 := P2'.cell 0 rfl; have y0 := P2'.cell 1 rfl
  go_wp2_with fail
  refine (H1.out _).mono ?_
  rintro e w3 ⟨rfl, hb⟩
  clear x0 y0
  have A3 := ((A2.alloc (.cells #[.int .i64 Q1, .int .i64 Q2] 25)).up hb).alloc (.cells #[.int .i64 r, .int .i64 X, .int .i64 Y] 23)
  have M3 := ((M2.alloc (.cells #[.int .i64 Q1, .int .i64 Q2] 25)).up hb).alloc (.cells #[.int .i64 r, .int .i64 X, .int .i64 Y] 23)
  have P3' := ((P2'.alloc (.cells #[.int .i64 Q1, .int .i64 Q2] 25)).up hb).alloc (.cells #[.int .i64 r, .int .i64 X, .int .i64 Y] 23)
  have G3 := ((Bx.new (w2.alloc (.cells #[.int .i64 a, .int .i64 b, .int .i64 c, .int .i64 d, .int .i64 X, .int .i64 Y] 37)) 25 [.int .i64 Q1, .int .i64 Q2]).up hb).alloc (.cells #[.int .i64 r, .int .i64 X, .int .i64 Y] 23)
  simp only [World.size_alloc] at G3
  have D3 := Bx.new w3 23 [.int .i64 r, .int .i64 X, .int .i64 Y]
  have B3 := Lib.hid (up_alloc (up_trans (up_alloc B2.out (.cells #[.int .i64 Q1, .int .i64 Q2] 25)) hb) (.cells #[.int .i64 r, .int .i64 X, .int .i64 Y] 23))
  clear A2 M2 P2' W2 hb
  have n0 := M3.cell 0 rfl; have n1 := M3.cell 1 rfl; have n2 := M3.cell 2 rfl; have n3 := M3.cell 3 rfl; have n4 := M3.cell 4 rfl; have n5 := M3.cell 5 rfl
  go_wp2_with fail
  refine (H2.out _).mono ?_
  rintro e w4 ⟨rfl, hb⟩
  clear n0 n1 n2 n3 n4 n5
  have A4 := (A3.up hb).alloc (.cells #[.int .i64 T, .int .i64 m4, .int .i64 m5] 23)
  have M4 := (M3.up hb).alloc (.cells #[.int .i64 T, .int .i64 m4, .int .i64 m5] 23)
  have P4' := (P3'.up hb).alloc (.cells #[.int .i64 T, .int .i64 m4, .int .i64 m5] 23)
  have G4 := (G3.up hb).alloc (.cells #[.int .i64 T, .int .i64 m4, .int .i64 m5] 23)
  have D4 := (D3.up hb).alloc (.cells #[.int .i64 T, .int .i64 m4, .int .i64 m5] 23)
  have C4' := Bx.new w4 23 [.int .i64 T, .int .i64 m4, .int .i64 m5]
  have B4 := Lib.hid (up_alloc (up_trans B3.out hb) (.cells #[.int .i64 T, .int .i64 m4, .int .i64 m5] 23))
  clear A3 M3 P3' G3 D3 hb
  have n0 := M4.cell 0 rfl; have n1 := M4.cell 1 rfl; have n2 := M4.cell 2 rfl; have n3 := M4.cell 3 rfl
  go_wp2_with fail
  refine (HT.out _).mono ?_
  rintro e w5 ⟨rfl, hb⟩
  clear n0 n1 n2 n3
  have A5 := A4.up hb; have M5 := M4.up hb; have P5 := P4'.up hb; have G5 := G4.up hb; have D5 := D4.up hb; have C5 := C4'.up hb
  have B5 := Lib.hid (up_trans B4.out hb)
  clear A4 M4 P4' G4 D4 C4' hb
  generalize w4.heap.size = gc at *
  generalize w3.heap.size = gb at *
  generalize w2.heap.size + 1 = gq at *
  have a0 := fun u : Later w5 => u.cell (A5.cell 0 rfl); have a1 := fun u : Later w5 => u.cell (A5.cell 1 rfl); have a2 := fun u : Later w5 => u.cell (A5.cell 2 rfl)
  have n4 := fun u : Later w5 => u.cell (M5.cell 4 rfl); have n5 := fun u : Later w5 => u.cell (M5.cell 5 rfl)
  have x0 := fun u : Later w5 => u.cell (P5.cell 0 rfl); have y0 := fun u : Later w5 => u.cell (P5.cell 1 rfl)
  have g0 := fun u : Later w5 => u.cell (G5.cell 0 rfl); have g1 := fun u : Later w5 => u.cell (G5.cell 1 rfl)
  have d0 := fun u : Later w5 => u.cell (D5.cell 0 rfl); have d1 := fun u : Later w5 => u.cell (D5.cell 1 rfl); have d2 := fun u : Later w5 => u.cell (D5.cell 2 rfl)
  have c0 := fun u : Later w5 => u.cell (C5.cell 0 rfl); have c1 := fun u : Later w5 => u.cell (C5.cell 1 rfl); have c2 := fun u : Later w5 => u.cell (C5.cell 2 rfl)
  clear A5 M5 P5 G5 D5 C5
  have z1 := fun w => run_ne3 T m4 m5 w; have z2 := fun w => run_eq2 Q1 Q2 w; have z3 := fun w => run_eq3 r X Y w
  refine later_start (w := w5) ?_
  intro u
  go_wp2_with fail
  refine wp_region_later (by kernel_rfl) (by kernel_rfl) ?_
  repeat (go_big_quiet_step ((go_at_call 7; with_reducible exact Later.call (HD.out _))))
  refine wpQuiet_nil ?_
  rintro _ ⟨u2, rfl⟩
  go_wp2
  go_ret
  exact ⟨rfl, up_trans B5.out u2.up⟩

set_option maxRecDepth 100000 in
set_option maxHeartbeats 2000000 in
theorem pmatrix_no (t X Y x y m0 m1 m2 m3 m4 m5 a b c d r T P1 P2 S1 Q1 P3 P4 S2 Q2 : Int) (w : World) (hT : T = -1) (hr : bits .and .i64 t 7 = r)
    (e1 : IntKind.i64.wrap (a * x) = P1) (e2 : IntKind.i64.wrap (c * y) = P2) (e3 : IntKind.i64.wrap (P1 + P2) = S1) (e4 : IntKind.i64.wrap (S1 + X) = Q1) (e5 : IntKind.i64.wrap (b * x) = P3) (e6 : IntKind.i64.wrap (d * y) = P4) (e7 : IntKind.i64.wrap (P3 + P4) = S2) (e8 : IntKind.i64.wrap (S2 + Y) = Q2)
    (KM : ∀ w, Calls Try.prog 17 #[.agg #[.int .i64 t, .int .i64 X, .int .i64 Y]] w fun e w' => e = .returned (.agg #[.int .i64 a, .int .i64 b, .int .i64 c, .int .i64 d, .int .i64 X, .int .i64 Y]) ∧ Below w.heap.size w w')
    (K1 : ∀ w, Calls Try.prog 18 #[.agg #[.int .i64 a, .int .i64 b, .int .i64 c, .int .i64 d, .int .i64 X, .int .i64 Y]] w fun e w' => e = .returned (.tuple #[.agg #[.int .i64 r, .int .i64 X, .int .i64 Y], .bool true]) ∧ Below w.heap.size w w')
    (K2 : ∀ w, Calls Try.prog 18 #[.agg #[.int .i64 m0, .int .i64 m1, .int .i64 m2, .int .i64 m3, .int .i64 m4, .int .i64 m5]] w fun e w' => e = .returned (.tuple #[.agg #[.int .i64 0, .int .i64 0, .int .i64 0], .bool false]) ∧ Below w.heap.size w w')
    (KT : ∀ w, Calls Try.prog 19 #[.agg #[.int .i64 m0, .int .i64 m1, .int .i64 m2, .int .i64 m3]] w fun e w' => e = .returned (.int .i64 T) ∧ Below w.heap.size w w')
    (KD : ∀ w, Calls Try.prog 7 #[.agg #[.int .i64 t, .int .i64 X, .int .i64 Y], .agg #[.int .i64 x, .int .i64 y]] w fun e w' => e = .returned (.agg #[.int .i64 Q1, .int .i64 Q2]) ∧ Below w.heap.size w w') :
    Calls Try.prog 5 #[.agg #[.int .i64 t, .int .i64 X, .int .i64 Y], .agg #[.int .i64 m0, .int .i64 m1, .int .i64 m2, .int .i64 m3, .int .i64 m4, .int .i64 m5], .agg #[.int .i64 x, .int .i64 y]] w fun e w' => e = .returned (.bool true) ∧ Below w.heap.size w w' := by
  have HM := Lib.hid KM; have H1 := Lib.hid K1; have H2 := Lib.hid K2; have HT := Lib.hid KT; have HD := Lib.hid KD
  clear KM K1 K2 KT KD
  go_enter Try.func5, Try.ntmps5
  go_wp2_with fail
  refine (alive_any _).mono ?_
  rintro e w1 ⟨rfl, hb⟩
  have A := (((Bx.new w 23 [.int .i64 t, .int .i64 X, .int .i64 Y]).alloc (.cells #[.int .i64 m0, .int .i64 m1, .int .i64 m2, .int .i64 m3, .int .i64 m4, .int .i64 m5] 37)).alloc (.cells #[.int .i64 x, .int .i64 y] 25)).up hb
  have M := ((Bx.new (w.alloc (.cells #[.int .i64 t, .int .i64 X, .int .i64 Y] 23)) 37 [.int .i64 m0, .int .i64 m1, .int .i64 m2, .int .i64 m3, .int .i64 m4, .int .i64 m5]).alloc (.cells #[.int .i64 x, .int .i64 y] 25)).up hb
  have P := (Bx.new ((w.alloc (.cells #[.int .i64 t, .int .i64 X, .int .i64 Y] 23)).alloc (.cells #[.int .i64 m0, .int .i64 m1, .int .i64 m2, .int .i64 m3, .int .i64 m4, .int .i64 m5] 37)) 25 [.int .i64 x, .int .i64 y]).up hb
  simp only [World.size_alloc] at M P
  have B1 := Lib.hid (up_trans (up_alloc (up_alloc (up_alloc (Below.refl _ w) _) _) _) hb)
  clear hb
  have a0 := A.cell 0 rfl; have a1 := A.cell 1 rfl; have a2 := A.cell 2 rfl
  go_wp2_with fail
  refine (HM.out _).mono ?_
  rintro e w2 ⟨rfl, hb⟩
  clear a0 a1 a2
  have A2 := (A.up hb).alloc (.cells #[.int .i64 a, .int .i64 b, .int .i64 c, .int .i64 d, .int .i64 X, .int .i64 Y] 37)
  have M2 := (M.up hb).alloc (.cells #[.int .i64 a, .int .i64 b, .int .i64 c, .int .i64 d, .int .i64 X, .int .i64 Y] 37)
  have P2' := (P.up hb).alloc (.cells #[.int .i64 a, .int .i64 b, .int .i64 c, .int .i64 d, .int .i64 X, .int .i64 Y] 37)
  have W2 := Bx.new w2 37 [.int .i64 a, .int .i64 b, .int .i64 c, .int .i64 d, .int .i64 X, .int .i64 Y]
  have B2 := Lib.hid (up_alloc (up_trans B1.out hb) (.cells #[.int .i64 a, .int .i64 b, .int .i64 c, .int .i64 d, .int .i64 X, .int .i64 Y] 37))
  clear A M P hb
  have x0 := P2'.cell 0 rfl; have y0 := P2'.cell 1 rfl
  go_wp2_with fail
  refine (H1.out _).mono ?_
  rintro e w3 ⟨rfl, hb⟩
  clear x0 y0
  have A3 := ((A2.alloc (.cells #[.int .i64 Q1, .int .i64 Q2] 25)).up hb).alloc (.cells #[.int .i64 r, .int .i64 X, .int .i64 Y] 23)
  have M3 := ((M2.alloc (.cells #[.int .i64 Q1, .int .i64 Q2] 25)).up hb).alloc (.cells #[.int .i64 r, .int .i64 X, .int .i64 Y] 23)
  have P3' := ((P2'.alloc (.cells #[.int .i64 Q1, .int .i64 Q2] 25)).up hb).alloc (.cells #[.int .i64 r, .int .i64 X, .int .i64 Y] 23)
  have G3 := ((Bx.new (w2.alloc (.cells #[.int .i64 a, .int .i64 b, .int .i64 c, .int .i64 d, .int .i64 X, .int .i64 Y] 37)) 25 [.int .i64 Q1, .int .i64 Q2]).up hb).alloc (.cells #[.int .i64 r, .int .i64 X, .int .i64 Y] 23)
  simp only [World.size_alloc] at G3
  have D3 := Bx.new w3 23 [.int .i64 r, .int .i64 X, .int .i64 Y]
  have B3 := Lib.hid (up_alloc (up_trans (up_alloc B2.out (.cells #[.int .i64 Q1, .int .i64 Q2] 25)) hb) (.cells #[.int .i64 r, .int .i64 X, .int .i64 Y] 23))
  clear A2 M2 P2' W2 hb
  have n0 := M3.cell 0 rfl; have n1 := M3.cell 1 rfl; have n2 := M3.cell 2 rfl; have n3 := M3.cell 3 rfl; have n4 := M3.cell 4 rfl; have n5 := M3.cell 5 rfl
  go_wp2_with fail
  refine (H2.out _).mono ?_
  rintro e w4 ⟨rfl, hb⟩
  clear n0 n1 n2 n3 n4 n5
  have A4 := (A3.up hb).alloc (.cells #[.int .i64 0, .int .i64 0, .int .i64 0] 23)
  have M4 := (M3.up hb).alloc (.cells #[.int .i64 0, .int .i64 0, .int .i64 0] 23)
  have P4' := (P3'.up hb).alloc (.cells #[.int .i64 0, .int .i64 0, .int .i64 0] 23)
  have G4 := (G3.up hb).alloc (.cells #[.int .i64 0, .int .i64 0, .int .i64 0] 23)
  have D4 := (D3.up hb).alloc (.cells #[.int .i64 0, .int .i64 0, .int .i64 0] 23)
  have C4' := Bx.new w4 23 [.int .i64 0, .int .i64 0, .int .i64 0]
  have B4 := Lib.hid (up_alloc (up_trans B3.out hb) (.cells #[.int .i64 0, .int .i64 0, .int .i64 0] 23))
  clear A3 M3 P3' G3 D3 hb
  have n0 := M4.cell 0 rfl; have n1 := M4.cell 1 rfl; have n2 := M4.cell 2 rfl; have n3 := M4.cell 3 rfl
  go_wp2_with fail
  refine (HT.out _).mono ?_
  rintro e w5 ⟨rfl, hb⟩
  clear n0 n1 n2 n3
  have A5 := A4.up hb; have M5 := M4.up hb; have P5 := P4'.up hb; have G5 := G4.up hb; have D5 := D4.up hb; have C5 := C4'.up hb
  have B5 := Lib.hid (up_trans B4.out hb)
  clear A4 M4 P4' G4 D4 C4' hb
  generalize w4.heap.size = gc at *
  generalize w3.heap.size = gb at *
  generalize w2.heap.size + 1 = gq at *
  have a0 := fun u : Later w5 => u.cell (A5.cell 0 rfl); have a1 := fun u : Later w5 => u.cell (A5.cell 1 rfl); have a2 := fun u : Later w5 => u.cell (A5.cell 2 rfl)
  have n4 := fun u : Later w5 => u.cell (M5.cell 4 rfl); have n5 := fun u : Later w5 => u.cell (M5.cell 5 rfl)
  have x0 := fun u : Later w5 => u.cell (P5.cell 0 rfl); have y0 := fun u : Later w5 => u.cell (P5.cell 1 rfl)
  have g0 := fun u : Later w5 => u.cell (G5.cell 0 rfl); have g1 := fun u : Later w5 => u.cell (G5.cell 1 rfl)
  have d0 := fun u : Later w5 => u.cell (D5.cell 0 rfl); have d1 := fun u : Later w5 => u.cell (D5.cell 1 rfl); have d2 := fun u : Later w5 => u.cell (D5.cell 2 rfl)
  have c0 := fun u : Later w5 => u.cell (C5.cell 0 rfl); have c1 := fun u : Later w5 => u.cell (C5.cell 1 rfl); have c2 := fun u : Later w5 => u.cell (C5.cell 2 rfl)
  clear A5 M5 P5 G5 D5 C5
  have z1 := fun w => run_ne3 0 0 0 w; have z2 := fun w => run_eq2 Q1 Q2 w; have z3 := fun w => run_eq3 r X Y w
  refine later_start (w := w5) ?_
  intro u
  go_wp2_with fail
  refine wp_region_later (by kernel_rfl) (by kernel_rfl) ?_
  repeat (go_big_quiet_step ((go_at_call 7; with_reducible exact Later.call (HD.out _))))
  refine wpQuiet_nil ?_
  rintro _ ⟨u2, rfl⟩
  go_wp2
  go_ret
  exact ⟨rfl, up_trans B5.out u2.up⟩

theorem pof_back (t X Y : Int) (w : World) :
    Calls Try.prog 18 #[.agg #[.int .i64 (mx (t % 8)).a, .int .i64 (mx (t % 8)).b, .int .i64 (mx (t % 8)).c, .int .i64 (mx (t % 8)).d, .int .i64 X, .int .i64 Y]] w fun e w' => e = .returned (.tuple #[.agg #[.int .i64 (t % 8), .int .i64 X, .int .i64 Y], .bool true]) ∧ Below w.heap.size w w' := by
  have := pof_yes (t % 8).toNat (by omega) X Y w
  rwa [show (((t % 8).toNat : Nat) : Int) = t % 8 by omega] at this
theorem walkPlaceMatrix (t X Y m0 m1 m2 m3 m4 m5 x y : Int) (w : World) (ht : (Lit.int .i64 t).wf = true) (hX : (Lit.int .i64 X).wf = true) (hY : (Lit.int .i64 Y).wf = true)
    (h0 : (Lit.int .i64 m0).wf = true) (h1 : (Lit.int .i64 m1).wf = true) (h2 : (Lit.int .i64 m2).wf = true) (h3 : (Lit.int .i64 m3).wf = true) (h4 : (Lit.int .i64 m4).wf = true) (h5 : (Lit.int .i64 m5).wf = true) (hx : (Lit.int .i64 x).wf = true) (hy : (Lit.int .i64 y).wf = true) :
    Calls Try.prog 5 #[.agg #[.int .i64 t, .int .i64 X, .int .i64 Y], .agg #[.int .i64 m0, .int .i64 m1, .int .i64 m2, .int .i64 m3, .int .i64 m4, .int .i64 m5], .agg #[.int .i64 x, .int .i64 y]] w fun e w' => e = .returned (.bool true) ∧ Below w.heap.size w w' := by
  obtain ⟨xl, xh⟩ := bounds_i64 hx
  obtain ⟨yl, yh⟩ := bounds_i64 hy
  obtain ⟨i, hi⟩ := fin8 t
  have e := mat_does i x y xl xh yl yh
  have KD : ∀ w, Calls Try.prog 7 #[.agg #[.int .i64 t, .int .i64 X, .int .i64 Y], .agg #[.int .i64 x, .int .i64 y]] w fun e w' => e = .returned (.agg #[.int .i64 (IntKind.i64.wrap ((mdo (mx (t % 8)) x y).1 + X)), .int .i64 (IntKind.i64.wrap ((mdo (mx (t % 8)) x y).2 + Y))]) ∧ Below w.heap.size w w' := by
    intro w
    have := pdo_any t X Y x y w xl xh yl yh
    unfold pdo add64 at this
    rwa [hi, ← e, ← hi] at this
  rcases turn_or_none m0 m1 m2 m3 with ⟨k, hk, he⟩ | hno
  · refine pmatrix_yes t X Y x y m0 m1 m2 m3 m4 m5 (mx (t % 8)).a (mx (t % 8)).b (mx (t % 8)).c (mx (t % 8)).d (t % 8) (k : Int) _ _ _ _ _ _ _ _ w (by omega) (and7 t) rfl rfl rfl rfl rfl rfl rfl rfl (fun w => pmat_any t X Y w) (fun w => pof_back t X Y w) ?_ ?_ KD
    · intro w; have := pof_yes k hk m4 m5 w; rwa [he] at this
    · intro w; have := refTurn_yes k hk w; rwa [he] at this
  · exact pmatrix_no t X Y x y m0 m1 m2 m3 m4 m5 (mx (t % 8)).a (mx (t % 8)).b (mx (t % 8)).c (mx (t % 8)).d (t % 8) (-1) _ _ _ _ _ _ _ _ w rfl (and7 t) rfl rfl rfl rfl rfl rfl rfl rfl (fun w => pmat_any t X Y w) (fun w => pof_back t X Y w) (fun w => pof_no m0 m1 m2 m3 m4 m5 w hno) (fun w => refTurn_no m0 m1 m2 m3 w hno) KD
end Go.Proofs.Ythdemhahgjpdmaa
