/- The law BoxMakes answers true for every rectangle and every four numbers: rectangles are made, grown and shifted by sums that go round; a size comes back; no condition. -/
import Derived.Test.YtgfbgmkooflhbaaBoxAlive
import Derived.Test.YtgfbgmkooflhbaaBoxCells
namespace Go.Proofs.Ytgfbgmkooflhbaa
open Go.RowKit
set_option linter.unusedVariables false

theorem dif_sum (a b : Int) (h : (Lit.int .i64 b).wf = true) : dif64 (sum64 a b) a = b := by
  have hb : -9223372036854775808 ≤ b ∧ b ≤ 9223372036854775807 := by
    simp [Lit.wf, IntKind.min, IntKind.max, IntKind.bits, IntKind.signed] at h
    omega
  unfold dif64 sum64
  rw [IntKind.wrap_i64, IntKind.wrap_i64]
  omega

set_option maxHeartbeats 4000000 in
theorem makes_core (r0 r1 r2 r3 n0 n1 n2 n3 s2 s3 g0 g1 g2 g3 h0 h1 h2 h3 : Int) (w : World)
    (KO : ∀ w, Calls Try.prog 18 #[.int .i64 n0, .int .i64 n1, .int .i64 n2, .int .i64 n3] w fun e w' => e = .returned (.agg #[.int .i64 n0, .int .i64 n1, .int .i64 s2, .int .i64 s3]) ∧ Below w.heap.size w w')
    (KR : ∀ w, Calls Try.prog 22 #[.int .i64 n0, .int .i64 n1, .int .i64 n2, .int .i64 n3] w fun e w' => e = .returned (.agg #[.int .i64 n0, .int .i64 n1, .int .i64 s2, .int .i64 s3]) ∧ Below w.heap.size w w')
    (KZ : ∀ w, Calls Try.prog 19 #[.agg #[.int .i64 n0, .int .i64 n1, .int .i64 s2, .int .i64 s3]] w fun e w' => e = .returned (.tuple #[.int .i64 n2, .int .i64 n3]) ∧ Below w.heap.size w w')
    (KG : ∀ w, Calls Try.prog 20 #[.agg #[.int .i64 r0, .int .i64 r1, .int .i64 r2, .int .i64 r3], .int .i64 n0, .int .i64 n1, .int .i64 n2, .int .i64 n3] w fun e w' => e = .returned (.agg #[.int .i64 g0, .int .i64 g1, .int .i64 g2, .int .i64 g3]) ∧ Below w.heap.size w w')
    (KS : ∀ w, Calls Try.prog 21 #[.agg #[.int .i64 r0, .int .i64 r1, .int .i64 r2, .int .i64 r3], .int .i64 n0, .int .i64 n1] w fun e w' => e = .returned (.agg #[.int .i64 h0, .int .i64 h1, .int .i64 h2, .int .i64 h3]) ∧ Below w.heap.size w w')
    (eg0 : IntKind.i64.wrap (r0 - n0) = g0) (eg1 : IntKind.i64.wrap (r1 - n1) = g1) (eg2 : IntKind.i64.wrap (r2 + n2) = g2) (eg3 : IntKind.i64.wrap (r3 + n3) = g3)
    (eh0 : IntKind.i64.wrap (r0 + n0) = h0) (eh1 : IntKind.i64.wrap (r1 + n1) = h1) (eh2 : IntKind.i64.wrap (r2 + n0) = h2) (eh3 : IntKind.i64.wrap (r3 + n1) = h3) :
    Calls Try.prog 5 #[.agg #[.int .i64 r0, .int .i64 r1, .int .i64 r2, .int .i64 r3], .agg #[.int .i64 n0, .int .i64 n1, .int .i64 n2, .int .i64 n3]] w fun e w' => e = .returned (.bool true) ∧ Below w.heap.size w w' := by
  have HO := Lib.hid KO; have HR := Lib.hid KR; have HZ := Lib.hid KZ; have HG := Lib.hid KG; have HS := Lib.hid KS
  clear KO KR KZ KG KS
  go_enter Try.func5, Try.ntmps5
  go_wp2_with (go_at_call 8; refine (alive_any _).mono ?_; rintro e w1 ⟨rfl, hb⟩; obtain ⟨R, N, hb2⟩ := two_rects _ _ _ _ hb; have HB2 := Lib.hid hb2; clear hb hb2; obtain ⟨N0, N1, N2, N3⟩ := id N)
  clear N0 N1 N2 N3
  refine (HO.out _).mono ?_
  rintro e w2 ⟨rfl, hb⟩
  have R := R.up hb; have N := N.up hb; have HB := Lib.hid (up_trans HB2.out hb)
  clear HB2 hb
  go_wp2_with fail
  refine (HZ.out _).mono ?_
  rintro e w3 ⟨rfl, hb⟩
  have R := (R.alloc _).up hb; have N := (N.alloc _).up hb; have A := (C4.new w2 _ _ _ _ _).up hb; have HB := Lib.hid (up_trans (up_alloc HB.out _) hb)
  clear hb
  generalize w2.heap.size = B5 at *
  obtain ⟨R0, R1, R2, R3⟩ := id R
  obtain ⟨N0, N1, N2, N3⟩ := id N
  go_wp2_with fail
  clear R0 R1 R2 R3 N0 N1 N2 N3
  refine (HG.out _).mono ?_
  rintro e w4 ⟨rfl, hb⟩
  have R := R.up hb; have N := N.up hb; have A := A.up hb; have HB := Lib.hid (up_trans HB.out hb)
  clear hb
  obtain ⟨R0, R1, R2, R3⟩ := R.alloc (.cells #[.int .i64 g0, .int .i64 g1, .int .i64 g2, .int .i64 g3] 23)
  obtain ⟨N0, N1, N2, N3⟩ := N.alloc (.cells #[.int .i64 g0, .int .i64 g1, .int .i64 g2, .int .i64 g3] 23)
  go_wp2_with fail
  clear R0 R1 R2 R3 N0 N1 N2 N3
  refine (HS.out _).mono ?_
  rintro e w5 ⟨rfl, hb⟩
  have R := (R.alloc _).up hb; have N := (N.alloc _).up hb; have A := (A.alloc _).up hb; have G := (C4.new w4 _ _ _ _ _).up hb; have HB := Lib.hid (up_trans (up_alloc HB.out _) hb)
  clear hb
  generalize w4.heap.size = B8 at *
  obtain ⟨R0, R1, R2, R3⟩ := R.alloc (.cells #[.int .i64 h0, .int .i64 h1, .int .i64 h2, .int .i64 h3] 23)
  obtain ⟨N0, N1, N2, N3⟩ := N.alloc (.cells #[.int .i64 h0, .int .i64 h1, .int .i64 h2, .int .i64 h3] 23)
  obtain ⟨A0, A1, A2, A3⟩ := A.alloc (.cells #[.int .i64 h0, .int .i64 h1, .int .i64 h2, .int .i64 h3] 23)
  obtain ⟨G0, G1, G2, G3⟩ := G.alloc (.cells #[.int .i64 h0, .int .i64 h1, .int .i64 h2, .int .i64 h3] 23)
  go_wp2_with fail
  clear R0 R1 R2 R3 N0 N1 N2 N3 A0 A1 A2 A3 G0 G1 G2 G3
  have R := R.alloc (.cells #[.int .i64 h0, .int .i64 h1, .int .i64 h2, .int .i64 h3] 23)
  have N := N.alloc (.cells #[.int .i64 h0, .int .i64 h1, .int .i64 h2, .int .i64 h3] 23)
  have A := A.alloc (.cells #[.int .i64 h0, .int .i64 h1, .int .i64 h2, .int .i64 h3] 23)
  have G := G.alloc (.cells #[.int .i64 h0, .int .i64 h1, .int .i64 h2, .int .i64 h3] 23)
  have S := C4.new w5 23 h0 h1 h2 h3
  have hup := up_alloc HB.out (.cells #[.int .i64 h0, .int .i64 h1, .int .i64 h2, .int .i64 h3] 23)
  clear HB
  generalize (w5.alloc (.cells #[.int .i64 h0, .int .i64 h1, .int .i64 h2, .int .i64 h3] 23)) = w6 at *
  have HB := Lib.hid hup
  clear hup
  generalize w5.heap.size = B9 at *
  have jR0 := fun u : Later w6 => u.cell R.1; have jR1 := fun u : Later w6 => u.cell R.2.1; have jR2 := fun u : Later w6 => u.cell R.2.2.1; have jR3 := fun u : Later w6 => u.cell R.2.2.2
  have jN0 := fun u : Later w6 => u.cell N.1; have jN1 := fun u : Later w6 => u.cell N.2.1; have jN2 := fun u : Later w6 => u.cell N.2.2.1; have jN3 := fun u : Later w6 => u.cell N.2.2.2
  have jA0 := fun u : Later w6 => u.cell A.1; have jA1 := fun u : Later w6 => u.cell A.2.1; have jA2 := fun u : Later w6 => u.cell A.2.2.1; have jA3 := fun u : Later w6 => u.cell A.2.2.2
  have jG0 := fun u : Later w6 => u.cell G.1; have jG1 := fun u : Later w6 => u.cell G.2.1; have jG2 := fun u : Later w6 => u.cell G.2.2.1; have jG3 := fun u : Later w6 => u.cell G.2.2.2
  have jS0 := fun u : Later w6 => u.cell S.1; have jS1 := fun u : Later w6 => u.cell S.2.1; have jS2 := fun u : Later w6 => u.cell S.2.2.1; have jS3 := fun u : Later w6 => u.cell S.2.2.2
  clear R N A G S
  refine later_start (w := w6) ?_
  intro u
  refine wp_region_later (by kernel_rfl) (by kernel_rfl) ?_
  simp only [List.append]
  repeat (go_big_quiet_step (first
    | (go_at_call 22; with_reducible exact Later.call (HR.out _))))
  refine wpQuiet_nil ?_
  rintro _ ⟨u2, rfl⟩
  clear jR0 jR1 jR2 jR3 jN0 jN1 jN2 jN3 jA0 jA1 jA2 jA3 jG0 jG1 jG2 jG3 jS0 jS1 jS2 jS3
  go_wp2
  go_ret
  exact ⟨rfl, up_trans HB.out u2.up⟩

theorem walkBoxMakes (r0 r1 r2 r3 n0 n1 n2 n3 : Int) (w : World) (x0 : (Lit.int .i64 r0).wf = true) (x1 : (Lit.int .i64 r1).wf = true) (x2 : (Lit.int .i64 r2).wf = true) (x3 : (Lit.int .i64 r3).wf = true) (y0 : (Lit.int .i64 n0).wf = true) (y1 : (Lit.int .i64 n1).wf = true) (y2 : (Lit.int .i64 n2).wf = true) (y3 : (Lit.int .i64 n3).wf = true) :
    Calls Try.prog 5 #[.agg #[.int .i64 r0, .int .i64 r1, .int .i64 r2, .int .i64 r3], .agg #[.int .i64 n0, .int .i64 n1, .int .i64 n2, .int .i64 n3]] w fun e w' => e = .returned (.bool true) ∧ Below w.heap.size w w' := by
  refine makes_core r0 r1 r2 r3 n0 n1 n2 n3 (sum64 n0 n2) (sum64 n1 n3) _ _ _ _ _ _ _ _ w (fun w => of_any n0 n1 n2 n3 w) (fun w => refOf_any n0 n1 n2 n3 w) (fun w => ?_) (fun w => grow_any r0 r1 r2 r3 n0 n1 n2 n3 w) (fun w => shift_any r0 r1 r2 r3 n0 n1 w) rfl rfl rfl rfl rfl rfl rfl rfl
  have := size_any n0 n1 (sum64 n0 n2) (sum64 n1 n3) w
  rw [dif_sum _ _ y2, dif_sum _ _ y3] at this
  exact this
end Go.Proofs.Ytgfbgmkooflhbaa
