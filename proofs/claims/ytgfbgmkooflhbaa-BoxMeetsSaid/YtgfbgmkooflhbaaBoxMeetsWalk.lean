/- The law BoxMeets answers true for every two rectangles: what both have, whether they are apart, or one within the other one; no condition. -/
import Derived.Test.YtgfbgmkooflhbaaBoxAlive
import Derived.Test.YtgfbgmkooflhbaaBoxWithin
import Derived.Test.YtgfbgmkooflhbaaBoxCells
namespace Go.Proofs.Ytgfbgmkooflhbaa
open Go.RowKit
set_option linter.unusedVariables false

theorem meet_swap (a0 a1 a2 a3 b0 b1 b2 b3 : Int) : meetR b0 b1 b2 b3 a0 a1 a2 a3 = meetR a0 a1 a2 a3 b0 b1 b2 b3 := by
  unfold meetR
  rw [Int.max_comm b0, Int.max_comm b1, Int.min_comm b2, Int.min_comm b3]
theorem meet_within (a0 a1 a2 a3 b0 b1 b2 b3 : Int) :
    withinR (meetR a0 a1 a2 a3 b0 b1 b2 b3).x0 (meetR a0 a1 a2 a3 b0 b1 b2 b3).y0 (meetR a0 a1 a2 a3 b0 b1 b2 b3).x1 (meetR a0 a1 a2 a3 b0 b1 b2 b3).y1 a0 a1 a2 a3 = true := by
  unfold meetR oz4
  split
  · rfl
  · simp [withinR]
    omega

set_option maxHeartbeats 4000000 in
theorem meets_core (a0 a1 a2 a3 b0 b1 b2 b3 m0 m1 m2 m3 : Int) (EA EM V S : Bool) (w : World)
    (KM : ∀ w, Calls Try.prog 9 #[.agg #[.int .i64 a0, .int .i64 a1, .int .i64 a2, .int .i64 a3], .agg #[.int .i64 b0, .int .i64 b1, .int .i64 b2, .int .i64 b3]] w fun e w' => e = .returned (.agg #[.int .i64 m0, .int .i64 m1, .int .i64 m2, .int .i64 m3]) ∧ Below w.heap.size w w')
    (KN : ∀ w, Calls Try.prog 9 #[.agg #[.int .i64 b0, .int .i64 b1, .int .i64 b2, .int .i64 b3], .agg #[.int .i64 a0, .int .i64 a1, .int .i64 a2, .int .i64 a3]] w fun e w' => e = .returned (.agg #[.int .i64 m0, .int .i64 m1, .int .i64 m2, .int .i64 m3]) ∧ Below w.heap.size w w')
    (KR : ∀ w, Calls Try.prog 10 #[.agg #[.int .i64 a0, .int .i64 a1, .int .i64 a2, .int .i64 a3], .agg #[.int .i64 b0, .int .i64 b1, .int .i64 b2, .int .i64 b3]] w fun e w' => e = .returned (.agg #[.int .i64 m0, .int .i64 m1, .int .i64 m2, .int .i64 m3]) ∧ Below w.heap.size w w')
    (KP : ∀ w, Calls Try.prog 11 #[.agg #[.int .i64 a0, .int .i64 a1, .int .i64 a2, .int .i64 a3], .agg #[.int .i64 b0, .int .i64 b1, .int .i64 b2, .int .i64 b3]] w fun e w' => e = .returned (.bool EM) ∧ Below w.heap.size w w')
    (KE : ∀ w, Calls Try.prog 12 #[.agg #[.int .i64 m0, .int .i64 m1, .int .i64 m2, .int .i64 m3]] w fun e w' => e = .returned (.bool EM) ∧ Below w.heap.size w w')
    (KA : ∀ w, Calls Try.prog 13 #[.agg #[.int .i64 a0, .int .i64 a1, .int .i64 a2, .int .i64 a3]] w fun e w' => e = .returned (.bool EA) ∧ Below w.heap.size w w')
    (KB : ∀ w, Calls Try.prog 12 #[.agg #[.int .i64 a0, .int .i64 a1, .int .i64 a2, .int .i64 a3]] w fun e w' => e = .returned (.bool EA) ∧ Below w.heap.size w w')
    (KV : ∀ w, Calls Try.prog 14 #[.agg #[.int .i64 a0, .int .i64 a1, .int .i64 a2, .int .i64 a3], .agg #[.int .i64 b0, .int .i64 b1, .int .i64 b2, .int .i64 b3]] w fun e w' => e = .returned (.bool V) ∧ Below w.heap.size w w')
    (KW : ∀ w, Calls Try.prog 15 #[.agg #[.int .i64 a0, .int .i64 a1, .int .i64 a2, .int .i64 a3], .agg #[.int .i64 b0, .int .i64 b1, .int .i64 b2, .int .i64 b3]] w fun e w' => e = .returned (.bool V) ∧ Below w.heap.size w w')
    (KX : ∀ w, Calls Try.prog 14 #[.agg #[.int .i64 m0, .int .i64 m1, .int .i64 m2, .int .i64 m3], .agg #[.int .i64 a0, .int .i64 a1, .int .i64 a2, .int .i64 a3]] w fun e w' => e = .returned (.bool true) ∧ Below w.heap.size w w')
    (KY : ∀ w, Calls Try.prog 14 #[.agg #[.int .i64 m0, .int .i64 m1, .int .i64 m2, .int .i64 m3], .agg #[.int .i64 b0, .int .i64 b1, .int .i64 b2, .int .i64 b3]] w fun e w' => e = .returned (.bool true) ∧ Below w.heap.size w w')
    (KS : ∀ w, Calls Try.prog 16 #[.agg #[.int .i64 a0, .int .i64 a1, .int .i64 a2, .int .i64 a3], .agg #[.int .i64 b0, .int .i64 b1, .int .i64 b2, .int .i64 b3]] w fun e w' => e = .returned (.bool S) ∧ Below w.heap.size w w')
    (q : ∀ w : World, (binOp .eql 23 (.agg #[.int .i64 a0, .int .i64 a1, .int .i64 a2, .int .i64 a3]) (.agg #[.int .i64 b0, .int .i64 b1, .int .i64 b2, .int .i64 b3])).run Try.prog w = .ok (.bool S) w) :
    Calls Try.prog 3 #[.agg #[.int .i64 a0, .int .i64 a1, .int .i64 a2, .int .i64 a3], .agg #[.int .i64 b0, .int .i64 b1, .int .i64 b2, .int .i64 b3]] w fun e w' => e = .returned (.bool true) ∧ Below w.heap.size w w' := by
  have HM := Lib.hid KM; have HN := Lib.hid KN; have HR := Lib.hid KR; have HP := Lib.hid KP; have HE := Lib.hid KE; have HA := Lib.hid KA; have HB := Lib.hid KB; have HV := Lib.hid KV; have HW := Lib.hid KW; have HX := Lib.hid KX; have HY := Lib.hid KY; have HS := Lib.hid KS; have HQ := Lib.hid q
  clear KM KN KR KP KE KA KB KV KW KX KY KS q
  go_enter Try.func3, Try.ntmps3
  go_wp2_with (go_at_call 8; refine (alive_any _).mono ?_; rintro e w1 ⟨rfl, hb⟩; obtain ⟨A, B, hb2⟩ := two_rects _ _ _ _ hb; have HU := Lib.hid hb2; clear hb hb2; obtain ⟨A0, A1, A2, A3⟩ := id A; obtain ⟨B0, B1, B2, B3⟩ := id B)
  clear A0 A1 A2 A3 B0 B1 B2 B3
  refine (HM.out _).mono ?_
  rintro e w2 ⟨rfl, hb⟩
  have A := (A.up hb).alloc (.cells #[.int .i64 m0, .int .i64 m1, .int .i64 m2, .int .i64 m3] 23)
  have B := (B.up hb).alloc (.cells #[.int .i64 m0, .int .i64 m1, .int .i64 m2, .int .i64 m3] 23)
  have M := C4.new w2 23 m0 m1 m2 m3
  have hup := up_alloc (up_trans HU.out hb) (.cells #[.int .i64 m0, .int .i64 m1, .int .i64 m2, .int .i64 m3] 23)
  clear hb HU
  go_wp2_with fail
  generalize (w2.alloc (.cells #[.int .i64 m0, .int .i64 m1, .int .i64 m2, .int .i64 m3] 23)) = w3 at *
  have HU := Lib.hid hup
  clear hup
  generalize w2.heap.size = B5 at *
  have jA0 := fun u : Later w3 => u.cell A.1; have jA1 := fun u : Later w3 => u.cell A.2.1; have jA2 := fun u : Later w3 => u.cell A.2.2.1; have jA3 := fun u : Later w3 => u.cell A.2.2.2
  have jB0 := fun u : Later w3 => u.cell B.1; have jB1 := fun u : Later w3 => u.cell B.2.1; have jB2 := fun u : Later w3 => u.cell B.2.2.1; have jB3 := fun u : Later w3 => u.cell B.2.2.2
  have jM0 := fun u : Later w3 => u.cell M.1; have jM1 := fun u : Later w3 => u.cell M.2.1; have jM2 := fun u : Later w3 => u.cell M.2.2.1; have jM3 := fun u : Later w3 => u.cell M.2.2.2
  clear A B M
  refine later_start (w := w3) ?_
  intro u
  go_cut [37] (fun s wx => LaterOf u (.bool false) s wx)
  case first =>
    cases EA <;> cases EM
    all_goals as_aux_lemma =>
      refine wp_region_later (by kernel_rfl) (by kernel_rfl) ?_
      repeat (go_big_quiet_step (first
        | (go_at_call 9; with_reducible exact Later.call (HN.out _))
        | (go_at_call 10; with_reducible exact Later.call (HR.out _))
        | (go_at_call 11; with_reducible exact Later.call (HP.out _))
        | (go_at_call 12; with_reducible exact Later.call (HE.out _))
        | (go_at_call 12; with_reducible exact Later.call (HB.out _))
        | (go_at_call 13; with_reducible exact Later.call (HA.out _))))
      refine wpQuiet_nil ?_
      rintro _ ⟨u2, rfl⟩
      go_wp2_with fail
      go_meet
      exact ⟨rfl, u2, rfl⟩
  case rest =>
    obtain ⟨rfl, u, rfl⟩ := hcut
    go_wp2_with fail
    have q := HQ.out
    cases V <;> cases S
    all_goals as_aux_lemma =>
      refine wp_region_later (by kernel_rfl) (by kernel_rfl) ?_
      repeat (go_big_quiet_step (first
        | (go_at_call 14; with_reducible exact Later.call (HX.out _))
        | (go_at_call 14; with_reducible exact Later.call (HY.out _))
        | (go_at_call 14; with_reducible exact Later.call (HV.out _))
        | (go_at_call 15; with_reducible exact Later.call (HW.out _))
        | (go_at_call 16; with_reducible exact Later.call (HS.out _))))
      refine wpQuiet_nil ?_
      rintro _ ⟨u2, rfl⟩
      clear jA0 jA1 jA2 jA3 jB0 jB1 jB2 jB3 jM0 jM1 jM2 jM3 q
      go_wp2
      go_ret
      exact ⟨rfl, up_trans HU.out u2.up⟩

theorem walkBoxMeets (a0 a1 a2 a3 b0 b1 b2 b3 : Int) (w : World) (x0 : (Lit.int .i64 a0).wf = true) (x1 : (Lit.int .i64 a1).wf = true) (x2 : (Lit.int .i64 a2).wf = true) (x3 : (Lit.int .i64 a3).wf = true) (y0 : (Lit.int .i64 b0).wf = true) (y1 : (Lit.int .i64 b1).wf = true) (y2 : (Lit.int .i64 b2).wf = true) (y3 : (Lit.int .i64 b3).wf = true) :
    Calls Try.prog 3 #[.agg #[.int .i64 a0, .int .i64 a1, .int .i64 a2, .int .i64 a3], .agg #[.int .i64 b0, .int .i64 b1, .int .i64 b2, .int .i64 b3]] w fun e w' => e = .returned (.bool true) ∧ Below w.heap.size w w' := by
  have sw := meet_swap a0 a1 a2 a3 b0 b1 b2 b3
  have wa := meet_within a0 a1 a2 a3 b0 b1 b2 b3
  have wb := meet_within b0 b1 b2 b3 a0 a1 a2 a3
  rw [sw] at wb
  refine meets_core a0 a1 a2 a3 b0 b1 b2 b3 _ _ _ _ (emp4 a0 a1 a2 a3) _ (withinR a0 a1 a2 a3 b0 b1 b2 b3) (same4 a0 a1 a2 a3 b0 b1 b2 b3) w (fun w => meet_any a0 a1 a2 a3 b0 b1 b2 b3 w) (fun w => ?_) (fun w => refMeet_any a0 a1 a2 a3 b0 b1 b2 b3 w) (fun w => apart_any a0 a1 a2 a3 b0 b1 b2 b3 w) (fun w => refEmpty_b _ _ _ _ w)
    (fun w => empty_b a0 a1 a2 a3 w) (fun w => refEmpty_b a0 a1 a2 a3 w) (fun w => within_any a0 a1 a2 a3 b0 b1 b2 b3 w) (fun w => refWithin_any a0 a1 a2 a3 b0 b1 b2 b3 w) (fun w => ?_) (fun w => ?_) (fun w => same_any a0 a1 a2 a3 b0 b1 b2 b3 w) (fun w => run_same a0 a1 a2 a3 b0 b1 b2 b3 w)
  · have := meet_any b0 b1 b2 b3 a0 a1 a2 a3 w
    rw [sw] at this
    exact this
  · rw [← wa]
    exact within_any _ _ _ _ _ _ _ _ w
  · rw [← wb]
    exact within_any _ _ _ _ _ _ _ _ w
end Go.Proofs.Ytgfbgmkooflhbaa
