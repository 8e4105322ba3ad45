/- gatherumlaw11.StepBack answers true, for every step and every text. -/
import Derived.Test.YteehfhfdcemgoaaDoorStepAlive
import Derived.Test.YteehfhfdcemgoaaDoorStepRef
import Derived.Test.YteehfhfdcemgoaaDoorDecLaid
import Derived.OpenShut
namespace Go.Proofs.YteehfhfdcemgoaaDoor
open Go.RowKit DecMath
set_option linter.unusedVariables false

theorem run_eqS (a b : Int) (c : Bool) (w : World) : (binOp .eql 23 (.agg #[.int .i64 a, .int .i64 b, .bool c]) (.agg #[.int .i64 a, .int .i64 b, .bool c])).run Tryd.prog w = .ok (.bool true) w := by simp [go_sem]
theorem run_neS (a b : Int) (c : Bool) (w : World) : (binOp .neq 23 (.agg #[.int .i64 a, .int .i64 b, .bool c]) (.agg #[.int .i64 a, .int .i64 b, .bool c])).run Tryd.prog w = .ok (.bool false) w := by simp [go_sem]

set_option maxHeartbeats 1000000 in
theorem back_core (d n : Int) (u : Bool) (t : ByteArray) (w : World) (ht : t.size ≤ 9223372036854775807) (hg : Good w) :
    Calls Tryd.prog 3 #[.agg #[.int .i64 d, .int .i64 n, .bool u], .string t] w fun e w' => e = .returned (.bool true) ∧ Below w.heap.size w w' := by
  have G := Lib.hid hg
  by_cases hlen : 100 < t.size
  · have z1 : (100 : Int) < (t.size : Int) := by omega
    clear hg
    go_enter Tryd.func3, Tryd.ntmps3
    go_wp2_with fail
    have hup : Below w.heap.size w (w.alloc (.cells #[.int .i64 d, .int .i64 n, .bool u] 23)) := up_alloc (Below.refl _ _) _
    refine (stepAlive_any _ (G.out.below (by first | exact Below.refl _ _ | exact hup)).1).mono ?_
    rintro e w1 ⟨rfl, hb⟩
    have B1 := Lib.hid hb
    clear hb
    go_wp2
    go_ret
    exact ⟨rfl, by first | exact B1.out | exact up_trans hup B1.out⟩
  · have z1 : decide ((100 : Int) < (t.size : Int)) = false := by simp; omega
    have KG := fun w h => stepGet_any t w ht h
    have KR := fun w => refStep_any t w ht
    have KP := fun w h => stepPut_any ⟨d, n, u⟩ w h
    have KQ := fun w => refRight_any d n u w
    generalize getS t.data.toList = p at *
    obtain ⟨⟨pd, pn, pu⟩, ok⟩ := p
    simp only at KG KR KP
    have q1 := fun w => run_neS pd pn pu w
    have hHG := Lib.hid KG; have HR := Lib.hid KR
    clear KG KR hg
    cases hr : rightB d n
    · rw [hr] at KP KQ
      simp only [Bool.false_eq_true, if_false] at KP
      have HP := Lib.hid KP; have HQ := Lib.hid KQ
      clear KP KQ
      go_enter Tryd.func3, Tryd.ntmps3
      go_wp2_with fail
      refine (stepAlive_any _ (G.out.below (up_alloc (Below.refl _ _) _)).1).mono ?_
      rintro e w1 ⟨rfl, hb⟩
      have A1 := (Bx.new w 23 [.int .i64 d, .int .i64 n, .bool u]).up hb
      have B1 := Lib.hid (up_trans (up_alloc (Below.refl _ w) _) hb)
      clear hb
      go_wp2_with fail
      refine (hHG.out _ (G.out.below B1.out)).mono ?_
      rintro e w2 ⟨rfl, hb⟩
      have A2 := A1.up hb
      have B2 := Lib.hid (up_trans B1.out hb)
      clear hb A1
      go_wp2_with fail
      refine (HR.out _).mono ?_
      rintro e w3 ⟨rfl, hb⟩
      have A3 := (A2.alloc (.cells #[.int .i64 pd, .int .i64 pn, .bool pu] 23)).up hb
      have X3 := (Bx.new w2 23 [.int .i64 pd, .int .i64 pn, .bool pu]).up hb
      have B3 := Lib.hid (up_trans (up_alloc B2.out _) hb)
      clear hb A2
      have A4 := A3.alloc (.cells #[.int .i64 pd, .int .i64 pn, .bool pu] 23)
      have X4 := X3.alloc (.cells #[.int .i64 pd, .int .i64 pn, .bool pu] 23)
      have a0 := A4.cell 0 rfl; have a1 := A4.cell 1 rfl; have a2 := A4.cell 2 rfl
      have x0 := X4.cell 0 rfl; have x1 := X4.cell 1 rfl; have x2 := X4.cell 2 rfl
      clear A3 X3 X4
      go_wp2_with fail
      refine (HP.out _ ((G.out.below B3.out).below (up_alloc (Below.refl _ _) _)).1).mono ?_
      rintro e w4 ⟨rfl, hb⟩
      clear a0 a1 a2 x0 x1 x2
      have A5 := A4.up hb
      have B4 := Lib.hid (up_trans (up_alloc B3.out _) hb)
      have a0 := A5.cell 0 rfl; have a1 := A5.cell 1 rfl; have a2 := A5.cell 2 rfl
      clear hb A4
      go_wp2_with fail
      refine (HQ.out _).mono ?_
      rintro e w5 ⟨rfl, hb⟩
      clear a0 a1 a2
      have A6 := A5.up hb
      have B5 := Lib.hid (up_trans B4.out hb)
      have a0 := A6.cell 0 rfl; have a1 := A6.cell 1 rfl; have a2 := A6.cell 2 rfl
      clear hb A5
      go_wp2
      go_ret
      exact ⟨rfl, B5.out⟩
    · have KT := fun w => refText_any ⟨d, n, u⟩ w hr
      have hb3 := rightB_true hr
      have hts := textS_len ⟨d, n, u⟩ (by simp only; omega) (by simp only; omega)
      have KB := fun w h => stepGet_any (tx (textS ⟨d, n, u⟩)) w (by rw [tx_size]; omega) h
      rw [data_tx, getS_text ⟨d, n, u⟩ hr] at KB
      rw [hr] at KP KQ
      simp only [if_true] at KP
      simp only at KB KT
      clear hts hb3
      generalize tx (textS ⟨d, n, u⟩) = T at *
      have q2 := fun w => run_eqS d n u w
      have HP := Lib.hid KP; have HQ := Lib.hid KQ; have HT := Lib.hid KT; have HB := Lib.hid KB
      clear KP KQ KT KB
      go_enter Tryd.func3, Tryd.ntmps3
      go_wp2_with fail
      refine (stepAlive_any _ (G.out.below (up_alloc (Below.refl _ _) _)).1).mono ?_
      rintro e w1 ⟨rfl, hb⟩
      have A1 := (Bx.new w 23 [.int .i64 d, .int .i64 n, .bool u]).up hb
      have B1 := Lib.hid (up_trans (up_alloc (Below.refl _ w) _) hb)
      clear hb
      go_wp2_with fail
      refine (hHG.out _ (G.out.below B1.out)).mono ?_
      rintro e w2 ⟨rfl, hb⟩
      have A2 := A1.up hb
      have B2 := Lib.hid (up_trans B1.out hb)
      clear hb A1
      go_wp2_with fail
      refine (HR.out _).mono ?_
      rintro e w3 ⟨rfl, hb⟩
      have A3 := (A2.alloc (.cells #[.int .i64 pd, .int .i64 pn, .bool pu] 23)).up hb
      have X3 := (Bx.new w2 23 [.int .i64 pd, .int .i64 pn, .bool pu]).up hb
      have B3 := Lib.hid (up_trans (up_alloc B2.out _) hb)
      clear hb A2
      have A4 := A3.alloc (.cells #[.int .i64 pd, .int .i64 pn, .bool pu] 23)
      have X4 := X3.alloc (.cells #[.int .i64 pd, .int .i64 pn, .bool pu] 23)
      have a0 := A4.cell 0 rfl; have a1 := A4.cell 1 rfl; have a2 := A4.cell 2 rfl
      have x0 := X4.cell 0 rfl; have x1 := X4.cell 1 rfl; have x2 := X4.cell 2 rfl
      clear A3 X3 X4
      go_wp2_with fail
      refine (HP.out _ ((G.out.below B3.out).below (up_alloc (Below.refl _ _) _)).1).mono ?_
      rintro e w4 ⟨rfl, hb⟩
      clear a0 a1 a2 x0 x1 x2
      have A5 := A4.up hb
      have B4 := Lib.hid (up_trans (up_alloc B3.out _) hb)
      have a0 := A5.cell 0 rfl; have a1 := A5.cell 1 rfl; have a2 := A5.cell 2 rfl
      clear hb A4
      go_wp2_with fail
      refine (HQ.out _).mono ?_
      rintro e w5 ⟨rfl, hb⟩
      clear a0 a1 a2
      have A6 := A5.up hb
      have B5 := Lib.hid (up_trans B4.out hb)
      have a0 := A6.cell 0 rfl; have a1 := A6.cell 1 rfl; have a2 := A6.cell 2 rfl
      clear hb A5
      go_wp2_with fail
      refine (HB.out _ (G.out.below B5.out)).mono ?_
      rintro e w6 ⟨rfl, hb⟩
      clear a0 a1 a2
      have A7 := (A6.up hb).alloc (.cells #[.int .i64 d, .int .i64 n, .bool u] 23)
      have B6 := Lib.hid (up_trans B5.out hb)
      have a0 := A7.cell 0 rfl; have a1 := A7.cell 1 rfl; have a2 := A7.cell 2 rfl
      clear hb A6
      have Y7 := Bx.new w6 23 [.int .i64 d, .int .i64 n, .bool u]
      go_wp2_with fail
      refine (HT.out _).mono ?_
      rintro e w7 ⟨rfl, hb⟩
      clear a0 a1 a2
      have A8 := A7.up hb
      have Y8 := Y7.up hb
      have B7 := Lib.hid (up_trans (up_alloc B6.out _) hb)
      have a0 := A8.cell 0 rfl; have a1 := A8.cell 1 rfl; have a2 := A8.cell 2 rfl
      have y0 := Y8.cell 0 rfl; have y1 := Y8.cell 1 rfl; have y2 := Y8.cell 2 rfl
      clear hb A7 A8 Y7 Y8
      go_wp2
      go_ret
      exact ⟨rfl, B7.out⟩

theorem walkStepBack (d n : Int) (u : Bool) (t : ByteArray) (w : World) (x0 : (Lit.int .i64 d).wf = true) (x1 : (Lit.int .i64 n).wf = true) (ht : t.size ≤ maxLen) (hg : Good w) :
    Calls Tryd.prog 3 #[.agg #[.int .i64 d, .int .i64 n, .bool u], .string t] w fun e w' => e = .returned (.bool true) ∧ Below w.heap.size w w' :=
  back_core d n u t w (by unfold maxLen at ht; omega) hg
end Go.Proofs.YteehfhfdcemgoaaDoor
