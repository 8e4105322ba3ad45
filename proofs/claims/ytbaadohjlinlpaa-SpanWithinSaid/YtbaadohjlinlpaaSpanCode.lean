/- What span's small calls, and the laws' own, answer for every span and number. -/
import Derived.Test.YtbaadohjlinlpaaProg
import Derived.Test.YtbaadohjlinlpaaLater
import Derived.WalkKit
import Derived.WalkSpells
import Derived.WalkLawsBesides
import Derived.Lib.Hide
import Derived.Outline
import Derived.Below
namespace Go.Proofs.Ytbaadohjlinlpaa
open Go.RowKit
set_option linter.unusedVariables false

/-- Has the span no number? -/
def emp (lo hi : Int) : Bool := decide (hi ≤ lo)
/-- Is n one of the span's? -/
def inS (lo hi n : Int) : Bool := decide (lo ≤ n) && decide (n < hi)
theorem ret_bool {b c : Bool} (h : b = c) : Ending.returned (.bool b) = .returned (.bool c) := by rw [h]


theorem empty_any (lo hi : Int) (w : World) :
    Calls Try.prog 12 #[.agg #[.int .i64 lo, .int .i64 hi]] w fun e w' => e = .returned (.bool (emp lo hi)) ∧ w' = w.alloc (.cells #[.int .i64 lo, .int .i64 hi] 23) := by
  go_enter Try.func12, Try.ntmps12
  go_wp2
  go_ret
  exact ⟨ret_bool rfl, rfl⟩
theorem lawEmpty_any (lo hi : Int) (w : World) :
    Calls Try.prog 13 #[.agg #[.int .i64 lo, .int .i64 hi]] w fun e w' => e = .returned (.bool (emp lo hi)) ∧ w' = w.alloc (.cells #[.int .i64 lo, .int .i64 hi] 23) := by
  go_enter Try.func13, Try.ntmps13
  go_wp2
  go_ret
  exact ⟨ret_bool rfl, rfl⟩
theorem has_any (lo hi n : Int) (w : World) :
    Calls Try.prog 10 #[.agg #[.int .i64 lo, .int .i64 hi], .int .i64 n] w fun e w' => e = .returned (.bool (inS lo hi n)) ∧ w' = w.alloc (.cells #[.int .i64 lo, .int .i64 hi] 23) := by
  by_cases h : lo ≤ n
  all_goals
    go_enter Try.func10, Try.ntmps10
    go_wp2
    go_ret
    exact ⟨ret_bool (by simp [inS]; try omega), rfl⟩
theorem lawHas_any (lo hi n : Int) (w : World) :
    Calls Try.prog 11 #[.agg #[.int .i64 lo, .int .i64 hi], .int .i64 n] w fun e w' => e = .returned (.bool (inS lo hi n)) ∧ w' = w.alloc (.cells #[.int .i64 lo, .int .i64 hi] 23) := by
  by_cases h : lo ≤ n
  all_goals
    go_enter Try.func11, Try.ntmps11
    go_wp2
    go_ret
    exact ⟨ret_bool (by simp [inS]; try omega), rfl⟩
/-- The span, or the zero one for an empty one. -/
def oz (lo hi : Int) : Int × Int := if hi ≤ lo then (0, 0) else (lo, hi)
theorem oz_yes {lo hi : Int} (h : emp lo hi = true) : oz lo hi = (0, 0) := by unfold oz; unfold emp at h; rw [if_pos (by simpa using h)]
theorem oz_no {lo hi : Int} (h : emp lo hi = false) : oz lo hi = (lo, hi) := by unfold oz; unfold emp at h; rw [if_neg (by simpa using h)]
theorem ret_span {a b c d : Int} (h : (a, b) = (c, d)) : Ending.returned (.agg #[.int .i64 a, .int .i64 b]) = .returned (.agg #[.int .i64 c, .int .i64 d]) := by cases h; rfl

theorem orZero_any (lo hi : Int) (w : World) :
    Calls Try.prog 19 #[.agg #[.int .i64 lo, .int .i64 hi]] w fun e w' => e = .returned (.agg #[.int .i64 (oz lo hi).1, .int .i64 (oz lo hi).2]) ∧ Below w.heap.size w w' := by
  have K := fun w => empty_any lo hi w
  cases h : emp lo hi
  · have E := Lib.hid (oz_no h)
    rw [h] at K
    have HK := Lib.hid K
    clear K h
    go_enter Try.func19, Try.ntmps19
    go_wp2_with (go_at_call 12; refine (HK.out _).mono ?_; rintro e w' ⟨rfl, rfl⟩)
    refine bodyPost_ret (v := .agg #[.int .i64 lo, .int .i64 hi]) (by simp [results, Try.results19, go_sem]) rfl ⟨?_, ?_⟩
    · rw [E.out]
    · repeat (first | exact Below.refl _ _ | apply up_alloc)
  · have E := Lib.hid (oz_yes h)
    rw [h] at K
    have HK := Lib.hid K
    clear K h
    go_enter Try.func19, Try.ntmps19
    go_wp2_with (go_at_call 12; refine (HK.out _).mono ?_; rintro e w' ⟨rfl, rfl⟩)
    refine bodyPost_ret (v := .agg #[.int .i64 0, .int .i64 0]) (by simp [results, Try.results19, go_sem]) rfl ⟨?_, ?_⟩
    · rw [E.out]
    · repeat (first | exact Below.refl _ _ | apply up_alloc)
/-- What the spans have both. -/
def meetS (a0 a1 b0 b1 : Int) : Int × Int := oz (max a0 b0) (min a1 b1)
/-- The least span that has all of both. -/
def hullS (a0 a1 b0 b1 : Int) : Int × Int := if a1 ≤ a0 then oz b0 b1 else if b1 ≤ b0 then (a0, a1) else (min a0 b0, max a1 b1)
/-- Is each number of a one of b? -/
def withinS (a0 a1 b0 b1 : Int) : Bool := emp a0 a1 || (decide (b0 ≤ a0) && decide (a1 ≤ b1))

theorem meet_any (a0 a1 b0 b1 : Int) (w : World) :
    Calls Try.prog 8 #[.agg #[.int .i64 a0, .int .i64 a1], .agg #[.int .i64 b0, .int .i64 b1]] w fun e w' => e = .returned (.agg #[.int .i64 (meetS a0 a1 b0 b1).1, .int .i64 (meetS a0 a1 b0 b1).2]) ∧ Below w.heap.size w w' := by
  obtain ⟨r, hr⟩ : ∃ r, meetS a0 a1 b0 b1 = r := ⟨_, rfl⟩
  have E := Lib.hid hr
  rw [hr]
  unfold meetS at hr
  by_cases g1 : a0 < b0 <;> by_cases g2 : b1 < a1
  · have K := fun w => orZero_any b0 b1 w
    rw [show max a0 b0 = b0 by omega, show min a1 b1 = b1 by omega] at hr
    rw [hr] at K
    have HK := Lib.hid K
    clear K hr
    obtain ⟨r0, r1⟩ := r
    go_enter Try.func8, Try.ntmps8
    go_wp2_with fail
    refine (HK.out _).mono ?_
    rintro e w1 ⟨rfl, hb⟩
    have hc := kept_cells hb; have hf := kept_marks hb
    have HB := Lib.hid hb
    clear hb
    go_wp2
    refine bodyPost_ret (v := .agg #[.int .i64 r0, .int .i64 r1]) (by simp [results, Try.results8, go_sem, hc]) rfl ⟨rfl, ?_⟩
    repeat (first | exact Below.refl _ _ | (refine up_trans ?_ HB.out) | apply up_alloc | (refine up_set ?_ (by simp; omega) _))
  · have K := fun w => orZero_any b0 a1 w
    rw [show max a0 b0 = b0 by omega, show min a1 b1 = a1 by omega] at hr
    rw [hr] at K
    have HK := Lib.hid K
    clear K hr
    obtain ⟨r0, r1⟩ := r
    go_enter Try.func8, Try.ntmps8
    go_wp2_with fail
    refine (HK.out _).mono ?_
    rintro e w1 ⟨rfl, hb⟩
    have hc := kept_cells hb; have hf := kept_marks hb
    have HB := Lib.hid hb
    clear hb
    go_wp2
    refine bodyPost_ret (v := .agg #[.int .i64 r0, .int .i64 r1]) (by simp [results, Try.results8, go_sem, hc]) rfl ⟨rfl, ?_⟩
    repeat (first | exact Below.refl _ _ | (refine up_trans ?_ HB.out) | apply up_alloc | (refine up_set ?_ (by simp; omega) _))
  · have K := fun w => orZero_any a0 b1 w
    rw [show max a0 b0 = a0 by omega, show min a1 b1 = b1 by omega] at hr
    rw [hr] at K
    have HK := Lib.hid K
    clear K hr
    obtain ⟨r0, r1⟩ := r
    go_enter Try.func8, Try.ntmps8
    go_wp2_with fail
    refine (HK.out _).mono ?_
    rintro e w1 ⟨rfl, hb⟩
    have hc := kept_cells hb; have hf := kept_marks hb
    have HB := Lib.hid hb
    clear hb
    go_wp2
    refine bodyPost_ret (v := .agg #[.int .i64 r0, .int .i64 r1]) (by simp [results, Try.results8, go_sem, hc]) rfl ⟨rfl, ?_⟩
    repeat (first | exact Below.refl _ _ | (refine up_trans ?_ HB.out) | apply up_alloc | (refine up_set ?_ (by simp; omega) _))
  · have K := fun w => orZero_any a0 a1 w
    rw [show max a0 b0 = a0 by omega, show min a1 b1 = a1 by omega] at hr
    rw [hr] at K
    have HK := Lib.hid K
    clear K hr
    obtain ⟨r0, r1⟩ := r
    go_enter Try.func8, Try.ntmps8
    go_wp2_with fail
    refine (HK.out _).mono ?_
    rintro e w1 ⟨rfl, hb⟩
    have hc := kept_cells hb; have hf := kept_marks hb
    have HB := Lib.hid hb
    clear hb
    go_wp2
    refine bodyPost_ret (v := .agg #[.int .i64 r0, .int .i64 r1]) (by simp [results, Try.results8, go_sem, hc]) rfl ⟨rfl, ?_⟩
    repeat (first | exact Below.refl _ _ | (refine up_trans ?_ HB.out) | apply up_alloc | (refine up_set ?_ (by simp; omega) _))

theorem apart_any (a0 a1 b0 b1 : Int) (w : World) :
    Calls Try.prog 14 #[.agg #[.int .i64 a0, .int .i64 a1], .agg #[.int .i64 b0, .int .i64 b1]] w fun e w' => e = .returned (.bool (emp (meetS a0 a1 b0 b1).1 (meetS a0 a1 b0 b1).2)) ∧ Below w.heap.size w w' := by
  have K := fun w => meet_any a0 a1 b0 b1 w
  generalize meetS a0 a1 b0 b1 = r at *
  obtain ⟨r0, r1⟩ := r
  have HK := Lib.hid K
  clear K
  go_enter Try.func14, Try.ntmps14
  go_wp2_with fail
  refine (HK.out _).mono ?_
  rintro e w1 ⟨rfl, hb⟩
  have hc := kept_cells hb; have hf := kept_marks hb
  have HB := Lib.hid hb
  clear hb
  go_wp2_with (go_at_call 12; refine (empty_any _ _ _).mono ?_; rintro e w' ⟨rfl, rfl⟩)
  go_ret
  refine ⟨rfl, ?_⟩
  repeat (first | exact Below.refl _ _ | (refine up_trans ?_ HB.out) | apply up_alloc | (refine up_set ?_ (by simp; omega) _))

theorem within_any (a0 a1 b0 b1 : Int) (w : World) :
    Calls Try.prog 15 #[.agg #[.int .i64 a0, .int .i64 a1], .agg #[.int .i64 b0, .int .i64 b1]] w fun e w' => e = .returned (.bool (withinS a0 a1 b0 b1)) ∧ Below w.heap.size w w' := by
  have K := fun w => empty_any a0 a1 w
  cases h : emp a0 a1
  · have E : Hid (withinS a0 a1 b0 b1 = (decide (b0 ≤ a0) && decide (a1 ≤ b1))) := Lib.hid (by simp [withinS, h])
    rw [h] at K
    have HK := Lib.hid K
    clear K h
    by_cases g : b0 ≤ a0
    all_goals
      go_enter Try.func15, Try.ntmps15
      go_wp2_with (go_at_call 12; refine (HK.out _).mono ?_; rintro e w' ⟨rfl, rfl⟩)
      go_ret
      refine ⟨ret_bool (by rw [E.out]; simp; try omega), ?_⟩
      repeat (first | exact Below.refl _ _ | apply up_alloc)
  · have E : Hid (withinS a0 a1 b0 b1 = true) := Lib.hid (by simp [withinS, h])
    rw [h] at K
    have HK := Lib.hid K
    clear K h
    go_enter Try.func15, Try.ntmps15
    go_wp2_with (go_at_call 12; refine (HK.out _).mono ?_; rintro e w' ⟨rfl, rfl⟩)
    go_ret
    refine ⟨ret_bool E.out.symm, ?_⟩
    repeat (first | exact Below.refl _ _ | apply up_alloc)

set_option maxHeartbeats 1000000 in
theorem hull_any (a0 a1 b0 b1 : Int) (w : World) :
    Calls Try.prog 9 #[.agg #[.int .i64 a0, .int .i64 a1], .agg #[.int .i64 b0, .int .i64 b1]] w fun e w' => e = .returned (.agg #[.int .i64 (hullS a0 a1 b0 b1).1, .int .i64 (hullS a0 a1 b0 b1).2]) ∧ Below w.heap.size w w' := by
  obtain ⟨r, hr⟩ : ∃ r, hullS a0 a1 b0 b1 = r := ⟨_, rfl⟩
  rw [hr]
  unfold hullS at hr
  have KA := fun w => empty_any a0 a1 w
  have KB := fun w => empty_any b0 b1 w
  by_cases ha : a1 ≤ a0
  · rw [if_pos ha] at hr
    rw [show emp a0 a1 = true by simp [emp, ha]] at KA
    have K := fun w => orZero_any b0 b1 w
    rw [hr] at K
    have HA := Lib.hid KA
    have HK := Lib.hid K
    clear KA KB K hr ha
    obtain ⟨r0, r1⟩ := r
    go_enter Try.func9, Try.ntmps9
    go_wp2_with (go_at_call 12; refine (HA.out _).mono ?_; rintro e w' ⟨rfl, rfl⟩)
    refine (HK.out _).mono ?_
    rintro e w1 ⟨rfl, hb⟩
    have hc := kept_cells hb; have hf := kept_marks hb
    have HB := Lib.hid hb
    clear hb
    go_wp2
    refine bodyPost_ret (v := .agg #[.int .i64 r0, .int .i64 r1]) (by simp [results, Try.results9, go_sem, hc]) rfl ⟨rfl, ?_⟩
    repeat (first | exact Below.refl _ _ | (refine up_trans ?_ HB.out) | apply up_alloc | (refine up_set ?_ (by simp; omega) _))
  · rw [if_neg ha] at hr
    rw [show emp a0 a1 = false by simp [emp]; omega] at KA
    by_cases hb : b1 ≤ b0
    · rw [if_pos hb] at hr
      subst hr
      rw [show emp b0 b1 = true by simp [emp, hb]] at KB
      have HA := Lib.hid KA
      have HK := Lib.hid KB
      clear KA KB hb ha
      go_enter Try.func9, Try.ntmps9
      go_wp2_with (go_at_call 12; first | ((with_reducible refine (HA.out _).mono ?_); rintro e w' ⟨rfl, rfl⟩) | ((with_reducible refine (HK.out _).mono ?_); rintro e w' ⟨rfl, rfl⟩))
      refine bodyPost_ret (v := .agg #[.int .i64 a0, .int .i64 a1]) (by simp [results, Try.results9, go_sem]) rfl ⟨rfl, ?_⟩
      repeat (first | exact Below.refl _ _ | apply up_alloc)
    · rw [if_neg hb] at hr
      subst hr
      rw [show emp b0 b1 = false by simp [emp]; omega] at KB
      have HA := Lib.hid KA
      have HK := Lib.hid KB
      clear KA KB hb ha
      by_cases g1 : b0 < a0 <;> by_cases g2 : a1 < b1
      · have e1 := Lib.hid (show min a0 b0 = b0 by omega)
        have e2 := Lib.hid (show max a1 b1 = b1 by omega)
        go_enter Try.func9, Try.ntmps9
        go_wp2_with (go_at_call 12; first | ((with_reducible refine (HA.out _).mono ?_); rintro e w' ⟨rfl, rfl⟩) | ((with_reducible refine (HK.out _).mono ?_); rintro e w' ⟨rfl, rfl⟩))
        refine bodyPost_ret (v := .agg #[.int .i64 b0, .int .i64 b1]) (by simp [results, Try.results9, go_sem]) rfl ⟨by rw [e1.out, e2.out], ?_⟩
        repeat (first | exact Below.refl _ _ | apply up_alloc)
      · have e1 := Lib.hid (show min a0 b0 = b0 by omega)
        have e2 := Lib.hid (show max a1 b1 = a1 by omega)
        go_enter Try.func9, Try.ntmps9
        go_wp2_with (go_at_call 12; first | ((with_reducible refine (HA.out _).mono ?_); rintro e w' ⟨rfl, rfl⟩) | ((with_reducible refine (HK.out _).mono ?_); rintro e w' ⟨rfl, rfl⟩))
        refine bodyPost_ret (v := .agg #[.int .i64 b0, .int .i64 a1]) (by simp [results, Try.results9, go_sem]) rfl ⟨by rw [e1.out, e2.out], ?_⟩
        repeat (first | exact Below.refl _ _ | apply up_alloc)
      · have e1 := Lib.hid (show min a0 b0 = a0 by omega)
        have e2 := Lib.hid (show max a1 b1 = b1 by omega)
        go_enter Try.func9, Try.ntmps9
        go_wp2_with (go_at_call 12; first | ((with_reducible refine (HA.out _).mono ?_); rintro e w' ⟨rfl, rfl⟩) | ((with_reducible refine (HK.out _).mono ?_); rintro e w' ⟨rfl, rfl⟩))
        refine bodyPost_ret (v := .agg #[.int .i64 a0, .int .i64 b1]) (by simp [results, Try.results9, go_sem]) rfl ⟨by rw [e1.out, e2.out], ?_⟩
        repeat (first | exact Below.refl _ _ | apply up_alloc)
      · have e1 := Lib.hid (show min a0 b0 = a0 by omega)
        have e2 := Lib.hid (show max a1 b1 = a1 by omega)
        go_enter Try.func9, Try.ntmps9
        go_wp2_with (go_at_call 12; first | ((with_reducible refine (HA.out _).mono ?_); rintro e w' ⟨rfl, rfl⟩) | ((with_reducible refine (HK.out _).mono ?_); rintro e w' ⟨rfl, rfl⟩))
        refine bodyPost_ret (v := .agg #[.int .i64 a0, .int .i64 a1]) (by simp [results, Try.results9, go_sem]) rfl ⟨by rw [e1.out, e2.out], ?_⟩
        repeat (first | exact Below.refl _ _ | apply up_alloc)
theorem empty_b (lo hi : Int) (w : World) :
    Calls Try.prog 12 #[.agg #[.int .i64 lo, .int .i64 hi]] w fun e w' => e = .returned (.bool (emp lo hi)) ∧ Below w.heap.size w w' :=
  (empty_any lo hi w).mono fun _ _ ⟨he, hw⟩ => ⟨he, by rw [hw]; exact up_alloc (Below.refl _ _) _⟩
theorem lawEmpty_b (lo hi : Int) (w : World) :
    Calls Try.prog 13 #[.agg #[.int .i64 lo, .int .i64 hi]] w fun e w' => e = .returned (.bool (emp lo hi)) ∧ Below w.heap.size w w' :=
  (lawEmpty_any lo hi w).mono fun _ _ ⟨he, hw⟩ => ⟨he, by rw [hw]; exact up_alloc (Below.refl _ _) _⟩
theorem has_b (lo hi n : Int) (w : World) :
    Calls Try.prog 10 #[.agg #[.int .i64 lo, .int .i64 hi], .int .i64 n] w fun e w' => e = .returned (.bool (inS lo hi n)) ∧ Below w.heap.size w w' :=
  (has_any lo hi n w).mono fun _ _ ⟨he, hw⟩ => ⟨he, by rw [hw]; exact up_alloc (Below.refl _ _) _⟩
theorem lawHas_b (lo hi n : Int) (w : World) :
    Calls Try.prog 11 #[.agg #[.int .i64 lo, .int .i64 hi], .int .i64 n] w fun e w' => e = .returned (.bool (inS lo hi n)) ∧ Below w.heap.size w w' :=
  (lawHas_any lo hi n w).mono fun _ _ ⟨he, hw⟩ => ⟨he, by rw [hw]; exact up_alloc (Below.refl _ _) _⟩
theorem two_boxes (w w1 : World) (a0 a1 b0 b1 : Value) (hb : Below ((w.alloc (.cells #[a0, a1] 23)).alloc (.cells #[b0, b1] 23)).heap.size ((w.alloc (.cells #[a0, a1] 23)).alloc (.cells #[b0, b1] 23)) w1) :
    w1.cell? ⟨w.heap.size, 0, none⟩ = some a0 ∧ w1.cell? ⟨w.heap.size, 1, none⟩ = some a1 ∧ w1.cell? ⟨w.heap.size + 1, 0, none⟩ = some b0 ∧ w1.cell? ⟨w.heap.size + 1, 1, none⟩ = some b1 ∧ Below w.heap.size w w1 :=
  ⟨bl_cell hb (by simp [go_sem]), bl_cell hb (by simp [go_sem]), bl_cell hb (by simp [go_sem]), bl_cell hb (by simp [go_sem]), up_trans (up_alloc (up_alloc (Below.refl _ _) _) _) hb⟩
end Go.Proofs.Ytbaadohjlinlpaa
