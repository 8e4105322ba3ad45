/- What box's small calls, and the document's own, answer for every rectangle. -/
import Derived.Test.YtgfbgmkooflhbaaProg
import Derived.Test.YtgfbgmkooflhbaaLater
import Derived.WalkKit
import Derived.WalkSpells
import Derived.WalkLawsBesides
import Derived.Lib.Hide
import Derived.Outline
import Derived.Below
import Derived.Deep.RegionHeld3
import Derived.Deep.Light
namespace Go.Proofs.Ytgfbgmkooflhbaa
open Go.RowKit
set_option linter.unusedVariables false

/-- A rectangle's numbers. -/
structure Rc where
  x0 : Int
  y0 : Int
  x1 : Int
  y1 : Int
/-- Has the rectangle no inside? -/
def emp4 (x0 y0 x1 y1 : Int) : Bool := decide (x1 ≤ x0) || decide (y1 ≤ y0)
/-- The rectangle, or the zero one for an empty one. -/
def oz4 (x0 y0 x1 y1 : Int) : Rc := if emp4 x0 y0 x1 y1 = true then ⟨0, 0, 0, 0⟩ else ⟨x0, y0, x1, y1⟩
/-- What two rectangles have both. -/
def meetR (a0 a1 a2 a3 b0 b1 b2 b3 : Int) : Rc := oz4 (max a0 b0) (max a1 b1) (min a2 b2) (min a3 b3)
theorem ret_bool {b c : Bool} (h : b = c) : Ending.returned (.bool b) = .returned (.bool c) := by rw [h]

theorem empty_any (x0 y0 x1 y1 : Int) (w : World) :
    Calls Try.prog 13 #[.agg #[.int .i64 x0, .int .i64 y0, .int .i64 x1, .int .i64 y1]] w fun e w' => e = .returned (.bool (emp4 x0 y0 x1 y1)) ∧ w' = w.alloc (.cells #[.int .i64 x0, .int .i64 y0, .int .i64 x1, .int .i64 y1] 23) := by
  by_cases h : x1 ≤ x0
  all_goals
    go_enter Try.func13, Try.ntmps13
    go_wp2
    go_ret
    exact ⟨ret_bool (by simp [emp4]; try omega), rfl⟩
theorem refEmpty_any (x0 y0 x1 y1 : Int) (w : World) :
    Calls Try.prog 12 #[.agg #[.int .i64 x0, .int .i64 y0, .int .i64 x1, .int .i64 y1]] w fun e w' => e = .returned (.bool (emp4 x0 y0 x1 y1)) ∧ w' = w.alloc (.cells #[.int .i64 x0, .int .i64 y0, .int .i64 x1, .int .i64 y1] 23) := by
  by_cases h : x1 ≤ x0
  all_goals
    go_enter Try.func12, Try.ntmps12
    go_wp2
    go_ret
    exact ⟨ret_bool (by simp [emp4]; try omega), rfl⟩
theorem high_any (a b : Int) (w : World) : Calls Try.prog 25 #[.int .i64 a, .int .i64 b] w fun e w' => e = .returned (.int .i64 (max a b)) ∧ w' = w := by
  by_cases h : b < a
  · have E := Lib.hid (show max a b = a by omega)
    go_enter Try.func25, Try.ntmps25
    go_wp2
    go_ret
    exact ⟨by rw [E.out]; rfl, rfl⟩
  · have E := Lib.hid (show max a b = b by omega)
    go_enter Try.func25, Try.ntmps25
    go_wp2
    go_ret
    exact ⟨by rw [E.out]; rfl, rfl⟩
theorem low_any (a b : Int) (w : World) : Calls Try.prog 26 #[.int .i64 a, .int .i64 b] w fun e w' => e = .returned (.int .i64 (min a b)) ∧ w' = w := by
  by_cases h : a < b
  · have E := Lib.hid (show min a b = a by omega)
    go_enter Try.func26, Try.ntmps26
    go_wp2
    go_ret
    exact ⟨by rw [E.out]; rfl, rfl⟩
  · have E := Lib.hid (show min a b = b by omega)
    go_enter Try.func26, Try.ntmps26
    go_wp2
    go_ret
    exact ⟨by rw [E.out]; rfl, rfl⟩
/-- Are all numbers the same? -/
def same4 (a0 a1 a2 a3 b0 b1 b2 b3 : Int) : Bool := a0 == b0 && a1 == b1 && a2 == b2 && a3 == b3
theorem same_any (a0 a1 a2 a3 b0 b1 b2 b3 : Int) (w : World) :
    Calls Try.prog 16 #[.agg #[.int .i64 a0, .int .i64 a1, .int .i64 a2, .int .i64 a3], .agg #[.int .i64 b0, .int .i64 b1, .int .i64 b2, .int .i64 b3]] w fun e w' => e = .returned (.bool (same4 a0 a1 a2 a3 b0 b1 b2 b3)) ∧ Below w.heap.size w w' := by
  go_enter Try.func16, Try.ntmps16
  go_wp2
  all_goals
    go_ret
    refine ⟨ret_bool ?_, ?_⟩
    · simp [same4, *]
    · repeat (first | exact Below.refl _ _ | apply up_alloc)
theorem max_if (a b : Int) : (if a < b then b else a) = max a b := by split <;> omega
theorem min_if (a b : Int) : (if b < a then b else a) = min a b := by split <;> omega
theorem oz4_yes {x0 y0 x1 y1 : Int} (h : emp4 x0 y0 x1 y1 = true) : oz4 x0 y0 x1 y1 = ⟨0, 0, 0, 0⟩ := by unfold oz4; rw [if_pos h]
theorem oz4_no {x0 y0 x1 y1 : Int} (h : emp4 x0 y0 x1 y1 = false) : oz4 x0 y0 x1 y1 = ⟨x0, y0, x1, y1⟩ := by unfold oz4; rw [if_neg (by rw [h]; decide)]

set_option maxHeartbeats 1000000 in
theorem meet_any (a0 a1 a2 a3 b0 b1 b2 b3 : Int) (w : World) :
    Calls Try.prog 9 #[.agg #[.int .i64 a0, .int .i64 a1, .int .i64 a2, .int .i64 a3], .agg #[.int .i64 b0, .int .i64 b1, .int .i64 b2, .int .i64 b3]] w fun e w' => e = .returned (.agg #[.int .i64 (meetR a0 a1 a2 a3 b0 b1 b2 b3).x0, .int .i64 (meetR a0 a1 a2 a3 b0 b1 b2 b3).y0, .int .i64 (meetR a0 a1 a2 a3 b0 b1 b2 b3).x1, .int .i64 (meetR a0 a1 a2 a3 b0 b1 b2 b3).y1]) ∧ Below w.heap.size w w' := by
  obtain ⟨r, hr⟩ : ∃ r, meetR a0 a1 a2 a3 b0 b1 b2 b3 = r := ⟨_, rfl⟩
  rw [hr]
  unfold meetR at hr
  rw [← max_if a0 b0, ← max_if a1 b1, ← min_if a2 b2, ← min_if a3 b3] at hr
  obtain ⟨p0, e0⟩ : ∃ p, (if a0 < b0 then b0 else a0) = p := ⟨_, rfl⟩
  obtain ⟨p1, e1⟩ : ∃ p, (if a1 < b1 then b1 else a1) = p := ⟨_, rfl⟩
  obtain ⟨p2, e2⟩ : ∃ p, (if b2 < a2 then b2 else a2) = p := ⟨_, rfl⟩
  obtain ⟨p3, e3⟩ : ∃ p, (if b3 < a3 then b3 else a3) = p := ⟨_, rfl⟩
  rw [e0, e1, e2, e3] at hr
  have K := fun w => empty_any p0 p1 p2 p3 w
  cases h : emp4 p0 p1 p2 p3
  · rw [oz4_no h] at hr
    rw [h] at K
    subst hr
    have HK := Lib.hid K
    clear K h
    go_enter Try.func9, Try.ntmps9
    go_wp2_with (go_at_call 13; refine (HK.out _).mono ?_; rintro e w' ⟨rfl, rfl⟩)
    refine bodyPost_ret (v := .agg #[.int .i64 p0, .int .i64 p1, .int .i64 p2, .int .i64 p3]) (by simp [results, Try.results9, go_sem]) rfl ⟨rfl, ?_⟩
    repeat (first | exact Below.refl _ _ | apply up_alloc | (refine up_set ?_ (by simp; omega) _))
  · rw [oz4_yes h] at hr
    rw [h] at K
    subst hr
    have HK := Lib.hid K
    clear K h
    go_enter Try.func9, Try.ntmps9
    go_wp2_with (go_at_call 13; refine (HK.out _).mono ?_; rintro e w' ⟨rfl, rfl⟩)
    refine bodyPost_ret (v := .agg #[.int .i64 0, .int .i64 0, .int .i64 0, .int .i64 0]) (by simp [results, Try.results9, go_sem]) rfl ⟨rfl, ?_⟩
    repeat (first | exact Below.refl _ _ | apply up_alloc | (refine up_set ?_ (by simp; omega) _))

set_option maxHeartbeats 1000000 in
theorem refMeet_any (a0 a1 a2 a3 b0 b1 b2 b3 : Int) (w : World) :
    Calls Try.prog 10 #[.agg #[.int .i64 a0, .int .i64 a1, .int .i64 a2, .int .i64 a3], .agg #[.int .i64 b0, .int .i64 b1, .int .i64 b2, .int .i64 b3]] w fun e w' => e = .returned (.agg #[.int .i64 (meetR a0 a1 a2 a3 b0 b1 b2 b3).x0, .int .i64 (meetR a0 a1 a2 a3 b0 b1 b2 b3).y0, .int .i64 (meetR a0 a1 a2 a3 b0 b1 b2 b3).x1, .int .i64 (meetR a0 a1 a2 a3 b0 b1 b2 b3).y1]) ∧ Below w.heap.size w w' := by
  obtain ⟨r, hr⟩ : ∃ r, meetR a0 a1 a2 a3 b0 b1 b2 b3 = r := ⟨_, rfl⟩
  rw [hr]
  unfold meetR at hr
  have K0 := fun w => high_any a0 b0 w
  have K1 := fun w => high_any a1 b1 w
  have K2 := fun w => low_any a2 b2 w
  have K3 := fun w => low_any a3 b3 w
  generalize max a0 b0 = p0 at *
  generalize max a1 b1 = p1 at *
  generalize min a2 b2 = p2 at *
  generalize min a3 b3 = p3 at *
  have HK0 := Lib.hid K0; have HK1 := Lib.hid K1; have HK2 := Lib.hid K2; have HK3 := Lib.hid K3
  clear K0 K1 K2 K3
  have K := fun w => refEmpty_any p0 p1 p2 p3 w
  have y := @oz4_yes p0 p1 p2 p3
  have n := @oz4_no p0 p1 p2 p3
  rw [hr] at y n
  clear hr
  generalize emp4 p0 p1 p2 p3 = E at *
  have HK := Lib.hid K; have HY := Lib.hid y; have HN := Lib.hid n
  clear K y n
  go_enter Try.func10, Try.ntmps10
  go_wp2_with fail
  go_region_held3 (fun w' => w'.cell? ⟨w.heap.size, 0, none⟩ = some (.int .i64 a0) ∧ w'.cell? ⟨w.heap.size, 1, none⟩ = some (.int .i64 a1) ∧ w'.cell? ⟨w.heap.size, 2, none⟩ = some (.int .i64 a2) ∧ w'.cell? ⟨w.heap.size, 3, none⟩ = some (.int .i64 a3) ∧ w'.cell? ⟨w.heap.size + 1, 0, none⟩ = some (.int .i64 b0) ∧ w'.cell? ⟨w.heap.size + 1, 1, none⟩ = some (.int .i64 b1) ∧ w'.cell? ⟨w.heap.size + 1, 2, none⟩ = some (.int .i64 b2) ∧ w'.cell? ⟨w.heap.size + 1, 3, none⟩ = some (.int .i64 b3))
    (simp [go_sem])
    (first
      | (go_at_call 25; first | ((with_reducible refine (HK0.out _).mono ?_); rintro e w' ⟨rfl, rfl⟩) | ((with_reducible refine (HK1.out _).mono ?_); rintro e w' ⟨rfl, rfl⟩))
      | (go_at_call 26; first | ((with_reducible refine (HK2.out _).mono ?_); rintro e w' ⟨rfl, rfl⟩) | ((with_reducible refine (HK3.out _).mono ?_); rintro e w' ⟨rfl, rfl⟩)))

  all_goals
    cases E
    · obtain rfl := HN.out rfl
      as_aux_lemma =>
        go_wp2_with (go_at_call 12; refine (HK.out _).mono ?_; rintro e w' ⟨rfl, rfl⟩)
        refine bodyPost_ret (v := .agg #[.int .i64 p0, .int .i64 p1, .int .i64 p2, .int .i64 p3]) (by simp [results, Try.results10, go_sem]) rfl ⟨rfl, ?_⟩
        repeat (first | exact Below.refl _ _ | apply up_drew | apply up_alloc | (refine up_set ?_ (by simp; omega) _))
    · obtain rfl := HY.out rfl
      as_aux_lemma =>
        go_wp2_with (go_at_call 12; refine (HK.out _).mono ?_; rintro e w' ⟨rfl, rfl⟩)
        refine bodyPost_ret (v := .agg #[.int .i64 0, .int .i64 0, .int .i64 0, .int .i64 0]) (by simp [results, Try.results10, go_sem]) rfl ⟨rfl, ?_⟩
        repeat (first | exact Below.refl _ _ | apply up_drew | apply up_alloc | (refine up_set ?_ (by simp; omega) _))

/-- Is each point inside of the one inside of the other one? -/
def withinR (a0 a1 a2 a3 b0 b1 b2 b3 : Int) : Bool := emp4 a0 a1 a2 a3 || (decide (b0 ≤ a0) && decide (a2 ≤ b2) && decide (b1 ≤ a1) && decide (a3 ≤ b3))
theorem apart_any (a0 a1 a2 a3 b0 b1 b2 b3 : Int) (w : World) :
    Calls Try.prog 11 #[.agg #[.int .i64 a0, .int .i64 a1, .int .i64 a2, .int .i64 a3], .agg #[.int .i64 b0, .int .i64 b1, .int .i64 b2, .int .i64 b3]] w fun e w' => e = .returned (.bool (emp4 (meetR a0 a1 a2 a3 b0 b1 b2 b3).x0 (meetR a0 a1 a2 a3 b0 b1 b2 b3).y0 (meetR a0 a1 a2 a3 b0 b1 b2 b3).x1 (meetR a0 a1 a2 a3 b0 b1 b2 b3).y1)) ∧ Below w.heap.size w w' := by
  have K := fun w => meet_any a0 a1 a2 a3 b0 b1 b2 b3 w
  generalize meetR a0 a1 a2 a3 b0 b1 b2 b3 = r at *
  obtain ⟨r0, r1, r2, r3⟩ := r
  have HK := Lib.hid K
  clear K
  go_enter Try.func11, Try.ntmps11
  go_wp2_with fail
  refine (HK.out _).mono ?_
  rintro e w1 ⟨rfl, hb⟩
  have HB := Lib.hid hb
  clear hb
  go_wp2_with (go_at_call 13; refine (empty_any _ _ _ _ _).mono ?_; rintro e w' ⟨rfl, rfl⟩)
  go_ret
  refine ⟨rfl, ?_⟩
  repeat (first | exact Below.refl _ _ | (refine up_trans ?_ HB.out) | apply up_alloc | (refine up_set ?_ (by simp; omega) _))

theorem empty_b (x0 y0 x1 y1 : Int) (w : World) :
    Calls Try.prog 13 #[.agg #[.int .i64 x0, .int .i64 y0, .int .i64 x1, .int .i64 y1]] w fun e w' => e = .returned (.bool (emp4 x0 y0 x1 y1)) ∧ Below w.heap.size w w' :=
  (empty_any x0 y0 x1 y1 w).mono fun _ _ ⟨he, hw⟩ => ⟨he, by rw [hw]; exact up_alloc (Below.refl _ _) _⟩
theorem refEmpty_b (x0 y0 x1 y1 : Int) (w : World) :
    Calls Try.prog 12 #[.agg #[.int .i64 x0, .int .i64 y0, .int .i64 x1, .int .i64 y1]] w fun e w' => e = .returned (.bool (emp4 x0 y0 x1 y1)) ∧ Below w.heap.size w w' :=
  (refEmpty_any x0 y0 x1 y1 w).mono fun _ _ ⟨he, hw⟩ => ⟨he, by rw [hw]; exact up_alloc (Below.refl _ _) _⟩

/-- Two boxes of four cells, behind whatever came later. -/
theorem two_boxes4 (w w1 : World) (t1 t2 : TypeId) (a0 a1 a2 a3 b0 b1 b2 b3 : Value) (hb : Below ((w.alloc (.cells #[a0, a1, a2, a3] t1)).alloc (.cells #[b0, b1, b2, b3] t2)).heap.size ((w.alloc (.cells #[a0, a1, a2, a3] t1)).alloc (.cells #[b0, b1, b2, b3] t2)) w1) :
    w1.cell? ⟨w.heap.size, 0, none⟩ = some a0 ∧ w1.cell? ⟨w.heap.size, 1, none⟩ = some a1 ∧ w1.cell? ⟨w.heap.size, 2, none⟩ = some a2 ∧ w1.cell? ⟨w.heap.size, 3, none⟩ = some a3 ∧ w1.cell? ⟨w.heap.size + 1, 0, none⟩ = some b0 ∧ w1.cell? ⟨w.heap.size + 1, 1, none⟩ = some b1 ∧ w1.cell? ⟨w.heap.size + 1, 2, none⟩ = some b2 ∧ w1.cell? ⟨w.heap.size + 1, 3, none⟩ = some b3 ∧ Below w.heap.size w w1 :=
  ⟨bl_cell hb (by simp [go_sem]), bl_cell hb (by simp [go_sem]), bl_cell hb (by simp [go_sem]), bl_cell hb (by simp [go_sem]), bl_cell hb (by simp [go_sem]), bl_cell hb (by simp [go_sem]), bl_cell hb (by simp [go_sem]), bl_cell hb (by simp [go_sem]), up_trans (up_alloc (up_alloc (Below.refl _ _) _) _) hb⟩
/-- A box of four cells, behind whatever came later. -/
theorem one_box4 (w w1 : World) (t : TypeId) (a0 a1 a2 a3 : Value) (hb : Below (w.alloc (.cells #[a0, a1, a2, a3] t)).heap.size (w.alloc (.cells #[a0, a1, a2, a3] t)) w1) :
    w1.cell? ⟨w.heap.size, 0, none⟩ = some a0 ∧ w1.cell? ⟨w.heap.size, 1, none⟩ = some a1 ∧ w1.cell? ⟨w.heap.size, 2, none⟩ = some a2 ∧ w1.cell? ⟨w.heap.size, 3, none⟩ = some a3 ∧ Below w.heap.size w w1 :=
  ⟨bl_cell hb (by simp [go_sem]), bl_cell hb (by simp [go_sem]), bl_cell hb (by simp [go_sem]), bl_cell hb (by simp [go_sem]), up_trans (up_alloc (Below.refl _ _) _) hb⟩
end Go.Proofs.Ytgfbgmkooflhbaa
