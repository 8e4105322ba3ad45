/- What box.Split answers for every rectangle and number: a new list of rectangles, written out; and that the chapter's example holds. -/
import Derived.Test.YtgfbgmkooflhbaaBoxSums
import Derived.Deep.DeepCutAuto
import Derived.RegionTactic
import Derived.BigRegion
namespace Go.Proofs.Ytgfbgmkooflhbaa
open Go.RowKit
set_option linter.unusedVariables false

/-- v is a slice that holds the rectangles l. -/
def HasR (w : World) (v : Value) (l : List Rc) : Prop :=
  (l = [] ∧ v = .slice none 0 0) ∨ ∃ g, 0 < l.length ∧ v = .slice (some ⟨g, 0, none⟩) l.length l.length ∧
    ∀ i p, l[i]? = some p → w.cell? ⟨g, i * 4, none⟩ = some (.int .i64 p.x0) ∧ w.cell? ⟨g, i * 4 + 1, none⟩ = some (.int .i64 p.y0) ∧ w.cell? ⟨g, i * 4 + 2, none⟩ = some (.int .i64 p.x1) ∧ w.cell? ⟨g, i * 4 + 3, none⟩ = some (.int .i64 p.y1)

/-- The rectangle, cut where x (upright) or y is n. -/
def splitR (a0 a1 a2 a3 : Int) (up : Bool) (n : Int) : List Rc :=
  if emp4 a0 a1 a2 a3 = true then []
  else match up with
    | true => if emp4 a0 a1 n a3 || emp4 n a1 a2 a3 then [⟨a0, a1, a2, a3⟩] else [⟨a0, a1, n, a3⟩, ⟨n, a1, a2, a3⟩]
    | false => if emp4 a0 a1 a2 n || emp4 a0 n a2 a3 then [⟨a0, a1, a2, a3⟩] else [⟨a0, a1, a2, n⟩, ⟨a0, n, a2, a3⟩]

theorem hasR1 {w : World} {g : Nat} {p : Rc} (c0 : w.cell? ⟨g, 0, none⟩ = some (.int .i64 p.x0)) (c1 : w.cell? ⟨g, 1, none⟩ = some (.int .i64 p.y0)) (c2 : w.cell? ⟨g, 2, none⟩ = some (.int .i64 p.x1)) (c3 : w.cell? ⟨g, 3, none⟩ = some (.int .i64 p.y1)) :
    HasR w (.slice (some ⟨g, 0, none⟩) 1 1) [p] := .inr ⟨g, by simp, rfl, fun i q h => by
  match i with
  | 0 => simp at h; subst h; exact ⟨c0, c1, c2, c3⟩
  | i + 1 => simp at h⟩
theorem hasR2 {w : World} {g : Nat} {p q : Rc} (c0 : w.cell? ⟨g, 0, none⟩ = some (.int .i64 p.x0)) (c1 : w.cell? ⟨g, 1, none⟩ = some (.int .i64 p.y0)) (c2 : w.cell? ⟨g, 2, none⟩ = some (.int .i64 p.x1)) (c3 : w.cell? ⟨g, 3, none⟩ = some (.int .i64 p.y1))
    (c4 : w.cell? ⟨g, 4, none⟩ = some (.int .i64 q.x0)) (c5 : w.cell? ⟨g, 5, none⟩ = some (.int .i64 q.y0)) (c6 : w.cell? ⟨g, 6, none⟩ = some (.int .i64 q.x1)) (c7 : w.cell? ⟨g, 7, none⟩ = some (.int .i64 q.y1)) :
    HasR w (.slice (some ⟨g, 0, none⟩) 2 2) [p, q] := .inr ⟨g, by simp, rfl, fun i r h => by
  match i with
  | 0 => simp at h; subst h; exact ⟨c0, c1, c2, c3⟩
  | 1 => simp at h; subst h; exact ⟨c4, c5, c6, c7⟩
  | i + 2 => simp at h⟩


set_option maxHeartbeats 1000000 in
theorem split_false_true_any (a0 a1 a2 a3 n : Int) (w : World) (KE : (∀ w : World, Calls Try.prog 13 #[.agg #[.int .i64 a0, .int .i64 a1, .int .i64 a2, .int .i64 a3]] w fun e w' => e = .returned (.bool false) ∧ w' = w.alloc (.cells #[.int .i64 a0, .int .i64 a1, .int .i64 a2, .int .i64 a3] 23))) (K1 : (∀ w : World, Calls Try.prog 13 #[.agg #[.int .i64 a0, .int .i64 a1, .int .i64 a2, .int .i64 n]] w fun e w' => e = .returned (.bool true) ∧ w' = w.alloc (.cells #[.int .i64 a0, .int .i64 a1, .int .i64 a2, .int .i64 n] 23))) :
    Calls Try.prog 23 #[.agg #[.int .i64 a0, .int .i64 a1, .int .i64 a2, .int .i64 a3], .bool false, .int .i64 n] w fun e w' => ∃ v, e = .returned v ∧ HasR w' v [⟨a0, a1, a2, a3⟩] ∧ Below w.heap.size w w' := by
  have HE := Lib.hid KE; have H1 := Lib.hid K1
  clear KE K1
  go_enter Try.func23, Try.ntmps23
  go_upto_region 3 with (go_at_call 13; refine (HE.out _).mono ?_; rintro e w' ⟨rfl, rfl⟩)
  go_region
  all_goals
    go_wp2_with (go_at_call 13; first | ((with_reducible refine (H1.out _).mono ?_); rintro e w' ⟨rfl, rfl⟩))
    go_ret
    clear HE H1
    refine ⟨.slice (some ⟨_, 0, none⟩) 1 1, rfl, ?_, ?_⟩
    · with_reducible refine hasR1 ?_ ?_ ?_ ?_
      all_goals simp [go_sem]
    · repeat (first | exact Below.refl _ _ | apply up_drew | apply up_alloc)

set_option maxHeartbeats 1000000 in
theorem split_false_false_true (a0 a1 a2 a3 n : Int) (w : World) (KE : (∀ w : World, Calls Try.prog 13 #[.agg #[.int .i64 a0, .int .i64 a1, .int .i64 a2, .int .i64 a3]] w fun e w' => e = .returned (.bool false) ∧ w' = w.alloc (.cells #[.int .i64 a0, .int .i64 a1, .int .i64 a2, .int .i64 a3] 23))) (K1 : (∀ w : World, Calls Try.prog 13 #[.agg #[.int .i64 a0, .int .i64 a1, .int .i64 a2, .int .i64 n]] w fun e w' => e = .returned (.bool false) ∧ w' = w.alloc (.cells #[.int .i64 a0, .int .i64 a1, .int .i64 a2, .int .i64 n] 23))) (K2 : (∀ w : World, Calls Try.prog 13 #[.agg #[.int .i64 a0, .int .i64 n, .int .i64 a2, .int .i64 a3]] w fun e w' => e = .returned (.bool true) ∧ w' = w.alloc (.cells #[.int .i64 a0, .int .i64 n, .int .i64 a2, .int .i64 a3] 23))) :
    Calls Try.prog 23 #[.agg #[.int .i64 a0, .int .i64 a1, .int .i64 a2, .int .i64 a3], .bool false, .int .i64 n] w fun e w' => ∃ v, e = .returned v ∧ HasR w' v [⟨a0, a1, a2, a3⟩] ∧ Below w.heap.size w w' := by
  have HE := Lib.hid KE; have H1 := Lib.hid K1; have H2 := Lib.hid K2
  clear KE K1 K2
  go_enter Try.func23, Try.ntmps23
  go_upto_region 3 with (go_at_call 13; refine (HE.out _).mono ?_; rintro e w' ⟨rfl, rfl⟩)
  go_region
  all_goals
    go_wp2_with (go_at_call 13; first | ((with_reducible refine (H1.out _).mono ?_); rintro e w' ⟨rfl, rfl⟩) | ((with_reducible refine (H2.out _).mono ?_); rintro e w' ⟨rfl, rfl⟩))
    go_ret
    clear HE H1 H2
    refine ⟨.slice (some ⟨_, 0, none⟩) 1 1, rfl, ?_, ?_⟩
    · with_reducible refine hasR1 ?_ ?_ ?_ ?_
      all_goals simp [go_sem]
    · repeat (first | exact Below.refl _ _ | apply up_drew | apply up_alloc)

set_option maxHeartbeats 1000000 in
theorem split_false_false_false (a0 a1 a2 a3 n : Int) (w : World) (KE : (∀ w : World, Calls Try.prog 13 #[.agg #[.int .i64 a0, .int .i64 a1, .int .i64 a2, .int .i64 a3]] w fun e w' => e = .returned (.bool false) ∧ w' = w.alloc (.cells #[.int .i64 a0, .int .i64 a1, .int .i64 a2, .int .i64 a3] 23))) (K1 : (∀ w : World, Calls Try.prog 13 #[.agg #[.int .i64 a0, .int .i64 a1, .int .i64 a2, .int .i64 n]] w fun e w' => e = .returned (.bool false) ∧ w' = w.alloc (.cells #[.int .i64 a0, .int .i64 a1, .int .i64 a2, .int .i64 n] 23))) (K2 : (∀ w : World, Calls Try.prog 13 #[.agg #[.int .i64 a0, .int .i64 n, .int .i64 a2, .int .i64 a3]] w fun e w' => e = .returned (.bool false) ∧ w' = w.alloc (.cells #[.int .i64 a0, .int .i64 n, .int .i64 a2, .int .i64 a3] 23))) :
    Calls Try.prog 23 #[.agg #[.int .i64 a0, .int .i64 a1, .int .i64 a2, .int .i64 a3], .bool false, .int .i64 n] w fun e w' => ∃ v, e = .returned v ∧ HasR w' v [⟨a0, a1, a2, n⟩, ⟨a0, n, a2, a3⟩] ∧ Below w.heap.size w w' := by
  have HE := Lib.hid KE; have H1 := Lib.hid K1; have H2 := Lib.hid K2
  clear KE K1 K2
  go_enter Try.func23, Try.ntmps23
  go_upto_region 3 with (go_at_call 13; refine (HE.out _).mono ?_; rintro e w' ⟨rfl, rfl⟩)
  go_region
  all_goals
    go_wp2_with (go_at_call 13; first | ((with_reducible refine (H1.out _).mono ?_); rintro e w' ⟨rfl, rfl⟩) | ((with_reducible refine (H2.out _).mono ?_); rintro e w' ⟨rfl, rfl⟩))
    go_ret
    clear HE H1 H2
    refine ⟨.slice (some ⟨_, 0, none⟩) 2 2, rfl, ?_, ?_⟩
    · with_reducible refine hasR2 ?_ ?_ ?_ ?_ ?_ ?_ ?_ ?_
      all_goals simp [go_sem]
    · repeat (first | exact Below.refl _ _ | apply up_drew | apply up_alloc)

set_option maxHeartbeats 1000000 in
theorem split_true_true_any (a0 a1 a2 a3 n : Int) (w : World) (KE : (∀ w : World, Calls Try.prog 13 #[.agg #[.int .i64 a0, .int .i64 a1, .int .i64 a2, .int .i64 a3]] w fun e w' => e = .returned (.bool false) ∧ w' = w.alloc (.cells #[.int .i64 a0, .int .i64 a1, .int .i64 a2, .int .i64 a3] 23))) (K1 : (∀ w : World, Calls Try.prog 13 #[.agg #[.int .i64 a0, .int .i64 a1, .int .i64 n, .int .i64 a3]] w fun e w' => e = .returned (.bool true) ∧ w' = w.alloc (.cells #[.int .i64 a0, .int .i64 a1, .int .i64 n, .int .i64 a3] 23))) :
    Calls Try.prog 23 #[.agg #[.int .i64 a0, .int .i64 a1, .int .i64 a2, .int .i64 a3], .bool true, .int .i64 n] w fun e w' => ∃ v, e = .returned v ∧ HasR w' v [⟨a0, a1, a2, a3⟩] ∧ Below w.heap.size w w' := by
  have HE := Lib.hid KE; have H1 := Lib.hid K1
  clear KE K1
  go_enter Try.func23, Try.ntmps23
  go_upto_region 3 with (go_at_call 13; refine (HE.out _).mono ?_; rintro e w' ⟨rfl, rfl⟩)
  go_region
  all_goals
    go_wp2_with (go_at_call 13; first | ((with_reducible refine (H1.out _).mono ?_); rintro e w' ⟨rfl, rfl⟩))
    go_ret
    clear HE H1
    refine ⟨.slice (some ⟨_, 0, none⟩) 1 1, rfl, ?_, ?_⟩
    · with_reducible refine hasR1 ?_ ?_ ?_ ?_
      all_goals simp [go_sem]
    · repeat (first | exact Below.refl _ _ | apply up_drew | apply up_alloc)

set_option maxHeartbeats 1000000 in
theorem split_true_false_true (a0 a1 a2 a3 n : Int) (w : World) (KE : (∀ w : World, Calls Try.prog 13 #[.agg #[.int .i64 a0, .int .i64 a1, .int .i64 a2, .int .i64 a3]] w fun e w' => e = .returned (.bool false) ∧ w' = w.alloc (.cells #[.int .i64 a0, .int .i64 a1, .int .i64 a2, .int .i64 a3] 23))) (K1 : (∀ w : World, Calls Try.prog 13 #[.agg #[.int .i64 a0, .int .i64 a1, .int .i64 n, .int .i64 a3]] w fun e w' => e = .returned (.bool false) ∧ w' = w.alloc (.cells #[.int .i64 a0, .int .i64 a1, .int .i64 n, .int .i64 a3] 23))) (K2 : (∀ w : World, Calls Try.prog 13 #[.agg #[.int .i64 n, .int .i64 a1, .int .i64 a2, .int .i64 a3]] w fun e w' => e = .returned (.bool true) ∧ w' = w.alloc (.cells #[.int .i64 n, .int .i64 a1, .int .i64 a2, .int .i64 a3] 23))) :
    Calls Try.prog 23 #[.agg #[.int .i64 a0, .int .i64 a1, .int .i64 a2, .int .i64 a3], .bool true, .int .i64 n] w fun e w' => ∃ v, e = .returned v ∧ HasR w' v [⟨a0, a1, a2, a3⟩] ∧ Below w.heap.size w w' := by
  have HE := Lib.hid KE; have H1 := Lib.hid K1; have H2 := Lib.hid K2
  clear KE K1 K2
  go_enter Try.func23, Try.ntmps23
  go_upto_region 3 with (go_at_call 13; refine (HE.out _).mono ?_; rintro e w' ⟨rfl, rfl⟩)
  go_region
  all_goals
    go_wp2_with (go_at_call 13; first | ((with_reducible refine (H1.out _).mono ?_); rintro e w' ⟨rfl, rfl⟩) | ((with_reducible refine (H2.out _).mono ?_); rintro e w' ⟨rfl, rfl⟩))
    go_ret
    clear HE H1 H2
    refine ⟨.slice (some ⟨_, 0, none⟩) 1 1, rfl, ?_, ?_⟩
    · with_reducible refine hasR1 ?_ ?_ ?_ ?_
      all_goals simp [go_sem]
    · repeat (first | exact Below.refl _ _ | apply up_drew | apply up_alloc)

set_option maxHeartbeats 1000000 in
theorem split_true_false_false (a0 a1 a2 a3 n : Int) (w : World) (KE : (∀ w : World, Calls Try.prog 13 #[.agg #[.int .i64 a0, .int .i64 a1, .int .i64 a2, .int .i64 a3]] w fun e w' => e = .returned (.bool false) ∧ w' = w.alloc (.cells #[.int .i64 a0, .int .i64 a1, .int .i64 a2, .int .i64 a3] 23))) (K1 : (∀ w : World, Calls Try.prog 13 #[.agg #[.int .i64 a0, .int .i64 a1, .int .i64 n, .int .i64 a3]] w fun e w' => e = .returned (.bool false) ∧ w' = w.alloc (.cells #[.int .i64 a0, .int .i64 a1, .int .i64 n, .int .i64 a3] 23))) (K2 : (∀ w : World, Calls Try.prog 13 #[.agg #[.int .i64 n, .int .i64 a1, .int .i64 a2, .int .i64 a3]] w fun e w' => e = .returned (.bool false) ∧ w' = w.alloc (.cells #[.int .i64 n, .int .i64 a1, .int .i64 a2, .int .i64 a3] 23))) :
    Calls Try.prog 23 #[.agg #[.int .i64 a0, .int .i64 a1, .int .i64 a2, .int .i64 a3], .bool true, .int .i64 n] w fun e w' => ∃ v, e = .returned v ∧ HasR w' v [⟨a0, a1, n, a3⟩, ⟨n, a1, a2, a3⟩] ∧ Below w.heap.size w w' := by
  have HE := Lib.hid KE; have H1 := Lib.hid K1; have H2 := Lib.hid K2
  clear KE K1 K2
  go_enter Try.func23, Try.ntmps23
  go_upto_region 3 with (go_at_call 13; refine (HE.out _).mono ?_; rintro e w' ⟨rfl, rfl⟩)
  go_region
  all_goals
    go_wp2_with (go_at_call 13; first | ((with_reducible refine (H1.out _).mono ?_); rintro e w' ⟨rfl, rfl⟩) | ((with_reducible refine (H2.out _).mono ?_); rintro e w' ⟨rfl, rfl⟩))
    go_ret
    clear HE H1 H2
    refine ⟨.slice (some ⟨_, 0, none⟩) 2 2, rfl, ?_, ?_⟩
    · with_reducible refine hasR2 ?_ ?_ ?_ ?_ ?_ ?_ ?_ ?_
      all_goals simp [go_sem]
    · repeat (first | exact Below.refl _ _ | apply up_drew | apply up_alloc)

theorem split_any (a0 a1 a2 a3 : Int) (up : Bool) (n : Int) (w : World) :
    Calls Try.prog 23 #[.agg #[.int .i64 a0, .int .i64 a1, .int .i64 a2, .int .i64 a3], .bool up, .int .i64 n] w fun e w' => ∃ v, e = .returned v ∧ HasR w' v (splitR a0 a1 a2 a3 up n) ∧ Below w.heap.size w w' := by
  unfold splitR
  have KE := fun w => empty_any a0 a1 a2 a3 w
  generalize emp4 a0 a1 a2 a3 = E at *
  cases E
  · rw [if_neg (by decide)]
    cases up
    · have K1 := fun w => empty_any a0 a1 a2 n w
      have K2 := fun w => empty_any a0 n a2 a3 w
      simp only
      generalize emp4 a0 a1 a2 n = E1 at *
      generalize emp4 a0 n a2 a3 = E2 at *
      cases E1
      · cases E2
        · exact split_false_false_false a0 a1 a2 a3 n w KE K1 K2
        · exact split_false_false_true a0 a1 a2 a3 n w KE K1 K2
      · exact split_false_true_any a0 a1 a2 a3 n w KE K1
    · have K1 := fun w => empty_any a0 a1 n a3 w
      have K2 := fun w => empty_any n a1 a2 a3 w
      simp only
      generalize emp4 a0 a1 n a3 = E1 at *
      generalize emp4 n a1 a2 a3 = E2 at *
      cases E1
      · cases E2
        · exact split_true_false_false a0 a1 a2 a3 n w KE K1 K2
        · exact split_true_false_true a0 a1 a2 a3 n w KE K1 K2
      · exact split_true_true_any a0 a1 a2 a3 n w KE K1
  · rw [if_pos rfl]
    have HE := Lib.hid KE
    clear KE
    go_enter Try.func23, Try.ntmps23
    go_wp2_with (go_at_call 13; refine (HE.out _).mono ?_; rintro e w' ⟨rfl, rfl⟩)
    go_ret
    exact ⟨_, rfl, .inl ⟨rfl, rfl⟩, up_alloc (up_alloc (Below.refl _ _) _) _⟩
end Go.Proofs.Ytgfbgmkooflhbaa
