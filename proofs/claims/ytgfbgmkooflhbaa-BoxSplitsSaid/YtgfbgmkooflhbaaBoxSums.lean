/- What box.Of, Size, Grow and Shift, and the document's own Of, answer for every rectangle and number: sums that go round. -/
import Derived.Test.YtgfbgmkooflhbaaBoxCode
import Derived.IntWalk
import Derived.Deep.QuietTactic
import Derived.BigQuiet
namespace Go.Proofs.Ytgfbgmkooflhbaa
open Go.RowKit
set_option linter.unusedVariables false

theorem up_drewN {a w : World} (h : Below a.heap.size a w) (n : Nat) : Below a.heap.size a (w.drewN n) := by
  induction n with
  | zero => exact h
  | succ n ih => exact up_drew ih
/-- The sum, going round. -/
def sum64 (a b : Int) : Int := IntKind.i64.wrap (a + b)
/-- The difference, going round. -/
def dif64 (a b : Int) : Int := IntKind.i64.wrap (a - b)

theorem of_any (x y v h : Int) (w : World) :
    Calls Try.prog 18 #[.int .i64 x, .int .i64 y, .int .i64 v, .int .i64 h] w fun e w' => e = .returned (.agg #[.int .i64 x, .int .i64 y, .int .i64 (sum64 x v), .int .i64 (sum64 y h)]) ∧ Below w.heap.size w w' := by
  obtain ⟨p, hp⟩ : ∃ p, IntKind.i64.wrap (x + v) = p := ⟨_, rfl⟩
  obtain ⟨q, hq⟩ : ∃ q, IntKind.i64.wrap (y + h) = q := ⟨_, rfl⟩
  unfold sum64
  rw [hp, hq]
  go_enter Try.func18, Try.ntmps18
  go_wp2
  refine bodyPost_ret (v := .agg #[.int .i64 x, .int .i64 y, .int .i64 p, .int .i64 q]) (by simp [results, Try.results18, go_sem]) rfl ⟨rfl, ?_⟩
  repeat (first | exact Below.refl _ _ | apply up_alloc | (refine up_set ?_ (by simp) _))
theorem refOf_any (x y v h : Int) (w : World) :
    Calls Try.prog 22 #[.int .i64 x, .int .i64 y, .int .i64 v, .int .i64 h] w fun e w' => e = .returned (.agg #[.int .i64 x, .int .i64 y, .int .i64 (sum64 x v), .int .i64 (sum64 y h)]) ∧ Below w.heap.size w w' := by
  obtain ⟨p, hp⟩ : ∃ p, IntKind.i64.wrap (x + v) = p := ⟨_, rfl⟩
  obtain ⟨q, hq⟩ : ∃ q, IntKind.i64.wrap (y + h) = q := ⟨_, rfl⟩
  unfold sum64
  rw [hp, hq]
  go_enter Try.func22, Try.ntmps22
  go_wp2
  refine bodyPost_ret (v := .agg #[.int .i64 x, .int .i64 y, .int .i64 p, .int .i64 q]) (by simp [results, Try.results22, go_sem]) rfl ⟨rfl, ?_⟩
  repeat (first | exact Below.refl _ _ | apply up_alloc | (refine up_set ?_ (by simp) _))
theorem grow_any (a0 a1 a2 a3 l b r t : Int) (w : World) :
    Calls Try.prog 20 #[.agg #[.int .i64 a0, .int .i64 a1, .int .i64 a2, .int .i64 a3], .int .i64 l, .int .i64 b, .int .i64 r, .int .i64 t] w fun e w' => e = .returned (.agg #[.int .i64 (dif64 a0 l), .int .i64 (dif64 a1 b), .int .i64 (sum64 a2 r), .int .i64 (sum64 a3 t)]) ∧ Below w.heap.size w w' := by
  obtain ⟨p0, h0⟩ : ∃ p, IntKind.i64.wrap (a0 - l) = p := ⟨_, rfl⟩
  obtain ⟨p1, h1⟩ : ∃ p, IntKind.i64.wrap (a1 - b) = p := ⟨_, rfl⟩
  obtain ⟨p2, h2⟩ : ∃ p, IntKind.i64.wrap (a2 + r) = p := ⟨_, rfl⟩
  obtain ⟨p3, h3⟩ : ∃ p, IntKind.i64.wrap (a3 + t) = p := ⟨_, rfl⟩
  unfold sum64 dif64
  rw [h0, h1, h2, h3]
  go_enter Try.func20, Try.ntmps20
  go_wp2
  refine bodyPost_ret (v := .agg #[.int .i64 p0, .int .i64 p1, .int .i64 p2, .int .i64 p3]) (by simp [results, Try.results20, go_sem]) rfl ⟨rfl, ?_⟩
  repeat (first | exact Below.refl _ _ | apply up_alloc | (refine up_set ?_ (by simp) _))
theorem shift_any (a0 a1 a2 a3 x y : Int) (w : World) :
    Calls Try.prog 21 #[.agg #[.int .i64 a0, .int .i64 a1, .int .i64 a2, .int .i64 a3], .int .i64 x, .int .i64 y] w fun e w' => e = .returned (.agg #[.int .i64 (sum64 a0 x), .int .i64 (sum64 a1 y), .int .i64 (sum64 a2 x), .int .i64 (sum64 a3 y)]) ∧ Below w.heap.size w w' := by
  obtain ⟨p0, h0⟩ : ∃ p, IntKind.i64.wrap (a0 + x) = p := ⟨_, rfl⟩
  obtain ⟨p1, h1⟩ : ∃ p, IntKind.i64.wrap (a1 + y) = p := ⟨_, rfl⟩
  obtain ⟨p2, h2⟩ : ∃ p, IntKind.i64.wrap (a2 + x) = p := ⟨_, rfl⟩
  obtain ⟨p3, h3⟩ : ∃ p, IntKind.i64.wrap (a3 + y) = p := ⟨_, rfl⟩
  unfold sum64
  rw [h0, h1, h2, h3]
  go_enter Try.func21, Try.ntmps21
  go_wp2
  refine bodyPost_ret (v := .agg #[.int .i64 p0, .int .i64 p1, .int .i64 p2, .int .i64 p3]) (by simp [results, Try.results21, go_sem]) rfl ⟨rfl, ?_⟩
  repeat (first | exact Below.refl _ _ | apply up_alloc | (refine up_set ?_ (by simp) _))
theorem size_any (a0 a1 a2 a3 : Int) (w : World) :
    Calls Try.prog 19 #[.agg #[.int .i64 a0, .int .i64 a1, .int .i64 a2, .int .i64 a3]] w fun e w' => e = .returned (.tuple #[.int .i64 (dif64 a2 a0), .int .i64 (dif64 a3 a1)]) ∧ Below w.heap.size w w' := by
  obtain ⟨p0, h0⟩ : ∃ p, IntKind.i64.wrap (a2 - a0) = p := ⟨_, rfl⟩
  obtain ⟨p1, h1⟩ : ∃ p, IntKind.i64.wrap (a3 - a1) = p := ⟨_, rfl⟩
  unfold dif64
  rw [h0, h1]
  go_enter Try.func19, Try.ntmps19
  go_wp2_with fail
  go_quiet (fail)
  go_wp2
  go_ret2
  refine ⟨rfl, ?_⟩
  repeat (first | exact Below.refl _ _ | apply up_drewN | apply up_drew | apply up_alloc | (refine up_set ?_ (by simp) _))
end Go.Proofs.Ytgfbgmkooflhbaa
