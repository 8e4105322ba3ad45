/- Boxes of four numbers, and a slot that holds a value in a later world. -/
import Derived.Test.YtgfbgmkooflhbaaBoxCode
namespace Go.Proofs.Ytgfbgmkooflhbaa
open Go.RowKit
set_option linter.unusedVariables false

/-- The slot holds v, in a later world. -/
def LaterOf {w : World} (_ : Later w) (v s : Value) (wx : World) : Prop := s = v ∧ ∃ u : Later w, wx = u.now
/-- A box of four numbers. -/
def C4 (w : World) (B : Nat) (a0 a1 a2 a3 : Int) : Prop := w.cell? ⟨B, 0, none⟩ = some (.int .i64 a0) ∧ w.cell? ⟨B, 1, none⟩ = some (.int .i64 a1) ∧ w.cell? ⟨B, 2, none⟩ = some (.int .i64 a2) ∧ w.cell? ⟨B, 3, none⟩ = some (.int .i64 a3)
theorem C4.up {w w' : World} {B : Nat} {a0 a1 a2 a3 : Int} (h : C4 w B a0 a1 a2 a3) (hb : Below w.heap.size w w') : C4 w' B a0 a1 a2 a3 := ⟨bl_cell hb h.1, bl_cell hb h.2.1, bl_cell hb h.2.2.1, bl_cell hb h.2.2.2⟩
theorem C4.alloc {w : World} {B : Nat} {a0 a1 a2 a3 : Int} (h : C4 w B a0 a1 a2 a3) (o : Obj) : C4 (w.alloc o) B a0 a1 a2 a3 := h.up (up_alloc (Below.refl _ _) o)
theorem C4.new (w : World) (t : TypeId) (a0 a1 a2 a3 : Int) : C4 (w.alloc (.cells #[.int .i64 a0, .int .i64 a1, .int .i64 a2, .int .i64 a3] t)) w.heap.size a0 a1 a2 a3 := ⟨by simp [go_sem], by simp [go_sem], by simp [go_sem], by simp [go_sem]⟩
theorem two_rects (w w1 : World) (t1 t2 : TypeId) {a0 a1 a2 a3 b0 b1 b2 b3 : Int} (hb : Below ((w.alloc (.cells #[.int .i64 a0, .int .i64 a1, .int .i64 a2, .int .i64 a3] t1)).alloc (.cells #[.int .i64 b0, .int .i64 b1, .int .i64 b2, .int .i64 b3] t2)).heap.size ((w.alloc (.cells #[.int .i64 a0, .int .i64 a1, .int .i64 a2, .int .i64 a3] t1)).alloc (.cells #[.int .i64 b0, .int .i64 b1, .int .i64 b2, .int .i64 b3] t2)) w1) :
    C4 w1 w.heap.size a0 a1 a2 a3 ∧ C4 w1 (w.heap.size + 1) b0 b1 b2 b3 ∧ Below w.heap.size w w1 :=
  ⟨((C4.new w t1 a0 a1 a2 a3).alloc _).up hb, by have := (C4.new (w.alloc (.cells #[.int .i64 a0, .int .i64 a1, .int .i64 a2, .int .i64 a3] t1)) t2 b0 b1 b2 b3).up hb; simpa using this, up_trans (up_alloc (up_alloc (Below.refl _ _) _) _) hb⟩
theorem run_same (a0 a1 a2 a3 b0 b1 b2 b3 : Int) (w : World) : (binOp .eql 23 (.agg #[.int .i64 a0, .int .i64 a1, .int .i64 a2, .int .i64 a3]) (.agg #[.int .i64 b0, .int .i64 b1, .int .i64 b2, .int .i64 b3])).run Try.prog w = .ok (.bool (same4 a0 a1 a2 a3 b0 b1 b2 b3)) w := by
  by_cases h0 : a0 = b0 <;> by_cases h1 : a1 = b1 <;> by_cases h2 : a2 = b2 <;> by_cases h3 : a3 = b3
  all_goals simp [go_sem, same4, h0, h1, h2, h3]
end Go.Proofs.Ytgfbgmkooflhbaa
