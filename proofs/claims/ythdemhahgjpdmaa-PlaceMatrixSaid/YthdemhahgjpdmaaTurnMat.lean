/- What the document's own Do and Then answer for every matrix, and Turn of a turn's matrix. -/
import Derived.Test.YthdemhahgjpdmaaTurnRef
namespace Go.Proofs.Ythdemhahgjpdmaa
open Go.RowKit
set_option linter.unusedVariables false

/-- A point, brought by a matrix; products and sums go round. -/
def mdo (m : Mx) (x y : Int) : Int × Int := (IntKind.i64.wrap (IntKind.i64.wrap (m.a * x) + IntKind.i64.wrap (m.c * y)), IntKind.i64.wrap (IntKind.i64.wrap (m.b * x) + IntKind.i64.wrap (m.d * y)))
theorem up_drewN {a w : World} (h : Below a.heap.size a w) (n : Nat) : Below a.heap.size a (w.drewN n) := by
  induction n with
  | zero => exact h
  | succ n ih => exact up_drew ih

theorem refDo_w (m : Mx) (x y : Int) (w : World) :
    Calls Try.prog 21 #[.agg #[.int .i64 m.a, .int .i64 m.b, .int .i64 m.c, .int .i64 m.d], .int .i64 x, .int .i64 y] w fun e w' => e = .returned (.tuple #[.int .i64 (mdo m x y).1, .int .i64 (mdo m x y).2]) ∧ ∃ n, w' = (w.alloc (.cells #[.int .i64 m.a, .int .i64 m.b, .int .i64 m.c, .int .i64 m.d] 43)).drewN n := by
  obtain ⟨a, b, c, d⟩ := m
  unfold mdo
  simp only
  obtain ⟨p1, h1⟩ : ∃ p, IntKind.i64.wrap (a * x) = p := ⟨_, rfl⟩
  obtain ⟨p2, h2⟩ : ∃ p, IntKind.i64.wrap (c * y) = p := ⟨_, rfl⟩
  obtain ⟨p3, h3⟩ : ∃ p, IntKind.i64.wrap (b * x) = p := ⟨_, rfl⟩
  obtain ⟨p4, h4⟩ : ∃ p, IntKind.i64.wrap (d * y) = p := ⟨_, rfl⟩
  rw [h1, h2, h3, h4]
  obtain ⟨s1, k1⟩ : ∃ p, IntKind.i64.wrap (p1 + p2) = p := ⟨_, rfl⟩
  obtain ⟨s2, k2⟩ : ∃ p, IntKind.i64.wrap (p3 + p4) = p := ⟨_, rfl⟩
  rw [k1, k2]
  go_enter Try.func21, Try.ntmps21
  go_wp2_with fail
  go_quiet (fail)
  go_wp2
  go_ret2
  exact ⟨rfl, _, rfl⟩
theorem refDo_any (m : Mx) (x y : Int) (w : World) :
    Calls Try.prog 21 #[.agg #[.int .i64 m.a, .int .i64 m.b, .int .i64 m.c, .int .i64 m.d], .int .i64 x, .int .i64 y] w fun e w' => e = .returned (.tuple #[.int .i64 (mdo m x y).1, .int .i64 (mdo m x y).2]) ∧ Below w.heap.size w w' :=
  (refDo_w m x y w).mono fun _ _ ⟨he, n, hw⟩ => ⟨he, by rw [hw]; exact up_drewN (up_alloc (Below.refl _ _) _) n⟩

/-- One matrix, and then another one. -/
def mthen (m n : Mx) : Mx := ⟨(mdo n m.a m.b).1, (mdo n m.a m.b).2, (mdo n m.c m.d).1, (mdo n m.c m.d).2⟩
/-- A box of four numbers. -/
def C4 (w : World) (B : Nat) (a0 a1 a2 a3 : Int) : Prop := w.cell? ⟨B, 0, none⟩ = some (.int .i64 a0) ∧ w.cell? ⟨B, 1, none⟩ = some (.int .i64 a1) ∧ w.cell? ⟨B, 2, none⟩ = some (.int .i64 a2) ∧ w.cell? ⟨B, 3, none⟩ = some (.int .i64 a3)
theorem C4.up {w w' : World} {B : Nat} {a0 a1 a2 a3 : Int} (h : C4 w B a0 a1 a2 a3) (hb : Below w.heap.size w w') : C4 w' B a0 a1 a2 a3 := ⟨bl_cell hb h.1, bl_cell hb h.2.1, bl_cell hb h.2.2.1, bl_cell hb h.2.2.2⟩

set_option maxHeartbeats 400000 in
theorem refThen_any (m n : Mx) (w : World) :
    Calls Try.prog 28 #[.agg #[.int .i64 m.a, .int .i64 m.b, .int .i64 m.c, .int .i64 m.d], .agg #[.int .i64 n.a, .int .i64 n.b, .int .i64 n.c, .int .i64 n.d]] w fun e w' => e = .returned (.agg #[.int .i64 (mthen m n).a, .int .i64 (mthen m n).b, .int .i64 (mthen m n).c, .int .i64 (mthen m n).d]) ∧ Below w.heap.size w w' := by
  unfold mthen
  have K1 := fun w => refDo_w n m.a m.b w
  have K2 := fun w => refDo_w n m.c m.d w
  generalize mdo n m.a m.b = P at *
  generalize mdo n m.c m.d = Q at *
  obtain ⟨a, b, c, d⟩ := m
  obtain ⟨a', b', c', d'⟩ := n
  obtain ⟨p1, p2⟩ := P
  obtain ⟨q1, q2⟩ := Q
  have H1 := Lib.hid K1; have H2 := Lib.hid K2
  clear K1 K2
  go_enter Try.func28, Try.ntmps28
  go_wp2_with fail
  refine (H1.out _).mono ?_
  rintro e w1 ⟨rfl, n1, rfl⟩
  go_wp2_with fail
  refine (H2.out _).mono ?_
  rintro e w2 ⟨rfl, n2, rfl⟩
  go_wp2
  refine bodyPost_ret (v := .agg #[.int .i64 p1, .int .i64 p2, .int .i64 q1, .int .i64 q2]) (by simp [results, Try.results28, go_sem]) rfl ⟨rfl, ?_⟩
  repeat (first | (with_reducible exact Below.refl _ _) | (with_reducible apply up_drewN) | (with_reducible apply up_alloc) | (with_reducible refine up_set ?_ (by simp only; omega) _))

/-- Are all numbers the same? -/
def same4 (a0 a1 a2 a3 b0 b1 b2 b3 : Int) : Bool := a0 == b0 && a1 == b1 && a2 == b2 && a3 == b3
theorem run_sameM (a0 a1 a2 a3 b0 b1 b2 b3 : Int) (w : World) : (binOp .eql 43 (.agg #[.int .i64 a0, .int .i64 a1, .int .i64 a2, .int .i64 a3]) (.agg #[.int .i64 b0, .int .i64 b1, .int .i64 b2, .int .i64 b3])).run Try.prog w = .ok (.bool (same4 a0 a1 a2 a3 b0 b1 b2 b3)) w := by
  by_cases h0 : a0 = b0 <;> by_cases h1 : a1 = b1 <;> by_cases h2 : a2 = b2 <;> by_cases h3 : a3 = b3
  all_goals simp [go_sem, same4, h0, h1, h2, h3]
theorem mx_apart (j k : Nat) (hj : j < 8) (hk : k < 8) : same4 (mx (j : Int)).a (mx (j : Int)).b (mx (j : Int)).c (mx (j : Int)).d (mx (k : Int)).a (mx (k : Int)).b (mx (k : Int)).c (mx (k : Int)).d = decide (j = k) := by
  have : ∀ j : Fin 8, ∀ k : Fin 8, same4 (mx (j.val : Int)).a (mx (j.val : Int)).b (mx (j.val : Int)).c (mx (j.val : Int)).d (mx (k.val : Int)).a (mx (k.val : Int)).b (mx (k.val : Int)).c (mx (k.val : Int)).d = decide (j.val = k.val) := by decide +kernel
  exact this ⟨j, hj⟩ ⟨k, hk⟩
def TurnRel (M : Nat) (w : World) (t : Value) (wr : World) : Prop := ∃ k : Nat, k ≤ M ∧ t = .int .i64 (k : Int) ∧ ∃ u : Later w, wr = u.now

set_option maxRecDepth 100000 in
set_option maxHeartbeats 400000 in
theorem refTurn_yes (k : Nat) (hk : k < 8) (w : World) :
    Calls Try.prog 19 #[.agg #[.int .i64 (mx (k : Int)).a, .int .i64 (mx (k : Int)).b, .int .i64 (mx (k : Int)).c, .int .i64 (mx (k : Int)).d]] w fun e w' => e = .returned (.int .i64 (k : Int)) ∧ Below w.heap.size w w' := by
  have HE := Lib.hid (fun j hj => mx_apart j k hj hk)
  generalize mx (k : Int) = m at *
  obtain ⟨a, b, c, d⟩ := m
  simp only at HE
  go_enter Try.func19, Try.ntmps19
  go_wp2_with fail
  have R : C4 (w.alloc (.cells #[.int .i64 a, .int .i64 b, .int .i64 c, .int .i64 d] 43)) w.heap.size a b c d := ⟨by simp [go_sem], by simp [go_sem], by simp [go_sem], by simp [go_sem]⟩
  have HU := Lib.hid (up_alloc (Below.refl w.heap.size w) (.cells #[.int .i64 a, .int .i64 b, .int .i64 c, .int .i64 d] 43))
  generalize (w.alloc (.cells #[.int .i64 a, .int .i64 b, .int .i64 c, .int .i64 d] 43)) = w1 at *
  have jR0 := fun u : Later w1 => u.cell R.1; have jR1 := fun u : Later w1 => u.cell R.2.1; have jR2 := fun u : Later w1 => u.cell R.2.2.1; have jR3 := fun u : Later w1 => u.cell R.2.2.2
  clear R
  go_loopw [3] (fun t wr => TurnRel k w1 t wr) (fun t _ => 8 - (intOf t).toNat)
  case atStart => exact ⟨0, by omega, by go_num, ⟨w1, Below.refl _ _⟩, rfl⟩
  case round =>
    obtain ⟨j, hj, rfl, u, rfl⟩ := hrel
    have j8 : (j : Int) < 8 := by omega
    have K := fun w => refOf_any (j : Int) w
    rw [show (j : Int) % 8 = (j : Int) by omega] at K
    have hE := HE.out j (by omega)
    generalize mx (j : Int) = n at *
    obtain ⟨a', b', c', d'⟩ := n
    simp only at hE
    have q := fun w => run_sameM a' b' c' d' a b c d w
    rw [hE] at q
    have HK := Lib.hid K
    clear K hE
    by_cases hjk : j = k
    · subst hjk
      simp only [decide_true] at q
      go_wp2_with fail
      refine wp_region_later (by kernel_rfl) (by kernel_rfl) ?_
      repeat (go_big_quiet_step ((go_at_call 22; with_reducible exact Later.call (HK.out _))))
      refine wpQuiet_nil ?_
      rintro _ ⟨u2, rfl⟩
      go_wp2
      go_ret
      exact ⟨rfl, up_trans HU.out u2.up⟩
    · simp only [hjk, decide_false] at q
      go_wp2_with fail
      refine wp_region_later (by kernel_rfl) (by kernel_rfl) ?_
      repeat (go_big_quiet_step ((go_at_call 22; with_reducible exact Later.call (HK.out _))))
      refine wpQuiet_nil ?_
      rintro _ ⟨u2, rfl⟩
      go_wp2_with fail
      go_roundw
      case rel => exact ⟨j + 1, by omega, by go_num, u2, rfl⟩
      case measure => simp [intOf]; omega
end Go.Proofs.Ythdemhahgjpdmaa
