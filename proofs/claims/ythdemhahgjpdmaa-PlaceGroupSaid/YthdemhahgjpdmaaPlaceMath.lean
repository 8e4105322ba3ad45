/- Places as numbers: a turn keeps sums, one turn behind another one brings points as both do, and each place is undone. -/
import Derived.Test.YthdemhahgjpdmaaPlaceCode
import Derived.Test.YthdemhahgjpdmaaTurnMath
namespace Go.Proofs.Ythdemhahgjpdmaa
open Go.RowKit
set_option linter.unusedVariables false

theorem eight {p : Int → Prop} (h0 : p 0) (h1 : p 1) (h2 : p 2) (h3 : p 3) (h4 : p 4) (h5 : p 5) (h6 : p 6) (h7 : p 7) (i : Fin 8) : p (i.val : Int) := by
  have hi := i.isLt
  have : (i.val : Int) = 0 ∨ (i.val : Int) = 1 ∨ (i.val : Int) = 2 ∨ (i.val : Int) = 3 ∨ (i.val : Int) = 4 ∨ (i.val : Int) = 5 ∨ (i.val : Int) = 6 ∨ (i.val : Int) = 7 := by omega
  rcases this with e | e | e | e | e | e | e | e <;> rw [e] <;> assumption

/-- A turn, as whether it swaps, and which numbers it turns round. -/
def sw (r : Int) : Bool := r == 1 || r == 3 || r == 5 || r == 7
def n1 (r : Int) : Bool := r == 1 || r == 2 || r == 4 || r == 5
def n2 (r : Int) : Bool := r == 2 || r == 3 || r == 5 || r == 6
def sg (b : Bool) (v : Int) : Int := if b = true then neg64 v else v
theorem do_sg (i : Fin 8) (x y : Int) : doT (i.val : Int) x y = (sg (n1 (i.val : Int)) (if sw (i.val : Int) = true then y else x), sg (n2 (i.val : Int)) (if sw (i.val : Int) = true then x else y)) := by
  refine eight (p := fun r => doT r x y = (sg (n1 r) (if sw r = true then y else x), sg (n2 r) (if sw r = true then x else y))) ?_ ?_ ?_ ?_ ?_ ?_ ?_ ?_ i <;> rfl
theorem sg_sg (a b : Bool) (v : Int) (h0 : -9223372036854775808 ≤ v) (h1 : v ≤ 9223372036854775807) : sg a (sg b v) = sg (a != b) v := by
  cases a <;> cases b <;> simp only [sg, bne_self_eq_false, if_true, if_false, Bool.false_eq_true, Bool.bne_false, Bool.bne_true, Bool.not_false]
  exact neg_neg64 v h0 h1
theorem sg_add (a : Bool) (u v : Int) : sg a (add64 u v) = add64 (sg a u) (sg a v) := by
  cases a
  · rfl
  · simp only [sg, neg64, add64, if_true, IntKind.wrap_i64]; omega
theorem sg_low (a : Bool) (v : Int) (h0 : -9223372036854775808 ≤ v) : -9223372036854775808 ≤ sg a v := by cases a; exact h0; exact wrap_low _
theorem sg_high (a : Bool) (v : Int) (h0 : v ≤ 9223372036854775807) : sg a v ≤ 9223372036854775807 := by cases a; exact h0; exact wrap_high _
theorem then_sg (i j : Fin 8) : sw (thenT (i.val : Int) (j.val : Int)) = (sw (j.val : Int) != sw (i.val : Int)) ∧
    n1 (thenT (i.val : Int) (j.val : Int)) = (n1 (j.val : Int) != (if sw (j.val : Int) = true then n2 (i.val : Int) else n1 (i.val : Int))) ∧
    n2 (thenT (i.val : Int) (j.val : Int)) = (n2 (j.val : Int) != (if sw (j.val : Int) = true then n1 (i.val : Int) else n2 (i.val : Int))) := by
  have : ∀ i j : Fin 8, sw (thenT (i.val : Int) (j.val : Int)) = (sw (j.val : Int) != sw (i.val : Int)) ∧
    n1 (thenT (i.val : Int) (j.val : Int)) = (n1 (j.val : Int) != (if sw (j.val : Int) = true then n2 (i.val : Int) else n1 (i.val : Int))) ∧
    n2 (thenT (i.val : Int) (j.val : Int)) = (n2 (j.val : Int) != (if sw (j.val : Int) = true then n1 (i.val : Int) else n2 (i.val : Int))) := by decide +kernel
  exact this i j
theorem int_fin {r : Int} (h0 : 0 ≤ r) (h7 : r ≤ 7) : ∃ k : Fin 8, r = (k.val : Int) := ⟨⟨r.toNat, by omega⟩, by simp; omega⟩
/-- One turn behind another one brings a point as both do. -/
theorem do_then (i j : Fin 8) (x y : Int) (h0 : -9223372036854775808 ≤ x) (h1 : x ≤ 9223372036854775807) (k0 : -9223372036854775808 ≤ y) (k1 : y ≤ 9223372036854775807) :
    doT (thenT (i.val : Int) (j.val : Int)) x y = doT (j.val : Int) (doT (i.val : Int) x y).1 (doT (i.val : Int) x y).2 := by
  obtain ⟨r0, r7⟩ := then_in i j
  obtain ⟨k, hk⟩ := int_fin r0 r7
  obtain ⟨e1, e2, e3⟩ := then_sg i j
  rw [hk, do_sg k, do_sg j, do_sg i, ← hk, e1, e2, e3]
  cases hj : sw (j.val : Int) <;> cases hi : sw (i.val : Int) <;> simp [sg_sg, h0, h1, k0, k1]
/-- A turn keeps sums. -/
theorem do_add (i : Fin 8) (x y X Y : Int) : doT (i.val : Int) (add64 x X) (add64 y Y) = (add64 (doT (i.val : Int) x y).1 (doT (i.val : Int) X Y).1, add64 (doT (i.val : Int) x y).2 (doT (i.val : Int) X Y).2) := by
  rw [do_sg i, do_sg i, do_sg i]
  cases hi : sw (i.val : Int) <;> simp [sg_add]
theorem add_assoc64 (x y z : Int) : add64 (add64 x y) z = add64 x (add64 y z) := by simp only [add64, IntKind.wrap_i64]; omega
theorem do_low1 (i : Fin 8) (x y : Int) (h0 : -9223372036854775808 ≤ x) (k0 : -9223372036854775808 ≤ y) : -9223372036854775808 ≤ (doT (i.val : Int) x y).1 := by
  rw [do_sg i]; refine sg_low _ _ ?_; split <;> assumption
theorem do_high1 (i : Fin 8) (x y : Int) (h0 : x ≤ 9223372036854775807) (k0 : y ≤ 9223372036854775807) : (doT (i.val : Int) x y).1 ≤ 9223372036854775807 := by
  rw [do_sg i]; refine sg_high _ _ ?_; split <;> assumption
theorem do_low2 (i : Fin 8) (x y : Int) (h0 : -9223372036854775808 ≤ x) (k0 : -9223372036854775808 ≤ y) : -9223372036854775808 ≤ (doT (i.val : Int) x y).2 := by
  rw [do_sg i]; refine sg_low _ _ ?_; split <;> assumption
theorem do_high2 (i : Fin 8) (x y : Int) (h0 : x ≤ 9223372036854775807) (k0 : y ≤ 9223372036854775807) : (doT (i.val : Int) x y).2 ≤ 9223372036854775807 := by
  rw [do_sg i]; refine sg_high _ _ ?_; split <;> assumption
theorem pdo_low1 (t X Y x y : Int) : -9223372036854775808 ≤ (pdo t X Y x y).1 := wrap_low _
theorem pdo_high1 (t X Y x y : Int) : (pdo t X Y x y).1 ≤ 9223372036854775807 := wrap_high _
theorem pdo_low2 (t X Y x y : Int) : -9223372036854775808 ≤ (pdo t X Y x y).2 := wrap_low _
theorem pdo_high2 (t X Y x y : Int) : (pdo t X Y x y).2 ≤ 9223372036854775807 := wrap_high _

/-- One place behind another one does both. -/
theorem pdo_then (t X Y t' X' Y' x y : Int) (h0 : -9223372036854775808 ≤ x) (h1 : x ≤ 9223372036854775807) (k0 : -9223372036854775808 ≤ y) (k1 : y ≤ 9223372036854775807) :
    pdo (thenT t t') (pdo t' X' Y' X Y).1 (pdo t' X' Y' X Y).2 x y = pdo t' X' Y' (pdo t X Y x y).1 (pdo t X Y x y).2 := by
  obtain ⟨i, hi⟩ := fin8 t
  obtain ⟨j, hj⟩ := fin8 t'
  obtain ⟨r0, r7⟩ := then_in i j
  unfold pdo
  rw [then_mod, hi, hj, show thenT (i.val : Int) (j.val : Int) % 8 = thenT (i.val : Int) (j.val : Int) by omega, do_then i j x y h0 h1 k0 k1]
  simp only [do_add, add_assoc64]
theorem do_zero (x y : Int) : doT 0 x y = (x, y) := rfl
theorem neg_add (X : Int) : add64 (neg64 X) X = 0 ∧ add64 X (neg64 X) = 0 := by simp only [add64, neg64, IntKind.wrap_i64]; omega
theorem add_zero64 (x : Int) (h0 : -9223372036854775808 ≤ x) (h1 : x ≤ 9223372036854775807) : add64 x 0 = x := by simp only [add64, IntKind.wrap_i64]; omega
theorem back_in (t : Int) : 0 ≤ backT t ∧ backT t ≤ 7 := by
  obtain ⟨i, hi⟩ := fin8 t
  rw [back_mod, hi]
  exact (then_back i).1
theorem back_then (t : Int) : thenT t (backT t) = 0 ∧ thenT (backT t) t = 0 := by
  obtain ⟨i, hi⟩ := fin8 t
  obtain ⟨⟨b0, b7⟩, e1, e2, _, _⟩ := then_back i
  rw [then_mod t, then_mod _ t, back_mod, hi, show backT (i.val : Int) % 8 = backT (i.val : Int) by omega]
  exact ⟨e1, e2⟩
theorem do_nought (i : Fin 8) : doT (i.val : Int) 0 0 = (0, 0) := by
  have : ∀ i : Fin 8, doT (i.val : Int) 0 0 = (0, 0) := by decide +kernel
  exact this i
/-- The way back, ahead of the way: nothing. -/
theorem back_way (t X Y : Int) (hX0 : -9223372036854775808 ≤ X) (hX1 : X ≤ 9223372036854775807) (hY0 : -9223372036854775808 ≤ Y) (hY1 : Y ≤ 9223372036854775807) :
    pdo (backT t) (pbackXY t X Y).1 (pbackXY t X Y).2 X Y = (0, 0) ∧ pdo t X Y (pbackXY t X Y).1 (pbackXY t X Y).2 = (0, 0) := by
  obtain ⟨i, hi⟩ := fin8 t
  obtain ⟨⟨b0, b7⟩, e1, e2, _, _⟩ := then_back i
  obtain ⟨k, hk⟩ := int_fin b0 b7
  have hm : backT t % 8 = (k.val : Int) := by rw [back_mod, hi, ← hk]; omega
  unfold pdo pbackXY
  rw [hm, hi]
  constructor
  · have h := do_add k X Y (neg64 X) (neg64 Y)
    rw [(neg_add X).2, (neg_add Y).2, do_nought k] at h
    exact h.symm
  · have h := do_then k i (neg64 X) (neg64 Y) (wrap_low _) (wrap_high _) (wrap_low _) (wrap_high _)
    rw [← hk, e2, do_zero, hk] at h
    rw [← h]
    exact Prod.ext (neg_add X).1 (neg_add Y).1
/-- Each place is undone. -/
theorem pdo_back (t X Y x y : Int) (hX0 : -9223372036854775808 ≤ X) (hX1 : X ≤ 9223372036854775807) (hY0 : -9223372036854775808 ≤ Y) (hY1 : Y ≤ 9223372036854775807) (h0 : -9223372036854775808 ≤ x) (h1 : x ≤ 9223372036854775807) (k0 : -9223372036854775808 ≤ y) (k1 : y ≤ 9223372036854775807) :
    pdo (backT t) (pbackXY t X Y).1 (pbackXY t X Y).2 (pdo t X Y x y).1 (pdo t X Y x y).2 = (x, y) := by
  rw [← pdo_then t X Y (backT t) (pbackXY t X Y).1 (pbackXY t X Y).2 x y h0 h1 k0 k1, (back_way t X Y hX0 hX1 hY0 hY1).1, (back_then t).1]
  exact Prod.ext (add_zero64 x h0 h1) (add_zero64 y k0 k1)
end Go.Proofs.Ythdemhahgjpdmaa
