/- What holds of spans' meets, hulls and rests: plain numbers. -/
import Derived.Test.YtbaadohjlinlpaaSpanRising
import Derived.OpenShut
namespace Go.Proofs.Ytbaadohjlinlpaa
open Go.RowKit
set_option linter.unusedVariables false

theorem int_bd {n : Int} (h : (Lit.int .i64 n).wf = true) : -9223372036854775808 ≤ n ∧ n ≤ 9223372036854775807 := bounds_i64 h
theorem emp_t {a b : Int} (h : b ≤ a) : emp a b = true := by simp [emp, h]
theorem emp_f {a b : Int} (h : a < b) : emp a b = false := by simp [emp]; omega
theorem emp_t' {a b : Int} (h : emp a b = true) : b ≤ a := by simpa [emp] using h
theorem emp_f' {a b : Int} (h : emp a b = false) : a < b := by simp [emp] at h; omega
theorem inS_f {a b n : Int} (h : n < a ∨ b ≤ n) : inS a b n = false := by simp [inS]; omega
theorem inS_t {a b n : Int} (h : a ≤ n ∧ n < b) : inS a b n = true := by simp [inS]; omega
theorem inS_iff {a b n : Int} : inS a b n = true ↔ a ≤ n ∧ n < b := by simp [inS]

theorem oz_case (a b : Int) : (b ≤ a ∧ oz a b = (0, 0)) ∨ (a < b ∧ oz a b = (a, b)) := by
  unfold oz
  by_cases h : b ≤ a
  · exact .inl ⟨h, if_pos h⟩
  · exact .inr ⟨by omega, if_neg h⟩
theorem meet_case (a0 a1 b0 b1 : Int) : (min a1 b1 ≤ max a0 b0 ∧ meetS a0 a1 b0 b1 = (0, 0)) ∨ (max a0 b0 < min a1 b1 ∧ meetS a0 a1 b0 b1 = (max a0 b0, min a1 b1)) := oz_case _ _
theorem hull_case (a0 a1 b0 b1 : Int) : (a1 ≤ a0 ∧ b1 ≤ b0 ∧ hullS a0 a1 b0 b1 = (0, 0)) ∨ (a1 ≤ a0 ∧ b0 < b1 ∧ hullS a0 a1 b0 b1 = (b0, b1)) ∨ (a0 < a1 ∧ b1 ≤ b0 ∧ hullS a0 a1 b0 b1 = (a0, a1)) ∨ (a0 < a1 ∧ b0 < b1 ∧ hullS a0 a1 b0 b1 = (min a0 b0, max a1 b1)) := by
  unfold hullS
  by_cases h : a1 ≤ a0
  · rw [if_pos h]
    rcases oz_case b0 b1 with ⟨h1, h2⟩ | ⟨h1, h2⟩
    · exact .inl ⟨h, h1, h2⟩
    · exact .inr (.inl ⟨h, h1, h2⟩)
  · rw [if_neg h]
    by_cases k : b1 ≤ b0
    · rw [if_pos k]; exact .inr (.inr (.inl ⟨by omega, k, rfl⟩))
    · rw [if_neg k]; exact .inr (.inr (.inr ⟨by omega, by omega, rfl⟩))

theorem in_meet (a0 a1 b0 b1 n : Int) : inS (meetS a0 a1 b0 b1).1 (meetS a0 a1 b0 b1).2 n = (inS a0 a1 n && inS b0 b1 n) := by
  rw [Bool.eq_iff_iff, Bool.and_eq_true, inS_iff, inS_iff, inS_iff]
  rcases meet_case a0 a1 b0 b1 with ⟨h, e⟩ | ⟨h, e⟩ <;> rw [e] <;> simp only <;> omega
theorem in_hull (a0 a1 b0 b1 n : Int) : inS (hullS a0 a1 b0 b1).1 (hullS a0 a1 b0 b1).2 n = (inS a0 a1 n || inS b0 b1 n || inS (hullS a0 a1 b0 b1).1 (hullS a0 a1 b0 b1).2 n) := by
  rw [Bool.eq_iff_iff, Bool.or_eq_true, Bool.or_eq_true, inS_iff, inS_iff, inS_iff]
  rcases hull_case a0 a1 b0 b1 with ⟨h, k, e⟩ | ⟨h, k, e⟩ | ⟨h, k, e⟩ | ⟨h, k, e⟩ <;> rw [e] <;> simp only <;> omega
theorem within_hull (a0 a1 b0 b1 : Int) : withinS a0 a1 (hullS a0 a1 b0 b1).1 (hullS a0 a1 b0 b1).2 = true ∧ withinS b0 b1 (hullS a0 a1 b0 b1).1 (hullS a0 a1 b0 b1).2 = true := by
  rcases hull_case a0 a1 b0 b1 with ⟨h, k, e⟩ | ⟨h, k, e⟩ | ⟨h, k, e⟩ | ⟨h, k, e⟩ <;> rw [e] <;> simp [withinS, emp] <;> omega
theorem meet_none (a0 a1 b0 b1 : Int) (h : emp (meetS a0 a1 b0 b1).1 (meetS a0 a1 b0 b1).2 = true) : (meetS a0 a1 b0 b1).1 = 0 ∧ (meetS a0 a1 b0 b1).2 = 0 := by
  rcases meet_case a0 a1 b0 b1 with ⟨h', e⟩ | ⟨h', e⟩ <;> rw [e] at h ⊢
  · exact ⟨rfl, rfl⟩
  · have := emp_t' h; simp only at this; omega
theorem hull_none (a0 a1 b0 b1 : Int) (h : emp a0 a1 = true) (k : emp b0 b1 = true) : (hullS a0 a1 b0 b1).1 = 0 ∧ (hullS a0 a1 b0 b1).2 = 0 := by
  have := emp_t' h; have := emp_t' k
  rcases hull_case a0 a1 b0 b1 with ⟨h, k, e⟩ | ⟨h, k, e⟩ | ⟨h, k, e⟩ | ⟨h, k, e⟩ <;> rw [e] <;> first | exact ⟨rfl, rfl⟩ | omega
theorem hull_ends (a0 a1 b0 b1 : Int) (h : emp a0 a1 = true → emp b0 b1 = true → False) :
    ((emp a0 a1 = false ∧ (hullS a0 a1 b0 b1).1 = a0) ∨ (emp b0 b1 = false ∧ (hullS a0 a1 b0 b1).1 = b0)) ∧ ((emp a0 a1 = false ∧ (hullS a0 a1 b0 b1).2 = a1) ∨ (emp b0 b1 = false ∧ (hullS a0 a1 b0 b1).2 = b1)) := by
  rcases hull_case a0 a1 b0 b1 with ⟨x, y, e⟩ | ⟨x, y, e⟩ | ⟨x, y, e⟩ | ⟨x, y, e⟩
  · exact (h (emp_t x) (emp_t y)).elim
  · rw [e]; exact ⟨.inr ⟨emp_f y, rfl⟩, .inr ⟨emp_f y, rfl⟩⟩
  · rw [e]; exact ⟨.inl ⟨emp_f x, rfl⟩, .inl ⟨emp_f x, rfl⟩⟩
  · rw [e, emp_f x, emp_f y]
    refine ⟨?_, ?_⟩
    · rcases Int.le_total a0 b0 with g | g
      · exact .inl ⟨rfl, by simp only; omega⟩
      · exact .inr ⟨rfl, by simp only; omega⟩
    · rcases Int.le_total a1 b1 with g | g
      · exact .inr ⟨rfl, by simp only; omega⟩
      · exact .inl ⟨rfl, by simp only; omega⟩
theorem within_in (a0 a1 b0 b1 n : Int) (h : withinS a0 a1 b0 b1 = true) (k : inS a0 a1 n = true) : inS b0 b1 n = true := by
  rw [inS_iff] at *
  simp [withinS, emp] at h
  omega
theorem emp_same (a0 a1 b0 b1 : Int) (h : a0 = b0) (k : a1 = b1) : emp a0 a1 = emp b0 b1 := by rw [h, k]

theorem minus_apart (a0 a1 b0 b1 : Int) (h : min a1 b1 ≤ max a0 b0) : minusS a0 a1 b0 b1 = addS [] a0 a1 := by
  rcases meet_case a0 a1 b0 b1 with ⟨h', e⟩ | ⟨h', e⟩
  · unfold minusS; rw [e]; rfl
  · omega
theorem minus_meets (a0 a1 b0 b1 : Int) (h : max a0 b0 < min a1 b1) : minusS a0 a1 b0 b1 = addS (addS [] a0 b0) b1 a1 := by
  rcases meet_case a0 a1 b0 b1 with ⟨h', e⟩ | ⟨h', e⟩
  · omega
  · unfold minusS; rw [e, if_neg (by rw [emp_f h']; decide)]
theorem ris0 (a0 a1 : Int) : RisingS [] a0 a1 := fun i p h => by simp at h
theorem ris1 (a0 a1 p0 p1 : Int) (h : p0 < p1) (h0 : a0 ≤ p0) (h1 : p1 ≤ a1) : RisingS [(p0, p1)] a0 a1 := fun i p hp => by
  match i, hp with
  | 0, hp => simp at hp; subst hp; exact ⟨h, h0, h1, fun j q e => by omega⟩
  | i + 1, hp => simp at hp
theorem ris2 (a0 a1 p0 p1 q0 q1 : Int) (h : p0 < p1) (h0 : a0 ≤ p0) (h1 : p1 ≤ a1) (k : q0 < q1) (k0 : a0 ≤ q0) (k1 : q1 ≤ a1) (hk : p1 ≤ q0) : RisingS [(p0, p1), (q0, q1)] a0 a1 := fun i p hp => by
  match i, hp with
  | 0, hp => simp at hp; subst hp; exact ⟨h, h0, h1, fun j q e => by omega⟩
  | 1, hp =>
    simp at hp; subst hp
    refine ⟨k, k0, k1, fun j q e hq => ?_⟩
    obtain rfl : j = 0 := by omega
    simp at hq; subst hq; exact hk
  | i + 2, hp => simp at hp
theorem wrap_less {p q : Int} (h : p < q) (h0 : -9223372036854775808 ≤ p) (h1 : q ≤ 9223372036854775807) : IntKind.i64.wrap (q - 1) = q - 1 := IntWalk.i64_in _ (by omega)
end Go.Proofs.Ytbaadohjlinlpaa
