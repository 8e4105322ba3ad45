/- What num's sums, differences, products, quotients and rests answer, for every two ints; and that the chapter's example holds. -/
import Derived.Test.YtpjnignkblaneaaNumAll
namespace Go.Proofs.Ytpjnignkblaneaa
open Go.RowKit NumMath
set_option linter.unusedVariables false

theorem add_any (a b : Int) (w : World) (a0 : -9223372036854775808 ≤ a) (a1 : a ≤ 9223372036854775807) (b0 : -9223372036854775808 ≤ b) (b1 : b ≤ 9223372036854775807) :
    Calls Try.prog 8 #[.int .i64 a, .int .i64 b] w fun e w' => e = .returned (.tuple #[.int .i64 (opt (a + b)).1, .bool (opt (a + b)).2]) ∧ w = w' := by
  by_cases f : -9223372036854775808 ≤ a + b ∧ a + b ≤ 9223372036854775807
  · obtain ⟨f0, f1⟩ := f
    have H := Lib.hid (opt_yes (a + b) f0 f1)
    by_cases ha : a < 0 <;> by_cases hb : b < 0 <;> by_cases hs : a + b < 0
    all_goals first
      | (exfalso; omega)
      | (go_enter Try.func8, Try.ntmps8
         go_wp2
         go_ret2
         exact ⟨ret_pair H.out, rfl⟩)
  · have H := Lib.hid (opt_no (a + b) (by omega))
    obtain ⟨t, ht⟩ : ∃ t, wrap64 (a + b) = t := ⟨_, rfl⟩
    by_cases ha : a < 0
    · have hb : b < 0 := by omega
      have h0 : 0 ≤ t := by rw [← ht]; unfold wrap64; omega
      have k0 : decide (t < 0) = false := by simp; omega
      have k1 : decide (b < 0) = true := by simp; omega
      go_enter Try.func8, Try.ntmps8
      go_wp2
      go_ret2
      exact ⟨ret_pair H.out, rfl⟩
    · have hb : 0 ≤ b := by omega
      have h0 : t < 0 := by rw [← ht]; unfold wrap64; omega
      have k0 : decide (a < 0) = false := by simp; omega
      have k1 : decide (b < 0) = false := by simp; omega
      go_enter Try.func8, Try.ntmps8
      go_wp2
      go_ret2
      exact ⟨ret_pair H.out, rfl⟩

theorem sub_any (a b : Int) (w : World) (a0 : -9223372036854775808 ≤ a) (a1 : a ≤ 9223372036854775807) (b0 : -9223372036854775808 ≤ b) (b1 : b ≤ 9223372036854775807) :
    Calls Try.prog 9 #[.int .i64 a, .int .i64 b] w fun e w' => e = .returned (.tuple #[.int .i64 (opt (a - b)).1, .bool (opt (a - b)).2]) ∧ w = w' := by
  by_cases f : -9223372036854775808 ≤ a - b ∧ a - b ≤ 9223372036854775807
  · obtain ⟨f0, f1⟩ := f
    have H := Lib.hid (opt_yes (a - b) f0 f1)
    by_cases ha : a < 0 <;> by_cases hb : b < 0 <;> by_cases hs : a - b < 0
    all_goals first
      | (exfalso; omega)
      | (go_enter Try.func9, Try.ntmps9
         go_wp2
         go_ret2
         exact ⟨ret_pair H.out, rfl⟩)
  · have H := Lib.hid (opt_no (a - b) (by omega))
    obtain ⟨t, ht⟩ : ∃ t, wrap64 (a - b) = t := ⟨_, rfl⟩
    by_cases ha : a < 0
    · have hb : 0 ≤ b := by omega
      have h0 : 0 ≤ t := by rw [← ht]; unfold wrap64; omega
      have k0 : decide (t < 0) = false := by simp; omega
      have k1 : decide (b < 0) = false := by simp; omega
      go_enter Try.func9, Try.ntmps9
      go_wp2
      go_ret2
      exact ⟨ret_pair H.out, rfl⟩
    · have hb : b < 0 := by omega
      have h0 : t < 0 := by rw [← ht]; unfold wrap64; omega
      have k0 : decide (a < 0) = false := by simp; omega
      have k1 : decide (b < 0) = true := by simp; omega
      go_enter Try.func9, Try.ntmps9
      go_wp2
      go_ret2
      exact ⟨ret_pair H.out, rfl⟩

theorem refAdd_any (a b : Int) (w : World) (a0 : -9223372036854775808 ≤ a) (a1 : a ≤ 9223372036854775807) (b0 : -9223372036854775808 ≤ b) (b1 : b ≤ 9223372036854775807) :
    Calls Try.prog 11 #[.int .i64 a, .int .i64 b] w fun e w' => e = .returned (.tuple #[.int .i64 (opt (a + b)).1, .bool (opt (a + b)).2]) ∧ w = w' := by
  by_cases hb : 0 < b
  · by_cases h : 9223372036854775807 - b < a
    · have H := Lib.hid (opt_no (a + b) (by omega))
      go_enter Try.func11, Try.ntmps11
      go_wp2
      go_ret2
      exact ⟨ret_pair H.out, rfl⟩
    · have H := Lib.hid (opt_yes (a + b) (by omega) (by omega))
      go_enter Try.func11, Try.ntmps11
      go_wp2
      go_ret2
      exact ⟨ret_pair H.out, rfl⟩
  · by_cases hn : b < 0
    · by_cases h : a < -9223372036854775808 - b
      · have H := Lib.hid (opt_no (a + b) (by omega))
        go_enter Try.func11, Try.ntmps11
        go_wp2
        go_ret2
        exact ⟨ret_pair H.out, rfl⟩
      · have H := Lib.hid (opt_yes (a + b) (by omega) (by omega))
        go_enter Try.func11, Try.ntmps11
        go_wp2
        go_ret2
        exact ⟨ret_pair H.out, rfl⟩
    · have H := Lib.hid (opt_yes (a + b) (by omega) (by omega))
      go_enter Try.func11, Try.ntmps11
      go_wp2
      go_ret2
      exact ⟨ret_pair H.out, rfl⟩

set_option maxHeartbeats 400000 in
theorem mul_any (a b : Int) (w : World) (a0 : -9223372036854775808 ≤ a) (a1 : a ≤ 9223372036854775807) (b0 : -9223372036854775808 ≤ b) (b1 : b ≤ 9223372036854775807) :
    Calls Try.prog 10 #[.int .i64 a, .int .i64 b] w fun e w' => e = .returned (.tuple #[.int .i64 (md a b 1).1, .bool (md a b 1).2]) ∧ w = w' := by
  obtain ⟨x0, x1⟩ := sz_bd a a0 a1
  obtain ⟨y0, y1⟩ := sz_bd b b0 b1
  have p0 : 0 ≤ sz a * sz b := Int.mul_nonneg x0 y0
  have p1 : sz a * sz b ≤ 9223372036854775808 * 9223372036854775808 := Int.mul_le_mul x1 y1 y0 (by decide)
  have s1 : sz 1 = 1 := rfl
  have eN : sz a * sz b = (sz a * sz b) * sz 1 + 0 := by rw [s1]; omega
  have F := Lib.hid (md_all a b 1 _ _ (by decide) eN p0 (by decide) (by decide))
  have M1 := Lib.hid (md_plus a b 1 _ _ (by decide) eN (by decide) (by decide))
  have M2 := Lib.hid (md_minus a b 1 _ _ (by decide) eN (by decide) (by decide))
  obtain ⟨hi, lo, e1, e2⟩ : ∃ hi lo, hi = sz a * sz b / 18446744073709551616 ∧ lo = sz a * sz b % 18446744073709551616 := ⟨_, _, rfl, rfl⟩
  have h0 : 0 ≤ hi := by omega
  have l0 : 0 ≤ lo := by omega
  have l1 : lo < 18446744073709551616 := by omega
  by_cases hh : 0 < hi
  · have H : Hid (md a b 1 = (0, false)) := Lib.hid (by
      have f := F.out
      cases g : neg3 a b 1
      · exact (f.1 g).2 (by omega)
      · exact (f.2 g).2.1 (by omega) (by omega))
    have E1 := Lib.hid e1; have E2 := Lib.hid e2
    clear e1 e2 eN s1 p0 p1
    go_enter Try.func10, Try.ntmps10
    go_wp2_with (first | (go_at_call 19; refine (size_any _ _ (by omega) (by omega)).mono ?_; rintro e w' ⟨rfl, rfl⟩) | (go_at_call 18; refine (mul64_any _ _ hi lo _ (by omega) (by omega) (by omega) (by omega) E1.out E2.out).mono ?_; rintro e w' ⟨rfl, rfl⟩))
    go_ret2
    exact ⟨ret_pair H.out, rfl⟩
  · have eL : sz a * sz b = lo := by omega
    have EL := Lib.hid eL
    have E1 := Lib.hid e1; have E2 := Lib.hid e2
    clear e1 e2 eN s1 p0 p1 eL
    obtain ⟨x, hx⟩ : ∃ x, decide (a < 0) = x := ⟨_, rfl⟩
    obtain ⟨y, hy⟩ : ∃ x, decide (b < 0) = x := ⟨_, rfl⟩
    obtain ⟨u, hu⟩ : ∃ u, (x == y) = u := ⟨_, rfl⟩
    cases u
    · have g : neg3 a b 1 = true := by simp [neg3, bne, hx, hy, hu]
      have H := Lib.hid ((M2.out g rfl).trans (by rw [EL.out] : sg (sz a * sz b) true = sg lo true))
      clear g
      go_enter Try.func10, Try.ntmps10
      go_wp2_with (first | (go_at_call 19; refine (size_any _ _ (by omega) (by omega)).mono ?_; rintro e w' ⟨rfl, rfl⟩) | (go_at_call 18; refine (mul64_any _ _ hi lo _ (by omega) (by omega) (by omega) (by omega) E1.out E2.out).mono ?_; rintro e w' ⟨rfl, rfl⟩) | (go_at_call 20; refine (signed_any _ _ _ (by omega) (by omega)).mono ?_; rintro e w' ⟨rfl, rfl⟩))
      go_ret2
      exact ⟨ret_same H.out, rfl⟩
    · have g : neg3 a b 1 = false := by simp [neg3, bne, hx, hy, hu]
      have H := Lib.hid ((M1.out g).trans (by rw [EL.out] : sg (sz a * sz b) false = sg lo false))
      clear g
      go_enter Try.func10, Try.ntmps10
      go_wp2_with (first | (go_at_call 19; refine (size_any _ _ (by omega) (by omega)).mono ?_; rintro e w' ⟨rfl, rfl⟩) | (go_at_call 18; refine (mul64_any _ _ hi lo _ (by omega) (by omega) (by omega) (by omega) E1.out E2.out).mono ?_; rintro e w' ⟨rfl, rfl⟩) | (go_at_call 20; refine (signed_any _ _ _ (by omega) (by omega)).mono ?_; rintro e w' ⟨rfl, rfl⟩))
      go_ret2
      exact ⟨ret_same H.out, rfl⟩

theorem in_any (n lo hi : Int) (w : World) :
    Calls Try.prog 14 #[.int .i64 n, .int .i64 lo, .int .i64 hi] w fun e w' => e = .returned (.bool (decide (lo ≤ n) && decide (n ≤ hi))) ∧ w = w' := by
  by_cases h1 : lo ≤ n <;> by_cases h2 : n ≤ hi
  all_goals
    go_enter Try.func14, Try.ntmps14
    go_wp2
    go_ret
    exact ⟨by simp [h1, h2], rfl⟩
end Go.Proofs.Ytpjnignkblaneaa
