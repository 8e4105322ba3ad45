/- Plain arithmetic of the division of two words by one: a guessed digit, made less till it is right; and how the digits make the quotient; no condition but the ranges that each lemma names. -/
import Derived.Test.YtpjnignkblaneaaNumMath
import Derived.Lib.BitFns
import Derived.Lib.ItoaNum
namespace Go.Proofs.Ytpjnignkblaneaa.NumMath
set_option linter.unusedSectionVars false

/-- What is known of a guessed digit q and what it leaves, r: it is not too small. -/
def Gs (u v1 v0 d q r : Int) : Prop := q * v1 = u - r ∧ 0 ≤ r ∧ r < 4294967296 ∧ 0 ≤ q ∧ q ≤ 4294967297 ∧ r * 4294967296 + d < q * v0 + v1 * 4294967296 + v0

section
variable (u v1 v0 d : Int) (a0 : 2147483648 ≤ v1) (a1 : v1 < 4294967296) (b0 : 0 ≤ v0) (b1 : v0 < 4294967296) (d0 : 0 ≤ d) (d1 : d < 4294967296) (u0 : 0 ≤ u) (u1 : u < v1 * 4294967296 + v0)
include a0 a1 b0 b1 d0 d1 u0 u1
theorem gs_start : Gs u v1 v0 d (u / v1) (u - u / v1 * v1) := by
  have q0 : 0 ≤ u / v1 := Int.ediv_nonneg u0 (by omega)
  have m := Int.mul_ediv_add_emod u v1
  have m0 := Int.emod_nonneg u (by omega : v1 ≠ 0)
  have m1 := Int.emod_lt_of_pos u (by omega : 0 < v1)
  rw [Int.mul_comm] at m
  have s0 : 0 ≤ u / v1 * v0 := Int.mul_nonneg q0 b0
  have q1 : u / v1 ≤ 4294967297 := by
    refine Int.not_lt.1 fun h => ?_
    have := Int.mul_le_mul_of_nonneg_right (show (4294967298 : Int) ≤ u / v1 by omega) (by omega : 0 ≤ v1)
    omega
  exact ⟨by omega, by omega, by omega, q0, q1, by omega⟩
variable (q r : Int) (h : Gs u v1 v0 d q r)
include h
theorem gs_end (t : q * v0 ≤ r * 4294967296 + d) : q = (u * 4294967296 + d) / (v1 * 4294967296 + v0) := by
  obtain ⟨e, r0, r1, q0, q1, l⟩ := h
  have x : q * (v1 * 4294967296 + v0) = (u - r) * 4294967296 + q * v0 := by rw [Int.mul_add, ← Int.mul_assoc, e]
  refine (div_of (v1 * 4294967296 + v0) (u * 4294967296 + d) q (u * 4294967296 + d - q * (v1 * 4294967296 + v0)) (by omega) (by omega) (by omega)).symm
theorem gs_less (t : 4294967296 ≤ q ∨ r * 4294967296 + d < q * v0) : r * 4294967296 + d < q * v0 ∧ 1 ≤ q := by
  obtain ⟨e, r0, r1, q0, q1, l⟩ := h
  have x : q * (v1 * 4294967296 + v0) = (u - r) * 4294967296 + q * v0 := by rw [Int.mul_add, ← Int.mul_assoc, e]
  have y : r * 4294967296 + d < q * v0 := by
    rcases t with t | t
    · have := Int.mul_le_mul_of_nonneg_right t (by omega : 0 ≤ v1 * 4294967296 + v0)
      omega
    · exact t
  refine ⟨y, ?_⟩
  refine Int.not_lt.1 fun h => ?_
  obtain rfl : q = 0 := by omega
  omega
theorem gs_more (t : r * 4294967296 + d < q * v0) (p : 1 ≤ q) (z : r + v1 < 4294967296) : Gs u v1 v0 d (q - 1) (r + v1) := by
  obtain ⟨e, r0, r1, q0, q1, l⟩ := h
  have x1 : (q - 1) * v1 = q * v1 - v1 := by rw [Int.sub_mul, Int.one_mul]
  have x2 : (q - 1) * v0 = q * v0 - v0 := by rw [Int.sub_mul, Int.one_mul]
  exact ⟨by omega, by omega, z, by omega, by omega, by omega⟩
theorem gs_break (t : r * 4294967296 + d < q * v0) (p : 1 ≤ q) (z : 4294967296 ≤ r + v1) : q - 1 = (u * 4294967296 + d) / (v1 * 4294967296 + v0) := by
  obtain ⟨e, r0, r1, q0, q1, l⟩ := h
  have x1 : (q - 1) * v1 = q * v1 - v1 := by rw [Int.sub_mul, Int.one_mul]
  have x2 : (q - 1) * v0 = q * v0 - v0 := by rw [Int.sub_mul, Int.one_mul]
  have x : (q - 1) * (v1 * 4294967296 + v0) = (u - r - v1) * 4294967296 + (q - 1) * v0 := by rw [Int.mul_add, ← Int.mul_assoc, x1, e]
  have y : (q - 1) * v0 ≤ 4294967296 * v0 := Int.mul_le_mul_of_nonneg_right (by omega) b0
  refine (div_of (v1 * 4294967296 + v0) (u * 4294967296 + d) (q - 1) (u * 4294967296 + d - (q - 1) * (v1 * 4294967296 + v0)) (by omega) (by omega) (by omega)).symm
end

/-- The leading noughts of a word: by them it is brought to the top. -/
theorem lead (y : Int) (y0 : 1 ≤ y) (y1 : y < 18446744073709551616) :
    ∃ s : Nat, s ≤ 63 ∧ ((Lib.bitLen y.toNat : Nat) : Int) = 64 - s ∧ 9223372036854775808 ≤ y * 2 ^ s ∧ y * 2 ^ s < 18446744073709551616 := by
  obtain ⟨n, rfl⟩ := Int.eq_ofNat_of_zero_le (by omega : 0 ≤ y)
  obtain ⟨a, b, c⟩ := Lib.bitLenAux_bounds 64 n (by omega) (by omega)
  have l : Lib.bitLenAux 64 n ≤ 64 := Lib.bitLenAux_le 64 n 64 (by omega)
  rw [Int.toNat_natCast]
  unfold Lib.bitLen
  generalize Lib.bitLenAux 64 n = L at *
  have e3 : (n : Int) * 2 ^ (64 - L) = ((n * 2 ^ (64 - L) : Nat) : Int) := by rw [Int.natCast_mul, Int.natCast_pow]; rfl
  refine ⟨64 - L, by omega, by omega, ?_, ?_⟩
  · have e : 2 ^ (L - 1) * 2 ^ (64 - L) = 9223372036854775808 := by
      rw [← Nat.pow_add, show L - 1 + (64 - L) = 63 from by omega]
    have := Nat.mul_le_mul_right (2 ^ (64 - L)) b
    rw [e] at this
    rw [e3]; omega
  · have e : 2 ^ L * 2 ^ (64 - L) = 18446744073709551616 := by
      rw [← Nat.pow_add, show L + (64 - L) = 64 from by omega]
    have := Nat.mul_lt_mul_of_pos_right c (Nat.two_pow_pos (64 - L))
    rw [e] at this
    rw [e3]; omega

theorem or_shift (x z : Int) (s : Nat) (x0 : 0 ≤ x) (x1 : x * 2 ^ s < 18446744073709551616) (z0 : 0 ≤ z) (z1 : z < 2 ^ s) (s1 : s ≤ 63) :
    bits .or .u64 (IntKind.u64.wrap (x * 2 ^ s)) z = x * 2 ^ s + z := by
  have p : (0 : Int) < 2 ^ s := Int.pow_pos (by decide)
  have m : 0 ≤ x * 2 ^ s := Int.mul_nonneg x0 (Int.le_of_lt p)
  have p2 : (2 : Int) ^ s ≤ 9223372036854775808 := by
    have := Nat.pow_le_pow_right (n := 2) (by decide) s1
    have e : ((2 ^ s : Nat) : Int) = 2 ^ s := by rw [Int.natCast_pow]; rfl
    rw [← e]; omega
  rw [wrapu, show x * 2 ^ s % 18446744073709551616 = x * 2 ^ s from by omega]
  rw [u64_or _ _ m x1 z0 (by omega)]
  obtain ⟨n, rfl⟩ := Int.eq_ofNat_of_zero_le x0
  obtain ⟨k, rfl⟩ := Int.eq_ofNat_of_zero_le z0
  have e : (n : Int) * 2 ^ s = ((n * 2 ^ s : Nat) : Int) := by rw [Int.natCast_mul, Int.natCast_pow]; rfl
  have e2 : ((2 ^ s : Nat) : Int) = 2 ^ s := by rw [Int.natCast_pow]; rfl
  rw [e, Int.toNat_natCast, Int.toNat_natCast, nat_join s _ _ (Nat.mul_mod_left _ _) (by omega)]
  omega

/-- The words that the division makes of its arguments. -/
theorem prep (hi lo y : Int) (s : Nat) (h0 : 0 ≤ hi) (h1 : hi < y) (l0 : 0 ≤ lo) (l1 : lo < 18446744073709551616) (s1 : s ≤ 63) (t0 : 9223372036854775808 ≤ y * 2 ^ s) (t1 : y * 2 ^ s < 18446744073709551616) :
    ∃ v v1 v0 u t d1 d0 : Int, y * 2 ^ s = v ∧ v / 4294967296 = v1 ∧ bits .and .u64 v 4294967295 = v0 ∧ bits .or .u64 (IntKind.u64.wrap (hi * 2 ^ s)) (lo / 2 ^ (64 - s)) = u ∧ IntKind.u64.wrap (lo * 2 ^ s) = t ∧ t / 4294967296 = d1 ∧ bits .and .u64 t 4294967295 = d0 ∧
      (2147483648 ≤ v1 ∧ v1 < 4294967296 ∧ 0 ≤ v0 ∧ v0 < 4294967296 ∧ 0 ≤ d1 ∧ d1 < 4294967296 ∧ 0 ≤ d0 ∧ d0 < 4294967296 ∧ 0 ≤ u ∧ u < v1 * 4294967296 + v0) ∧
      v = v1 * 4294967296 + v0 ∧ (hi * 18446744073709551616 + lo) * 2 ^ s = (u * 4294967296 + d1) * 4294967296 + d0 := by
  have p : (0 : Int) < 2 ^ s := Int.pow_pos (by decide)
  have p2 : (0 : Int) < 2 ^ (64 - s) := Int.pow_pos (by decide)
  have pm : (2 : Int) ^ (64 - s) * 2 ^ s = 18446744073709551616 := by rw [← Int.pow_add, show 64 - s + s = 64 from by omega]; rfl
  have z0 : 0 ≤ lo / 2 ^ (64 - s) := Int.ediv_nonneg l0 (Int.le_of_lt p2)
  have z1 : lo / 2 ^ (64 - s) < 2 ^ s := by
    rw [Int.ediv_lt_iff_lt_mul p2, Int.mul_comm, pm]; exact l1
  have c : lo * 2 ^ s / 18446744073709551616 = lo / 2 ^ (64 - s) := by
    rw [← pm, Int.mul_ediv_mul_of_pos_left _ _ p]
  have x1 : (hi + 1) * 2 ^ s ≤ y * 2 ^ s := Int.mul_le_mul_of_nonneg_right (by omega) (Int.le_of_lt p)
  rw [Int.add_mul, Int.one_mul] at x1
  have m0 : 0 ≤ hi * 2 ^ s := Int.mul_nonneg h0 (Int.le_of_lt p)
  have e1 := or_shift hi (lo / 2 ^ (64 - s)) s h0 (by omega) z0 z1 s1
  have e2 : (hi * 18446744073709551616 + lo) * 2 ^ s = hi * 2 ^ s * 18446744073709551616 + lo * 2 ^ s := by rw [Int.add_mul, Int.mul_assoc, Int.mul_comm 18446744073709551616, ← Int.mul_assoc]
  refine ⟨_, _, _, _, _, _, _, rfl, rfl, rfl, rfl, rfl, rfl, rfl, ?_⟩
  rw [e1, wrapu, and_low _ (by omega) (by omega), and_low _ (by omega) (by omega), e2]
  generalize y * 2 ^ s = Y at *
  generalize hi * 2 ^ s = X at *
  generalize lo * 2 ^ s = L at *
  generalize lo / 2 ^ (64 - s) = Z at *
  generalize (2 : Int) ^ s = S at *
  refine ⟨⟨by omega, by omega, by omega, by omega, by omega, by omega, by omega, by omega, by omega, by omega⟩, by omega, by omega⟩

/-- What is left of a word and a digit. -/
theorem left_of (u d v q : Int) (v0 : 0 < v) (v1 : v < 18446744073709551616) (h : q = (u * 4294967296 + d) / v) :
    ((u * 4294967296 % 18446744073709551616 + d) % 18446744073709551616 - q * v % 18446744073709551616) % 18446744073709551616 = (u * 4294967296 + d) % v := by
  have m := Int.mul_ediv_add_emod (u * 4294967296 + d) v
  have m0 := Int.emod_nonneg (u * 4294967296 + d) (by omega : v ≠ 0)
  have m1 := Int.emod_lt_of_pos (u * 4294967296 + d) v0
  rw [Int.mul_comm, ← h] at m
  generalize q * v = P at *
  generalize (u * 4294967296 + d) % v = R at *
  omega
/-- Two digits are the quotient. -/
theorem whole (N y s : Int) (u d1 d0 v q1 q2 u2 : Int) (y0 : 0 < y) (s0 : 0 < s) (hv : y * s = v) (hN : N * s = (u * 4294967296 + d1) * 4294967296 + d0)
    (h1 : q1 = (u * 4294967296 + d1) / v) (h2 : u2 = (u * 4294967296 + d1) % v) (h3 : q2 = (u2 * 4294967296 + d0) / v) :
    N / y = q1 * 4294967296 + q2 ∧ (u2 * 4294967296 + d0) % v / s = N % y := by
  have v0 : 0 < v := by rw [← hv]; exact Int.mul_pos y0 s0
  have m := Int.mul_ediv_add_emod (u * 4294967296 + d1) v
  have k := Int.mul_ediv_add_emod (u2 * 4294967296 + d0) v
  have k0 := Int.emod_nonneg (u2 * 4294967296 + d0) (by omega : v ≠ 0)
  have k1 := Int.emod_lt_of_pos (u2 * 4294967296 + d0) v0
  rw [← h1, ← h2] at m
  rw [← h3] at k
  have e : N * s = (q1 * 4294967296 + q2) * v + (u2 * 4294967296 + d0) % v := by
    have x : (q1 * 4294967296 + q2) * v = v * q1 * 4294967296 + v * q2 := by rw [Int.add_mul, Int.mul_comm q2, Int.mul_comm v q1, Int.mul_assoc, Int.mul_comm 4294967296, ← Int.mul_assoc]
    rw [hN, ← m, x]
    generalize v * q1 = A at *
    generalize v * q2 = C at *
    omega
  have a : N / y = q1 * 4294967296 + q2 := by
    rw [← Int.mul_ediv_mul_of_pos_left N y s0, hv]
    exact div_of v _ _ _ e k0 k1
  refine ⟨a, ?_⟩
  have b := Int.mul_ediv_add_emod N y
  have e3 : (u2 * 4294967296 + d0) % v = N % y * s := by
    have : N * s = (y * (N / y) + N % y) * s := by rw [b]
    rw [this, a, Int.add_mul, Int.mul_assoc, Int.mul_comm (q1 * 4294967296 + q2) s, ← Int.mul_assoc, hv, Int.mul_comm v] at e
    omega
  rw [e3, Int.mul_ediv_cancel _ (by omega)]
/-- .. and a word. -/
theorem word_of (N y : Int) (y0 : 0 < y) (n0 : 0 ≤ N) (h : N < y * 18446744073709551616) : 0 ≤ N / y ∧ N / y < 18446744073709551616 :=
  ⟨Int.ediv_nonneg n0 (Int.le_of_lt y0), Int.ediv_lt_of_lt_mul y0 (by rw [Int.mul_comm]; exact h)⟩
end Go.Proofs.Ytpjnignkblaneaa.NumMath
