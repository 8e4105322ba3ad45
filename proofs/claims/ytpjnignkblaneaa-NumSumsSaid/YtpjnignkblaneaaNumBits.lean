/- What the calls of math/bits that layer 1 makes answer, and num's size and signed: for every input of their kinds (Div64: where the quotient is a word). -/
import Derived.Test.YtpjnignkblaneaaNumRef
import Derived.Lib.Mul64
import Derived.Deep.Light
namespace Go.Proofs.Ytpjnignkblaneaa
open Go.RowKit NumMath
set_option linter.unusedVariables false

theorem ret_pair {n : Int} {t : Bool} {p : Int × Bool} (h : p = (n, t)) : Ending.returned (.tuple #[.int .i64 n, .bool t]) = .returned (.tuple #[.int .i64 p.1, .bool p.2]) := by rw [h]
theorem pair_eq {p : Int × Bool} {n m : Int} {t : Bool} (h : p = (n, t)) (e : n = m) : p = (m, t) := by rw [h, e]
theorem refMulDiv_zero (a b : Int) (w : World) :
    Calls Try.prog 12 #[.int .i64 a, .int .i64 b, .int .i64 0] w fun e w' => e = .returned (.tuple #[.int .i64 (md a b 0).1, .bool (md a b 0).2]) ∧ w = w' := by
  have e : md a b 0 = (0, false) := rfl
  have H := Lib.hid e; clear e
  go_enter Try.func12, Try.ntmps12
  go_wp2
  go_ret2
  exact ⟨ret_ib (by rw [H.out]) (by rw [H.out]), rfl⟩

theorem product_as (a b hi lo : Int) (w : World) (a0 : 0 ≤ a) (a1 : a < 18446744073709551616) (b0 : 0 ≤ b) (b1 : b < 18446744073709551616) (h1 : hi = a * b / 18446744073709551616) (h2 : lo = a * b % 18446744073709551616) :
    Calls Try.prog 21 #[.int .u64 a, .int .u64 b] w fun e w' => e = .returned (.tuple #[.int .u64 hi, .int .u64 lo]) ∧ w = w' := by
  subst h1 h2; exact product_any a b w a0 a1 b0 b1
theorem divide_as (hi lo c qh ql r : Int) (w : World) (h0 : 0 ≤ hi) (h1 : hi < 18446744073709551616) (l0 : 0 ≤ lo) (l1 : lo < 18446744073709551616) (c0 : 1 ≤ c) (c1 : c ≤ 9223372036854775808)
    (e1 : qh = (hi * 18446744073709551616 + lo) / c / 18446744073709551616) (e2 : ql = (hi * 18446744073709551616 + lo) / c % 18446744073709551616) (e3 : r = (hi * 18446744073709551616 + lo) % c) :
    Calls Try.prog 23 #[.int .u64 hi, .int .u64 lo, .int .u64 c] w fun e w' => e = .returned (.tuple #[.int .u64 qh, .int .u64 ql, .int .u64 r]) ∧ w = w' := by
  subst e1 e2 e3; exact divide_any hi lo c w h0 h1 l0 l1 c0 c1

/-- What the walk of MulDiv knows of its words. -/
theorem words (a b c : Int) (a0 : -9223372036854775808 ≤ a) (a1 : a ≤ 9223372036854775807) (b0 : -9223372036854775808 ≤ b) (b1 : b ≤ 9223372036854775807) (c0 : -9223372036854775808 ≤ c) (c1 : c ≤ 9223372036854775807) (hc : c ≠ 0) :
    ∃ hi lo qh ql r : Int, hi = sz a * sz b / 18446744073709551616 ∧ lo = sz a * sz b % 18446744073709551616 ∧ qh = (hi * 18446744073709551616 + lo) / sz c / 18446744073709551616 ∧ ql = (hi * 18446744073709551616 + lo) / sz c % 18446744073709551616 ∧ r = (hi * 18446744073709551616 + lo) % sz c ∧
      (0 ≤ hi ∧ hi < 18446744073709551616 ∧ 0 ≤ lo ∧ lo < 18446744073709551616 ∧ 0 ≤ qh ∧ qh < 18446744073709551615 ∧ 0 ≤ ql ∧ ql < 18446744073709551616 ∧ 0 ≤ r ∧ r < sz c) ∧
      sz a * sz b = (qh * 18446744073709551616 + ql) * sz c + r := by
  refine ⟨_, _, _, _, _, rfl, rfl, rfl, rfl, rfl, ?_⟩
  obtain ⟨x0, x1⟩ := sz_bd a a0 a1
  obtain ⟨y0, y1⟩ := sz_bd b b0 b1
  have z0 := sz_pos c hc
  have p0 : 0 ≤ sz a * sz b := Int.mul_nonneg x0 y0
  have p1 : sz a * sz b ≤ 9223372036854775808 * 9223372036854775808 := Int.mul_le_mul x1 y1 y0 (by decide)
  have e : sz a * sz b / 18446744073709551616 * 18446744073709551616 + sz a * sz b % 18446744073709551616 = sz a * sz b := by omega
  rw [e]
  generalize sz a * sz b = N at *
  generalize sz c = C at *
  have d0 : 0 ≤ N / C := Int.ediv_nonneg p0 (by omega)
  have d1 : N / C ≤ N := Int.ediv_le_self _ p0
  have m0 := Int.emod_nonneg N (by omega : C ≠ 0)
  have m1 := Int.emod_lt_of_pos N (by omega : 0 < C)
  have dm := Int.mul_ediv_add_emod N C
  have e2 : (N / C / 18446744073709551616 * 18446744073709551616 + N / C % 18446744073709551616) = N / C := by omega
  refine ⟨⟨by omega, by omega, by omega, by omega, by omega, by omega, by omega, by omega, m0, m1⟩, ?_⟩
  rw [e2, Int.mul_comm]; omega
set_option maxHeartbeats 800000 in
theorem refMulDiv_go (a b c : Int) (w : World) (a0 : -9223372036854775808 ≤ a) (a1 : a ≤ 9223372036854775807) (b0 : -9223372036854775808 ≤ b) (b1 : b ≤ 9223372036854775807) (c0 : -9223372036854775808 ≤ c) (c1 : c ≤ 9223372036854775807) (hc : (c == 0) = false) :
    Calls Try.prog 12 #[.int .i64 a, .int .i64 b, .int .i64 c] w fun e w' => e = .returned (.tuple #[.int .i64 (md a b c).1, .bool (md a b c).2]) ∧ w = w' := by
  have hc' : c ≠ 0 := by simpa using hc
  obtain ⟨hi, lo, qh, ql, r, e1, e2, e3, e4, e5, ⟨h0, h1, l0, l1, q0, q1, k0, k1, r0, r1⟩, eN⟩ := words a b c a0 a1 b0 b1 c0 c1 hc'
  obtain ⟨x0, x1⟩ := sz_bd a a0 a1
  obtain ⟨y0, y1⟩ := sz_bd b b0 b1
  obtain ⟨z0, z1⟩ := sz_bd c c0 c1
  have z2 := sz_pos c hc'
  have E1 := Lib.hid e1; have E2 := Lib.hid e2; have E3 := Lib.hid e3; have E4 := Lib.hid e4; have E5 := Lib.hid e5; have EN := Lib.hid eN; have HC := Lib.hid hc'
  clear e1 e2 e3 e4 e5 eN hc'
  have F := Lib.hid (md_all a b c _ _ HC.out EN.out (by omega) r0 r1)
  obtain ⟨x, hx⟩ : ∃ x, decide (a < 0) = x := ⟨_, rfl⟩
  obtain ⟨y, hy⟩ : ∃ x, decide (b < 0) = x := ⟨_, rfl⟩
  obtain ⟨z, hz⟩ : ∃ x, decide (c < 0) = x := ⟨_, rfl⟩
  obtain ⟨u, hu⟩ : ∃ u, (x == y) = u := ⟨_, rfl⟩
  cases u <;> cases z

  all_goals
    have G := Lib.hid (show neg3 a b c = _ by simp only [neg3, bne, hx, hy, hz, hu]; rfl)
    go_enter Try.func12, Try.ntmps12
    go_wp2_with (first | (go_at_call 22; refine (refsize_any _ _ (by omega) (by omega)).mono ?_; rintro e w' ⟨rfl, rfl⟩) | (go_at_call 21; refine (product_as _ _ hi lo _ (by omega) (by omega) (by omega) (by omega) E1.out E2.out).mono ?_; rintro e w' ⟨rfl, rfl⟩) | (go_at_call 23; refine (divide_as _ _ _ qh ql r _ (by omega) (by omega) (by omega) (by omega) (by omega) (by omega) E3.out E4.out E5.out).mono ?_; rintro e w' ⟨rfl, rfl⟩))
    all_goals
      go_ret2
      refine ⟨ret_pair ?_, rfl⟩
      have f := F.out
      have g := G.out
      clear EN E1 E2 E3 E4 E5 F G HC
      go_light
      simp only [wrapu, wrap64, beq_iff_eq, beq_eq_false_iff_ne, ne_eq] at *
      first
        | exact pair_eq ((f.1 g).1 (by omega)) (by omega)
        | exact pair_eq ((f.1 g).2 (by omega)) (by omega)
        | exact pair_eq ((f.2 g).1 (by omega) (by omega)) (by omega)
        | exact pair_eq ((f.2 g).2.1 (by omega) (by omega)) (by omega)
        | exact pair_eq ((f.2 g).2.2.1 (by omega) (by omega)) (by omega)
        | exact pair_eq ((f.2 g).2.2.2 (by omega) (by omega)) (by omega)
theorem refMulDiv_any (a b c : Int) (w : World) (a0 : -9223372036854775808 ≤ a) (a1 : a ≤ 9223372036854775807) (b0 : -9223372036854775808 ≤ b) (b1 : b ≤ 9223372036854775807) (c0 : -9223372036854775808 ≤ c) (c1 : c ≤ 9223372036854775807) :
    Calls Try.prog 12 #[.int .i64 a, .int .i64 b, .int .i64 c] w fun e w' => e = .returned (.tuple #[.int .i64 (md a b c).1, .bool (md a b c).2]) ∧ w = w' := by
  by_cases h : c = 0
  · subst h; exact refMulDiv_zero a b w
  · exact refMulDiv_go a b c w a0 a1 b0 b1 c0 c1 (by simpa using h)
end Go.Proofs.Ytpjnignkblaneaa
