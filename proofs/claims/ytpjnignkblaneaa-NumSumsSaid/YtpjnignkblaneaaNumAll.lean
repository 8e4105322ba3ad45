/- What each call of package num answers, for every input of its kinds; and that the chapter's example holds. -/
import Derived.Test.YtpjnignkblaneaaNumDiv
namespace Go.Proofs.Ytpjnignkblaneaa
open Go.RowKit NumMath
set_option linter.unusedVariables false

theorem drew0 (w : World) : w = w.drewN 0 := rfl
theorem div64_any (hi lo y q r : Int) (w : World) (h0 : 0 ≤ hi) (h1 : hi < y) (l0 : 0 ≤ lo) (l1 : lo < 18446744073709551616) (y1 : y < 18446744073709551616) (e1 : q = (hi * 18446744073709551616 + lo) / y) (e2 : r = (hi * 18446744073709551616 + lo) % y) :
    Calls Try.prog 24 #[.int .u64 hi, .int .u64 lo, .int .u64 y] w fun e w' => e = .returned (.tuple #[.int .u64 q, .int .u64 r]) ∧ ∃ n, w' = w.drewN n := by
  subst e1 e2
  by_cases h : hi = 0
  · subst h
    have e : (0 : Int) * 18446744073709551616 + lo = lo := by omega
    rw [e]
    exact div64_small lo y w l0 l1 (by omega) y1
  · obtain ⟨s, s1, hs, t0, t1⟩ := lead y (by omega) y1
    refine (div64_great hi lo y s w (by omega) h1 l0 l1 y1 s1 hs t0 t1).mono ?_
    rintro e w' ⟨rfl, rfl⟩
    exact ⟨rfl, 0, rfl⟩

theorem ret_same {p q : Int × Bool} (h : p = q) : Ending.returned (.tuple #[.int .i64 q.1, .bool q.2]) = .returned (.tuple #[.int .i64 p.1, .bool p.2]) := by rw [h]

theorem muldiv_zero (a b : Int) (w : World) (a0 : -9223372036854775808 ≤ a) (a1 : a ≤ 9223372036854775807) (b0 : -9223372036854775808 ≤ b) (b1 : b ≤ 9223372036854775807) :
    Calls Try.prog 17 #[.int .i64 a, .int .i64 b, .int .i64 0] w fun e w' => e = .returned (.tuple #[.int .i64 (md a b 0).1, .bool (md a b 0).2]) ∧ ∃ n, w' = w.drewN n := by
  have H := Lib.hid (show md a b 0 = (0, false) from rfl)
  obtain ⟨x0, x1⟩ := sz_bd a a0 a1
  obtain ⟨y0, y1⟩ := sz_bd b b0 b1
  have p0 : 0 ≤ sz a * sz b := Int.mul_nonneg x0 y0
  obtain ⟨hi, lo, e1, e2⟩ : ∃ hi lo, hi = sz a * sz b / 18446744073709551616 ∧ lo = sz a * sz b % 18446744073709551616 := ⟨_, _, rfl, rfl⟩
  have h0 : 0 ≤ hi := by omega
  have E1 := Lib.hid e1; have E2 := Lib.hid e2; clear e1 e2 p0
  have z : sz 0 = 0 := rfl
  go_enter Try.func17, Try.ntmps17
  go_wp2_with (first | (go_at_call 19; refine (size_any _ _ (by omega) (by omega)).mono ?_; rintro e w' ⟨rfl, rfl⟩) | (go_at_call 18; refine (mul64_any _ _ hi lo _ (by omega) (by omega) (by omega) (by omega) E1.out E2.out).mono ?_; rintro e w' ⟨rfl, rfl⟩))
  go_ret2
  exact ⟨ret_pair H.out, 0, rfl⟩

set_option maxHeartbeats 1000000 in
theorem muldiv_go (a b c : Int) (w : World) (a0 : -9223372036854775808 ≤ a) (a1 : a ≤ 9223372036854775807) (b0 : -9223372036854775808 ≤ b) (b1 : b ≤ 9223372036854775807) (c0 : -9223372036854775808 ≤ c) (c1 : c ≤ 9223372036854775807) (hc : c ≠ 0) :
    Calls Try.prog 17 #[.int .i64 a, .int .i64 b, .int .i64 c] w fun e w' => e = .returned (.tuple #[.int .i64 (md a b c).1, .bool (md a b c).2]) ∧ ∃ n, w' = w.drewN n := by
  obtain ⟨hi, lo, qh, ql, r, e1, e2, e3, e4, e5, ⟨h0, h1, l0, l1, q0, q1, k0, k1, r0, r1⟩, eN⟩ := words a b c a0 a1 b0 b1 c0 c1 hc
  obtain ⟨x0, x1⟩ := sz_bd a a0 a1
  obtain ⟨y0, y1⟩ := sz_bd b b0 b1
  obtain ⟨z0, z1⟩ := sz_bd c c0 c1
  have z2 := sz_pos c hc
  have F := Lib.hid (md_all a b c _ _ hc eN (by omega) r0 r1)
  have eH : hi * 18446744073709551616 + lo = (qh * 18446744073709551616 + ql) * sz c + r := by rw [← eN]; omega
  have HC := Lib.hid hc; clear hc
  by_cases hd : sz c ≤ hi
  · have big : 18446744073709551616 ≤ qh * 18446744073709551616 + ql := by
      refine Int.not_lt.1 fun h => ?_
      have := Int.mul_le_mul_of_nonneg_right (show qh * 18446744073709551616 + ql ≤ 18446744073709551615 by omega) z0
      generalize (qh * 18446744073709551616 + ql) * sz c = P at *
      omega
    have H : Hid (md a b c = (0, false)) := Lib.hid (by
      have f := F.out
      cases g : neg3 a b c
      · exact (f.1 g).2 (by omega)
      · by_cases hr : 0 < r
        · exact (f.2 g).2.2.2 hr (by omega)
        · exact (f.2 g).2.1 (by omega) (by omega))
    have E1 := Lib.hid e1; have E2 := Lib.hid e2
    clear e1 e2 e3 e4 e5 eN eH
    go_enter Try.func17, Try.ntmps17
    go_wp2_with (first | (go_at_call 19; refine (size_any _ _ (by omega) (by omega)).mono ?_; rintro e w' ⟨rfl, rfl⟩) | (go_at_call 18; refine (mul64_any _ _ hi lo _ (by omega) (by omega) (by omega) (by omega) E1.out E2.out).mono ?_; rintro e w' ⟨rfl, rfl⟩))
    go_ret2
    exact ⟨ret_pair H.out, 0, rfl⟩
  · obtain ⟨q, eq⟩ : ∃ q, q = (hi * 18446744073709551616 + lo) / sz c := ⟨_, rfl⟩
    obtain ⟨w0, w1⟩ := word_of (hi * 18446744073709551616 + lo) (sz c) (by omega) (by omega) (by omega)
    rw [← eq] at w0 w1
    have eQ : qh * 18446744073709551616 + ql = q := by rw [eq]; omega
    rw [eQ] at eN
    have M1 := Lib.hid (md_plus a b c q r HC.out eN r0 r1)
    have M2 := Lib.hid (md_minus a b c q r HC.out eN r0 r1)
    have M3 := Lib.hid (md_less a b c q r HC.out eN r0 r1)
    have E1 := Lib.hid e1; have E2 := Lib.hid e2; have E5 := Lib.hid e5; have EQ := Lib.hid eq
    clear e1 e2 e3 e4 e5 eN eH eQ eq F
    obtain ⟨x, hx⟩ : ∃ x, decide (a < 0) = x := ⟨_, rfl⟩
    obtain ⟨y, hy⟩ : ∃ x, decide (b < 0) = x := ⟨_, rfl⟩
    obtain ⟨z, hz⟩ : ∃ x, decide (c < 0) = x := ⟨_, rfl⟩
    obtain ⟨u, hu⟩ : ∃ u, (x == y) = u := ⟨_, rfl⟩
    cases u <;> cases z
    all_goals
      have G := Lib.hid (show neg3 a b c = _ by simp only [neg3, bne, hx, hy, hz, hu]; rfl)
      by_cases hr : 0 < r
      all_goals
        by_cases hq : q < 18446744073709551615
        all_goals
          go_enter Try.func17, Try.ntmps17
          go_wp2_with (first | (go_at_call 19; refine (size_any _ _ (by omega) (by omega)).mono ?_; rintro e w' ⟨rfl, rfl⟩) | (go_at_call 18; refine (mul64_any _ _ hi lo _ (by omega) (by omega) (by omega) (by omega) E1.out E2.out).mono ?_; rintro e w' ⟨rfl, rfl⟩) | (go_at_call 24; refine (div64_any _ _ _ q r _ (by omega) (by omega) (by omega) (by omega) (by omega) EQ.out E5.out).mono ?_; rintro e w' ⟨rfl, n, rfl⟩) | (go_at_call 20; refine (signed_any _ _ _ (by omega) (by omega)).mono ?_; rintro e w' ⟨rfl, rfl⟩))
          go_ret2
          refine ⟨?_, _, rfl⟩
          first
            | exact ret_same (M1.out G.out)
            | exact ret_same (M2.out G.out (by omega))
            | exact ret_same (M3.out G.out (by omega))
            | exact ret_pair ((M3.out G.out (by omega)).trans (sg_minus_no _ (by omega)))
theorem muldiv_any (a b c : Int) (w : World) (a0 : -9223372036854775808 ≤ a) (a1 : a ≤ 9223372036854775807) (b0 : -9223372036854775808 ≤ b) (b1 : b ≤ 9223372036854775807) (c0 : -9223372036854775808 ≤ c) (c1 : c ≤ 9223372036854775807) :
    Calls Try.prog 17 #[.int .i64 a, .int .i64 b, .int .i64 c] w fun e w' => e = .returned (.tuple #[.int .i64 (md a b c).1, .bool (md a b c).2]) ∧ ∃ n, w' = w.drewN n := by
  by_cases h : c = 0
  · subst h; exact muldiv_zero a b w a0 a1 b0 b1
  · exact muldiv_go a b c w a0 a1 b0 b1 c0 c1 h
end Go.Proofs.Ytpjnignkblaneaa
