/- What math/bits.Div64 answers where the quotient is a word (hi below y): the true quotient and what is left. -/
import Derived.Test.YtpjnignkblaneaaNumCode
import Derived.Test.YtpjnignkblaneaaNumGuess
import Derived.Deep.QuietTactic
import Derived.BigQuiet
namespace Go.Proofs.Ytpjnignkblaneaa
open Go.RowKit NumMath
set_option linter.unusedVariables false

theorem len64_any (x : Int) (w : World) (x0 : 1 ≤ x) (x1 : x < 18446744073709551616) :
    Calls Try.prog 26 #[.int .u64 x] w fun e w' => e = .returned (.int .i64 (Lib.bitLen x.toNat)) ∧ w = w' := by
  by_cases h1 : x < 256
  · exact len64_0 x w x0 h1
  by_cases h2 : x < 65536
  · exact len64_8 x w (by omega) h2
  by_cases h3 : x < 16777216
  · exact len64_16 x w (by omega) h3
  by_cases h4 : x < 4294967296
  · exact len64_24 x w (by omega) h4
  by_cases h5 : x < 1099511627776
  · exact len64_32 x w (by omega) h5
  by_cases h6 : x < 281474976710656
  · exact len64_40 x w (by omega) h6
  by_cases h7 : x < 72057594037927936
  · exact len64_48 x w (by omega) h7
  exact len64_56 x w (by omega) x1
theorem lead64_any (x : Int) (s : Nat) (w : World) (x0 : 1 ≤ x) (x1 : x < 18446744073709551616) (hs : s ≤ 63) (h : ((Lib.bitLen x.toNat : Nat) : Int) = 64 - s) :
    Calls Try.prog 25 #[.int .u64 x] w fun e w' => e = .returned (.int .i64 s) ∧ w = w' := by
  have c := len64_any x w x0 x1
  rw [h] at c
  have C := Lib.hid c; clear c
  have H := Lib.hid h; clear h
  go_enter Try.func25, Try.ntmps25
  go_wp2_with (go_at_call 26; refine C.out.mono ?_; rintro e w' ⟨rfl, rfl⟩)
  go_ret
  exact ⟨ret_int (by omega), rfl⟩

/-- One word by one word. -/
theorem div64_small (lo y : Int) (w : World) (l0 : 0 ≤ lo) (l1 : lo < 18446744073709551616) (y0 : 1 ≤ y) (y1 : y < 18446744073709551616) :
    Calls Try.prog 24 #[.int .u64 0, .int .u64 lo, .int .u64 y] w fun e w' => e = .returned (.tuple #[.int .u64 (lo / y), .int .u64 (lo % y)]) ∧ ∃ n, w' = w.drewN n := by
  have z : (y == 0) = false := by simp; omega
  go_enter Try.func24, Try.ntmps24
  go_wp2
  go_quiet (fail)
  go_wp2
  go_ret2
  exact ⟨rfl, _, rfl⟩

def GsRel (u v1 v0 d : Int) (a b : Value) : Prop := ∃ q r : Int, a = .int .u64 q ∧ b = .int .u64 r ∧ Gs u v1 v0 d q r
theorem gs_prod (u v1 v0 d q r : Int) (b0 : 0 ≤ v0) (b1 : v0 < 4294967296) (h : Gs u v1 v0 d q r) : 0 ≤ q * v0 ∧ (q < 4294967296 → q * v0 < 18446744073709551616) := by
  obtain ⟨e, r0, r1, q0, q1, l⟩ := h
  refine ⟨Int.mul_nonneg q0 b0, fun h => ?_⟩
  have := Int.mul_le_mul_of_nonneg_right (show q ≤ 4294967295 by omega) b0
  omega
theorem gs_first (u v1 v0 d : Int) (a0 : 2147483648 ≤ v1) (a1 : v1 < 4294967296) (b0 : 0 ≤ v0) (b1 : v0 < 4294967296) (d0 : 0 ≤ d) (d1 : d < 4294967296) (u0 : 0 ≤ u) (u1 : u < v1 * 4294967296 + v0) :
    0 ≤ u / v1 ∧ Gs u v1 v0 d (u / v1) (IntKind.u64.wrap (u - IntKind.u64.wrap (u / v1 * v1))) := by
  have h := gs_start u v1 v0 d a0 a1 b0 b1 d0 d1 u0 u1
  obtain ⟨e, r0, r1, q0, q1, l⟩ := h
  refine ⟨q0, ?_⟩
  rw [wrapu, wrapu, show (u - u / v1 * v1 % 18446744073709551616) % 18446744073709551616 = u - u / v1 * v1 from by omega]
  exact ⟨e, r0, r1, q0, q1, l⟩

/-- Behind the first digit: the word that the second one is made of. -/
theorem second (u v v1 v0 d q : Int) (a0 : 2147483648 ≤ v1) (a1 : v1 < 4294967296) (b0 : 0 ≤ v0) (b1 : v0 < 4294967296) (c0 : 0 ≤ d) (c1 : d < 4294967296) (u0 : 0 ≤ u) (u1 : u < v1 * 4294967296 + v0) (hv : v = v1 * 4294967296 + v0) (h : q = (u * 4294967296 + d) / (v1 * 4294967296 + v0)) :
    ∃ x : Int, IntKind.u64.wrap (IntKind.u64.wrap (IntKind.u64.wrap (u * 4294967296) + d) - IntKind.u64.wrap (q * v)) = x ∧ 0 ≤ x ∧ x < v1 * 4294967296 + v0 ∧ 0 ≤ q ∧ q < 4294967296 ∧ x = (u * 4294967296 + d) % v := by
  refine ⟨_, rfl, ?_⟩
  rw [← hv] at h u1 ⊢
  have e := left_of u d v q (by omega) (by omega) h
  simp only [wrapu]
  rw [e]
  refine ⟨Int.emod_nonneg _ (by omega), Int.emod_lt_of_pos _ (by omega), ?_, ?_, rfl⟩
  · rw [h]; exact Int.ediv_nonneg (by omega) (by omega)
  · rw [h]; exact Int.ediv_lt_of_lt_mul (by omega) (by rw [Int.mul_comm]; omega)
/-- Behind the second one: the whole quotient, and what is left. -/
theorem third (N y u d1 d0 v v1 v0 q q2 x : Int) (s : Nat) (y0 : 0 < y) (n0 : 0 ≤ N) (n1 : N < y * 18446744073709551616) (a0 : 2147483648 ≤ v1) (a1 : v1 < 4294967296) (b0 : 0 ≤ v0) (b1 : v0 < 4294967296) (hv : v = v1 * 4294967296 + v0) (ev : y * 2 ^ s = v) (hN : N * 2 ^ s = (u * 4294967296 + d1) * 4294967296 + d0)
    (h1 : q = (u * 4294967296 + d1) / (v1 * 4294967296 + v0)) (h2 : x = (u * 4294967296 + d1) % v) (h3 : q2 = (x * 4294967296 + d0) / (v1 * 4294967296 + v0)) :
    0 ≤ N / y ∧ N / y < 18446744073709551616 ∧ N / y = q * 4294967296 + q2 ∧ IntKind.u64.wrap (IntKind.u64.wrap (IntKind.u64.wrap (x * 4294967296) + d0) - IntKind.u64.wrap (q2 * v)) / 2 ^ s = N % y := by
  rw [← hv] at h1 h3
  obtain ⟨w0, w1⟩ := word_of N y y0 n0 n1
  obtain ⟨f1, f2⟩ := whole N y (2 ^ s) u d1 d0 v q q2 x y0 (Int.pow_pos (by decide)) ev hN h1 h2 h3
  have e := left_of x d0 v q2 (by omega) (by omega) h3
  refine ⟨w0, w1, f1, ?_⟩
  simp only [wrapu]
  rw [e, f2]

set_option maxHeartbeats 4000000 in
set_option maxRecDepth 100000 in
theorem div64_great (hi lo y : Int) (s : Nat) (w : World) (h0 : 1 ≤ hi) (h1 : hi < y) (l0 : 0 ≤ lo) (l1 : lo < 18446744073709551616) (y1 : y < 18446744073709551616)
    (s1 : s ≤ 63) (hs : ((Lib.bitLen y.toNat : Nat) : Int) = 64 - s) (t0 : 9223372036854775808 ≤ y * 2 ^ s) (t1 : y * 2 ^ s < 18446744073709551616) :
    Calls Try.prog 24 #[.int .u64 hi, .int .u64 lo, .int .u64 y] w fun e w' => e = .returned (.tuple #[.int .u64 ((hi * 18446744073709551616 + lo) / y), .int .u64 ((hi * 18446744073709551616 + lo) % y)]) ∧ w = w' := by
  have z : (y == 0) = false := by simp; omega
  have z2 : (hi == 0) = false := by simp; omega
  have HS := Lib.hid hs; clear hs
  obtain ⟨v, v1, v0, u, t, d1, d0, ev, ev1, ev0, eu, et, ed1, ed0, ⟨a0, a1, b0, b1, c0, c1, e0, e1, u0, u1⟩, eV, eN⟩ := prep hi lo y s (by omega) h1 l0 l1 s1 t0 t1
  have EV := Lib.hid eV; have EN := Lib.hid eN; clear eV eN
  have EV2 := Lib.hid ev
  rw [ev] at t0 t1
  have N0 : 0 ≤ hi * 18446744073709551616 + lo := by omega
  have N1 : hi * 18446744073709551616 + lo < y * 18446744073709551616 := by omega
  generalize hi * 18446744073709551616 + lo = N at *
  obtain ⟨q0, g0⟩ := gs_first u v1 v0 d1 a0 a1 b0 b1 c0 c1 u0 u1
  go_enter Try.func24, Try.ntmps24
  go_wp2_with (go_at_call 25; refine (lead64_any y s _ (by omega) (by omega) s1 HS.out).mono ?_; rintro e w' ⟨rfl, rfl⟩)
  go_loop [15, 16] (fun a b => GsRel u v1 v0 d1 a b) (fun a _ => (intOf a).toNat)
  case atStart => exact ⟨_, _, rfl, rfl, g0⟩
  case round =>
    clear g0 q0
    obtain ⟨q, r, rfl, rfl, g⟩ := hrel
    obtain ⟨p0, p1⟩ := gs_prod u v1 v0 d1 q r b0 b1 g
    obtain ⟨r0, r1, q0, q1⟩ : 0 ≤ r ∧ r < 4294967296 ∧ 0 ≤ q ∧ q ≤ 4294967297 := ⟨g.2.1, g.2.2.1, g.2.2.2.1, g.2.2.2.2.1⟩
    by_cases ht : 4294967296 ≤ q ∨ r * 4294967296 + d1 < q * v0
    · obtain ⟨l0, l1⟩ := gs_less u v1 v0 d1 a0 a1 b0 b1 c0 c1 u0 u1 q r g ht
      by_cases hb : 4294967296 ≤ r + v1
      · have x2 := gs_break u v1 v0 d1 a0 a1 b0 b1 c0 c1 u0 u1 q r g l0 l1 hb
        obtain ⟨q', hq'⟩ : ∃ q', q - 1 = q' := ⟨_, rfl⟩
        rw [hq'] at x2
        have X2 := Lib.hid x2; clear x2 g
        by_cases hq : 4294967296 ≤ q
        · clear p1 ht
          obtain ⟨x, ex, x0, x1, y2, y3, x2⟩ := second u v v1 v0 d1 q' a0 a1 b0 b1 c0 c1 u0 u1 EV.out X2.out
          have X3 := Lib.hid x2; clear x2
          obtain ⟨m0, g0⟩ := gs_first x v1 v0 d0 a0 a1 b0 b1 e0 e1 x0 x1
          go_wp2
          go_loop [18, 16] (fun a b => GsRel x v1 v0 d0 a b) (fun a _ => (intOf a).toNat)
          case atStart => exact ⟨_, _, rfl, rfl, g0⟩
          case round =>
            clear g0 m0
            obtain ⟨k, j, rfl, rfl, g⟩ := hrel
            obtain ⟨p0, p1⟩ := gs_prod x v1 v0 d0 k j b0 b1 g
            obtain ⟨r0, r1, q0, q1⟩ : 0 ≤ j ∧ j < 4294967296 ∧ 0 ≤ k ∧ k ≤ 4294967297 := ⟨g.2.1, g.2.2.1, g.2.2.2.1, g.2.2.2.2.1⟩
            by_cases ht : 4294967296 ≤ k ∨ j * 4294967296 + d0 < k * v0
            · obtain ⟨l0, l1⟩ := gs_less x v1 v0 d0 a0 a1 b0 b1 e0 e1 x0 x1 k j g ht
              by_cases hb : 4294967296 ≤ j + v1
              · have x3 := gs_break x v1 v0 d0 a0 a1 b0 b1 e0 e1 x0 x1 k j g l0 l1 hb
                obtain ⟨k', hk'⟩ : ∃ k', k - 1 = k' := ⟨_, rfl⟩
                have T := Lib.hid (third N y u d1 d0 v v1 v0 q' k' x s (by omega) N0 N1 a0 a1 b0 b1 EV.out EV2.out EN.out X2.out X3.out (by rw [← hk']; exact x3))
                clear x3 g
                by_cases hq : 4294967296 ≤ k
                · clear p1 ht
                  go_wp2
                  go_ret2
                  obtain ⟨f0, f1, f2, f3⟩ := T.out
                  exact ⟨ret_ii (by (try simp only [wrapu]); omega) f3, rfl⟩
                · have p2 := p1 (by omega)
                  have l2 : 4294967296 * j + d0 < k * v0 := by omega
                  clear p1 ht
                  go_wp2
                  go_ret2
                  obtain ⟨f0, f1, f2, f3⟩ := T.out
                  exact ⟨ret_ii (by (try simp only [wrapu]); omega) f3, rfl⟩
              · have g2 := gs_more x v1 v0 d0 a0 a1 b0 b1 e0 e1 x0 x1 k j g l0 l1 (by omega)
                clear g
                by_cases hq : 4294967296 ≤ k
                · clear p1 ht
                  go_wp2
                  go_round
                  case rel => exact ⟨_, _, rfl, rfl, g2⟩
                  case measure => simp [intOf]; omega
                · have p2 := p1 (by omega)
                  have l2 : 4294967296 * j + d0 < k * v0 := by omega
                  clear p1 ht
                  go_wp2
                  go_round
                  case rel => exact ⟨_, _, rfl, rfl, g2⟩
                  case measure => simp [intOf]; omega
            · have z0 : k < 4294967296 := by omega
              have z1 : k * v0 ≤ 4294967296 * j + d0 := by omega
              have p2 := p1 z0
              have x3 := gs_end x v1 v0 d0 a0 a1 b0 b1 e0 e1 x0 x1 k j g (by omega)
              have T := Lib.hid (third N y u d1 d0 v v1 v0 q' k x s (by omega) N0 N1 a0 a1 b0 b1 EV.out EV2.out EN.out X2.out X3.out x3)
              clear x3 g p1 ht
              go_wp2
              go_ret2
              obtain ⟨f0, f1, f2, f3⟩ := T.out
              exact ⟨ret_ii (by (try simp only [wrapu]); omega) f3, rfl⟩
        · have p2 := p1 (by omega)
          have l2 : 4294967296 * r + d1 < q * v0 := by omega
          clear p1 ht
          obtain ⟨x, ex, x0, x1, y2, y3, x2⟩ := second u v v1 v0 d1 q' a0 a1 b0 b1 c0 c1 u0 u1 EV.out X2.out
          have X3 := Lib.hid x2; clear x2
          obtain ⟨m0, g0⟩ := gs_first x v1 v0 d0 a0 a1 b0 b1 e0 e1 x0 x1
          go_wp2
          go_loop [18, 16] (fun a b => GsRel x v1 v0 d0 a b) (fun a _ => (intOf a).toNat)
          case atStart => exact ⟨_, _, rfl, rfl, g0⟩
          case round =>
            clear g0 m0
            obtain ⟨k, j, rfl, rfl, g⟩ := hrel
            obtain ⟨p0, p1⟩ := gs_prod x v1 v0 d0 k j b0 b1 g
            obtain ⟨r0, r1, q0, q1⟩ : 0 ≤ j ∧ j < 4294967296 ∧ 0 ≤ k ∧ k ≤ 4294967297 := ⟨g.2.1, g.2.2.1, g.2.2.2.1, g.2.2.2.2.1⟩
            by_cases ht : 4294967296 ≤ k ∨ j * 4294967296 + d0 < k * v0
            · obtain ⟨l0, l1⟩ := gs_less x v1 v0 d0 a0 a1 b0 b1 e0 e1 x0 x1 k j g ht
              by_cases hb : 4294967296 ≤ j + v1
              · have x3 := gs_break x v1 v0 d0 a0 a1 b0 b1 e0 e1 x0 x1 k j g l0 l1 hb
                obtain ⟨k', hk'⟩ : ∃ k', k - 1 = k' := ⟨_, rfl⟩
                have T := Lib.hid (third N y u d1 d0 v v1 v0 q' k' x s (by omega) N0 N1 a0 a1 b0 b1 EV.out EV2.out EN.out X2.out X3.out (by rw [← hk']; exact x3))
                clear x3 g
                by_cases hq : 4294967296 ≤ k
                · clear p1 ht
                  go_wp2
                  go_ret2
                  obtain ⟨f0, f1, f2, f3⟩ := T.out
                  exact ⟨ret_ii (by (try simp only [wrapu]); omega) f3, rfl⟩
                · have p2 := p1 (by omega)
                  have l2 : 4294967296 * j + d0 < k * v0 := by omega
                  clear p1 ht
                  go_wp2
                  go_ret2
                  obtain ⟨f0, f1, f2, f3⟩ := T.out
                  exact ⟨ret_ii (by (try simp only [wrapu]); omega) f3, rfl⟩
              · have g2 := gs_more x v1 v0 d0 a0 a1 b0 b1 e0 e1 x0 x1 k j g l0 l1 (by omega)
                clear g
                by_cases hq : 4294967296 ≤ k
                · clear p1 ht
                  go_wp2
                  go_round
                  case rel => exact ⟨_, _, rfl, rfl, g2⟩
                  case measure => simp [intOf]; omega
                · have p2 := p1 (by omega)
                  have l2 : 4294967296 * j + d0 < k * v0 := by omega
                  clear p1 ht
                  go_wp2
                  go_round
                  case rel => exact ⟨_, _, rfl, rfl, g2⟩
                  case measure => simp [intOf]; omega
            · have z0 : k < 4294967296 := by omega
              have z1 : k * v0 ≤ 4294967296 * j + d0 := by omega
              have p2 := p1 z0
              have x3 := gs_end x v1 v0 d0 a0 a1 b0 b1 e0 e1 x0 x1 k j g (by omega)
              have T := Lib.hid (third N y u d1 d0 v v1 v0 q' k x s (by omega) N0 N1 a0 a1 b0 b1 EV.out EV2.out EN.out X2.out X3.out x3)
              clear x3 g p1 ht
              go_wp2
              go_ret2
              obtain ⟨f0, f1, f2, f3⟩ := T.out
              exact ⟨ret_ii (by (try simp only [wrapu]); omega) f3, rfl⟩
      · have g2 := gs_more u v1 v0 d1 a0 a1 b0 b1 c0 c1 u0 u1 q r g l0 l1 (by omega)
        clear g
        by_cases hq : 4294967296 ≤ q
        · clear p1 ht
          go_wp2
          go_round
          case rel => exact ⟨_, _, rfl, rfl, g2⟩
          case measure => simp [intOf]; omega
        · have p2 := p1 (by omega)
          have l2 : 4294967296 * r + d1 < q * v0 := by omega
          clear p1 ht
          go_wp2
          go_round
          case rel => exact ⟨_, _, rfl, rfl, g2⟩
          case measure => simp [intOf]; omega
    · have z0 : q < 4294967296 := by omega
      have z1 : q * v0 ≤ 4294967296 * r + d1 := by omega
      have p2 := p1 z0
      have x2 := gs_end u v1 v0 d1 a0 a1 b0 b1 c0 c1 u0 u1 q r g (by omega)
      have X2 := Lib.hid x2; clear x2 g p1 ht
      obtain ⟨x, ex, x0, x1, y2, y3, x2⟩ := second u v v1 v0 d1 q a0 a1 b0 b1 c0 c1 u0 u1 EV.out X2.out
      have X3 := Lib.hid x2; clear x2
      obtain ⟨m0, g0⟩ := gs_first x v1 v0 d0 a0 a1 b0 b1 e0 e1 x0 x1
      go_wp2
      go_loop [18, 16] (fun a b => GsRel x v1 v0 d0 a b) (fun a _ => (intOf a).toNat)
      case atStart => exact ⟨_, _, rfl, rfl, g0⟩
      case round =>
        clear g0 m0
        obtain ⟨k, j, rfl, rfl, g⟩ := hrel
        obtain ⟨p0, p1⟩ := gs_prod x v1 v0 d0 k j b0 b1 g
        obtain ⟨r0, r1, q0, q1⟩ : 0 ≤ j ∧ j < 4294967296 ∧ 0 ≤ k ∧ k ≤ 4294967297 := ⟨g.2.1, g.2.2.1, g.2.2.2.1, g.2.2.2.2.1⟩
        by_cases ht : 4294967296 ≤ k ∨ j * 4294967296 + d0 < k * v0
        · obtain ⟨l0, l1⟩ := gs_less x v1 v0 d0 a0 a1 b0 b1 e0 e1 x0 x1 k j g ht
          by_cases hb : 4294967296 ≤ j + v1
          · have x3 := gs_break x v1 v0 d0 a0 a1 b0 b1 e0 e1 x0 x1 k j g l0 l1 hb
            obtain ⟨k', hk'⟩ : ∃ k', k - 1 = k' := ⟨_, rfl⟩
            have T := Lib.hid (third N y u d1 d0 v v1 v0 q k' x s (by omega) N0 N1 a0 a1 b0 b1 EV.out EV2.out EN.out X2.out X3.out (by rw [← hk']; exact x3))
            clear x3 g
            by_cases hq : 4294967296 ≤ k
            · clear p1 ht
              go_wp2
              go_ret2
              obtain ⟨f0, f1, f2, f3⟩ := T.out
              exact ⟨ret_ii (by (try simp only [wrapu]); omega) f3, rfl⟩
            · have p2 := p1 (by omega)
              have l2 : 4294967296 * j + d0 < k * v0 := by omega
              clear p1 ht
              go_wp2
              go_ret2
              obtain ⟨f0, f1, f2, f3⟩ := T.out
              exact ⟨ret_ii (by (try simp only [wrapu]); omega) f3, rfl⟩
          · have g2 := gs_more x v1 v0 d0 a0 a1 b0 b1 e0 e1 x0 x1 k j g l0 l1 (by omega)
            clear g
            by_cases hq : 4294967296 ≤ k
            · clear p1 ht
              go_wp2
              go_round
              case rel => exact ⟨_, _, rfl, rfl, g2⟩
              case measure => simp [intOf]; omega
            · have p2 := p1 (by omega)
              have l2 : 4294967296 * j + d0 < k * v0 := by omega
              clear p1 ht
              go_wp2
              go_round
              case rel => exact ⟨_, _, rfl, rfl, g2⟩
              case measure => simp [intOf]; omega
        · have z0 : k < 4294967296 := by omega
          have z1 : k * v0 ≤ 4294967296 * j + d0 := by omega
          have p2 := p1 z0
          have x3 := gs_end x v1 v0 d0 a0 a1 b0 b1 e0 e1 x0 x1 k j g (by omega)
          have T := Lib.hid (third N y u d1 d0 v v1 v0 q k x s (by omega) N0 N1 a0 a1 b0 b1 EV.out EV2.out EN.out X2.out X3.out x3)
          clear x3 g p1 ht
          go_wp2
          go_ret2
          obtain ⟨f0, f1, f2, f3⟩ := T.out
          exact ⟨ret_ii (by (try simp only [wrapu]); omega) f3, rfl⟩
end Go.Proofs.Ytpjnignkblaneaa
