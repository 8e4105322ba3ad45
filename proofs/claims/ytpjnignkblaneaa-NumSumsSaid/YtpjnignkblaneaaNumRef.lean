/- What each call of the document's own numbers (sizes, products, quotients) answers, for every input of its kind; no condition. -/
import Derived.Test.YtpjnignkblaneaaProg
import Derived.Test.YtpjnignkblaneaaNumMath
import Derived.WalkKit
import Derived.WalkSpells
import Derived.WalkLawsBesides
import Derived.Lib.Hide
import Derived.Outline
namespace Go.Proofs.Ytpjnignkblaneaa
open Go.RowKit NumMath
set_option linter.unusedVariables false

theorem ret_int {k : IntKind} {a b : Int} (h : a = b) : Ending.returned (.int k a) = .returned (.int k b) := by rw [h]
theorem ret_ii {k l : IntKind} {a b c d : Int} (h : a = b) (g : c = d) : Ending.returned (.tuple #[.int k a, .int l c]) = .returned (.tuple #[.int k b, .int l d]) := by rw [h, g]
theorem ret_ib {k : IntKind} {a b : Int} {c d : Bool} (h : a = b) (g : c = d) : Ending.returned (.tuple #[.int k a, .bool c]) = .returned (.tuple #[.int k b, .bool d]) := by rw [h, g]
theorem ret_iii {k l m : IntKind} {a b c d x y : Int} (h : a = b) (g : c = d) (f : x = y) : Ending.returned (.tuple #[.int k a, .int l c, .int m x]) = .returned (.tuple #[.int k b, .int l d, .int m y]) := by rw [h, g, f]

theorem refsize_any (n : Int) (w : World) (h0 : -9223372036854775808 ≤ n) (h1 : n ≤ 9223372036854775807) :
    Calls Try.prog 22 #[.int .i64 n] w fun e w' => e = .returned (.int .u64 (sz n)) ∧ w = w' := by
  by_cases h : n < 0
  · have e : sz n = -n := by simp [sz, h]
    have H := Lib.hid e; clear e
    go_enter Try.func22, Try.ntmps22
    go_wp2
    go_ret
    exact ⟨ret_int (by rw [H.out]; simp only [wrapu]; omega), rfl⟩
  · have e : sz n = n := by simp [sz, h]
    have H := Lib.hid e; clear e
    go_enter Try.func22, Try.ntmps22
    go_wp2
    go_ret
    exact ⟨ret_int H.out.symm, rfl⟩

def ProdRel (a b : Int) (h l i : Value) : Prop := ∃ k : Nat, ∃ hi lo : Int, k ≤ 64 ∧ i = .int .i64 ((k : Int) - 1) ∧ h = .int .u64 hi ∧ l = .int .u64 lo ∧ Prod a b k hi lo
set_option maxHeartbeats 400000 in
theorem product_any (a b : Int) (w : World) (a0 : 0 ≤ a) (a1 : a < 18446744073709551616) (b0 : 0 ≤ b) (b1 : b < 18446744073709551616) :
    Calls Try.prog 21 #[.int .u64 a, .int .u64 b] w fun e w' => e = .returned (.tuple #[.int .u64 (a * b / 18446744073709551616), .int .u64 (a * b % 18446744073709551616)]) ∧ w = w' := by
  have st := prod_start a b b0 b1
  go_enter Try.func21, Try.ntmps21
  go_wp2
  go_loop [6, 7, 8] (fun h l i => ProdRel a b h l i) (fun _ _ i => (intOf i + 1).toNat)
  case atStart => exact ⟨64, 0, 0, by omega, by go_num, rfl, rfl, st⟩
  case round =>
    obtain ⟨k, hi, lo, hk, rfl, rfl, rfl, hp⟩ := hrel
    have h0 := hp.1; have h1 := hp.2.1; have l0 := hp.2.2.1; have l1 := hp.2.2.2.1
    by_cases hlt : 1 ≤ k
    · obtain ⟨k, rfl⟩ : ∃ j, k = j + 1 := ⟨k - 1, by omega⟩
      go_wp2
      · go_round
        case rel => exact ⟨k, _, _, by omega, by go_num, rfl, rfl, (prod_one a b hi lo k a0 a1 b0 b1 hp ‹_›).1 ‹_›⟩
        case measure => simp [intOf]
      · go_round
        case rel => exact ⟨k, _, _, by omega, by go_num, rfl, rfl, (prod_one a b hi lo k a0 a1 b0 b1 hp ‹_›).2 ‹_›⟩
        case measure => simp [intOf]
      · go_round
        case rel => exact ⟨k, _, _, by omega, by go_num, rfl, rfl, prod_zero a b hi lo k a0 a1 b0 b1 hp ‹_›⟩
        case measure => simp [intOf]
    · obtain rfl : k = 0 := by omega
      obtain ⟨e1, e2⟩ := prod_end a b hi lo hp
      have E1 := Lib.hid e1; have E2 := Lib.hid e2; clear e1 e2
      go_wp2
      go_ret2
      exact ⟨ret_ii E1.out E2.out, rfl⟩

def QuotRel (n c : Int) (h l qh ql r i : Value) : Prop := ∃ k : Nat, ∃ hi lo a b s : Int, k ≤ 128 ∧ i = .int .i64 (k : Int) ∧ h = .int .u64 hi ∧ l = .int .u64 lo ∧ qh = .int .u64 a ∧ ql = .int .u64 b ∧ r = .int .u64 s ∧ Quot n c k hi lo a b s
set_option maxRecDepth 100000 in
set_option maxHeartbeats 400000 in
theorem divide_any (hi lo c : Int) (w : World) (h0 : 0 ≤ hi) (h1 : hi < 18446744073709551616) (l0 : 0 ≤ lo) (l1 : lo < 18446744073709551616) (c0 : 1 ≤ c) (c1 : c ≤ 9223372036854775808) :
    Calls Try.prog 23 #[.int .u64 hi, .int .u64 lo, .int .u64 c] w fun e w' => e = .returned (.tuple #[.int .u64 ((hi * 18446744073709551616 + lo) / c / 18446744073709551616), .int .u64 ((hi * 18446744073709551616 + lo) / c % 18446744073709551616), .int .u64 ((hi * 18446744073709551616 + lo) % c)]) ∧ w = w' := by
  have st := quot_start (hi * 18446744073709551616 + lo) c hi lo c0 h0 h1 l0 l1 rfl
  have n0 : 0 ≤ hi * 18446744073709551616 + lo := by omega
  have n1 : hi * 18446744073709551616 + lo < 340282366920938463463374607431768211456 := by omega
  generalize hi * 18446744073709551616 + lo = n at *
  have N1 := Lib.hid n1; clear n1
  go_enter Try.func23, Try.ntmps23
  go_wp2
  go_loop [0, 1, 9, 10, 11, 12] (fun h l qh ql r i => QuotRel n c h l qh ql r i) (fun _ _ _ _ _ i => 128 - (intOf i).toNat)
  case atStart => exact ⟨0, _, _, 0, 0, 0, by omega, by go_num, rfl, rfl, rfl, rfl, rfl, st⟩
  case round =>
    clear st
    obtain ⟨k, xi, yo, a, b, s, hk, rfl, rfl, rfl, rfl, rfl, rfl, hq⟩ := hrel
    obtain ⟨x0, x1, y0, y1, p0, p1, q0, q1, s0, s1⟩ : 0 ≤ xi ∧ xi < 18446744073709551616 ∧ 0 ≤ yo ∧ yo < 18446744073709551616 ∧ 0 ≤ a ∧ a < 18446744073709551616 ∧ 0 ≤ b ∧ b < 18446744073709551616 ∧ 0 ≤ s ∧ s < c := by obtain ⟨x0, x1, y0, y1, p0, p1, q0, q1, s0, s1, _⟩ := hq; exact ⟨x0, x1, y0, y1, p0, p1, q0, q1, s0, s1⟩
    by_cases hlt : k < 128
    · go_wp2
      · go_round
        case rel => exact ⟨k + 1, _, _, _, _, _, by omega, by go_num, rfl, rfl, rfl, rfl, rfl, quot_yes n c xi yo a b s k (by omega) n0 N1.out c0 c1 hq ‹_›⟩
        case measure => simp [intOf]; omega
      · go_round
        case rel => exact ⟨k + 1, _, _, _, _, _, by omega, by go_num, rfl, rfl, rfl, rfl, rfl, quot_no n c xi yo a b s k (by omega) n0 N1.out c0 c1 hq ‹_›⟩
        case measure => simp [intOf]; omega
    · obtain rfl : k = 128 := by omega
      obtain ⟨e1, e2⟩ := quot_end n c xi yo a b s c0 hq
      have e3 : n / c / 18446744073709551616 = a := by omega
      have e4 : n / c % 18446744073709551616 = b := by omega
      have E2 := Lib.hid e2; have E3 := Lib.hid e3; have E4 := Lib.hid e4; clear e1 e2 e3 e4
      go_wp2
      go_ret3
      exact ⟨ret_iii E3.out.symm E4.out.symm E2.out, rfl⟩
end Go.Proofs.Ytpjnignkblaneaa
