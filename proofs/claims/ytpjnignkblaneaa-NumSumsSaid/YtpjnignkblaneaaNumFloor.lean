/- What num.Floor and num.Rest answer, for every two ints; and that the chapter's example holds. -/
import Derived.Test.YtpjnignkblaneaaNumOps
import Derived.RowKit3
import Derived.OpenShut
namespace Go.Proofs.Ytpjnignkblaneaa
open Go.RowKit NumMath
set_option linter.unusedVariables false

/-- Go's quotient and rest, by the sizes' quotient and rest. -/
theorem tdiv_sz (a b : Int) (hb : b ≠ 0) : a.tdiv b = (if (decide (a < 0) == decide (b < 0)) = true then sz a / sz b else -(sz a / sz b)) ∧ a.tmod b = (if a < 0 then -(sz a % sz b) else sz a % sz b) := by
  unfold sz
  by_cases ha : a < 0 <;> by_cases h : b < 0
  · have e1 : a.tdiv b = (-a) / (-b) := by rw [← Int.tdiv_eq_ediv_of_nonneg (by omega), Int.neg_tdiv, Int.tdiv_neg, Int.neg_neg]
    have e2 : a.tmod b = -((-a) % (-b)) := by rw [← Int.tmod_eq_emod_of_nonneg (by omega), Int.neg_tmod, Int.tmod_neg, Int.neg_neg]
    simp [ha, h, e1, e2]
  · have e1 : a.tdiv b = -((-a) / b) := by rw [← Int.tdiv_eq_ediv_of_nonneg (by omega), Int.neg_tdiv, Int.neg_neg]
    have e2 : a.tmod b = -((-a) % b) := by rw [← Int.tmod_eq_emod_of_nonneg (by omega), Int.neg_tmod, Int.neg_neg]
    simp [ha, h, e1, e2]
  · have e1 : a.tdiv b = -(a / (-b)) := by rw [← Int.tdiv_eq_ediv_of_nonneg (by omega), Int.tdiv_neg, Int.neg_neg]
    have e2 : a.tmod b = a % (-b) := by rw [← Int.tmod_eq_emod_of_nonneg (by omega), Int.tmod_neg]
    simp [ha, h, e1, e2]
  · have e1 : a.tdiv b = a / b := Int.tdiv_eq_ediv_of_nonneg (by omega)
    have e2 : a.tmod b = a % b := Int.tmod_eq_emod_of_nonneg (by omega)
    simp [ha, h, e1, e2]
/-- What is known of the sizes' quotient and rest. -/
theorem sz_div (a b : Int) (a0 : -9223372036854775808 ≤ a) (a1 : a ≤ 9223372036854775807) (hb : b ≠ 0) :
    ∃ Q R : Int, sz a / sz b = Q ∧ sz a % sz b = R ∧ 0 ≤ Q ∧ Q ≤ 9223372036854775808 ∧ 0 ≤ R ∧ R < sz b ∧ sz a = Q * sz b + R ∧ (2 ≤ sz b → Q ≤ 4611686018427387904) := by
  have p := sz_pos b hb
  obtain ⟨x0, x1⟩ := sz_bd a a0 a1
  have m := Int.mul_ediv_add_emod (sz a) (sz b)
  have m0 := Int.emod_nonneg (sz a) (by omega : sz b ≠ 0)
  have m1 := Int.emod_lt_of_pos (sz a) (by omega : 0 < sz b)
  have q0 : 0 ≤ sz a / sz b := Int.ediv_nonneg x0 (by omega)
  have q1 : sz a / sz b ≤ sz a := Int.ediv_le_self _ x0
  rw [Int.mul_comm] at m
  refine ⟨_, _, rfl, rfl, q0, by omega, m0, m1, m.symm, fun h => ?_⟩
  have := Int.mul_le_mul_of_nonneg_left h q0
  omega

set_option maxHeartbeats 1000000 in
theorem floor_any (a b : Int) (w : World) (a0 : -9223372036854775808 ≤ a) (a1 : a ≤ 9223372036854775807) (b0 : -9223372036854775808 ≤ b) (b1 : b ≤ 9223372036854775807) :
    Calls Try.prog 15 #[.int .i64 a, .int .i64 b] w fun e w' => e = .returned (.tuple #[.int .i64 (md a 1 b).1, .bool (md a 1 b).2]) ∧ w = w' := by
  by_cases hb : b = 0
  · subst hb
    have H := Lib.hid (show md a 1 0 = (0, false) from rfl)
    go_enter Try.func15, Try.ntmps15
    go_wp2
    go_ret2
    exact ⟨ret_pair H.out, rfl⟩
  by_cases hx : a = -9223372036854775808 ∧ b = -1
  · obtain ⟨rfl, rfl⟩ := hx
    have H := Lib.hid (show md (-9223372036854775808) 1 (-1) = (0, false) by decide)
    go_enter Try.func15, Try.ntmps15
    go_wp2
    go_ret2
    exact ⟨ret_pair H.out, rfl⟩
  obtain ⟨Q, R, eQ, eR, q0, q1, r0, r1, e, q2⟩ := sz_div a b a0 a1 hb
  obtain ⟨t1, t2⟩ := tdiv_sz a b hb
  rw [eQ] at t1
  rw [eR] at t2
  have s1 : sz 1 = 1 := rfl
  have eN : sz a * sz 1 = Q * sz b + R := by rw [s1]; omega
  have F := Lib.hid (md_all a 1 b Q R hb eN q0 r0 r1)
  obtain ⟨t, ht⟩ : ∃ t, a.tdiv b = t := ⟨_, rfl⟩
  obtain ⟨m, hm⟩ : ∃ m, a.tmod b = m := ⟨_, rfl⟩
  rw [ht] at t1
  rw [hm] at t2
  have mr : (m = 0 ∧ R = 0) ∨ (m ≠ 0 ∧ 0 < R ∧ 2 ≤ sz b) := by
    by_cases hR : R = 0
    · left; refine ⟨?_, hR⟩; rw [t2, hR]; split <;> rfl
    · right; refine ⟨?_, by omega, by omega⟩; rw [t2]; split <;> omega
  have hz : (b == 0) = false := by simpa using hb
  have bb : sz b = 1 → b = 1 ∨ b = -1 := by unfold sz; split <;> omega
  obtain ⟨g, hg⟩ : ∃ g, neg3 a 1 b = g := ⟨_, rfl⟩
  have ng : (decide (a < 0) == decide (b < 0)) = !g := by rw [← hg]; simp only [neg3]; cases decide (a < 0) <;> cases decide (b < 0) <;> rfl
  rw [ng] at t1
  cases g
  · -- one sign
    have tq : t = Q := by rw [t1]; simp
    have qs : Q ≤ 9223372036854775807 := by
      refine Int.not_lt.1 fun h => hx ?_
      have h2 : ¬ 2 ≤ sz b := fun h3 => by have := q2 h3; omega
      have := sz_pos b hb
      have sb : sz b = 1 := by omega
      rw [sb] at e
      have sa : sz a = 9223372036854775808 := by omega
      have aa : a = -9223372036854775808 := by unfold sz at sa; split at sa <;> omega
      refine ⟨aa, ?_⟩
      rcases bb sb with h4 | h4
      · exfalso; rw [aa, h4] at ng; simp at ng
      · exact h4
    have H := Lib.hid ((F.out.1 hg).1 qs)
    have TQ := Lib.hid tq
    have tb : 0 ≤ t ∧ t ≤ 9223372036854775807 := by omega
    obtain ⟨tb0, tb1⟩ := tb
    have ng2 : (decide (a < 0) == decide (b < 0)) = true := ng
    have mr2 : m = 0 ∨ m ≠ 0 := by omega
    clear F t1 t2 eN e s1 tq eQ eR ng mr bb q2 hg
    by_cases ha : a = -9223372036854775808
    · have k1 : (a == -9223372036854775808) = true := by simpa using ha
      have k2 : (b == -1) = false := by simp; omega
      clear ha hx
      rcases mr2 with rfl | mz
      · go_enter Try.func15, Try.ntmps15
        go_wp2
        go_ret2
        exact ⟨ret_pair (pair_eq H.out TQ.out.symm), rfl⟩
      · go_enter Try.func15, Try.ntmps15
        go_wp2
        go_ret2
        exact ⟨ret_pair (pair_eq H.out TQ.out.symm), rfl⟩
    · have k1 : (a == -9223372036854775808) = false := by simpa using ha
      clear ha hx
      rcases mr2 with rfl | mz
      · go_enter Try.func15, Try.ntmps15
        go_wp2
        go_ret2
        exact ⟨ret_pair (pair_eq H.out TQ.out.symm), rfl⟩
      · go_enter Try.func15, Try.ntmps15
        go_wp2
        go_ret2
        exact ⟨ret_pair (pair_eq H.out TQ.out.symm), rfl⟩
  · have tq : t = -Q := by rw [t1]; simp
    have TQ := Lib.hid tq
    have ng2 : (decide (a < 0) == decide (b < 0)) = false := ng
    have H : (m = 0 ∧ -9223372036854775808 ≤ t ∧ t ≤ 0 ∧ md a 1 b = (-Q, true)) ∨ (m ≠ 0 ∧ -4611686018427387904 ≤ t ∧ t ≤ 0 ∧ md a 1 b = (-(Q + 1), true)) := by
      rcases mr with ⟨h1, h2⟩ | ⟨h1, h2, h3⟩
      · left; exact ⟨h1, by omega, by omega, (F.out.2 hg).1 (by omega) (by omega)⟩
      · right; have := q2 h3; exact ⟨h1, by omega, by omega, (F.out.2 hg).2.2.1 (by omega) (by omega)⟩
    clear F t1 t2 eN e s1 tq eQ eR ng mr bb q2 hg
    rcases H with ⟨rfl, tb0, tb1, h⟩ | ⟨mz, tb0, tb1, h⟩
    · have H := Lib.hid h; clear h
      by_cases ha : a = -9223372036854775808
      · have k1 : (a == -9223372036854775808) = true := by simpa using ha
        have k2 : (b == -1) = false := by simp; omega
        clear ha hx
        go_enter Try.func15, Try.ntmps15
        go_wp2
        go_ret2
        exact ⟨ret_pair (pair_eq H.out TQ.out.symm), rfl⟩
      · have k1 : (a == -9223372036854775808) = false := by simpa using ha
        clear ha hx
        go_enter Try.func15, Try.ntmps15
        go_wp2
        go_ret2
        exact ⟨ret_pair (pair_eq H.out TQ.out.symm), rfl⟩
    · have H := Lib.hid h; clear h
      by_cases ha : a = -9223372036854775808
      · have k1 : (a == -9223372036854775808) = true := by simpa using ha
        have k2 : (b == -1) = false := by simp; omega
        clear ha hx
        go_enter Try.func15, Try.ntmps15
        go_wp2
        go_ret2
        exact ⟨ret_pair (pair_eq H.out (by rw [TQ.out]; omega)), rfl⟩
      · have k1 : (a == -9223372036854775808) = false := by simpa using ha
        clear ha hx
        go_enter Try.func15, Try.ntmps15
        go_wp2
        go_ret2
        exact ⟨ret_pair (pair_eq H.out (by rw [TQ.out]; omega)), rfl⟩

/-- What is left of a number: it has the divisor's side. -/
def rs (a b : Int) : Int := a - b * fl a b
theorem rs_bd (a b : Int) (hb : b ≠ 0) : (0 < b → 0 ≤ rs a b ∧ rs a b < b) ∧ (b < 0 → b < rs a b ∧ rs a b ≤ 0) := by
  unfold rs fl
  constructor
  · intro h
    rw [if_pos h]
    have m := Int.mul_ediv_add_emod a b
    have m0 := Int.emod_nonneg a hb
    have m1 := Int.emod_lt_of_pos a h
    omega
  · intro h
    rw [if_neg (by omega)]
    have m := Int.mul_ediv_add_emod (-a) (-b)
    have m0 := Int.emod_nonneg (-a) (by omega : -b ≠ 0)
    have m1 := Int.emod_lt_of_pos (-a) (by omega : 0 < -b)
    rw [Int.neg_mul] at m
    omega
theorem rs_of (a b r k : Int) (hb : b ≠ 0) (e : a = b * k + r) (h : (0 < b ∧ 0 ≤ r ∧ r < b) ∨ (b < 0 ∧ b < r ∧ r ≤ 0)) : r = rs a b := by
  have f : fl a b = k := by
    unfold fl
    rcases h with ⟨h1, h2, h3⟩ | ⟨h1, h2, h3⟩
    · rw [if_pos h1]; exact div_of b a k r (by rw [e, Int.mul_comm]) h2 h3
    · rw [if_neg (by omega)]; exact div_of (-b) (-a) k (-r) (by rw [e, Int.mul_neg, Int.mul_comm]; omega) (by omega) (by omega)
  unfold rs; rw [f]; omega
def rest (a b : Int) : Int × Bool := if b = 0 then (0, false) else (rs a b, true)
set_option maxHeartbeats 1000000 in
theorem rest_any (a b : Int) (w : World) (a0 : -9223372036854775808 ≤ a) (a1 : a ≤ 9223372036854775807) (b0 : -9223372036854775808 ≤ b) (b1 : b ≤ 9223372036854775807) :
    Calls Try.prog 16 #[.int .i64 a, .int .i64 b] w fun e w' => e = .returned (.tuple #[.int .i64 (rest a b).1, .bool (rest a b).2]) ∧ w = w' := by
  by_cases hb : b = 0
  · subst hb
    have H := Lib.hid (show rest a 0 = (0, false) from rfl)
    go_enter Try.func16, Try.ntmps16
    go_wp2
    go_ret2
    exact ⟨ret_pair H.out, rfl⟩
  have H := Lib.hid (show rest a b = (rs a b, true) by unfold rest; rw [if_neg hb])
  obtain ⟨Q, R, eQ, eR, q0, q1, r0, r1, e, q2⟩ := sz_div a b a0 a1 hb
  obtain ⟨t1, t2⟩ := tdiv_sz a b hb
  rw [eR] at t2
  have tm : a = b * a.tdiv b + a.tmod b := (Int.mul_tdiv_add_tmod a b).symm
  obtain ⟨s0, s1⟩ := sz_bd b b0 b1
  obtain ⟨m, hm⟩ : ∃ m, a.tmod b = m := ⟨_, rfl⟩
  rw [hm] at t2 tm
  have ab : sz b = b ∨ sz b = -b := by unfold sz; split <;> omega
  have abs : (0 < b ∧ sz b = b) ∨ (b < 0 ∧ sz b = -b) := by unfold sz; split <;> omega
  have m0 : -9223372036854775808 < m ∧ m < 9223372036854775808 := by rw [t2]; split <;> omega
  have mb : (0 < b → -b < m ∧ m < b) ∧ (b < 0 → b < m ∧ m < -b) := by rw [t2]; split <;> omega
  have TM := Lib.hid tm
  have MB := Lib.hid mb
  have hz : (b == 0) = false := by simpa using hb
  obtain ⟨m1, m2⟩ := m0
  clear eQ eR q0 q1 r0 r1 e q2 t1 t2 tm s0 s1 ab abs mb
  by_cases mz : m = 0
  · subst mz
    go_enter Try.func16, Try.ntmps16
    go_wp2
    go_ret2
    exact ⟨ret_pair (pair_eq H.out (rs_of a b 0 _ hb TM.out (by omega)).symm), rfl⟩
  · by_cases mn : m < 0 <;> by_cases bn : b < 0
    · go_enter Try.func16, Try.ntmps16
      go_wp2
      go_ret2
      exact ⟨ret_pair (pair_eq H.out (rs_of a b m _ hb TM.out (by have := MB.out; omega)).symm), rfl⟩
    · have k1 : decide (b < 0) = false := by simp; omega
      go_enter Try.func16, Try.ntmps16
      go_wp2
      go_ret2
      exact ⟨ret_pair (pair_eq H.out (rs_of a b (m + b) (a.tdiv b - 1) hb (by have := TM.out; rw [Int.mul_sub]; omega) (by have := MB.out; omega)).symm), rfl⟩
    · have k1 : decide (m < 0) = false := by simp; omega
      go_enter Try.func16, Try.ntmps16
      go_wp2
      go_ret2
      exact ⟨ret_pair (pair_eq H.out (rs_of a b (m + b) (a.tdiv b - 1) hb (by have := TM.out; rw [Int.mul_sub]; omega) (by have := MB.out; omega)).symm), rfl⟩
    · have k1 : decide (b < 0) = false := by simp; omega
      have k2 : decide (m < 0) = false := by simp; omega
      go_enter Try.func16, Try.ntmps16
      go_wp2
      go_ret2
      exact ⟨ret_pair (pair_eq H.out (rs_of a b m _ hb TM.out (by have := MB.out; omega)).symm), rfl⟩

/-- The chapter's example. -/
theorem alive_any (w : World) : Calls Try.prog 7 #[] w fun e w' => e = .returned (.bool true) ∧ ∃ n, w' = w.drewN n := by
  have c1 := fun w => floor_any (-7) 2 w (by decide) (by decide) (by decide) (by decide)
  have c2 := fun w => muldiv_any 4611686018427387904 6 8 w (by decide) (by decide) (by decide) (by decide) (by decide) (by decide)
  rw [show md (-7) 1 2 = (-4, true) by decide] at c1
  rw [show md 4611686018427387904 6 8 = (3458764513820540928, true) by decide] at c2
  have C1 := Lib.hid c1; have C2 := Lib.hid c2; clear c1 c2
  go_enter Try.func7, Try.ntmps7
  go_wp2_with (first | (go_at_call 15; refine (C1.out _).mono ?_; rintro e w' ⟨rfl, rfl⟩) | (go_at_call 17; refine (C2.out _).mono ?_; rintro e w' ⟨rfl, n, rfl⟩) | (go_at_call 14; refine (in_any _ _ _ _).mono ?_; rintro e w' ⟨rfl, rfl⟩))
  go_ret
  exact ⟨rfl, _, rfl⟩
theorem i64_bd {a : Int} (h : (Lit.int .i64 a).wf = true) : -9223372036854775808 ≤ a ∧ a ≤ 9223372036854775807 := bounds_i64 h
theorem md_comm (a b c : Int) : md b a c = md a b c := by unfold md; rw [Int.mul_comm]
theorem grown_drewN (w : World) (n : Nat) : Grown w (w.drewN n) := by
  induction n with
  | zero => exact Grown.refl _
  | succ n ih => exact Grown.drew ih
end Go.Proofs.Ytpjnignkblaneaa
