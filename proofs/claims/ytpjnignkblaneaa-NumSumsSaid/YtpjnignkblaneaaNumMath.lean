/- Plain arithmetic behind layer 1 (num): 64-bit products by shifting, quotients by shifting, and the schoolbook division of two words by one; no condition but the ranges that each lemma names. -/
import Derived.Laws.BitsAllLaws
namespace Go.Proofs.Ytpjnignkblaneaa.NumMath

theorem wrapu (n : Int) : IntKind.u64.wrap n = n % 18446744073709551616 := by simp [IntKind.wrap, IntKind.bits, IntKind.signed]

/-- A doubled word and one bit. -/
theorem or_bit (x y : Int) (y0 : 0 ≤ y) (y1 : y ≤ 1) :
    bits .or .u64 (IntKind.u64.wrap (x * 2)) y = (x * 2) % 18446744073709551616 + y := by
  rw [wrapu, u64_or _ _ (by omega) (by omega) y0 (by omega), nat_join 1 _ _ (by omega) (by omega)]
  omega
theorem or_bare (x y : Int) (x0 : 0 ≤ x) (x1 : x < 9223372036854775808) (y0 : 0 ≤ y) (y1 : y ≤ 1) : bits .or .u64 (x * 2) y = x * 2 + y := by
  have := or_bit x y y0 y1
  rw [wrapu, show (x * 2) % 18446744073709551616 = x * 2 from by omega] at this
  exact this
theorem or_one (x : Int) (x0 : 0 ≤ x) (x1 : x < 18446744073709551616) (e : x % 2 = 0) : bits .or .u64 x 1 = x + 1 := by
  rw [u64_or _ _ x0 x1 (by omega) (by omega), nat_join 1 _ _ (by omega) (by decide)]
  have : ((1 : Int).toNat) = 1 := rfl
  omega
theorem and_one (x : Int) (x0 : 0 ≤ x) (x1 : x < 18446744073709551616) : bits .and .u64 x 1 = x % 2 := by
  rw [u64_and _ _ x0 x1 (by omega) (by omega)]
  have : ((1 : Int).toNat) = 1 := rfl
  rw [this, nat_mask1]; omega
theorem and_low (x : Int) (x0 : 0 ≤ x) (x1 : x < 18446744073709551616) : bits .and .u64 x 4294967295 = x % 4294967296 := by
  rw [u64_and _ _ x0 x1 (by omega) (by omega)]
  have : ((4294967295 : Int).toNat) = 2 ^ 32 - 1 := by decide
  rw [this, Nat.and_two_pow_sub_one_eq_mod]; omega

/-! ### a product, bit by bit -/
theorem half_pow (b : Int) (k : Nat) : b / 2 ^ (k + 1) = b / 2 ^ k / 2 := by
  rw [Int.pow_succ, Int.ediv_ediv_of_nonneg (Int.le_of_lt (Int.pow_pos (by decide)))]
theorem ediv_pow_bd (b : Int) (k : Nat) (b0 : 0 ≤ b) : 0 ≤ b / 2 ^ k ∧ b / 2 ^ k ≤ b := by
  have hp : (0 : Int) < 2 ^ k := Int.pow_pos (by decide)
  exact ⟨Int.ediv_nonneg b0 (Int.le_of_lt hp), Int.ediv_le_self _ b0⟩

/-- What stands at the head of a round: the upper bits of b are done. -/
def Prod (a b : Int) (k : Nat) (hi lo : Int) : Prop :=
  0 ≤ hi ∧ hi < 18446744073709551616 ∧ 0 ≤ lo ∧ lo < 18446744073709551616 ∧ hi * 18446744073709551616 + lo = a * (b / 2 ^ k)

theorem prod_start (a b : Int) (b0 : 0 ≤ b) (b1 : b < 18446744073709551616) : Prod a b 64 0 0 := by
  refine ⟨by decide, by decide, by decide, by decide, ?_⟩
  have : b / 2 ^ 64 = 0 := by
    have : (2 : Int) ^ 64 = 18446744073709551616 := by decide
    rw [this]; omega
  rw [this]; simp
theorem prod_end (a b hi lo : Int) (h : Prod a b 0 hi lo) : hi = a * b / 18446744073709551616 ∧ lo = a * b % 18446744073709551616 := by
  obtain ⟨_, _, _, _, h⟩ := h
  simp at h
  omega
theorem prod_lt (a q : Int) (a0 : 0 ≤ a) (a1 : a < 18446744073709551616) (q0 : 0 ≤ q) (q1 : q < 18446744073709551616) :
    0 ≤ a * q ∧ a * q < 18446744073709551616 * 18446744073709551616 :=
  ⟨Int.mul_nonneg a0 q0, Int.lt_of_le_of_lt (Int.mul_le_mul (Int.le_of_lt a1) (Int.le_refl _) q0 (by decide)) (by omega)⟩

section
variable (a b hi lo : Int) (k : Nat) (a0 : 0 ≤ a) (a1 : a < 18446744073709551616) (b0 : 0 ≤ b) (b1 : b < 18446744073709551616) (h : Prod a b (k + 1) hi lo)
include a0 a1 b0 b1 h
theorem prod_pre : hi * 2 + lo / 9223372036854775808 < 18446744073709551616 ∧
    hi * 18446744073709551616 + lo = a * (b / 2 ^ k / 2) ∧ a * (b / 2 ^ k) = 2 * (a * (b / 2 ^ k / 2)) + a * (b / 2 ^ k % 2) ∧ a * (b / 2 ^ k) < 18446744073709551616 * 18446744073709551616 ∧ 0 ≤ a * (b / 2 ^ k % 2) := by
  obtain ⟨h0, h1, l0, l1, e⟩ := h
  rw [half_pow] at e
  obtain ⟨q0, q1⟩ := ediv_pow_bd b k b0
  have hl := prod_lt a (b / 2 ^ k) a0 a1 q0 (by omega)
  have e2 : a * (b / 2 ^ k) = 2 * (a * (b / 2 ^ k / 2)) + a * (b / 2 ^ k % 2) := by
    have : b / 2 ^ k = 2 * (b / 2 ^ k / 2) + b / 2 ^ k % 2 := by omega
    have e3 : a * (2 * (b / 2 ^ k / 2)) = 2 * (a * (b / 2 ^ k / 2)) := by rw [← Int.mul_assoc, Int.mul_comm a 2, Int.mul_assoc]
    conv => lhs; rw [this, Int.mul_add, e3]
  have n0 : 0 ≤ a * (b / 2 ^ k % 2) := Int.mul_nonneg a0 (by omega)
  generalize a * (b / 2 ^ k / 2) = p at *
  generalize a * (b / 2 ^ k % 2) = r at *
  generalize a * (b / 2 ^ k) = p2 at *
  exact ⟨by omega, by omega, by omega, by omega, by omega⟩
theorem prod_zero (t : (bits .and .u64 (b / 2 ^ k) 1 == 1) = false) :
    Prod a b k (bits .or .u64 (IntKind.u64.wrap (hi * 2)) (lo / 9223372036854775808)) (IntKind.u64.wrap (lo * 2)) := by
  obtain ⟨p1, p2, p3, p4, p5⟩ := prod_pre a b hi lo k a0 a1 b0 b1 h
  obtain ⟨h0, h1, l0, l1, e⟩ := h
  obtain ⟨q0, q1⟩ := ediv_pow_bd b k b0
  rw [and_one _ q0 (by omega)] at t
  have tz : b / 2 ^ k % 2 = 0 := by
    have := beq_eq_false_iff_ne.1 t; omega
  rw [tz] at p3
  rw [or_bit _ _ (by omega) (by omega), wrapu]
  unfold Prod
  generalize a * (b / 2 ^ k / 2) = p at *
  generalize a * (b / 2 ^ k) = pp at *
  refine ⟨by omega, by omega, by omega, by omega, by omega⟩
theorem prod_one (t : (bits .and .u64 (b / 2 ^ k) 1 == 1) = true) :
    (IntKind.u64.wrap (IntKind.u64.wrap (lo * 2) + a) < a → Prod a b k (IntKind.u64.wrap (bits .or .u64 (IntKind.u64.wrap (hi * 2)) (lo / 9223372036854775808) + 1)) (IntKind.u64.wrap (IntKind.u64.wrap (lo * 2) + a))) ∧
    (a ≤ IntKind.u64.wrap (IntKind.u64.wrap (lo * 2) + a) → Prod a b k (bits .or .u64 (IntKind.u64.wrap (hi * 2)) (lo / 9223372036854775808)) (IntKind.u64.wrap (IntKind.u64.wrap (lo * 2) + a))) := by
  obtain ⟨p1, p2, p3, p4, p5⟩ := prod_pre a b hi lo k a0 a1 b0 b1 h
  obtain ⟨h0, h1, l0, l1, e⟩ := h
  obtain ⟨q0, q1⟩ := ediv_pow_bd b k b0
  rw [and_one _ q0 (by omega)] at t
  have tz : b / 2 ^ k % 2 = 1 := by
    have := beq_iff_eq.1 t; omega
  rw [tz, Int.mul_one] at p3
  rw [or_bit _ _ (by omega) (by omega), wrapu, wrapu, wrapu]
  unfold Prod
  generalize a * (b / 2 ^ k / 2) = p at *
  generalize a * (b / 2 ^ k) = pp at *
  refine ⟨fun c => ⟨by omega, by omega, by omega, by omega, by omega⟩, fun c => ⟨by omega, by omega, by omega, by omega, by omega⟩⟩
end

/-! ### a quotient, bit by bit -/
/-- What stands at the head of round i: n is the whole dividend; A its upper bits. -/
def Quot (n c : Int) (i : Nat) (hi lo qh ql r : Int) : Prop :=
  0 ≤ hi ∧ hi < 18446744073709551616 ∧ 0 ≤ lo ∧ lo < 18446744073709551616 ∧ 0 ≤ qh ∧ qh < 18446744073709551616 ∧ 0 ≤ ql ∧ ql < 18446744073709551616 ∧ 0 ≤ r ∧ r < c ∧
  n * 2 ^ i = ((qh * 18446744073709551616 + ql) * c + r) * 340282366920938463463374607431768211456 + (hi * 18446744073709551616 + lo)

theorem quot_start (n c hi lo : Int) (c0 : 1 ≤ c) (h0 : 0 ≤ hi) (h1 : hi < 18446744073709551616) (l0 : 0 ≤ lo) (l1 : lo < 18446744073709551616) (e : n = hi * 18446744073709551616 + lo) : Quot n c 0 hi lo 0 0 0 := by
  refine ⟨h0, h1, l0, l1, by decide, by decide, by decide, by decide, by decide, by omega, ?_⟩
  rw [e]; simp
theorem quot_end (n c hi lo qh ql r : Int) (c0 : 1 ≤ c) (h : Quot n c 128 hi lo qh ql r) : qh * 18446744073709551616 + ql = n / c ∧ r = n % c := by
  obtain ⟨h0, h1, l0, l1, _, _, _, _, r0, r1, e⟩ := h
  have p : (2 : Int) ^ 128 = 340282366920938463463374607431768211456 := by decide
  rw [p] at e
  have e2 : n = (qh * 18446744073709551616 + ql) * c + r := by
    generalize (qh * 18446744073709551616 + ql) * c + r = x at *; omega
  generalize qh * 18446744073709551616 + ql = q at *
  rw [e2, Int.add_comm, Int.mul_comm]
  constructor
  · rw [Int.add_mul_ediv_left _ _ (by omega), Int.ediv_eq_zero_of_lt r0 r1]; simp
  · rw [Int.add_mul_emod_self_left, Int.emod_eq_of_lt r0 r1]

theorem quot_bd (n c x q r : Int) (i : Nat) (hi1 : i + 1 ≤ 128) (n0 : 0 ≤ n) (n1 : n < 340282366920938463463374607431768211456) (c0 : 1 ≤ c) (r0 : 0 ≤ r) (x0 : 0 ≤ x) (q0 : 0 ≤ q)
    (e : n * 2 ^ (i + 1) = (q * c + r) * 340282366920938463463374607431768211456 + x) : q < 340282366920938463463374607431768211456 := by
  have p : (2 : Int) ^ (i + 1) ≤ 2 ^ 128 := by
    have := Nat.pow_le_pow_right (n := 2) (by decide) hi1
    exact_mod_cast this
  have p2 : (2 : Int) ^ 128 = 340282366920938463463374607431768211456 := by decide
  rw [p2] at p
  have m : n * 2 ^ (i + 1) ≤ n * 340282366920938463463374607431768211456 := Int.mul_le_mul_of_nonneg_left p n0
  have m2 : q * 1 ≤ q * c := Int.mul_le_mul_of_nonneg_left c0 q0
  generalize n * 2 ^ (i + 1) = y at *
  generalize q * c = z at *
  omega

section
variable (n c hi lo qh ql r : Int) (i : Nat) (hi1 : i + 1 ≤ 128) (n0 : 0 ≤ n) (n1 : n < 340282366920938463463374607431768211456) (c0 : 1 ≤ c) (c1 : c ≤ 9223372036854775808) (h : Quot n c i hi lo qh ql r)
include hi1 n0 n1 c0 c1 h
/-- The round's first half, in plain numbers: the bit that comes in, and the doubled words. -/
theorem quot_pre : n * 2 ^ (i + 1) = ((2 * (qh * 18446744073709551616 + ql)) * c + (r * 2 + hi / 9223372036854775808)) * 340282366920938463463374607431768211456 + (((hi * 2) % 18446744073709551616 + lo / 9223372036854775808) * 18446744073709551616 + (lo * 2) % 18446744073709551616) ∧
    qh * 2 + ql / 9223372036854775808 < 18446744073709551616 := by
  obtain ⟨h0, h1, l0, l1, a0, a1, b0, b1, r0, r1, e⟩ := h
  have e2 : n * 2 ^ (i + 1) = ((2 * (qh * 18446744073709551616 + ql)) * c + (r * 2 + hi / 9223372036854775808)) * 340282366920938463463374607431768211456 + (((hi * 2) % 18446744073709551616 + lo / 9223372036854775808) * 18446744073709551616 + (lo * 2) % 18446744073709551616) := by
    rw [Int.pow_succ, ← Int.mul_assoc, e, Int.mul_assoc 2]
    generalize (qh * 18446744073709551616 + ql) * c = z
    omega
  refine ⟨e2, ?_⟩
  have := quot_bd n c _ _ _ i hi1 n0 n1 c0 (by omega) (by omega) (by omega) e2
  omega
theorem quot_no (t : bits .or .u64 (r * 2) (hi / 9223372036854775808) < c) :
    Quot n c (i + 1) (bits .or .u64 (IntKind.u64.wrap (hi * 2)) (lo / 9223372036854775808)) (IntKind.u64.wrap (lo * 2)) (bits .or .u64 (IntKind.u64.wrap (qh * 2)) (ql / 9223372036854775808)) (IntKind.u64.wrap (ql * 2)) (bits .or .u64 (r * 2) (hi / 9223372036854775808)) := by
  obtain ⟨e, b⟩ := quot_pre n c hi lo qh ql r i hi1 n0 n1 c0 c1 h
  obtain ⟨h0, h1, l0, l1, a0, a1, b0, b1, r0, r1, _⟩ := h
  rw [or_bare _ _ (by omega) (by omega) (by omega) (by omega)] at t
  rw [or_bit _ _ (by omega) (by omega), or_bit _ _ (by omega) (by omega), or_bare _ _ (by omega) (by omega) (by omega) (by omega), wrapu, wrapu]
  refine ⟨by omega, by omega, by omega, by omega, by omega, by omega, by omega, by omega, by omega, by omega, ?_⟩
  have q2 : ((qh * 2) % 18446744073709551616 + ql / 9223372036854775808) * 18446744073709551616 + (ql * 2) % 18446744073709551616 = 2 * (qh * 18446744073709551616 + ql) := by omega
  rw [q2, e]
theorem quot_yes (t : c ≤ bits .or .u64 (r * 2) (hi / 9223372036854775808)) :
    Quot n c (i + 1) (bits .or .u64 (IntKind.u64.wrap (hi * 2)) (lo / 9223372036854775808)) (IntKind.u64.wrap (lo * 2)) (bits .or .u64 (IntKind.u64.wrap (qh * 2)) (ql / 9223372036854775808)) (bits .or .u64 (IntKind.u64.wrap (ql * 2)) 1) (IntKind.u64.wrap (bits .or .u64 (r * 2) (hi / 9223372036854775808) - c)) := by
  obtain ⟨e, b⟩ := quot_pre n c hi lo qh ql r i hi1 n0 n1 c0 c1 h
  obtain ⟨h0, h1, l0, l1, a0, a1, b0, b1, r0, r1, _⟩ := h
  rw [or_bare _ _ (by omega) (by omega) (by omega) (by omega)] at t
  rw [or_bit _ _ (by omega) (by omega), or_bit _ _ (by omega) (by omega), or_bit _ _ (by omega) (by omega), or_bare _ _ (by omega) (by omega) (by omega) (by omega), wrapu, wrapu]
  refine ⟨by omega, by omega, by omega, by omega, by omega, by omega, by omega, by omega, by omega, by omega, ?_⟩
  have q2 : ((qh * 2) % 18446744073709551616 + ql / 9223372036854775808) * 18446744073709551616 + ((ql * 2) % 18446744073709551616 + 1) = 2 * (qh * 18446744073709551616 + ql) + 1 := by omega
  have r2 : (r * 2 + hi / 9223372036854775808 - c) % 18446744073709551616 = r * 2 + hi / 9223372036854775808 - c := by omega
  rw [q2, r2, e, Int.add_mul _ 1 c, Int.one_mul]
  generalize 2 * (qh * 18446744073709551616 + ql) * c = z
  omega
end

/-! ### quotients that are cut downwards -/
def sz (n : Int) : Int := if n < 0 then -n else n
theorem sz_bd (n : Int) (h0 : -9223372036854775808 ≤ n) (h1 : n ≤ 9223372036854775807) : 0 ≤ sz n ∧ sz n ≤ 9223372036854775808 := by unfold sz; split <;> omega
theorem sz_pos (n : Int) (h : n ≠ 0) : 1 ≤ sz n := by unfold sz; split <;> omega
/-- The greatest whole number that is not above p by c. -/
def fl (p c : Int) : Int := if 0 < c then p / c else (-p) / (-c)
def fits (n : Int) : Bool := decide (-9223372036854775808 ≤ n) && decide (n ≤ 9223372036854775807)
/-- A number and true, if it is an int; else 0 and false. -/
def opt (n : Int) : Int × Bool := if fits n = true then (n, true) else (0, false)
def md (a b c : Int) : Int × Bool := if c = 0 then (0, false) else opt (fl (a * b) c)
def neg3 (a b c : Int) : Bool := (decide (a < 0) != decide (b < 0)) != decide (c < 0)

theorem div_of (C N Q R : Int) (h : N = Q * C + R) (r0 : 0 ≤ R) (r1 : R < C) : N / C = Q := by
  rw [h, Int.add_comm, Int.add_mul_ediv_right _ _ (by omega), Int.ediv_eq_zero_of_lt r0 r1]; simp
theorem div_neg_of (C N Q R : Int) (h : N = Q * C + R) (r0 : 0 ≤ R) (r1 : R < C) : (-N) / C = if R = 0 then -Q else -(Q + 1) := by
  split
  · refine div_of C (-N) (-Q) 0 ?_ (by omega) (by omega)
    rw [h, Int.neg_mul]; omega
  · refine div_of C (-N) (-(Q + 1)) (C - R) ?_ (by omega) (by omega)
    rw [h, Int.neg_mul, Int.add_mul]; omega
theorem mul_sign (a b : Int) : a * b = if (decide (a < 0) != decide (b < 0)) = true then -(sz a * sz b) else sz a * sz b := by
  unfold sz
  by_cases ha : a < 0 <;> by_cases hb : b < 0 <;> simp [ha, hb, Int.neg_mul, Int.mul_neg]
theorem fl_eq (a b c Q R : Int) (hc : c ≠ 0) (hN : sz a * sz b = Q * sz c + R) (r0 : 0 ≤ R) (r1 : R < sz c) :
    fl (a * b) c = if neg3 a b c = true then (if R = 0 then -Q else -(Q + 1)) else Q := by
  have k1 := div_of (sz c) _ Q R hN r0 r1
  have k2 := div_neg_of (sz c) _ Q R hN r0 r1
  clear hN r0 r1
  rw [mul_sign]
  unfold neg3
  by_cases hd : c < 0
  · have e : sz c = -c := by simp [sz, hd]
    have hp : ¬ 0 < c := by omega
    rw [e] at k1 k2
    unfold fl
    cases hx : (decide (a < 0) != decide (b < 0)) <;> simp [hd, hp, k1, k2]
  · have e : sz c = c := by simp [sz, hd]
    have hp : 0 < c := by omega
    rw [e] at k1 k2
    unfold fl
    cases hx : (decide (a < 0) != decide (b < 0)) <;> simp [hd, hp, k1, k2]
theorem opt_yes (n : Int) (h0 : -9223372036854775808 ≤ n) (h1 : n ≤ 9223372036854775807) : opt n = (n, true) := by
  unfold opt fits; rw [if_pos (by simp; omega)]
theorem opt_no (n : Int) (h : n < -9223372036854775808 ∨ 9223372036854775807 < n) : opt n = (0, false) := by
  unfold opt fits; rw [if_neg (by simp; omega)]

/-- What is answered of a size and a sign. -/
def sg (m : Int) (below : Bool) : Int × Bool := opt (if below = true then -m else m)

section
variable (a b c Q R : Int) (hc : c ≠ 0) (hN : sz a * sz b = Q * sz c + R) (r0 : 0 ≤ R) (r1 : R < sz c)
include hc hN r0 r1
theorem md_plus (t : neg3 a b c = false) : md a b c = sg Q false := by
  unfold md sg; rw [if_neg hc, fl_eq a b c Q R hc hN r0 r1, t]; simp
theorem md_minus (t : neg3 a b c = true) (z : R = 0) : md a b c = sg Q true := by
  unfold md sg; rw [if_neg hc, fl_eq a b c Q R hc hN r0 r1, t, z]; simp
theorem md_less (t : neg3 a b c = true) (z : R ≠ 0) : md a b c = sg (Q + 1) true := by
  unfold md sg; rw [if_neg hc, fl_eq a b c Q R hc hN r0 r1, t, if_pos rfl, if_neg z]; simp
end
theorem sg_plus (m : Int) (h0 : 0 ≤ m) (h1 : m ≤ 9223372036854775807) : sg m false = (m, true) := by unfold sg; simp; exact opt_yes _ (by omega) (by omega)
theorem sg_plus_no (m : Int) (h1 : 9223372036854775807 < m) : sg m false = (0, false) := by unfold sg; simp; exact opt_no _ (by omega)
theorem sg_minus (m : Int) (h0 : 0 ≤ m) (h1 : m ≤ 9223372036854775808) : sg m true = (-m, true) := by unfold sg; simp; exact opt_yes _ (by omega) (by omega)
theorem sg_minus_no (m : Int) (h1 : 9223372036854775808 < m) : sg m true = (0, false) := by unfold sg; simp; exact opt_no _ (by omega)
/-- All that may come of a quotient, by its sign and what is left. -/
theorem md_all (a b c Q R : Int) (hc : c ≠ 0) (hN : sz a * sz b = Q * sz c + R) (q0 : 0 ≤ Q) (r0 : 0 ≤ R) (r1 : R < sz c) :
    (neg3 a b c = false → (Q ≤ 9223372036854775807 → md a b c = (Q, true)) ∧ (9223372036854775807 < Q → md a b c = (0, false))) ∧
    (neg3 a b c = true → (R ≤ 0 → Q ≤ 9223372036854775808 → md a b c = (-Q, true)) ∧ (R ≤ 0 → 9223372036854775808 < Q → md a b c = (0, false)) ∧
      (0 < R → Q + 1 ≤ 9223372036854775808 → md a b c = (-(Q + 1), true)) ∧ (0 < R → 9223372036854775808 < Q + 1 → md a b c = (0, false))) := by
  refine ⟨fun t => ⟨fun h => ?_, fun h => ?_⟩, fun t => ⟨fun z h => ?_, fun z h => ?_, fun z h => ?_, fun z h => ?_⟩⟩
  · rw [md_plus a b c Q R hc hN r0 r1 t, sg_plus _ q0 h]
  · rw [md_plus a b c Q R hc hN r0 r1 t, sg_plus_no _ h]
  · rw [md_minus a b c Q R hc hN r0 r1 t (by omega), sg_minus _ q0 h]
  · rw [md_minus a b c Q R hc hN r0 r1 t (by omega), sg_minus_no _ h]
  · rw [md_less a b c Q R hc hN r0 r1 t (by omega), sg_minus _ (by omega) h]
  · rw [md_less a b c Q R hc hN r0 r1 t (by omega), sg_minus_no _ h]
theorem wrap64s (n : Int) : IntKind.i64.wrap n = (n + 9223372036854775808) % 18446744073709551616 - 9223372036854775808 := by
  simp [IntKind.wrap, IntKind.bits, IntKind.signed]; split <;> omega
end Go.Proofs.Ytpjnignkblaneaa.NumMath
