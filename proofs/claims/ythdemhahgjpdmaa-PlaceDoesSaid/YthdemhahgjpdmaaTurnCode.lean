/- What turn's small calls answer for every number: which turn a number counts as, its quarters, whether it mirrors or swaps, one turn behind another one, and the one that undoes it. -/
import Derived.Test.YthdemhahgjpdmaaProg
import Derived.Test.YthdemhahgjpdmaaLater
import Derived.WalkKit
import Derived.WalkSpells
import Derived.WalkLawsBesides
import Derived.Lib.Hide
import Derived.Outline
import Derived.Below
import Derived.IntWalk
import Derived.Deep.Light
namespace Go.Proofs.Ythdemhahgjpdmaa
open Go.RowKit
set_option linter.unusedVariables false

/-- The last three bits: the rest modulo eight. -/
theorem and7 (x : Int) : bits .and .i64 x 7 = x % 8 := by
  have h : (BitVec.ofInt 64 x &&& BitVec.ofInt 64 7).toNat = (x % 8).toNat := by
    rw [BitVec.toNat_and, BitVec.toNat_ofInt, BitVec.toNat_ofInt]
    rw [show ((7 : Int) % ((2 ^ 64 : Nat) : Int)).toNat = 2 ^ 3 - 1 by decide, Nat.and_two_pow_sub_one_eq_mod]
    omega
  show IntKind.i64.wrap (((BitVec.ofInt 64 x &&& BitVec.ofInt 64 7).toNat : Nat) : Int) = _
  rw [h, IntWalk.i64_in _ (by omega)]
  omega

theorem among_any (t : Int) (w : World) : Calls Try.prog 32 #[.int .i64 t] w fun e w' => e = .returned (.int .i64 (t % 8)) ∧ w' = w := by
  have h := and7 t
  obtain ⟨q, hq⟩ : ∃ q, t % 8 = q := ⟨_, rfl⟩
  rw [hq] at h ⊢
  clear hq
  go_enter Try.func32, Try.ntmps32
  go_wp2
  go_ret
  exact ⟨rfl, rfl⟩

theorem rem4 (t : Int) : t % 8 % 4 = t % 4 := by omega
theorem quarters_any (t : Int) (w : World) : Calls Try.prog 30 #[.int .i64 t] w fun e w' => e = .returned (.int .i64 (t % 4)) ∧ w' = w := by
  have K := fun w => among_any t w
  rw [← rem4]
  have h0 : 0 ≤ t % 8 := by omega
  have h1 : t % 8 < 8 := by omega
  generalize t % 8 = q at *
  have HK := Lib.hid K
  clear K
  go_enter Try.func30, Try.ntmps30
  go_wp2_with (go_at_call 32; refine (HK.out _).mono ?_; rintro e w' ⟨rfl, rfl⟩)
  go_ret
  exact ⟨rfl, rfl⟩

/-- Does the turn mirror? -/
def mir (t : Int) : Bool := decide (4 ≤ t % 8)
theorem mirrors_any (t : Int) (w : World) : Calls Try.prog 29 #[.int .i64 t] w fun e w' => e = .returned (.bool (mir t)) ∧ w' = w := by
  have K := fun w => among_any t w
  unfold mir
  generalize t % 8 = q at *
  have HK := Lib.hid K
  clear K
  go_enter Try.func29, Try.ntmps29
  go_wp2_with (go_at_call 32; refine (HK.out _).mono ?_; rintro e w' ⟨rfl, rfl⟩)
  go_ret
  exact ⟨rfl, rfl⟩

/-- Does x become y, or -y? -/
def swp (t : Int) : Bool := t % 4 % 2 == 1
/-- The turn of n quarters, mirrored or not. -/
def ofT (m : Bool) (n : Int) : Int := if m = true then 4 + n % 4 else n % 4
theorem of_any (m : Bool) (n : Int) (w : World) : Calls Try.prog 31 #[.bool m, .int .i64 n] w fun e w' => e = .returned (.int .i64 (ofT m n)) ∧ w' = w := by
  have K := fun w => quarters_any n w
  unfold ofT
  have h0 : 0 ≤ n % 4 := by omega
  have h1 : n % 4 < 4 := by omega
  generalize n % 4 = q at *
  have HK := Lib.hid K
  clear K
  cases m
  all_goals
    go_enter Try.func31, Try.ntmps31
    go_wp2_with (go_at_call 30; refine (HK.out _).mono ?_; rintro e w' ⟨rfl, rfl⟩)
    go_ret
    exact ⟨rfl, rfl⟩

/-- a, and then b. -/
def thenT (a b : Int) : Int := ofT (mir a != mir b) ((if mir b = true then -(a % 4) else a % 4) + b % 4)
theorem then_any (a b : Int) (w : World) : Calls Try.prog 26 #[.int .i64 a, .int .i64 b] w fun e w' => e = .returned (.int .i64 (thenT a b)) ∧ w' = w := by
  have KA := fun w => quarters_any a w
  have KB := fun w => quarters_any b w
  have MA := fun w => mirrors_any a w
  have MB := fun w => mirrors_any b w
  unfold thenT
  have a0 : 0 ≤ a % 4 := by omega
  have a1 : a % 4 < 4 := by omega
  have b0 : 0 ≤ b % 4 := by omega
  have b1 : b % 4 < 4 := by omega
  generalize a % 4 = p at *
  generalize b % 4 = q at *
  generalize mir a = m at *
  generalize mir b = n at *
  have HA := Lib.hid KA; have HB := Lib.hid KB; have LA := Lib.hid MA; have LB := Lib.hid MB
  clear KA KB MA MB
  cases n
  all_goals
    go_enter Try.func26, Try.ntmps26
    go_wp2_with (first
      | (go_at_call 30; first | ((with_reducible refine (HA.out _).mono ?_); rintro e w' ⟨rfl, rfl⟩) | ((with_reducible refine (HB.out _).mono ?_); rintro e w' ⟨rfl, rfl⟩))
      | (go_at_call 29; first | ((with_reducible refine (LA.out _).mono ?_); rintro e w' ⟨rfl, rfl⟩) | ((with_reducible refine (LB.out _).mono ?_); rintro e w' ⟨rfl, rfl⟩))
      | (go_at_call 31; refine (of_any _ _ _).mono ?_; rintro e w' ⟨rfl, rfl⟩))
    go_ret
    exact ⟨rfl, rfl⟩

/-- The turn that undoes t. -/
def backT (t : Int) : Int := if mir t = true then t % 8 else ofT false (-(t % 4))
theorem back_any (t : Int) (w : World) : Calls Try.prog 27 #[.int .i64 t] w fun e w' => e = .returned (.int .i64 (backT t)) ∧ w' = w := by
  have K := fun w => among_any t w
  have Q := fun w => quarters_any t w
  have M := fun w => mirrors_any t w
  unfold backT
  have h0 : 0 ≤ t % 4 := by omega
  have h1 : t % 4 < 4 := by omega
  generalize t % 8 = r at *
  generalize t % 4 = q at *
  generalize mir t = m at *
  have HK := Lib.hid K; have HQ := Lib.hid Q; have HM := Lib.hid M
  clear K Q M
  cases m
  all_goals
    go_enter Try.func27, Try.ntmps27
    go_wp2_with (first
      | (go_at_call 32; refine (HK.out _).mono ?_; rintro e w' ⟨rfl, rfl⟩)
      | (go_at_call 30; refine (HQ.out _).mono ?_; rintro e w' ⟨rfl, rfl⟩)
      | (go_at_call 29; refine (HM.out _).mono ?_; rintro e w' ⟨rfl, rfl⟩)
      | (go_at_call 31; refine (of_any _ _ _).mono ?_; rintro e w' ⟨rfl, rfl⟩))
    go_ret
    exact ⟨rfl, rfl⟩
end Go.Proofs.Ythdemhahgjpdmaa
