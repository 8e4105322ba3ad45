/- Plain arithmetic behind layer 2 (dec): the digits of a number come back as that number, by strconv's reading and by the digit-by-digit one; no condition but the range of an int. -/
import Derived.Lib.ItoaNum
import Derived.Lib.AtoiAllCases
namespace Go.Proofs.YtaphkplidnepaaaDoor.DecMath
open Go.Lib

theorem digit_toNat (d : Nat) (h : d < 10) : (UInt8.ofNat (48 + d)).toNat = 48 + d := by
  rw [UInt8.toNat_ofNat']; omega

theorem parse_snoc (c : UInt8) : ∀ (l : List UInt8) (acc m : Nat), parseUint10 acc l = .ok m → parseUint10 acc (l ++ [c]) = parseUint10 m [c]
  | [], acc, m, h => by simp only [parseUint10] at h; injection h with h; subst h; rfl
  | x :: r, acc, m, h => by
    simp only [parseUint10, List.cons_append] at h ⊢
    split at h
    · rename_i hx
      rw [if_pos hx]
      split at h
      · cases h
      · rename_i h2
        rw [if_neg h2]
        split at h
        · cases h
        · rename_i h3
          rw [if_neg h3]
          simpa [parseUint10] using parse_snoc c r _ m h
    · cases h

theorem parse_digits (u : Nat) (h : u < 18446744073709551616) : parseUint10 0 (decDigits u) = .ok u := by
  induction u using Nat.strongRecOn with
  | ind u ih =>
    rw [decDigits]
    by_cases hu : u < 10
    · rw [dif_pos hu]
      simp only [parseUint10, digit_toNat u hu]
      rw [if_pos (by omega), if_neg (by omega), if_neg (by omega)]
      congr 1; omega
    · rw [dif_neg hu, parse_snoc _ _ _ _ (ih (u / 10) (by omega) (by omega))]
      simp only [parseUint10, digit_toNat (u % 10) (by omega)]
      rw [if_pos (by omega), if_neg (by omega), if_neg (by omega)]
      congr 1; omega

theorem digits_ne (u : Nat) : decDigits u ≠ [] := by
  rw [decDigits]; split <;> simp

/-- Each octet of a number's digits is a digit. -/
theorem digits_each (u : Nat) : ∀ c ∈ decDigits u, 48 ≤ c.toNat ∧ c.toNat ≤ 57 := by
  induction u using Nat.strongRecOn with
  | ind u ih =>
    rw [decDigits]
    by_cases hu : u < 10
    · rw [dif_pos hu]
      intro c hc
      simp only [List.mem_singleton] at hc
      subst hc
      rw [digit_toNat u hu]; omega
    · rw [dif_neg hu]
      intro c hc
      simp only [List.mem_append, List.mem_singleton] at hc
      rcases hc with hc | rfl
      · exact ih (u / 10) (by omega) c hc
      · rw [digit_toNat (u % 10) (by omega)]; omega

theorem mag_digits (u : Nat) (h : u < 18446744073709551616) : parseMag (decDigits u) = .ok u := by
  rw [parseMag, if_neg (digits_ne u), parse_digits u h]

theorem atoi_itoa (n : Int) (n0 : -9223372036854775808 ≤ n) (n1 : n ≤ 9223372036854775807) : atoiAll (itoa n) = .ok n := by
  unfold itoa
  split
  · rw [atoiAll_minus, mag_digits _ (by omega)]
    simp only [signed]
    rw [if_neg (by omega)]
    congr 1; omega
  · obtain ⟨c, r, e⟩ := List.exists_cons_of_ne_nil (digits_ne n.toNat)
    have hc := digits_each n.toNat c (by rw [e]; simp)
    have hm := mag_digits n.toNat (by omega)
    rw [e] at hm ⊢
    rw [atoiAll_plain c r (by omega) (by omega), hm]
    simp only [signless]
    rw [if_neg (by omega)]
    congr 1; omega

/-- The number whose digits l are, and whether there is one. -/
def numOf (l : List UInt8) : Int × Bool :=
  match atoiAll l with
  | .ok v => if itoa v = l then (v, true) else (0, false)
  | _ => (0, false)

theorem numOf_itoa (n : Int) (n0 : -9223372036854775808 ≤ n) (n1 : n ≤ 9223372036854775807) : numOf (itoa n) = (n, true) := by
  simp [numOf, atoi_itoa n n0 n1]

theorem numOf_none (l : List UInt8) (h : ∀ n : Int, -9223372036854775808 ≤ n → n ≤ 9223372036854775807 → itoa n ≠ l) : numOf l = (0, false) := by
  unfold numOf
  split
  · rename_i v hv
    have := atoiAll_bounds hv
    rw [if_neg (h v this.1 this.2)]
  · rfl

theorem numOf_cases (l : List UInt8) : (∃ n : Int, (-9223372036854775808 ≤ n ∧ n ≤ 9223372036854775807) ∧ itoa n = l ∧ numOf l = (n, true)) ∨
    ((∀ n : Int, -9223372036854775808 ≤ n → n ≤ 9223372036854775807 → itoa n ≠ l) ∧ numOf l = (0, false)) := by
  by_cases h : ∃ n : Int, (-9223372036854775808 ≤ n ∧ n ≤ 9223372036854775807) ∧ itoa n = l
  · obtain ⟨n, hn, rfl⟩ := h
    exact .inl ⟨n, hn, rfl, numOf_itoa n hn.1 hn.2⟩
  · have h' : ∀ n : Int, -9223372036854775808 ≤ n → n ≤ 9223372036854775807 → itoa n ≠ l := fun n a b e => h ⟨n, ⟨a, b⟩, e⟩
    exact .inr ⟨h', numOf_none l h'⟩

theorem nDigits_le : ∀ (k u : Nat), u < 10 ^ (k + 1) → nDigits u ≤ k + 1
  | 0, u, h => by rw [nDigits_small (by omega)]; omega
  | k + 1, u, h => by
    by_cases hu : u < 10
    · rw [nDigits_small hu]; omega
    · rw [nDigits_big hu]
      have := nDigits_le k (u / 10) (by have : 10 ^ (k + 1 + 1) = 10 ^ (k + 1) * 10 := Nat.pow_succ ..; omega)
      omega

theorem itoa_len (n : Int) (n0 : -9223372036854775808 ≤ n) (n1 : n ≤ 9223372036854775807) : 1 ≤ (itoa n).length ∧ (itoa n).length ≤ 20 := by
  unfold itoa
  split
  · have := nDigits_le 18 n.natAbs (by omega)
    simp only [List.length_cons, decDigits_length]; omega
  · have := nDigits_le 18 n.toNat (by omega)
    have := nDigits_pos n.toNat
    simp only [decDigits_length]; omega

/-- One round of the digit-by-digit reading. -/
def rd (neg : Bool) (n : Int) (c : UInt8) : Int := if neg then n * 10 - (c.toNat - 48) else n * 10 + (c.toNat - 48)
def w64 (n : Int) : Int := (n + 9223372036854775808) % 18446744073709551616 - 9223372036854775808

/-- The digit-by-digit reading of what stands behind the sign. -/
def rg (neg : Bool) (n : Int) : List UInt8 → Option Int
  | [] => some n
  | c :: r => if c.toNat < 48 ∨ 57 < c.toNat then none else rg neg (w64 (rd neg n c)) r

theorem rg_snoc (neg : Bool) (c : UInt8) : ∀ (l : List UInt8) (n m : Int), rg neg n l = some m → rg neg n (l ++ [c]) = rg neg m [c]
  | [], n, m, h => by simp only [rg] at h; injection h with h; subst h; rfl
  | x :: r, n, m, h => by
    simp only [rg, List.cons_append] at h ⊢
    split at h
    · cases h
    · rename_i hx
      rw [if_neg hx]
      simpa [rg] using rg_snoc neg c r _ m h

theorem rg_digits (neg : Bool) (u : Nat) (h : u ≤ 9223372036854775807 ∨ (neg = true ∧ u ≤ 9223372036854775808)) :
    rg neg 0 (decDigits u) = some (if neg then -(u : Int) else u) := by
  induction u using Nat.strongRecOn with
  | ind u ih =>
    rw [decDigits]
    by_cases hu : u < 10
    · rw [dif_pos hu]
      simp only [rg, digit_toNat u hu]
      rw [if_neg (by omega)]
      have e := digit_toNat u hu
      cases neg
      · simp only [rd, w64, e, Bool.false_eq_true, if_false, Option.some.injEq]; omega
      · simp only [rd, w64, e, if_true, Option.some.injEq]; omega
    · rw [dif_neg hu, rg_snoc _ _ _ _ _ (ih (u / 10) (by omega) (by omega))]
      simp only [rg, digit_toNat (u % 10) (by omega)]
      rw [if_neg (by omega)]
      have e := digit_toNat (u % 10) (by omega)
      cases neg
      · have h' : u ≤ 9223372036854775807 := by simpa using h
        simp only [rd, w64, e, Bool.false_eq_true, if_false, Option.some.injEq]; omega
      · simp only [rd, w64, e, if_true, Option.some.injEq]; omega

theorem rg_bd (neg : Bool) : ∀ (l : List UInt8) (n m : Int), -9223372036854775808 ≤ n → n ≤ 9223372036854775807 → rg neg n l = some m → -9223372036854775808 ≤ m ∧ m ≤ 9223372036854775807
  | [], n, m, a, b, h => by simp only [rg] at h; injection h with h; subst h; exact ⟨a, b⟩
  | x :: r, n, m, a, b, h => by
    simp only [rg] at h
    split at h
    · cases h
    · refine rg_bd neg r _ m ?_ ?_ h <;> unfold w64 <;> omega

/-- The digits that are left to write: none for 0. -/
def td (u : Nat) : List UInt8 := if u = 0 then [] else decDigits u
theorem td_step (u : Nat) (h : u ≠ 0) : td u = td (u / 10) ++ [UInt8.ofNat (48 + u % 10)] := by
  unfold td
  rw [if_neg h]
  by_cases hu : u < 10
  · rw [if_pos (by omega), decDigits, dif_pos hu, show u % 10 = u from by omega]; rfl
  · rw [if_neg (by omega), decDigits, dif_neg hu]

end Go.Proofs.YtaphkplidnepaaaDoor.DecMath
