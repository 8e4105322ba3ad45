/- Plain facts behind a step's text: which step a text is of, and that a right step comes back from its text. -/
import Derived.Test.YtaphkplidnepaaaDoorDecIn
import Derived.Test.YtaphkplidnepaaaDoorStepCode
import Derived.Test.YtaphkplidnepaaaDoorWordsCode
import Derived.Test.YtaphkplidnepaaaDoorTexts
import Derived.Lib.Strings
namespace Go.Proofs.YtaphkplidnepaaaDoor
open Go.RowKit DecMath
set_option linter.unusedVariables false

/-- A step. -/
structure Sp where
  d : Int
  n : Int
  u : Bool
deriving DecidableEq
/-- The side of a letter; 0: there is none. -/
def sideO (c : UInt8) : Int := if c = 76 then 1 else if c = 82 then 2 else if c = 66 then 3 else if c = 84 then 4 else 0
/-- The letter of a side. -/
def sideC (d : Int) : UInt8 := if d = 1 then 76 else if d = 2 then 82 else if d = 3 then 66 else 84
theorem sideO_C {d : Int} (h0 : 1 ≤ d) (h1 : d ≤ 4) : sideO (sideC d) = d := by
  obtain rfl | rfl | rfl | rfl : d = 1 ∨ d = 2 ∨ d = 3 ∨ d = 4 := by omega
  all_goals decide
theorem sideO_bounds (c : UInt8) : 0 ≤ sideO c ∧ sideO c ≤ 4 := by unfold sideO; (repeat' split) <;> omega
/-- What stands ahead of a u at the end, and whether there is one. -/
def stripU (r : List UInt8) : List UInt8 × Bool := if r.getLast? = some 117 then (r.dropLast, true) else (r, false)
theorem stripU_trim (r : List UInt8) : Lib.trimSuffix r [117] = (stripU r).1 ∧ Lib.hasSuffix r [117] = (stripU r).2 := by
  have h : Lib.hasSuffix r [117] = decide (r.getLast? = some 117) := by
    unfold Lib.hasSuffix
    rw [Bool.eq_iff_iff, List.isSuffixOf_iff_suffix, decide_eq_true_eq]
    constructor
    · rintro ⟨a, rfl⟩; simp
    · intro h
      obtain ⟨a, rfl⟩ := List.getLast?_eq_some_iff.1 h
      exact ⟨a, rfl⟩
  unfold Lib.trimSuffix stripU
  rw [h]
  by_cases e : r.getLast? = some 117
  · rw [if_pos (by simpa using e), if_pos e]
    exact ⟨by rw [List.dropLast_eq_take]; rfl, by simpa using e⟩
  · rw [if_neg (by simpa using e), if_neg e]
    exact ⟨rfl, by simpa using e⟩
/-- The step of a text, and whether there is one. -/
def getS : List UInt8 → Sp × Bool
  | [] => (⟨0, 0, false⟩, false)
  | c :: r => if sideO c ≠ 0 ∧ (inOf (stripU r).1 1 64).2 = true then (⟨sideO c, (inOf (stripU r).1 1 64).1, (stripU r).2⟩, true) else (⟨0, 0, false⟩, false)
/-- The text of a step. -/
def textS (p : Sp) : List UInt8 := sideC p.d :: (Lib.itoa p.n ++ if p.u = true then [117] else [])
theorem inOf_itoa (n lo hi : Int) (n0 : -9223372036854775808 ≤ n) (n1 : n ≤ 9223372036854775807) (h0 : lo ≤ n) (h1 : n ≤ hi) : inOf (Lib.itoa n) lo hi = (n, true) := by
  unfold inOf
  rw [numOf_itoa n n0 n1, if_pos ⟨rfl, h0, h1⟩]
theorem itoa_last (n : Int) (n0 : 0 ≤ n) : (Lib.itoa n).getLast? ≠ some 117 := by
  unfold Lib.itoa
  rw [if_neg (by omega)]
  intro h
  have := digits_each n.toNat 117 (List.mem_of_getLast? h)
  revert this
  decide
theorem stripU_text (n : Int) (n0 : 0 ≤ n) (u : Bool) : stripU (Lib.itoa n ++ if u = true then [117] else []) = (Lib.itoa n, u) := by
  cases u
  · simp only [Bool.false_eq_true, if_false, List.append_nil]
    unfold stripU
    rw [if_neg (itoa_last n n0)]
  · simp [stripU]
theorem getS_text (p : Sp) (h : rightB p.d p.n = true) : getS (textS p) = (p, true) := by
  obtain ⟨⟨d0, d1⟩, n0, n1⟩ := rightB_true h
  obtain ⟨d, n, u⟩ := p
  simp only at d0 d1 n0 n1
  simp only [textS, getS, stripU_text n (by omega) u, sideO_C d0 d1, inOf_itoa n 1 64 (by omega) (by omega) n0 n1]
  rw [if_pos ⟨by omega, trivial⟩]
theorem getS_no {l : List UInt8} (h : (getS l).2 = false) : (getS l).1 = ⟨0, 0, false⟩ := by
  cases l with
  | nil => rfl
  | cons c r =>
    simp only [getS] at h ⊢
    split at h
    · cases h
    · rename_i hc; rw [if_neg hc]
theorem textS_len (p : Sp) (n0 : 0 ≤ p.n) (n1 : p.n ≤ 64) : (textS p).length ≤ 22 ∧ 2 ≤ (textS p).length := by
  have := itoa_len p.n (by omega) (by omega)
  unfold textS
  simp only [List.length_cons, List.length_append]
  split <;> simp <;> omega
end Go.Proofs.YtaphkplidnepaaaDoor
