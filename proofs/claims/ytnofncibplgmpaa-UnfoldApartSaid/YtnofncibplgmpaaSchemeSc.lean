/- A scheme, as plain data. -/
import Derived.Test.YtnofncibplgmpaaStepSp
namespace Go.Proofs.Ytnofncibplgmpaa
/-- A scheme: columns, rows and steps. -/
structure Sc where
  c : Int
  r : Int
  l : List Sp
deriving DecidableEq
def zeroSc : Sc := ⟨0, 0, []⟩
def sideB (n : Int) : Bool := decide (1 ≤ n) && decide (n ≤ 64)
theorem sideB_true {n : Int} (h : sideB n = true) : 1 ≤ n ∧ n ≤ 64 := by simpa [sideB] using h
end Go.Proofs.Ytnofncibplgmpaa
