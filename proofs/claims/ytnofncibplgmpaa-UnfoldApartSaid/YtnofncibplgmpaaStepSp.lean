/- A step, as plain data. -/
import Derived.Test.YtnofncibplgmpaaStepCode
namespace Go.Proofs.Ytnofncibplgmpaa
/-- A step. -/
structure Sp where
  d : Int
  n : Int
  u : Bool
deriving DecidableEq
end Go.Proofs.Ytnofncibplgmpaa
