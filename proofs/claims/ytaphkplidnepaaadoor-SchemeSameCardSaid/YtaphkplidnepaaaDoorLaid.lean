/- What a row's list of variables gives dec.Put: the library's table of powers. -/
import Derived.Test.YtaphkplidnepaaaDoorDecPut
import Derived.Lib.LaidTab
import Derived.Stop.LaidErr
import Derived.MakeChecks
namespace Go.Proofs.YtaphkplidnepaaaDoor
open Go.RowKit

theorem laid_drop {P : Program} {W : World} : ∀ (i : Nat) {l : List (String × DataW Unit)}, laidMet P l W → laidMet P (l.drop i) W
  | 0, _, h => h
  | _ + 1, [], h => h
  | i + 1, _ :: _, h => laid_drop i h.tail
theorem gPow : Tryd.prog.globalNamed "internal/strconv.uint64pow10" = some 5 := by kernel_rfl
theorem tPow : (Tryd.prog.globals[5]?).map (·.type) = some 114 := by kernel_rfl
theorem cU64 : Tryd.prog.cellsOf 102 = 1 := by kernel_rfl
theorem cPow : Tryd.prog.cellsOf 114 = 20 := by kernel_rfl
/-- i: where the table stands in the list. -/
theorem tab_of {l : List (String × DataW Unit)} {W : World} (h : laidMet Tryd.prog l W) (i : Nat)
    (e1 : l.drop i = ("internal/strconv.uint64pow10", Lib.tabData .u64 Lib.pow10Tab) :: l.drop (i + 1)) : Tab W := by
  have h1 := laid_drop i h
  rw [e1] at h1
  exact Lib.tabIs_of_head gPow tPow Tryd.underlying114 Tryd.underlying102 cU64 cPow h1
end Go.Proofs.YtaphkplidnepaaaDoor
