/- What a row's list of variables and the world's shape give scheme's calls. -/
import Derived.Test.YtaphkplidnepaaaDoorSchemeRead
import Derived.Test.YtaphkplidnepaaaDoorDecLaid
import Derived.Shelf.Vars
namespace Go.Proofs.YtaphkplidnepaaaDoor
open Go.RowKit DecMath

/-- In every world of the program's shape the variable that Cut and Split read holds some number. -/
theorem mx_of {W : World} (h : W.ShapedOpen Tryd.prog) : Mx W :=
  cell_of_shapedOpen_int (g := 0) (t := 3) (zero := #[.int .i64 0]) h (of_decide_eq_true (by kernel_rfl)) (by kernel_rfl) rfl (by kernel_rfl) (by kernel_rfl) Tryd.underlying3
end Go.Proofs.YtaphkplidnepaaaDoor
