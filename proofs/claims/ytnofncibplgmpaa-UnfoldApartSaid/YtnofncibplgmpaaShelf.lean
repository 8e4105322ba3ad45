/- The library's contracts at this program: each of the library's functions is compared, body by body, with the one that its contract was proved of. -/
import Derived.Shelf.SlGeneric
import Derived.Ground.SlgnProg
import Derived.Shelf.SlicesQ.Reverse
import Derived.Shelf.SlicesE.Clone
import Derived.Test.YtnofncibplgmpaaProg
namespace Go.Proofs
open Go.Shelf
def Try.laysSlgn35_ren : Go.Shelf.Ren := ⟨fun | 35 => 54 | n => n, fun | 22 => 59 | 23 => 42 | 3 => 3 | 4 => 4 | 0 => 0 | n => n, fun | n => n⟩
theorem Try.laysSlgn35 : Go.Proofs.SlLaysE0.n35 Try.prog Try.laysSlgn35_ren := {
  mixed := by kernel_rfl
  f35 := ⟨Try.f54.name, by decide, Try.func54.trans (congrArg some (by kernel_rfl))⟩
  t0 := Try.underlying0
  a0 := Try.isAgg0
  z0 := Try.sizeOf0
  v0 := Try.zeroValue0
  t3 := Try.underlying3
  a3 := Try.isAgg3
  z3 := Try.sizeOf3
  v3 := Try.zeroValue3
  t4 := Try.underlying4
  a4 := Try.isAgg4
  z4 := Try.sizeOf4
  v4 := Try.zeroValue4
  t22 := Try.underlying59
  a22 := Try.isAgg59
  z22 := Try.sizeOf59
  v22 := Try.zeroValue59 }
def Try.laysSlgn41_ren : Go.Shelf.Ren := ⟨fun | 41 => 42 | n => n, fun | 22 => 59 | 23 => 42 | 4 => 4 | n => n, fun | n => n⟩
theorem Try.laysSlgn41 : Go.Proofs.SlLaysE0.n41 Try.prog Try.laysSlgn41_ren := {
  mixed := by kernel_rfl
  f41 := ⟨Try.f42.name, by decide, Try.func42.trans (congrArg some (by kernel_rfl))⟩
  t4 := Try.underlying4
  a4 := Try.isAgg4
  z4 := Try.sizeOf4
  v4 := Try.zeroValue4
  t22 := Try.underlying59
  a22 := Try.isAgg59
  z22 := Try.sizeOf59
  v22 := Try.zeroValue59 }
end Go.Proofs
