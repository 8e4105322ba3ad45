/- What a row's list of variables gives dec's calls: the library's table of powers and its two errors. -/
import Derived.Test.YtaphkplidnepaaaDoorDecCode
import Derived.Test.YtaphkplidnepaaaDoorLaid
namespace Go.Proofs.YtaphkplidnepaaaDoor
open Go.RowKit DecMath

theorem gSyn : Tryd.prog.globalNamed "strconv.ErrSyntax" = some 3 := by kernel_rfl
theorem gRng : Tryd.prog.globalNamed "strconv.ErrRange" = some 4 := by kernel_rfl
theorem tSyn : (Tryd.prog.globals[3]?).map (·.type) = some 75 := by kernel_rfl
theorem tRng : (Tryd.prog.globals[4]?).map (·.type) = some 75 := by kernel_rfl
theorem cErr : Tryd.prog.cellsOf 122 = 1 := by kernel_rfl
theorem cStr : Tryd.prog.cellsOf 9 = 1 := by kernel_rfl
theorem star : "*" ++ "errors.errorString" = "*errors.errorString" := by decide
theorem rowErr (u : TypeId) (h : Tryd.prog.typeName? 3 u = some "*errors.errorString") : u = 120 :=
  typeName_ptr_named (nm := "errors.errorString") (by rw [star]; kernel_rfl) (by kernel_rfl) (by decide) u (by rw [star]; exact h)

/-- i, j, k: where the table, the range's error and the syntax's error stand in the list. -/
theorem good_of {l : List (String × DataW Unit)} {W : World} (h : laidMet Tryd.prog l W) (i j k : Nat)
    (e1 : l.drop i = ("internal/strconv.uint64pow10", Lib.tabData .u64 Lib.pow10Tab) :: l.drop (i + 1))
    (e2 : l.drop j = ("strconv.ErrRange", .iface "*errors.errorString" (.ptr (.agg [.lit (.string [118, 97, 108, 117, 101, 32, 111, 117, 116, 32, 111, 102, 32, 114, 97, 110, 103, 101])]))) :: l.drop (j + 1))
    (e3 : l.drop k = ("strconv.ErrSyntax", .iface "*errors.errorString" (.ptr (.agg [.lit (.string [105, 110, 118, 97, 108, 105, 100, 32, 115, 121, 110, 116, 97, 120])]))) :: l.drop (k + 1)) : Good W := by
  have h1 := laid_drop i h
  have h2 := laid_drop j h
  have h3 := laid_drop k h
  rw [e1] at h1
  rw [e2] at h2
  rw [e3] at h3
  obtain ⟨a2, s2, v2, -, -, -⟩ := laid_sentinel h2 gRng tRng Tryd.underlying75 rowErr Tryd.underlying120 Tryd.underlying122 rfl rfl Tryd.underlying9 cErr cStr
  obtain ⟨a3, s3, v3, -, -, -⟩ := laid_sentinel h3 gSyn tSyn Tryd.underlying75 rowErr Tryd.underlying120 Tryd.underlying122 rfl rfl Tryd.underlying9 cErr cStr
  exact ⟨Lib.tabIs_of_head gPow tPow Tryd.underlying114 Tryd.underlying102 cU64 cPow h1, ⟨_, _, v3⟩, _, _, v2⟩
end Go.Proofs.YtaphkplidnepaaaDoor
