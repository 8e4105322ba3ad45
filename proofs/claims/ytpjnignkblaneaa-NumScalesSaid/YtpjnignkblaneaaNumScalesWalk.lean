/- The law NumScales answers true for every three ints: a product, divided, is the document's own, in whichever order the factors stand; no condition. -/
import Derived.Test.YtpjnignkblaneaaNumFloor
import Derived.RowKit3
import Derived.OpenShut
namespace Go.Proofs.Ytpjnignkblaneaa
open Go.RowKit NumMath
set_option linter.unusedVariables false

theorem walkNumScales (a b c : Int) (h0 : (Lit.int .i64 a).wf = true) (h1 : (Lit.int .i64 b).wf = true) (h2 : (Lit.int .i64 c).wf = true) (w : World) :
    Calls Try.prog 6 #[.int .i64 a, .int .i64 b, .int .i64 c] w fun e w' => e = .returned (.bool true) ∧ Grown w w' := by
  obtain ⟨a0, a1⟩ := i64_bd h0
  obtain ⟨b0, b1⟩ := i64_bd h1
  obtain ⟨c0, c1⟩ := i64_bd h2
  have k1 := fun w => muldiv_any a b c w a0 a1 b0 b1 c0 c1
  have k2 := fun w => muldiv_any b a c w b0 b1 a0 a1 c0 c1
  have k3 := fun w => refMulDiv_any a b c w a0 a1 b0 b1 c0 c1
  rw [md_comm] at k2
  generalize md a b c = p at *
  obtain ⟨q, x⟩ := p
  have K1 := Lib.hid k1; have K2 := Lib.hid k2; have K3 := Lib.hid k3; clear k1 k2 k3
  go_enter Try.func6, Try.ntmps6
  go_wp2_with fail
  refine (alive_any _).mono ?_
  rintro e w' ⟨rfl, n, rfl⟩
  go_wp2_with fail
  refine (K1.out _).mono ?_
  rintro e w' ⟨rfl, n2, rfl⟩
  go_wp2_with fail
  refine (K3.out _).mono ?_
  rintro e w' ⟨rfl, rfl⟩
  go_wp2_with fail
  refine (K2.out _).mono ?_
  rintro e w' ⟨rfl, n3, rfl⟩
  go_wp2
  go_ret
  exact ⟨rfl, grown_drewN _ _⟩
end Go.Proofs.Ytpjnignkblaneaa
