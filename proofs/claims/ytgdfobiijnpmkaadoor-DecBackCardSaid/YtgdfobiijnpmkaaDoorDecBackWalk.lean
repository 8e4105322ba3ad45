/- The law DecBack answers true for every int and every text, where the library's variables are as the program's text lays them: a number comes back from its digits; no other text is a number's. -/
import Derived.Test.YtgdfobiijnpmkaaDoorDecIn
import Derived.Test.YtgdfobiijnpmkaaDoorDecLaid
import Derived.RowKit3
import Derived.OpenShut
namespace Go.Proofs.YtgdfobiijnpmkaaDoor
open Go.RowKit DecMath
set_option linter.unusedVariables false

set_option maxRecDepth 100000 in
set_option maxHeartbeats 400000 in
theorem walkDecBack (n : Int) (s : ByteArray) (h0 : (Lit.int .i64 n).wf = true) (hs : s.size ≤ 9223372036854775807) (w : World) (hg : Good w) :
    Calls Tryd.prog 3 #[.int .i64 n, .string s] w fun e w' => e = .returned (.bool true) ∧ Below w.heap.size w w' := by
  obtain ⟨n0, n1⟩ := bounds_i64 h0
  have G := Lib.hid hg
  by_cases hlen : 200 < s.size
  · clear hg
    go_enter Tryd.func3, Tryd.ntmps3
    go_wp2_with fail
    refine (alive2_any _ G.out).mono ?_
    rintro e w1 ⟨rfl, b1⟩
    have B1 := Lib.hid b1; clear b1
    go_wp2
    go_ret
    exact ⟨rfl, B1.out⟩
  · have sz := itoa_len n n0 n1
    have k1 := fun w (h : Good w) => put_any n w n0 n1 h
    have k2 := fun w (h : Good w) => get_any ⟨(Lib.itoa n).toArray⟩ w (by rw [str_size]; omega) h
    have k3 := fun w (h : Good w) => get_any s w hs h
    have k4 := fun w => refGet_any s w hs
    have k5 := fun w => refPut_any n w n0 n1
    simp only [numOf_itoa n n0 n1] at k2
    generalize numOf s.data.toList = p at *
    obtain ⟨k, y⟩ := p
    simp only at k3 k4
    have K1 := Lib.hid k1; have K2 := Lib.hid k2; have K3 := Lib.hid k3; have K4 := Lib.hid k4; have K5 := Lib.hid k5
    clear k1 k2 k3 k4 k5 hg sz
    go_enter Tryd.func3, Tryd.ntmps3
    go_wp2_with fail
    refine (alive2_any _ G.out).mono ?_
    rintro e w1 ⟨rfl, b⟩
    have B1 := Lib.hid b; clear b
    go_wp2_with fail
    refine (K1.out _ (G.out.below B1.out)).mono ?_
    rintro e w2 ⟨rfl, b⟩
    have B2 := Lib.hid (bl_trans B1.out b); clear b
    go_wp2_with fail
    refine (K2.out _ (G.out.below B2.out)).mono ?_
    rintro e w3 ⟨rfl, b⟩
    have B3 := Lib.hid (bl_trans B2.out b); clear b
    go_wp2_with fail
    refine (K3.out _ (G.out.below B3.out)).mono ?_
    rintro e w4 ⟨rfl, b⟩
    have B4 := Lib.hid (bl_trans B3.out b); clear b
    go_wp2_with fail
    refine (K4.out _).mono ?_
    rintro e w5 ⟨rfl, rfl⟩
    go_wp2_with fail
    refine (K1.out _ (G.out.below B4.out)).mono ?_
    rintro e w6 ⟨rfl, b⟩
    have B6 := Lib.hid (bl_trans B4.out b); clear b
    go_wp2_with fail
    refine (K5.out _).mono ?_
    rintro e w7 ⟨rfl, rfl⟩
    go_wp2
    go_ret
    exact ⟨rfl, B6.out⟩
end Go.Proofs.YtgdfobiijnpmkaaDoor
