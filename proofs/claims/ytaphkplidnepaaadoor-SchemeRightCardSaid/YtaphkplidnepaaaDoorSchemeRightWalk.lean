/- gatherumlaw12.SchemeRight answers true, for every scheme. -/
import Derived.Test.YtaphkplidnepaaaDoorSchemeAlive
import Derived.Test.YtaphkplidnepaaaDoorStepArg
import Derived.Test.YtaphkplidnepaaaDoorSchemeLaid
import Derived.OpenShut
namespace Go.Proofs.YtaphkplidnepaaaDoor
open Go.RowKit DecMath
set_option linter.unusedVariables false

set_option maxHeartbeats 1000000 in
theorem right_core (c r : Int) (l : List Sp) (a : Option Addr) (cap : Nat) (w : World) (hc : c ≤ 9223372036854775807) (hr : r ≤ 9223372036854775807) (h : InL w a l) (hg : GoodM w) :
    Calls Tryd.prog 3 #[.agg #[.int .i64 c, .int .i64 r, .slice a l.length cap]] w fun e w' => e = .returned (.bool true) ∧ Below w.heap.size w w' := by
  have HG := Lib.hid hg
  have B0 := Lib.hid (up_alloc (Below.refl _ w) (.cells #[.int .i64 c, .int .i64 r, .slice a l.length cap] 24))
  by_cases hlen : 100 < l.length
  · have z1 : (100 : Int) < (l.length : Int) := by omega
    generalize l.length = m at *
    clear h hg
    go_enter Tryd.func3, Tryd.ntmps3
    go_wp2_with fail
    refine (schAlive_any _ (HG.out.below B0.out)).mono ?_
    rintro e w1 ⟨rfl, hb⟩
    have A1 := (Bx.new w 24 [.int .i64 c, .int .i64 r, .slice a m cap]).up hb
    have B1 := Lib.hid (up_trans B0.out hb)
    have a2 := A1.cell 2 rfl
    clear hb A1
    go_wp2
    go_ret
    exact ⟨rfl, B1.out⟩
  · have z1 : decide ((100 : Int) < (l.length : Int)) = false := by simp; omega
    have K1 := fun w1 (hI : InL w1 a l) => schRight_any ⟨c, r, l⟩ a cap w1 hc hr (by simp only; omega) hI
    have K2 := fun w1 (hI : InL w1 a l) => refFine_any ⟨c, r, l⟩ a cap w1 hc hr (by simp only; omega) hI
    have K3 := fun w1 => schPanels_any c r a l.length cap w1
    have K4 := fun w1 => refPanels_any c r a l.length cap w1
    have HI := Lib.hid h
    simp only at K1 K2
    generalize rightM ⟨c, r, l⟩ = R at *
    generalize panM c r = P at *
    generalize l.length = m at *
    have H1 := Lib.hid K1; have H2 := Lib.hid K2; have H3 := Lib.hid K3; have H4 := Lib.hid K4
    clear K1 K2 K3 K4 h hg
    go_enter Tryd.func3, Tryd.ntmps3
    go_wp2_with fail
    refine (schAlive_any _ (HG.out.below B0.out)).mono ?_
    rintro e w1 ⟨rfl, hb⟩
    have A1 := (Bx.new w 24 [.int .i64 c, .int .i64 r, .slice a m cap]).up hb
    have B1 := Lib.hid (up_trans B0.out hb)
    have HI1 := Lib.hid (HI.out.up B1.out)
    have a0 := A1.cell 0 rfl; have a1 := A1.cell 1 rfl; have a2 := A1.cell 2 rfl
    clear hb A1
    go_wp2_with fail
    refine later_start (w := w1) ?_
    intro v
    have j0 := fun v : Later w1 => v.cell a0
    have j1 := fun v : Later w1 => v.cell a1
    have j2 := fun v : Later w1 => v.cell a2
    clear a0 a1 a2
    refine wp_region_later (by kernel_rfl) (by kernel_rfl) ?_
    repeat (go_big_quiet_step ((first
      | (go_at_call 8; with_reducible exact Later.call (H1.out _ (HI1.out.up (Later.up _))))
      | (go_at_call 9; with_reducible exact Later.call (H2.out _ (HI1.out.up (Later.up _))))
      | (go_at_call 10; with_reducible exact Later.call (H3.out _))
      | (go_at_call 11; with_reducible exact Later.call (H4.out _)))))
    refine wpQuiet_nil ?_
    rintro _ ⟨v2, rfl⟩
    clear j0 j1 j2
    go_wp2
    go_ret
    exact ⟨by simp, up_trans B1.out v2.up⟩

theorem walkSchemeRight (c r : Int) (a : Option Addr) (len cap : Nat) (w : World) (x0 : (Lit.int .i64 c).wf = true) (x1 : (Lit.int .i64 r).wf = true)
    (h : (a = none ∧ len = 0 ∧ cap = 0) ∨ ∃ x, a = some x ∧ len ≤ cap ∧ cap ≤ maxLen ∧ ∀ i, i < len → (∃ z, w.cell? (x.add (i * 3 + 0)) = some (.int .i64 z) ∧ (Lit.int .i64 z).wf = true) ∧ (∃ z, w.cell? (x.add (i * 3 + 1)) = some (.int .i64 z) ∧ (Lit.int .i64 z).wf = true) ∧ (∃ z, w.cell? (x.add (i * 3 + 2)) = some (.bool z))) (hg : GoodM w) :
    Calls Tryd.prog 3 #[.agg #[.int .i64 c, .int .i64 r, .slice a len cap]] w fun e w' => e = .returned (.bool true) ∧ Below w.heap.size w w' := by
  obtain ⟨l, rfl, hp⟩ := steps_of a len cap w h
  exact right_core c r l a cap w (bounds_i64 x0).2 (bounds_i64 x1).2 hp hg
end Go.Proofs.YtaphkplidnepaaaDoor
