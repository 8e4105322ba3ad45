/- gatherumlaw12.SchemeSame answers true, for every two schemes. -/
import Derived.Test.YtaphkplidnepaaaDoorSchemeAlive
import Derived.Test.YtaphkplidnepaaaDoorSchemeSame
import Derived.Test.YtaphkplidnepaaaDoorStepArg
import Derived.Test.YtaphkplidnepaaaDoorSchemeLaid
import Derived.OpenShut
namespace Go.Proofs.YtaphkplidnepaaaDoor
open Go.RowKit DecMath
set_option linter.unusedVariables false

set_option maxHeartbeats 2000000 in
theorem same_core (c r : Int) (l : List Sp) (a : Option Addr) (cap : Nat) (c' r' : Int) (l' : List Sp) (a' : Option Addr) (cap' : Nat) (w : World) (h : InL w a l) (h' : InL w a' l') (hg : GoodM w) :
    Calls Tryd.prog 4 #[.agg #[.int .i64 c, .int .i64 r, .slice a l.length cap], .agg #[.int .i64 c', .int .i64 r', .slice a' l'.length cap']] w fun e w' => e = .returned (.bool true) ∧ Below w.heap.size w w' := by
  have HG := Lib.hid hg
  obtain ⟨m, hm⟩ : ∃ m, l.length = m := ⟨_, rfl⟩
  obtain ⟨m', hm'⟩ : ∃ m', l'.length = m' := ⟨_, rfl⟩
  have K1 := fun (hl : l.length ≤ 1000000) w1 (hI : InL w1 a l) (hI' : InL w1 a' l') => schSame_any ⟨c, r, l⟩ ⟨c', r', l'⟩ a a' cap cap' w1 hl hI hI'
  have K2 := fun (hl : l.length ≤ 1000000) w1 (hI : InL w1 a l) (hI' : InL w1 a' l') => refSame_any ⟨c, r, l⟩ ⟨c', r', l'⟩ a a' cap cap' w1 hl hI hI'
  have K3 := fun (hl : l.length ≤ 1000000) w1 (hI : InL w1 a l) => schSame_any ⟨c, r, l⟩ ⟨c, r, l⟩ a a cap cap w1 hl hI hI
  rw [decide_eq_true rfl] at K3
  simp only at K1 K2 K3
  generalize decide ((⟨c, r, l⟩ : Sc) = ⟨c', r', l'⟩) = R at *
  have HI := Lib.hid h; have HI' := Lib.hid h'
  rw [hm, hm'] at K1 K2
  rw [hm] at K3
  rw [hm, hm']
  clear h h' hg hm hm'
  have B0 := Lib.hid (up_alloc (up_alloc (Below.refl _ w) (.cells #[.int .i64 c, .int .i64 r, .slice a m cap] 24)) (.cells #[.int .i64 c', .int .i64 r', .slice a' m' cap'] 24))
  have A0 := (Bx.new w 24 [.int .i64 c, .int .i64 r, .slice a m cap]).alloc (.cells #[.int .i64 c', .int .i64 r', .slice a' m' cap'] 24)
  have X0 := Bx.new (w.alloc (.cells #[.int .i64 c, .int .i64 r, .slice a m cap] 24)) 24 [.int .i64 c', .int .i64 r', .slice a' m' cap']
  simp only [World.size_alloc] at X0
  by_cases h1 : 100 < m
  · have z1 : (100 : Int) < (m : Int) := by omega
    clear K1 K2 K3
    go_enter Tryd.func4, Tryd.ntmps4
    go_wp2_with fail
    refine (schAlive_any _ (HG.out.below B0.out)).mono ?_
    rintro e w1 ⟨rfl, hb⟩
    have a2 := (A0.up hb).cell 2 rfl
    have B1 := Lib.hid (up_trans B0.out hb)
    clear hb A0 X0
    go_wp2
    go_ret
    exact ⟨rfl, B1.out⟩
  have z1 : decide ((100 : Int) < (m : Int)) = false := by simp; omega
  by_cases h2 : 100 < m'
  · have z2 : (100 : Int) < (m' : Int) := by omega
    clear K1 K2 K3
    go_enter Tryd.func4, Tryd.ntmps4
    go_wp2_with fail
    refine (schAlive_any _ (HG.out.below B0.out)).mono ?_
    rintro e w1 ⟨rfl, hb⟩
    have a2 := (A0.up hb).cell 2 rfl
    have b2 := (X0.up hb).cell 2 rfl
    have B1 := Lib.hid (up_trans B0.out hb)
    clear hb A0 X0
    go_wp2
    go_ret
    exact ⟨rfl, B1.out⟩
  · have z2 : decide ((100 : Int) < (m' : Int)) = false := by simp; omega
    have H1 := Lib.hid (K1 (by omega)); have H2 := Lib.hid (K2 (by omega)); have H3 := Lib.hid (K3 (by omega))
    clear K1 K2 K3
    go_enter Tryd.func4, Tryd.ntmps4
    go_wp2_with fail
    refine (schAlive_any _ (HG.out.below B0.out)).mono ?_
    rintro e w1 ⟨rfl, hb⟩
    have A1 := A0.up hb
    have X1 := X0.up hb
    have B1 := Lib.hid (up_trans B0.out hb)
    have HI1 := Lib.hid (HI.out.up B1.out)
    have HI1' := Lib.hid (HI'.out.up B1.out)
    have a0 := A1.cell 0 rfl; have a1 := A1.cell 1 rfl; have a2 := A1.cell 2 rfl
    have b0 := X1.cell 0 rfl; have b1 := X1.cell 1 rfl; have b2 := X1.cell 2 rfl
    clear hb A0 X0 A1 X1
    go_wp2_with fail
    refine later_start (w := w1) ?_
    intro v
    have j0 := fun v : Later w1 => v.cell a0
    have j1 := fun v : Later w1 => v.cell a1
    have j2 := fun v : Later w1 => v.cell a2
    have i0 := fun v : Later w1 => v.cell b0
    have i1 := fun v : Later w1 => v.cell b1
    have i2 := fun v : Later w1 => v.cell b2
    clear a0 a1 a2 b0 b1 b2
    refine wp_region_later (by kernel_rfl) (by kernel_rfl) ?_
    repeat (go_big_quiet_step ((first
      | (go_at_call 12; with_reducible exact Later.call (H1.out _ (HI1.out.up (Later.up _)) (HI1'.out.up (Later.up _))))
      | (go_at_call 12; with_reducible exact Later.call (H3.out _ (HI1.out.up (Later.up _))))
      | (go_at_call 13; with_reducible exact Later.call (H2.out _ (HI1.out.up (Later.up _)) (HI1'.out.up (Later.up _)))))))
    refine wpQuiet_nil ?_
    rintro _ ⟨v2, rfl⟩
    clear j0 j1 j2 i0 i1 i2
    go_wp2
    go_ret
    exact ⟨by simp, up_trans B1.out v2.up⟩

theorem walkSchemeSame (c r : Int) (a : Option Addr) (len cap : Nat) (c' r' : Int) (a' : Option Addr) (len' cap' : Nat) (w : World) (x0 : (Lit.int .i64 c).wf = true) (x1 : (Lit.int .i64 r).wf = true)
    (h : (a = none ∧ len = 0 ∧ cap = 0) ∨ ∃ x, a = some x ∧ len ≤ cap ∧ cap ≤ maxLen ∧ ∀ i, i < len → (∃ z, w.cell? (x.add (i * 3 + 0)) = some (.int .i64 z) ∧ (Lit.int .i64 z).wf = true) ∧ (∃ z, w.cell? (x.add (i * 3 + 1)) = some (.int .i64 z) ∧ (Lit.int .i64 z).wf = true) ∧ (∃ z, w.cell? (x.add (i * 3 + 2)) = some (.bool z)))
    (x0' : (Lit.int .i64 c').wf = true) (x1' : (Lit.int .i64 r').wf = true)
    (h' : (a' = none ∧ len' = 0 ∧ cap' = 0) ∨ ∃ x, a' = some x ∧ len' ≤ cap' ∧ cap' ≤ maxLen ∧ ∀ i, i < len' → (∃ z, w.cell? (x.add (i * 3 + 0)) = some (.int .i64 z) ∧ (Lit.int .i64 z).wf = true) ∧ (∃ z, w.cell? (x.add (i * 3 + 1)) = some (.int .i64 z) ∧ (Lit.int .i64 z).wf = true) ∧ (∃ z, w.cell? (x.add (i * 3 + 2)) = some (.bool z))) (hg : GoodM w) :
    Calls Tryd.prog 4 #[.agg #[.int .i64 c, .int .i64 r, .slice a len cap], .agg #[.int .i64 c', .int .i64 r', .slice a' len' cap']] w fun e w' => e = .returned (.bool true) ∧ Below w.heap.size w w' := by
  obtain ⟨l, rfl, hp⟩ := steps_of a len cap w h
  obtain ⟨l', rfl, hp'⟩ := steps_of a' len' cap' w h'
  exact same_core c r l a cap c' r' l' a' cap' w hp hp' hg
end Go.Proofs.YtaphkplidnepaaaDoor
