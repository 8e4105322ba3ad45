/- gatherumlaw11.StepFolds answers true, for every number of columns and rows and every list of steps. -/
import Derived.Test.YteehfhfdcemgoaaDoorStepAlive
import Derived.Test.YteehfhfdcemgoaaDoorStepAll
import Derived.Test.YteehfhfdcemgoaaDoorDecLaid
import Derived.Test.YteehfhfdcemgoaaDoorOpenCells
import Derived.OpenShut
namespace Go.Proofs.YteehfhfdcemgoaaDoor
open Go.RowKit DecMath
set_option linter.unusedVariables false

/-- The steps that came in, as a list. -/
theorem steps_of (a : Option Addr) (len cap : Nat) (w : World)
    (h : (a = none ∧ len = 0 ∧ cap = 0) ∨ ∃ x, a = some x ∧ len ≤ cap ∧ cap ≤ maxLen ∧ ∀ i, i < len → (∃ z, w.cell? (x.add (i * 3 + 0)) = some (.int .i64 z) ∧ (Lit.int .i64 z).wf = true) ∧ (∃ z, w.cell? (x.add (i * 3 + 1)) = some (.int .i64 z) ∧ (Lit.int .i64 z).wf = true) ∧ (∃ z, w.cell? (x.add (i * 3 + 2)) = some (.bool z))) :
    ∃ l : List Sp, l.length = len ∧ (l = [] ∨ ∃ b off, a = some ⟨b, off, none⟩ ∧ InS w b off l) := by
  rcases h with ⟨rfl, rfl, rfl⟩ | ⟨x, rfl, hl, hm, hc⟩
  · exact ⟨[], rfl, .inl rfl⟩
  · by_cases h0 : len = 0
    · subst h0; exact ⟨[], rfl, .inl rfl⟩
    obtain ⟨b, off, spot⟩ := x
    have hspot : spot = none := by
      obtain ⟨⟨z, hz, _⟩, _⟩ := hc 0 (by omega)
      simpa [Addr.add] using World.cell?_spot hz
    subst hspot
    obtain ⟨l, e, hq⟩ := list_of (Q := fun i (p : Sp) => w.cell? ⟨b, off + i * 3, none⟩ = some (.int .i64 p.d) ∧ w.cell? ⟨b, off + i * 3 + 1, none⟩ = some (.int .i64 p.n) ∧ w.cell? ⟨b, off + i * 3 + 2, none⟩ = some (.bool p.u)) len (fun i hi => by
      obtain ⟨⟨d, h1, _⟩, ⟨n, h2, _⟩, u, h3⟩ := hc i hi
      rw [Go.WideShapes.add_plain] at h1 h2 h3
      exact ⟨⟨d, n, u⟩, by simpa using h1, by rw [Nat.add_assoc]; exact h2, by rw [Nat.add_assoc]; exact h3⟩)
    exact ⟨l, e, .inr ⟨b, off, rfl, hq⟩⟩

set_option maxHeartbeats 1000000 in
theorem folds_core (c r : Int) (a : Option Addr) (cap : Nat) (l : List Sp) (w : World) (x0 : (Lit.int .i64 c).wf = true) (x1 : (Lit.int .i64 r).wf = true) (ha : l = [] ∨ ∃ b off, a = some ⟨b, off, none⟩ ∧ InS w b off l) (hg : Tab w) :
    Calls Tryd.prog 4 #[.int .i64 c, .int .i64 r, .slice a l.length cap] w fun e w' => e = .returned (.bool true) ∧ Below w.heap.size w w' := by
  obtain ⟨c0, c1⟩ := bounds_i64 x0
  obtain ⟨r0, r1⟩ := bounds_i64 x1
  have G := Lib.hid hg
  clear hg x0 x1
  by_cases hlen : 100 < l.length
  · have z1 : (100 : Int) < (l.length : Int) := by omega
    clear ha
    generalize l.length = m at *
    go_enter Tryd.func4, Tryd.ntmps4
    go_wp2_with fail
    refine (stepAlive_any _ G.out).mono ?_
    rintro e w1 ⟨rfl, hb⟩
    have B1 := Lib.hid hb
    clear hb
    go_wp2
    go_ret
    exact ⟨rfl, B1.out⟩
  · have z1 : decide ((100 : Int) < (l.length : Int)) = false := by simp; omega
    have up : ∀ w1, Below w.heap.size w w1 → l = [] ∨ ∃ b off, a = some ⟨b, off, none⟩ ∧ InS w1 b off l := fun w1 hb => ha.imp id fun ⟨b, off, e, h⟩ => ⟨b, off, e, h.up hb⟩
    have KA := fun w1 (hb : Below w.heap.size w w1) => stepAll_any a cap c r l w1 c1 r1 (by omega) (up w1 hb)
    have KR := fun w1 (hb : Below w.heap.size w w1) => refAfter_any a cap c r l w1 c1 r1 (by omega) (up w1 hb)
    by_cases h1 : l.length = 1
    · obtain ⟨p, rfl⟩ := List.length_eq_one_iff.1 h1
      obtain ⟨b, off, rfl, hc⟩ := ha.resolve_left (by simp)
      obtain ⟨k0, k1, k2⟩ := hc 0 p rfl
      rw [Nat.zero_mul, Nat.add_zero] at k0 k1 k2
      rw [allS_one] at KA KR
      have KF := fun w => stepAfter_any c r p.d p.n p.u w c1 r1
      obtain ⟨pd, pn, pu⟩ := p
      simp only [List.length_singleton] at KA KR z1 h1 ⊢
      simp only at KF k0 k1 k2
      generalize aft c r pd pn = F at *
      obtain ⟨x, y, z⟩ := F
      simp only at KA KR KF
      have HA := Lib.hid KA; have HR := Lib.hid KR; have HF := Lib.hid KF
      clear KA KR KF hc up ha
      go_enter Tryd.func4, Tryd.ntmps4
      go_wp2_with fail
      refine (stepAlive_any _ G.out).mono ?_
      rintro e w1 ⟨rfl, hb⟩
      have B1 := Lib.hid hb
      clear hb
      go_wp2_with fail
      refine (HA.out _ B1.out).mono ?_
      rintro e w2 ⟨rfl, hb⟩
      have B2 := Lib.hid (up_trans B1.out hb)
      clear hb
      go_wp2_with fail
      refine (HR.out _ B2.out).mono ?_
      rintro e w3 ⟨rfl, hb⟩
      have B3 := Lib.hid (up_trans B2.out hb)
      clear hb
      have m0 := bl_cell B3.out k0; have m1 := bl_cell B3.out k1; have m2 := bl_cell B3.out k2
      clear k0 k1 k2
      go_wp2_with fail
      refine (HF.out _).mono ?_
      rintro e w4 ⟨rfl, hb⟩
      have B4 := Lib.hid (up_trans B3.out hb)
      clear hb
      go_wp2
      go_ret
      exact ⟨rfl, B4.out⟩
    · have z2 : ((l.length : Int) == 1) = false := by simp; omega
      generalize allS c r l = F at *
      obtain ⟨x, y, z⟩ := F
      simp only at KA KR
      have HA := Lib.hid KA; have HR := Lib.hid KR
      clear KA KR up ha
      generalize l.length = m at *
      go_enter Tryd.func4, Tryd.ntmps4
      go_wp2_with fail
      refine (stepAlive_any _ G.out).mono ?_
      rintro e w1 ⟨rfl, hb⟩
      have B1 := Lib.hid hb
      clear hb
      go_wp2_with fail
      refine (HA.out _ B1.out).mono ?_
      rintro e w2 ⟨rfl, hb⟩
      have B2 := Lib.hid (up_trans B1.out hb)
      clear hb
      go_wp2_with fail
      refine (HR.out _ B2.out).mono ?_
      rintro e w3 ⟨rfl, hb⟩
      have B3 := Lib.hid (up_trans B2.out hb)
      clear hb
      go_wp2
      go_ret
      exact ⟨rfl, B3.out⟩

theorem walkStepFolds (c r : Int) (a : Option Addr) (len cap : Nat) (w : World) (x0 : (Lit.int .i64 c).wf = true) (x1 : (Lit.int .i64 r).wf = true)
    (h : (a = none ∧ len = 0 ∧ cap = 0) ∨ ∃ x, a = some x ∧ len ≤ cap ∧ cap ≤ maxLen ∧ ∀ i, i < len → (∃ z, w.cell? (x.add (i * 3 + 0)) = some (.int .i64 z) ∧ (Lit.int .i64 z).wf = true) ∧ (∃ z, w.cell? (x.add (i * 3 + 1)) = some (.int .i64 z) ∧ (Lit.int .i64 z).wf = true) ∧ (∃ z, w.cell? (x.add (i * 3 + 2)) = some (.bool z))) (hg : Tab w) :
    Calls Tryd.prog 4 #[.int .i64 c, .int .i64 r, .slice a len cap] w fun e w' => e = .returned (.bool true) ∧ Below w.heap.size w w' := by
  obtain ⟨l, rfl, hp⟩ := steps_of a len cap w h
  exact folds_core c r a cap l w x0 x1 hp hg
end Go.Proofs.YteehfhfdcemgoaaDoor
