/- gatherumlaw13.UnfoldTells answers true, for every scheme. -/
import Derived.Deep.RegionHeld3
import Derived.Deep.DeepCutAuto
import Derived.BigRegion
import Derived.Test.YtnofncibplgmpaaUnfoldLaw
import Derived.OpenShut
namespace Go.Proofs.Ytnofncibplgmpaa
open Go.RowKit
set_option linter.unusedVariables false

theorem run_nePn (a : Int) (x y : Bool) (w : World) : (binOp .neq 31 (.agg #[.int .i64 a, .bool x, .bool y]) (.agg #[.int .i64 a, .bool x, .bool y])).run Try.prog w = .ok (.bool false) w := by simp [go_sem]

/-- Both lists are there. -/
def TwoRel (w1 : World) (m : Nat) (P : List Pn) (s t : Value) (wx : World) : Prop :=
  ∃ b b', s = .slice b m m ∧ t = .slice b' m m ∧ Hid (GotP wx b P) ∧ Hid (GotP wx b' P) ∧ Below w1.heap.size w1 wx
def TellRel (w2 : World) (m : Nat) (i : Value) (wx : World) : Prop := ∃ k : Nat, k ≤ m ∧ i = .int .i64 (k : Int) ∧ Below w2.heap.size w2 wx

set_option maxHeartbeats 2000000 in
theorem tells_core (c r : Int) (l : List Sp) (a : Option Addr) (cap : Nat) (w : World) (hc : c ≤ 9223372036854775807) (hr : r ≤ 9223372036854775807) (h : InL w a l) :
    Calls Try.prog 3 #[.agg #[.int .i64 c, .int .i64 r, .slice a l.length cap]] w fun e w' => e = .returned (.bool true) ∧ Below w.heap.size w w' := by
  have B0 := Lib.hid (up_alloc (Below.refl _ w) (.cells #[.int .i64 c, .int .i64 r, .slice a l.length cap] 24))
  by_cases hlen : 20 < l.length
  · have z1 : (20 : Int) < (l.length : Int) := by omega
    generalize l.length = m at *
    clear h
    go_enter Try.func3, Try.ntmps3
    go_wp2_with fail
    refine (unfAlive_any _).mono ?_
    rintro e w1 ⟨rfl, hb⟩
    have A1 := (Bx.new w 24 [.int .i64 c, .int .i64 r, .slice a m cap]).up hb
    have B1 := Lib.hid (up_trans B0.out hb)
    have a2 := A1.cell 2 rfl
    clear hb A1
    go_wp2
    go_ret
    exact ⟨rfl, B1.out⟩
  · have z1 : decide ((20 : Int) < (l.length : Int)) = false := by simp; omega
    have K1 := fun w1 (hI : InL w1 a l) => unfOf_any ⟨c, r, l⟩ a cap w1 hc hr (by simp only; omega) hI
    have K2 := fun w1 (hI : InL w1 a l) => refOf_any ⟨c, r, l⟩ a cap w1 hc hr (by simp only; omega) hI
    have K3 := fun w1 (hI : InL w1 a l) => unfOrder_any ⟨c, r, l⟩ a cap w1 hc hr (by simp only; omega) hI
    have hPl := panR_length ⟨c, r, l⟩
    have hPa := panR_at ⟨c, r, l⟩
    simp only at K1 K2 K3
    generalize panR ⟨c, r, l⟩ = P at *
    generalize numR ⟨c, r, l⟩ = N at *
    obtain ⟨m, hm⟩ : ∃ m, P.length = m := ⟨_, rfl⟩
    have hN : N.length = m := by rw [← hm]; exact hPl.2
    rw [hm] at K1 K2 hPa
    rw [hN] at K3 hPa
    have hm64 : m ≤ 64 := by rw [← hm]; exact hPl.1
    have HI := Lib.hid h
    generalize l.length = n at *
    have H1 := Lib.hid K1; have H2 := Lib.hid K2; have H3 := Lib.hid K3; have HPa := Lib.hid hPa; have HM := Lib.hid hm
    clear K1 K2 K3 h hPl hPa hm hN
    go_enter Try.func3, Try.ntmps3
    go_wp2_with fail
    refine (unfAlive_any _).mono ?_
    rintro e w1 ⟨rfl, hb⟩
    have A1 := (Bx.new w 24 [.int .i64 c, .int .i64 r, .slice a n cap]).up hb
    have B1 := Lib.hid (up_trans B0.out hb)
    have HI1 := Lib.hid (HI.out.up B1.out)
    have a0 := A1.cell 0 rfl; have a1 := A1.cell 1 rfl; have a2 := A1.cell 2 rfl
    have hsz := B1.out.size
    clear hb
    go_upto_region 5 with fail
    go_cut [3, 4] (fun s t wx => TwoRel w1 m P s t wx)
    case first =>
      have KS : ∀ w' : World, Below w1.heap.size w1 w' → w'.cell? ⟨w.heap.size, 0, none⟩ = some (.int .i64 c) ∧ w'.cell? ⟨w.heap.size, 1, none⟩ = some (.int .i64 r) ∧ w'.cell? ⟨w.heap.size, 2, none⟩ = some (.slice a n cap) := fun w' h =>
        have X := A1.up h
        ⟨X.cell 0 rfl, X.cell 1 rfl, X.cell 2 rfl⟩
      have HKS := Lib.hid KS
      clear KS a0 a1 a2 A1
      go_region_held3 (fun w' => w'.cell? ⟨w.heap.size, 0, none⟩ = some (.int .i64 c) ∧ w'.cell? ⟨w.heap.size, 1, none⟩ = some (.int .i64 r) ∧ w'.cell? ⟨w.heap.size, 2, none⟩ = some (.slice a n cap))
        ((refine HKS.out _ ?_; first | exact hb2 | exact hb1 | exact up_drew (Below.refl _ _)))
        (first
          | (go_at_call 7; with_reducible refine Calls.mono (H1.out _ (HI1.out.up (up_drew (Below.refl _ _)))) ?_; rintro e w3 ⟨b1, rfl, hg1, hb1⟩; replace hb1 := up_trans (up_drew (Below.refl _ w1)) hb1)
          | (go_at_call 8; with_reducible refine Calls.mono (H2.out _ (HI1.out.up hb1)) ?_; rintro e w4 ⟨b2, rfl, hg2, hb2⟩; replace hg1 := hg1.up hb2; replace hb2 := up_trans hb1 hb2))
      rename_i hHeld
      clear hHeld
      have HG1 := Lib.hid hg1; have HG2 := Lib.hid hg2; have HB2 := Lib.hid hb2
      clear hg1 hg2 hb1 hb2
      go_wp2
      go_meet
      exact ⟨b1, b2, rfl, rfl, HG1, HG2, HB2.out⟩
    case rest =>
      obtain ⟨b1, b2, rfl, rfl, HG1, HG2, hb⟩ := hcut
      have X := A1.up hb
      clear a0 a1 a2
      have a0 := X.cell 0 rfl; have a1 := X.cell 1 rfl; have a2 := X.cell 2 rfl
      have HB := Lib.hid hb; have HI2 := Lib.hid (HI1.out.up hb)
      clear hb X
      go_wp2_with fail
      refine (H3.out _ HI2.out).mono ?_
      rintro e w5 ⟨b3, c3, rfl, hg3, hb5⟩
      have HG1' := Lib.hid (HG1.out.up hb5); have HG2' := Lib.hid (HG2.out.up hb5); have HG3 := Lib.hid hg3; have HB5 := Lib.hid (up_trans HB.out hb5)
      clear hb5 hg3 HG1 HG2 HB HI2 a0 a1 a2
      go_wp2
      go_loopw [6] (fun i wx => TellRel w5 m i wx) (fun i _ => m - (intOf i).toNat)
      case atStart => exact ⟨0, by omega, by go_num, Below.refl _ _⟩
      case round =>
        obtain ⟨k, hk, rfl, hb⟩ := hrel
        by_cases hlt : k < m
        · obtain ⟨j, p, hp, hpj, hj, hn⟩ := HPa.out k hlt
          obtain ⟨g1, rfl, hr1⟩ := (HG1'.out.up hb).resolve_left (by rintro rfl; cases hp)
          obtain ⟨g2, rfl, hr2⟩ := (HG2'.out.up hb).resolve_left (by rintro rfl; cases hp)
          obtain ⟨g3, rfl, hr3⟩ := (HG3.out.up hb).resolve_left (by rintro rfl; cases hn)
          obtain ⟨p0, p1, p2⟩ := hr1.cells hp
          obtain ⟨q0, q1, q2⟩ := hr2.cells hp
          have n0 := hr3 _ _ hn
          obtain ⟨pl, px, py⟩ := p
          simp only at hpj p0 p1 p2 q0 q1 q2
          subst hpj
          have ne := fun w => run_nePn (j : Int) px py w
          have z0 : (0 : Int) ≤ (k : Int) := by omega
          have z2 : (k : Int) < (m : Int) := by omega
          have y0 : (0 : Int) ≤ (j : Int) := by omega
          have y1 : (j : Int) < (m : Int) := by omega
          have HBx := Lib.hid hb
          have KU := fun w => unfUp_any (j : Int) px py w
          obtain ⟨ub, hub⟩ : ∃ u, (px == py) = u := ⟨_, rfl⟩
          rw [hub] at KU
          have HU := Lib.hid KU
          clear hb hr1 hr2 hr3 hp hn KU
          go_wp2_with fail
          refine later_start (w := wr) ?_
          intro v
          have j0 := fun v : Later wr => v.cell p0
          have j1 := fun v : Later wr => v.cell p1
          have j2 := fun v : Later wr => v.cell p2
          have i0 := fun v : Later wr => v.cell q0
          have i1 := fun v : Later wr => v.cell q1
          have i2 := fun v : Later wr => v.cell q2
          have k0 := fun v : Later wr => v.cell n0
          clear p0 p1 p2 q0 q1 q2 n0
          refine wp_region_later (by kernel_rfl) (by kernel_rfl) ?_
          repeat (go_big_quiet_step ((go_at_call 10; with_reducible exact Later.call (HU.out _))))
          refine wpQuiet_nil ?_
          rintro _ ⟨v2, rfl⟩
          have HB6 := Lib.hid (up_trans HBx.out v2.up)
          clear j0 j1 j2 i0 i1 i2 k0
          generalize v2.now = w6 at *
          clear v v2 HBx
          go_wp2
          refine ⟨⟨k + 1, by omega, by go_num, HB6.out⟩, by simp [intOf]; omega⟩
        · have hk2 : k = m := by omega
          subst hk2
          have HBx := Lib.hid hb
          clear hb
          go_wp2
          go_ret
          exact ⟨rfl, up_trans B1.out (up_trans HB5.out HBx.out)⟩

theorem walkUnfoldTells (c r : Int) (a : Option Addr) (len cap : Nat) (w : World) (x0 : (Lit.int .i64 c).wf = true) (x1 : (Lit.int .i64 r).wf = true)
    (h : (a = none ∧ len = 0 ∧ cap = 0) ∨ ∃ x, a = some x ∧ len ≤ cap ∧ cap ≤ maxLen ∧ ∀ i, i < len → (∃ z, w.cell? (x.add (i * 3 + 0)) = some (.int .i64 z) ∧ (Lit.int .i64 z).wf = true) ∧ (∃ z, w.cell? (x.add (i * 3 + 1)) = some (.int .i64 z) ∧ (Lit.int .i64 z).wf = true) ∧ (∃ z, w.cell? (x.add (i * 3 + 2)) = some (.bool z))) :
    Calls Try.prog 3 #[.agg #[.int .i64 c, .int .i64 r, .slice a len cap]] w fun e w' => e = .returned (.bool true) ∧ Below w.heap.size w w' := by
  obtain ⟨l, rfl, hp⟩ := steps_of a len cap w h
  exact tells_core c r l a cap w (bounds_i64 x0).2 (bounds_i64 x1).2 hp
end Go.Proofs.Ytnofncibplgmpaa
