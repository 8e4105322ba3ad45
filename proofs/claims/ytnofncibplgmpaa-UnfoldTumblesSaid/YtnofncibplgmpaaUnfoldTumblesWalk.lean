/- gatherumlaw13.UnfoldTumbles answers true, for every panel and number. -/
import Derived.Test.YtnofncibplgmpaaUnfoldAlive
import Derived.Test.YtnofncibplgmpaaLater
import Derived.OpenShut
namespace Go.Proofs.Ytnofncibplgmpaa
open Go.RowKit
set_option linter.unusedVariables false

theorem run_samePn (a : Int) (x y : Bool) (w : World) : (binOp .eql 31 (.agg #[.int .i64 a, .bool x, .bool y]) (.agg #[.int .i64 a, .bool x, .bool y])).run Try.prog w = .ok (.bool true) w := by simp [go_sem]

set_option maxHeartbeats 1000000 in
theorem tumbles_core (a n Q m : Int) (x y z u v : Bool) (w : World) (h0 : wrap64 (n - 1) = m) (h1 : wrap64 (m - a) = Q) (hz : (!y) = z) (huv : (u != v) = true)
    (KT1 : ∀ w, Calls Try.prog 12 #[.agg #[.int .i64 a, .bool x, .bool y], .int .i64 n] w fun e w' => e = .returned (.agg #[.int .i64 Q, .bool x, .bool z]) ∧ Below w.heap.size w w')
    (KT2 : ∀ w, Calls Try.prog 12 #[.agg #[.int .i64 Q, .bool x, .bool z], .int .i64 n] w fun e w' => e = .returned (.agg #[.int .i64 a, .bool x, .bool y]) ∧ Below w.heap.size w w')
    (KU1 : ∀ w, Calls Try.prog 10 #[.agg #[.int .i64 Q, .bool x, .bool z]] w fun e w' => e = .returned (.bool u) ∧ Below w.heap.size w w')
    (KU2 : ∀ w, Calls Try.prog 10 #[.agg #[.int .i64 a, .bool x, .bool y]] w fun e w' => e = .returned (.bool v) ∧ Below w.heap.size w w') :
    Calls Try.prog 5 #[.agg #[.int .i64 a, .bool x, .bool y], .int .i64 n] w fun e w' => e = .returned (.bool true) ∧ Below w.heap.size w w' := by
  have s1 := fun w => run_samePn Q x z w
  have s2 := fun w => run_samePn a x y w
  have T1 := Lib.hid KT1; have T2 := Lib.hid KT2; have U1 := Lib.hid KU1; have U2 := Lib.hid KU2; have HUV := Lib.hid huv
  have B0 := Lib.hid (up_alloc (Below.refl _ w) (.cells #[.int .i64 a, .bool x, .bool y] 31))
  clear KT1 KT2 KU1 KU2 huv
  go_enter Try.func5, Try.ntmps5
  go_wp2_with fail
  refine (unfAlive_any _).mono ?_
  rintro e w1 ⟨rfl, hb⟩
  have A1 := (Bx.new w 31 [.int .i64 a, .bool x, .bool y]).up hb
  have B1 := Lib.hid (up_trans B0.out hb)
  have a0 := A1.cell 0 rfl; have a1 := A1.cell 1 rfl; have a2 := A1.cell 2 rfl
  clear hb
  go_wp2_with fail
  refine (T1.out _).mono ?_
  rintro e w2 ⟨rfl, hb⟩
  have A2 := (A1.up hb).alloc (.cells #[.int .i64 Q, .bool x, .bool z] 31)
  have Q2 := Bx.new w2 31 [.int .i64 Q, .bool x, .bool z]
  have B2 := Lib.hid (up_alloc (up_trans B1.out hb) (.cells #[.int .i64 Q, .bool x, .bool z] 31))
  clear hb a0 a1 a2 A1
  obtain ⟨E, hE⟩ : ∃ E, w2.heap.size = E := ⟨_, rfl⟩
  rw [hE] at Q2
  go_wp2_with fail
  generalize w2.alloc (.cells #[.int .i64 Q, .bool x, .bool z] 31) = w3 at *
  have a0 := A2.cell 0 rfl; have a1 := A2.cell 1 rfl; have a2 := A2.cell 2 rfl
  have b0 := Q2.cell 0 rfl; have b1 := Q2.cell 1 rfl; have b2 := Q2.cell 2 rfl
  clear A2 Q2
  refine later_start (w := w3) ?_
  intro r
  have j0 := fun r : Later w3 => r.cell a0
  have j1 := fun r : Later w3 => r.cell a1
  have j2 := fun r : Later w3 => r.cell a2
  have i0 := fun r : Later w3 => r.cell b0
  have i1 := fun r : Later w3 => r.cell b1
  have i2 := fun r : Later w3 => r.cell b2
  clear a0 a1 a2 b0 b1 b2
  refine wp_region_later (by kernel_rfl) (by kernel_rfl) ?_
  repeat (go_big_quiet_step ((first
    | (go_at_call 12; with_reducible exact Later.call (T2.out _))
    | (go_at_call 10; with_reducible exact Later.call (U1.out _))
    | (go_at_call 10; with_reducible exact Later.call (U2.out _)))))
  refine wpQuiet_nil ?_
  rintro _ ⟨r2, rfl⟩
  clear j0 j1 j2 i0 i1 i2 s1 s2
  go_wp2
  go_ret
  have e := HUV.out
  refine ⟨?_, up_trans B2.out r2.up⟩
  cases u <;> cases v <;> simp_all

theorem tum_twice (n a : Int) (h : -9223372036854775808 ≤ a ∧ a ≤ 9223372036854775807) : tumW n (tumW n a) = a := by
  unfold tumW wrap64
  omega
theorem walkUnfoldTumbles (a : Int) (x y : Bool) (n : Int) (w : World) (h : (Lit.int .i64 a).wf = true) (hn : (Lit.int .i64 n).wf = true) :
    Calls Try.prog 5 #[.agg #[.int .i64 a, .bool x, .bool y], .int .i64 n] w fun e w' => e = .returned (.bool true) ∧ Below w.heap.size w w' := by
  refine tumbles_core a n (tumW n a) (wrap64 (n - 1)) x y (!y) (x == !y) (x == y) w rfl rfl rfl (by cases x <;> cases y <;> rfl) (fun w => unfTumble_any a n x y w) (fun w => ?_) (fun w => unfUp_any _ _ _ w) (fun w => unfUp_any _ _ _ w)
  have K := unfTumble_any (tumW n a) n x (!y) w
  rwa [tum_twice n a (bounds_i64 h), Bool.not_not] at K
end Go.Proofs.Ytnofncibplgmpaa
