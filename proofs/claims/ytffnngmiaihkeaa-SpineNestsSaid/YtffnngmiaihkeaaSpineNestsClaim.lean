/- The law SpineNests answers true for every scheme, and leaves what came in as it was: a scheme nests as the reference tells, and then no leaf is open at Left; on no condition. -/
import Derived.Deep.RegionHeld3
import Derived.BigRegion
import Derived.Test.YtffnngmiaihkeaaPart9
import Derived.Test.YtffnngmiaihkeaaPart10
import Derived.OpenShut
import Derived.Test.YtffnngmiaihkeaaRows
import Derived.WalkKit
import Derived.ProofKit
import Derived.ShutString
import Derived.ChangeOld
import Derived.Below
import Derived.Lib.SmallJoins
import Derived.Laws.IdiomArrays
import Derived.Test.YtffnngmiaihkeaaPart8
/- gatherumlaw14.SpineNests answers true, for every scheme. -/
namespace Go.Proofs.Ytffnngmiaihkeaa
open Go.RowKit
set_option linter.unusedVariables false

set_option maxHeartbeats 1000000 in
theorem nests_core (s : Sc) (ad : Option Addr) (cap : Nat) (w : World) (hc : s.c ≤ 9223372036854775807) (hr : s.r ≤ 9223372036854775807) (h : InL w ad s.l) :
    Calls Try.prog 4 #[.agg #[.int .i64 s.c, .int .i64 s.r, .slice ad s.l.length cap]] w fun e w' => e = .returned (.bool true) ∧ Below w.heap.size w w' := by
  have B0 := Lib.hid (up_alloc (Below.refl _ w) (.cells #[.int .i64 s.c, .int .i64 s.r, .slice ad s.l.length cap] 24))
  by_cases hlen : 20 < s.l.length
  · have z1 : (20 : Int) < (s.l.length : Int) := by omega
    generalize s.l.length = m at *
    generalize s.c = c at *
    generalize s.r = r at *
    clear h
    go_enter Try.func4, Try.ntmps4
    go_wp2_with fail
    refine (spAlive_any _).mono ?_
    rintro e w1 ⟨rfl, hb⟩
    have A1 := (Bx.new w 24 [.int .i64 c, .int .i64 r, .slice ad m cap]).up hb
    have B1 := Lib.hid (up_trans B0.out hb)
    have a2 := A1.cell 2 rfl
    clear hb A1
    go_wp2
    go_ret
    exact ⟨rfl, B1.out⟩
  have z1 : decide ((20 : Int) < (s.l.length : Int)) = false := by simp; omega
  have K1 := fun w1 (hb : Below w.heap.size w w1) => spNests_any s ad cap w1 hc hr (by omega) (h.up hb)
  have K2 := fun w1 (hb : Below w.heap.size w w1) => refNests_any s ad cap w1 hc hr (by omega) (h.up hb)
  have K3 := fun w1 (hb : Below w.heap.size w w1) => spOpen_any s ad cap 1 w1 hc hr (by omega) (h.up hb)
  have ho := @nest_open s.c (pcR s) (fun h => (pcR_c s h).1)
  generalize nestM s.c (pcR s) = V at *
  generalize openM s.c (pcR s) 1 = O at *
  generalize s.l.length = m at *
  generalize s.c = c at *
  generalize s.r = r at *
  have H1 := Lib.hid K1; have H2 := Lib.hid K2; have H3 := Lib.hid K3
  clear K1 K2 K3 hc hr h hlen
  cases V
  · clear ho
    go_enter Try.func4, Try.ntmps4
    go_wp2_with fail
    refine (spAlive_any _).mono ?_
    rintro e w1 ⟨rfl, hb⟩
    have A := (Bx.new w 24 [.int .i64 c, .int .i64 r, .slice ad m cap]).up hb
    have B1 := Lib.hid (up_trans B0.out hb)
    have a0 := A.cell 0 rfl; have a1 := A.cell 1 rfl; have a2 := A.cell 2 rfl
    clear hb A
    refine later_start (w := w1) ?_
    intro v
    have j0 := fun v : Later w1 => v.cell a0
    have j1 := fun v : Later w1 => v.cell a1
    have j2 := fun v : Later w1 => v.cell a2
    clear a0 a1 a2
    go_wp2_with fail
    refine wp_region_later (by kernel_rfl) (by kernel_rfl) ?_
    repeat (go_big_quiet_step (first
      | (go_at_call 10; with_reducible exact Later.call (H1.out _ (up_trans B1.out (Later.up _))))
      | (go_at_call 11; with_reducible exact Later.call (H2.out _ (up_trans B1.out (Later.up _))))))
    refine wpQuiet_nil ?_
    rintro _ ⟨v2, rfl⟩
    have BB := up_trans B1.out v2.up
    go_wp2
    go_ret
    exact ⟨rfl, BB⟩
  · obtain rfl := ho rfl
    go_enter Try.func4, Try.ntmps4
    go_wp2_with fail
    refine (spAlive_any _).mono ?_
    rintro e w1 ⟨rfl, hb⟩
    have A := (Bx.new w 24 [.int .i64 c, .int .i64 r, .slice ad m cap]).up hb
    have B1 := Lib.hid (up_trans B0.out hb)
    have a0 := A.cell 0 rfl; have a1 := A.cell 1 rfl; have a2 := A.cell 2 rfl
    clear hb A
    refine later_start (w := w1) ?_
    intro v
    have j0 := fun v : Later w1 => v.cell a0
    have j1 := fun v : Later w1 => v.cell a1
    have j2 := fun v : Later w1 => v.cell a2
    clear a0 a1 a2
    go_wp2_with fail
    refine wp_region_later (by kernel_rfl) (by kernel_rfl) ?_
    repeat (go_big_quiet_step (first
      | (go_at_call 10; with_reducible exact Later.call (H1.out _ (up_trans B1.out (Later.up _))))
      | (go_at_call 11; with_reducible exact Later.call (H2.out _ (up_trans B1.out (Later.up _))))
      | (go_at_call 12; with_reducible exact Later.call (H3.out _ (up_trans B1.out (Later.up _))))))
    refine wpQuiet_nil ?_
    rintro _ ⟨v2, rfl⟩
    have BB := up_trans B1.out v2.up
    go_wp2
    go_ret
    exact ⟨rfl, BB⟩

theorem walkSpineNests (c r : Int) (ad : Option Addr) (len cap : Nat) (w : World) (x0 : (Lit.int .i64 c).wf = true) (x1 : (Lit.int .i64 r).wf = true)
    (h : (ad = none ∧ len = 0 ∧ cap = 0) ∨ ∃ x, ad = some x ∧ len ≤ cap ∧ cap ≤ maxLen ∧ ∀ i, i < len → (∃ z, w.cell? (x.add (i * 3 + 0)) = some (.int .i64 z) ∧ (Lit.int .i64 z).wf = true) ∧ (∃ z, w.cell? (x.add (i * 3 + 1)) = some (.int .i64 z) ∧ (Lit.int .i64 z).wf = true) ∧ (∃ z, w.cell? (x.add (i * 3 + 2)) = some (.bool z))) :
    Calls Try.prog 4 #[.agg #[.int .i64 c, .int .i64 r, .slice ad len cap]] w fun e w' => e = .returned (.bool true) ∧ Below w.heap.size w w' := by
  obtain ⟨l, rfl, hp⟩ := steps_of ad len cap w h
  exact nests_core ⟨c, r, l⟩ ad cap w (bounds_i64 x0).2 (bounds_i64 x1).2 hp
end Go.Proofs.Ytffnngmiaihkeaa
/- The law SpineNests answers true for every scheme, and leaves what came in as it was: a scheme nests as the reference tells, and then no leaf is open at Left; on no condition. -/
namespace Go.Proofs.Ytffnngmiaihkeaa.spineNests
open Go.ChangeShapes Go.WideShapes Go.ChangeAt Go.RowKit Go.Joins
open Go.ChangeMaps (open_string shut_string)
set_option linter.unusedVariables false

theorem own : ownKnob Try.prog.godebug = none := by kernel_rfl
theorem laidOut : laidOutB Try.prog = true := by kernel_rfl
/-- A slice of integers that came in: nil, or a row of cells. -/
def IsRow (k : IntKind) (w : World) (a : Option Addr) (len cap : Nat) (zs : List Int) : Prop :=
  (a = none ∧ len = 0 ∧ cap = 0 ∧ zs = []) ∨
  ∃ x, a = some x ∧ len ≤ cap ∧ cap ≤ maxLen ∧ zs.length = cap ∧ (∀ i, i < zs.length → w.cell? (x.add i) = some (.int k (zs.getD i 0))) ∧ ∀ n ∈ zs, (Lit.int k n).wf = true

/-- Four things, one by one. -/
theorem list4 {α : Type} (l : List α) (h : (⟨l⟩ : Array α).size = 4) : ∃ a b c d, l = [a, b, c, d] := by
  match l, h with
  | [a, b, c, d], _ => exact ⟨a, b, c, d, rfl⟩

set_option maxHeartbeats 400000 in
set_option maxRecDepth 100000 in
theorem lifted (os : Os) (started : os.Started) (H : Type) (enc : TypeId × Value → H) :
    ReturnsInHanded {} Try.checked os 4 .any (Rows.spineNestsSpec.pre6 enc Try.prog Try.f4 Rows.spineNestsRow.domain false) (Rows.spineNestsSpec.post enc Try.prog Try.f4 false true false false) := by
  refine returnsInHanded_of_change (C := Try.checked) own started (by kernel_rfl) Try.func4
    (ChangeSpec.witness6 (enc := enc) (C := Try.checked) false ⟨#[], #[.agg #[.int .i64 0, .int .i64 0, .slice none 0 0]], []⟩ 8 (by kernel_rfl) (by kernel_rfl) (by kernel_rfl) (by kernel_rfl)) ?_
  intro W base args ds gs before hval0 hW hcnd _
  have hval : ∀ (j : Nat) t v, Try.f4.params[j]? = some t → args[j]? = some v → Value.okWide Try.prog W .any base t v := hval0
  have hW' := hW
  obtain ⟨p, q, hA0, hV, rfl, hfz, hnd⟩ := hW
  have hA : DataW.TrodAll enc Try.prog W 0 (fun _ => true) true Try.f4.params.toList args.toList ds p := hA0
  rw [Try.params4] at hA hval
  obtain ⟨v0, vs0, d0, ds0, p0, q0, hargs, rfl, rfl, h0, r0⟩ := trodAll_cons hA
  obtain ⟨rfl, rfl, rfl⟩ := trodAll_nil r0
  obtain rfl : args = #[v0] := by cases args; simp_all
  obtain ⟨rfl, rfl⟩ := trodVars_none hV
  have k0 := h0
  have lt0 : ∀ x ∈ p0, x.block < W.heap.size := by obtain ⟨m, hm⟩ := k0; exact DataW.trod_lt m _ _ _ hm
  obtain ⟨c0_0, c0_1, c0_2, y0_0, y0_1, y0_2, m0, rfl, rfl, rfl, hy0_0, hy0_1, hy0_2⟩ := open_agg3 Try.underlying24 (by kernel_rfl) (show Try.prog.cellsOf 24 = 3 by kernel_rfl) (hval 0 24 v0 rfl rfl) h0
  obtain ⟨a0_0, e0_0, rfl, w0_0⟩ := DataW.trod_int Try.underlying3 hy0_0
  obtain ⟨a0_1, e0_1, rfl, w0_1⟩ := DataW.trod_int Try.underlying3 hy0_1
  obtain ⟨a0_2, len0_2, cap0_2, e0_2, w0_2⟩ : ∃ (a : Option Addr) (len cap : Nat), [c0_2] = [Value.slice a len cap] ∧ ((a = none ∧ len = 0 ∧ cap = 0) ∨ ∃ x, a = some x ∧ len ≤ cap ∧ cap ≤ maxLen ∧ ∀ i, i < len → (∃ z, W.cell? (x.add (i * 3 + 0)) = some (.int .i64 z) ∧ (Lit.int .i64 z).wf = true) ∧ (∃ z, W.cell? (x.add (i * 3 + 1)) = some (.int .i64 z) ∧ (Lit.int .i64 z).wf = true) ∧ (∃ z, W.cell? (x.add (i * 3 + 2)) = some (.bool z))) := by
    rcases open_cell_structs Try.underlying22 Try.underlying35 (by kernel_rfl) (by kernel_rfl) hy0_2 with hcs | ⟨x, l, c, hcs, hl, hm, hV⟩
    · exact ⟨none, 0, 0, hcs, .inl ⟨rfl, rfl, rfl⟩⟩
    · exact ⟨some x, l, c, hcs, .inr ⟨x, rfl, hl, hm, fun i hi => ⟨fit_int Try.underlying3 (hV i hi 0 _ rfl), fit_int Try.underlying3 (hV i hi 1 _ rfl), fit_bool Try.underlying4 (hV i hi 2 _ rfl)⟩⟩⟩
  simp at e0_0 e0_1 e0_2
  subst e0_0 e0_1 e0_2
  clear hA0 hval0
  refine (walkSpineNests a0_0 a0_1 a0_2 len0_2 cap0_2 W w0_0 w0_1 w0_2).mono fun e W' ⟨he, bel⟩ => ?_
  subst he
  exact ⟨_, rfl, _, _, _, [], _, [], hW', trodAll_mk1 (shut_bool Try.underlying4 _), (trodAll_cons_mk (Below.trod laidOut (by kernel_rfl) (of_decide_eq_true (by kernel_rfl)) k0 bel lt0) trodAll_mk0), rfl, bel.frame _, fun h => by cases h⟩

theorem over : Rows.spineNestsRow.holds Try.pinned (OpenSpec.ofChange Rows.spineNestsSpec) :=
  OpenClaim.holds_of_wide 4 Try.f4 rfl rfl rfl rfl rfl rfl rfl ⟨rfl, rfl, rfl, rfl, rfl⟩ rfl rfl rfl rfl rfl (by kernel_rfl) Try.func4 (by kernel_rfl)
    (of_decide_eq_true (by kernel_rfl)) (by unfold Func.isWrapper; first | (rw [if_pos (by decide +kernel)]; kernel_rfl) | (rw [if_neg (by decide +kernel)]; exact ⟨rfl, rfl⟩))
    (fun os started H enc _ => lifted os started H enc)

theorem proved : Rows.SpineNestsSaid := over
#print axioms proved
end Go.Proofs.Ytffnngmiaihkeaa.spineNests
