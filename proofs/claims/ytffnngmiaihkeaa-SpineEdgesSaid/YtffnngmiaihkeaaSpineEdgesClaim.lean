/- The law SpineEdges answers true for every scheme and every two ints, and leaves what came in as it was: at which edge leaves hang together is what the reference tells; on no condition. -/
import Derived.Deep.RegionHeld3
import Derived.BigRegion
import Derived.Test.YtffnngmiaihkeaaPart9
import Derived.Test.YtffnngmiaihkeaaPart10
import Derived.OpenShut
import Derived.Test.YtffnngmiaihkeaaRows
import Derived.WalkKit
import Derived.ProofKit
import Derived.ShutString
import Derived.ChangeOld
import Derived.Below
import Derived.Lib.SmallJoins
import Derived.Laws.IdiomArrays
import Derived.Test.YtffnngmiaihkeaaPart8
/- gatherumlaw14.SpineEdges answers true, for every scheme and every two ints. -/
namespace Go.Proofs.Ytffnngmiaihkeaa
open Go.RowKit
set_option linter.unusedVariables false

theorem pan_range (c r : Int) : 0 ≤ panM c r ∧ panM c r ≤ 4096 := by
  unfold panM
  split
  · rename_i h
    have := pan_in h
    omega
  · omega
theorem back_in {a n : Int} (hn : 1 ≤ n ∧ n ≤ 64) : ∃ p x : Int, a.tmod n = p ∧ (-64 ≤ p ∧ p ≤ 64) ∧ 0 ≤ p + n ∧ (p + n).tmod n = x ∧ (p + n) % n = x ∧ 0 ≤ x ∧ x ≤ 64 := by
  have h1 : -n < a.tmod n := by
    by_cases ha : 0 ≤ a
    · have := Int.tmod_nonneg n ha
      omega
    · have := Int.tmod_lt_of_pos (-a) (show 0 < n by omega)
      rw [Int.neg_tmod] at this
      omega
  have h2 := Int.tmod_lt_of_pos a (show 0 < n by omega)
  have h3 : 0 ≤ a.tmod n + n := by omega
  have h4 := Int.emod_nonneg (a.tmod n + n) (show n ≠ 0 by omega)
  have h5 := Int.emod_lt_of_pos (a.tmod n + n) (show 0 < n by omega)
  exact ⟨a.tmod n, (a.tmod n + n) % n, rfl, by omega, by omega, Int.tmod_eq_emod_of_nonneg h3, rfl, h4, by omega⟩

set_option maxHeartbeats 2000000 in
set_option maxRecDepth 100000 in
theorem edges_core (s : Sc) (ad : Option Addr) (cap : Nat) (a b : Int) (w : World) (hc : s.c ≤ 9223372036854775807) (hr : s.r ≤ 9223372036854775807) (h : InL w ad s.l) :
    Calls Try.prog 3 #[.agg #[.int .i64 s.c, .int .i64 s.r, .slice ad s.l.length cap], .int .i64 a, .int .i64 b] w fun e w' => e = .returned (.bool true) ∧ Below w.heap.size w w' := by
  by_cases hlen : 20 < s.l.length
  · have z1 : (20 : Int) < (s.l.length : Int) := by omega
    have B0 := Lib.hid (up_alloc (Below.refl _ w) (.cells #[.int .i64 s.c, .int .i64 s.r, .slice ad s.l.length cap] 24))
    generalize s.l.length = m at *
    generalize s.c = c at *
    generalize s.r = r at *
    clear h
    go_enter Try.func3, Try.ntmps3
    go_wp2_with fail
    refine (spAlive_any _).mono ?_
    rintro e w1 ⟨rfl, hb⟩
    have A1 := (Bx.new w 24 [.int .i64 c, .int .i64 r, .slice ad m cap]).up hb
    have B1 := Lib.hid (up_trans B0.out hb)
    have a2 := A1.cell 2 rfl
    clear hb A1
    go_wp2
    go_ret
    exact ⟨rfl, B1.out⟩
  have z1 : decide ((20 : Int) < (s.l.length : Int)) = false := by simp; omega
  have K1 := fun (x y E : Int) (hE : edgM s.c (pcR s) x y = E) w1 (hb : Below w.heap.size w w1) => spEdge_any s ad cap x y w1 hc hr (by omega) (h.up hb)
  have K2 := fun (x y E : Int) (hE : edgM s.c (pcR s) x y = E) w1 (hb : Below w.heap.size w w1) => refEdge_any s ad cap x y w1 hc hr (by omega) (h.up hb)
  replace K1 := fun (x y E : Int) (hE : edgM s.c (pcR s) x y = E) w1 (hb : Below w.heap.size w w1) => hE ▸ K1 x y E hE w1 hb
  replace K2 := fun (x y E : Int) (hE : edgM s.c (pcR s) x y = E) w1 (hb : Below w.heap.size w w1) => hE ▸ K2 x y E hE w1 hb
  have KP := fun w1 => refPanels_any s.c s.r ad s.l.length cap w1
  have hN := pan_range s.c s.r
  obtain ⟨E, hab⟩ : ∃ E, edgM s.c (pcR s) a b = E := ⟨_, rfl⟩
  have hba : edgM s.c (pcR s) b a = E := by rw [← hab]; exact edgM_comm (fun h => (pcR_c s h).1) b a
  have B0 := Lib.hid (up_alloc (Below.refl _ w) (.cells #[.int .i64 s.c, .int .i64 s.r, .slice ad s.l.length cap] 24))
  generalize panM s.c s.r = N at *
  generalize s.l.length = m at *
  obtain ⟨c, hcc⟩ : ∃ c, s.c = c := ⟨_, rfl⟩
  obtain ⟨r, hrr⟩ : ∃ r, s.r = r := ⟨_, rfl⟩
  rw [hcc, hrr] at K1 K2 KP B0
  rw [hcc] at hab hba
  rw [hcc, hrr]
  clear hc hr hcc hrr h hlen
  generalize pcR s = L at *
  have H1 := Lib.hid K1; have H2 := Lib.hid K2; have HP := Lib.hid KP; have Hab := Lib.hid hab; have Hba := Lib.hid hba
  clear K1 K2 KP hab hba
  by_cases hn : 1 ≤ N ∧ N ≤ 64
  · obtain ⟨p, x, e1, e2, e3, e4, e5, e6, e7⟩ := back_in (a := a) hn
    obtain ⟨q, y, f1, f2, f3, f4, f5, f6, f7⟩ := back_in (a := b) hn
    obtain ⟨E', hxy⟩ : ∃ E, edgM c L x y = E := ⟨_, rfl⟩
    have Hxy := Lib.hid hxy
    have n0 : (0 : Int) < N := by omega
    have n1 : N ≤ 64 := hn.2
    have n2 : N ≠ 0 := by omega
    clear hxy hN
    go_enter Try.func3, Try.ntmps3
    go_wp2_with fail
    refine (spAlive_any _).mono ?_
    rintro e w1 ⟨rfl, hb⟩
    have A := (Bx.new w 24 [.int .i64 c, .int .i64 r, .slice ad m cap]).up hb
    have B1 := Lib.hid (up_trans B0.out hb)
    have a0 := A.cell 0 rfl; have a1 := A.cell 1 rfl; have a2 := A.cell 2 rfl
    clear hb
    go_wp2_with fail
    refine (HP.out _).mono ?_
    rintro e w2 ⟨rfl, hb⟩
    replace A := A.up hb
    have B2 := Lib.hid (up_trans B1.out hb)
    clear hb B1 a0 a1 a2
    have a0 := A.cell 0 rfl; have a1 := A.cell 1 rfl; have a2 := A.cell 2 rfl
    clear A
    refine later_start (w := w2) ?_
    intro v
    have j0 := fun v : Later w2 => v.cell a0
    have j1 := fun v : Later w2 => v.cell a1
    have j2 := fun v : Later w2 => v.cell a2
    clear a0 a1 a2
    go_wp2_with fail
    refine wp_region_later (by kernel_rfl) (by kernel_rfl) ?_
    repeat (go_big_quiet_step (fail))
    refine wpQuiet_nil ?_
    rintro _ ⟨v, rfl⟩
    clear e1 e2 e3 e4 e5 f1 f2 f3 f4 f5 n2
    go_wp2_with fail
    refine wp_region_later (by kernel_rfl) (by kernel_rfl) ?_
    repeat (go_big_quiet_step (first
      | (go_at_call 8; with_reducible exact Later.call (H1.out x y E' Hxy.out _ (up_trans B2.out (Later.up _))))
      | (go_at_call 9; with_reducible exact Later.call (H2.out x y E' Hxy.out _ (up_trans B2.out (Later.up _))))))
    refine wpQuiet_nil ?_
    rintro _ ⟨v, rfl⟩
    have hab := Hab.out; have hba := Hba.out
    go_wp2_with fail
    refine wp_region_later (by kernel_rfl) (by kernel_rfl) ?_
    repeat (go_big_quiet_step (first
      | (go_at_call 8; with_reducible exact Later.call (H1.out a b E hab _ (up_trans B2.out (Later.up _))))
      | (go_at_call 8; with_reducible exact Later.call (H1.out b a E hba _ (up_trans B2.out (Later.up _))))
      | (go_at_call 9; with_reducible exact Later.call (H2.out a b E hab _ (up_trans B2.out (Later.up _))))))
    refine wpQuiet_nil ?_
    rintro _ ⟨v2, rfl⟩
    have BB := up_trans B2.out v2.up
    go_wp2
    go_ret
    exact ⟨rfl, BB⟩
  · have n0 : decide ((0 : Int) < N) = decide (N ≠ 0) := by rw [decide_eq_decide]; omega
    obtain ⟨t1, k1⟩ : ∃ t, decide ((0 : Int) < N) = t := ⟨_, rfl⟩
    obtain ⟨t2, k2⟩ : ∃ t, decide (N ≤ 64) = t := ⟨_, rfl⟩
    have ht : t1 = false ∨ t2 = false := by
      subst k1 k2
      simp only [decide_eq_false_iff_not]
      omega
    clear n0 hn hN
    have hab := Hab.out; have hba := Hba.out
    go_enter Try.func3, Try.ntmps3
    go_wp2_with fail
    refine (spAlive_any _).mono ?_
    rintro e w1 ⟨rfl, hb⟩
    have A := (Bx.new w 24 [.int .i64 c, .int .i64 r, .slice ad m cap]).up hb
    have B1 := Lib.hid (up_trans B0.out hb)
    have a0 := A.cell 0 rfl; have a1 := A.cell 1 rfl; have a2 := A.cell 2 rfl
    clear hb
    go_wp2_with fail
    refine (HP.out _).mono ?_
    rintro e w2 ⟨rfl, hb⟩
    replace A := A.up hb
    have B2 := Lib.hid (up_trans B1.out hb)
    clear hb B1 a0 a1 a2
    have a0 := A.cell 0 rfl; have a1 := A.cell 1 rfl; have a2 := A.cell 2 rfl
    clear A
    refine later_start (w := w2) ?_
    intro v
    have j0 := fun v : Later w2 => v.cell a0
    have j1 := fun v : Later w2 => v.cell a1
    have j2 := fun v : Later w2 => v.cell a2
    clear a0 a1 a2
    cases t1
    · clear ht
      go_wp2_with fail
      refine wp_region_later (by kernel_rfl) (by kernel_rfl) ?_
      repeat (go_big_quiet_step (first
        | (go_at_call 8; with_reducible exact Later.call (H1.out a b E hab _ (up_trans B2.out (Later.up _))))
        | (go_at_call 8; with_reducible exact Later.call (H1.out b a E hba _ (up_trans B2.out (Later.up _))))
        | (go_at_call 9; with_reducible exact Later.call (H2.out a b E hab _ (up_trans B2.out (Later.up _))))))
      refine wpQuiet_nil ?_
      rintro _ ⟨v2, rfl⟩
      have BB := up_trans B2.out v2.up
      go_wp2
      go_ret
      exact ⟨rfl, BB⟩
    · obtain rfl : t2 = false := by simpa using ht
      clear ht
      go_wp2_with fail
      refine wp_region_later (by kernel_rfl) (by kernel_rfl) ?_
      repeat (go_big_quiet_step (first
        | (go_at_call 8; with_reducible exact Later.call (H1.out a b E hab _ (up_trans B2.out (Later.up _))))
        | (go_at_call 8; with_reducible exact Later.call (H1.out b a E hba _ (up_trans B2.out (Later.up _))))
        | (go_at_call 9; with_reducible exact Later.call (H2.out a b E hab _ (up_trans B2.out (Later.up _))))))
      refine wpQuiet_nil ?_
      rintro _ ⟨v2, rfl⟩
      have BB := up_trans B2.out v2.up
      go_wp2
      go_ret
      exact ⟨rfl, BB⟩

theorem walkSpineEdges (c r : Int) (ad : Option Addr) (len cap : Nat) (a b : Int) (w : World) (x0 : (Lit.int .i64 c).wf = true) (x1 : (Lit.int .i64 r).wf = true)
    (h : (ad = none ∧ len = 0 ∧ cap = 0) ∨ ∃ x, ad = some x ∧ len ≤ cap ∧ cap ≤ maxLen ∧ ∀ i, i < len → (∃ z, w.cell? (x.add (i * 3 + 0)) = some (.int .i64 z) ∧ (Lit.int .i64 z).wf = true) ∧ (∃ z, w.cell? (x.add (i * 3 + 1)) = some (.int .i64 z) ∧ (Lit.int .i64 z).wf = true) ∧ (∃ z, w.cell? (x.add (i * 3 + 2)) = some (.bool z))) (y0 : (Lit.int .i64 a).wf = true) (y1 : (Lit.int .i64 b).wf = true) :
    Calls Try.prog 3 #[.agg #[.int .i64 c, .int .i64 r, .slice ad len cap], .int .i64 a, .int .i64 b] w fun e w' => e = .returned (.bool true) ∧ Below w.heap.size w w' := by
  obtain ⟨l, rfl, hp⟩ := steps_of ad len cap w h
  exact edges_core ⟨c, r, l⟩ ad cap a b w (bounds_i64 x0).2 (bounds_i64 x1).2 hp
end Go.Proofs.Ytffnngmiaihkeaa
/- The law SpineEdges answers true for every scheme and every two ints, and leaves what came in as it was: at which edge leaves hang together is what the reference tells; on no condition. -/
namespace Go.Proofs.Ytffnngmiaihkeaa.spineEdges
open Go.ChangeShapes Go.WideShapes Go.ChangeAt Go.RowKit Go.Joins
open Go.ChangeMaps (open_string shut_string)
set_option linter.unusedVariables false

theorem own : ownKnob Try.prog.godebug = none := by kernel_rfl
theorem laidOut : laidOutB Try.prog = true := by kernel_rfl
/-- A slice of integers that came in: nil, or a row of cells. -/
def IsRow (k : IntKind) (w : World) (a : Option Addr) (len cap : Nat) (zs : List Int) : Prop :=
  (a = none ∧ len = 0 ∧ cap = 0 ∧ zs = []) ∨
  ∃ x, a = some x ∧ len ≤ cap ∧ cap ≤ maxLen ∧ zs.length = cap ∧ (∀ i, i < zs.length → w.cell? (x.add i) = some (.int k (zs.getD i 0))) ∧ ∀ n ∈ zs, (Lit.int k n).wf = true

/-- Four things, one by one. -/
theorem list4 {α : Type} (l : List α) (h : (⟨l⟩ : Array α).size = 4) : ∃ a b c d, l = [a, b, c, d] := by
  match l, h with
  | [a, b, c, d], _ => exact ⟨a, b, c, d, rfl⟩

set_option maxHeartbeats 400000 in
set_option maxRecDepth 100000 in
theorem lifted (os : Os) (started : os.Started) (H : Type) (enc : TypeId × Value → H) :
    ReturnsInHanded {} Try.checked os 3 .any (Rows.spineEdgesSpec.pre6 enc Try.prog Try.f3 Rows.spineEdgesRow.domain false) (Rows.spineEdgesSpec.post enc Try.prog Try.f3 false true false false) := by
  refine returnsInHanded_of_change (C := Try.checked) own started (by kernel_rfl) Try.func3
    (ChangeSpec.witness6 (enc := enc) (C := Try.checked) false ⟨#[], #[.agg #[.int .i64 0, .int .i64 0, .slice none 0 0], .int .i64 0, .int .i64 0], []⟩ 8 (by kernel_rfl) (by kernel_rfl) (by kernel_rfl) (by kernel_rfl)) ?_
  intro W base args ds gs before hval0 hW hcnd _
  have hval : ∀ (j : Nat) t v, Try.f3.params[j]? = some t → args[j]? = some v → Value.okWide Try.prog W .any base t v := hval0
  have hW' := hW
  obtain ⟨p, q, hA0, hV, rfl, hfz, hnd⟩ := hW
  have hA : DataW.TrodAll enc Try.prog W 0 (fun _ => true) true Try.f3.params.toList args.toList ds p := hA0
  rw [Try.params3] at hA hval
  obtain ⟨v0, vs0, d0, ds0, p0, q0, hargs, rfl, rfl, h0, r0⟩ := trodAll_cons hA
  obtain ⟨v1, vs1, d1, ds1, p1, q1, rfl, rfl, rfl, h1, r1⟩ := trodAll_cons r0
  obtain ⟨v2, vs2, d2, ds2, p2, q2, rfl, rfl, rfl, h2, r2⟩ := trodAll_cons r1
  obtain ⟨rfl, rfl, rfl⟩ := trodAll_nil r2
  obtain rfl : args = #[v0, v1, v2] := by cases args; simp_all
  obtain ⟨rfl, rfl⟩ := trodVars_none hV
  have k0 := h0
  have lt0 : ∀ x ∈ p0, x.block < W.heap.size := by obtain ⟨m, hm⟩ := k0; exact DataW.trod_lt m _ _ _ hm
  obtain ⟨c0_0, c0_1, c0_2, y0_0, y0_1, y0_2, m0, rfl, rfl, rfl, hy0_0, hy0_1, hy0_2⟩ := open_agg3 Try.underlying24 (by kernel_rfl) (show Try.prog.cellsOf 24 = 3 by kernel_rfl) (hval 0 24 v0 rfl rfl) h0
  obtain ⟨a0_0, e0_0, rfl, w0_0⟩ := DataW.trod_int Try.underlying3 hy0_0
  obtain ⟨a0_1, e0_1, rfl, w0_1⟩ := DataW.trod_int Try.underlying3 hy0_1
  obtain ⟨a0_2, len0_2, cap0_2, e0_2, w0_2⟩ : ∃ (a : Option Addr) (len cap : Nat), [c0_2] = [Value.slice a len cap] ∧ ((a = none ∧ len = 0 ∧ cap = 0) ∨ ∃ x, a = some x ∧ len ≤ cap ∧ cap ≤ maxLen ∧ ∀ i, i < len → (∃ z, W.cell? (x.add (i * 3 + 0)) = some (.int .i64 z) ∧ (Lit.int .i64 z).wf = true) ∧ (∃ z, W.cell? (x.add (i * 3 + 1)) = some (.int .i64 z) ∧ (Lit.int .i64 z).wf = true) ∧ (∃ z, W.cell? (x.add (i * 3 + 2)) = some (.bool z))) := by
    rcases open_cell_structs Try.underlying22 Try.underlying35 (by kernel_rfl) (by kernel_rfl) hy0_2 with hcs | ⟨x, l, c, hcs, hl, hm, hV⟩
    · exact ⟨none, 0, 0, hcs, .inl ⟨rfl, rfl, rfl⟩⟩
    · exact ⟨some x, l, c, hcs, .inr ⟨x, rfl, hl, hm, fun i hi => ⟨fit_int Try.underlying3 (hV i hi 0 _ rfl), fit_int Try.underlying3 (hV i hi 1 _ rfl), fit_bool Try.underlying4 (hV i hi 2 _ rfl)⟩⟩⟩
  simp at e0_0 e0_1 e0_2
  subst e0_0 e0_1 e0_2
  obtain ⟨a1, rfl, rfl, rfl, w1⟩ := open_int Try.underlying3 (hval 1 3 v1 rfl rfl) h1
  obtain ⟨a2, rfl, rfl, rfl, w2⟩ := open_int Try.underlying3 (hval 2 3 v2 rfl rfl) h2
  clear hA0 hval0
  refine (walkSpineEdges a0_0 a0_1 a0_2 len0_2 cap0_2 a1 a2 W w0_0 w0_1 w0_2 w1 w2).mono fun e W' ⟨he, bel⟩ => ?_
  subst he
  exact ⟨_, rfl, _, _, _, [], _, [], hW', trodAll_mk1 (shut_bool Try.underlying4 _), (trodAll_cons_mk (Below.trod laidOut (by kernel_rfl) (of_decide_eq_true (by kernel_rfl)) k0 bel lt0) (trodAll_cons_mk (shut_int Try.underlying3 w1) (trodAll_cons_mk (shut_int Try.underlying3 w2) trodAll_mk0))), rfl, bel.frame _, fun h => by cases h⟩

theorem over : Rows.spineEdgesRow.holds Try.pinned (OpenSpec.ofChange Rows.spineEdgesSpec) :=
  OpenClaim.holds_of_wide 3 Try.f3 rfl rfl rfl rfl rfl rfl rfl ⟨rfl, rfl, rfl, rfl, rfl⟩ rfl rfl rfl rfl rfl (by kernel_rfl) Try.func3 (by kernel_rfl)
    (of_decide_eq_true (by kernel_rfl)) (by unfold Func.isWrapper; first | (rw [if_pos (by decide +kernel)]; kernel_rfl) | (rw [if_neg (by decide +kernel)]; exact ⟨rfl, rfl⟩))
    (fun os started H enc _ => lifted os started H enc)

theorem proved : Rows.SpineEdgesSaid := over
#print axioms proved
end Go.Proofs.Ytffnngmiaihkeaa.spineEdges
