/- gatherumlaw15.BoundsTell answers true for every job and every int. -/
import Derived.Test.YtcjnhgafifkfeaaDoorPart6
import Derived.Test.YtcjnhgafifkfeaaDoorRows
import Derived.Test.YtcjnhgafifkfeaaDoorCards
import Derived.Test.YtcjnhgafifkfeaaDoorTie
import Derived.WalkKit
import Derived.LaidMore
import Derived.Lay
import Derived.MakeChecks
import Derived.Stop.Joined
import Derived.SevenTiedAt
import Derived.ProofKit
import Derived.OpenShut
import Derived.ShutString
import Derived.ChangeOld
import Derived.Below
import Derived.Lib.SmallJoins
import Derived.Laws.IdiomArrays
/- gatherumlaw15.BoundsTell answers true, for every job and every int. -/
namespace Go.Proofs.YtcjnhgafifkfeaaDoor
open Go.RowKit
set_option linter.unusedVariables false
set_option linter.unusedSimpArgs false

theorem bGet_any (cs : List Value) (n : Nat → Int) (i : Int) (w : World) (hl : cs.length = 33) (hv : ∀ k, k < 28 → cs[cellJ k]? = some (.int .i64 (n k))) :
    Calls Tryd.prog 7 #[.agg cs.toArray, .int .i64 i] w fun e w' => e = .returned (.int .i64 (getJ n i)) ∧ Below w.heap.size w w' := by
  cases hb : (decide (0 ≤ i) && decide (i ≤ 27))
  · rw [getJ_out hb]
    exact bGet_out cs i w hb
  · obtain ⟨k, hk, rfl⟩ := place_of hb
    rw [getJ_in hk]
    exact bGet_in cs _ k w hk hl (hv k hk)

set_option maxRecDepth 100000 in
set_option maxHeartbeats 1000000 in
theorem tell_core (cs : List Value) (n : Nat → Int) (i : Int) (w : World) (hl : cs.length = 33) (hv : ∀ k, k < 28 → cs[cellJ k]? = some (.int .i64 (n k))) (hg : GoodM w) :
    Calls Tryd.prog 3 #[.agg cs.toArray, .int .i64 i] w fun e w' => e = .returned (.bool true) ∧ Below w.heap.size w w' := by
  have B0 := up_alloc (Below.refl w.heap.size w) (.cells cs.toArray 29)
  have HA := Lib.hid (bAlive_any _ (hg.below B0))
  have HX := Lib.hid (Bx.new w 29 cs)
  have HB := Lib.hid B0
  have HL := Lib.hid hl
  have HG := Lib.hid (fun i w1 => bGet_any cs n i w1 hl hv)
  have HR := Lib.hid (fun i w1 => refJobGet_any cs n i w1 hl hv)
  have HF := Lib.hid (fun w1 => bFirst_any cs n w1 hl hv)
  have HQ := Lib.hid (fun w1 => refFirst_any cs n w1 hl hv)
  clear hl hv hg B0
  go_enter Tryd.func3, Tryd.ntmps3
  go_wp2_with fail
  refine HA.out.mono ?_
  rintro e w1 ⟨rfl, hb⟩
  have HX1 := Lib.hid (HX.out.later (by rw [HL.out]; decide) hb)
  have HB1 := Lib.hid (up_trans HB.out hb)
  have HRG := Lib.hid (later_range HX1.out (by rw [HL.out]; decide))
  clear hb
  go_wp2
  go_loopw [5] (fun k wr => ∃ m : Nat, m ≤ 28 ∧ k = .int .i64 (m : Int) ∧ ∃ u : Later w1, wr = u.now) (fun k _ => 28 - (intOf k).toNat)
  case atStart => exact ⟨0, by omega, by go_num, ⟨w1, Below.refl _ _⟩, rfl⟩
  case round =>
    obtain ⟨k, hk, rfl, u, rfl⟩ := hrel
    by_cases hlt : k < 28
    · have z1 : (k : Int) < 28 := by omega
      have HG1 := Lib.hid (fun w1 => HG.out (k : Int) w1)
      have HR1 := Lib.hid (fun w1 => HR.out (k : Int) w1)
      generalize getJ n (k : Int) = v at *
      go_wp2_with fail
      refine wp_region_later (by kernel_rfl) (by kernel_rfl) ?_
      repeat (first
        | (go_big_quiet_want; refine quiet_load_job _ rfl w.heap.size rfl cs HL.out HRG.out ?_; simp only [Act.put, List.setIfInBounds_toArray, List.set_cons_succ, List.set_cons_zero]; go_big_quiet_on)
        | go_big_quiet_step (first
          | (go_at_call 7; with_reducible exact Later.call (HG1.out _))
          | (go_at_call 8; with_reducible exact Later.call (HR1.out _))))
      refine wpQuiet_nil ?_
      rintro _ ⟨u2, rfl⟩
      go_wp2
      go_roundw
      case rel => exact ⟨k + 1, by omega, by go_num, u2, rfl⟩
      case measure => simp [intOf]; omega
    · have hk2 : k = 28 := by omega
      subst hk2
      have HG1 := Lib.hid (fun w1 => HG.out i w1)
      have HR1 := Lib.hid (fun w1 => HR.out i w1)
      generalize getJ n i = v at *
      generalize firstJ n = f at *
      go_wp2_with fail
      refine wp_region_later (by kernel_rfl) (by kernel_rfl) ?_
      repeat (first
        | (go_big_quiet_want; refine quiet_load_job _ rfl w.heap.size rfl cs HL.out HRG.out ?_; simp only [Act.put, List.setIfInBounds_toArray, List.set_cons_succ, List.set_cons_zero]; go_big_quiet_on)
        | go_big_quiet_step (first
          | (go_at_call 7; with_reducible exact Later.call (HG1.out _))
          | (go_at_call 8; with_reducible exact Later.call (HR1.out _))
          | (go_at_call 9; with_reducible exact Later.call (HF.out _))
          | (go_at_call 10; with_reducible exact Later.call (HQ.out _))))
      refine wpQuiet_nil ?_
      rintro _ ⟨u2, rfl⟩
      go_wp2
      go_ret
      exact ⟨rfl, up_trans HB1.out u2.up⟩

theorem walkBoundsTell (cs : List Value) (j : Jb) (i : Int) (w : World) (h : JobA w cs j ∧ j.t.length ≤ maxLen ∧ ∀ p ∈ j.ls, p.length ≤ maxLen) (hi : (Lit.int .i64 i).wf = true) (hg : GoodM w) :
    Calls Tryd.prog 3 #[.agg cs.toArray, .int .i64 i] w fun e w' => e = .returned (.bool true) ∧ Below w.heap.size w w' :=
  tell_core cs j.n i w h.1.length (fun k hk => h.1.num hk) hg
end Go.Proofs.YtcjnhgafifkfeaaDoor
/- gatherumlaw15.BoundsTell answers true for every job and every int. -/
namespace Go.Proofs.YtcjnhgafifkfeaaDoor.boundsTell
open Go.ChangeShapes Go.WideShapes Go.ChangeAt Go.RowKit Go.Joins
open Go.ChangeMaps (open_string shut_string)
set_option linter.unusedVariables false

theorem own : ownKnob Tryd.prog.godebug = none := by kernel_rfl
theorem laidOut : laidOutB Tryd.prog = true := by kernel_rfl
/-- A slice of integers that came in: nil, or a row of cells. -/
def IsRow (k : IntKind) (w : World) (a : Option Addr) (len cap : Nat) (zs : List Int) : Prop :=
  (a = none ∧ len = 0 ∧ cap = 0 ∧ zs = []) ∨
  ∃ x, a = some x ∧ len ≤ cap ∧ cap ≤ maxLen ∧ zs.length = cap ∧ (∀ i, i < zs.length → w.cell? (x.add i) = some (.int k (zs.getD i 0))) ∧ ∀ n ∈ zs, (Lit.int k n).wf = true

/-- Four things, one by one. -/
theorem list4 {α : Type} (l : List α) (h : (⟨l⟩ : Array α).size = 4) : ∃ a b c d, l = [a, b, c, d] := by
  match l, h with
  | [a, b, c, d], _ => exact ⟨a, b, c, d, rfl⟩

theorem plain_laid (W : World) (h : laidMetH Tryd.prog Rows.boundsTellRow.laid W) : laidMet Tryd.prog Rows.boundsTellRow.laid W := by
  rw [MakeChecks.laidMetH_plain _ _ _ (by kernel_rfl)] at h; exact h

set_option maxHeartbeats 400000 in
set_option maxRecDepth 100000 in
theorem lifted (os : Os) (started : os.Started) (H : Type) (enc : TypeId × Value → H) :
    ReturnsInHanded {} Tryd.checked os 3 .any (fun w args => (Rows.boundsTellSpec.pre enc Tryd.prog Tryd.f3 [] false w args ∧ laidMetH Tryd.prog Rows.boundsTellRow.laid w) ∧ sizedMet enc Tryd.prog Tryd.f3 (OpenSpec.ofChange Rows.boundsTellSpec) false w args) (Rows.boundsTellSpec.post enc Tryd.prog Tryd.f3 false true false false) := by
  refine returnsInHanded_of_calls (C := Tryd.checked) own started (by kernel_rfl)
    (ChangeSpec.witness_shaped (enc := enc) (C := Tryd.checked) (os := os) (X := fun w _ => laidMetH Tryd.prog Rows.boundsTellRow.laid w) false (World.laidAll Tryd.prog os Rows.boundsTellRow.laid) #[.agg #[.string ⟨#[]⟩, .int .i64 0, .int .i64 0, .int .i64 0, .int .i64 0, .int .i64 0, .int .i64 0, .int .i64 0, .int .i64 0, .int .i64 0, .int .i64 0, .int .i64 0, .int .i64 0, .int .i64 0, .slice none 0 0, .slice none 0 0, .int .i64 0, .int .i64 0, .int .i64 0, .int .i64 0, .int .i64 0, .int .i64 0, .int .i64 0, .int .i64 0, .int .i64 0, .int .i64 0, .int .i64 0, .int .i64 0, .int .i64 0, .int .i64 0, .int .i64 0, .int .i64 0, .int .i64 0], .int .i64 0] 8 (World.laidAll_os _ _ _)
      (World.shaped_of_ZipB (by kernel_rfl) (by kernel_rfl)) (by kernel_rfl) (by kernel_rfl) (by kernel_rfl)
      (by rw [MakeChecks.laidMetH_plain _ _ _ (by kernel_rfl)]; exact laidMet_laidAll _ (by kernel_rfl) (by kernel_rfl))) ?_
  intro w0 tape inp _ hsh _ hok hpre _
  obtain ⟨_, _, _, fn, hfn, _, _, _, _, hval1⟩ := hok
  obtain rfl : Tryd.f3 = fn := Option.some.inj (Tryd.func3.symm.trans hfn)
  obtain ⟨⟨⟨ds, gs, before, hW0, -⟩, hX⟩, -⟩ := hpre
  have hW := DataW.Whole.of_heap (w' := w0.forCall tape inp) (by rfl) hW0
  have hLH : laidMetH Tryd.prog Rows.boundsTellRow.laid (w0.forCall tape inp) := hX.of_heap (by rfl)
  clear hW0 hX
  obtain ⟨W, hWd⟩ : ∃ W, w0.forCall tape inp = W := ⟨_, rfl⟩
  obtain ⟨args, hargs⟩ : ∃ args, inp.args = args := ⟨_, rfl⟩
  obtain ⟨base, hbase⟩ : ∃ base, w0.heap.size = base := ⟨_, rfl⟩
  rw [hWd] at hsh hval1 hW hLH ⊢
  rw [hargs] at hval1 hW ⊢
  rw [hbase] at hval1
  have hval0 : ∀ (j : Nat) t v, Tryd.f3.params[j]? = some t → args[j]? = some v → Value.okWide Tryd.prog W .any base t v := hval1
  clear hWd hargs hbase hval1 hfn
  have hL := plain_laid W hLH
  refine (show Calls Tryd.prog 3 args W fun e W' => ∃ v, e = .returned v ∧ Rows.boundsTellSpec.post enc Tryd.prog Tryd.f3 false true false false W args v W' from ?_).mono fun e W' ⟨v, he, hp⟩ => by
    subst he
    exact ChangeSpec.post_blind hp
  have hval : ∀ (j : Nat) t v, Tryd.f3.params[j]? = some t → args[j]? = some v → Value.okWide Tryd.prog W .any base t v := hval0
  have hW' := hW
  obtain ⟨p, q, hA0, hV, rfl, hfz, hnd⟩ := hW
  have hA : DataW.TrodAll enc Tryd.prog W 0 (fun _ => true) true Tryd.f3.params.toList args.toList ds p := hA0
  rw [Tryd.params3] at hA hval
  obtain ⟨v0, vs0, d0, ds0, p0, q0, hargs, rfl, rfl, h0, r0⟩ := trodAll_cons hA
  obtain ⟨v1, vs1, d1, ds1, p1, q1, rfl, rfl, rfl, h1, r1⟩ := trodAll_cons r0
  obtain ⟨rfl, rfl, rfl⟩ := trodAll_nil r1
  obtain rfl : args = #[v0, v1] := by cases args; simp_all
  obtain ⟨rfl, rfl⟩ := trodVars_none hV
  have k0 := h0
  have lt0 : ∀ x ∈ p0, x.block < W.heap.size := by obtain ⟨m, hm⟩ := k0; exact DataW.trod_lt m _ _ _ hm
  obtain ⟨cs0, rfl, hsz0, _⟩ : ∃ cs, v0 = .agg cs ∧ cs.size = Tryd.prog.cellsOf 29 ∧ Row.okWide Tryd.prog W .any base 29 cs := by
    have := hval 0 29 v0 rfl rfl
    simpa [Value.okWide, Tryd.underlying29] using this
  rw [show Tryd.prog.cellsOf 29 = 33 by kernel_rfl] at hsz0
  obtain ⟨l0⟩ := cs0
  obtain ⟨fuel0, hf0⟩ := h0
  obtain ⟨jb0, w0⟩ := open_job (cs := l0) hsz0 hf0
  obtain ⟨a1, rfl, rfl, rfl, w1⟩ := open_int Tryd.underlying3 (hval 1 3 v1 rfl rfl) h1
  clear hA0 hval0
  refine (walkBoundsTell l0 jb0 a1 W w0 w1 (⟨good_of hL 2 4 5 rfl rfl rfl, mx_of hsh⟩)).mono fun e W' ⟨he, bel⟩ => ?_
  subst he
  exact ⟨_, rfl, _, _, _, [], _, [], hW', trodAll_mk1 (shut_bool Tryd.underlying4 _), (trodAll_cons_mk (Below.trod laidOut (by kernel_rfl) (of_decide_eq_true (by kernel_rfl)) k0 bel lt0) (trodAll_cons_mk (shut_int Tryd.underlying3 w1) trodAll_mk0)), rfl, bel.frame _, fun h => by cases h⟩

theorem over : Rows.boundsTellRow.holds Tryd.pinned (OpenSpec.ofChange Rows.boundsTellSpec) :=
  OpenClaim.holds_of_wide 3 Tryd.f3 rfl rfl rfl rfl rfl rfl rfl ⟨rfl, rfl, rfl, rfl, rfl⟩ rfl rfl rfl rfl rfl (by kernel_rfl) Tryd.func3 (by kernel_rfl)
    (of_decide_eq_true (by kernel_rfl)) (by unfold Func.isWrapper; first | (rw [if_pos (by decide +kernel)]; kernel_rfl) | (rw [if_neg (by decide +kernel)]; exact ⟨rfl, rfl⟩))
    (fun os started H enc _ => lifted os started H enc)

theorem proved : Rows.BoundsTellCardSaid :=
  Claim7.holds_tied_plain_at .later [] [.data, .data, .data, .data, .sentinel, .sentinel, .pinned] true (true, "e008fbdc1c684c9ea465b29b2449da7ab482333efdb41aa160df1de3b66a88ff") true
    over (fun _ h => by cases h) (by kernel_rfl) (fun _ h => by cases h) boundsTell_row_tie rfl ⟨rfl, rfl⟩ (by kernel_rfl) rfl
    (fun f fn hf hfn => by
      obtain rfl : f = 3 := Option.some.inj ((show Tryd.prog.funcNamed "gatherum/gatherumlaw15.BoundsTell" = some 3 by kernel_rfl).symm.trans hf) |>.symm
      obtain rfl : fn = Tryd.f3 := (Option.some.inj (Tryd.func3.symm.trans hfn)).symm
      exact ⟨by kernel_rfl, fun j t ht => by
        rw [Tryd.params3] at ht
        have hm : t ∈ [29, 3] := by have := Array.mem_of_getElem? ht; simpa using this
        have hall : ([29, 3].all fun u => !Tryd.prog.wantsStandIn u) = true := by kernel_rfl
        exact (show Tryd.prog.wantsStandIn t = false by simpa using List.all_eq_true.1 hall t hm)⟩)
    (by kernel_rfl)
#print axioms proved
end Go.Proofs.YtcjnhgafifkfeaaDoor.boundsTell
