/- gatherumlaw15.BoundsSet answers true for every job and every two ints. -/
import Derived.Test.YtcjnhgafifkfeaaDoorPart6
import Derived.Test.YtcjnhgafifkfeaaDoorPart7
import Derived.Test.YtcjnhgafifkfeaaDoorRows
import Derived.Test.YtcjnhgafifkfeaaDoorCards
import Derived.Test.YtcjnhgafifkfeaaDoorTie
import Derived.WalkKit
import Derived.LaidMore
import Derived.Lay
import Derived.MakeChecks
import Derived.Stop.Joined
import Derived.SevenTiedAt
import Derived.ProofKit
import Derived.OpenShut
import Derived.ShutString
import Derived.ChangeOld
import Derived.Below
import Derived.Lib.SmallJoins
import Derived.Laws.IdiomArrays
/- gatherumlaw15.BoundsSet answers true, for every job and every two ints. -/
namespace Go.Proofs.YtcjnhgafifkfeaaDoor
open Go.RowKit
set_option linter.unusedVariables false
set_option linter.unusedSimpArgs false

set_option maxRecDepth 100000 in
set_option maxHeartbeats 4000000 in
theorem set_core (cs : List Value) (E : Int → List Value) (j : Jb) (i z : Int) (w : World) (h : JobA w cs j) (ht : j.t.length ≤ maxLen) (hz : ∀ x ∈ j.ls, x.length ≤ maxLen) (hg : GoodM w)
    (KE : ∀ i w1, Below w.heap.size w w1 → JobA w1 (E i) { j with n := setJ j.n i z })
    (KR : ∀ i w1, Calls Tryd.prog 14 #[.agg cs.toArray, .int .i64 i, .int .i64 z] w1 fun e w' => e = .returned (.agg (E i).toArray) ∧ Below w1.heap.size w1 w') :
    Calls Tryd.prog 4 #[.agg cs.toArray, .int .i64 i, .int .i64 z] w fun e w' => e = .returned (.bool true) ∧ Below w.heap.size w w' := by
  have B0 := up_alloc (Below.refl w.heap.size w) (.cells cs.toArray 29)
  have HA := Lib.hid (bAlive_any _ (hg.below B0))
  have HX := Lib.hid (Bx.new w 29 cs)
  have HB := Lib.hid B0
  have HL := Lib.hid h.length
  have HJ := Lib.hid h
  have HLI := Lib.hid (fun w1 hb => refLight_any cs j w1 (h.up hb) ht hz)
  have HE := Lib.hid KE; have HR := Lib.hid KR
  have HS := Lib.hid (fun i w1 (hb : Below w.heap.size w w1) h1 h2 => bSet_any cs j i z w1 (h.up hb) h1 h2)
  have HQ := Lib.hid (fun i es ds w1 (h1 : JobA w1 es { j with n := setJ j.n i z }) (h2 : JobA w1 ds { j with n := setJ j.n i z }) h3 h4 => jobSame_any es ds { j with n := setJ j.n i z } w1 h1 h2 h3 h4)
  obtain ⟨q, hq⟩ : ∃ q, bits .and .i64 i 31 = q := ⟨_, rfl⟩
  clear h ht hz hg KE KR B0
  go_enter Tryd.func4, Tryd.ntmps4
  go_wp2_with fail
  refine HA.out.mono ?_
  rintro e w1 ⟨rfl, hb⟩
  have HX1 := Lib.hid (HX.out.later (by rw [HL.out]; decide) hb)
  have HB1 := Lib.hid (up_trans HB.out hb)
  clear hb
  go_wp2_with (refine wpList_load_job rfl _ rfl w.heap.size rfl cs HX1.out HL.out ?_; simp only [Act.put, List.setIfInBounds_toArray, List.set_cons_succ, List.set_cons_zero])
  refine (HLI.out _ HB1.out).mono ?_
  rintro e w2 ⟨b, rfl, hsm, hb⟩
  have HX2 := Lib.hid (HX1.out.later (by rw [HL.out]; decide) hb)
  have HB2 := Lib.hid (up_trans HB1.out hb)
  have HSM := Lib.hid hsm
  clear hb hsm
  cases b
  · go_wp2
    go_ret
    exact ⟨rfl, HB2.out⟩
  · obtain ⟨-, hls, hll, -, -⟩ := HSM.out rfl
    have HL1 := Lib.hid (show j.f.l.length ≤ 1000000 by omega)
    have HL2 := Lib.hid (show j.ls.length ≤ 1000000 by omega)
    have HRG := Lib.hid (later_range HX2.out (by rw [HL.out]; decide))
    clear hls hll
    go_wp2_with fail
    refine wp_region_calls [([0, 1, 2, 4, 5, 6], 3), ([], 7), ([], 8), ([9, 10, 11, 12, 14, 15, 16], 13), ([], 17), ([], 18)] [19, 20] (by kernel_rfl) (by kernel_rfl) rfl (fun _ _ d _ _ h => by cases d <;> exact h) ?_
    refine walkC_take _ rfl (fun K0 hK0 => ?_)
    simp only [List.map_cons, List.map_nil, List.getD_cons_zero, List.getD_cons_succ]
    repeat (first
      | (go_big_quiet_want; refine quiet_load_job _ rfl w.heap.size rfl cs HL.out HRG.out ?_; simp only [Act.put, List.setIfInBounds_toArray, List.set_cons_succ, List.set_cons_zero]; go_big_quiet_on)
      | go_big_quiet_step (fail))
    refine wpQuiet_nil (hK0.out _ (fun K hK => ?_))
    go_simp
    refine (HS.out q _ (up_trans HB2.out (up_drew (Below.refl _ w2))) HL1.out HL2.out).mono ?_
    rintro e w3 ⟨es0, rfl, hF, hb⟩
    have C3 := Lib.hid (up_trans (up_drew (Below.refl _ w2)) hb)
    have HF0 := Lib.hid hF.jobA
    clear hF
    refine hK.out _ _ ⟨⟨w3, C3.out⟩, rfl⟩ ?_
    clear hK K hK0 K0 hb
    try simp only [List.setIfInBounds_toArray, List.set_cons_zero, List.set_cons_succ]
    refine walkC_take _ rfl (fun K0 hK0 => ?_)
    simp only [List.map_cons, List.map_nil, List.getD_cons_zero, List.getD_cons_succ]
    refine wpQuiet_nil (hK0.out _ (fun K hK => ?_))
    go_simp
    refine (HR.out q _).mono ?_
    rintro e w4 ⟨rfl, hb⟩
    have C4 := Lib.hid (up_trans C3.out hb)
    have HG0 := Lib.hid (HF0.out.up hb)
    refine hK.out _ _ ⟨⟨w4, C4.out⟩, rfl⟩ ?_
    clear hK K hK0 K0 hb
    try simp only [List.setIfInBounds_toArray, List.set_cons_zero, List.set_cons_succ]
    refine walkC_take _ rfl (fun K0 hK0 => ?_)
    simp only [List.map_cons, List.map_nil, List.getD_cons_zero, List.getD_cons_succ]
    refine wpQuiet_nil (hK0.out _ (fun K hK => ?_))
    go_simp
    refine (HQ.out q _ _ _ HG0.out (HE.out q _ (up_trans HB2.out C4.out)) HL1.out HL2.out).mono ?_
    rintro e w5 ⟨rfl, hb⟩
    have C5 := Lib.hid (up_trans C4.out hb)
    refine hK.out _ _ ⟨⟨w5, C5.out⟩, rfl⟩ ?_
    clear hK K hK0 K0 hb
    try simp only [List.setIfInBounds_toArray, List.set_cons_zero, List.set_cons_succ]
    refine walkC_take _ rfl (fun K0 hK0 => ?_)
    simp only [List.map_cons, List.map_nil, List.getD_cons_zero, List.getD_cons_succ]
    repeat (first
      | (go_big_quiet_want; refine quiet_load_job _ rfl w.heap.size rfl cs HL.out HRG.out ?_; simp only [Act.put, List.setIfInBounds_toArray, List.set_cons_succ, List.set_cons_zero]; go_big_quiet_on)
      | go_big_quiet_step (fail))
    refine wpQuiet_nil (hK0.out _ (fun K hK => ?_))
    go_simp
    refine (HS.out i _ (up_trans HB2.out C5.out) HL1.out HL2.out).mono ?_
    rintro e w6 ⟨es1, rfl, hF, hb⟩
    have C6 := Lib.hid (up_trans C5.out hb)
    have HF1 := Lib.hid hF.jobA
    clear hF
    refine hK.out _ _ ⟨⟨w6, C6.out⟩, rfl⟩ ?_
    clear hK K hK0 K0 hb
    try simp only [List.setIfInBounds_toArray, List.set_cons_zero, List.set_cons_succ]
    refine walkC_take _ rfl (fun K0 hK0 => ?_)
    simp only [List.map_cons, List.map_nil, List.getD_cons_zero, List.getD_cons_succ]
    refine wpQuiet_nil (hK0.out _ (fun K hK => ?_))
    go_simp
    refine (HR.out i _).mono ?_
    rintro e w7 ⟨rfl, hb⟩
    have C7 := Lib.hid (up_trans C6.out hb)
    have HG1 := Lib.hid (HF1.out.up hb)
    refine hK.out _ _ ⟨⟨w7, C7.out⟩, rfl⟩ ?_
    clear hK K hK0 K0 hb
    try simp only [List.setIfInBounds_toArray, List.set_cons_zero, List.set_cons_succ]
    refine walkC_take _ rfl (fun K0 hK0 => ?_)
    simp only [List.map_cons, List.map_nil, List.getD_cons_zero, List.getD_cons_succ]
    refine wpQuiet_nil (hK0.out _ (fun K hK => ?_))
    go_simp
    refine (HQ.out i _ _ _ HG1.out (HE.out i _ (up_trans HB2.out C7.out)) HL1.out HL2.out).mono ?_
    rintro e w8 ⟨rfl, hb⟩
    have C8 := Lib.hid (up_trans C7.out hb)
    refine hK.out _ _ ⟨⟨w8, C8.out⟩, rfl⟩ ?_
    clear hK K hK0 K0 hb
    try simp only [List.setIfInBounds_toArray, List.set_cons_zero, List.set_cons_succ]
    refine walkC_last (fun K0 hK0 => ?_)
    simp only [List.map_cons, List.map_nil, List.getD_cons_zero, List.getD_cons_succ]
    repeat (go_big_quiet_step (fail))
    refine wpQuiet_nil (hK0.out _ ?_)
    clear hK0 K0
    go_wp2
    go_ret
    exact ⟨rfl, up_trans HB2.out C8.out⟩

theorem walkBoundsSet (cs : List Value) (j : Jb) (i z : Int) (w : World) (h : JobA w cs j ∧ j.t.length ≤ maxLen ∧ ∀ p ∈ j.ls, p.length ≤ maxLen) (hi : (Lit.int .i64 i).wf = true) (hz : (Lit.int .i64 z).wf = true) (hg : GoodM w) :
    Calls Tryd.prog 4 #[.agg cs.toArray, .int .i64 i, .int .i64 z] w fun e w' => e = .returned (.bool true) ∧ Below w.heap.size w w' := by
  obtain ⟨h, h1, h2⟩ := h
  have h0 := h
  obtain ⟨a, d, a', d', rfl, hs, hl⟩ := h0
  exact set_core _ (fun i => jobL (tx j.t) (setJ j.n i z) j.f.c j.f.r (.slice a j.f.l.length d) (.slice a' j.ls.length d')) j i z w h h1 h2 hg (fun i w1 hb => ⟨a, d, a', d', rfl, hs.up hb, hl.up hb⟩)
    (fun i w1 => refJobSet_any (tx j.t) j.n j.f.c j.f.r i z a a' _ d _ d' w1)
end Go.Proofs.YtcjnhgafifkfeaaDoor
/- gatherumlaw15.BoundsSet answers true for every job and every two ints. -/
namespace Go.Proofs.YtcjnhgafifkfeaaDoor.boundsSet
open Go.ChangeShapes Go.WideShapes Go.ChangeAt Go.RowKit Go.Joins
open Go.ChangeMaps (open_string shut_string)
set_option linter.unusedVariables false

theorem own : ownKnob Tryd.prog.godebug = none := by kernel_rfl
theorem laidOut : laidOutB Tryd.prog = true := by kernel_rfl
/-- A slice of integers that came in: nil, or a row of cells. -/
def IsRow (k : IntKind) (w : World) (a : Option Addr) (len cap : Nat) (zs : List Int) : Prop :=
  (a = none ∧ len = 0 ∧ cap = 0 ∧ zs = []) ∨
  ∃ x, a = some x ∧ len ≤ cap ∧ cap ≤ maxLen ∧ zs.length = cap ∧ (∀ i, i < zs.length → w.cell? (x.add i) = some (.int k (zs.getD i 0))) ∧ ∀ n ∈ zs, (Lit.int k n).wf = true

/-- Four things, one by one. -/
theorem list4 {α : Type} (l : List α) (h : (⟨l⟩ : Array α).size = 4) : ∃ a b c d, l = [a, b, c, d] := by
  match l, h with
  | [a, b, c, d], _ => exact ⟨a, b, c, d, rfl⟩

theorem plain_laid (W : World) (h : laidMetH Tryd.prog Rows.boundsSetRow.laid W) : laidMet Tryd.prog Rows.boundsSetRow.laid W := by
  rw [MakeChecks.laidMetH_plain _ _ _ (by kernel_rfl)] at h; exact h

set_option maxHeartbeats 400000 in
set_option maxRecDepth 100000 in
theorem lifted (os : Os) (started : os.Started) (H : Type) (enc : TypeId × Value → H) :
    ReturnsInHanded {} Tryd.checked os 4 .any (fun w args => (Rows.boundsSetSpec.pre enc Tryd.prog Tryd.f4 [] false w args ∧ laidMetH Tryd.prog Rows.boundsSetRow.laid w) ∧ sizedMet enc Tryd.prog Tryd.f4 (OpenSpec.ofChange Rows.boundsSetSpec) false w args) (Rows.boundsSetSpec.post enc Tryd.prog Tryd.f4 false true false false) := by
  refine returnsInHanded_of_calls (C := Tryd.checked) own started (by kernel_rfl)
    (ChangeSpec.witness_shaped (enc := enc) (C := Tryd.checked) (os := os) (X := fun w _ => laidMetH Tryd.prog Rows.boundsSetRow.laid w) false (World.laidAll Tryd.prog os Rows.boundsSetRow.laid) #[.agg #[.string ⟨#[]⟩, .int .i64 0, .int .i64 0, .int .i64 0, .int .i64 0, .int .i64 0, .int .i64 0, .int .i64 0, .int .i64 0, .int .i64 0, .int .i64 0, .int .i64 0, .int .i64 0, .int .i64 0, .slice none 0 0, .slice none 0 0, .int .i64 0, .int .i64 0, .int .i64 0, .int .i64 0, .int .i64 0, .int .i64 0, .int .i64 0, .int .i64 0, .int .i64 0, .int .i64 0, .int .i64 0, .int .i64 0, .int .i64 0, .int .i64 0, .int .i64 0, .int .i64 0, .int .i64 0], .int .i64 0, .int .i64 0] 8 (World.laidAll_os _ _ _)
      (World.shaped_of_ZipB (by kernel_rfl) (by kernel_rfl)) (by kernel_rfl) (by kernel_rfl) (by kernel_rfl)
      (by rw [MakeChecks.laidMetH_plain _ _ _ (by kernel_rfl)]; exact laidMet_laidAll _ (by kernel_rfl) (by kernel_rfl))) ?_
  intro w0 tape inp _ hsh _ hok hpre _
  obtain ⟨_, _, _, fn, hfn, _, _, _, _, hval1⟩ := hok
  obtain rfl : Tryd.f4 = fn := Option.some.inj (Tryd.func4.symm.trans hfn)
  obtain ⟨⟨⟨ds, gs, before, hW0, -⟩, hX⟩, -⟩ := hpre
  have hW := DataW.Whole.of_heap (w' := w0.forCall tape inp) (by rfl) hW0
  have hLH : laidMetH Tryd.prog Rows.boundsSetRow.laid (w0.forCall tape inp) := hX.of_heap (by rfl)
  clear hW0 hX
  obtain ⟨W, hWd⟩ : ∃ W, w0.forCall tape inp = W := ⟨_, rfl⟩
  obtain ⟨args, hargs⟩ : ∃ args, inp.args = args := ⟨_, rfl⟩
  obtain ⟨base, hbase⟩ : ∃ base, w0.heap.size = base := ⟨_, rfl⟩
  rw [hWd] at hsh hval1 hW hLH ⊢
  rw [hargs] at hval1 hW ⊢
  rw [hbase] at hval1
  have hval0 : ∀ (j : Nat) t v, Tryd.f4.params[j]? = some t → args[j]? = some v → Value.okWide Tryd.prog W .any base t v := hval1
  clear hWd hargs hbase hval1 hfn
  have hL := plain_laid W hLH
  refine (show Calls Tryd.prog 4 args W fun e W' => ∃ v, e = .returned v ∧ Rows.boundsSetSpec.post enc Tryd.prog Tryd.f4 false true false false W args v W' from ?_).mono fun e W' ⟨v, he, hp⟩ => by
    subst he
    exact ChangeSpec.post_blind hp
  have hval : ∀ (j : Nat) t v, Tryd.f4.params[j]? = some t → args[j]? = some v → Value.okWide Tryd.prog W .any base t v := hval0
  have hW' := hW
  obtain ⟨p, q, hA0, hV, rfl, hfz, hnd⟩ := hW
  have hA : DataW.TrodAll enc Tryd.prog W 0 (fun _ => true) true Tryd.f4.params.toList args.toList ds p := hA0
  rw [Tryd.params4] at hA hval
  obtain ⟨v0, vs0, d0, ds0, p0, q0, hargs, rfl, rfl, h0, r0⟩ := trodAll_cons hA
  obtain ⟨v1, vs1, d1, ds1, p1, q1, rfl, rfl, rfl, h1, r1⟩ := trodAll_cons r0
  obtain ⟨v2, vs2, d2, ds2, p2, q2, rfl, rfl, rfl, h2, r2⟩ := trodAll_cons r1
  obtain ⟨rfl, rfl, rfl⟩ := trodAll_nil r2
  obtain rfl : args = #[v0, v1, v2] := by cases args; simp_all
  obtain ⟨rfl, rfl⟩ := trodVars_none hV
  have k0 := h0
  have lt0 : ∀ x ∈ p0, x.block < W.heap.size := by obtain ⟨m, hm⟩ := k0; exact DataW.trod_lt m _ _ _ hm
  obtain ⟨cs0, rfl, hsz0, _⟩ : ∃ cs, v0 = .agg cs ∧ cs.size = Tryd.prog.cellsOf 29 ∧ Row.okWide Tryd.prog W .any base 29 cs := by
    have := hval 0 29 v0 rfl rfl
    simpa [Value.okWide, Tryd.underlying29] using this
  rw [show Tryd.prog.cellsOf 29 = 33 by kernel_rfl] at hsz0
  obtain ⟨l0⟩ := cs0
  obtain ⟨fuel0, hf0⟩ := h0
  obtain ⟨jb0, w0⟩ := open_job (cs := l0) hsz0 hf0
  obtain ⟨a1, rfl, rfl, rfl, w1⟩ := open_int Tryd.underlying3 (hval 1 3 v1 rfl rfl) h1
  obtain ⟨a2, rfl, rfl, rfl, w2⟩ := open_int Tryd.underlying3 (hval 2 3 v2 rfl rfl) h2
  clear hA0 hval0
  refine (walkBoundsSet l0 jb0 a1 a2 W w0 w1 w2 (⟨good_of hL 2 4 5 rfl rfl rfl, mx_of hsh⟩)).mono fun e W' ⟨he, bel⟩ => ?_
  subst he
  exact ⟨_, rfl, _, _, _, [], _, [], hW', trodAll_mk1 (shut_bool Tryd.underlying4 _), (trodAll_cons_mk (Below.trod laidOut (by kernel_rfl) (of_decide_eq_true (by kernel_rfl)) k0 bel lt0) (trodAll_cons_mk (shut_int Tryd.underlying3 w1) (trodAll_cons_mk (shut_int Tryd.underlying3 w2) trodAll_mk0))), rfl, bel.frame _, fun h => by cases h⟩

theorem over : Rows.boundsSetRow.holds Tryd.pinned (OpenSpec.ofChange Rows.boundsSetSpec) :=
  OpenClaim.holds_of_wide 4 Tryd.f4 rfl rfl rfl rfl rfl rfl rfl ⟨rfl, rfl, rfl, rfl, rfl⟩ rfl rfl rfl rfl rfl (by kernel_rfl) Tryd.func4 (by kernel_rfl)
    (of_decide_eq_true (by kernel_rfl)) (by unfold Func.isWrapper; first | (rw [if_pos (by decide +kernel)]; kernel_rfl) | (rw [if_neg (by decide +kernel)]; exact ⟨rfl, rfl⟩))
    (fun os started H enc _ => lifted os started H enc)

theorem proved : Rows.BoundsSetCardSaid :=
  Claim7.holds_tied_plain_at .later [] [.data, .data, .data, .data, .sentinel, .sentinel, .pinned] true (true, "e008fbdc1c684c9ea465b29b2449da7ab482333efdb41aa160df1de3b66a88ff") true
    over (fun _ h => by cases h) (by kernel_rfl) (fun _ h => by cases h) boundsSet_row_tie rfl ⟨rfl, rfl⟩ (by kernel_rfl) rfl
    (fun f fn hf hfn => by
      obtain rfl : f = 4 := Option.some.inj ((show Tryd.prog.funcNamed "gatherum/gatherumlaw15.BoundsSet" = some 4 by kernel_rfl).symm.trans hf) |>.symm
      obtain rfl : fn = Tryd.f4 := (Option.some.inj (Tryd.func4.symm.trans hfn)).symm
      exact ⟨by kernel_rfl, fun j t ht => by
        rw [Tryd.params4] at ht
        have hm : t ∈ [29, 3, 3] := by have := Array.mem_of_getElem? ht; simpa using this
        have hall : ([29, 3, 3].all fun u => !Tryd.prog.wantsStandIn u) = true := by kernel_rfl
        exact (show Tryd.prog.wantsStandIn t = false by simpa using List.all_eq_true.1 hall t hm)⟩)
    (by kernel_rfl)
#print axioms proved
end Go.Proofs.YtcjnhgafifkfeaaDoor.boundsSet
