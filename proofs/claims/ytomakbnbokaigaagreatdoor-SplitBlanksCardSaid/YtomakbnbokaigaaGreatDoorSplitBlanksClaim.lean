/- Of any job Blanks, Count and Leaves are as the chapter says (P17.2, P17.3): all pages are taken, and fewer are blank than one signature of Folds has. -/
import Derived.Test.YtomakbnbokaigaaGreatDoorPart16
import Derived.Test.YtomakbnbokaigaaGreatDoorPart18
import Derived.Test.YtomakbnbokaigaaGreatDoorRows
import Derived.Test.YtomakbnbokaigaaGreatDoorCards
import Derived.Test.YtomakbnbokaigaaGreatDoorTie
import Derived.WalkKit
import Derived.LaidMore
import Derived.Lay
import Derived.MakeChecks
import Derived.Stop.Joined
import Derived.SevenTiedAt
import Derived.ProofKit
import Derived.OpenShut
import Derived.ShutString
import Derived.ChangeOld
import Derived.Below
import Derived.Lib.SmallJoins
import Derived.Laws.IdiomArrays
/- gatherumlaw17.SplitBlanks answers true, for every job. -/
namespace Go.Proofs.YtomakbnbokaigaaGreatDoor
open Go.RowKit
set_option linter.unusedVariables false
set_option linter.unusedSimpArgs false

theorem blanks_zero {j : Jb} (h : partB j = false) : cntS j = 0 ∧ blanksS j = 0 := by
  unfold cntS blanksS
  simp [h]

set_option maxRecDepth 100000 in
set_option maxHeartbeats 2000000 in
theorem blanks_core (cs : List Value) (N b p each k l : Int) (c r : Int) (a : Option Addr) (n cap : Nat) (u : Bool) (w : World) (hL : cs.length = 33) (h1 : cs[1]? = some (.int .i64 N)) (h12 : cs[12]? = some (.int .i64 c)) (h13 : cs[13]? = some (.int .i64 r)) (h14 : cs[14]? = some (.slice a n cap)) (hg : GoodM w)
    (p0 : 0 ≤ p) (p1 : p ≤ 4096) (he : 2 * p = each) (hk0 : 0 ≤ k) (hk1 : k ≤ 50000) (hku : (k == 0) = u)
    (hz : u = true → b = 0)
    (t m k1 x y : Int) (ht : 2 * l = t) (l0 : 0 ≤ l) (l1 : l ≤ 1000000) (hm : N + b = m) (hk : k - 1 = k1) (hx : k1 * each = x) (hy : k * each = y)
    (hf : u = false → (1 ≤ N ∧ N ≤ 100000) ∧ (0 ≤ b ∧ b < each ∧ t = m ∧ x < N ∧ y ≥ N) ∧ 0 ≤ x ∧ y ≤ 1000000)
    (KB : ∀ w1, Below w.heap.size w w1 → Calls Tryz.prog 19 #[.agg cs.toArray] w1 fun e w' => e = .returned (.int .i64 b) ∧ Below w1.heap.size w1 w')
    (KP : ∀ w1, Calls Tryz.prog 20 #[.agg #[.int .i64 c, .int .i64 r, .slice a n cap]] w1 fun e w' => e = .returned (.int .i64 p) ∧ Below w1.heap.size w1 w')
    (KC : ∀ w1, Below w.heap.size w w1 → Calls Tryz.prog 14 #[.agg cs.toArray] w1 fun e w' => e = .returned (.int .i64 k) ∧ Below w1.heap.size w1 w')
    (KL : ∀ w1, Below w.heap.size w w1 → Calls Tryz.prog 15 #[.agg cs.toArray] w1 fun e w' => e = .returned (.int .i64 l) ∧ Below w1.heap.size w1 w') :
    Calls Tryz.prog 4 #[.agg cs.toArray] w fun e w' => e = .returned (.bool true) ∧ Below w.heap.size w w' := by
  have HX := Lib.hid (Bx.new w 29 cs)
  have HB := Lib.hid (up_alloc (Below.refl w.heap.size w) (.cells cs.toArray 29))
  have HL := Lib.hid hL; have HG := Lib.hid hg
  have H1 := Lib.hid h1; have H12 := Lib.hid h12; have H13 := Lib.hid h13; have H14 := Lib.hid h14
  have HKB := Lib.hid KB; have HKP := Lib.hid KP; have HKC := Lib.hid KC; have HKL := Lib.hid KL
  have HF := Lib.hid hf; have HZ := Lib.hid hz
  clear hL hg h1 h12 h13 h14 KB KP KC KL hf hz
  go_enter Tryz.func4, Tryz.ntmps4
  go_wp2_with fail
  refine (spAliveL_any _ (HG.out.below HB.out)).mono ?_
  rintro e w1 ⟨rfl, hb⟩
  have HX1 := Lib.hid (HX.out.later (by rw [HL.out]; decide) hb)
  have HB1 := Lib.hid (up_trans HB.out hb)
  clear hb
  have HRG := Lib.hid (later_range HX1.out (by rw [HL.out]; decide))
  have j1 := fun x : Later w1 => x.cell (HX1.out.cell 1 H1.out)
  have j12 := fun x : Later w1 => x.cell (HX1.out.cell 12 H12.out)
  have j13 := fun x : Later w1 => x.cell (HX1.out.cell 13 H13.out)
  have j14 := fun x : Later w1 => x.cell (HX1.out.cell 14 H14.out)
  go_wp2_with fail
  refine later_start (w := w1) ?_
  intro v
  refine wp_region_later (by kernel_rfl) (by kernel_rfl) ?_
  repeat (first
    | (go_big_quiet_want; refine quiet_load_job _ rfl w.heap.size rfl cs HL.out HRG.out ?_; simp only [Act.put, List.setIfInBounds_toArray, List.set_cons_succ, List.set_cons_zero]; go_big_quiet_on)
    | go_big_quiet_step ((first | (go_at_call 19; with_reducible exact Later.call (HKB.out _ (up_trans HB1.out (Later.up _)))) | (go_at_call 20; with_reducible exact Later.call (HKP.out _)))))
  refine wpQuiet_nil ?_
  rintro _ ⟨v2, rfl⟩
  have HXv := Lib.hid (HX1.out.later (by rw [HL.out]; decide) v2.up)
  go_wp2_with (refine wpList_load_job rfl _ rfl w.heap.size rfl cs HXv.out HL.out ?_; simp only [Act.put, List.setIfInBounds_toArray, List.set_cons_succ, List.set_cons_zero])
  refine (HKC.out _ (up_trans HB1.out v2.up)).mono ?_
  rintro e w3 ⟨rfl, hb⟩
  obtain ⟨v3, rfl⟩ := Later.next hb
  clear hb
  cases u
  · obtain ⟨⟨n1, n2⟩, ⟨b0, b1, b2, b3, b4⟩, x0, y0⟩ := HF.out rfl
    have d1 : decide (0 ≤ b) = true := by simp; omega
    have d2 : decide (b < each) = true := by simp; omega
    have d3 : (t == m) = true := by simp; omega
    have d4 : decide (x < N) = true := by simp; omega
    have d5 : decide (N ≤ y) = true := by simp; omega
    go_wp2_with fail
    refine wp_region_later (by kernel_rfl) (by kernel_rfl) ?_
    repeat (first
      | (go_big_quiet_want; refine quiet_load_job _ rfl w.heap.size rfl cs HL.out HRG.out ?_; simp only [Act.put, List.setIfInBounds_toArray, List.set_cons_succ, List.set_cons_zero]; go_big_quiet_on)
      | go_big_quiet_step ((first | (go_at_call 15; with_reducible exact Later.call (HKL.out _ (up_trans HB1.out (Later.up _)))) | (go_at_call 14; with_reducible exact Later.call (HKC.out _ (up_trans HB1.out (Later.up _)))))))
    refine wpQuiet_nil ?_
    rintro _ ⟨v4, rfl⟩
    have BB := Lib.hid (up_trans HB1.out v4.up)
    clear j1 j12 j13 j14
    go_wp2
    go_ret
    exact ⟨rfl, BB.out⟩
  · obtain rfl := HZ.out rfl
    have BB := Lib.hid (up_trans HB1.out v3.up)
    clear j1 j12 j13 j14
    go_wp2
    go_ret
    exact ⟨rfl, BB.out⟩

theorem walkSplitBlanks (cs : List Value) (j : Jb) (w : World) (h : (JobA w cs j ∧ j.t.length ≤ maxLen ∧ ∀ p ∈ j.ls, p.length ≤ maxLen) ∧ (∀ i, -9223372036854775808 ≤ j.n i ∧ j.n i ≤ 9223372036854775807) ∧ j.f.c ≤ 9223372036854775807 ∧ j.f.r ≤ 9223372036854775807) (hg : GoodM w) :
    Calls Tryz.prog 4 #[.agg cs.toArray] w fun e w' => e = .returned (.bool true) ∧ Below w.heap.size w w' := by
  obtain ⟨⟨h, -, -⟩, -, hf⟩ := h
  obtain ⟨a, c, a', c', h12, h13, h14, h15, hI, hT⟩ := h.cells
  have hc := cnt_bounds j
  have hl := leaves_bounds j
  have hp := pan_ge j.f
  refine blanks_core cs (j.n 0) (blanksS j) (panM j.f.c j.f.r) _ (cntS j) (leavesS j) j.f.c j.f.r a _ c _ w h.length (h.num (k := 0) (by decide)) h12 h13 h14 hg hp.1 hp.2 rfl hc.1 hc.2 rfl (fun hu => ?_) _ _ _ _ _ rfl hl.1 hl.2 rfl rfl rfl rfl (fun hu => ?_)
    (fun w1 hb => spBlanks_any cs j w1 (h.up hb) hf (hg.below hb)) (fun w1 => refPanels_any _ _ _ _ _ w1) (fun w1 hb => spCount_any cs j w1 (h.up hb) hf (hg.below hb)) (fun w1 hb => spLeaves_any cs j w1 (h.up hb) hf (hg.below hb))
  · cases hq : partB j with
    | false => exact (blanks_zero hq).2
    | true =>
      obtain ⟨p1, p2, p3, -⟩ := part_facts hq
      have hb := others_bounds p3.1 p3.2 p1.1
      have : cntS j = othersM (j.n 0) (panS j.f) + 1 := by unfold cntS; rw [if_pos hq]
      simp at hu
      omega
  · have hq : partB j = true := by
      rw [← Bool.not_eq_false]
      intro hp
      rw [(blanks_zero hp).1] at hu
      cases hu
    obtain ⟨p1, p2, p3, -⟩ := part_facts hq
    obtain ⟨b0, b1, b2, b3, b4⟩ := blanks_right hq
    have hb := others_bounds p3.1 p3.2 p1.1
    have e : cntS j = othersM (j.n 0) (panS j.f) + 1 := by unfold cntS; rw [if_pos hq]
    refine ⟨p3, ⟨b0, b1, b2, b3, b4⟩, ?_, ?_⟩
    · rw [e, Int.add_sub_cancel]
      exact hb.2.2.2.2.2
    · rw [e, Int.add_mul]
      show othersM (j.n 0) (panS j.f) * (2 * panS j.f) + 1 * (2 * panS j.f) ≤ 1000000
      omega
end Go.Proofs.YtomakbnbokaigaaGreatDoor
/- Of any job Blanks, Count and Leaves are as the chapter says (P17.2, P17.3): all pages are taken, and fewer are blank than one signature of Folds has. -/
namespace Go.Proofs.YtomakbnbokaigaaGreatDoor.splitBlanks
open Go.ChangeShapes Go.WideShapes Go.ChangeAt Go.RowKit Go.Joins
open Go.ChangeMaps (open_string shut_string)
set_option linter.unusedVariables false

theorem own : ownKnob Tryz.prog.godebug = none := by kernel_rfl
theorem laidOut : laidOutB Tryz.prog = true := by kernel_rfl
/-- A slice of integers that came in: nil, or a row of cells. -/
def IsRow (k : IntKind) (w : World) (a : Option Addr) (len cap : Nat) (zs : List Int) : Prop :=
  (a = none ∧ len = 0 ∧ cap = 0 ∧ zs = []) ∨
  ∃ x, a = some x ∧ len ≤ cap ∧ cap ≤ maxLen ∧ zs.length = cap ∧ (∀ i, i < zs.length → w.cell? (x.add i) = some (.int k (zs.getD i 0))) ∧ ∀ n ∈ zs, (Lit.int k n).wf = true

/-- Four things, one by one. -/
theorem list4 {α : Type} (l : List α) (h : (⟨l⟩ : Array α).size = 4) : ∃ a b c d, l = [a, b, c, d] := by
  match l, h with
  | [a, b, c, d], _ => exact ⟨a, b, c, d, rfl⟩

theorem plain_laid (W : World) (h : laidMetH Tryz.prog Rows.splitBlanksRow.laid W) : laidMet Tryz.prog Rows.splitBlanksRow.laid W := by
  rw [MakeChecks.laidMetH_plain _ _ _ (by kernel_rfl)] at h; exact h

set_option maxHeartbeats 400000 in
set_option maxRecDepth 100000 in
theorem lifted (os : Os) (started : os.Started) (H : Type) (enc : TypeId × Value → H) :
    ReturnsInHanded {} Tryz.checked os 4 .any (fun w args => (Rows.splitBlanksSpec.pre enc Tryz.prog Tryz.f4 [] false w args ∧ laidMetH Tryz.prog Rows.splitBlanksRow.laid w) ∧ sizedMet enc Tryz.prog Tryz.f4 (OpenSpec.ofChange Rows.splitBlanksSpec) false w args) (Rows.splitBlanksSpec.post enc Tryz.prog Tryz.f4 false true false false) := by
  refine returnsInHanded_of_calls (C := Tryz.checked) own started (by kernel_rfl)
    (ChangeSpec.witness_shaped (enc := enc) (C := Tryz.checked) (os := os) (X := fun w _ => laidMetH Tryz.prog Rows.splitBlanksRow.laid w) false (World.laidAll Tryz.prog os Rows.splitBlanksRow.laid) #[.agg #[.string ⟨#[]⟩, .int .i64 0, .int .i64 0, .int .i64 0, .int .i64 0, .int .i64 0, .int .i64 0, .int .i64 0, .int .i64 0, .int .i64 0, .int .i64 0, .int .i64 0, .int .i64 0, .int .i64 0, .slice none 0 0, .slice none 0 0, .int .i64 0, .int .i64 0, .int .i64 0, .int .i64 0, .int .i64 0, .int .i64 0, .int .i64 0, .int .i64 0, .int .i64 0, .int .i64 0, .int .i64 0, .int .i64 0, .int .i64 0, .int .i64 0, .int .i64 0, .int .i64 0, .int .i64 0]] 8 (World.laidAll_os _ _ _)
      (World.shaped_of_ZipB (by kernel_rfl) (by kernel_rfl)) (by kernel_rfl) (by kernel_rfl) (by kernel_rfl)
      (by rw [MakeChecks.laidMetH_plain _ _ _ (by kernel_rfl)]; exact laidMet_laidAll _ (by kernel_rfl) (by kernel_rfl))) ?_
  intro w0 tape inp _ hsh _ hok hpre _
  obtain ⟨_, _, _, fn, hfn, _, _, _, _, hval1⟩ := hok
  obtain rfl : Tryz.f4 = fn := Option.some.inj (Tryz.func4.symm.trans hfn)
  obtain ⟨⟨⟨ds, gs, before, hW0, -⟩, hX⟩, -⟩ := hpre
  have hW := DataW.Whole.of_heap (w' := w0.forCall tape inp) (by rfl) hW0
  have hLH : laidMetH Tryz.prog Rows.splitBlanksRow.laid (w0.forCall tape inp) := hX.of_heap (by rfl)
  clear hW0 hX
  obtain ⟨W, hWd⟩ : ∃ W, w0.forCall tape inp = W := ⟨_, rfl⟩
  obtain ⟨args, hargs⟩ : ∃ args, inp.args = args := ⟨_, rfl⟩
  obtain ⟨base, hbase⟩ : ∃ base, w0.heap.size = base := ⟨_, rfl⟩
  rw [hWd] at hsh hval1 hW hLH ⊢
  rw [hargs] at hval1 hW ⊢
  rw [hbase] at hval1
  have hval0 : ∀ (j : Nat) t v, Tryz.f4.params[j]? = some t → args[j]? = some v → Value.okWide Tryz.prog W .any base t v := hval1
  clear hWd hargs hbase hval1 hfn
  have hL := plain_laid W hLH
  refine (show Calls Tryz.prog 4 args W fun e W' => ∃ v, e = .returned v ∧ Rows.splitBlanksSpec.post enc Tryz.prog Tryz.f4 false true false false W args v W' from ?_).mono fun e W' ⟨v, he, hp⟩ => by
    subst he
    exact ChangeSpec.post_blind hp
  have hval : ∀ (j : Nat) t v, Tryz.f4.params[j]? = some t → args[j]? = some v → Value.okWide Tryz.prog W .any base t v := hval0
  have hW' := hW
  obtain ⟨p, q, hA0, hV, rfl, hfz, hnd⟩ := hW
  have hA : DataW.TrodAll enc Tryz.prog W 0 (fun _ => true) true Tryz.f4.params.toList args.toList ds p := hA0
  rw [Tryz.params4] at hA hval
  obtain ⟨v0, vs0, d0, ds0, p0, q0, hargs, rfl, rfl, h0, r0⟩ := trodAll_cons hA
  obtain ⟨rfl, rfl, rfl⟩ := trodAll_nil r0
  obtain rfl : args = #[v0] := by cases args; simp_all
  obtain ⟨rfl, rfl⟩ := trodVars_none hV
  have k0 := h0
  have lt0 : ∀ x ∈ p0, x.block < W.heap.size := by obtain ⟨m, hm⟩ := k0; exact DataW.trod_lt m _ _ _ hm
  obtain ⟨cs0, rfl, hsz0, _⟩ : ∃ cs, v0 = .agg cs ∧ cs.size = Tryz.prog.cellsOf 29 ∧ Row.okWide Tryz.prog W .any base 29 cs := by
    have := hval 0 29 v0 rfl rfl
    simpa [Value.okWide, Tryz.underlying29] using this
  rw [show Tryz.prog.cellsOf 29 = 33 by kernel_rfl] at hsz0
  obtain ⟨l0⟩ := cs0
  obtain ⟨fuel0, hf0⟩ := h0
  obtain ⟨jb0, w0⟩ := open_jobF (cs := l0) hsz0 hf0
  clear hA0 hval0
  refine (walkSplitBlanks l0 jb0 W w0 (⟨good_of hL 2 4 5 rfl rfl rfl, mx_of hsh⟩)).mono fun e W' ⟨he, bel⟩ => ?_
  subst he
  exact ⟨_, rfl, _, _, _, [], _, [], hW', trodAll_mk1 (shut_bool Tryz.underlying4 _), (trodAll_cons_mk (Below.trod laidOut (by kernel_rfl) (of_decide_eq_true (by kernel_rfl)) k0 bel lt0) trodAll_mk0), rfl, bel.frame _, fun h => by cases h⟩

theorem over : Rows.splitBlanksRow.holds Tryz.pinned (OpenSpec.ofChange Rows.splitBlanksSpec) :=
  OpenClaim.holds_of_wide 4 Tryz.f4 rfl rfl rfl rfl rfl rfl rfl ⟨rfl, rfl, rfl, rfl, rfl⟩ rfl rfl rfl rfl rfl (by kernel_rfl) Tryz.func4 (by kernel_rfl)
    (of_decide_eq_true (by kernel_rfl)) (by unfold Func.isWrapper; first | (rw [if_pos (by decide +kernel)]; kernel_rfl) | (rw [if_neg (by decide +kernel)]; exact ⟨rfl, rfl⟩))
    (fun os started H enc _ => lifted os started H enc)

theorem proved : Rows.SplitBlanksCardSaid :=
  Claim7.holds_tied_plain_at .later [] [.data, .data, .data, .data, .sentinel, .sentinel, .pinned] true (true, "74e7381784273e75f882d4eab58ebfd808f6f8fb1cc264ed5ce8202565e923d7") true
    over (fun _ h => by cases h) (by kernel_rfl) (fun _ h => by cases h) splitBlanks_row_tie rfl ⟨rfl, rfl⟩ (by kernel_rfl) rfl
    (fun f fn hf hfn => by
      obtain rfl : f = 4 := Option.some.inj ((show Tryz.prog.funcNamed "gatherum/gatherumlaw17.SplitBlanks" = some 4 by kernel_rfl).symm.trans hf) |>.symm
      obtain rfl : fn = Tryz.f4 := (Option.some.inj (Tryz.func4.symm.trans hfn)).symm
      exact ⟨by kernel_rfl, fun j t ht => by
        rw [Tryz.params4] at ht
        have hm : t ∈ [29] := by have := Array.mem_of_getElem? ht; simpa using this
        have hall : ([29].all fun u => !Tryz.prog.wantsStandIn u) = true := by kernel_rfl
        exact (show Tryz.prog.wantsStandIn t = false by simpa using List.all_eq_true.1 hall t hm)⟩)
    (by kernel_rfl)
#print axioms proved
end Go.Proofs.YtomakbnbokaigaaGreatDoor.splitBlanks
