/- Of any job that Light lets through the last signature takes what is left, and no last one with fewer panels would (P17.2). -/
import Derived.Test.YtomakbnbokaigaaGreatDoorPart16
import Derived.Test.YtomakbnbokaigaaGreatDoorPart17
import Derived.Test.YtomakbnbokaigaaGreatDoorPart13
import Derived.Test.YtomakbnbokaigaaGreatDoorPart18
import Derived.Test.YtomakbnbokaigaaGreatDoorRows
import Derived.Test.YtomakbnbokaigaaGreatDoorCards
import Derived.Test.YtomakbnbokaigaaGreatDoorTie
import Derived.WalkKit
import Derived.LaidMore
import Derived.Lay
import Derived.MakeChecks
import Derived.Stop.Joined
import Derived.SevenTiedAt
import Derived.ProofKit
import Derived.OpenShut
import Derived.ShutString
import Derived.ChangeOld
import Derived.Below
import Derived.Lib.SmallJoins
import Derived.Laws.IdiomArrays
/- gatherumlaw17.SplitLast answers true, for every job. -/
namespace Go.Proofs.YtomakbnbokaigaaGreatDoor
open Go.RowKit
set_option linter.unusedVariables false
set_option linter.unusedSimpArgs false

set_option maxRecDepth 100000 in
set_option maxHeartbeats 4000000 in
theorem last_core (cs : List Value) (n : Int) (u : Bool) (N m m2 z R p ps qs : Int) (f s : Sc) (a a' : Option Addr) (cap K cap' fn : Nat) (ls : List (List UInt8)) (w : World) (hL : cs.length = 33) (h1 : cs[1]? = some (.int .i64 N)) (h12 : cs[12]? = some (.int .i64 f.c)) (h13 : cs[13]? = some (.int .i64 f.r)) (h14 : cs[14]? = some (.slice a fn cap)) (h15 : cs[15]? = some (.slice a' K cap')) (hg : GoodM w)
    (hk : ls.length = K) (hT : TxA w a' cap' ls)
    (c0 : 0 ≤ n) (c1 : n ≤ 50000) (hu : (n == 0) = u)
    (hu2 : u = false → (K ≤ 4 ∧ 1 ≤ N ∧ N ≤ 100000 ∧ 0 ≤ z ∧ z ≤ 1000000 ∧ 1 ≤ R ∧ R ≤ qs) ∧ ∀ x ∈ ls, ¬ (R ≤ 2 * panM ((findM x).getD zeroSc).c ((findM x).getD zeroSc).r ∧ panM ((findM x).getD zeroSc).c ((findM x).getD zeroSc).r < ps))
    (hm : n - 1 = m) (hm2 : m * 2 = m2) (hp0 : 0 ≤ p) (hp1 : p ≤ 4096) (hz : m2 * p = z) (hR : N - z = R) (hs0 : 0 ≤ ps) (hs1 : ps ≤ 4096) (hps : panM s.c s.r = ps) (hqs : 2 * ps = qs)
    (KC : ∀ w1, Below w.heap.size w w1 → Calls Tryz.prog 14 #[.agg cs.toArray] w1 fun e w' => e = .returned (.int .i64 n) ∧ Below w1.heap.size w1 w')
    (KLi : ∀ w1, Below w.heap.size w w1 → Calls Tryz.prog 7 #[.agg cs.toArray] w1 fun e w' => ∃ b, e = .returned (.bool b) ∧ Below w1.heap.size w1 w')
    (KA : ∀ w1, Below w.heap.size w w1 → u = false → Calls Tryz.prog 17 #[.agg cs.toArray, .int .i64 m] w1 (GivesS (some s) w1))
    (KP : ∀ w1, Calls Tryz.prog 20 #[.agg #[.int .i64 f.c, .int .i64 f.r, .slice a fn cap]] w1 fun e w' => e = .returned (.int .i64 p) ∧ Below w1.heap.size w1 w') :
    Calls Tryz.prog 5 #[.agg cs.toArray] w fun e w' => e = .returned (.bool true) ∧ Below w.heap.size w w' := by
  have HX := Lib.hid (Bx.new w 29 cs)
  have HB := Lib.hid (up_alloc (Below.refl w.heap.size w) (.cells cs.toArray 29))
  have HL := Lib.hid hL; have HG := Lib.hid hg
  have H1 := Lib.hid h1; have H12 := Lib.hid h12; have H13 := Lib.hid h13; have H14 := Lib.hid h14; have H15 := Lib.hid h15
  have HKC := Lib.hid KC; have HKL := Lib.hid KLi; have HKA := Lib.hid KA; have HKP := Lib.hid KP
  have HU2 := Lib.hid hu2; have HT := Lib.hid hT; have HK := Lib.hid hk
  have HS := Lib.hid (fun a1 k1 w1 => refPanels_any s.c s.r a1 s.l.length k1 w1)
  rw [hps] at HS
  clear hL hg h1 h12 h13 h14 h15 KC KLi KA KP hu2 hT hk hps
  go_enter Tryz.func5, Tryz.ntmps5
  go_wp2_with fail
  refine (spAliveL_any _ (HG.out.below HB.out)).mono ?_
  rintro e w1 ⟨rfl, hb⟩
  have HX1 := Lib.hid (HX.out.later (by rw [HL.out]; decide) hb)
  have HB1 := Lib.hid (up_trans HB.out hb)
  clear hb
  go_wp2_with (refine wpList_load_job rfl _ rfl w.heap.size rfl cs HX1.out HL.out ?_; simp only [Act.put, List.setIfInBounds_toArray, List.set_cons_succ, List.set_cons_zero])
  refine (HKC.out _ HB1.out).mono ?_
  rintro e w2 ⟨rfl, hb⟩
  have HX2 := Lib.hid (HX1.out.later (by rw [HL.out]; decide) hb)
  have HB2 := Lib.hid (up_trans HB1.out hb)
  clear hb
  cases u
  case true =>
    go_wp2
    go_ret
    exact ⟨rfl, HB2.out⟩
  obtain ⟨⟨hK, n1, n2, z0, z1, r1, r2⟩, hleast⟩ := HU2.out rfl
  have HLe := Lib.hid hleast
  clear hleast
  go_wp2_with (refine wpList_load_job_want _ rfl rfl w.heap.size rfl cs HX2.out HL.out ?_; simp only [Act.put, List.setIfInBounds_toArray, List.set_cons_succ, List.set_cons_zero])
  refine (HKL.out _ HB2.out).mono ?_
  rintro e w3 ⟨b, rfl, hb⟩
  have HX3 := Lib.hid (HX2.out.later (by rw [HL.out]; decide) hb)
  have HB3 := Lib.hid (up_trans HB2.out hb)
  clear hb
  cases b
  · go_wp2
    go_ret
    exact ⟨rfl, HB3.out⟩
  go_wp2_with (refine wpList_load_job rfl _ rfl w.heap.size rfl cs HX3.out HL.out ?_; simp only [Act.put, List.setIfInBounds_toArray, List.set_cons_succ, List.set_cons_zero])
  refine (HKA.out _ HB3.out (by trivial)).mono ?_
  rintro e w4 ⟨a4, k4, rfl, hF, hb⟩
  simp only [Option.getD_some, Option.isSome_some] at hF ⊢
  have S := Bx.new w4 26 [.int .i64 s.c, .int .i64 s.r, .slice a4 s.l.length k4]
  have U := up_alloc (Below.refl w4.heap.size w4) (.cells #[.int .i64 s.c, .int .i64 s.r, .slice a4 s.l.length k4] 26)
  have X5 := (HX3.out.later (by rw [HL.out]; decide) hb).later (by rw [HL.out]; decide) U
  have HB5 := Lib.hid (up_trans (up_trans HB3.out hb) U)
  clear hb U hF
  go_wp2_with fail
  obtain ⟨w5, hw5⟩ : ∃ w5, w4.alloc (.cells #[.int .i64 s.c, .int .i64 s.r, .slice a4 s.l.length k4] 26) = w5 := ⟨_, rfl⟩
  rw [hw5] at S X5 HB5 ⊢
  clear hw5
  have HX5 := Lib.hid X5; have HSb := Lib.hid S
  clear S X5
  have j1 := fun x : Later w5 => x.cell (HX5.out.cell 1 H1.out)
  have j12 := fun x : Later w5 => x.cell (HX5.out.cell 12 H12.out)
  have j13 := fun x : Later w5 => x.cell (HX5.out.cell 13 H13.out)
  have j14 := fun x : Later w5 => x.cell (HX5.out.cell 14 H14.out)
  refine later_start (w := w5) ?_
  intro x
  refine wp_region_later (by kernel_rfl) (by kernel_rfl) ?_
  repeat (go_big_quiet_step ((go_at_call 20; with_reducible exact Later.call (HKP.out _))))
  refine wpQuiet_nil ?_
  rintro _ ⟨x2, rfl⟩
  clear j1 j12 j13 j14
  have s0 := x2.cell (HSb.out.cell 0 rfl); have s1 := x2.cell (HSb.out.cell 1 rfl); have s2 := x2.cell (HSb.out.cell 2 rfl)
  go_wp2_with fail
  refine (HS.out _ _ _).mono ?_
  rintro e w6 ⟨rfl, hb⟩
  obtain ⟨x3, rfl⟩ := Later.next hb
  clear hb s0 s1 s2
  have d1 : decide (qs < R) = false := by simp; omega
  have d2 : ¬ qs < R := by omega
  go_wp2
  go_loopw [7] (fun i wr => ∃ j : Nat, j ≤ K ∧ i = .int .i64 (j : Int) ∧ ∃ y : Later w5, wr = y.now) (fun i _ => K - (intOf i).toNat)
  case atStart => exact ⟨0, by omega, by go_num, x3, rfl⟩
  case round =>
    obtain ⟨j, hj, rfl, y, rfl⟩ := hrel
    have d15 := y.cell (HX5.out.cell 15 H15.out)
    by_cases hlt : j < K
    · obtain ⟨nm, hx⟩ : ∃ x, ls[j]? = some x := ⟨ls[j]'(by rw [HK.out]; exact hlt), List.getElem?_eq_getElem _⟩
      obtain ⟨g, o, rfl, hc, -, -⟩ := HT.out.resolve_left (by rintro rfl; cases hx)
      have hcx := y.cell (bl_cell HB5.out (hc j nm hx))
      have z0 : (0 : Int) ≤ (j : Int) := by omega
      have z3 : (j : Int) < (K : Int) := by omega
      have HFi := Lib.hid (refFind_any nm y.now)
      have hle := HLe.out nm (List.mem_of_getElem? hx)
      have hpt := pan_ge ((findM nm).getD zeroSc)
      unfold panS at hpt
      unfold GivesS at HFi
      have HPt := Lib.hid (fun a1 k1 w1 => refPanels_any ((findM nm).getD zeroSc).c ((findM nm).getD zeroSc).r a1 ((findM nm).getD zeroSc).l.length k1 w1)
      generalize (findM nm).getD zeroSc = t at *
      generalize (findM nm).isSome = fb at *
      generalize panM t.c t.r = pt at *
      generalize tx nm = Z at *
      obtain ⟨pt0, pt1⟩ := hpt
      obtain ⟨q3, hq3⟩ : ∃ q3, 2 * pt = q3 := ⟨_, rfl⟩
      obtain ⟨u1, hu1⟩ : ∃ u1, decide (pt < ps) = u1 := ⟨_, rfl⟩
      have hv1 : u1 = true → decide (R ≤ q3) = false := by
        intro h
        rw [h, decide_eq_true_eq] at hu1
        rw [decide_eq_false_iff_not]
        omega
      have HV1 := Lib.hid hv1
      clear hx hc hle hv1
      go_wp2_with fail
      refine HFi.out.mono ?_
      rintro e w7 ⟨a3, c3, rfl, hF, hb⟩
      have S := Bx.new w7 26 [.int .i64 t.c, .int .i64 t.r, .slice a3 t.l.length c3]
      have U := up_alloc (Below.refl w7.heap.size w7) (.cells #[.int .i64 t.c, .int .i64 t.r, .slice a3 t.l.length c3] 26)
      have B8 := Lib.hid (up_trans y.up (up_trans hb U))
      clear hb U hF hcx d15
      go_wp2_with fail
      obtain ⟨w8, hw8⟩ : ∃ w8, w7.alloc (.cells #[.int .i64 t.c, .int .i64 t.r, .slice a3 t.l.length c3] 26) = w8 := ⟨_, rfl⟩
      rw [hw8] at S B8 ⊢
      clear hw8
      have j0 := fun x : Later w8 => x.cell (S.cell 0 rfl)
      have j1 := fun x : Later w8 => x.cell (S.cell 1 rfl)
      have j2 := fun x : Later w8 => x.cell (S.cell 2 rfl)
      have i0 := fun x : Later w8 => x.cell (bl_cell B8.out (HSb.out.cell 0 rfl))
      have i1 := fun x : Later w8 => x.cell (bl_cell B8.out (HSb.out.cell 1 rfl))
      have i2 := fun x : Later w8 => x.cell (bl_cell B8.out (HSb.out.cell 2 rfl))
      clear S
      cases u1
      · refine later_start (w := w8) ?_
        intro x
        refine wp_region_later (by kernel_rfl) (by kernel_rfl) ?_
        repeat (go_big_quiet_step ((go_at_call 20; first | with_reducible exact Later.call (HPt.out _ _ _) | with_reducible exact Later.call (HS.out _ _ _))))
        refine wpQuiet_nil ?_
        rintro _ ⟨x2, rfl⟩
        clear j0 j1 j2 i0 i1 i2
        go_wp2
        go_roundw
        case rel => exact ⟨j + 1, by omega, by go_num, ⟨x2.now, up_trans B8.out x2.up⟩, rfl⟩
        case measure => simp [intOf]; omega
      · have d3 := HV1.out rfl
        refine later_start (w := w8) ?_
        intro x
        refine wp_region_later (by kernel_rfl) (by kernel_rfl) ?_
        repeat (go_big_quiet_step ((go_at_call 20; first | with_reducible exact Later.call (HPt.out _ _ _) | with_reducible exact Later.call (HS.out _ _ _))))
        refine wpQuiet_nil ?_
        rintro _ ⟨x2, rfl⟩
        clear j0 j1 j2 i0 i1 i2
        go_wp2
        go_roundw
        case rel => exact ⟨j + 1, by omega, by go_num, ⟨x2.now, up_trans B8.out x2.up⟩, rfl⟩
        case measure => simp [intOf]; omega
    · obtain rfl : j = K := by omega
      go_wp2
      go_ret
      exact ⟨rfl, up_trans HB5.out y.up⟩

theorem walkSplitLast (cs : List Value) (j : Jb) (w : World) (h : (JobA w cs j ∧ j.t.length ≤ maxLen ∧ ∀ p ∈ j.ls, p.length ≤ maxLen) ∧ (∀ i, -9223372036854775808 ≤ j.n i ∧ j.n i ≤ 9223372036854775807) ∧ j.f.c ≤ 9223372036854775807 ∧ j.f.r ≤ 9223372036854775807) (hg : GoodM w) :
    Calls Tryz.prog 5 #[.agg cs.toArray] w fun e w' => e = .returned (.bool true) ∧ Below w.heap.size w w' := by
  obtain ⟨⟨h, ht, hz⟩, -, hf⟩ := h
  obtain ⟨a, c, a', c', h12, h13, h14, h15, hI, hT⟩ := h.cells
  have hc := cnt_bounds j
  have hp := pan_ge j.f
  have hs := pan_ge (sigS j (cntS j - 1))
  refine last_core cs (cntS j) _ (j.n 0) _ _ _ _ (panM j.f.c j.f.r) _ _ j.f (sigS j (cntS j - 1)) a a' c _ c' _ j.ls w h.length (h.num (k := 0) (by decide)) h12 h13 h14 h15 hg rfl hT hc.1 hc.2 rfl (fun hu => ?_) rfl rfl hp.1 hp.2 rfl rfl hs.1 hs.2 rfl rfl
    (fun w1 hb => spCount_any cs j w1 (h.up hb) hf (hg.below hb)) (fun w1 hb => (refLight_any cs j w1 (h.up hb) ht hz).mono fun e w' ⟨b, he, _, hb2⟩ => ⟨b, he, hb2⟩) (fun w1 hb hu => ?_) (fun w1 => refPanels_any _ _ _ _ _ w1)
  · have hq : partB j = true := cnt_pos (by simp at hu; omega)
    obtain ⟨p1, p2, p3, p4, p5, p6, p7, p8⟩ := part_facts hq
    obtain ⟨o1, o2, r1, r2, z2, z1⟩ := others_bounds p3.1 p3.2 p1.1
    have e : cntS j = othersM (j.n 0) (panS j.f) + 1 := by unfold cntS; rw [if_pos hq]
    have e2 : sigS j (cntS j - 1) = lastS j := by unfold sigS partE; simp [hq]
    have e3 : (cntS j - 1) * 2 * panM j.f.c j.f.r = othersM (j.n 0) (panS j.f) * (2 * panS j.f) := by
      rw [e, Int.add_sub_cancel, Int.mul_assoc]
      rfl
    have e4 : j.n 0 - (cntS j - 1) * 2 * panM j.f.c j.f.r = restM2 (j.n 0) (panS j.f) := by rw [e3]; rfl
    rw [e4, e2, e3]
    refine ⟨⟨p4, p3.1, p3.2, z1, by omega, r1, p8⟩, fun x hx => ?_⟩
    exact foldl_least (restM2 (j.n 0) (panS j.f)) j.ls j.f r2 x hx
  · have := spAt_any cs j (cntS j - 1) w1 (h.up hb) hf (hg.below hb)
    have e : atS j (cntS j - 1) = some (sigS j (cntS j - 1)) := by
      unfold atS
      have hn : 0 ≤ cntS j - 1 := by simp at hu; omega
      rw [if_pos (by simp; omega)]
    rw [e] at this
    exact this
end Go.Proofs.YtomakbnbokaigaaGreatDoor
/- Of any job that Light lets through the last signature takes what is left, and no last one with fewer panels would (P17.2). -/
namespace Go.Proofs.YtomakbnbokaigaaGreatDoor.splitLast
open Go.ChangeShapes Go.WideShapes Go.ChangeAt Go.RowKit Go.Joins
open Go.ChangeMaps (open_string shut_string)
set_option linter.unusedVariables false

theorem own : ownKnob Tryz.prog.godebug = none := by kernel_rfl
theorem laidOut : laidOutB Tryz.prog = true := by kernel_rfl
/-- A slice of integers that came in: nil, or a row of cells. -/
def IsRow (k : IntKind) (w : World) (a : Option Addr) (len cap : Nat) (zs : List Int) : Prop :=
  (a = none ∧ len = 0 ∧ cap = 0 ∧ zs = []) ∨
  ∃ x, a = some x ∧ len ≤ cap ∧ cap ≤ maxLen ∧ zs.length = cap ∧ (∀ i, i < zs.length → w.cell? (x.add i) = some (.int k (zs.getD i 0))) ∧ ∀ n ∈ zs, (Lit.int k n).wf = true

/-- Four things, one by one. -/
theorem list4 {α : Type} (l : List α) (h : (⟨l⟩ : Array α).size = 4) : ∃ a b c d, l = [a, b, c, d] := by
  match l, h with
  | [a, b, c, d], _ => exact ⟨a, b, c, d, rfl⟩

theorem plain_laid (W : World) (h : laidMetH Tryz.prog Rows.splitLastRow.laid W) : laidMet Tryz.prog Rows.splitLastRow.laid W := by
  rw [MakeChecks.laidMetH_plain _ _ _ (by kernel_rfl)] at h; exact h

set_option maxHeartbeats 400000 in
set_option maxRecDepth 100000 in
theorem lifted (os : Os) (started : os.Started) (H : Type) (enc : TypeId × Value → H) :
    ReturnsInHanded {} Tryz.checked os 5 .any (fun w args => (Rows.splitLastSpec.pre enc Tryz.prog Tryz.f5 [] false w args ∧ laidMetH Tryz.prog Rows.splitLastRow.laid w) ∧ sizedMet enc Tryz.prog Tryz.f5 (OpenSpec.ofChange Rows.splitLastSpec) false w args) (Rows.splitLastSpec.post enc Tryz.prog Tryz.f5 false true false false) := by
  refine returnsInHanded_of_calls (C := Tryz.checked) own started (by kernel_rfl)
    (ChangeSpec.witness_shaped (enc := enc) (C := Tryz.checked) (os := os) (X := fun w _ => laidMetH Tryz.prog Rows.splitLastRow.laid w) false (World.laidAll Tryz.prog os Rows.splitLastRow.laid) #[.agg #[.string ⟨#[]⟩, .int .i64 0, .int .i64 0, .int .i64 0, .int .i64 0, .int .i64 0, .int .i64 0, .int .i64 0, .int .i64 0, .int .i64 0, .int .i64 0, .int .i64 0, .int .i64 0, .int .i64 0, .slice none 0 0, .slice none 0 0, .int .i64 0, .int .i64 0, .int .i64 0, .int .i64 0, .int .i64 0, .int .i64 0, .int .i64 0, .int .i64 0, .int .i64 0, .int .i64 0, .int .i64 0, .int .i64 0, .int .i64 0, .int .i64 0, .int .i64 0, .int .i64 0, .int .i64 0]] 8 (World.laidAll_os _ _ _)
      (World.shaped_of_ZipB (by kernel_rfl) (by kernel_rfl)) (by kernel_rfl) (by kernel_rfl) (by kernel_rfl)
      (by rw [MakeChecks.laidMetH_plain _ _ _ (by kernel_rfl)]; exact laidMet_laidAll _ (by kernel_rfl) (by kernel_rfl))) ?_
  intro w0 tape inp _ hsh _ hok hpre _
  obtain ⟨_, _, _, fn, hfn, _, _, _, _, hval1⟩ := hok
  obtain rfl : Tryz.f5 = fn := Option.some.inj (Tryz.func5.symm.trans hfn)
  obtain ⟨⟨⟨ds, gs, before, hW0, -⟩, hX⟩, -⟩ := hpre
  have hW := DataW.Whole.of_heap (w' := w0.forCall tape inp) (by rfl) hW0
  have hLH : laidMetH Tryz.prog Rows.splitLastRow.laid (w0.forCall tape inp) := hX.of_heap (by rfl)
  clear hW0 hX
  obtain ⟨W, hWd⟩ : ∃ W, w0.forCall tape inp = W := ⟨_, rfl⟩
  obtain ⟨args, hargs⟩ : ∃ args, inp.args = args := ⟨_, rfl⟩
  obtain ⟨base, hbase⟩ : ∃ base, w0.heap.size = base := ⟨_, rfl⟩
  rw [hWd] at hsh hval1 hW hLH ⊢
  rw [hargs] at hval1 hW ⊢
  rw [hbase] at hval1
  have hval0 : ∀ (j : Nat) t v, Tryz.f5.params[j]? = some t → args[j]? = some v → Value.okWide Tryz.prog W .any base t v := hval1
  clear hWd hargs hbase hval1 hfn
  have hL := plain_laid W hLH
  refine (show Calls Tryz.prog 5 args W fun e W' => ∃ v, e = .returned v ∧ Rows.splitLastSpec.post enc Tryz.prog Tryz.f5 false true false false W args v W' from ?_).mono fun e W' ⟨v, he, hp⟩ => by
    subst he
    exact ChangeSpec.post_blind hp
  have hval : ∀ (j : Nat) t v, Tryz.f5.params[j]? = some t → args[j]? = some v → Value.okWide Tryz.prog W .any base t v := hval0
  have hW' := hW
  obtain ⟨p, q, hA0, hV, rfl, hfz, hnd⟩ := hW
  have hA : DataW.TrodAll enc Tryz.prog W 0 (fun _ => true) true Tryz.f5.params.toList args.toList ds p := hA0
  rw [Tryz.params5] at hA hval
  obtain ⟨v0, vs0, d0, ds0, p0, q0, hargs, rfl, rfl, h0, r0⟩ := trodAll_cons hA
  obtain ⟨rfl, rfl, rfl⟩ := trodAll_nil r0
  obtain rfl : args = #[v0] := by cases args; simp_all
  obtain ⟨rfl, rfl⟩ := trodVars_none hV
  have k0 := h0
  have lt0 : ∀ x ∈ p0, x.block < W.heap.size := by obtain ⟨m, hm⟩ := k0; exact DataW.trod_lt m _ _ _ hm
  obtain ⟨cs0, rfl, hsz0, _⟩ : ∃ cs, v0 = .agg cs ∧ cs.size = Tryz.prog.cellsOf 29 ∧ Row.okWide Tryz.prog W .any base 29 cs := by
    have := hval 0 29 v0 rfl rfl
    simpa [Value.okWide, Tryz.underlying29] using this
  rw [show Tryz.prog.cellsOf 29 = 33 by kernel_rfl] at hsz0
  obtain ⟨l0⟩ := cs0
  obtain ⟨fuel0, hf0⟩ := h0
  obtain ⟨jb0, w0⟩ := open_jobF (cs := l0) hsz0 hf0
  clear hA0 hval0
  refine (walkSplitLast l0 jb0 W w0 (⟨good_of hL 2 4 5 rfl rfl rfl, mx_of hsh⟩)).mono fun e W' ⟨he, bel⟩ => ?_
  subst he
  exact ⟨_, rfl, _, _, _, [], _, [], hW', trodAll_mk1 (shut_bool Tryz.underlying4 _), (trodAll_cons_mk (Below.trod laidOut (by kernel_rfl) (of_decide_eq_true (by kernel_rfl)) k0 bel lt0) trodAll_mk0), rfl, bel.frame _, fun h => by cases h⟩

theorem over : Rows.splitLastRow.holds Tryz.pinned (OpenSpec.ofChange Rows.splitLastSpec) :=
  OpenClaim.holds_of_wide 5 Tryz.f5 rfl rfl rfl rfl rfl rfl rfl ⟨rfl, rfl, rfl, rfl, rfl⟩ rfl rfl rfl rfl rfl (by kernel_rfl) Tryz.func5 (by kernel_rfl)
    (of_decide_eq_true (by kernel_rfl)) (by unfold Func.isWrapper; first | (rw [if_pos (by decide +kernel)]; kernel_rfl) | (rw [if_neg (by decide +kernel)]; exact ⟨rfl, rfl⟩))
    (fun os started H enc _ => lifted os started H enc)

theorem proved : Rows.SplitLastCardSaid :=
  Claim7.holds_tied_plain_at .later [] [.data, .data, .data, .data, .sentinel, .sentinel, .pinned] true (true, "74e7381784273e75f882d4eab58ebfd808f6f8fb1cc264ed5ce8202565e923d7") true
    over (fun _ h => by cases h) (by kernel_rfl) (fun _ h => by cases h) splitLast_row_tie rfl ⟨rfl, rfl⟩ (by kernel_rfl) rfl
    (fun f fn hf hfn => by
      obtain rfl : f = 5 := Option.some.inj ((show Tryz.prog.funcNamed "gatherum/gatherumlaw17.SplitLast" = some 5 by kernel_rfl).symm.trans hf) |>.symm
      obtain rfl : fn = Tryz.f5 := (Option.some.inj (Tryz.func5.symm.trans hfn)).symm
      exact ⟨by kernel_rfl, fun j t ht => by
        rw [Tryz.params5] at ht
        have hm : t ∈ [29] := by have := Array.mem_of_getElem? ht; simpa using this
        have hall : ([29].all fun u => !Tryz.prog.wantsStandIn u) = true := by kernel_rfl
        exact (show Tryz.prog.wantsStandIn t = false by simpa using List.all_eq_true.1 hall t hm)⟩)
    (by kernel_rfl)
#print axioms proved
end Go.Proofs.YtomakbnbokaigaaGreatDoor.splitLast
