/- Of any job, Put answers the ticket that the document's own answers tell (or that it can't be told), and Parse answers the same job of that ticket: TicketBack answers true, and leaves its argument as it was -/
import Derived.Test.YtenigkjonegdmaaGreatDoorPart12
import Derived.Test.YtenigkjonegdmaaGreatDoorPart15
import Derived.Test.YtenigkjonegdmaaGreatDoorRows
import Derived.Test.YtenigkjonegdmaaGreatDoorCards
import Derived.Test.YtenigkjonegdmaaGreatDoorTie
import Derived.WalkKit
import Derived.LaidMore
import Derived.Lay
import Derived.MakeChecks
import Derived.Stop.Joined
import Derived.SevenTiedAt
import Derived.ProofKit
import Derived.OpenShut
import Derived.ShutString
import Derived.ChangeOld
import Derived.Below
import Derived.Lib.SmallJoins
import Derived.Laws.IdiomArrays
/- What TicketBack answers: true, of every job. -/
namespace Go.Proofs.YtenigkjonegdmaaGreatDoor
open Go.RowKit
set_option linter.unusedVariables false
set_option linter.unusedSimpArgs false

set_option maxRecDepth 100000 in
set_option maxHeartbeats 4000000 in
theorem back_core (cs : List Value) (j : Jb) (T : ByteArray) (a14 : Option Addr) (m d14 : Nat) (a15 : Option Addr) (N d15 : Nat) (b1 b2 b3 : Bool) (w : World) (h : JobA w cs j) (hl : cs.length = 33) (hw : WfJ j) (hg : GoodM w)
    (h0 : cs[0]? = some (.string T)) (h14 : cs[14]? = some (.slice a14 m d14)) (h15 : cs[15]? = some (.slice a15 N d15)) (hT : TxA w a15 d15 j.ls) (hN : j.ls.length = N) (hm : j.f.l.length = m) (hTz : T.size = j.t.length) (hz : ∀ x ∈ j.ls, x.length ≤ maxLen)
    (e1 : decide ((100 : Int) < (T.size : Int)) = b1) (e2 : decide ((6 : Int) < (N : Int)) = b2) (e3 : decide ((10 : Int) < (m : Int)) = b3) :
    Calls Tryz.prog 3 #[.agg cs.toArray] w fun e w' => e = .returned (.bool true) ∧ Below w.heap.size w w' := by
  have HX := Lib.hid (Bx.new w 29 cs)
  have hB := up_alloc (Below.refl w.heap.size w) (.cells cs.toArray 29)
  have HB := Lib.hid hB
  have HA := Lib.hid (tAlive_any _ (hg.below hB))
  have HL := Lib.hid hl; have HJ := Lib.hid h; have HW := Lib.hid hw; have HG := Lib.hid hg; have HN := Lib.hid hN; have HM := Lib.hid hm; have HTz := Lib.hid hTz; have HZ := Lib.hid hz; have HTx := Lib.hid hT
  replace h0 := Lib.hid h0; replace h14 := Lib.hid h14; replace h15 := Lib.hid h15
  have H1 := Lib.hid h.one
  clear hl h hw hg hN hm hTz hz hT hB
  go_enter Tryz.func3, Tryz.ntmps3
  go_wp2_with fail
  refine HA.out.mono ?_
  rintro e w2 ⟨rfl, hb⟩
  have HX2 := Lib.hid (HX.out.later (by rw [HL.out]; decide) hb)
  have HB2 := Lib.hid (up_trans HB.out hb)
  clear hb HX HB HA
  have c0 := HX2.out.cell 0 h0.out; have c14 := HX2.out.cell 14 h14.out; have c15 := HX2.out.cell 15 h15.out
  cases b1
  case true =>
    go_wp2
    go_ret
    exact ⟨rfl, HB2.out⟩
  cases b2
  case true =>
    go_wp2
    go_ret
    exact ⟨rfl, HB2.out⟩
  cases b3
  case true =>
    go_wp2
    go_ret
    exact ⟨rfl, HB2.out⟩
  have E1 := Lib.hid e1; have E2 := Lib.hid e2; have E3 := Lib.hid e3
  go_wp2
  clear c0 c14 e1 e2 e3
  have hN6 : N ≤ 6 := by have := E2.out; simp only [decide_eq_false_iff_not] at this; omega
  go_loopw [3] (fun i wr => ∃ k : Nat, k ≤ N ∧ i = .int .i64 (k : Int) ∧ Hid (∀ x ∈ j.ls.take k, x.length ≤ 60) ∧ wr = w2) (fun i _ => N - (intOf i).toNat)
  case atStart => exact ⟨0, by omega, by go_num, Lib.hid (by simp), rfl⟩
  case round =>
    obtain ⟨k, hk, rfl, H60, hwr⟩ := hrel
    obtain rfl : w2 = wr := hwr.symm
    clear hwr
    by_cases hlt : k < N
    · obtain ⟨x, hx⟩ : ∃ x, j.ls[k]? = some x := ⟨j.ls[k]'(by rw [HN.out]; exact hlt), List.getElem?_eq_getElem _⟩
      obtain ⟨g, o, rfl, hc, -, -⟩ := (HTx.out.up HB2.out).resolve_left (by intro h; rw [h] at hx; cases hx)
      have hcx := hc k x hx
      have hxz := HZ.out x (List.mem_of_getElem? hx)
      have z0 : (0 : Int) ≤ (k : Int) := by omega
      have z3 : (k : Int) < (N : Int) := by omega
      have htk := take_next hx
      obtain ⟨X, hX⟩ : ∃ X, tx x = X := ⟨_, rfl⟩
      have hXs : X.size = x.length := by rw [← hX, tx_size]
      rw [hX] at hcx
      unfold maxLen at hxz
      by_cases h60 : 60 < X.size
      · have z4 : (60 : Int) < (X.size : Int) := by omega
        clear hx hc htk hX
        go_wp2
        go_ret
        exact ⟨rfl, HB2.out⟩
      · have z4 : decide ((60 : Int) < (X.size : Int)) = false := by simp; omega
        have H61 := Lib.hid (show ∀ y ∈ j.ls.take (k + 1), y.length ≤ 60 by
          rw [htk]
          intro y hy
          rcases List.mem_append.1 hy with h | h
          · exact H60.out y h
          · obtain rfl := List.mem_singleton.1 h; omega)
        clear hx hc htk hX
        go_wp2
        go_roundw
        case rel => exact ⟨k + 1, by omega, by go_num, H61, by trivial⟩
        case measure => simp [intOf]; omega
    · obtain rfl : k = N := by omega
      have hall : j.ls.take k = j.ls := List.take_of_length_le (by rw [HN.out]; omega)
      have hz60 := H60.out
      rw [hall] at hz60
      have hnl := HN.out
      have hlm : j.f.l.length ≤ 1000000 := by
        have := HM.out
        have := E3.out
        simp only [decide_eq_false_iff_not] at this
        omega
      have htz : j.t.length ≤ 999999 := by
        have := HTz.out
        have := E1.out
        simp only [decide_eq_false_iff_not] at this
        omega
      have KP := put_any cs j w2 (HJ.out.up HB2.out) HW.out 60 hz60 (by decide) (by omega) (HG.out.below HB2.out)
      have KR := fun w1 (hb : Below w.heap.size w w1) => refTPut_any cs j w1 (HJ.out.up hb) HW.out 60 hz60 (by decide) (by omega) htz
      have KT := fun (ht : tellB j = true) w1 (hb : Below w.heap.size w w1) => parse_told_any ht HW.out 60 hz60 (by decide) w1 (HG.out.below hb)
      have KS := fun ds w1 (h1 : JobA w1 ds j) (hb : Below w.heap.size w w1) => jobSame_any ds cs j w1 h1 (HJ.out.up hb) hlm (by omega)
      unfold putT' at KP KR
      generalize tellB j = b at *
      generalize (rowsJ j).length + 1 = nn at *
      have HKS := Lib.hid KS
      clear KS hall hz60 hnl hlm htz
      cases b
      · have HKP := Lib.hid KP; have HKR := Lib.hid KR
        clear KP KR KT
        simp only [Bool.false_eq_true, if_false] at HKP HKR
        generalize tx [] = S at *
        go_wp2_with (refine wpList_load_job rfl _ rfl w.heap.size rfl cs HX2.out HL.out ?_; simp only [Act.put, List.setIfInBounds_toArray, List.set_cons_succ, List.set_cons_zero])
        refine HKP.out.mono ?_
        rintro e w3 ⟨rfl, hb⟩
        have HX3 := Lib.hid (HX2.out.later (by rw [HL.out]; decide) hb)
        have HB3 := Lib.hid (up_trans HB2.out hb)
        clear hb c15
        go_wp2_with (refine wpList_load_job rfl _ rfl w.heap.size rfl cs HX3.out HL.out ?_; simp only [Act.put, List.setIfInBounds_toArray, List.set_cons_succ, List.set_cons_zero])
        refine (HKR.out _ HB3.out).mono ?_
        rintro e w4 ⟨rfl, hb⟩
        have HB4 := Lib.hid (up_trans HB3.out hb)
        clear hb
        go_wp2
        go_ret
        exact ⟨rfl, HB4.out⟩
      · have HKP := Lib.hid KP; have HKR := Lib.hid KR; have HKT := Lib.hid (KT rfl)
        clear KP KR KT
        simp only [if_true] at HKP HKR
        generalize tx (textJ j) = S at *
        go_wp2_with (refine wpList_load_job rfl _ rfl w.heap.size rfl cs HX2.out HL.out ?_; simp only [Act.put, List.setIfInBounds_toArray, List.set_cons_succ, List.set_cons_zero])
        refine HKP.out.mono ?_
        rintro e w3 ⟨rfl, hb⟩
        have HX3 := Lib.hid (HX2.out.later (by rw [HL.out]; decide) hb)
        have HB3 := Lib.hid (up_trans HB2.out hb)
        clear hb c15
        go_wp2_with (refine wpList_load_job rfl _ rfl w.heap.size rfl cs HX3.out HL.out ?_; simp only [Act.put, List.setIfInBounds_toArray, List.set_cons_succ, List.set_cons_zero])
        refine (HKR.out _ HB3.out).mono ?_
        rintro e w4 ⟨rfl, hb⟩
        have HX4 := Lib.hid (HX3.out.later (by rw [HL.out]; decide) hb)
        have HB4 := Lib.hid (up_trans HB3.out hb)
        clear hb
        go_wp2_with fail
        refine (HKT.out _ HB4.out).mono ?_
        rintro e w5 ⟨ds, rfl, hJ, hb⟩
        have hld := hJ.length
        have HLd := Lib.hid hld
        have H1d := Lib.hid hJ.one
        have hZ5 := Bx.new w5 29 zeroL
        have HZ5 := Lib.hid hZ5
        have hb5 := up_trans HB4.out hb
        have hba := below_setCells (Nat.le_refl w5.heap.size) ds 0 _ (up_alloc (Below.refl w5.heap.size w5) (.cells zeroL.toArray 29))
        have HX6 := Lib.hid ((HX4.out.later (by rw [HL.out]; decide) hb).later (by rw [HL.out]; decide) hba)
        have HY6 := Lib.hid (hZ5.sets (ws := ds) (by rw [hld]; rfl))
        have HB6 := Lib.hid (up_trans hb5 hba)
        have HJ6 := Lib.hid (hJ.up hba)
        have HS6 := Lib.hid (HKS.out ds _ HJ6.out HB6.out)
        clear hJ hld hb hZ5 hb5 hba HKS HKT HKR HKP
        go_wp2_with (first
          | (refine wpList_alloc_to rfl 29 rfl _ _ (job_alloc _) ?_; simp only [Act.put, List.setIfInBounds_toArray, List.set_cons_succ, List.set_cons_zero])
          | (refine wpList_store_job rfl _ _ rfl w5.heap.size rfl zeroL ds rfl HZ5.out rfl HLd.out H1d.out ?_; simp only [Act.put])
          | (refine wpList_load_job_want _ rfl rfl w5.heap.size rfl ds HY6.out HLd.out ?_; simp only [Act.put, List.setIfInBounds_toArray, List.set_cons_succ, List.set_cons_zero])
          | (refine wpList_load_job_want _ rfl rfl w.heap.size rfl cs HX6.out HL.out ?_; simp only [Act.put, List.setIfInBounds_toArray, List.set_cons_succ, List.set_cons_zero]))
        refine HS6.out.mono ?_
        rintro e w7 ⟨rfl, hb⟩
        have HB7 := Lib.hid (up_trans HB6.out hb)
        clear hb
        go_wp2
        go_ret
        exact ⟨rfl, HB7.out⟩

theorem walkTicketBack (cs : List Value) (j : Jb) (w : World) (h : (JobA w cs j ∧ j.t.length ≤ maxLen ∧ ∀ p ∈ j.ls, p.length ≤ maxLen) ∧ WfJ j) (hg : GoodM w) :
    Calls Tryz.prog 3 #[.agg cs.toArray] w fun e w' => e = .returned (.bool true) ∧ Below w.heap.size w w' := by
  obtain ⟨⟨hJ, ht, hz⟩, hw⟩ := h
  have hJ' := hJ
  obtain ⟨sa, sc, la, lc, e, hI, hT⟩ := hJ
  exact back_core cs j (tx j.t) sa j.f.l.length sc la j.ls.length lc _ _ _ w hJ' hJ'.length hw hg hJ'.title (by rw [e]; rfl) (by rw [e]; rfl) hT rfl rfl (tx_size _) hz rfl rfl rfl
end Go.Proofs.YtenigkjonegdmaaGreatDoor
/- Of any job, Put answers the ticket that the document's own answers tell (or that it can't be told), and Parse answers the same job of that ticket: TicketBack answers true, and leaves its argument as it was -/
namespace Go.Proofs.YtenigkjonegdmaaGreatDoor.ticketBack
open Go.ChangeShapes Go.WideShapes Go.ChangeAt Go.RowKit Go.Joins
open Go.ChangeMaps (open_string shut_string)
set_option linter.unusedVariables false

theorem own : ownKnob Tryz.prog.godebug = none := by kernel_rfl
theorem laidOut : laidOutB Tryz.prog = true := by kernel_rfl
/-- A slice of integers that came in: nil, or a row of cells. -/
def IsRow (k : IntKind) (w : World) (a : Option Addr) (len cap : Nat) (zs : List Int) : Prop :=
  (a = none ∧ len = 0 ∧ cap = 0 ∧ zs = []) ∨
  ∃ x, a = some x ∧ len ≤ cap ∧ cap ≤ maxLen ∧ zs.length = cap ∧ (∀ i, i < zs.length → w.cell? (x.add i) = some (.int k (zs.getD i 0))) ∧ ∀ n ∈ zs, (Lit.int k n).wf = true

/-- Four things, one by one. -/
theorem list4 {α : Type} (l : List α) (h : (⟨l⟩ : Array α).size = 4) : ∃ a b c d, l = [a, b, c, d] := by
  match l, h with
  | [a, b, c, d], _ => exact ⟨a, b, c, d, rfl⟩

theorem plain_laid (W : World) (h : laidMetH Tryz.prog Rows.ticketBackRow.laid W) : laidMet Tryz.prog Rows.ticketBackRow.laid W := by
  rw [MakeChecks.laidMetH_plain _ _ _ (by kernel_rfl)] at h; exact h

set_option maxHeartbeats 400000 in
set_option maxRecDepth 100000 in
theorem lifted (os : Os) (started : os.Started) (H : Type) (enc : TypeId × Value → H) :
    ReturnsInHanded {} Tryz.checked os 3 .any (fun w args => (Rows.ticketBackSpec.pre enc Tryz.prog Tryz.f3 [] false w args ∧ laidMetH Tryz.prog Rows.ticketBackRow.laid w) ∧ sizedMet enc Tryz.prog Tryz.f3 (OpenSpec.ofChange Rows.ticketBackSpec) false w args) (Rows.ticketBackSpec.post enc Tryz.prog Tryz.f3 false true false false) := by
  refine returnsInHanded_of_calls (C := Tryz.checked) own started (by kernel_rfl)
    (ChangeSpec.witness_shaped (enc := enc) (C := Tryz.checked) (os := os) (X := fun w _ => laidMetH Tryz.prog Rows.ticketBackRow.laid w) false (World.laidAll Tryz.prog os Rows.ticketBackRow.laid) #[.agg #[.string ⟨#[]⟩, .int .i64 0, .int .i64 0, .int .i64 0, .int .i64 0, .int .i64 0, .int .i64 0, .int .i64 0, .int .i64 0, .int .i64 0, .int .i64 0, .int .i64 0, .int .i64 0, .int .i64 0, .slice none 0 0, .slice none 0 0, .int .i64 0, .int .i64 0, .int .i64 0, .int .i64 0, .int .i64 0, .int .i64 0, .int .i64 0, .int .i64 0, .int .i64 0, .int .i64 0, .int .i64 0, .int .i64 0, .int .i64 0, .int .i64 0, .int .i64 0, .int .i64 0, .int .i64 0]] 8 (World.laidAll_os _ _ _)
      (World.shaped_of_ZipB (by kernel_rfl) (by kernel_rfl)) (by kernel_rfl) (by kernel_rfl) (by kernel_rfl)
      (by rw [MakeChecks.laidMetH_plain _ _ _ (by kernel_rfl)]; exact laidMet_laidAll _ (by kernel_rfl) (by kernel_rfl))) ?_
  intro w0 tape inp _ hsh _ hok hpre _
  obtain ⟨_, _, _, fn, hfn, _, _, _, _, hval1⟩ := hok
  obtain rfl : Tryz.f3 = fn := Option.some.inj (Tryz.func3.symm.trans hfn)
  obtain ⟨⟨⟨ds, gs, before, hW0, -⟩, hX⟩, -⟩ := hpre
  have hW := DataW.Whole.of_heap (w' := w0.forCall tape inp) (by rfl) hW0
  have hLH : laidMetH Tryz.prog Rows.ticketBackRow.laid (w0.forCall tape inp) := hX.of_heap (by rfl)
  clear hW0 hX
  obtain ⟨W, hWd⟩ : ∃ W, w0.forCall tape inp = W := ⟨_, rfl⟩
  obtain ⟨args, hargs⟩ : ∃ args, inp.args = args := ⟨_, rfl⟩
  obtain ⟨base, hbase⟩ : ∃ base, w0.heap.size = base := ⟨_, rfl⟩
  rw [hWd] at hsh hval1 hW hLH ⊢
  rw [hargs] at hval1 hW ⊢
  rw [hbase] at hval1
  have hval0 : ∀ (j : Nat) t v, Tryz.f3.params[j]? = some t → args[j]? = some v → Value.okWide Tryz.prog W .any base t v := hval1
  clear hWd hargs hbase hval1 hfn
  have hL := plain_laid W hLH
  refine (show Calls Tryz.prog 3 args W fun e W' => ∃ v, e = .returned v ∧ Rows.ticketBackSpec.post enc Tryz.prog Tryz.f3 false true false false W args v W' from ?_).mono fun e W' ⟨v, he, hp⟩ => by
    subst he
    exact ChangeSpec.post_blind hp
  have hval : ∀ (j : Nat) t v, Tryz.f3.params[j]? = some t → args[j]? = some v → Value.okWide Tryz.prog W .any base t v := hval0
  have hW' := hW
  obtain ⟨p, q, hA0, hV, rfl, hfz, hnd⟩ := hW
  have hA : DataW.TrodAll enc Tryz.prog W 0 (fun _ => true) true Tryz.f3.params.toList args.toList ds p := hA0
  rw [Tryz.params3] at hA hval
  obtain ⟨v0, vs0, d0, ds0, p0, q0, hargs, rfl, rfl, h0, r0⟩ := trodAll_cons hA
  obtain ⟨rfl, rfl, rfl⟩ := trodAll_nil r0
  obtain rfl : args = #[v0] := by cases args; simp_all
  obtain ⟨rfl, rfl⟩ := trodVars_none hV
  have k0 := h0
  have lt0 : ∀ x ∈ p0, x.block < W.heap.size := by obtain ⟨m, hm⟩ := k0; exact DataW.trod_lt m _ _ _ hm
  obtain ⟨cs0, rfl, hsz0, _⟩ : ∃ cs, v0 = .agg cs ∧ cs.size = Tryz.prog.cellsOf 29 ∧ Row.okWide Tryz.prog W .any base 29 cs := by
    have := hval 0 29 v0 rfl rfl
    simpa [Value.okWide, Tryz.underlying29] using this
  rw [show Tryz.prog.cellsOf 29 = 33 by kernel_rfl] at hsz0
  obtain ⟨l0⟩ := cs0
  obtain ⟨fuel0, hf0⟩ := h0
  obtain ⟨jb0, w0⟩ := open_jobW (cs := l0) hsz0 hf0
  clear hA0 hval0
  refine (walkTicketBack l0 jb0 W w0 (⟨good_of hL 2 4 5 rfl rfl rfl, mx_of hsh⟩)).mono fun e W' ⟨he, bel⟩ => ?_
  subst he
  exact ⟨_, rfl, _, _, _, [], _, [], hW', trodAll_mk1 (shut_bool Tryz.underlying4 _), (trodAll_cons_mk (Below.trod laidOut (by kernel_rfl) (of_decide_eq_true (by kernel_rfl)) k0 bel lt0) trodAll_mk0), rfl, bel.frame _, fun h => by cases h⟩

theorem over : Rows.ticketBackRow.holds Tryz.pinned (OpenSpec.ofChange Rows.ticketBackSpec) :=
  OpenClaim.holds_of_wide 3 Tryz.f3 rfl rfl rfl rfl rfl rfl rfl ⟨rfl, rfl, rfl, rfl, rfl⟩ rfl rfl rfl rfl rfl (by kernel_rfl) Tryz.func3 (by kernel_rfl)
    (of_decide_eq_true (by kernel_rfl)) (by unfold Func.isWrapper; first | (rw [if_pos (by decide +kernel)]; kernel_rfl) | (rw [if_neg (by decide +kernel)]; exact ⟨rfl, rfl⟩))
    (fun os started H enc _ => lifted os started H enc)

theorem proved : Rows.TicketBackCardSaid :=
  Claim7.holds_tied_plain_at .later [] [.data, .data, .data, .data, .sentinel, .sentinel, .pinned] true (true, "5ecdc2060be6880689da8bfad47a27846b9e028025d82123d223eab1dd2d9491") true
    over (fun _ h => by cases h) (by kernel_rfl) (fun _ h => by cases h) ticketBack_row_tie rfl ⟨rfl, rfl⟩ (by kernel_rfl) rfl
    (fun f fn hf hfn => by
      obtain rfl : f = 3 := Option.some.inj ((show Tryz.prog.funcNamed "gatherum/gatherumlaw16.TicketBack" = some 3 by kernel_rfl).symm.trans hf) |>.symm
      obtain rfl : fn = Tryz.f3 := (Option.some.inj (Tryz.func3.symm.trans hfn)).symm
      exact ⟨by kernel_rfl, fun j t ht => by
        rw [Tryz.params3] at ht
        have hm : t ∈ [29] := by have := Array.mem_of_getElem? ht; simpa using this
        have hall : ([29].all fun u => !Tryz.prog.wantsStandIn u) = true := by kernel_rfl
        exact (show Tryz.prog.wantsStandIn t = false by simpa using List.all_eq_true.1 hall t hm)⟩)
    (by kernel_rfl)
#print axioms proved
end Go.Proofs.YtenigkjonegdmaaGreatDoor.ticketBack
