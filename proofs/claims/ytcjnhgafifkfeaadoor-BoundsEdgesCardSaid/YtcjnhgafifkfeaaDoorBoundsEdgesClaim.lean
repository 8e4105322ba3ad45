/- gatherumlaw15.BoundsEdges answers true for every octet and every bool. -/
import Derived.Test.YtcjnhgafifkfeaaDoorPart6
import Derived.Test.YtcjnhgafifkfeaaDoorPart7
import Derived.Test.YtcjnhgafifkfeaaDoorRows
import Derived.Test.YtcjnhgafifkfeaaDoorCards
import Derived.Test.YtcjnhgafifkfeaaDoorTie
import Derived.WalkKit
import Derived.LaidMore
import Derived.Lay
import Derived.MakeChecks
import Derived.Stop.Joined
import Derived.SevenTiedAt
import Derived.ProofKit
import Derived.OpenShut
import Derived.ShutString
import Derived.ChangeOld
import Derived.Below
import Derived.Lib.SmallJoins
import Derived.Laws.IdiomArrays
/- gatherumlaw15.BoundsEdges answers true, for every octet and every bool. -/
namespace Go.Proofs.YtcjnhgafifkfeaaDoor
open Go.RowKit
set_option linter.unusedVariables false
set_option linter.unusedSimpArgs false

theorem edges_all : ∀ k : Fin 28, firstJ (setN usualN k (lowJ k)) = -1 ∧ firstJ (setN usualN k (topJ k)) = -1 ∧ firstJ (setN usualN k (lowJ k - 1)) = (k.val : Int) ∧ firstJ (setN usualN k (topJ k + 1)) = (k.val : Int) := by decide +kernel

set_option maxRecDepth 100000 in
set_option maxHeartbeats 4000000 in
theorem edges_core (i : Int) (ov : Bool) (k : Nat) (lo hi nn : Int) (w : World) (hi0 : 0 ≤ i) (hi1 : i ≤ 255) (hk : k < 28) (hik : i % 28 = (k : Int)) (hlo : lowJ k = lo) (hhi : topJ k = hi) (hn : nn = if ov = true then hi + 1 else lo - 1) (hg : GoodM w)
    (f1 : firstJ (setN usualN k lo) = -1) (f2 : firstJ (setN usualN k hi) = -1) (f3 : firstJ (setN usualN k nn) = (k : Int)) :
    Calls Tryd.prog 5 #[.int .u8 i, .bool ov] w fun e w' => e = .returned (.bool true) ∧ Below w.heap.size w w' := by
  have HA := Lib.hid (bAlive_any w hg)
  have HG := Lib.hid hg
  have hw : IntKind.i64.wrap i = i := IntWalk.i64_in _ (by omega)
  have hik2 : i.tmod 28 = (k : Int) := by rw [Int.tmod_eq_emod_of_nonneg hi0]; exact hik
  have hlb := low_bd k; have htb := top_bd k
  rw [hlo] at hlb; rw [hhi] at htb
  have z0 : (0 : Int) ≤ (k : Int) := by omega
  have z1 : (k : Int) < 28 := by omega
  have zl : IntKind.i64.wrap (lo - 1) = lo - 1 := IntWalk.i64_in _ (by omega)
  have zh : IntKind.i64.wrap (hi + 1) = hi + 1 := IntWalk.i64_in _ (by omega)
  clear hg
  go_enter Tryd.func5, Tryd.ntmps5
  go_wp2_with fail
  refine HA.out.mono ?_
  rintro e w1 ⟨rfl, hb1⟩
  have HB1 := Lib.hid hb1
  clear hb1
  go_wp2_with fail
  refine (bUsual_any _ (HG.out.below HB1.out)).mono ?_
  rintro e w2 ⟨cs, rfl, hJ, hb⟩
  have hJA := hJ.jobA
  have HL := Lib.hid hJA.length
  have H1 := Lib.hid hJA.one
  have hz := Bx.new w2 29 zeroL
  have HZ := Lib.hid hz
  have B2 := up_trans HB1.out hb
  have X3 := hz.sets (ws := cs) (by rw [HL.out]; rfl)
  have bb := below_setCells (Nat.le_refl w2.heap.size) cs 0 _ (up_alloc (Below.refl w2.heap.size w2) (.cells zeroL.toArray 29))
  have B3 := up_trans B2 bb
  have J3 := hJA.up bb
  have HX3 := Lib.hid X3; have HB3 := Lib.hid B3; have HJ3 := Lib.hid J3
  clear hJ hJA hz B2 X3 bb B3 J3 hb
  go_wp2_with (first
    | (refine wpList_alloc_to rfl 29 rfl _ _ (job_alloc _) ?_; simp only [Act.put, List.setIfInBounds_toArray, List.set_cons_succ, List.set_cons_zero])
    | (refine wpList_store_job rfl _ _ rfl w2.heap.size rfl zeroL cs rfl HZ.out rfl HL.out H1.out ?_; simp only [Act.put]))
  generalize (w2.alloc (.cells zeroL.toArray 29)).setCells w2.heap.size 0 cs = w3 at *
  generalize w2.heap.size = B at *
  refine wp_region_laters [([1, 5], 0), ([2, 3], 4)] [6, 7, 8, 9] (by kernel_rfl) (by kernel_rfl) rfl (fun _ _ d _ _ h => by cases d <;> exact h) ?_
  refine walkL_take _ rfl (fun K0 hK0 => ?_)
  simp only [List.map_cons, List.map_nil, List.getD_cons_zero, List.getD_cons_succ]
  repeat (go_big_quiet_step (fail))
  refine wpQuiet_nil (hK0.out _ (fun K hK => ?_))
  go_simp
  refine (refFrom_any _).mono ?_
  rintro e w4 ⟨g1, rfl, -, L1, hb⟩
  have C4 := Lib.hid (up_trans (up_drew (Below.refl _ w3)) hb)
  refine hK.out _ _ (laterC_of hb) ?_
  clear hK K hK0 K0 hb
  try simp only [List.setIfInBounds_toArray, List.set_cons_zero, List.set_cons_succ]
  have c1 := fun u : Later w4 => u.cell (show w4.cell? ⟨g1, k, none⟩ = some (.int .i64 lo) from by rw [← hlo]; exact L1.cell k (enc_from hk))
  refine walkL_take _ rfl (fun K0 hK0 => ?_)
  simp only [List.map_cons, List.map_nil, List.getD_cons_zero, List.getD_cons_succ]
  repeat (go_big_quiet_step (fail))
  refine wpQuiet_nil (hK0.out _ (fun K hK => ?_))
  go_simp
  clear c1
  refine (refTo_any _).mono ?_
  rintro e w5 ⟨g2, rfl, -, L2, hb⟩
  have C5 := Lib.hid (up_trans C4.out hb)
  refine hK.out _ _ (laterC_of hb) ?_
  clear hK K hK0 K0 hb
  try simp only [List.setIfInBounds_toArray, List.set_cons_zero, List.set_cons_succ]
  have c2 := fun u : Later w5 => u.cell (show w5.cell? ⟨g2, k, none⟩ = some (.int .i64 hi) from by rw [← hhi]; exact L2.cell k (enc_to hk))
  refine walkL_last (fun K0 hK0 => ?_)
  simp only [List.map_cons, List.map_nil, List.getD_cons_zero, List.getD_cons_succ]
  repeat (go_big_quiet_step (fail))
  refine wpQuiet_nil (hK0.out _ ?_)
  clear hK0 K0 c2 L1 L2
  have HX5 := HX3.out.later (by rw [HL.out]; decide) C5.out
  have HRG := Lib.hid (later_range HX5 (by rw [HL.out]; decide))
  have HB5 := Lib.hid (up_trans HB3.out C5.out)
  have HJ5 := Lib.hid (HJ3.out.up C5.out)
  clear HX5
  obtain ⟨a, d, a', d', hcs, -, -⟩ := HJ5.out
  have KR := fun z w => refJobSet_any (tx usualJ.t) usualJ.n usualJ.f.c usualJ.f.r (k : Int) z a a' usualJ.f.l.length d usualJ.ls.length d' w
  rw [← hcs] at KR
  have KE := fun z w => bFirst_any (jobL (tx usualJ.t) (setJ usualJ.n (k : Int) z) usualJ.f.c usualJ.f.r (.slice a usualJ.f.l.length d) (.slice a' usualJ.ls.length d')) (setJ usualJ.n (k : Int) z) w rfl (fun m hm => job_at _ _ _ _ _ _ hm)
  have K1 := fun w => KE lo w
  rw [setJ_in hk, show usualJ.n = usualN from rfl, f1] at K1
  have K2 := fun w => KE hi w
  rw [setJ_in hk, show usualJ.n = usualN from rfl, f2] at K2
  have K3 := fun w => KE nn w
  rw [setJ_in hk, show usualJ.n = usualN from rfl, f3] at K3
  have R1 := fun w => KR lo w; have R2 := fun w => KR hi w; have R3 := fun w => KR nn w
  rw [setJ_in hk, show usualJ.n = usualN from rfl] at R1 R2 R3
  generalize jobL (tx usualJ.t) (setN usualN k lo) usualJ.f.c usualJ.f.r (.slice a usualJ.f.l.length d) (.slice a' usualJ.ls.length d') = e1 at *
  generalize jobL (tx usualJ.t) (setN usualN k hi) usualJ.f.c usualJ.f.r (.slice a usualJ.f.l.length d) (.slice a' usualJ.ls.length d') = e2 at *
  generalize jobL (tx usualJ.t) (setN usualN k nn) usualJ.f.c usualJ.f.r (.slice a usualJ.f.l.length d) (.slice a' usualJ.ls.length d') = e3 at *
  have HK1 := Lib.hid K1; have HK2 := Lib.hid K2; have HK3 := Lib.hid K3; have HR1 := Lib.hid R1; have HR2 := Lib.hid R2; have HR3 := Lib.hid R3
  have HF := Lib.hid (And.intro hlo hhi)
  clear K1 K2 K3 R1 R2 R3 KR KE hcs f1 f2 f3 hlo hhi
  cases ov
  all_goals
    simp only [if_true, Bool.false_eq_true, if_false] at hn
    obtain rfl := hn
    go_wp2_with fail
    clear zl zh hw hik hik2
    refine wp_region_calls [([0], 1), ([], 2), ([3, 4, 5, 6], 7), ([], 8), ([9, 10, 11, 12, 13, 14], 15), ([], 16), ([17, 18, 19, 20, 21, 22, 25], 23), ([], 24)] [26, 27, 28] (by kernel_rfl) (by kernel_rfl) rfl (fun _ _ d _ _ h => by cases d <;> exact h) ?_
    refine walkC_take _ rfl (fun K0 hK0 => ?_)
    simp only [List.map_cons, List.map_nil, List.getD_cons_zero, List.getD_cons_succ]
    repeat (first
      | (go_big_quiet_want; refine quiet_load_job _ rfl B rfl cs HL.out HRG.out ?_; simp only [Act.put, List.setIfInBounds_toArray, List.set_cons_succ, List.set_cons_zero]; go_big_quiet_on)
      | go_big_quiet_step (fail))
    refine wpQuiet_nil (hK0.out _ (fun K hK => ?_))
    go_simp
    refine (refUsual_any _).mono ?_
    rintro e w6 ⟨ds, rfl, hJ, hb⟩
    have C6 := Lib.hid (up_trans (up_drew (Below.refl _ w5)) hb)
    have HD := Lib.hid hJ.jobA
    clear hJ
    refine hK.out _ _ ⟨⟨w6, C6.out⟩, rfl⟩ ?_
    clear hK K hK0 K0 hb
    try simp only [List.setIfInBounds_toArray, List.set_cons_zero, List.set_cons_succ]
    refine walkC_take _ rfl (fun K0 hK0 => ?_)
    simp only [List.map_cons, List.map_nil, List.getD_cons_zero, List.getD_cons_succ]
    refine wpQuiet_nil (hK0.out _ (fun K hK => ?_))
    go_simp
    refine (jobSame_any _ _ usualJ _ (HJ5.out.up C6.out) HD.out (by decide) (by decide)).mono ?_
    rintro e w7 ⟨rfl, hb⟩
    have C7 := Lib.hid (up_trans C6.out hb)
    refine hK.out _ _ ⟨⟨w7, C7.out⟩, rfl⟩ ?_
    clear hK K hK0 K0 hb
    try simp only [List.setIfInBounds_toArray, List.set_cons_zero, List.set_cons_succ]
    refine walkC_take _ rfl (fun K0 hK0 => ?_)
    simp only [List.map_cons, List.map_nil, List.getD_cons_zero, List.getD_cons_succ]
    repeat (first
      | (go_big_quiet_want; refine quiet_load_job _ rfl B rfl cs HL.out HRG.out ?_; simp only [Act.put, List.setIfInBounds_toArray, List.set_cons_succ, List.set_cons_zero]; go_big_quiet_on)
      | go_big_quiet_step (fail))
    refine wpQuiet_nil (hK0.out _ (fun K hK => ?_))
    go_simp
    refine (HR1.out _).mono ?_
    rintro e w8 ⟨rfl, hb⟩
    have C8 := Lib.hid (up_trans C7.out hb)
    refine hK.out _ _ ⟨⟨w8, C8.out⟩, rfl⟩ ?_
    clear hK K hK0 K0 hb
    try simp only [List.setIfInBounds_toArray, List.set_cons_zero, List.set_cons_succ]
    refine walkC_take _ rfl (fun K0 hK0 => ?_)
    simp only [List.map_cons, List.map_nil, List.getD_cons_zero, List.getD_cons_succ]
    refine wpQuiet_nil (hK0.out _ (fun K hK => ?_))
    go_simp
    refine (HK1.out _).mono ?_
    rintro e w9 ⟨rfl, hb⟩
    have C9 := Lib.hid (up_trans C8.out hb)
    refine hK.out _ _ ⟨⟨w9, C9.out⟩, rfl⟩ ?_
    clear hK K hK0 K0 hb
    try simp only [List.setIfInBounds_toArray, List.set_cons_zero, List.set_cons_succ]
    refine walkC_take _ rfl (fun K0 hK0 => ?_)
    simp only [List.map_cons, List.map_nil, List.getD_cons_zero, List.getD_cons_succ]
    repeat (first
      | (go_big_quiet_want; refine quiet_load_job _ rfl B rfl cs HL.out HRG.out ?_; simp only [Act.put, List.setIfInBounds_toArray, List.set_cons_succ, List.set_cons_zero]; go_big_quiet_on)
      | go_big_quiet_step (fail))
    refine wpQuiet_nil (hK0.out _ (fun K hK => ?_))
    go_simp
    refine (HR2.out _).mono ?_
    rintro e w10 ⟨rfl, hb⟩
    have C10 := Lib.hid (up_trans C9.out hb)
    refine hK.out _ _ ⟨⟨w10, C10.out⟩, rfl⟩ ?_
    clear hK K hK0 K0 hb
    try simp only [List.setIfInBounds_toArray, List.set_cons_zero, List.set_cons_succ]
    refine walkC_take _ rfl (fun K0 hK0 => ?_)
    simp only [List.map_cons, List.map_nil, List.getD_cons_zero, List.getD_cons_succ]
    refine wpQuiet_nil (hK0.out _ (fun K hK => ?_))
    go_simp
    refine (HK2.out _).mono ?_
    rintro e w11 ⟨rfl, hb⟩
    have C11 := Lib.hid (up_trans C10.out hb)
    refine hK.out _ _ ⟨⟨w11, C11.out⟩, rfl⟩ ?_
    clear hK K hK0 K0 hb
    try simp only [List.setIfInBounds_toArray, List.set_cons_zero, List.set_cons_succ]
    refine walkC_take _ rfl (fun K0 hK0 => ?_)
    simp only [List.map_cons, List.map_nil, List.getD_cons_zero, List.getD_cons_succ]
    repeat (first
      | (go_big_quiet_want; refine quiet_load_job _ rfl B rfl cs HL.out HRG.out ?_; simp only [Act.put, List.setIfInBounds_toArray, List.set_cons_succ, List.set_cons_zero]; go_big_quiet_on)
      | go_big_quiet_step (fail))
    refine wpQuiet_nil (hK0.out _ (fun K hK => ?_))
    go_simp
    refine (HR3.out _).mono ?_
    rintro e w12 ⟨rfl, hb⟩
    have C12 := Lib.hid (up_trans C11.out hb)
    refine hK.out _ _ ⟨⟨w12, C12.out⟩, rfl⟩ ?_
    clear hK K hK0 K0 hb
    try simp only [List.setIfInBounds_toArray, List.set_cons_zero, List.set_cons_succ]
    refine walkC_take _ rfl (fun K0 hK0 => ?_)
    simp only [List.map_cons, List.map_nil, List.getD_cons_zero, List.getD_cons_succ]
    refine wpQuiet_nil (hK0.out _ (fun K hK => ?_))
    go_simp
    refine (HK3.out _).mono ?_
    rintro e w13 ⟨rfl, hb⟩
    have C13 := Lib.hid (up_trans C12.out hb)
    refine hK.out _ _ ⟨⟨w13, C13.out⟩, rfl⟩ ?_
    clear hK K hK0 K0 hb
    try simp only [List.setIfInBounds_toArray, List.set_cons_zero, List.set_cons_succ]
    refine walkC_last (fun K0 hK0 => ?_)
    simp only [List.map_cons, List.map_nil, List.getD_cons_zero, List.getD_cons_succ]
    repeat (go_big_quiet_step (fail))
    refine wpQuiet_nil (hK0.out _ ?_)
    clear hK0 K0
    go_wp2
    go_ret
    exact ⟨rfl, up_trans HB5.out C13.out⟩

theorem walkBoundsEdges (i : Int) (ov : Bool) (w : World) (hi : (Lit.int .u8 i).wf = true) (hg : GoodM w) :
    Calls Tryd.prog 5 #[.int .u8 i, .bool ov] w fun e w' => e = .returned (.bool true) ∧ Below w.heap.size w w' := by
  have hb : 0 ≤ i ∧ i ≤ 255 := by
    have h1 : IntKind.u8.min = 0 := by decide
    have h2 : IntKind.u8.max = 255 := by decide
    simp [Lit.wf, IntKind.has, h1, h2] at hi
    exact hi
  obtain ⟨k, hk, hik⟩ : ∃ k : Nat, k < 28 ∧ i % 28 = (k : Int) := ⟨(i % 28).toNat, by omega, by omega⟩
  obtain ⟨f1, f2, f3, f4⟩ := edges_all ⟨k, hk⟩
  refine edges_core i ov k _ _ _ w hb.1 hb.2 hk hik rfl rfl rfl hg f1 f2 ?_
  cases ov
  · exact f3
  · exact f4
end Go.Proofs.YtcjnhgafifkfeaaDoor
/- gatherumlaw15.BoundsEdges answers true for every octet and every bool. -/
namespace Go.Proofs.YtcjnhgafifkfeaaDoor.boundsEdges
open Go.ChangeShapes Go.WideShapes Go.ChangeAt Go.RowKit Go.Joins
open Go.ChangeMaps (open_string shut_string)
set_option linter.unusedVariables false

theorem own : ownKnob Tryd.prog.godebug = none := by kernel_rfl
theorem laidOut : laidOutB Tryd.prog = true := by kernel_rfl
/-- A slice of integers that came in: nil, or a row of cells. -/
def IsRow (k : IntKind) (w : World) (a : Option Addr) (len cap : Nat) (zs : List Int) : Prop :=
  (a = none ∧ len = 0 ∧ cap = 0 ∧ zs = []) ∨
  ∃ x, a = some x ∧ len ≤ cap ∧ cap ≤ maxLen ∧ zs.length = cap ∧ (∀ i, i < zs.length → w.cell? (x.add i) = some (.int k (zs.getD i 0))) ∧ ∀ n ∈ zs, (Lit.int k n).wf = true

/-- Four things, one by one. -/
theorem list4 {α : Type} (l : List α) (h : (⟨l⟩ : Array α).size = 4) : ∃ a b c d, l = [a, b, c, d] := by
  match l, h with
  | [a, b, c, d], _ => exact ⟨a, b, c, d, rfl⟩

theorem plain_laid (W : World) (h : laidMetH Tryd.prog Rows.boundsEdgesRow.laid W) : laidMet Tryd.prog Rows.boundsEdgesRow.laid W := by
  rw [MakeChecks.laidMetH_plain _ _ _ (by kernel_rfl)] at h; exact h

set_option maxHeartbeats 400000 in
set_option maxRecDepth 100000 in
theorem lifted (os : Os) (started : os.Started) (H : Type) (enc : TypeId × Value → H) :
    ReturnsInHanded {} Tryd.checked os 5 .any (fun w args => (Rows.boundsEdgesSpec.pre enc Tryd.prog Tryd.f5 [] false w args ∧ laidMetH Tryd.prog Rows.boundsEdgesRow.laid w) ∧ sizedMet enc Tryd.prog Tryd.f5 (OpenSpec.ofChange Rows.boundsEdgesSpec) false w args) (Rows.boundsEdgesSpec.post enc Tryd.prog Tryd.f5 false true false false) := by
  refine returnsInHanded_of_calls (C := Tryd.checked) own started (by kernel_rfl)
    (ChangeSpec.witness_shaped (enc := enc) (C := Tryd.checked) (os := os) (X := fun w _ => laidMetH Tryd.prog Rows.boundsEdgesRow.laid w) false (World.laidAll Tryd.prog os Rows.boundsEdgesRow.laid) #[.int .u8 0, .bool false] 8 (World.laidAll_os _ _ _)
      (World.shaped_of_ZipB (by kernel_rfl) (by kernel_rfl)) (by kernel_rfl) (by kernel_rfl) (by kernel_rfl)
      (by rw [MakeChecks.laidMetH_plain _ _ _ (by kernel_rfl)]; exact laidMet_laidAll _ (by kernel_rfl) (by kernel_rfl))) ?_
  intro w0 tape inp _ hsh _ hok hpre _
  obtain ⟨_, _, _, fn, hfn, _, _, _, _, hval1⟩ := hok
  obtain rfl : Tryd.f5 = fn := Option.some.inj (Tryd.func5.symm.trans hfn)
  obtain ⟨⟨⟨ds, gs, before, hW0, -⟩, hX⟩, -⟩ := hpre
  have hW := DataW.Whole.of_heap (w' := w0.forCall tape inp) (by rfl) hW0
  have hLH : laidMetH Tryd.prog Rows.boundsEdgesRow.laid (w0.forCall tape inp) := hX.of_heap (by rfl)
  clear hW0 hX
  obtain ⟨W, hWd⟩ : ∃ W, w0.forCall tape inp = W := ⟨_, rfl⟩
  obtain ⟨args, hargs⟩ : ∃ args, inp.args = args := ⟨_, rfl⟩
  obtain ⟨base, hbase⟩ : ∃ base, w0.heap.size = base := ⟨_, rfl⟩
  rw [hWd] at hsh hval1 hW hLH ⊢
  rw [hargs] at hval1 hW ⊢
  rw [hbase] at hval1
  have hval0 : ∀ (j : Nat) t v, Tryd.f5.params[j]? = some t → args[j]? = some v → Value.okWide Tryd.prog W .any base t v := hval1
  clear hWd hargs hbase hval1 hfn
  have hL := plain_laid W hLH
  refine (show Calls Tryd.prog 5 args W fun e W' => ∃ v, e = .returned v ∧ Rows.boundsEdgesSpec.post enc Tryd.prog Tryd.f5 false true false false W args v W' from ?_).mono fun e W' ⟨v, he, hp⟩ => by
    subst he
    exact ChangeSpec.post_blind hp
  have hval : ∀ (j : Nat) t v, Tryd.f5.params[j]? = some t → args[j]? = some v → Value.okWide Tryd.prog W .any base t v := hval0
  have hW' := hW
  obtain ⟨p, q, hA0, hV, rfl, hfz, hnd⟩ := hW
  have hA : DataW.TrodAll enc Tryd.prog W 0 (fun _ => true) true Tryd.f5.params.toList args.toList ds p := hA0
  rw [Tryd.params5] at hA hval
  obtain ⟨v0, vs0, d0, ds0, p0, q0, hargs, rfl, rfl, h0, r0⟩ := trodAll_cons hA
  obtain ⟨v1, vs1, d1, ds1, p1, q1, rfl, rfl, rfl, h1, r1⟩ := trodAll_cons r0
  obtain ⟨rfl, rfl, rfl⟩ := trodAll_nil r1
  obtain rfl : args = #[v0, v1] := by cases args; simp_all
  obtain ⟨rfl, rfl⟩ := trodVars_none hV
  obtain ⟨a0, rfl, rfl, rfl, w0⟩ := open_int Tryd.underlying5 (hval 0 5 v0 rfl rfl) h0
  obtain ⟨a1, rfl, rfl, rfl⟩ := open_bool Tryd.underlying4 (hval 1 4 v1 rfl rfl) h1
  clear hA0 hval0
  refine (walkBoundsEdges a0 a1 W w0 (⟨good_of hL 2 4 5 rfl rfl rfl, mx_of hsh⟩)).mono fun e W' ⟨he, bel⟩ => ?_
  subst he
  exact ⟨_, rfl, _, _, _, [], _, [], hW', trodAll_mk1 (shut_bool Tryd.underlying4 _), (trodAll_cons_mk (shut_int Tryd.underlying5 w0) (trodAll_cons_mk (shut_bool Tryd.underlying4 _) trodAll_mk0)), rfl, bel.frame _, fun h => by cases h⟩

theorem over : Rows.boundsEdgesRow.holds Tryd.pinned (OpenSpec.ofChange Rows.boundsEdgesSpec) :=
  OpenClaim.holds_of_wide 5 Tryd.f5 rfl rfl rfl rfl rfl rfl rfl ⟨rfl, rfl, rfl, rfl, rfl⟩ rfl rfl rfl rfl rfl (by kernel_rfl) Tryd.func5 (by kernel_rfl)
    (of_decide_eq_true (by kernel_rfl)) (by unfold Func.isWrapper; first | (rw [if_pos (by decide +kernel)]; kernel_rfl) | (rw [if_neg (by decide +kernel)]; exact ⟨rfl, rfl⟩))
    (fun os started H enc _ => lifted os started H enc)

theorem proved : Rows.BoundsEdgesCardSaid :=
  Claim7.holds_tied_plain_at .later [] [.data, .data, .data, .data, .sentinel, .sentinel, .pinned] true (true, "e008fbdc1c684c9ea465b29b2449da7ab482333efdb41aa160df1de3b66a88ff") true
    over (fun _ h => by cases h) (by kernel_rfl) (fun _ h => by cases h) boundsEdges_row_tie rfl ⟨rfl, rfl⟩ (by kernel_rfl) rfl
    (fun f fn hf hfn => by
      obtain rfl : f = 5 := Option.some.inj ((show Tryd.prog.funcNamed "gatherum/gatherumlaw15.BoundsEdges" = some 5 by kernel_rfl).symm.trans hf) |>.symm
      obtain rfl : fn = Tryd.f5 := (Option.some.inj (Tryd.func5.symm.trans hfn)).symm
      exact ⟨by kernel_rfl, fun j t ht => by
        rw [Tryd.params5] at ht
        have hm : t ∈ [5, 4] := by have := Array.mem_of_getElem? ht; simpa using this
        have hall : ([5, 4].all fun u => !Tryd.prog.wantsStandIn u) = true := by kernel_rfl
        exact (show Tryd.prog.wantsStandIn t = false by simpa using List.all_eq_true.1 hall t hm)⟩)
    (by kernel_rfl)
#print axioms proved
end Go.Proofs.YtcjnhgafifkfeaaDoor.boundsEdges
