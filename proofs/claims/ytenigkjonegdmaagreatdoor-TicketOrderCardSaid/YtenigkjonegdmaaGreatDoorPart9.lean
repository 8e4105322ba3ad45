/- Part 9 of the texts that the proofs of this seat share: BoundsNums, BoundsCode, BoundsSet, TicketTake, TicketTake2, TicketTake3, TicketKeys, CallOrder, CallBut. -/
import Derived.Test.YtenigkjonegdmaaGreatDoorPart4
import Derived.Test.YtenigkjonegdmaaGreatDoorPart1
import Derived.Test.YtenigkjonegdmaaGreatDoorPart5
import Derived.Test.YtenigkjonegdmaaGreatDoorPart8
import Derived.Test.YtenigkjonegdmaaGreatDoorPart7
import Derived.Deep.RegionHeld3
import Derived.BigQuiet
/- What bounds.numbers answers, for a job in a box; one of those numbers. -/
namespace Go.Proofs.YtenigkjonegdmaaGreatDoor
open Go.RowKit
set_option linter.unusedVariables false

/-- The i-th number of the job at B: where it stands, from what to what it may be. -/
def numC (B i : Nat) : List Value := [.pointer (some ⟨B, cellJ i, none⟩), .int .i64 (lowJ i), .int .i64 (topJ i)]
/-- All of them. -/
def numL (B : Nat) : List Value := (List.range 28).flatMap (numC B)
theorem numL_length (B : Nat) : (numL B).length = 84 := rfl
theorem numL_one (B : Nat) : (numL B).toArray.all (·.oneCell') = true := by
  rw [List.all_toArray]; rfl
theorem nums_alloc (w : World) : (Instr.alloc 102 true (.tuple #[])).run Tryz.prog w = .ok (.pointer (some ⟨w.heap.size, 0, none⟩)) (w.alloc (.cells Tryz.zeroCells102 102)) := by
  kernel_rfl
theorem nums_zero : Tryz.zeroCells102.size = 84 := by kernel_rfl
theorem nums_there (w : World) : (w.alloc (.cells Tryz.zeroCells102 102)).there w.heap.size 0 84 := fun j hj => by
  rw [Nat.zero_add]
  refine ⟨?_, by simp [go_sem]⟩
  rw [cell_new, Array.getElem?_eq_getElem (by rw [nums_zero]; exact hj)]
  rfl
theorem nums_one (B : Nat) {i : Nat} (h : i < 28) (w : World) : (Instr.index 102 (.agg (numL B).toArray) (.int .i64 (i : Int))).run Tryz.prog w = .ok (.agg (numC B i).toArray) w := by
  rcases num_ways h with rfl | rfl | rfl | rfl | rfl | rfl | rfl | rfl | rfl | rfl | rfl | rfl | rfl | rfl | rfl | rfl | rfl | rfl | rfl | rfl | rfl | rfl | rfl | rfl | rfl | rfl | rfl | rfl
  all_goals exact (show _ = _ from by kernel_rfl)

/-- A cell's address; the i-th number, as a struct. -/
abbrev P (B j : Nat) : Value := .pointer (some ⟨B, j, none⟩)
abbrev N (B i : Nat) : Value := .agg (numC B i).toArray
/-- What stands in the slots of bounds.numbers, when all has been reckoned. -/
def numF (R B : Nat) : List Value :=
  P B 0 :: undef :: P R 0 :: P B 0 :: P B 0 :: P B 1 :: N B 0 :: P B 0 :: P B 0 :: P B 2 :: P B 2 :: N B 1 ::
  P B 0 :: P B 0 :: P B 2 :: P B 3 :: N B 2 :: P B 0 :: P B 0 :: P B 4 :: N B 3 :: P B 0 :: P B 0 :: P B 5 ::
  N B 4 :: P B 0 :: P B 0 :: P B 6 :: N B 5 :: P B 0 :: P B 0 :: P B 7 :: N B 6 :: P B 0 :: P B 0 :: P B 8 ::
  N B 7 :: P B 0 :: P B 0 :: P B 9 :: N B 8 :: P B 0 :: P B 0 :: P B 10 :: N B 9 :: P B 0 :: P B 0 :: P B 11 ::
  N B 10 :: P B 0 :: P B 0 :: P B 16 :: N B 11 :: P B 0 :: P B 0 :: P B 17 :: N B 12 :: P B 0 :: P B 0 :: P B 18 ::
  N B 13 :: P B 0 :: P B 0 :: P B 19 :: N B 14 :: P B 0 :: P B 0 :: P B 20 :: N B 15 :: P B 0 :: P B 0 :: P B 21 ::
  N B 16 :: P B 0 :: P B 0 :: P B 22 :: N B 17 :: P B 0 :: P B 0 :: P B 23 :: N B 18 :: P B 0 :: P B 0 :: P B 24 ::
  N B 19 :: P B 0 :: P B 0 :: P B 25 :: N B 20 :: P B 0 :: P B 0 :: P B 26 :: N B 21 :: P B 0 :: P B 0 :: P B 27 ::
  N B 22 :: P B 0 :: P B 0 :: P B 28 :: N B 23 :: P B 0 :: P B 0 :: P B 29 :: N B 24 :: P B 0 :: P B 0 :: P B 30 ::
  N B 25 :: P B 0 :: P B 0 :: P B 31 :: N B 26 :: P B 0 :: P B 0 :: P B 32 :: N B 27 :: undef :: []

set_option maxRecDepth 100000 in
set_option maxHeartbeats 4000000 in
theorem numbers_any (B : Nat) (w : World) : Calls Tryz.prog 61 #[.pointer (some ⟨B, 0, none⟩)] w fun e w' => e = .returned (.agg (numL B).toArray) ∧ Below w.heap.size w w' := by
  have hT := nums_there w
  have HT := Lib.hid hT
  clear hT
  go_enter Tryz.func61, Tryz.ntmps61
  go_wp2
  generalize hw1 : w.alloc (.cells Tryz.zeroCells102 102) = w1 at *
  have HW := Lib.hid hw1
  clear hw1
  refine later_start (w := w1) ?_
  intro u
  simp only [List.append]
  refine wp_region_later_tail 114 (by kernel_rfl) (lexTail_quick (by kernel_rfl)) ?_
  simp only [List.take_succ_cons, List.take_zero, List.drop_succ_cons, List.drop_zero]
  refine wpQuiet_stills (vs := []) (s' := numF w.heap.size B) (ps := []) ?still (fun _ _ _ hp => by cases hp) ?_
  case still => kernel_rfl
  refine wpQuiet_nil ?_
  rintro _ ⟨u2, rfl⟩
  have HT2 := Lib.hid (there_up HT.out u2.up)
  have HU := Lib.hid u2.up
  generalize u2.now = w2 at *
  refine wpList_build_to rfl 102 _ rfl (numL B).toArray (by kernel_rfl) ?_
  refine wpList_store_mid rfl 102 _ _ rfl w.heap.size 0 (numL B).toArray rfl rfl HT2.out (by kernel_rfl) (numL_one B) ?_
  have HR := Lib.hid (World.rangeAt_setCells_same _ w.heap.size 0 (numL B) (by rw [numL_length]; exact HT2.out))
  have HB := Lib.hid (below_setCells (Nat.le_refl w.heap.size) (numL B) 0 _ (up_trans (by rw [← HW.out]; exact up_alloc (Below.refl _ _) _) HU.out))
  generalize w2.setCells w.heap.size 0 (numL B) = w3 at *
  refine wpList_nil ?_
  go_wp2
  exact bodyPost_ret (v := .agg (numL B).toArray) (results_wide Tryz.results61 w.heap.size rfl _ _ HR.out Tryz.underlying102 rfl (by kernel_rfl)) rfl ⟨rfl, HB.out⟩
end Go.Proofs.YtenigkjonegdmaaGreatDoor
/- What bounds.Count, isPlace, Get answer. -/
namespace Go.Proofs.YtenigkjonegdmaaGreatDoor
open Go.RowKit
set_option linter.unusedVariables false

theorem isPlace_any (i : Int) (w : World) : Calls Tryz.prog 60 #[.int .i64 i] w fun e w' => e = .returned (.bool (decide (0 ≤ i) && decide (i ≤ 27))) ∧ Below w.heap.size w w' := by
  have H := Lib.hid (fun w => in_any i 0 27 w)
  have HB := Lib.hid (Below.refl w.heap.size w)
  generalize (decide (0 ≤ i) && decide (i ≤ 27)) = b at *
  go_enter Tryz.func60, Tryz.ntmps60
  go_wp2_with fail
  refine (H.out _).mono ?_
  rintro e w1 ⟨rfl, rfl⟩
  go_wp2
  go_ret
  exact ⟨rfl, HB.out⟩

theorem bGet_out (cs : List Value) (i : Int) (w : World) (hi : (decide (0 ≤ i) && decide (i ≤ 27)) = false) :
    Calls Tryz.prog 38 #[.agg cs.toArray, .int .i64 i] w fun e w' => e = .returned (.int .i64 0) ∧ Below w.heap.size w w' := by
  have K0 := fun w => isPlace_any i w
  rw [hi] at K0
  have H0 := Lib.hid K0
  have HB := Lib.hid (up_alloc (Below.refl w.heap.size w) (.cells cs.toArray 29))
  clear K0 hi
  go_enter Tryz.func38, Tryz.ntmps38
  go_wp2_with fail
  refine (H0.out _).mono ?_
  rintro e w1 ⟨rfl, hb⟩
  have HB1 := Lib.hid (up_trans HB.out hb)
  go_wp2
  go_ret
  exact ⟨rfl, HB1.out⟩
theorem bGet_in (cs : List Value) (v : Int) (k : Nat) (w : World) (hk : k < 28) (hl : cs.length = 33) (hv : cs[cellJ k]? = some (.int .i64 v)) :
    Calls Tryz.prog 38 #[.agg cs.toArray, .int .i64 (k : Int)] w fun e w' => e = .returned (.int .i64 v) ∧ Below w.heap.size w w' := by
  have K0 := fun w => isPlace_any (k : Int) w
  rw [show (decide (0 ≤ (k : Int)) && decide ((k : Int) ≤ 27)) = true by simp; omega] at K0
  have H0 := Lib.hid K0
  have HB := Lib.hid (up_alloc (Below.refl w.heap.size w) (.cells cs.toArray 29))
  have HX := Lib.hid (Bx.new w 29 cs)
  have h1 := nums_one w.heap.size hk
  have h2 : (Instr.field 101 (.agg (numC w.heap.size k).toArray) 0).run Tryz.prog = fun w1 => .ok (.pointer (some ⟨w.heap.size, cellJ k, none⟩)) w1 := by
    funext w1
    kernel_rfl
  have h2 := fun w1 => congrFun h2 w1
  have HV := Lib.hid hv
  have HL := Lib.hid hl
  clear K0 hv hl
  generalize (numC w.heap.size k).toArray = nk at *
  generalize cellJ k = j at *
  have HN := Lib.hid (fun w1 => numbers_any w.heap.size w1)
  generalize (numL w.heap.size).toArray = nl at *
  go_enter Tryz.func38, Tryz.ntmps38
  go_wp2_with fail
  refine (H0.out _).mono ?_
  rintro e w1 ⟨rfl, hb⟩
  have HX1 := Lib.hid (HX.out.later (by rw [HL.out]; decide) hb)
  have HB1 := Lib.hid (up_trans HB.out hb)
  go_wp2_with fail
  refine (HN.out _).mono ?_
  rintro e w2 ⟨rfl, hb2⟩
  have HX2 := Lib.hid (HX1.out.later (by rw [HL.out]; decide) hb2)
  have HB2 := Lib.hid (up_trans HB1.out hb2)
  have hc := HX2.out.cell j HV.out
  go_wp2
  go_ret
  exact ⟨rfl, HB2.out⟩
end Go.Proofs.YtenigkjonegdmaaGreatDoor
/- What bounds.Set answers, for every job, place and number: a job of new lists. -/
namespace Go.Proofs.YtenigkjonegdmaaGreatDoor
open Go.RowKit
set_option linter.unusedVariables false
set_option linter.unusedSimpArgs false

theorem job_lists (t : ByteArray) (n : Nat → Int) (c r : Int) (fv lv fv' lv' : Value) : ((jobL t n c r fv lv).set 14 fv').set 15 lv' = jobL t n c r fv' lv' := rfl
theorem keep_cell {w : World} {B : Nat} (o : Nat) (x : Value) : ∀ p : Addr, p.block ≠ B → ∀ v, w.cell? p = some v → (w.setCell ⟨B, o, none⟩ x).cell? p = some v := fun p hp v hv => (World.cell?_setCell_far _ _ _ _ (by simp only; omega)).trans hv

set_option maxRecDepth 100000 in
set_option maxHeartbeats 1000000 in
theorem bSet_core (t : ByteArray) (n m : Nat → Int) (c r i z : Int) (l : List Sp) (ls : List (List UInt8)) (a a' : Option Addr) (d d' x y : Nat) (b : Bool) (w : World) (hx : l.length = x) (hy : ls.length = y) (hl : x ≤ 1000000) (hls : y ≤ 1000000) (hI : InL w a l) (hT : TxA w a' d' ls)
    (hb : (decide (0 ≤ i) && decide (i ≤ 27)) = b) (hm : (b = false ∧ m = n) ∨ (b = true ∧ ∃ k : Nat, k < 28 ∧ i = (k : Int) ∧ m = setN n k z)) :
    Calls Tryz.prog 96 #[.agg (jobL t n c r (.slice a x d) (.slice a' y d')).toArray, .int .i64 i, .int .i64 z] w fun e w' => ∃ a2 d2 a3 d3, e = .returned (.agg (jobL t m c r (.slice a2 x d2) (.slice a3 y d3)).toArray) ∧ InF w.heap.size w' a2 l ∧ TxF w.heap.size w' a3 d3 ls ∧ Below w.heap.size w w' := by
  obtain ⟨cs, hcs⟩ : ∃ cs, jobL t n c r (.slice a x d) (.slice a' y d') = cs := ⟨_, rfl⟩
  have hlc : cs.length = 33 := by rw [← hcs]; rfl
  have X0 := (Bx.new w 29 cs).later (by rw [hlc]; decide) (up_alloc (Below.refl _ _) (.cells zeroL.toArray 29))
  have R0 := Bx.new (w.alloc (.cells cs.toArray 29)) 29 zeroL
  have B0 := up_alloc (up_alloc (Below.refl w.heap.size w) (.cells cs.toArray 29)) (.cells zeroL.toArray 29)
  have Z0 : ((w.alloc (.cells cs.toArray 29)).alloc (.cells zeroL.toArray 29)).heap.size = w.heap.size + 2 := by rw [World.size_alloc, World.size_alloc]
  rw [World.size_alloc] at R0
  have HW := Lib.hid (show ∃ w0, (w.alloc (.cells cs.toArray 29)).alloc (.cells zeroL.toArray 29) = w0 from ⟨_, rfl⟩)
  obtain ⟨w0, hw0⟩ := HW.out
  rw [hw0] at X0 R0 B0 Z0
  have KI := fun w => isPlace_any i w
  rw [hb] at KI
  have HP := Lib.hid KI
  have HM := Lib.hid hm
  have HI := Lib.hid hI; have HT := Lib.hid hT
  have KS := fun w1 h => stepsClone_any a l d w1 (by omega) h
  have KT := fun w1 h => textsClone_any a' ls d' w1 (by omega) h
  rw [hx] at KS
  rw [hy] at KT
  have HS := Lib.hid KS; have HTT := Lib.hid KT
  rw [hcs]
  have g14 := X0.cell 14 (v := .slice a x d) (by rw [← hcs]; rfl)
  have HX := Lib.hid X0; have HR := Lib.hid R0; have HB := Lib.hid B0; have HZ := Lib.hid Z0; have HC := Lib.hid hcs; have HW0 := Lib.hid hw0; have HLC := Lib.hid hlc
  clear X0 R0 B0 Z0 hcs hlc KI KS KT hI hT hm hb hw0 hl hls hx hy HW
  go_enter Tryz.func96, Tryz.ntmps96
  go_wp2_with (refine wpList_alloc_to rfl 29 rfl _ _ (job_alloc _) ?_; simp only [Act.put, HW0.out, World.size_alloc, List.setIfInBounds_toArray, List.set_cons_succ, List.set_cons_zero])
  refine (HS.out _ (HI.out.up HB.out)).mono ?_
  rintro e w1 ⟨a2, d2, rfl, hF, hb1⟩
  rw [HZ.out] at hF
  have X1 := HX.out.later (by rw [HLC.out]; decide) hb1
  have R1 := HR.out.later (by decide) hb1
  have f14 := X1.cell 14 (v := .slice a x d) (by rw [← HC.out]; rfl)
  have fr := X1.free
  have X2 := X1.set 14 (.slice a2 x d2)
  have g15 := X2.cell 15 (v := .slice a' y d') (by rw [← HC.out]; rfl)
  have R2 := R1.far (p := ⟨w.heap.size, 14, none⟩) (by simp only; omega) (.slice a2 x d2)
  have B2 := up_set (up_trans HB.out hb1) (p := ⟨w.heap.size, 14, none⟩) (Nat.le_refl _) (.slice a2 x d2)
  have F2 := hF.keep (B := w.heap.size) (by omega) (keep_cell 14 (.slice a2 x d2))
  have HX2 := Lib.hid X2; have HR2 := Lib.hid R2; have HB2 := Lib.hid B2; have HF2 := Lib.hid F2
  clear X1 R1 X2 R2 B2 F2 hF hb1 g14
  go_wp2_with fail
  clear f14 fr
  generalize w1.setCell ⟨w.heap.size, 14, none⟩ (.slice a2 x d2) = w2 at *
  refine (HTT.out _ (HT.out.up HB2.out)).mono ?_
  rintro e w3 ⟨a3, d3, rfl, hT3, hb3⟩
  have hw2 : w.heap.size + 1 < w2.heap.size := HR2.out.lowE (by decide)
  have X3 := HX2.out.later (by rw [List.length_set, HLC.out]; decide) hb3
  have R3 := HR2.out.later (by decide) hb3
  have f15 := X3.cell 15 (v := .slice a' y d') (by rw [← HC.out]; rfl)
  have fr := X3.free
  have X4 := X3.set 15 (.slice a3 y d3)
  rw [← HC.out, job_lists] at X4
  have R4 := R3.far (p := ⟨w.heap.size, 15, none⟩) (by simp only; omega) (.slice a3 y d3)
  have B4 := up_set (up_trans HB2.out hb3) (p := ⟨w.heap.size, 15, none⟩) (Nat.le_refl _) (.slice a3 y d3)
  have F4 := (HF2.out.up hb3).keep (B := w.heap.size) (by omega) (keep_cell 15 (.slice a3 y d3))
  have T4 := (hT3.mono (base' := w.heap.size + 2) (by omega)).keep (B := w.heap.size) (by omega) (keep_cell 15 (.slice a3 y d3))
  have HX4 := Lib.hid X4; have HR4 := Lib.hid R4; have HB4 := Lib.hid B4; have HF4 := Lib.hid F4; have HT4 := Lib.hid T4
  clear X3 R3 X4 R4 B4 F4 T4 hT3 hb3 g15
  go_wp2_with fail
  clear f15 fr
  generalize w3.setCell ⟨w.heap.size, 15, none⟩ (.slice a3 y d3) = w4 at *
  refine (HP.out _).mono ?_
  rintro e w5 ⟨rfl, hb5⟩
  have X5 := Lib.hid (HX4.out.later (by rw [jobL_length]; decide) hb5)
  have R5 := Lib.hid (HR4.out.later (by decide) hb5)
  have B5 := Lib.hid (up_trans HB4.out hb5)
  have F5 := Lib.hid (HF4.out.up hb5)
  have T5 := Lib.hid (HT4.out.up hb5)
  clear hb5
  rcases HM.out with ⟨rfl, rfl⟩ | ⟨rfl, k, hk, rfl, rfl⟩
  · have B6 := below_setCells (show w.heap.size ≤ w.heap.size + 1 by omega) (jobL t m c r (.slice a2 x d2) (.slice a3 y d3)) 0 _ B5.out
    have R6 := R5.out.sets (ws := jobL t m c r (.slice a2 x d2) (.slice a3 y d3)) rfl
    have F6 := F5.out.keep (B := w.heap.size + 1) (by omega) (keep_sets _ (w.heap.size + 1) 0 (jobL t m c r (.slice a2 x d2) (.slice a3 y d3)))
    have T6 := T5.out.keep (B := w.heap.size + 1) (by omega) (keep_sets _ (w.heap.size + 1) 0 (jobL t m c r (.slice a2 x d2) (.slice a3 y d3)))
    have HB6 := Lib.hid B6; have HR6 := Lib.hid R6; have HF6 := Lib.hid F6; have HT6 := Lib.hid T6
    clear B6 R6 F6 T6
    go_wp2_with (first
      | (refine wpList_load_job rfl _ rfl w.heap.size rfl (jobL t m c r (.slice a2 x d2) (.slice a3 y d3)) X5.out rfl ?_; simp only [Act.put, List.setIfInBounds_toArray, List.set_cons_succ, List.set_cons_zero])
      | (refine wpList_store_job rfl _ _ rfl (w.heap.size + 1) rfl zeroL (jobL t m c r (.slice a2 x d2) (.slice a3 y d3)) rfl R5.out rfl rfl (job_one _ _ _ _ _ _ _ _ _ _) ?_; simp only [Act.put]))
    exact bodyPost_ret (v := .agg (jobL t m c r (.slice a2 x d2) (.slice a3 y d3)).toArray) (results_wide Tryz.results96 (w.heap.size + 1) rfl _ _ HR6.out.range Tryz.underlying29 rfl infoJob) rfl
      ⟨a2, d2, a3, d3, rfl, HF6.out.mono (by omega), HT6.out.mono (by omega), HB6.out⟩
  · have HN := Lib.hid (fun w1 => numbers_any w.heap.size w1)
    have h1 := nums_one w.heap.size hk
    have h2 := fun w1 => congrFun (show (Instr.field 101 (.agg (numC w.heap.size k).toArray) 0).run Tryz.prog = fun w1 => .ok (.pointer (some ⟨w.heap.size, cellJ k, none⟩)) w1 from by funext w1; kernel_rfl) w1
    have HJ := Lib.hid (show ∀ fv lv, (jobL t n c r fv lv)[cellJ k]? = some (.int .i64 (n k)) from fun fv lv => job_at t n c r fv lv hk)
    have HJS := Lib.hid (show ∀ fv lv, (jobL t n c r fv lv).set (cellJ k) (.int .i64 z) = jobL t (setN n k z) c r fv lv from fun fv lv => job_set t n c r fv lv hk z)
    generalize (numC w.heap.size k).toArray = nk at *
    generalize cellJ k = j at *
    generalize (numL w.heap.size).toArray = nl at *
    obtain ⟨m, hmm⟩ : ∃ m, setN n k z = m := ⟨_, rfl⟩
    rw [hmm] at HJS
    have HMM := Lib.hid hmm
    clear hmm
    have z0 : (0 : Int) ≤ (k : Int) := by omega
    have z1 : (k : Int) < 28 := by omega
    go_wp2_with fail
    refine (HN.out _).mono ?_
    rintro e w6 ⟨rfl, hb6⟩
    have X6 := X5.out.later (by rw [jobL_length]; decide) hb6
    have R6 := R5.out.later (by decide) hb6
    have hc := X6.cell j (HJ.out _ _)
    have fr := X6.free
    have X7 := X6.set j (.int .i64 z)
    rw [HJS.out] at X7
    have R7 := R6.far (p := ⟨w.heap.size, j, none⟩) (by simp only; omega) (.int .i64 z)
    have B7 := up_set (up_trans B5.out hb6) (p := ⟨w.heap.size, j, none⟩) (Nat.le_refl _) (.int .i64 z)
    have F7 := (F5.out.up hb6).keep (B := w.heap.size) (by omega) (keep_cell j (.int .i64 z))
    have T7 := (T5.out.up hb6).keep (B := w.heap.size) (by omega) (keep_cell j (.int .i64 z))
    have B8 := below_setCells (show w.heap.size ≤ w.heap.size + 1 by omega) (jobL t m c r (.slice a2 x d2) (.slice a3 y d3)) 0 _ B7
    have R8 := R7.sets (ws := jobL t m c r (.slice a2 x d2) (.slice a3 y d3)) rfl
    have F8 := F7.keep (B := w.heap.size + 1) (by omega) (keep_sets _ (w.heap.size + 1) 0 (jobL t m c r (.slice a2 x d2) (.slice a3 y d3)))
    have T8 := T7.keep (B := w.heap.size + 1) (by omega) (keep_sets _ (w.heap.size + 1) 0 (jobL t m c r (.slice a2 x d2) (.slice a3 y d3)))
    have HB8 := Lib.hid B8; have HR8 := Lib.hid R8; have HF8 := Lib.hid F8; have HT8 := Lib.hid T8; have HX7 := Lib.hid X7; have HR7 := Lib.hid R7
    clear X6 R6 X7 R7 B7 F7 T7 B8 R8 F8 T8 hb6
    go_wp2_with (first
      | (refine wpList_load_job rfl _ rfl w.heap.size rfl (jobL t m c r (.slice a2 x d2) (.slice a3 y d3)) HX7.out rfl ?_; simp only [Act.put, List.setIfInBounds_toArray, List.set_cons_succ, List.set_cons_zero])
      | (refine wpList_store_job rfl _ _ rfl (w.heap.size + 1) rfl zeroL (jobL t m c r (.slice a2 x d2) (.slice a3 y d3)) rfl HR7.out rfl rfl (job_one _ _ _ _ _ _ _ _ _ _) ?_; simp only [Act.put]))
    exact bodyPost_ret (v := .agg (jobL t m c r (.slice a2 x d2) (.slice a3 y d3)).toArray) (results_wide Tryz.results96 (w.heap.size + 1) rfl _ _ HR8.out.range Tryz.underlying29 rfl infoJob) rfl
      ⟨a2, d2, a3, d3, by rw [HMM.out], HF8.out.mono (by omega), HT8.out.mono (by omega), HB8.out⟩

theorem bSet_any (cs : List Value) (j : Jb) (i z : Int) (w : World) (h : JobA w cs j) (hl : j.f.l.length ≤ 1000000) (hls : j.ls.length ≤ 1000000) :
    Calls Tryz.prog 96 #[.agg cs.toArray, .int .i64 i, .int .i64 z] w fun e w' => ∃ es, e = .returned (.agg es.toArray) ∧ JobF w.heap.size w' es { j with n := setJ j.n i z } ∧ Below w.heap.size w w' := by
  obtain ⟨a, d, a', d', rfl, h1, h2⟩ := h
  refine (bSet_core (tx j.t) j.n (setJ j.n i z) j.f.c j.f.r i z j.f.l j.ls a a' d d' _ _ _ w rfl rfl hl hls h1 h2 rfl ?_).mono ?_
  · cases hb : (decide (0 ≤ i) && decide (i ≤ 27))
    · exact .inl ⟨rfl, setJ_out hb z⟩
    · obtain ⟨k, hk, rfl⟩ := place_of hb
      exact .inr ⟨rfl, k, hk, rfl, setJ_in hk z⟩
  · rintro e w' ⟨a2, d2, a3, d3, rfl, hF, hT, hb⟩
    exact ⟨_, rfl, ⟨a2, d2, a3, d3, rfl, hF, hT⟩, hb⟩
end Go.Proofs.YtenigkjonegdmaaGreatDoor
/- What ticket's takeTitle, takeWord, takeScheme, takeNames answer. -/
namespace Go.Proofs.YtenigkjonegdmaaGreatDoor
open Go.RowKit
set_option linter.unusedVariables false
set_option linter.unusedSimpArgs false

/-- The boxes of a job and of a result that is a job, just made. -/
theorem two_jobs (cs : List Value) (w : World) (hl : cs.length = 33) : Bx ((w.alloc (.cells cs.toArray 29)).alloc (.cells zeroL.toArray 29)) w.heap.size cs ∧ Bx ((w.alloc (.cells cs.toArray 29)).alloc (.cells zeroL.toArray 29)) (w.heap.size + 1) zeroL ∧ Below w.heap.size w ((w.alloc (.cells cs.toArray 29)).alloc (.cells zeroL.toArray 29)) := by
  refine ⟨(Bx.new w _ cs).later (by rw [hl]; decide) (up_alloc (Below.refl _ _) _), ?_, up_alloc (up_alloc (Below.refl w.heap.size w) _) _⟩
  have := Bx.new (w.alloc (.cells cs.toArray 29)) 29 zeroL
  rwa [World.size_alloc] at this
/-- The result's box gets a job; it is answered beside a number. -/
theorem give_job {G : Nat → Prop} {w w1 : World} {cs : List Value} {j : Jb} {B : Nat} (hG : JobG (fun b => G b ∧ b < w.heap.size) w1 cs j) (hb : Below w.heap.size w w1) (hB : w.heap.size ≤ B) :
    JobG (fun b => G b ∨ w.heap.size ≤ b) (w1.setCells B 0 cs) cs j ∧ Below w.heap.size w (w1.setCells B 0 cs) :=
  ⟨(hG.keep (B := B) (by omega) (keep_sets _ B 0 cs)).mono (fun b h => .inl h.1), below_setCells hB cs 0 _ hb⟩

/-- A job and an error's number are answered. -/
theorem end_job {G : Nat → Prop} {r : Int × Jb} {w w1 : World} {fn : Func} {s s2 : Nat} (hr : fn.results = #[.cell s 29, .tmp s2]) (ds : List Value) (B : Nat) {a : Act} (ht : a.tmps.getD s undef = .pointer (some ⟨B, 0, none⟩)) (hv : a.tmps.getD s2 undef = .int .i64 r.1) (hd : a.defers = [])
    (hR : Bx w1 B ds) (hG : JobG (fun b => G b ∨ w.heap.size ≤ b) w1 ds r.2) (hb : Below w.heap.size w w1) : bodyPost Tryz.prog fn (GivesJ G r w) .ret a w1 :=
  bodyPost_ret (v := .tuple #[.agg ds.toArray, .int .i64 r.1]) (results_wide2 hr B ht ds _ _ hv hR.range Tryz.underlying29 rfl (by rw [hG.length]; exact infoJob)) hd ⟨ds, rfl, hG, hb⟩

set_option maxHeartbeats 1000000 in
theorem takeTitle_any (G : Nat → Prop) (cs : List Value) (j : Jb) (p : List UInt8) (w : World) (h : JobG G w cs j) (hp : p.length ≤ 999999) :
    Calls Tryz.prog 78 #[.agg cs.toArray, .string (tx p)] w (GivesJ G (titleM p j) w) := by
  obtain ⟨hX, hR, hB⟩ := two_jobs cs w h.length
  have HL := Lib.hid h.length
  have hJ := (h.old).up hB
  obtain ⟨F, hF⟩ : ∃ F, titleM p j = F := ⟨_, rfl⟩
  rw [hF]
  have KU := fun w => lexUnquote_core (tx p) w (by rw [tx_size]; exact hp)
  rw [data_tx] at KU
  unfold titleM at hF
  obtain ⟨P, hP⟩ : ∃ P, tx p = P := ⟨_, rfl⟩
  rw [hP] at KU ⊢
  have HU := Lib.hid KU
  have HX := Lib.hid hX; have HR := Lib.hid hR; have HB := Lib.hid hB; have HJ := Lib.hid hJ; have HF := Lib.hid hF
  obtain ⟨w2, hw2⟩ : ∃ w2, (w.alloc (.cells cs.toArray 29)).alloc (.cells zeroL.toArray 29) = w2 := ⟨_, rfl⟩
  have HW := Lib.hid hw2
  rw [hw2] at HX HR HB HJ
  clear hX hR hB hJ hF KU hP h hp hw2
  go_enter Tryz.func78, Tryz.ntmps78
  go_wp2_with (refine wpList_alloc_to rfl 29 rfl _ _ (job_alloc _) ?_; simp only [Act.put, HW.out, World.size_alloc, List.setIfInBounds_toArray, List.set_cons_succ, List.set_cons_zero])
  refine (HU.out _).mono ?_
  rintro e w3 ⟨rfl, hb⟩
  have HX3 := Lib.hid (HX.out.later (by rw [HL.out]; decide) hb); have HR3 := Lib.hid (HR.out.later (by decide) hb); have HB3 := Lib.hid (up_trans HB.out hb); have HJ3 := Lib.hid (HJ.out.up hb)
  clear hb HX HR HB HJ
  cases hq : unqO p with
  | none =>
    obtain rfl : (((1 : Int), zeroJ) : Int × Jb) = F := by rw [← HF.out, hq]
    clear hq HF
    go_wp2_with (first
      | (refine wpList_zero_job rfl rfl ?_; simp only [Act.put, List.setIfInBounds_toArray, List.set_cons_succ, List.set_cons_zero])
      | (refine wpList_store_job rfl _ _ rfl (w.heap.size + 1) rfl zeroL zeroL rfl HR3.out rfl rfl zeroL_one ?_; simp only [Act.put]))
    have HS := HR3.out.sets (ws := zeroL) rfl
    exact end_job (r := (1, zeroJ)) Tryz.results78 zeroL _ (by rfl) (by rfl) (by rfl) HS zeroL_job (below_setCells (by omega) _ _ _ HB3.out)
  | some s =>
    have hF := HF.out
    rw [hq] at hF
    simp only at hF
    have hz := tx_size s
    by_cases h6 : 60 < s.length
    · rw [if_pos h6] at hF
      subst hF
      have z1 : (60 : Int) < ((tx s).size : Int) := by omega
      clear hq HF h6 hz
      go_wp2_with (first
        | (refine wpList_zero_job rfl rfl ?_; simp only [Act.put, List.setIfInBounds_toArray, List.set_cons_succ, List.set_cons_zero])
        | (refine wpList_store_job rfl _ _ rfl (w.heap.size + 1) rfl zeroL zeroL rfl HR3.out rfl rfl zeroL_one ?_; simp only [Act.put]))
      have HS := HR3.out.sets (ws := zeroL) rfl
      exact end_job (r := (5, zeroJ)) Tryz.results78 zeroL _ (by rfl) (by rfl) (by rfl) HS zeroL_job (below_setCells (by omega) _ _ _ HB3.out)
    · rw [if_neg h6] at hF
      subst hF
      have z1 : ¬ (60 : Int) < ((tx s).size : Int) := by omega
      clear hq HF h6 hz
      have f0 := HX3.out.cell 0 HJ3.out.jobA.title
      have ff := HX3.out.free
      have HX4 := Lib.hid (HX3.out.set 0 (.string (tx s)))
      have HR4 := Lib.hid (HR3.out.far (p := ⟨w.heap.size, 0, none⟩) (by simp only; omega) (.string (tx s)))
      have HB4 := Lib.hid (up_set HB3.out (p := ⟨w.heap.size, 0, none⟩) (Nat.le_refl _) (.string (tx s)))
      have HJ4 := Lib.hid ((HJ3.out.keep (B := w.heap.size) (by omega) (keep_cell 0 (.string (tx s)))).title s)
      have HL4 := Lib.hid HJ4.out.length
      go_wp2_with (first
        | (refine wpList_load_job rfl _ rfl w.heap.size rfl (cs.set 0 (.string (tx s))) HX4.out HL4.out ?_; simp only [Act.put, List.setIfInBounds_toArray, List.set_cons_succ, List.set_cons_zero])
        | (refine wpList_store_job rfl _ _ rfl (w.heap.size + 1) rfl zeroL (cs.set 0 (.string (tx s))) rfl HR4.out rfl HL4.out HJ4.out.one ?_; simp only [Act.put]))
      obtain ⟨g1, g2⟩ := give_job HJ4.out HB4.out (B := w.heap.size + 1) (by omega)
      have HS := HR4.out.sets (ws := cs.set 0 (.string (tx s))) (by rw [HL4.out]; rfl)
      exact end_job (r := (0, { j with t := s })) Tryz.results78 _ _ (by rfl) (by rfl) (by rfl) HS g1 g2
end Go.Proofs.YtenigkjonegdmaaGreatDoor
/- What ticket's takeWord, takeNames and takeScheme answer. -/
namespace Go.Proofs.YtenigkjonegdmaaGreatDoor
open Go.RowKit
set_option linter.unusedVariables false
set_option linter.unusedSimpArgs false

set_option maxHeartbeats 1000000 in
theorem takeWord_any (G : Nat → Prop) (cs : List Value) (j : Jb) (i : Nat) (t : Int) (p : List UInt8) (w : World) (h : JobG G w cs j) (ht : t = 1 ∨ t = 2) (hi : i < 28) (hl : j.f.l.length ≤ 1000000) (hls : j.ls.length ≤ 1000000) :
    Calls Tryz.prog 79 #[.agg cs.toArray, .int .i64 (i : Int), .int .i64 t, .string (tx p)] w (GivesJ G (wordM t i p j) w) := by
  obtain ⟨hX, hR, hB⟩ := two_jobs cs w h.length
  have HL := Lib.hid h.length
  have hJ := (h.old).up hB
  obtain ⟨F, hF⟩ : ∃ F, wordM t i p j = F := ⟨_, rfl⟩
  rw [hF]
  unfold wordM at hF
  have HX := Lib.hid hX; have HR := Lib.hid hR; have HB := Lib.hid hB; have HJ := Lib.hid hJ
  obtain ⟨w2, hw2⟩ : ∃ w2, (w.alloc (.cells cs.toArray 29)).alloc (.cells zeroL.toArray 29) = w2 := ⟨_, rfl⟩
  have HW := Lib.hid hw2
  rw [hw2] at HX HR HB HJ
  clear hX hR hB hJ h hw2
  cases hq : wordN t p with
  | none =>
    rw [hq] at hF
    simp only at hF
    subst hF
    have HU := Lib.hid (fun w => wordsGet_no (wordN_none ht hq) w)
    clear hq
    generalize tx p = P at *
    go_enter Tryz.func79, Tryz.ntmps79
    go_wp2_with (refine wpList_alloc_to rfl 29 rfl _ _ (job_alloc _) ?_; simp only [Act.put, HW.out, World.size_alloc, List.setIfInBounds_toArray, List.set_cons_succ, List.set_cons_zero])
    refine (HU.out _).mono ?_
    rintro e w3 ⟨rfl, hb⟩
    have HR3 := Lib.hid (HR.out.later (by decide) hb); have HB3 := Lib.hid (up_trans HB.out hb)
    clear hb HX HR HB HJ
    go_wp2_with (first
      | (refine wpList_zero_job rfl rfl ?_; simp only [Act.put, List.setIfInBounds_toArray, List.set_cons_succ, List.set_cons_zero])
      | (refine wpList_store_job rfl _ _ rfl (w.heap.size + 1) rfl zeroL zeroL rfl HR3.out rfl rfl zeroL_one ?_; simp only [Act.put]))
    have HS := HR3.out.sets (ws := zeroL) rfl
    exact end_job (r := (2, zeroJ)) Tryz.results79 zeroL _ (by rfl) (by rfl) (by rfl) HS zeroL_job (below_setCells (by omega) _ _ _ HB3.out)
  | some m =>
    rw [hq] at hF
    simp only at hF
    subst hF
    have HU := Lib.hid (fun w => wordsGet_yes (wordN_yes hq).1 w)
    have HSt := Lib.hid (fun w1 (h1 : JobA w1 cs j) => bSet_any cs j (i : Int) ((m : Int) + 1) w1 h1 hl hls)
    have Hi := Lib.hid (setJ_in (n := j.n) hi ((m : Int) + 1))
    clear hq hl hls
    generalize tx p = P at *
    generalize (m : Int) + 1 = z at *
    generalize hii : (i : Int) = ii at *
    have Hii := Lib.hid hii
    clear hii
    go_enter Tryz.func79, Tryz.ntmps79
    go_wp2_with (refine wpList_alloc_to rfl 29 rfl _ _ (job_alloc _) ?_; simp only [Act.put, HW.out, World.size_alloc, List.setIfInBounds_toArray, List.set_cons_succ, List.set_cons_zero])
    refine (HU.out _).mono ?_
    rintro e w3 ⟨rfl, hb⟩
    have HX3 := Lib.hid (HX.out.later (by rw [HL.out]; decide) hb); have HR3 := Lib.hid (HR.out.later (by decide) hb); have HB3 := Lib.hid (up_trans HB.out hb); have HJ3 := Lib.hid (HJ.out.up hb)
    clear hb HX HR HB HJ
    go_wp2_with (refine wpList_load_job rfl _ rfl w.heap.size rfl cs HX3.out HL.out ?_; simp only [Act.put, List.setIfInBounds_toArray, List.set_cons_succ, List.set_cons_zero])
    refine (HSt.out _ HJ3.out.jobA).mono ?_
    rintro e w4 ⟨ds, rfl, hJ4, hb⟩
    have HR4 := Lib.hid (HR3.out.later (by decide) hb); have HB4 := Lib.hid (up_trans HB3.out hb)
    have HJ4 := Lib.hid hJ4.jobG
    have hs3 : w.heap.size + 1 < w3.heap.size := HR3.out.lowE (by decide)
    clear hb hJ4 HX3 HR3
    go_wp2_with (refine wpList_store_job rfl _ _ rfl (w.heap.size + 1) rfl zeroL ds rfl HR4.out rfl HJ4.out.length HJ4.out.one ?_; simp only [Act.put])
    have HS := HR4.out.sets (ws := ds) (by rw [HJ4.out.length]; rfl)
    have g1 := (HJ4.out.keep (B := w.heap.size + 1) (by omega) (keep_sets _ (w.heap.size + 1) 0 ds)).mono (G' := fun b => G b ∨ w.heap.size ≤ b) (fun b (h : w3.heap.size ≤ b) => .inr (by omega))
    rw [Hi.out] at g1
    exact end_job (r := (0, _)) Tryz.results79 _ _ (by rfl) (by rfl) (by rfl) HS g1 (below_setCells (by omega) _ _ _ HB4.out)

set_option maxHeartbeats 1000000 in
theorem takeNames_any (G : Nat → Prop) (cs : List Value) (j : Jb) (a : Option Addr) (c : Nat) (ls : List (List UInt8)) (w : World) (h : JobG G w cs j) (hT : TxG G w a c ls) (hz : ∀ l ∈ ls, l.length ≤ 1000000000) (hls : ls.length ≤ 1000000) :
    Calls Tryz.prog 81 #[.agg cs.toArray, .slice a ls.length c] w (GivesJ G (lastM ls j) w) := by
  obtain ⟨hX, hR, hB⟩ := two_jobs cs w h.length
  have HL := Lib.hid h.length
  have hJ := (h.old).up hB
  have hT1 := hT.old.up hB
  obtain ⟨F, hF⟩ : ∃ F, lastM ls j = F := ⟨_, rfl⟩
  rw [hF]
  unfold lastM at hF
  have KA := fun w1 (h1 : TxA w1 a c ls) => areNames_any a c ls w1 h1 hz hls
  have HX := Lib.hid hX; have HR := Lib.hid hR; have HB := Lib.hid hB; have HJ := Lib.hid hJ; have HT := Lib.hid hT1
  obtain ⟨w2, hw2⟩ : ∃ w2, (w.alloc (.cells cs.toArray 29)).alloc (.cells zeroL.toArray 29) = w2 := ⟨_, rfl⟩
  have HW := Lib.hid hw2
  rw [hw2] at HX HR HB HJ HT
  have H15 := Lib.hid (show ∃ v, cs[15]? = some v from by obtain ⟨a, c, a', c', rfl, -⟩ := h; exact ⟨_, rfl⟩)
  clear hX hR hB hJ h hw2 hT hT1 hz hls
  cases hq : namesB ls
  · rw [hq] at hF KA
    simp only [Bool.false_eq_true, if_false] at hF
    subst hF
    have HA := Lib.hid KA
    clear hq KA
    go_enter Tryz.func81, Tryz.ntmps81
    go_wp2_with (refine wpList_alloc_to rfl 29 rfl _ _ (job_alloc _) ?_; simp only [Act.put, HW.out, World.size_alloc, List.setIfInBounds_toArray, List.set_cons_succ, List.set_cons_zero])
    refine (HA.out _ HT.out.arg).mono ?_
    rintro e w3 ⟨rfl, hb⟩
    have HR3 := Lib.hid (HR.out.later (by decide) hb); have HB3 := Lib.hid (up_trans HB.out hb)
    clear hb HX HR HB HJ
    go_wp2_with (first
      | (refine wpList_zero_job rfl rfl ?_; simp only [Act.put, List.setIfInBounds_toArray, List.set_cons_succ, List.set_cons_zero])
      | (refine wpList_store_job rfl _ _ rfl (w.heap.size + 1) rfl zeroL zeroL rfl HR3.out rfl rfl zeroL_one ?_; simp only [Act.put]))
    have HS := HR3.out.sets (ws := zeroL) rfl
    exact end_job (r := (1, zeroJ)) Tryz.results81 zeroL _ (by rfl) (by rfl) (by rfl) HS zeroL_job (below_setCells (by omega) _ _ _ HB3.out)
  · rw [hq] at hF KA
    simp only [if_true] at hF
    subst hF
    have HA := Lib.hid KA
    clear hq KA
    obtain ⟨v15, h15⟩ := H15.out
    have H15' := Lib.hid h15
    clear h15 H15
    go_enter Tryz.func81, Tryz.ntmps81
    go_wp2_with (refine wpList_alloc_to rfl 29 rfl _ _ (job_alloc _) ?_; simp only [Act.put, HW.out, World.size_alloc, List.setIfInBounds_toArray, List.set_cons_succ, List.set_cons_zero])
    refine (HA.out _ HT.out.arg).mono ?_
    rintro e w3 ⟨rfl, hb⟩
    have HX3 := Lib.hid (HX.out.later (by rw [HL.out]; decide) hb); have HR3 := Lib.hid (HR.out.later (by decide) hb); have HB3 := Lib.hid (up_trans HB.out hb); have HJ3 := Lib.hid (HJ.out.up hb); have HT3 := Lib.hid (HT.out.up hb)
    clear hb HX HR HB HJ HT
    have f15 := HX3.out.cell 15 H15'.out
    have ff := HX3.out.free
    have kc := keep_cell (w := w3) (B := w.heap.size) 15 (.slice a ls.length c)
    have HX4 := Lib.hid (HX3.out.set 15 (.slice a ls.length c))
    have HR4 := Lib.hid (HR3.out.far (p := ⟨w.heap.size, 15, none⟩) (by simp only; omega) (.slice a ls.length c))
    have HB4 := Lib.hid (up_set HB3.out (p := ⟨w.heap.size, 15, none⟩) (Nat.le_refl _) (.slice a ls.length c))
    have HJ4 := Lib.hid ((HJ3.out.keep (B := w.heap.size) (by omega) kc).last ls a c (HT3.out.keep (B := w.heap.size) (by omega) kc))
    have HL4 := Lib.hid HJ4.out.length
    clear kc
    go_wp2_with (first
      | (refine wpList_load_job rfl _ rfl w.heap.size rfl (cs.set 15 (.slice a ls.length c)) HX4.out HL4.out ?_; simp only [Act.put, List.setIfInBounds_toArray, List.set_cons_succ, List.set_cons_zero])
      | (refine wpList_store_job rfl _ _ rfl (w.heap.size + 1) rfl zeroL (cs.set 15 (.slice a ls.length c)) rfl HR4.out rfl HL4.out HJ4.out.one ?_; simp only [Act.put]))
    obtain ⟨g1, g2⟩ := give_job HJ4.out HB4.out (B := w.heap.size + 1) (by omega)
    have HS := HR4.out.sets (ws := cs.set 15 (.slice a ls.length c)) (by rw [HL4.out]; rfl)
    exact end_job (r := (0, _)) Tryz.results81 _ _ (by rfl) (by rfl) (by rfl) HS g1 g2
end Go.Proofs.YtenigkjonegdmaaGreatDoor
/- What ticket's takeScheme and takeNumbers answer. -/
namespace Go.Proofs.YtenigkjonegdmaaGreatDoor
open Go.RowKit
set_option linter.unusedVariables false
set_option linter.unusedSimpArgs false

set_option maxHeartbeats 1000000 in
theorem takeScheme_any (G : Nat → Prop) (cs : List Value) (j : Jb) (a : Option Addr) (c : Nat) (ls : List (List UInt8)) (w : World) (h : JobG G w cs j) (hT : TxA w a c ls) (hz : ∀ l ∈ ls, l.length ≤ 1000000) (hg : GoodM w) :
    Calls Tryz.prog 80 #[.agg cs.toArray, .slice a ls.length c] w (GivesJ G (schemeM ls j) w) := by
  obtain ⟨hX, hR, hB⟩ := two_jobs cs w h.length
  have HL := Lib.hid h.length
  have hJ := (h.old).up hB
  have hT1 := hT.up hB
  have hz2 : ((w.alloc (.cells cs.toArray 29)).alloc (.cells zeroL.toArray 29)).heap.size = w.heap.size + 2 := by rw [World.size_alloc, World.size_alloc]
  have KS := schGet_any a c ls _ hT1 hz (hg.below hB)
  obtain ⟨F, hF⟩ : ∃ F, schemeM ls j = F := ⟨_, rfl⟩
  rw [hF]
  unfold schemeM at hF
  have HX := Lib.hid hX; have HR := Lib.hid hR; have HB := Lib.hid hB; have HJ := Lib.hid hJ; have HS := Lib.hid KS
  obtain ⟨w2, hw2⟩ : ∃ w2, (w.alloc (.cells cs.toArray 29)).alloc (.cells zeroL.toArray 29) = w2 := ⟨_, rfl⟩
  have HW := Lib.hid hw2
  rw [hw2] at HX HR HB HJ HS hz2
  have HZ := Lib.hid hz2
  obtain ⟨H12, H13, H14⟩ : (∃ v, cs[12]? = some v) ∧ (∃ v, cs[13]? = some v) ∧ (∃ v, cs[14]? = some v) := by obtain ⟨a, c, a', c', rfl, -⟩ := h; exact ⟨⟨_, rfl⟩, ⟨_, rfl⟩, ⟨_, rfl⟩⟩
  clear hX hR hB hJ h hw2 hT hT1 hz hz2 KS hg
  cases hq : getM ls with
  | none =>
    rw [hq] at hF HS
    simp only at hF
    subst hF
    clear hq
    go_enter Tryz.func80, Tryz.ntmps80
    go_wp2_with (refine wpList_alloc_to rfl 29 rfl _ _ (job_alloc _) ?_; simp only [Act.put, HW.out, World.size_alloc, List.setIfInBounds_toArray, List.set_cons_succ, List.set_cons_zero])
    refine (HS.out.mono fun _ _ => gives_no).mono ?_
    rintro e w3 ⟨a1, c1, rfl, hb⟩
    have hb2 := up_alloc hb (.cells #[.int .i64 0, .int .i64 0, .slice a1 0 c1] 26)
    have HR3 := Lib.hid (HR.out.later (by decide) hb2); have HB3 := Lib.hid (up_trans HB.out hb2)
    clear hb HX HR HB HJ hb2
    go_wp2_with (first
      | (refine wpList_zero_job rfl rfl ?_; simp only [Act.put, List.setIfInBounds_toArray, List.set_cons_succ, List.set_cons_zero])
      | (refine wpList_store_job rfl _ _ rfl (w.heap.size + 1) rfl zeroL zeroL rfl HR3.out rfl rfl zeroL_one ?_; simp only [Act.put]))
    have HSt := HR3.out.sets (ws := zeroL) rfl
    exact end_job (r := (1, zeroJ)) Tryz.results80 zeroL _ (by rfl) (by rfl) (by rfl) HSt zeroL_job (below_setCells (by omega) _ _ _ HB3.out)
  | some s =>
    rw [hq] at hF HS
    simp only at hF
    subst hF
    clear hq
    obtain ⟨v12, h12⟩ := H12; obtain ⟨v13, h13⟩ := H13; obtain ⟨v14, h14⟩ := H14
    have K12 := Lib.hid h12; have K13 := Lib.hid h13; have K14 := Lib.hid h14
    clear h12 h13 h14
    go_enter Tryz.func80, Tryz.ntmps80
    go_wp2_with (refine wpList_alloc_to rfl 29 rfl _ _ (job_alloc _) ?_; simp only [Act.put, HW.out, World.size_alloc, List.setIfInBounds_toArray, List.set_cons_succ, List.set_cons_zero])
    refine HS.out.mono ?_
    rintro e w3 ⟨a1, c1, rfl, hF, hb⟩
    simp only [Option.getD_some, Option.isSome_some] at hF ⊢
    have hb2 := up_alloc hb (.cells #[.int .i64 s.c, .int .i64 s.r, .slice a1 s.l.length c1] 26)
    have HX3 := Lib.hid (HX.out.later (by rw [HL.out]; decide) hb2); have HR3 := Lib.hid (HR.out.later (by decide) hb2); have HB3 := Lib.hid (up_trans HB.out hb2)
    have HJ3 := Lib.hid ((HJ.out.up hb2).mono (G' := fun b => (G b ∧ b < w.heap.size) ∨ w.heap.size + 2 ≤ b) (fun b h => .inl h))
    have HF3 := Lib.hid (show LiG (fun b => (G b ∧ b < w.heap.size) ∨ w.heap.size + 2 ≤ b) (w3.alloc (.cells #[.int .i64 s.c, .int .i64 s.r, .slice a1 s.l.length c1] 26)) a1 s.l from by
      rw [HZ.out] at hF
      exact (hF.up (up_alloc (Below.refl _ _) _)).imp id fun ⟨b, off, e, g, h⟩ => ⟨b, off, e, .inr g, h⟩)
    have hlow : w.heap.size + 2 ≤ w3.heap.size := by have := hb.size; rw [HZ.out] at this; exact this
    clear hb HX HR HB HJ hb2 hF
    have hq := Bx.new w3 26 [.int .i64 s.c, .int .i64 s.r, .slice a1 s.l.length c1]
    have q0 := hq.cell 0 rfl; have q1 := hq.cell 1 rfl; have q2 := hq.cell 2 rfl
    have f12 := HX3.out.cell 12 K12.out; have f13 := HX3.out.cell 13 K13.out; have f14 := HX3.out.cell 14 K14.out
    have ff := HX3.out.free
    have HX4 := Lib.hid (((HX3.out.set 12 (.int .i64 s.c)).set 13 (.int .i64 s.r)).set 14 (.slice a1 s.l.length c1))
    have HR4 := Lib.hid (((HR3.out.far (p := ⟨w.heap.size, 12, none⟩) (by simp only; omega) (.int .i64 s.c)).far (p := ⟨w.heap.size, 13, none⟩) (by simp only; omega) (.int .i64 s.r)).far (p := ⟨w.heap.size, 14, none⟩) (by simp only; omega) (.slice a1 s.l.length c1))
    have HB4 := Lib.hid (up_set (up_set (up_set HB3.out (p := ⟨w.heap.size, 12, none⟩) (Nat.le_refl _) (.int .i64 s.c)) (p := ⟨w.heap.size, 13, none⟩) (Nat.le_refl _) (.int .i64 s.r)) (p := ⟨w.heap.size, 14, none⟩) (Nat.le_refl _) (.slice a1 s.l.length c1))
    have HJ4 := Lib.hid (((((HJ3.out.keep (B := w.heap.size) (by omega) (keep_cell 12 (.int .i64 s.c))).keep (B := w.heap.size) (by omega) (keep_cell 13 (.int .i64 s.r))).keep (B := w.heap.size) (by omega) (keep_cell 14 (.slice a1 s.l.length c1)))).folds s a1 c1 (((HF3.out.keep (B := w.heap.size) (by omega) (keep_cell 12 (.int .i64 s.c))).keep (B := w.heap.size) (by omega) (keep_cell 13 (.int .i64 s.r))).keep (B := w.heap.size) (by omega) (keep_cell 14 (.slice a1 s.l.length c1))))
    have HL4 := Lib.hid HJ4.out.length
    clear hq HX3 HR3 HB3 HJ3 HF3
    obtain ⟨ds, hds⟩ : ∃ ds, ((cs.set 12 (.int .i64 s.c)).set 13 (.int .i64 s.r)).set 14 (.slice a1 s.l.length c1) = ds := ⟨_, rfl⟩
    rw [hds] at HX4 HJ4 HL4
    clear hds
    obtain ⟨w5, hw5⟩ : ∃ w5, (((w3.alloc (.cells #[.int .i64 s.c, .int .i64 s.r, .slice a1 s.l.length c1] 26)).setCell ⟨w.heap.size, 12, none⟩ (.int .i64 s.c)).setCell ⟨w.heap.size, 13, none⟩ (.int .i64 s.r)).setCell ⟨w.heap.size, 14, none⟩ (.slice a1 s.l.length c1) = w5 := ⟨_, rfl⟩
    rw [hw5] at HX4 HR4 HB4 HJ4
    go_wp2_with (first
      | (refine wpList_load_job rfl _ rfl w.heap.size rfl ds HX4.out HL4.out ?_; simp only [Act.put, List.setIfInBounds_toArray, List.set_cons_succ, List.set_cons_zero])
      | (refine wpList_store_job rfl _ _ rfl (w.heap.size + 1) rfl zeroL ds rfl HR4.out rfl HL4.out HJ4.out.one ?_; simp only [Act.put]))
    have HSt := HR4.out.sets (ws := ds) (by rw [HL4.out]; rfl)
    have g1 := (HJ4.out.keep (B := w.heap.size + 1) (by omega) (keep_sets _ (w.heap.size + 1) 0 ds)).mono (G' := fun b => G b ∨ w.heap.size ≤ b) (fun b h => by rcases h with h | h; exact .inl h.1; exact .inr (by omega))
    exact end_job (r := (0, _)) Tryz.results80 _ _ (by rfl) (by rfl) (by rfl) HSt g1 (below_setCells (by omega) _ _ _ HB4.out)

theorem get_tx (p : List UInt8) (w : World) (hp : p.length ≤ 1000000000) (hg : Good w) : Calls Tryz.prog 98 #[.string (tx p)] w fun e w' => e = .returned (.tuple #[.int .i64 (DecMath.numOf p).1, .bool (DecMath.numOf p).2]) ∧ Below w.heap.size w w' := by
  have := decGet_any (tx p) w (by rw [tx_size]; omega) hg
  rwa [data_tx] at this
/-- The first m numbers are taken. -/
def TakeRel (G : Nat → Prop) (j : Jb) (f : Nat) (ls : List (List UInt8)) (F : Option (Nat → Int)) (w : World) (i : Value) (wr : World) : Prop :=
  ∃ (m : Nat) (cs : List Value) (n : Nat → Int), m ≤ ls.length ∧ i = .int .i64 (m : Int) ∧ Bx wr w.heap.size cs ∧ JobG (fun b => (G b ∧ b < w.heap.size) ∨ w.heap.size + 2 ≤ b) wr cs { j with n := n } ∧ Bx wr (w.heap.size + 1) zeroL ∧ Below w.heap.size w wr ∧ numsM (f + m) (ls.drop m) n = F
theorem take_yes {f : Nat} {ls : List (List UInt8)} {m : Nat} {p : List UInt8} (h : ls[m]? = some p) {n : Nat → Int} (hp : (DecMath.numOf p).2 = true) : numsM (f + m) (ls.drop m) n = numsM (f + (m + 1)) (ls.drop (m + 1)) (setN n (f + m) (DecMath.numOf p).1) := by
  have : ls.drop m = p :: ls.drop (m + 1) := by
    obtain ⟨h1, h2⟩ := List.getElem?_eq_some_iff.1 h
    rw [List.drop_eq_getElem_cons h1, h2]
  rw [this, numsM, if_pos hp]
  rfl
theorem take_no {f : Nat} {ls : List (List UInt8)} {m : Nat} {p : List UInt8} (h : ls[m]? = some p) {n : Nat → Int} (hp : (DecMath.numOf p).2 = false) : numsM (f + m) (ls.drop m) n = none := by
  have : ls.drop m = p :: ls.drop (m + 1) := by
    obtain ⟨h1, h2⟩ := List.getElem?_eq_some_iff.1 h
    rw [List.drop_eq_getElem_cons h1, h2]
  rw [this, numsM, if_neg (by rw [hp]; decide)]

set_option maxHeartbeats 2000000 in
set_option maxRecDepth 100000 in
theorem takeNumbers_any (G : Nat → Prop) (cs : List Value) (j : Jb) (f : Nat) (a : Option Addr) (c : Nat) (ls : List (List UInt8)) (w : World) (h : JobG G w cs j) (hT : TxA w a c ls) (hz : ∀ l ∈ ls, l.length ≤ 1000000) (hf : f + ls.length ≤ 28) (hl : j.f.l.length ≤ 1000000) (hls : j.ls.length ≤ 1000000) (hg : GoodM w) :
    Calls Tryz.prog 82 #[.agg cs.toArray, .int .i64 (f : Int), .slice a ls.length c] w (GivesJ G (numbersM f ls j) w) := by
  obtain ⟨hX, hR, hB⟩ := two_jobs cs w h.length
  have HL := Lib.hid h.length
  have hJ := ((h.old).up hB).mono (G' := fun b => (G b ∧ b < w.heap.size) ∨ w.heap.size + 2 ≤ b) (fun b h => .inl h)
  obtain ⟨F, hF⟩ : ∃ F, numsM f ls j.n = F := ⟨_, rfl⟩
  have HX := Lib.hid hX; have HR := Lib.hid hR; have HB := Lib.hid hB; have HJ := Lib.hid hJ; have HF := Lib.hid hF
  have HT := Lib.hid hT; have HG := Lib.hid hg; have HZ := Lib.hid hz
  obtain ⟨R, hRR⟩ : ∃ R, numbersM f ls j = R := ⟨_, rfl⟩
  rw [hRR]
  unfold numbersM at hRR
  rw [hF] at hRR
  have HRR := Lib.hid hRR
  clear hX hR hB hJ h hT hg hz hF hRR
  have z0 : (0 : Int) ≤ (f : Int) := by omega
  have HSt := Lib.hid (fun ds n z w1 (i : Nat) (h1 : JobA w1 ds { j with n := n }) => bSet_any ds { j with n := n } (i : Int) z w1 h1 hl hls)
  clear hl hls
  obtain ⟨N, hN⟩ : ∃ N, ls.length = N := ⟨_, rfl⟩
  have HN := Lib.hid hN
  rw [hN] at hf ⊢
  obtain ⟨w2, hw2⟩ : ∃ w2, (w.alloc (.cells cs.toArray 29)).alloc (.cells zeroL.toArray 29) = w2 := ⟨_, rfl⟩
  rw [hw2] at HX HR HB HJ
  have HW := Lib.hid hw2
  clear hw2 hN
  go_enter Tryz.func82, Tryz.ntmps82
  go_wp2_with (refine wpList_alloc_to rfl 29 rfl _ _ (job_alloc _) ?_; simp only [Act.put, HW.out, World.size_alloc, List.setIfInBounds_toArray, List.set_cons_succ, List.set_cons_zero])
  go_loopw [14] (fun i wr => TakeRel G j f ls F w i wr) (fun i _ => N - (intOf i).toNat)
  case atStart => exact ⟨0, cs, j.n, by omega, by go_num, HX.out, HJ.out, HR.out, HB.out, HF.out⟩
  case round =>
    obtain ⟨m, ds, n, hm, rfl, hX, hJ, hR, hB, hM⟩ := hrel
    rw [HN.out] at hm
    have HXr := Lib.hid hX; have HJr := Lib.hid hJ; have HRr := Lib.hid hR; have HBr := Lib.hid hB; have HMr := Lib.hid hM
    clear hX hJ hR hB hM HX HJ HR HB HF
    by_cases hlt : m < N
    · obtain ⟨p, hp⟩ : ∃ p, ls[m]? = some p := ⟨ls[m]'(by rw [HN.out]; exact hlt), List.getElem?_eq_getElem _⟩
      obtain ⟨g, o, rfl, hc, hcap, hmax⟩ := HT.out.resolve_left (by rintro rfl; simp at hp)
      have c0 := bl_cell HBr.out (hc m p hp)
      have z1 : (m : Int) < (N : Int) := by omega
      have HY := Lib.hid (fun h => take_yes (f := f) (n := n) hp h); have HNo := Lib.hid (fun h => take_no (f := f) (n := n) hp h)
      have KG := get_tx p wr (by have := HZ.out p (List.mem_of_getElem? hp); omega) (HG.out.below HBr.out).1
      clear hc hp
      generalize DecMath.numOf p = r at *
      obtain ⟨z, b⟩ := r
      simp only at KG HY HNo
      have HGt := Lib.hid KG
      clear KG
      generalize tx p = P at *
      cases b
      · have HE := Lib.hid (HMr.out.symm.trans (HNo.out rfl))
        go_wp2_with fail
        refine HGt.out.mono ?_
        rintro e w4 ⟨rfl, hb⟩
        have HR4 := Lib.hid (HRr.out.later (by decide) hb); have HB4 := Lib.hid (up_trans HBr.out hb)
        clear hb c0
        go_wp2_with (first
          | (refine wpList_zero_job rfl rfl ?_; simp only [Act.put, List.setIfInBounds_toArray, List.set_cons_succ, List.set_cons_zero])
          | (refine wpList_store_job rfl _ _ rfl (w.heap.size + 1) rfl zeroL zeroL rfl HR4.out rfl rfl zeroL_one ?_; simp only [Act.put]))
        have HSs := HR4.out.sets (ws := zeroL) rfl
        obtain rfl : ((5 : Int), zeroJ) = R := by rw [← HRR.out, HE.out]
        exact end_job (r := (5, zeroJ)) Tryz.results82 zeroL _ (by rfl) (by rfl) (by rfl) HSs zeroL_job (below_setCells (by omega) _ _ _ HB4.out)
      · have HE := Lib.hid ((HY.out rfl).symm.trans HMr.out)
        have z2 : IntKind.i64.wrap ((f : Int) + (m : Int)) = ((f + m : Nat) : Int) := IntWalk.i64_in _ (by omega)
        go_wp2_with fail
        refine HGt.out.mono ?_
        rintro e w4 ⟨rfl, hb⟩
        have HX4 := Lib.hid (HXr.out.later (by rw [HJr.out.length]; decide) hb); have HJ4 := Lib.hid (HJr.out.up hb); have HR4 := Lib.hid (HRr.out.later (by decide) hb); have HB4 := Lib.hid (up_trans HBr.out hb)
        clear hb c0
        go_wp2_with (refine wpList_load_job rfl _ rfl w.heap.size rfl ds HX4.out HJ4.out.length ?_; simp only [Act.put, List.setIfInBounds_toArray, List.set_cons_succ, List.set_cons_zero])
        refine (HSt.out ds n z _ (f + m) HJ4.out.jobA).mono ?_
        rintro e w5 ⟨es, rfl, hJ5, hb⟩
        rw [setJ_in (by omega)] at hJ5
        have hs4 : w.heap.size + 1 < w4.heap.size := HR4.out.lowE (by decide)
        have HX5 := Lib.hid (HX4.out.later (by rw [HJr.out.length]; decide) hb); have HR5 := Lib.hid (HR4.out.later (by decide) hb); have HB5 := Lib.hid (up_trans HB4.out hb)
        have HJ5 := Lib.hid (hJ5.jobG.mono (G' := fun b => (G b ∧ b < w.heap.size) ∨ w.heap.size + 2 ≤ b) (fun b (h : w4.heap.size ≤ b) => .inr (by omega)))
        clear hb hJ5 HX4 HJ4 HR4 HB4
        go_wp2_with (refine wpList_store_job rfl _ _ rfl w.heap.size rfl ds es rfl HX5.out HJr.out.length HJ5.out.length HJ5.out.one ?_; simp only [Act.put])
        have hXs := HX5.out.sets (ws := es) (by rw [HJ5.out.length, HJr.out.length])
        have hRs := sets_far HR5.out (B := w.heap.size) (by omega) 0 es
        have hBs := below_setCells (Nat.le_refl w.heap.size) es 0 _ HB5.out
        have hJs := HJ5.out.keep (B := w.heap.size) (by omega) (keep_sets _ w.heap.size 0 es)
        have HQ := Lib.hid (And.intro hXs (And.intro hRs (And.intro hBs hJs)))
        clear hXs hRs hBs hJs
        go_roundw
        case rel => exact ⟨m + 1, es, _, by rw [HN.out]; omega, by go_num, HQ.out.1, HQ.out.2.2.2, HQ.out.2.1, HQ.out.2.2.1, HE.out⟩
        case measure => simp [intOf]; omega
    · obtain rfl : m = N := by omega
      have HE := Lib.hid (show F = some n by
        have := HMr.out
        rw [List.drop_of_length_le (by rw [HN.out]; exact Nat.le_refl _)] at this
        exact this.symm)
      go_wp2_with (first
        | (refine wpList_load_job rfl _ rfl w.heap.size rfl ds HXr.out HJr.out.length ?_; simp only [Act.put, List.setIfInBounds_toArray, List.set_cons_succ, List.set_cons_zero])
        | (refine wpList_store_job rfl _ _ rfl (w.heap.size + 1) rfl zeroL ds rfl HRr.out rfl HJr.out.length HJr.out.one ?_; simp only [Act.put]))
      have HSs := HRr.out.sets (ws := ds) (by rw [HJr.out.length]; rfl)
      have g1 := (HJr.out.keep (B := w.heap.size + 1) (by omega) (keep_sets _ (w.heap.size + 1) 0 ds)).mono (G' := fun b => G b ∨ w.heap.size ≤ b) (fun b h => by rcases h with h | h; exact .inl h.1; exact .inr (by omega))
      obtain rfl : ((0 : Int), ({ j with n := n } : Jb)) = R := by rw [← HRR.out, HE.out]
      exact end_job (r := (0, _)) Tryz.results82 _ _ (by rfl) (by rfl) (by rfl) HSs g1 (below_setCells (by omega) _ _ _ HBr.out)
end Go.Proofs.YtenigkjonegdmaaGreatDoor
/- What ticket's keys answers. -/
namespace Go.Proofs.YtenigkjonegdmaaGreatDoor
open Go.RowKit
set_option linter.unusedVariables false
set_option linter.unusedSimpArgs false

/-- A key's cells; all keys', in a row. -/
def keyV (k : Ky) : List Value := [.string (tx k.w), .int .i64 k.d, .int .i64 (k.f : Int), .int .i64 (k.lo : Int), .int .i64 (k.hi : Int)]
def keyC : List Value := keyL.flatMap keyV
/-- The block g holds all keys. -/
def Keys (w : World) (g : Nat) : Prop := ∀ i k, keyL[i]? = some k → ∀ j v, (keyV k)[j]? = some v → w.cell? ⟨g, i * 5 + j, none⟩ = some v
theorem Keys.up {w w' : World} {g : Nat} (h : Keys w g) (hb : Below w.heap.size w w') : Keys w' g := fun i k hk j v hv => bl_cell hb (h i k hk j v hv)
set_option maxRecDepth 100000 in
theorem keyC_at : ∀ i, i < 16 → ∀ j, j < 5 → keyC[i * 5 + j]? = (keyL[i]?.map keyV).bind (·[j]?) := by
  intro i hi j hj
  have hw : i = 0 ∨ i = 1 ∨ i = 2 ∨ i = 3 ∨ i = 4 ∨ i = 5 ∨ i = 6 ∨ i = 7 ∨ i = 8 ∨ i = 9 ∨ i = 10 ∨ i = 11 ∨ i = 12 ∨ i = 13 ∨ i = 14 ∨ i = 15 := by omega
  have hv : j = 0 ∨ j = 1 ∨ j = 2 ∨ j = 3 ∨ j = 4 := by omega
  rcases hw with rfl | rfl | rfl | rfl | rfl | rfl | rfl | rfl | rfl | rfl | rfl | rfl | rfl | rfl | rfl | rfl <;> rcases hv with rfl | rfl | rfl | rfl | rfl <;> rfl
/-- The block g holds them, and nothing else. -/
def KeysH (w : World) (g : Nat) : Prop := w.heap[g]? = some (.cells keyC.toArray 51 (0, 0))
theorem KeysH.lt {w : World} {g : Nat} (h : KeysH w g) : g < w.heap.size := (Array.getElem?_eq_some_iff.1 h).1
theorem KeysH.up {w w' : World} {g : Nat} (h : KeysH w g) (hb : Below w.heap.size w w') : KeysH w' g := (hb.block g h.lt).trans h
theorem KeysH.keys {w : World} {g : Nat} (h : KeysH w g) : Keys w g := by
  intro i k hk j v hv
  have hi : i < 16 := (List.getElem?_eq_some_iff.1 hk).1
  have hj : j < 5 := (List.getElem?_eq_some_iff.1 hv).1
  have := keyC_at i hi j hj
  rw [hk] at this
  simp only [Option.map_some, Option.bind_some] at this
  rw [hv] at this
  unfold World.cell?
  rw [show w.heap[g]? = _ from h]
  simpa using this
set_option maxHeartbeats 2000000 in
theorem keysH_any (w : World) : Calls Tryz.prog 16 #[] w fun e w' => ∃ g, e = .returned (.slice (some ⟨g, 0, none⟩) 16 16) ∧ w.heap.size ≤ g ∧ KeysH w' g ∧ Below w.heap.size w w' := by
  have HB := Lib.hid (up_alloc (Below.refl w.heap.size w) (.cells keyC.toArray 51))
  have HN := Lib.hid (World.alloc_heap_new w (.cells keyC.toArray 51))
  go_enter Tryz.func16, Tryz.ntmps16
  go_wp2
  go_ret
  exact ⟨w.heap.size, rfl, Nat.le_refl _, HN.out, HB.out⟩
theorem keys_any (w : World) : Calls Tryz.prog 16 #[] w fun e w' => ∃ g, e = .returned (.slice (some ⟨g, 0, none⟩) 16 16) ∧ w.heap.size ≤ g ∧ Keys w' g ∧ Below w.heap.size w w' :=
  (keysH_any w).mono fun _ _ ⟨g, h1, h2, h3, h4⟩ => ⟨g, h1, h2, h3.keys, h4⟩
end Go.Proofs.YtenigkjonegdmaaGreatDoor
/- A region that draws its order and holds calls which make memory: what only reads is taken ahead of each call, in an order that is handed over and checked. -/
namespace Go.Proofs.YtenigkjonegdmaaGreatDoor
open Go.RowKit
set_option linter.unusedVariables false

/-- An operation that only hands on, reckons or reads: it yields a value, or none. -/
def takeable (o : Oper) : Bool := match o.op with
  | .move _ | .assign _ | .pick .. | .load .. | .fieldAddr .. | .indexAddr .. | .binOp .. | .unOp .. | .build .. | .field .. | .index ..  | .convert .. | .extract .. | .slice .. => true
  | _ => false
theorem value_of {P : Program} {m : Sem Value} {w w' : World} {n : Next} (h : (m >>= fun x => pure (Next.value x)).run P w = .ok n w') : ∃ u, n = .value u := by
  rw [Sem.run_bind] at h
  cases hm : m.run P w with
  | ok x w1 => rw [hm] at h; cases h; exact ⟨x, rfl⟩
  | halt x w1 => rw [hm] at h; cases h
theorem bool_of {P : Program} {m : Sem Bool} {x y : Value} {w w' : World} {n : Next} (h : (m >>= fun b => pure (Next.value (if b = true then x else y))).run P w = .ok n w') : ∃ u, n = .value u := by
  rw [Sem.run_bind] at h
  cases hm : m.run P w with
  | ok b w1 => rw [hm] at h; cases h; exact ⟨_, rfl⟩
  | halt b w1 => rw [hm] at h; cases h
theorem takeable_value {P : Program} {o : Oper} {ρ : Operand → Value} {w w' : World} {n : Next} (ht : takeable o = true) (h : (execOp ρ o).run P w = .ok n w') : ∃ u, n = .value u := by
  unfold takeable at ht
  unfold execOp at h
  split at ht
  all_goals first
    | exact absurd ht (by decide)
    | (rename_i e; rw [e] at h; exact value_of h)
    | (rename_i e; rw [e] at h; cases h; exact ⟨_, rfl⟩)
    | (rename_i e; rw [e] at h; exact bool_of h)

def takesB (ops : Array Oper) : Array Bool → List Nat → Option (Array Bool)
  | s, [] => some s
  | s, i :: r => if (Region.ready .any ops s).contains i && Region.free .any ops s i && (ops[i]?.map takeable).getD false then takesB ops (s.setIfInBounds i true) r else none
def planB (ops : Array Oper) : Array Bool → List (List Nat × Nat) → List Nat → Bool
  | s, [], fin => match takesB ops s fin with
    | some s' => (Region.ready .any ops s').isEmpty
    | none => false
  | s, (is, c) :: r, fin => match takesB ops s is with
    | some s' => decide (Region.ready .any ops s' = [c]) && planB ops (s'.setIfInBounds c true) r fin
    | none => false
/-- The plan serves: what it takes may be taken, each call is all that may come up then. -/
def planOk (l : List Oper) (plan : List (List Nat × Nat)) (fin : List Nat) : Bool := Region.noSelect l.toArray && planB l.toArray (Array.replicate l.length false) plan fin

/-- Stands where there is no operation. -/
def noOper : Oper := { dst := none, op := .move (.tmp 0), type := 0, pos := "", after := #[], guard := none }
/-- The walk: of each part what is taken, quietly; then the call. -/
def walkC (P : Program) (l : List Oper) (Q : Exit → Act → World → Prop) (S : World → Prop) : List (List Nat × Nat) → List Nat → Act → World → Prop
  | [], fin, a, w => wpQuiet P l.toArray S (fun a' => Q .normal a' w) (fin.map fun i => l.getD i noOper) a
  | (is, c) :: r, fin, a, w => wpQuiet P l.toArray S (fun a' => ∀ o, l[c]? = some o → ∀ K : Act → World → Prop, Shut (∀ a w, S w → walkC P l Q S r fin a w → K a w) →
      if Region.wanted o (yielded l.toArray a'.tmps) = true then Oper.wp P o a' w K Q else K (a'.put o.dst undef) w) (is.map fun i => l.getD i noOper) a

section
variable {P : Program} {l : List Oper} {Q : Exit → Act → World → Prop} {S : World → Prop}
/-- A part of the walk: what is taken; then the call. -/
theorem walkC_take {is : List Nat} {c : Nat} {r : List (List Nat × Nat)} {fin : List Nat} {a : Act} {w : World} (oc : Oper) (hc : l[c]? = some oc)
    (h : ∀ K0 : Act → Prop, Shut (∀ a', (∀ K : Act → World → Prop, Shut (∀ a w, S w → walkC P l Q S r fin a w → K a w) → if Region.wanted oc (yielded l.toArray a'.tmps) = true then Oper.wp P oc a' w K Q else K (a'.put oc.dst undef) w) → K0 a') →
      wpQuiet P l.toArray S K0 (is.map fun i => l.getD i noOper) a) : walkC P l Q S ((is, c) :: r) fin a w := by
  refine h _ (fun a' h' o ho => ?_)
  rw [hc] at ho
  cases ho
  exact h'
/-- The last part. -/
theorem walkC_last {fin : List Nat} {a : Act} {w : World} (h : ∀ K0 : Act → Prop, Shut (∀ a', Q .normal a' w → K0 a') → wpQuiet P l.toArray S K0 (fin.map fun i => l.getD i noOper) a) : walkC P l Q S [] fin a w :=
  h _ (fun _ h => h)
theorem takes_list (hsel : Region.noSelect l.toArray = true) (hQ : ∀ c (a : Act) d v w, Q (.panic c) (a.put d v) w → Q (.panic c) a w) {w : World} (hS : S w) (fuel : Nat) :
    ∀ (is : List Nat) (s s' : Array Bool) (a : Act), takesB l.toArray s is = some s' → wpQuiet P l.toArray S (fun a' => wpAnyH P .any l.toArray Q S fuel s' a' w) (is.map fun i => l.getD i noOper) a → wpAnyH P .any l.toArray Q S (fuel + is.length) s a w
  | [], s, s', a, h, hq => by
    simp only [takesB, Option.some.injEq] at h
    subst h
    exact hq
  | i :: r, s, s', a, h, hq => by
    unfold takesB at h
    split at h
    · rename_i hc
      simp only [Bool.and_eq_true] at hc
      obtain ⟨⟨h1, h2⟩, h3⟩ := hc
      cases ho : l[i]? with
      | none => rw [show l.toArray[i]? = none by simpa using ho] at h3; cases h3
      | some o =>
        have ho' : l.toArray[i]? = some o := by simpa using ho
        rw [ho'] at h3
        simp only [Option.map_some, Option.getD_some] at h3
        rw [List.map_cons, List.getD_eq_getElem?_getD, ho, Option.getD_some] at hq
        have go : ∀ v, YieldsIf P l.toArray S o v a → wpQuiet P l.toArray S (fun a' => wpAnyH P .any l.toArray Q S fuel s' a' w) (r.map fun i => l.getD i noOper) (a.put o.dst v) → wpAnyH P .any l.toArray Q S (fuel + (i :: r).length) s a w := fun v hy hv =>
          wpAnyH_take ho' hsel h2 h1 (fun c a w h => hQ c a _ _ w h) hy hS (takes_list hsel hQ hS fuel r _ s' _ h hv)
        simp only [wpQuiet] at hq
        split at hq
        · rename_i hw
          obtain ⟨v, hv, hr⟩ := hq
          refine go v (.inl ⟨hw, fun w hw => ?_⟩) hr
          have := hv w hw
          unfold Oper.quietAt at this
          cases hrun : (execOp a.eval o).run P w with
          | ok n w' =>
            obtain ⟨u, rfl⟩ := takeable_value h3 hrun
            rw [hrun] at this
            simp only [Oper.quietUpon] at this
            rw [this.1, this.2]
          | halt x w' => rw [hrun] at this; exact this.elim
        · rename_i hw
          exact go undef (.inr ⟨by simpa using hw, rfl⟩) hq
    · cases h

theorem walkC_wp (hsel : Region.noSelect l.toArray = true) (hQ : ∀ c (a : Act) d v w, Q (.panic c) (a.put d v) w → Q (.panic c) a w) (fin : List Nat) :
    ∀ (plan : List (List Nat × Nat)) (s : Array Bool) (a : Act) (w : World), S w → planB l.toArray s plan fin = true → walkC P l Q S plan fin a w → ∀ fuel, wpAnyH P .any l.toArray Q S ((plan.map fun x => x.1.length + 1).sum + fin.length + fuel) s a w
  | [], s, a, w, hS, hB, h, fuel => by
    simp only [planB] at hB
    split at hB
    · rename_i s' hs
      have hr : Region.ready .any l.toArray s' = [] := by simpa using hB
      have H : ∀ (m : List Oper) (a : Act), wpQuiet P l.toArray S (fun a' => Q .normal a' w) m a → wpQuiet P l.toArray S (fun a' => wpAnyH P .any l.toArray Q S fuel s' a' w) m a := by
        intro m
        induction m with
        | nil => intro a h; exact wpAnyH_done hr h _
        | cons o m ih =>
          intro a h
          simp only [wpQuiet] at h ⊢
          split
          · rename_i hw
            rw [if_pos hw] at h
            obtain ⟨v, h1, h2⟩ := h
            exact ⟨v, h1, ih _ h2⟩
          · rename_i hw
            rw [if_neg hw] at h
            exact ih _ h
      have := takes_list hsel hQ hS fuel fin s s' a hs (H _ _ h)
      rwa [show ([] : List (List Nat × Nat)).map (fun x => x.1.length + 1) = [] from rfl, List.sum_nil, Nat.zero_add, Nat.add_comm]
    · cases hB
  | (is, c) :: r, s, a, w, hS, hB, h, fuel => by
    simp only [planB] at hB
    split at hB
    · rename_i s' hs
      simp only [Bool.and_eq_true, decide_eq_true_eq] at hB
      obtain ⟨hr, hB⟩ := hB
      have hmem : c ∈ Region.ready .any l.toArray s' := by rw [hr]; simp
      obtain ⟨-, o, ho, -⟩ := mem_ready.1 hmem
      have ho' : l[c]? = some o := by simpa using ho
      have H : ∀ (m : List Oper) (a : Act), wpQuiet P l.toArray S (fun a' => ∀ o, l[c]? = some o → ∀ K : Act → World → Prop, Shut (∀ a w, S w → walkC P l Q S r fin a w → K a w) →
          if Region.wanted o (yielded l.toArray a'.tmps) = true then Oper.wp P o a' w K Q else K (a'.put o.dst undef) w) m a → wpQuiet P l.toArray S (fun a' => wpAnyH P .any l.toArray Q S ((r.map fun x => x.1.length + 1).sum + fin.length + fuel + 1) s' a' w) m a := by
        intro m
        induction m with
        | nil =>
          intro a h
          refine wpAnyH_ready hr (by simp) (AllReadyH.cons ho (fun K hK => h o ho' K (fun a w hS hW => hK a w hS (fun hS => walkC_wp hsel hQ fin r _ a w hS hB hW fuel))) AllReadyH.nil)
        | cons o m ih =>
          intro a h
          simp only [wpQuiet] at h ⊢
          split
          · rename_i hw
            rw [if_pos hw] at h
            obtain ⟨v, h1, h2⟩ := h
            exact ⟨v, h1, ih _ h2⟩
          · rename_i hw
            rw [if_neg hw] at h
            exact ih _ h
      have := takes_list hsel hQ hS _ is s s' a hs (H _ _ h)
      rw [List.map_cons, List.sum_cons]
      rwa [show is.length + 1 + (r.map fun x => x.1.length + 1).sum + fin.length + fuel = (r.map fun x => x.1.length + 1).sum + fin.length + fuel + 1 + is.length by omega]
    · cases hB
end

/-- The region; what stands in later worlds of w stands all along. -/
theorem wp_region_calls {P : Program} {id : Nat} {Q : Exit → Act → World → Prop} {a : Act} {w : World} {l : List Oper} (plan : List (List Nat × Nat)) (fin : List Nat) (hm : P.follows .mixedOrders = true) (hB : planOk l plan fin = true)
    (hn : l.length = (plan.map fun x => x.1.length + 1).sum + fin.length) (hQ : ∀ c (a : Act) d v w, Q (.panic c) (a.put d v) w → Q (.panic c) a w)
    (h : walkC P l Q (fun w' => ∃ u : Later w, w' = u.now) plan fin a w.drew) : (Code.region id l.toArray true).wp P Q a w := by
  simp only [planOk, Bool.and_eq_true] at hB
  have hS : (fun w' => ∃ u : Later w, w' = u.now) w.drew := ⟨⟨_, up_drew (Below.refl _ _)⟩, rfl⟩
  refine wp_region_held_drew (S := fun w' => ∃ u : Later w, w' = u.now) hm hS fun _ => ?_
  have := walkC_wp (S := fun w' => ∃ u : Later w, w' = u.now) hB.1 hQ fin plan _ a w.drew hS hB.2 h 0
  rw [Nat.add_zero, ← hn] at this
  simpa using this
end Go.Proofs.YtenigkjonegdmaaGreatDoor
/- A region that draws its order and holds calls which make memory, and a store into one block that nothing else in it reads. -/
namespace Go.Proofs.YtenigkjonegdmaaGreatDoor
open Go.RowKit
set_option linter.unusedVariables false

/-- A world that w has become: but for the block R, nothing that was there has changed. -/
structure LaterB (R : Nat) (w : World) where
  now : World
  up : But R R w now
instance (R : Nat) (w : World) : Nonempty (LaterB R w) := ⟨⟨w, But.refl _ _ _⟩⟩
theorem but_cell {R : Nat} {w w' : World} (h : But R R w w') {p : Addr} {v : Value} (hp : p.block ≠ R) (hc : w.cell? p = some v) : w'.cell? p = some v := by
  have hlt := World.block_lt_of_cell? w p hc
  unfold World.cell? at *
  rw [h.block p.block hlt hp hp]
  exact hc
theorem LaterB.cell {R : Nat} {w : World} (u : LaterB R w) {p : Addr} {v : Value} (hp : p.block ≠ R) (h : w.cell? p = some v) : u.now.cell? p = some v := but_cell u.up hp h
theorem but_range {R : Nat} {w w' : World} {b : Nat} {cs : List Value} (h : But R R w w') (hb : b ≠ R) (hx : w.rangeAt b 0 cs) : w'.rangeAt b 0 cs := fun j v hj => but_cell h hb (hx j v hj)
theorem laterB_range {R : Nat} {w : World} {B : Nat} {cs : List Value} (h : Bx w B cs) (hB : B ≠ R) : ∀ w', (∃ u : LaterB R w, w' = u.now) → w'.rangeAt B 0 cs := by
  rintro _ ⟨u, rfl⟩
  exact but_range u.up hB h.range
theorem but_next {R : Nat} {w w1 w2 : World} (h : But R R w w1) (hb : Below w1.heap.size w1 w2) : But R R w w2 := h.trans (But.of hb) (.inl rfl)
theorem but_sets {R : Nat} {w w1 : World} (h : But R R w w1) (ws : List Value) : But R R w (w1.setCells R 0 ws) := h.trans (setCells_but R R 0 ws w1) (.inl rfl)

theorem wp_region_calls_b {P : Program} {id : Nat} {Q : Exit → Act → World → Prop} {a : Act} {w : World} {l : List Oper} (R : Nat) (plan : List (List Nat × Nat)) (fin : List Nat) (hm : P.follows .mixedOrders = true) (hB : planOk l plan fin = true)
    (hn : l.length = (plan.map fun x => x.1.length + 1).sum + fin.length) (hQ : ∀ c (a : Act) d v w, Q (.panic c) (a.put d v) w → Q (.panic c) a w)
    (h : walkC P l Q (fun w' => ∃ u : LaterB R w, w' = u.now) plan fin a w.drew) : (Code.region id l.toArray true).wp P Q a w := by
  simp only [planOk, Bool.and_eq_true] at hB
  have hS : (fun w' => ∃ u : LaterB R w, w' = u.now) w.drew := ⟨⟨_, drew_but _ _ _⟩, rfl⟩
  refine wp_region_held_drew (S := fun w' => ∃ u : LaterB R w, w' = u.now) hm hS fun _ => ?_
  have := walkC_wp (S := fun w' => ∃ u : LaterB R w, w' = u.now) hB.1 hQ fin plan _ a w.drew hS hB.2 h 0
  rw [Nat.add_zero, ← hn] at this
  simpa using this
/-- A job is stored, by the one operation that may come up. -/
theorem wp_store_job {o : Oper} {a : Act} {w : World} {K : Act → World → Prop} {Q : Exit → Act → World → Prop} (x y : Operand) (ho : o.op = .store 29 x y) (b : Nat) (hx : a.eval x = .pointer (some ⟨b, 0, none⟩)) (vs cs : List Value) (hy : a.eval y = .agg cs.toArray) (hb : Bx w b vs) (hv : vs.length = 33) (hl : cs.length = 33) (h1 : cs.toArray.all (·.oneCell') = true)
    (h : K (a.put o.dst undef) (w.setCells b 0 cs)) : Oper.wp Tryz.prog o a w K Q := by
  refine wp_store_mid _ x y ho b 0 cs.toArray hx hy (by have := hb.some; rw [hv] at this; simpa [hl] using this) (by simpa [hl] using infoJob) h1 ?_
  simpa using h
end Go.Proofs.YtenigkjonegdmaaGreatDoor
