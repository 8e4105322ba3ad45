/- Of any job and any number split's Folds, Last, Of, Count, Leaves and At tell what the chapter says (P17.1, P17.2), as far as Light lets the job through. -/
import Derived.Test.YtomakbnbokaigaaGreatDoorPart16
import Derived.Test.YtomakbnbokaigaaGreatDoorPart18
import Derived.Test.YtomakbnbokaigaaGreatDoorPart14
import Derived.Test.YtomakbnbokaigaaGreatDoorPart12
import Derived.Test.YtomakbnbokaigaaGreatDoorRows
import Derived.Test.YtomakbnbokaigaaGreatDoorCards
import Derived.Test.YtomakbnbokaigaaGreatDoorTie
import Derived.WalkKit
import Derived.LaidMore
import Derived.Lay
import Derived.MakeChecks
import Derived.Stop.Joined
import Derived.SevenTiedAt
import Derived.ProofKit
import Derived.OpenShut
import Derived.ShutString
import Derived.ChangeOld
import Derived.Below
import Derived.Lib.SmallJoins
import Derived.Laws.IdiomArrays
/- gatherumlaw17.SplitTells answers true, for every job. -/
namespace Go.Proofs.YtomakbnbokaigaaGreatDoor
open Go.RowKit
set_option linter.unusedVariables false
set_option linter.unusedSimpArgs false

theorem refSame_self (s : Sc) (a b : Option Addr) (k d m : Nat) (w : World) (hm : s.l.length = m) (hl : m ≤ 1000000) (h1 : InL w a s.l) (h2 : InL w b s.l) :
    Calls Tryz.prog 18 #[.agg #[.int .i64 s.c, .int .i64 s.r, .slice a m k], .agg #[.int .i64 s.c, .int .i64 s.r, .slice b m d]] w fun e w' => e = .returned (.bool true) ∧ Below w.heap.size w w' := by
  subst hm
  have := refSame_any s s a b k d w hl h1 h2
  simpa using this

theorem gives_none_inv {w w' : World} {e : Ending} (h : GivesS none w e w') : ∃ a cap, e = .returned (.tuple #[.agg #[.int .i64 0, .int .i64 0, .slice a 0 cap], .bool false]) ∧ Below w.heap.size w w' := by
  obtain ⟨a, c, h1, h2, h3⟩ := h
  exact ⟨a, c, h1, h3⟩
theorem gives_some_inv {s : Sc} {w w' : World} {e : Ending} (h : GivesS (some s) w e w') : ∃ a cap, e = .returned (.tuple #[.agg #[.int .i64 s.c, .int .i64 s.r, .slice a s.l.length cap], .bool true]) ∧ Below w.heap.size w w' := by
  obtain ⟨a, c, h1, h2, h3⟩ := h
  exact ⟨a, c, h1, h3⟩
theorem refSame_zero (a : Option Addr) (k : Nat) (w : World) : Calls Tryz.prog 18 #[.agg #[.int .i64 0, .int .i64 0, .slice a 0 k], .agg #[.int .i64 0, .int .i64 0, .slice none 0 0]] w fun e w' => e = .returned (.bool true) ∧ Below w.heap.size w w' :=
  refSame_self zeroSc a none k 0 0 w rfl (by omega) (.inl rfl) (.inl rfl)
def LaterT {w : World} (_ : Later w) (v s : Value) (wx : World) : Prop := s = v ∧ ∃ u : Later w, wx = u.now

set_option maxRecDepth 100000 in
set_option maxHeartbeats 4000000 in
theorem tellsJ_core (cs : List Value) (i V : Int) (l : List Sc) (M : Nat) (F L E b1 b2 : Bool) (A : Int → Option Sc) (Pm : Prop) (w : World) (hL : cs.length = 33) (hg : GoodM w) (hM : l.length = M) (hM2 : M ≤ 50000) (hS : ∀ s ∈ l, s.l.length ≤ 6) (hLE : F = true → L = E)
    (hA : ∀ (k : Nat) s, l[k]? = some s → A k = some s) (e1 : decide (0 ≤ i) = b1) (e2 : decide (i < (M : Int)) = b2) (hAi : (A i).isSome = (b1 && b2))
    (KLi : ∀ w1, Below w.heap.size w w1 → Calls Tryz.prog 7 #[.agg cs.toArray] w1 fun e w' => ∃ b, e = .returned (.bool b) ∧ (b = true → Pm) ∧ Below w1.heap.size w1 w')
    (KF : ∀ w1, Below w.heap.size w w1 → Calls Tryz.prog 8 #[.agg cs.toArray] w1 fun e w' => e = .returned (.bool F) ∧ Below w1.heap.size w1 w')
    (KRF : Pm → ∀ w1, Below w.heap.size w w1 → Calls Tryz.prog 9 #[.agg cs.toArray] w1 fun e w' => e = .returned (.bool F) ∧ Below w1.heap.size w1 w')
    (KL : ∀ w1, Below w.heap.size w w1 → Calls Tryz.prog 10 #[.agg cs.toArray] w1 fun e w' => e = .returned (.bool L) ∧ Below w1.heap.size w1 w')
    (KRL : ∀ w1, Below w.heap.size w w1 → Calls Tryz.prog 11 #[.agg cs.toArray] w1 fun e w' => e = .returned (.bool E) ∧ Below w1.heap.size w1 w')
    (KO : ∀ w1, Below w.heap.size w w1 → Calls Tryz.prog 12 #[.agg cs.toArray] w1 fun e w' => ∃ a cap, e = .returned (.slice a M cap) ∧ ScsA w' a l ∧ Below w1.heap.size w1 w')
    (KRO : Pm → ∀ w1, Below w.heap.size w w1 → Calls Tryz.prog 13 #[.agg cs.toArray] w1 fun e w' => ∃ a cap, e = .returned (.slice a M cap) ∧ ScsA w' a l ∧ Below w1.heap.size w1 w')
    (KC : ∀ w1, Below w.heap.size w w1 → Calls Tryz.prog 14 #[.agg cs.toArray] w1 fun e w' => e = .returned (.int .i64 (M : Int)) ∧ Below w1.heap.size w1 w')
    (KV : ∀ w1, Below w.heap.size w w1 → Calls Tryz.prog 15 #[.agg cs.toArray] w1 fun e w' => e = .returned (.int .i64 V) ∧ Below w1.heap.size w1 w')
    (KRV : ∀ a cap w1, ScsA w1 a l → Calls Tryz.prog 16 #[.slice a M cap] w1 fun e w' => e = .returned (.int .i64 V) ∧ Below w1.heap.size w1 w')
    (KA : ∀ i w1, Below w.heap.size w w1 → Calls Tryz.prog 17 #[.agg cs.toArray, .int .i64 i] w1 (GivesS (A i) w1)) :
    Calls Tryz.prog 3 #[.agg cs.toArray, .int .i64 i] w fun e w' => e = .returned (.bool true) ∧ Below w.heap.size w w' := by
  have HX := Lib.hid (Bx.new w 29 cs)
  have HB := Lib.hid (up_alloc (Below.refl w.heap.size w) (.cells cs.toArray 29))
  have HL := Lib.hid hL; have HG := Lib.hid hg
  have HKLi := Lib.hid KLi; have HKF := Lib.hid KF; have HKRF := Lib.hid KRF; have HKL := Lib.hid KL; have HKRL := Lib.hid KRL; have HKO := Lib.hid KO; have HKRO := Lib.hid KRO
  have HKC := Lib.hid KC; have HKV := Lib.hid KV; have HKRV := Lib.hid KRV; have HKA := Lib.hid KA; have HA := Lib.hid hA; have HS := Lib.hid hS; have HN := Lib.hid hM; have HLE := Lib.hid hLE; have HAI := Lib.hid hAi
  clear hL hg KLi KF KRF KL KRL KO KRO KC KV KRV KA hA hS hM hLE hAi
  go_enter Tryz.func3, Tryz.ntmps3
  go_wp2_with fail
  refine (spAliveL_any _ (HG.out.below HB.out)).mono ?_
  rintro e w1 ⟨rfl, hb⟩
  have HX1 := Lib.hid (HX.out.later (by rw [HL.out]; decide) hb)
  have HB1 := Lib.hid (up_trans HB.out hb)
  clear hb
  go_wp2_with (refine wpList_load_job rfl _ rfl w.heap.size rfl cs HX1.out HL.out ?_; simp only [Act.put, List.setIfInBounds_toArray, List.set_cons_succ, List.set_cons_zero])
  refine (HKLi.out _ HB1.out).mono ?_
  rintro e w2 ⟨b, rfl, hPm, hb⟩
  have HX2 := Lib.hid (HX1.out.later (by rw [HL.out]; decide) hb)
  have HB2 := Lib.hid (up_trans HB1.out hb)
  clear hb
  cases b
  · go_wp2
    go_ret
    exact ⟨rfl, HB2.out⟩
  have HPm := Lib.hid (hPm rfl)
  clear hPm
  have HRG := Lib.hid (later_range HX2.out (by rw [HL.out]; decide))
  go_wp2_with fail
  refine later_start (w := w2) ?_
  intro x
  go_cut [32] (fun s wx => LaterT x (.bool false) s wx)
  case first =>
    cases F
    · refine wp_region_later (by kernel_rfl) (by kernel_rfl) ?_
      repeat (first
        | (go_big_quiet_want; refine quiet_load_job _ rfl w.heap.size rfl cs HL.out HRG.out ?_; simp only [Act.put, List.setIfInBounds_toArray, List.set_cons_succ, List.set_cons_zero]; go_big_quiet_on)
        | go_big_quiet_step ((first
          | (go_at_call 8; with_reducible exact Later.call (HKF.out _ (up_trans HB2.out (Later.up _))))
          | (go_at_call 9; with_reducible exact Later.call (HKRF.out HPm.out _ (up_trans HB2.out (Later.up _))))
          | (go_at_call 10; with_reducible exact Later.call (HKL.out _ (up_trans HB2.out (Later.up _))))
          | (go_at_call 11; with_reducible exact Later.call (HKRL.out _ (up_trans HB2.out (Later.up _)))))))
      refine wpQuiet_nil ?_
      rintro _ ⟨x2, rfl⟩
      go_wp2_with fail
      go_meet
      exact ⟨rfl, x2, rfl⟩
    · obtain rfl := HLE.out rfl
      cases L
      · refine wp_region_later (by kernel_rfl) (by kernel_rfl) ?_
        repeat (first
          | (go_big_quiet_want; refine quiet_load_job _ rfl w.heap.size rfl cs HL.out HRG.out ?_; simp only [Act.put, List.setIfInBounds_toArray, List.set_cons_succ, List.set_cons_zero]; go_big_quiet_on)
          | go_big_quiet_step ((first
            | (go_at_call 8; with_reducible exact Later.call (HKF.out _ (up_trans HB2.out (Later.up _))))
            | (go_at_call 9; with_reducible exact Later.call (HKRF.out HPm.out _ (up_trans HB2.out (Later.up _))))
            | (go_at_call 10; with_reducible exact Later.call (HKL.out _ (up_trans HB2.out (Later.up _))))
            | (go_at_call 11; with_reducible exact Later.call (HKRL.out _ (up_trans HB2.out (Later.up _)))))))
        refine wpQuiet_nil ?_
        rintro _ ⟨x2, rfl⟩
        go_wp2_with fail
        go_meet
        exact ⟨rfl, x2, rfl⟩
      · refine wp_region_later (by kernel_rfl) (by kernel_rfl) ?_
        repeat (first
          | (go_big_quiet_want; refine quiet_load_job _ rfl w.heap.size rfl cs HL.out HRG.out ?_; simp only [Act.put, List.setIfInBounds_toArray, List.set_cons_succ, List.set_cons_zero]; go_big_quiet_on)
          | go_big_quiet_step ((first
            | (go_at_call 8; with_reducible exact Later.call (HKF.out _ (up_trans HB2.out (Later.up _))))
            | (go_at_call 9; with_reducible exact Later.call (HKRF.out HPm.out _ (up_trans HB2.out (Later.up _))))
            | (go_at_call 10; with_reducible exact Later.call (HKL.out _ (up_trans HB2.out (Later.up _))))
            | (go_at_call 11; with_reducible exact Later.call (HKRL.out _ (up_trans HB2.out (Later.up _)))))))
        refine wpQuiet_nil ?_
        rintro _ ⟨x2, rfl⟩
        go_wp2_with fail
        go_meet
        exact ⟨rfl, x2, rfl⟩
  case rest =>
  obtain ⟨rfl, x2, rfl⟩ := hcut
  have HX3 := Lib.hid (HX2.out.later (by rw [HL.out]; decide) x2.up)
  have HB3 := Lib.hid (up_trans HB2.out x2.up)
  obtain ⟨w3, hw3⟩ : ∃ w3, x2.now = w3 := ⟨_, rfl⟩
  rw [hw3] at HX3 HB3 ⊢
  clear hw3 x2 x HRG
  have HRG3 := Lib.hid (later_range HX3.out (by rw [HL.out]; decide))
  go_wp2_with fail
  refine wp_region_calls [([0, 2], 1), ([], 3)] [4, 5] (by kernel_rfl) (by kernel_rfl) rfl (fun _ _ d _ _ h => by cases d <;> exact h) ?_
  refine walkC_take _ rfl (fun K0 hK0 => ?_)
  simp only [List.map_cons, List.map_nil, List.getD_cons_zero, List.getD_cons_succ]
  repeat (first
    | (go_big_quiet_want; refine quiet_load_job _ rfl w.heap.size rfl cs HL.out HRG3.out ?_; simp only [Act.put, List.setIfInBounds_toArray, List.set_cons_succ, List.set_cons_zero]; go_big_quiet_on)
    | go_big_quiet_step (fail))
  refine wpQuiet_nil (hK0.out _ (fun K hK => ?_))
  go_simp
  refine (HKO.out _ (up_trans HB3.out (up_drew (Below.refl _ w3)))).mono ?_
  rintro e w4 ⟨a4, k4, rfl, hO, hb⟩
  have C4 := Lib.hid (up_trans (up_drew (Below.refl _ w3)) hb)
  have HO4 := Lib.hid hO
  refine hK.out _ _ ⟨⟨w4, C4.out⟩, rfl⟩ ?_
  clear hO
  clear hK K hK0 K0 hb
  try simp only [List.setIfInBounds_toArray, List.set_cons_zero, List.set_cons_succ]
  refine walkC_take _ rfl (fun K0 hK0 => ?_)
  simp only [List.map_cons, List.map_nil, List.getD_cons_zero, List.getD_cons_succ]
  refine wpQuiet_nil (hK0.out _ (fun K hK => ?_))
  go_simp
  refine (HKRO.out HPm.out _ (up_trans HB3.out C4.out)).mono ?_
  rintro e w5 ⟨a5, k5, rfl, hO, hb⟩
  have C5 := Lib.hid (up_trans C4.out hb)
  have HO5 := Lib.hid hO
  have HO4' := Lib.hid (HO4.out.up hb)
  refine hK.out _ _ ⟨⟨w5, C5.out⟩, rfl⟩ ?_
  clear hO HO4
  clear hK K hK0 K0 hb
  try simp only [List.setIfInBounds_toArray, List.set_cons_zero, List.set_cons_succ]
  refine walkC_last (fun K0 hK0 => ?_)
  simp only [List.map_cons, List.map_nil, List.getD_cons_zero, List.getD_cons_succ]
  repeat (go_big_quiet_step (fail))
  refine wpQuiet_nil (hK0.out _ ?_)
  clear hK0 K0
  have HX5 := Lib.hid (HX3.out.later (by rw [HL.out]; decide) C5.out)
  have HB5 := Lib.hid (up_trans HB3.out C5.out)
  clear C4 C5 HRG3
  go_wp2_with (refine wpList_load_job_want _ rfl rfl w.heap.size rfl cs HX5.out HL.out ?_; simp only [Act.put, List.setIfInBounds_toArray, List.set_cons_succ, List.set_cons_zero])
  refine (HKC.out _ HB5.out).mono ?_
  rintro e w6 ⟨rfl, hb⟩
  have HX6 := Lib.hid (HX5.out.later (by rw [HL.out]; decide) hb)
  have HB6 := Lib.hid (up_trans HB5.out hb)
  have HO46 := Lib.hid (HO4'.out.up hb); have HO56 := Lib.hid (HO5.out.up hb)
  clear hb
  go_wp2_with (refine wpList_load_job_want _ rfl rfl w.heap.size rfl cs HX6.out HL.out ?_; simp only [Act.put, List.setIfInBounds_toArray, List.set_cons_succ, List.set_cons_zero])
  refine (HKV.out _ HB6.out).mono ?_
  rintro e w7 ⟨rfl, hb⟩
  have HX7 := Lib.hid (HX6.out.later (by rw [HL.out]; decide) hb)
  have HB7 := Lib.hid (up_trans HB6.out hb)
  have HO47 := Lib.hid (HO46.out.up hb); have HO57 := Lib.hid (HO56.out.up hb)
  clear hb
  go_wp2_with fail
  refine (HKRV.out _ _ _ HO57.out).mono ?_
  rintro e w8 ⟨rfl, hb⟩
  have HX8 := Lib.hid (HX7.out.later (by rw [HL.out]; decide) hb)
  have HB8 := Lib.hid (up_trans HB7.out hb)
  have HO48 := Lib.hid (HO47.out.up hb); have HO58 := Lib.hid (HO57.out.up hb)
  clear hb HO46 HO56 HO47 HO57 HO4' HO5
  go_wp2
  go_loopw [7] (fun i wr => ∃ j : Nat, j ≤ M ∧ i = .int .i64 (j : Int) ∧ ∃ y : Later w8, wr = y.now) (fun i _ => M - (intOf i).toNat)
  case atStart => exact ⟨0, by omega, by go_num, ⟨w8, Below.refl _ _⟩, rfl⟩
  case round =>
    obtain ⟨j, hj, rfl, y, rfl⟩ := hrel
    have HXy := Lib.hid (HX8.out.later (by rw [HL.out]; decide) y.up)
    have HBy := Lib.hid (up_trans HB8.out y.up)
    by_cases hlt : j < M
    · obtain ⟨s, hx⟩ : ∃ x, l[j]? = some x := ⟨l[j]'(by rw [HN.out]; exact hlt), List.getElem?_eq_getElem _⟩
      obtain ⟨g4, rfl, hc4⟩ := HO48.out.resolve_left (by rintro rfl; cases hx)
      obtain ⟨g5, rfl, hc5⟩ := HO58.out.resolve_left (by rintro rfl; cases hx)
      obtain ⟨b4, n4, h40, h41, h42, h43⟩ := hc4 j s hx
      obtain ⟨b5, n5, h50, h51, h52, h53⟩ := hc5 j s hx
      have hAj := HA.out j s hx
      have hs6 := HS.out s (List.mem_of_getElem? hx)
      have KAj := HKA.out (j : Int) _ HBy.out
      rw [hAj] at KAj
      have HKAj := Lib.hid KAj
      have z0 : (0 : Int) ≤ (j : Int) := by omega
      have z3 : (j : Int) < (M : Int) := by omega
      clear hx hc4 hc5 hAj KAj
      go_wp2_with (refine wpList_load_job rfl _ rfl w.heap.size rfl cs HXy.out HL.out ?_; simp only [Act.put, List.setIfInBounds_toArray, List.set_cons_succ, List.set_cons_zero])
      refine HKAj.out.mono ?_
      rintro e w9 ⟨a9, k9, rfl, hF, hb⟩
      simp only [Option.getD_some, Option.isSome_some] at hF ⊢
      have S := Bx.new w9 26 [.int .i64 s.c, .int .i64 s.r, .slice a9 s.l.length k9]
      have U := up_alloc (Below.refl w9.heap.size w9) (.cells #[.int .i64 s.c, .int .i64 s.r, .slice a9 s.l.length k9] 26)
      have B10 := Lib.hid (up_trans y.up (up_trans hb U))
      have HI9 := Lib.hid (hF.inL.up U)
      clear hb U hF
      go_wp2_with fail
      obtain ⟨w10, hw10⟩ : ∃ w10, w9.alloc (.cells #[.int .i64 s.c, .int .i64 s.r, .slice a9 s.l.length k9] 26) = w10 := ⟨_, rfl⟩
      rw [hw10] at S B10 HI9 ⊢
      clear hw10
      have j0 := fun x : Later w10 => x.cell (S.cell 0 rfl)
      have j1 := fun x : Later w10 => x.cell (S.cell 1 rfl)
      have j2 := fun x : Later w10 => x.cell (S.cell 2 rfl)
      have i40 := fun x : Later w10 => x.cell (bl_cell B10.out h40)
      have i41 := fun x : Later w10 => x.cell (bl_cell B10.out h41)
      have i42 := fun x : Later w10 => x.cell (bl_cell B10.out h42)
      have i50 := fun x : Later w10 => x.cell (bl_cell B10.out h50)
      have i51 := fun x : Later w10 => x.cell (bl_cell B10.out h51)
      have i52 := fun x : Later w10 => x.cell (bl_cell B10.out h52)
      have HI4 := Lib.hid (h43.up B10.out); have HI5 := Lib.hid (h53.up B10.out)
      obtain ⟨sn, hsn⟩ : ∃ sn, s.l.length = sn := ⟨_, rfl⟩
      have HSN := Lib.hid hsn
      rw [hsn] at j2 i42 i52 hs6 ⊢
      clear S h40 h41 h42 h43 h50 h51 h52 h53 hsn
      refine later_start (w := w10) ?_
      intro x
      refine wp_region_later (by kernel_rfl) (by kernel_rfl) ?_
      repeat (go_big_quiet_step ((go_at_call 18; first | with_reducible exact Later.call (refSame_self s _ _ _ _ _ _ HSN.out (by omega) (HI9.out.up (Later.up _)) (HI5.out.up (Later.up _))) | with_reducible exact Later.call (refSame_self s _ _ _ _ _ _ HSN.out (by omega) (HI4.out.up (Later.up _)) (HI5.out.up (Later.up _))))))
      refine wpQuiet_nil ?_
      rintro _ ⟨x2, rfl⟩
      clear j0 j1 j2 i40 i41 i42 i50 i51 i52
      go_wp2
      go_roundw
      case rel => exact ⟨j + 1, by omega, by go_num, ⟨x2.now, up_trans B10.out x2.up⟩, rfl⟩
      case measure => simp [intOf]; omega
    · obtain rfl : j = M := by omega
      have KAi := HKA.out i _ HBy.out
      cases hai : A i with
      | none =>
        have hbb := HAI.out
        rw [hai] at KAi hbb
        have HBB := Lib.hid hbb
        have HKAi := Lib.hid (KAi.mono fun e w' h => gives_none_inv h)
        clear KAi hai hbb
        go_wp2_with (refine wpList_load_job rfl _ rfl w.heap.size rfl cs HXy.out HL.out ?_; simp only [Act.put, List.setIfInBounds_toArray, List.set_cons_succ, List.set_cons_zero])
        refine HKAi.out.mono ?_
        rintro e w9 ⟨a9, k9, rfl, hb⟩
        have S := Bx.new w9 26 [.int .i64 0, .int .i64 0, .slice a9 0 k9]
        have U := up_alloc (Below.refl w9.heap.size w9) (.cells #[.int .i64 0, .int .i64 0, .slice a9 0 k9] 26)
        have B10 := Lib.hid (up_trans HBy.out (up_trans hb U))
        have s0 := S.cell 0 rfl; have s1 := S.cell 1 rfl; have s2 := S.cell 2 rfl
        clear hb U S
        cases b1
        · go_wp2_with fail
          refine (refSame_zero _ _ _).mono ?_
          rintro e w11 ⟨rfl, hb⟩
          have B11 := Lib.hid (up_trans B10.out hb)
          clear hb
          go_wp2
          go_ret
          exact ⟨rfl, B11.out⟩
        · obtain rfl : b2 = false := by simpa using HBB.out.symm
          go_wp2_with fail
          refine (refSame_zero _ _ _).mono ?_
          rintro e w11 ⟨rfl, hb⟩
          have B11 := Lib.hid (up_trans B10.out hb)
          clear hb
          go_wp2
          go_ret
          exact ⟨rfl, B11.out⟩
      | some t =>
        have hbb := HAI.out
        rw [hai] at KAi hbb
        obtain ⟨rfl, rfl⟩ : b1 = true ∧ b2 = true := by simpa using hbb.symm
        have HKAi := Lib.hid (KAi.mono fun e w' h => gives_some_inv h)
        clear KAi hai hbb
        go_wp2_with (refine wpList_load_job rfl _ rfl w.heap.size rfl cs HXy.out HL.out ?_; simp only [Act.put, List.setIfInBounds_toArray, List.set_cons_succ, List.set_cons_zero])
        refine HKAi.out.mono ?_
        rintro e w9 ⟨a9, k9, rfl, hb⟩
        have B10 := Lib.hid (up_trans HBy.out (up_trans hb (up_alloc (Below.refl w9.heap.size w9) (.cells #[.int .i64 t.c, .int .i64 t.r, .slice a9 t.l.length k9] 26))))
        clear hb
        go_wp2
        go_ret
        exact ⟨rfl, B10.out⟩

theorem walkSplitTells (cs : List Value) (j : Jb) (i : Int) (w : World) (h : (JobA w cs j ∧ j.t.length ≤ maxLen ∧ ∀ p ∈ j.ls, p.length ≤ maxLen) ∧ (∀ i, -9223372036854775808 ≤ j.n i ∧ j.n i ≤ 9223372036854775807) ∧ j.f.c ≤ 9223372036854775807 ∧ j.f.r ≤ 9223372036854775807) (hi : (Lit.int .i64 i).wf = true) (hg : GoodM w) :
    Calls Tryz.prog 3 #[.agg cs.toArray, .int .i64 i] w fun e w' => e = .returned (.bool true) ∧ Below w.heap.size w w' := by
  obtain ⟨⟨h, ht, hz⟩, -, hf⟩ := h
  have hc := of_length j
  refine tellsJ_core cs i (leavesS j) (ofM j) (ofM j).length (foldsM j) (lastM j) (endsM j) _ _ (atS j) (j.f.l.length ≤ 1000000) w h.length hg rfl (of_small j) (fun s hs => (of_scheme j s hs).1) (fun hF => by unfold lastM; rw [hF]; rfl) (fun k s hs => ?_) rfl rfl ?_
    (fun w1 hb => (refLight_any cs j w1 (h.up hb) ht hz).mono fun e w' ⟨b, he, hs, hb2⟩ => ⟨b, he, fun hb => by have := (hs hb).2.2.1; omega, hb2⟩)
    (fun w1 hb => spFolds_any cs j w1 (h.up hb) hf) (fun hl w1 hb => refSpFolds_any cs j w1 (h.up hb) hf hl)
    (fun w1 hb => spLast_any cs j w1 (h.up hb) hf (hg.below hb)) (fun w1 hb => refSpLast_any cs j w1 (h.up hb))
    (fun w1 hb => spOf_any cs j w1 (h.up hb) hf (hg.below hb)) (fun hl w1 hb => refSpOf_any cs j w1 (h.up hb) hf hl)
    (fun w1 hb => by rw [hc]; exact spCount_any cs j w1 (h.up hb) hf (hg.below hb)) (fun w1 hb => spLeaves_any cs j w1 (h.up hb) hf (hg.below hb))
    (fun a cap w1 hS => by have := refSpLeaves_any (ofM j) a cap w1 (by have := of_small j; omega) hS; rw [of_sum] at this; exact this)
    (fun i w1 hb => spAt_any cs j i w1 (h.up hb) hf (hg.below hb))
  · have hk : k < (ofM j).length := (List.getElem?_eq_some_iff.1 hs).1
    have e := of_sig (j := j) (k := k) (by omega)
    rw [hs] at e
    rw [e]
    unfold atS
    rw [if_pos (by simp; omega)]
  · unfold atS
    rw [hc]
    have e : decide (i ≤ cntS j - 1) = decide (i < cntS j) := by rw [Bool.eq_iff_iff]; simp; omega
    rw [e]
    split
    · rename_i hq; rw [hq]; rfl
    · rename_i hq; rw [Bool.not_eq_true] at hq; rw [hq]; rfl
end Go.Proofs.YtomakbnbokaigaaGreatDoor
/- Of any job and any number split's Folds, Last, Of, Count, Leaves and At tell what the chapter says (P17.1, P17.2), as far as Light lets the job through. -/
namespace Go.Proofs.YtomakbnbokaigaaGreatDoor.splitTells
open Go.ChangeShapes Go.WideShapes Go.ChangeAt Go.RowKit Go.Joins
open Go.ChangeMaps (open_string shut_string)
set_option linter.unusedVariables false

theorem own : ownKnob Tryz.prog.godebug = none := by kernel_rfl
theorem laidOut : laidOutB Tryz.prog = true := by kernel_rfl
/-- A slice of integers that came in: nil, or a row of cells. -/
def IsRow (k : IntKind) (w : World) (a : Option Addr) (len cap : Nat) (zs : List Int) : Prop :=
  (a = none ∧ len = 0 ∧ cap = 0 ∧ zs = []) ∨
  ∃ x, a = some x ∧ len ≤ cap ∧ cap ≤ maxLen ∧ zs.length = cap ∧ (∀ i, i < zs.length → w.cell? (x.add i) = some (.int k (zs.getD i 0))) ∧ ∀ n ∈ zs, (Lit.int k n).wf = true

/-- Four things, one by one. -/
theorem list4 {α : Type} (l : List α) (h : (⟨l⟩ : Array α).size = 4) : ∃ a b c d, l = [a, b, c, d] := by
  match l, h with
  | [a, b, c, d], _ => exact ⟨a, b, c, d, rfl⟩

theorem plain_laid (W : World) (h : laidMetH Tryz.prog Rows.splitTellsRow.laid W) : laidMet Tryz.prog Rows.splitTellsRow.laid W := by
  rw [MakeChecks.laidMetH_plain _ _ _ (by kernel_rfl)] at h; exact h

set_option maxHeartbeats 400000 in
set_option maxRecDepth 100000 in
theorem lifted (os : Os) (started : os.Started) (H : Type) (enc : TypeId × Value → H) :
    ReturnsInHanded {} Tryz.checked os 3 .any (fun w args => (Rows.splitTellsSpec.pre enc Tryz.prog Tryz.f3 [] false w args ∧ laidMetH Tryz.prog Rows.splitTellsRow.laid w) ∧ sizedMet enc Tryz.prog Tryz.f3 (OpenSpec.ofChange Rows.splitTellsSpec) false w args) (Rows.splitTellsSpec.post enc Tryz.prog Tryz.f3 false true false false) := by
  refine returnsInHanded_of_calls (C := Tryz.checked) own started (by kernel_rfl)
    (ChangeSpec.witness_shaped (enc := enc) (C := Tryz.checked) (os := os) (X := fun w _ => laidMetH Tryz.prog Rows.splitTellsRow.laid w) false (World.laidAll Tryz.prog os Rows.splitTellsRow.laid) #[.agg #[.string ⟨#[]⟩, .int .i64 0, .int .i64 0, .int .i64 0, .int .i64 0, .int .i64 0, .int .i64 0, .int .i64 0, .int .i64 0, .int .i64 0, .int .i64 0, .int .i64 0, .int .i64 0, .int .i64 0, .slice none 0 0, .slice none 0 0, .int .i64 0, .int .i64 0, .int .i64 0, .int .i64 0, .int .i64 0, .int .i64 0, .int .i64 0, .int .i64 0, .int .i64 0, .int .i64 0, .int .i64 0, .int .i64 0, .int .i64 0, .int .i64 0, .int .i64 0, .int .i64 0, .int .i64 0], .int .i64 0] 8 (World.laidAll_os _ _ _)
      (World.shaped_of_ZipB (by kernel_rfl) (by kernel_rfl)) (by kernel_rfl) (by kernel_rfl) (by kernel_rfl)
      (by rw [MakeChecks.laidMetH_plain _ _ _ (by kernel_rfl)]; exact laidMet_laidAll _ (by kernel_rfl) (by kernel_rfl))) ?_
  intro w0 tape inp _ hsh _ hok hpre _
  obtain ⟨_, _, _, fn, hfn, _, _, _, _, hval1⟩ := hok
  obtain rfl : Tryz.f3 = fn := Option.some.inj (Tryz.func3.symm.trans hfn)
  obtain ⟨⟨⟨ds, gs, before, hW0, -⟩, hX⟩, -⟩ := hpre
  have hW := DataW.Whole.of_heap (w' := w0.forCall tape inp) (by rfl) hW0
  have hLH : laidMetH Tryz.prog Rows.splitTellsRow.laid (w0.forCall tape inp) := hX.of_heap (by rfl)
  clear hW0 hX
  obtain ⟨W, hWd⟩ : ∃ W, w0.forCall tape inp = W := ⟨_, rfl⟩
  obtain ⟨args, hargs⟩ : ∃ args, inp.args = args := ⟨_, rfl⟩
  obtain ⟨base, hbase⟩ : ∃ base, w0.heap.size = base := ⟨_, rfl⟩
  rw [hWd] at hsh hval1 hW hLH ⊢
  rw [hargs] at hval1 hW ⊢
  rw [hbase] at hval1
  have hval0 : ∀ (j : Nat) t v, Tryz.f3.params[j]? = some t → args[j]? = some v → Value.okWide Tryz.prog W .any base t v := hval1
  clear hWd hargs hbase hval1 hfn
  have hL := plain_laid W hLH
  refine (show Calls Tryz.prog 3 args W fun e W' => ∃ v, e = .returned v ∧ Rows.splitTellsSpec.post enc Tryz.prog Tryz.f3 false true false false W args v W' from ?_).mono fun e W' ⟨v, he, hp⟩ => by
    subst he
    exact ChangeSpec.post_blind hp
  have hval : ∀ (j : Nat) t v, Tryz.f3.params[j]? = some t → args[j]? = some v → Value.okWide Tryz.prog W .any base t v := hval0
  have hW' := hW
  obtain ⟨p, q, hA0, hV, rfl, hfz, hnd⟩ := hW
  have hA : DataW.TrodAll enc Tryz.prog W 0 (fun _ => true) true Tryz.f3.params.toList args.toList ds p := hA0
  rw [Tryz.params3] at hA hval
  obtain ⟨v0, vs0, d0, ds0, p0, q0, hargs, rfl, rfl, h0, r0⟩ := trodAll_cons hA
  obtain ⟨v1, vs1, d1, ds1, p1, q1, rfl, rfl, rfl, h1, r1⟩ := trodAll_cons r0
  obtain ⟨rfl, rfl, rfl⟩ := trodAll_nil r1
  obtain rfl : args = #[v0, v1] := by cases args; simp_all
  obtain ⟨rfl, rfl⟩ := trodVars_none hV
  have k0 := h0
  have lt0 : ∀ x ∈ p0, x.block < W.heap.size := by obtain ⟨m, hm⟩ := k0; exact DataW.trod_lt m _ _ _ hm
  obtain ⟨cs0, rfl, hsz0, _⟩ : ∃ cs, v0 = .agg cs ∧ cs.size = Tryz.prog.cellsOf 29 ∧ Row.okWide Tryz.prog W .any base 29 cs := by
    have := hval 0 29 v0 rfl rfl
    simpa [Value.okWide, Tryz.underlying29] using this
  rw [show Tryz.prog.cellsOf 29 = 33 by kernel_rfl] at hsz0
  obtain ⟨l0⟩ := cs0
  obtain ⟨fuel0, hf0⟩ := h0
  obtain ⟨jb0, w0⟩ := open_jobF (cs := l0) hsz0 hf0
  obtain ⟨a1, rfl, rfl, rfl, w1⟩ := open_int Tryz.underlying3 (hval 1 3 v1 rfl rfl) h1
  clear hA0 hval0
  refine (walkSplitTells l0 jb0 a1 W w0 w1 (⟨good_of hL 2 4 5 rfl rfl rfl, mx_of hsh⟩)).mono fun e W' ⟨he, bel⟩ => ?_
  subst he
  exact ⟨_, rfl, _, _, _, [], _, [], hW', trodAll_mk1 (shut_bool Tryz.underlying4 _), (trodAll_cons_mk (Below.trod laidOut (by kernel_rfl) (of_decide_eq_true (by kernel_rfl)) k0 bel lt0) (trodAll_cons_mk (shut_int Tryz.underlying3 w1) trodAll_mk0)), rfl, bel.frame _, fun h => by cases h⟩

theorem over : Rows.splitTellsRow.holds Tryz.pinned (OpenSpec.ofChange Rows.splitTellsSpec) :=
  OpenClaim.holds_of_wide 3 Tryz.f3 rfl rfl rfl rfl rfl rfl rfl ⟨rfl, rfl, rfl, rfl, rfl⟩ rfl rfl rfl rfl rfl (by kernel_rfl) Tryz.func3 (by kernel_rfl)
    (of_decide_eq_true (by kernel_rfl)) (by unfold Func.isWrapper; first | (rw [if_pos (by decide +kernel)]; kernel_rfl) | (rw [if_neg (by decide +kernel)]; exact ⟨rfl, rfl⟩))
    (fun os started H enc _ => lifted os started H enc)

theorem proved : Rows.SplitTellsCardSaid :=
  Claim7.holds_tied_plain_at .later [] [.data, .data, .data, .data, .sentinel, .sentinel, .pinned] true (true, "74e7381784273e75f882d4eab58ebfd808f6f8fb1cc264ed5ce8202565e923d7") true
    over (fun _ h => by cases h) (by kernel_rfl) (fun _ h => by cases h) splitTells_row_tie rfl ⟨rfl, rfl⟩ (by kernel_rfl) rfl
    (fun f fn hf hfn => by
      obtain rfl : f = 3 := Option.some.inj ((show Tryz.prog.funcNamed "gatherum/gatherumlaw17.SplitTells" = some 3 by kernel_rfl).symm.trans hf) |>.symm
      obtain rfl : fn = Tryz.f3 := (Option.some.inj (Tryz.func3.symm.trans hfn)).symm
      exact ⟨by kernel_rfl, fun j t ht => by
        rw [Tryz.params3] at ht
        have hm : t ∈ [29, 3] := by have := Array.mem_of_getElem? ht; simpa using this
        have hall : ([29, 3].all fun u => !Tryz.prog.wantsStandIn u) = true := by kernel_rfl
        exact (show Tryz.prog.wantsStandIn t = false by simpa using List.all_eq_true.1 hall t hm)⟩)
    (by kernel_rfl)
#print axioms proved
end Go.Proofs.YtomakbnbokaigaaGreatDoor.splitTells
