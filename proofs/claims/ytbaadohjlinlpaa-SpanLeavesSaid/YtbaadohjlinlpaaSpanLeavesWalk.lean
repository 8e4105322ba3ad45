/- The law SpanLeaves answers true for every two spans and every number: what is left of a span has those of its numbers that are none of the other one's, as few spans as can be; no condition. -/
import Derived.Test.YtbaadohjlinlpaaSpanMath
namespace Go.Proofs.Ytbaadohjlinlpaa
open Go.RowKit
set_option linter.unusedVariables false

set_option maxHeartbeats 4000000 in
set_option maxRecDepth 100000 in
theorem leaves_0 (a0 a1 b0 b1 n : Int) (A B : Bool) (w : World)
    (KM : ∀ w, Calls Try.prog 18 #[.agg #[.int .i64 a0, .int .i64 a1], .agg #[.int .i64 b0, .int .i64 b1]] w (Filled w.heap.size [] w))
    (KA : ∀ w, Calls Try.prog 11 #[.agg #[.int .i64 a0, .int .i64 a1], .int .i64 n] w fun e w' => e = .returned (.bool A) ∧ Below w.heap.size w w')
    (KB : ∀ w, Calls Try.prog 11 #[.agg #[.int .i64 b0, .int .i64 b1], .int .i64 n] w fun e w' => e = .returned (.bool B) ∧ Below w.heap.size w w')
    (hr : RisingS [] a0 a1) (hmet : (A && !B) = (false)):
    Calls Try.prog 6 #[.agg #[.int .i64 a0, .int .i64 a1], .agg #[.int .i64 b0, .int .i64 b1], .int .i64 n] w fun e w' => e = .returned (.bool true) ∧ Below w.heap.size w w' := by
  have HM := Lib.hid KM
  have HR := Lib.hid hr
  have HT := Lib.hid hmet
  clear KM hr hmet
  have HA := Lib.hid KA
  have HB := Lib.hid KB
  clear KA KB
  go_enter Try.func6, Try.ntmps6
  go_wp2_with (go_at_call 7; refine (alive_any _).mono ?_; rintro e w1 ⟨rfl, hb⟩; obtain ⟨k0, k1, k2, k3, hb2⟩ := two_boxes _ _ _ _ _ _ hb; have HB2 := Lib.hid hb2; clear hb hb2)
  refine (HM.out _).mono ?_
  rintro e w2 ⟨v, rfl, hrow, hb⟩
  obtain ⟨ad, cap, rfl⟩ := rowS_len hrow
  have HRis : Hid (∀ u : Later w2, Calls Try.prog 17 #[.slice ad 0 cap, .agg #[.int .i64 a0, .int .i64 a1]] u.now fun e w' => e = .returned (.bool true) ∧ Below u.now.heap.size u.now w') := Lib.hid (fun u => rising_none ad cap a0 a1 u.now)
  simp only [List.length_nil]
  have HB3 := Lib.hid (up_trans HB2.out hb)
  have j0 := fun u : Later w2 => u.cell (bl_cell hb k0)
  have j1 := fun u : Later w2 => u.cell (bl_cell hb k1)
  have j2 := fun u : Later w2 => u.cell (bl_cell hb k2)
  have j3 := fun u : Later w2 => u.cell (bl_cell hb k3)
  clear hb k0 k1 k2 k3 hrow HM HR HB2
  refine later_start (w := w2) ?_
  intro u
  go_wp2_with fail
  refine wp_region_later (by kernel_rfl) (by kernel_rfl) ?_
  repeat (go_big_quiet_step ((go_at_call 17; with_reducible exact Later.call (HRis.out _))))
  refine wpQuiet_nil ?_
  rintro _ ⟨u1, rfl⟩
  go_wp2_with fail
  refine wp_loop_rounds 1 ?_
  rw [rounds_succ]
  go_wp2_with fail
  refine wp_loop_rounds 1 ?_
  rw [rounds_succ]
  cases A <;> cases B
  all_goals first
    | (exfalso; have := HT.out; simp at this; done)
    | (clear HT
       go_wp2_with (first
      | (go_at_call 11; ((with_reducible refine (HA.out _).mono ?_); rintro e w' ⟨rfl, hb⟩; obtain ⟨u', rfl⟩ := Later.next hb; clear hb))
      | (go_at_call 11; ((with_reducible refine (HB.out _).mono ?_); rintro e w' ⟨rfl, hb⟩; obtain ⟨u', rfl⟩ := Later.next hb; clear hb)))
       go_ret
       exact ⟨rfl, up_trans HB3.out u'.up⟩)

set_option maxHeartbeats 4000000 in
set_option maxRecDepth 100000 in
theorem leaves_1 (a0 a1 b0 b1 n p0 p1 : Int) (A B P : Bool) (w : World)
    (KM : ∀ w, Calls Try.prog 18 #[.agg #[.int .i64 a0, .int .i64 a1], .agg #[.int .i64 b0, .int .i64 b1]] w (Filled w.heap.size [(p0, p1)] w))
    (KA : ∀ w, Calls Try.prog 11 #[.agg #[.int .i64 a0, .int .i64 a1], .int .i64 n] w fun e w' => e = .returned (.bool A) ∧ Below w.heap.size w w')
    (KB : ∀ w, Calls Try.prog 11 #[.agg #[.int .i64 b0, .int .i64 b1], .int .i64 n] w fun e w' => e = .returned (.bool B) ∧ Below w.heap.size w w')
    (KP : ∀ w, Calls Try.prog 11 #[.agg #[.int .i64 p0, .int .i64 p1], .int .i64 n] w fun e w' => e = .returned (.bool P) ∧ Below w.heap.size w w')
    (KPl : ∀ w, Calls Try.prog 11 #[.agg #[.int .i64 b0, .int .i64 b1], .int .i64 p0] w fun e w' => e = .returned (.bool false) ∧ Below w.heap.size w w')
    (KPh : ∀ w, Calls Try.prog 11 #[.agg #[.int .i64 b0, .int .i64 b1], .int .i64 (p1 - 1)] w fun e w' => e = .returned (.bool false) ∧ Below w.heap.size w w')
    (hr : RisingS [(p0, p1)] a0 a1) (hmet : (A && !B) = (P)) (hwp : IntKind.i64.wrap (p1 - 1) = p1 - 1) :
    Calls Try.prog 6 #[.agg #[.int .i64 a0, .int .i64 a1], .agg #[.int .i64 b0, .int .i64 b1], .int .i64 n] w fun e w' => e = .returned (.bool true) ∧ Below w.heap.size w w' := by
  have HM := Lib.hid KM
  have HR := Lib.hid hr
  have HT := Lib.hid hmet
  clear KM hr hmet
  have HA := Lib.hid KA
  have HB := Lib.hid KB
  have HP := Lib.hid KP
  have HPl := Lib.hid KPl
  have HPh := Lib.hid KPh
  clear KA KB KP KPl KPh
  have HWp := Lib.hid hwp
  clear hwp
  go_enter Try.func6, Try.ntmps6
  go_wp2_with (go_at_call 7; refine (alive_any _).mono ?_; rintro e w1 ⟨rfl, hb⟩; obtain ⟨k0, k1, k2, k3, hb2⟩ := two_boxes _ _ _ _ _ _ hb; have HB2 := Lib.hid hb2; clear hb hb2)
  refine (HM.out _).mono ?_
  rintro e w2 ⟨v, rfl, hrow, hb⟩
  obtain ⟨g, cap, rfl, hg, hlt, hc⟩ := rowS_form hrow (by simp)
  have HRis : Hid (∀ u : Later w2, Calls Try.prog 17 #[.slice (some ⟨g, 0, none⟩) 1 cap, .agg #[.int .i64 a0, .int .i64 a1]] u.now fun e w' => e = .returned (.bool true) ∧ Below u.now.heap.size u.now w') := Lib.hid (fun u => rising_any g cap [(p0, p1)] a0 a1 u.now (by simp) (by simp) (fun i p hp => ⟨u.cell (hc i p hp).1, u.cell (hc i p hp).2⟩) HR.out)
  obtain ⟨c00, c01⟩ := hc 0 _ rfl
  simp at c00 c01
  simp only [List.length_cons, List.length_nil, Nat.zero_add]
  have HB3 := Lib.hid (up_trans HB2.out hb)
  have j0 := fun u : Later w2 => u.cell (bl_cell hb k0)
  have j1 := fun u : Later w2 => u.cell (bl_cell hb k1)
  have j2 := fun u : Later w2 => u.cell (bl_cell hb k2)
  have j3 := fun u : Later w2 => u.cell (bl_cell hb k3)
  have i00 := fun u : Later w2 => u.cell c00
  have i01 := fun u : Later w2 => u.cell c01
  clear hb k0 k1 k2 k3 hrow HM HR HB2 hc hg hlt c00 c01
  refine later_start (w := w2) ?_
  intro u
  go_wp2_with fail
  refine wp_region_later (by kernel_rfl) (by kernel_rfl) ?_
  repeat (go_big_quiet_step ((go_at_call 17; with_reducible exact Later.call (HRis.out _))))
  refine wpQuiet_nil ?_
  rintro _ ⟨u1, rfl⟩
  go_wp2_with fail
  cases P
  all_goals
    refine wp_loop_rounds 2 ?_
    rw [rounds_succ]
    go_wp2_with (first
      | (go_at_call 11; ((with_reducible refine (HP.out _).mono ?_); rintro e w' ⟨rfl, hb⟩; obtain ⟨u', rfl⟩ := Later.next hb; clear hb)))
    rw [rounds_succ]
    go_wp2_with fail
    replace HWp := HWp.out
    refine wp_loop_rounds 2 ?_
    rw [rounds_succ]
    go_wp2_with fail
    refine wp_region_later (by kernel_rfl) (by kernel_rfl) ?_
    repeat (go_big_quiet_step (first
      | (go_at_call 11; with_reducible exact Later.call (HPl.out _))
      | (go_at_call 11; with_reducible exact Later.call (HPh.out _))))
    refine wpQuiet_nil ?_
    rintro _ ⟨u2, rfl⟩
    go_wp2_with fail
    rw [rounds_succ]
    cases A <;> cases B
    all_goals first
      | (exfalso; have := HT.out; simp at this; done)
      | (clear HT
         go_wp2_with (first
      | (go_at_call 11; ((with_reducible refine (HA.out _).mono ?_); rintro e w' ⟨rfl, hb⟩; obtain ⟨u', rfl⟩ := Later.next hb; clear hb))
      | (go_at_call 11; ((with_reducible refine (HB.out _).mono ?_); rintro e w' ⟨rfl, hb⟩; obtain ⟨u', rfl⟩ := Later.next hb; clear hb)))
         go_ret
         exact ⟨rfl, up_trans HB3.out u'.up⟩)

set_option maxHeartbeats 4000000 in
set_option maxRecDepth 100000 in
theorem leaves_2 (a0 a1 b0 b1 n p0 p1 q0 q1 : Int) (A B P Q : Bool) (w : World)
    (KM : ∀ w, Calls Try.prog 18 #[.agg #[.int .i64 a0, .int .i64 a1], .agg #[.int .i64 b0, .int .i64 b1]] w (Filled w.heap.size [(p0, p1), (q0, q1)] w))
    (KA : ∀ w, Calls Try.prog 11 #[.agg #[.int .i64 a0, .int .i64 a1], .int .i64 n] w fun e w' => e = .returned (.bool A) ∧ Below w.heap.size w w')
    (KB : ∀ w, Calls Try.prog 11 #[.agg #[.int .i64 b0, .int .i64 b1], .int .i64 n] w fun e w' => e = .returned (.bool B) ∧ Below w.heap.size w w')
    (KP : ∀ w, Calls Try.prog 11 #[.agg #[.int .i64 p0, .int .i64 p1], .int .i64 n] w fun e w' => e = .returned (.bool P) ∧ Below w.heap.size w w')
    (KPl : ∀ w, Calls Try.prog 11 #[.agg #[.int .i64 b0, .int .i64 b1], .int .i64 p0] w fun e w' => e = .returned (.bool false) ∧ Below w.heap.size w w')
    (KPh : ∀ w, Calls Try.prog 11 #[.agg #[.int .i64 b0, .int .i64 b1], .int .i64 (p1 - 1)] w fun e w' => e = .returned (.bool false) ∧ Below w.heap.size w w')
    (KQ : ∀ w, Calls Try.prog 11 #[.agg #[.int .i64 q0, .int .i64 q1], .int .i64 n] w fun e w' => e = .returned (.bool Q) ∧ Below w.heap.size w w')
    (KQl : ∀ w, Calls Try.prog 11 #[.agg #[.int .i64 b0, .int .i64 b1], .int .i64 q0] w fun e w' => e = .returned (.bool false) ∧ Below w.heap.size w w')
    (KQh : ∀ w, Calls Try.prog 11 #[.agg #[.int .i64 b0, .int .i64 b1], .int .i64 (q1 - 1)] w fun e w' => e = .returned (.bool false) ∧ Below w.heap.size w w')
    (hr : RisingS [(p0, p1), (q0, q1)] a0 a1) (hmet : (A && !B) = (P || Q)) (hne : (p1 == q0) = false) (hwp : IntKind.i64.wrap (p1 - 1) = p1 - 1)  (hwq : IntKind.i64.wrap (q1 - 1) = q1 - 1) :
    Calls Try.prog 6 #[.agg #[.int .i64 a0, .int .i64 a1], .agg #[.int .i64 b0, .int .i64 b1], .int .i64 n] w fun e w' => e = .returned (.bool true) ∧ Below w.heap.size w w' := by
  have HM := Lib.hid KM
  have HR := Lib.hid hr
  have HT := Lib.hid hmet
  clear KM hr hmet
  have HA := Lib.hid KA
  have HB := Lib.hid KB
  have HP := Lib.hid KP
  have HPl := Lib.hid KPl
  have HPh := Lib.hid KPh
  have HQ := Lib.hid KQ
  have HQl := Lib.hid KQl
  have HQh := Lib.hid KQh
  clear KA KB KP KPl KPh KQ KQl KQh
  have HWp := Lib.hid hwp
  clear hwp
  have HWq := Lib.hid hwq
  clear hwq
  go_enter Try.func6, Try.ntmps6
  go_wp2_with (go_at_call 7; refine (alive_any _).mono ?_; rintro e w1 ⟨rfl, hb⟩; obtain ⟨k0, k1, k2, k3, hb2⟩ := two_boxes _ _ _ _ _ _ hb; have HB2 := Lib.hid hb2; clear hb hb2)
  refine (HM.out _).mono ?_
  rintro e w2 ⟨v, rfl, hrow, hb⟩
  obtain ⟨g, cap, rfl, hg, hlt, hc⟩ := rowS_form hrow (by simp)
  have HRis : Hid (∀ u : Later w2, Calls Try.prog 17 #[.slice (some ⟨g, 0, none⟩) 2 cap, .agg #[.int .i64 a0, .int .i64 a1]] u.now fun e w' => e = .returned (.bool true) ∧ Below u.now.heap.size u.now w') := Lib.hid (fun u => rising_any g cap [(p0, p1), (q0, q1)] a0 a1 u.now (by simp) (by simp) (fun i p hp => ⟨u.cell (hc i p hp).1, u.cell (hc i p hp).2⟩) HR.out)
  obtain ⟨c00, c01⟩ := hc 0 _ rfl
  obtain ⟨c10, c11⟩ := hc 1 _ rfl
  simp at c00 c01 c10 c11
  simp only [List.length_cons, List.length_nil, Nat.zero_add, Nat.reduceAdd]
  have HB3 := Lib.hid (up_trans HB2.out hb)
  have j0 := fun u : Later w2 => u.cell (bl_cell hb k0)
  have j1 := fun u : Later w2 => u.cell (bl_cell hb k1)
  have j2 := fun u : Later w2 => u.cell (bl_cell hb k2)
  have j3 := fun u : Later w2 => u.cell (bl_cell hb k3)
  have i00 := fun u : Later w2 => u.cell c00
  have i01 := fun u : Later w2 => u.cell c01
  have i10 := fun u : Later w2 => u.cell c10
  have i11 := fun u : Later w2 => u.cell c11
  clear hb k0 k1 k2 k3 hrow HM HR HB2 hc hg hlt c00 c01 c10 c11
  refine later_start (w := w2) ?_
  intro u
  go_wp2_with fail
  refine wp_region_later (by kernel_rfl) (by kernel_rfl) ?_
  repeat (go_big_quiet_step ((go_at_call 17; with_reducible exact Later.call (HRis.out _))))
  refine wpQuiet_nil ?_
  rintro _ ⟨u1, rfl⟩
  go_wp2_with fail
  cases P <;> cases Q
  all_goals
    refine wp_loop_rounds 3 ?_
    rw [rounds_succ]
    go_wp2_with (first
      | (go_at_call 11; ((with_reducible refine (HP.out _).mono ?_); rintro e w' ⟨rfl, hb⟩; obtain ⟨u', rfl⟩ := Later.next hb; clear hb))
      | (go_at_call 11; ((with_reducible refine (HQ.out _).mono ?_); rintro e w' ⟨rfl, hb⟩; obtain ⟨u', rfl⟩ := Later.next hb; clear hb)))
    rw [rounds_succ]
    go_wp2_with (first
      | (go_at_call 11; ((with_reducible refine (HP.out _).mono ?_); rintro e w' ⟨rfl, hb⟩; obtain ⟨u', rfl⟩ := Later.next hb; clear hb))
      | (go_at_call 11; ((with_reducible refine (HQ.out _).mono ?_); rintro e w' ⟨rfl, hb⟩; obtain ⟨u', rfl⟩ := Later.next hb; clear hb)))
    rw [rounds_succ]
    go_wp2_with fail
    replace HWp := HWp.out
    replace HWq := HWq.out
    refine wp_loop_rounds 3 ?_
    rw [rounds_succ]
    go_wp2_with fail
    refine wp_region_later (by kernel_rfl) (by kernel_rfl) ?_
    repeat (go_big_quiet_step (first
      | (go_at_call 11; with_reducible exact Later.call (HPl.out _))
      | (go_at_call 11; with_reducible exact Later.call (HQl.out _))
      | (go_at_call 11; with_reducible exact Later.call (HPh.out _))
      | (go_at_call 11; with_reducible exact Later.call (HQh.out _))))
    refine wpQuiet_nil ?_
    rintro _ ⟨u2, rfl⟩
    go_wp2_with fail
    rw [rounds_succ]
    go_wp2_with fail
    refine wp_region_later (by kernel_rfl) (by kernel_rfl) ?_
    repeat (go_big_quiet_step (first
      | (go_at_call 11; with_reducible exact Later.call (HPl.out _))
      | (go_at_call 11; with_reducible exact Later.call (HQl.out _))
      | (go_at_call 11; with_reducible exact Later.call (HPh.out _))
      | (go_at_call 11; with_reducible exact Later.call (HQh.out _))))
    refine wpQuiet_nil ?_
    rintro _ ⟨u3, rfl⟩
    go_wp2_with fail
    rw [rounds_succ]
    cases A <;> cases B
    all_goals first
      | (exfalso; have := HT.out; simp at this; done)
      | (clear HT
         go_wp2_with (first
      | (go_at_call 11; ((with_reducible refine (HA.out _).mono ?_); rintro e w' ⟨rfl, hb⟩; obtain ⟨u', rfl⟩ := Later.next hb; clear hb))
      | (go_at_call 11; ((with_reducible refine (HB.out _).mono ?_); rintro e w' ⟨rfl, hb⟩; obtain ⟨u', rfl⟩ := Later.next hb; clear hb)))
         go_ret
         exact ⟨rfl, up_trans HB3.out u'.up⟩)

theorem minus_as {a0 a1 b0 b1 : Int} {l : List (Int × Int)} (h : minusS a0 a1 b0 b1 = l) (w : World) : Calls Try.prog 18 #[.agg #[.int .i64 a0, .int .i64 a1], .agg #[.int .i64 b0, .int .i64 b1]] w (Filled w.heap.size l w) := h ▸ minus_any a0 a1 b0 b1 w
theorem has_as {a b n : Int} {c : Bool} (h : inS a b n = c) (w : World) : Calls Try.prog 11 #[.agg #[.int .i64 a, .int .i64 b], .int .i64 n] w fun e w' => e = .returned (.bool c) ∧ Below w.heap.size w w' := h ▸ lawHas_b a b n w

theorem walkSpanLeaves (a0 a1 b0 b1 n : Int) (w : World) (x0 : (Lit.int .i64 a0).wf = true) (x1 : (Lit.int .i64 a1).wf = true) (x2 : (Lit.int .i64 b0).wf = true) (x3 : (Lit.int .i64 b1).wf = true) (x4 : (Lit.int .i64 n).wf = true) :
    Calls Try.prog 6 #[.agg #[.int .i64 a0, .int .i64 a1], .agg #[.int .i64 b0, .int .i64 b1], .int .i64 n] w fun e w' => e = .returned (.bool true) ∧ Below w.heap.size w w' := by
  obtain ⟨y0, y0'⟩ := int_bd x0
  obtain ⟨y1, y1'⟩ := int_bd x1
  obtain ⟨y2, y2'⟩ := int_bd x2
  obtain ⟨y3, y3'⟩ := int_bd x3
  by_cases hm : max a0 b0 < min a1 b1
  · have e := minus_meets a0 a1 b0 b1 hm
    by_cases h1 : a0 < b0 <;> by_cases h2 : b1 < a1
    · rw [addS, if_neg (by rw [emp_f h2]; decide), addS, if_neg (by rw [emp_f h1]; decide)] at e
      exact leaves_2 a0 a1 b0 b1 n a0 b0 b1 a1 _ _ _ _ w (minus_as e) (has_as rfl) (has_as rfl) (has_as rfl) (has_as (inS_f (by omega))) (has_as (inS_f (by omega))) (has_as rfl) (has_as (inS_f (by omega))) (has_as (inS_f (by omega)))
        (ris2 _ _ _ _ _ _ h1 (by omega) (by omega) h2 (by omega) (by omega) (by omega)) (by rw [Bool.eq_iff_iff]; simp [inS]; omega) (by simp; omega) (wrap_less h1 y0 y2') (wrap_less h2 y3 y1')
    · rw [addS, if_pos (emp_t (by omega)), addS, if_neg (by rw [emp_f h1]; decide)] at e
      exact leaves_1 a0 a1 b0 b1 n a0 b0 _ _ _ w (minus_as e) (has_as rfl) (has_as rfl) (has_as rfl) (has_as (inS_f (by omega))) (has_as (inS_f (by omega)))
        (ris1 _ _ _ _ h1 (by omega) (by omega)) (by rw [Bool.eq_iff_iff]; simp [inS]; omega) (wrap_less h1 y0 y2')
    · rw [addS, if_neg (by rw [emp_f h2]; decide), addS, if_pos (emp_t (by omega))] at e
      exact leaves_1 a0 a1 b0 b1 n b1 a1 _ _ _ w (minus_as e) (has_as rfl) (has_as rfl) (has_as rfl) (has_as (inS_f (by omega))) (has_as (inS_f (by omega)))
        (ris1 _ _ _ _ h2 (by omega) (by omega)) (by rw [Bool.eq_iff_iff]; simp [inS]; omega) (wrap_less h2 y3 y1')
    · rw [addS, if_pos (emp_t (by omega)), addS, if_pos (emp_t (by omega))] at e
      exact leaves_0 a0 a1 b0 b1 n _ _ w (minus_as e) (has_as rfl) (has_as rfl) (ris0 _ _) (by rw [Bool.eq_iff_iff]; simp [inS]; omega)
  · have e := minus_apart a0 a1 b0 b1 (by omega)
    by_cases h1 : a0 < a1
    · rw [addS, if_neg (by rw [emp_f h1]; decide)] at e
      exact leaves_1 a0 a1 b0 b1 n a0 a1 _ _ _ w (minus_as e) (has_as rfl) (has_as rfl) (has_as rfl) (has_as (inS_f (by omega))) (has_as (inS_f (by omega)))
        (ris1 _ _ _ _ h1 (by omega) (by omega)) (by rw [Bool.eq_iff_iff]; simp [inS]; omega) (wrap_less h1 y0 y1')
    · rw [addS, if_pos (emp_t (by omega))] at e
      exact leaves_0 a0 a1 b0 b1 n _ _ w (minus_as e) (has_as rfl) (has_as rfl) (ris0 _ _) (by rw [Bool.eq_iff_iff]; simp [inS]; omega)
end Go.Proofs.Ytbaadohjlinlpaa
