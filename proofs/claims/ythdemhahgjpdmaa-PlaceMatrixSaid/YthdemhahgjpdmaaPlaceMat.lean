/- What place's Matrix answers for every place, and Of for every array: the place whose matrix it is, or none. -/
import Derived.Test.YthdemhahgjpdmaaPlaceCode
import Derived.Test.YthdemhahgjpdmaaTurnMath
import Derived.ChangeKeysEq
namespace Go.Proofs.Ythdemhahgjpdmaa
open Go.RowKit
set_option linter.unusedVariables false

set_option maxHeartbeats 400000 in
theorem pmat_core (t X Y a b c d : Int) (w : World)
    (KX : ∀ w, Calls Try.prog 20 #[.int .i64 t, .agg #[.int .i64 1, .int .i64 0]] w fun e w' => e = .returned (.agg #[.int .i64 a, .int .i64 b]) ∧ Below w.heap.size w w')
    (KY : ∀ w, Calls Try.prog 20 #[.int .i64 t, .agg #[.int .i64 0, .int .i64 1]] w fun e w' => e = .returned (.agg #[.int .i64 c, .int .i64 d]) ∧ Below w.heap.size w w') :
    Calls Try.prog 17 #[.agg #[.int .i64 t, .int .i64 X, .int .i64 Y]] w fun e w' => e = .returned (.agg #[.int .i64 a, .int .i64 b, .int .i64 c, .int .i64 d, .int .i64 X, .int .i64 Y]) ∧ Below w.heap.size w w' := by
  have HX := Lib.hid KX; have HY := Lib.hid KY
  clear KX KY
  go_enter Try.func17, Try.ntmps17
  go_wp2_with fail
  refine (HX.out _).mono ?_
  rintro e w1 ⟨rfl, hb⟩
  have AA := ((Bx.new w 23 [.int .i64 t, .int .i64 X, .int .i64 Y]).alloc (.cells #[.int .i64 0, .int .i64 0, .int .i64 0, .int .i64 0, .int .i64 0, .int .i64 0] 37)).up hb
  have R := (Bx.new (w.alloc (.cells #[.int .i64 t, .int .i64 X, .int .i64 Y] 23)) 37 [.int .i64 0, .int .i64 0, .int .i64 0, .int .i64 0, .int .i64 0, .int .i64 0]).up hb
  simp only [World.size_alloc] at R
  have B1 := Lib.hid (up_trans (up_alloc (up_alloc (Below.refl _ w) _) _) hb)
  clear hb
  have A' := AA.alloc (.cells #[.int .i64 a, .int .i64 b] 25)
  have R' := R.alloc (.cells #[.int .i64 a, .int .i64 b] 25)
  have P' := Bx.new w1 25 [.int .i64 a, .int .i64 b]
  have a0 := A'.cell 0 rfl
  clear AA R
  go_wp2_with fail
  refine (HY.out _).mono ?_
  rintro e w2 ⟨rfl, hb⟩
  have A2 := (A'.up hb).alloc (.cells #[.int .i64 c, .int .i64 d] 25)
  have P2 := (P'.up hb).alloc (.cells #[.int .i64 c, .int .i64 d] 25)
  have R2 := (R'.up hb).alloc (.cells #[.int .i64 c, .int .i64 d] 25)
  have B9 := up_trans (up_alloc B1.out _) hb
  clear hb R' P' A' a0
  have a1 := A2.cell 1 rfl; have a2 := A2.cell 2 rfl; have p0 := P2.cell 0 rfl; have p1 := P2.cell 1 rfl
  have r0 := R2.cell 0 rfl; have r1 := R2.cell 1 rfl; have r2 := R2.cell 2 rfl; have r3 := R2.cell 3 rfl; have r4 := R2.cell 4 rfl; have r5 := R2.cell 5 rfl; have rf := R2.free
  clear R2 P2 A2
  go_wp2
  refine bodyPost_ret (v := .agg #[.int .i64 a, .int .i64 b, .int .i64 c, .int .i64 d, .int .i64 X, .int .i64 Y]) (by simp [results, Try.results17, go_sem, r0, r1, r2, r3, r4, r5]) rfl ⟨rfl, ?_⟩
  repeat (first | (with_reducible exact B9) | (with_reducible apply up_alloc) | (with_reducible refine up_set ?_ (by simp only; omega) _))
theorem mx_axes (i : Fin 8) : doT (i.val : Int) 1 0 = ((mx (i.val : Int)).a, (mx (i.val : Int)).b) ∧ doT (i.val : Int) 0 1 = ((mx (i.val : Int)).c, (mx (i.val : Int)).d) := by
  have : ∀ i : Fin 8, doT (i.val : Int) 1 0 = ((mx (i.val : Int)).a, (mx (i.val : Int)).b) ∧ doT (i.val : Int) 0 1 = ((mx (i.val : Int)).c, (mx (i.val : Int)).d) := by decide +kernel
  exact this i
theorem pmat_any (t X Y : Int) (w : World) :
    Calls Try.prog 17 #[.agg #[.int .i64 t, .int .i64 X, .int .i64 Y]] w fun e w' => e = .returned (.agg #[.int .i64 (mx (t % 8)).a, .int .i64 (mx (t % 8)).b, .int .i64 (mx (t % 8)).c, .int .i64 (mx (t % 8)).d, .int .i64 X, .int .i64 Y]) ∧ Below w.heap.size w w' := by
  obtain ⟨i, hi⟩ := fin8 t
  obtain ⟨e1, e2⟩ := mx_axes i
  rw [hi]
  refine pmat_core t X Y _ _ _ _ w ?_ ?_
  · intro w; have := do_any t 1 0 w (by decide) (by decide) (by decide) (by decide); rwa [hi, e1] at this
  · intro w; have := do_any t 0 1 w (by decide) (by decide) (by decide) (by decide); rwa [hi, e2] at this

theorem run_same6 (a b c d a' b' c' d' X Y : Int) (w : World) : (binOp .eql 37 (.agg #[.int .i64 a, .int .i64 b, .int .i64 c, .int .i64 d, .int .i64 X, .int .i64 Y]) (.agg #[.int .i64 a', .int .i64 b', .int .i64 c', .int .i64 d', .int .i64 X, .int .i64 Y])).run Try.prog w = .ok (.bool (same4 a b c d a' b' c' d')) w := by
  obtain ⟨i, hi⟩ := Option.isSome_iff_exists.1 (show (Try.prog.info? 3).isSome = true by kernel_rfl)
  rw [run_eql_struct, run_equalIn_array w 9999 _ _ Try.underlying37 hi, show Try.prog.cellsOf 3 = 1 by kernel_rfl]
  by_cases h0 : a = a' <;> by_cases h1 : b = b' <;> by_cases h2 : c = c' <;> by_cases h3 : d = d'
  all_goals simp [go_sem, Op.eqItems, List.range, List.range.loop, same4, h0, h1, h2, h3]
set_option maxRecDepth 100000 in
set_option maxHeartbeats 400000 in
theorem pof_core (k : Nat) (hk : k ≤ 8) (a b c d X Y : Int) (w : World) (hE : ∀ j : Nat, j < 8 → same4 (mx (j : Int)).a (mx (j : Int)).b (mx (j : Int)).c (mx (j : Int)).d a b c d = decide (j = k)) :
    Calls Try.prog 18 #[.agg #[.int .i64 a, .int .i64 b, .int .i64 c, .int .i64 d, .int .i64 X, .int .i64 Y]] w fun e w' => e = .returned (.tuple (if k < 8 then #[.agg #[.int .i64 (k : Int), .int .i64 X, .int .i64 Y], .bool true] else #[.agg #[.int .i64 0, .int .i64 0, .int .i64 0], .bool false])) ∧ Below w.heap.size w w' := by
  have HE := Lib.hid hE
  clear hE
  go_enter Try.func18, Try.ntmps18
  go_wp2_with fail
  have M := ((Bx.new w 37 [.int .i64 a, .int .i64 b, .int .i64 c, .int .i64 d, .int .i64 X, .int .i64 Y]).alloc (.cells #[.int .i64 0, .int .i64 0, .int .i64 0] 23)).alloc (.cells #[.int .i64 X, .int .i64 Y] 25)
  have R := (Bx.new (w.alloc (.cells #[.int .i64 a, .int .i64 b, .int .i64 c, .int .i64 d, .int .i64 X, .int .i64 Y] 37)) 23 [.int .i64 0, .int .i64 0, .int .i64 0]).alloc (.cells #[.int .i64 X, .int .i64 Y] 25)
  have Wy := Bx.new ((w.alloc (.cells #[.int .i64 a, .int .i64 b, .int .i64 c, .int .i64 d, .int .i64 X, .int .i64 Y] 37)).alloc (.cells #[.int .i64 0, .int .i64 0, .int .i64 0] 23)) 25 [.int .i64 X, .int .i64 Y]
  simp only [World.size_alloc] at R Wy
  have B1 := up_alloc (up_alloc (up_alloc (Below.refl _ w) (.cells #[.int .i64 a, .int .i64 b, .int .i64 c, .int .i64 d, .int .i64 X, .int .i64 Y] 37)) (.cells #[.int .i64 0, .int .i64 0, .int .i64 0] 23)) (.cells #[.int .i64 X, .int .i64 Y] 25)
  generalize ((w.alloc (.cells #[.int .i64 a, .int .i64 b, .int .i64 c, .int .i64 d, .int .i64 X, .int .i64 Y] 37)).alloc (.cells #[.int .i64 0, .int .i64 0, .int .i64 0] 23)).alloc (.cells #[.int .i64 X, .int .i64 Y] 25) = w1 at *
  have HB := Lib.hid B1; clear B1
  go_loopw [12] (fun t wr => TurnRel k w1 t wr) (fun t _ => 8 - (intOf t).toNat)
  case atStart => exact ⟨0, by omega, by go_num, ⟨w1, Below.refl _ _⟩, rfl⟩
  case round =>
    obtain ⟨j, hj, rfl, u, rfl⟩ := hrel
    by_cases hj8 : j < 8
    · have j8 : (j : Int) < 8 := by omega
      have K := fun w => pmat_any (j : Int) X Y w
      rw [show (j : Int) % 8 = (j : Int) by omega] at K
      have hE := HE.out j hj8
      generalize mx (j : Int) = n at *
      obtain ⟨a', b', c', d'⟩ := n
      simp only at hE K
      have q := fun w => run_same6 a' b' c' d' a b c d X Y w
      rw [hE] at q
      have HK := Lib.hid K
      clear K hE
      have W2 := Wy.up u.up
      have y0 := W2.cell 0 rfl; have y1 := W2.cell 1 rfl
      clear W2
      go_wp2_with fail
      refine (with_any _ _ _ _).mono ?_
      rintro e w2 ⟨rfl, hb⟩
      have hu := up_trans u.up hb
      clear y0 y1 hb
      go_wp2_with fail
      have M2 := (M.up hu).alloc (.cells #[.int .i64 (j : Int), .int .i64 X, .int .i64 Y] 23)
      have R2 := (R.up hu).alloc (.cells #[.int .i64 (j : Int), .int .i64 X, .int .i64 Y] 23)
      have A2 := Bx.new w2 23 [.int .i64 (j : Int), .int .i64 X, .int .i64 Y]
      have hu2 := up_alloc hu (.cells #[.int .i64 (j : Int), .int .i64 X, .int .i64 Y] 23)
      generalize w2.alloc (.cells #[.int .i64 (j : Int), .int .i64 X, .int .i64 Y] 23) = w3 at *
      have HU := Lib.hid hu2
      clear hu hu2
      have m0 := fun v : Later w3 => v.cell (M2.cell 0 rfl); have m1 := fun v : Later w3 => v.cell (M2.cell 1 rfl); have m2 := fun v : Later w3 => v.cell (M2.cell 2 rfl)
      have m3 := fun v : Later w3 => v.cell (M2.cell 3 rfl); have m4 := fun v : Later w3 => v.cell (M2.cell 4 rfl); have m5 := fun v : Later w3 => v.cell (M2.cell 5 rfl)
      have a0 := fun v : Later w3 => v.cell (A2.cell 0 rfl); have a1 := fun v : Later w3 => v.cell (A2.cell 1 rfl); have a2 := fun v : Later w3 => v.cell (A2.cell 2 rfl)
      clear M2
      by_cases hjk : j = k
      · subst hjk
        simp only [decide_true] at q
        refine later_start (w := w3) ?_
        intro v
        refine wp_region_later (by kernel_rfl) (by kernel_rfl) ?_
        repeat (go_big_quiet_step ((go_at_call 17; with_reducible exact Later.call (HK.out _))))
        refine wpQuiet_nil ?_
        rintro _ ⟨v2, rfl⟩
        clear m0 m1 m2 m3 m4 m5 a0 a1 a2
        have A3 := A2.up v2.up; have R3 := R2.up v2.up
        have B9 := up_trans HB.out (up_trans HU.out v2.up)
        have a0 := A3.cell 0 rfl; have a1 := A3.cell 1 rfl; have a2 := A3.cell 2 rfl
        have r0 := R3.cell 0 rfl; have r1 := R3.cell 1 rfl; have r2 := R3.cell 2 rfl; have rf := R3.free
        clear A3 R3 A2 R2
        generalize v2.now = w4 at *
        go_wp2
        refine bodyPost_ret (v := .tuple #[.agg #[.int .i64 (j : Int), .int .i64 X, .int .i64 Y], .bool true]) (by simp [results, Try.results18, go_sem, r0, r1, r2]) rfl ⟨rfl, ?_⟩
        repeat (first | (with_reducible exact B9) | (with_reducible apply up_alloc) | (with_reducible refine up_set ?_ (by simp only; omega) _))
      · simp only [hjk, decide_false] at q
        refine later_start (w := w3) ?_
        intro v
        refine wp_region_later (by kernel_rfl) (by kernel_rfl) ?_
        repeat (go_big_quiet_step ((go_at_call 17; with_reducible exact Later.call (HK.out _))))
        refine wpQuiet_nil ?_
        rintro _ ⟨v2, rfl⟩
        go_wp2_with fail
        go_roundw
        case rel => exact ⟨j + 1, by omega, by go_num, ⟨v2.now, up_trans HU.out v2.up⟩, rfl⟩
        case measure => simp [intOf]; omega
    · obtain rfl : j = 8 := by omega
      have R3 := R.up u.up
      have r0 := R3.cell 0 rfl; have r1 := R3.cell 1 rfl; have r2 := R3.cell 2 rfl; have rf := R3.free
      have B9 := up_trans HB.out u.up
      generalize u.now = w4 at *
      go_wp2
      refine bodyPost_ret (v := .tuple #[.agg #[.int .i64 0, .int .i64 0, .int .i64 0], .bool false]) (by simp [results, Try.results18, go_sem, r0, r1, r2]) rfl ⟨rfl, ?_⟩
      repeat (first | (with_reducible exact B9) | (with_reducible apply up_alloc) | (with_reducible refine up_set ?_ (by simp only; omega) _))
theorem pof_yes (k : Nat) (hk : k < 8) (X Y : Int) (w : World) :
    Calls Try.prog 18 #[.agg #[.int .i64 (mx (k : Int)).a, .int .i64 (mx (k : Int)).b, .int .i64 (mx (k : Int)).c, .int .i64 (mx (k : Int)).d, .int .i64 X, .int .i64 Y]] w fun e w' => e = .returned (.tuple #[.agg #[.int .i64 (k : Int), .int .i64 X, .int .i64 Y], .bool true]) ∧ Below w.heap.size w w' := by
  have := pof_core k (by omega) (mx (k : Int)).a (mx (k : Int)).b (mx (k : Int)).c (mx (k : Int)).d X Y w (fun j hj => mx_apart j k hj hk)
  rwa [if_pos hk] at this
theorem pof_no (a b c d X Y : Int) (w : World) (h : ∀ j : Nat, j < 8 → same4 (mx (j : Int)).a (mx (j : Int)).b (mx (j : Int)).c (mx (j : Int)).d a b c d = false) :
    Calls Try.prog 18 #[.agg #[.int .i64 a, .int .i64 b, .int .i64 c, .int .i64 d, .int .i64 X, .int .i64 Y]] w fun e w' => e = .returned (.tuple #[.agg #[.int .i64 0, .int .i64 0, .int .i64 0], .bool false]) ∧ Below w.heap.size w w' := by
  have := pof_core 8 (by omega) a b c d X Y w (fun j hj => by rw [h j hj]; simp; omega)
  rwa [if_neg (by omega)] at this
/-- Is it a turn's matrix? Of which one? -/
theorem turn_or_none (a b c d : Int) : (∃ k : Nat, k < 8 ∧ mx (k : Int) = ⟨a, b, c, d⟩) ∨ ∀ j : Nat, j < 8 → same4 (mx (j : Int)).a (mx (j : Int)).b (mx (j : Int)).c (mx (j : Int)).d a b c d = false := by
  by_cases h : ∃ k : Nat, k < 8 ∧ mx (k : Int) = ⟨a, b, c, d⟩
  · exact .inl h
  · refine .inr fun j hj => ?_
    cases e : same4 (mx (j : Int)).a (mx (j : Int)).b (mx (j : Int)).c (mx (j : Int)).d a b c d with
    | false => rfl
    | true =>
      refine absurd ⟨j, hj, ?_⟩ h
      simp only [same4, Bool.and_eq_true, beq_iff_eq] at e
      obtain ⟨⟨⟨e1, e2⟩, e3⟩, e4⟩ := e
      generalize mx (j : Int) = n at *
      obtain ⟨a', b', c', d'⟩ := n
      simp only at e1 e2 e3 e4
      rw [e1, e2, e3, e4]
set_option maxRecDepth 100000 in
set_option maxHeartbeats 400000 in
theorem refTurn_no (a b c d : Int) (w : World) (hE : ∀ j : Nat, j < 8 → same4 (mx (j : Int)).a (mx (j : Int)).b (mx (j : Int)).c (mx (j : Int)).d a b c d = false) :
    Calls Try.prog 19 #[.agg #[.int .i64 a, .int .i64 b, .int .i64 c, .int .i64 d]] w fun e w' => e = .returned (.int .i64 (-1)) ∧ Below w.heap.size w w' := by
  have HE := Lib.hid hE
  clear hE
  go_enter Try.func19, Try.ntmps19
  go_wp2_with fail
  have R := Bx.new w 43 [.int .i64 a, .int .i64 b, .int .i64 c, .int .i64 d]
  have HU := up_alloc (Below.refl w.heap.size w) (.cells #[.int .i64 a, .int .i64 b, .int .i64 c, .int .i64 d] 43)
  generalize w.alloc (.cells #[.int .i64 a, .int .i64 b, .int .i64 c, .int .i64 d] 43) = w1 at *
  have HB := Lib.hid HU
  clear HU
  have j0 := fun u : Later w1 => u.cell (R.cell 0 rfl); have j1 := fun u : Later w1 => u.cell (R.cell 1 rfl); have j2 := fun u : Later w1 => u.cell (R.cell 2 rfl); have j3 := fun u : Later w1 => u.cell (R.cell 3 rfl)
  clear R
  go_loopw [3] (fun t wr => TurnRel 8 w1 t wr) (fun t _ => 8 - (intOf t).toNat)
  case atStart => exact ⟨0, by omega, by go_num, ⟨w1, Below.refl _ _⟩, rfl⟩
  case round =>
    obtain ⟨j, hj, rfl, u, rfl⟩ := hrel
    by_cases hj8 : j < 8
    · have j8 : (j : Int) < 8 := by omega
      have K := fun w => refOf_any (j : Int) w
      rw [show (j : Int) % 8 = (j : Int) by omega] at K
      have hE := HE.out j hj8
      generalize mx (j : Int) = n at *
      obtain ⟨a', b', c', d'⟩ := n
      simp only at hE K
      have q := fun w => run_sameM a' b' c' d' a b c d w
      rw [hE] at q
      have HK := Lib.hid K
      clear K hE
      go_wp2_with fail
      refine wp_region_later (by kernel_rfl) (by kernel_rfl) ?_
      repeat (go_big_quiet_step ((go_at_call 22; with_reducible exact Later.call (HK.out _))))
      refine wpQuiet_nil ?_
      rintro _ ⟨u2, rfl⟩
      go_wp2_with fail
      go_roundw
      case rel => exact ⟨j + 1, by omega, by go_num, u2, rfl⟩
      case measure => simp [intOf]; omega
    · obtain rfl : j = 8 := by omega
      have B9 := up_trans HB.out u.up
      generalize u.now = w4 at *
      clear j0 j1 j2 j3
      go_wp2
      go_ret
      exact ⟨rfl, B9⟩
end Go.Proofs.Ythdemhahgjpdmaa
