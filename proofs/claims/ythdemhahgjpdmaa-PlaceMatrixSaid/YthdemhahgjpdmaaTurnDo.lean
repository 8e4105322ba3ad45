/- What turn.Do answers for every number and every point: the point, brought by one of eight ways; numbers turned round go round. -/
import Derived.Test.YthdemhahgjpdmaaTurnCode
namespace Go.Proofs.Ythdemhahgjpdmaa
open Go.RowKit
set_option linter.unusedVariables false

/-- A number turned round: the least int stays. -/
def neg64 (x : Int) : Int := IntKind.i64.wrap (-x)
theorem neg_neg64 (x : Int) (h0 : -9223372036854775808 ≤ x) (h1 : x ≤ 9223372036854775807) : neg64 (neg64 x) = x := by
  unfold neg64
  rw [IntKind.wrap_i64, IntKind.wrap_i64]
  omega
/-- Where the turn r, from 0 to 7, brings x y. -/
def doT (r x y : Int) : Int × Int :=
  if r = 0 then (x, y) else if r = 1 then (neg64 y, x) else if r = 2 then (neg64 x, neg64 y) else if r = 3 then (y, neg64 x)
  else if r = 4 then (neg64 x, y) else if r = 5 then (neg64 y, neg64 x) else if r = 6 then (x, neg64 y) else (y, x)

set_option maxRecDepth 100000 in
set_option maxHeartbeats 1000000 in
theorem do_way (t x y nx ny : Int) (m : Bool) (q : Nat) (hq : q < 4) (w : World) (hx : IntKind.i64.wrap (-x) = nx) (hy : IntKind.i64.wrap (-y) = ny) (hnx : IntKind.i64.wrap (-nx) = x) (hny : IntKind.i64.wrap (-ny) = y)
    (KM : ∀ w, Calls Try.prog 29 #[.int .i64 t] w fun e w' => e = .returned (.bool m) ∧ w' = w)
    (KQ : ∀ w, Calls Try.prog 30 #[.int .i64 t] w fun e w' => e = .returned (.int .i64 (q : Int)) ∧ w' = w) :
    Calls Try.prog 20 #[.int .i64 t, .agg #[.int .i64 x, .int .i64 y]] w fun e w' => e = .returned (.agg #[.int .i64 (doT (if m = true then 4 + q else q) x y).1, .int .i64 (doT (if m = true then 4 + q else q) x y).2]) ∧ Below w.heap.size w w' := by
  have HM := Lib.hid KM; have HQ := Lib.hid KQ
  clear KM KQ
  obtain rfl | rfl | rfl | rfl : q = 0 ∨ q = 1 ∨ q = 2 ∨ q = 3 := by omega
  · cases m
    · have E : Hid (doT 0 x y = (x, y)) := Lib.hid (by subst hx; subst hy; rfl)
      go_enter Try.func20, Try.ntmps20
      go_wp2_with (first
        | (go_at_call 30; refine (HQ.out _).mono ?_; rintro e w' ⟨rfl, rfl⟩)
        | (go_at_call 29; refine (HM.out _).mono ?_; rintro e w' ⟨rfl, rfl⟩))
      refine wp_loop_rounds 1 ?_
      rw [rounds_succ]
      go_wp2
      refine bodyPost_ret (v := .agg #[.int .i64 x, .int .i64 y]) (by simp [results, Try.results20, go_sem]) rfl ⟨?_, ?_⟩
      · show Ending.returned _ = Ending.returned (.agg #[.int .i64 (doT 0 x y).1, .int .i64 (doT 0 x y).2])
        rw [E.out]
      · repeat (first | exact Below.refl _ _ | apply up_alloc | (refine up_set ?_ (by simp) _))
    · have E : Hid (doT 4 x y = (nx, y)) := Lib.hid (by subst hx; subst hy; rfl)
      go_enter Try.func20, Try.ntmps20
      go_wp2_with (first
        | (go_at_call 30; refine (HQ.out _).mono ?_; rintro e w' ⟨rfl, rfl⟩)
        | (go_at_call 29; refine (HM.out _).mono ?_; rintro e w' ⟨rfl, rfl⟩))
      refine wp_loop_rounds 1 ?_
      rw [rounds_succ]
      go_wp2
      refine bodyPost_ret (v := .agg #[.int .i64 nx, .int .i64 y]) (by simp [results, Try.results20, go_sem]) rfl ⟨?_, ?_⟩
      · show Ending.returned _ = Ending.returned (.agg #[.int .i64 (doT 4 x y).1, .int .i64 (doT 4 x y).2])
        rw [E.out]
      · repeat (first | exact Below.refl _ _ | apply up_alloc | (refine up_set ?_ (by simp) _))
  · cases m
    · have E : Hid (doT 1 x y = (ny, x)) := Lib.hid (by subst hx; subst hy; rfl)
      go_enter Try.func20, Try.ntmps20
      go_wp2_with (first
        | (go_at_call 30; refine (HQ.out _).mono ?_; rintro e w' ⟨rfl, rfl⟩)
        | (go_at_call 29; refine (HM.out _).mono ?_; rintro e w' ⟨rfl, rfl⟩))
      refine wp_loop_rounds 2 ?_
      rw [rounds_succ]
      go_wp2
      rw [rounds_succ]
      go_wp2
      refine bodyPost_ret (v := .agg #[.int .i64 ny, .int .i64 x]) (by simp [results, Try.results20, go_sem]) rfl ⟨?_, ?_⟩
      · show Ending.returned _ = Ending.returned (.agg #[.int .i64 (doT 1 x y).1, .int .i64 (doT 1 x y).2])
        rw [E.out]
      · repeat (first | exact Below.refl _ _ | apply up_alloc | (refine up_set ?_ (by simp) _))
    · have E : Hid (doT 5 x y = (ny, nx)) := Lib.hid (by subst hx; subst hy; rfl)
      go_enter Try.func20, Try.ntmps20
      go_wp2_with (first
        | (go_at_call 30; refine (HQ.out _).mono ?_; rintro e w' ⟨rfl, rfl⟩)
        | (go_at_call 29; refine (HM.out _).mono ?_; rintro e w' ⟨rfl, rfl⟩))
      refine wp_loop_rounds 2 ?_
      rw [rounds_succ]
      go_wp2
      rw [rounds_succ]
      go_wp2
      refine bodyPost_ret (v := .agg #[.int .i64 ny, .int .i64 nx]) (by simp [results, Try.results20, go_sem]) rfl ⟨?_, ?_⟩
      · show Ending.returned _ = Ending.returned (.agg #[.int .i64 (doT 5 x y).1, .int .i64 (doT 5 x y).2])
        rw [E.out]
      · repeat (first | exact Below.refl _ _ | apply up_alloc | (refine up_set ?_ (by simp) _))
  · cases m
    · have E : Hid (doT 2 x y = (nx, ny)) := Lib.hid (by subst hx; subst hy; rfl)
      go_enter Try.func20, Try.ntmps20
      go_wp2_with (first
        | (go_at_call 30; refine (HQ.out _).mono ?_; rintro e w' ⟨rfl, rfl⟩)
        | (go_at_call 29; refine (HM.out _).mono ?_; rintro e w' ⟨rfl, rfl⟩))
      refine wp_loop_rounds 3 ?_
      rw [rounds_succ]
      go_wp2
      rw [rounds_succ]
      go_wp2
      rw [rounds_succ]
      go_wp2
      refine bodyPost_ret (v := .agg #[.int .i64 nx, .int .i64 ny]) (by simp [results, Try.results20, go_sem]) rfl ⟨?_, ?_⟩
      · show Ending.returned _ = Ending.returned (.agg #[.int .i64 (doT 2 x y).1, .int .i64 (doT 2 x y).2])
        rw [E.out]
      · repeat (first | exact Below.refl _ _ | apply up_alloc | (refine up_set ?_ (by simp) _))
    · have E : Hid (doT 6 x y = (x, ny)) := Lib.hid (by subst hx; subst hy; rfl)
      go_enter Try.func20, Try.ntmps20
      go_wp2_with (first
        | (go_at_call 30; refine (HQ.out _).mono ?_; rintro e w' ⟨rfl, rfl⟩)
        | (go_at_call 29; refine (HM.out _).mono ?_; rintro e w' ⟨rfl, rfl⟩))
      refine wp_loop_rounds 3 ?_
      rw [rounds_succ]
      go_wp2
      rw [rounds_succ]
      go_wp2
      rw [rounds_succ]
      go_wp2
      refine bodyPost_ret (v := .agg #[.int .i64 x, .int .i64 ny]) (by simp [results, Try.results20, go_sem]) rfl ⟨?_, ?_⟩
      · show Ending.returned _ = Ending.returned (.agg #[.int .i64 (doT 6 x y).1, .int .i64 (doT 6 x y).2])
        rw [E.out]
      · repeat (first | exact Below.refl _ _ | apply up_alloc | (refine up_set ?_ (by simp) _))
  · cases m
    · have E : Hid (doT 3 x y = (y, nx)) := Lib.hid (by subst hx; subst hy; rfl)
      go_enter Try.func20, Try.ntmps20
      go_wp2_with (first
        | (go_at_call 30; refine (HQ.out _).mono ?_; rintro e w' ⟨rfl, rfl⟩)
        | (go_at_call 29; refine (HM.out _).mono ?_; rintro e w' ⟨rfl, rfl⟩))
      refine wp_loop_rounds 4 ?_
      rw [rounds_succ]
      go_wp2
      rw [rounds_succ]
      go_wp2
      rw [rounds_succ]
      go_wp2
      rw [rounds_succ]
      go_wp2
      refine bodyPost_ret (v := .agg #[.int .i64 y, .int .i64 nx]) (by simp [results, Try.results20, go_sem]) rfl ⟨?_, ?_⟩
      · show Ending.returned _ = Ending.returned (.agg #[.int .i64 (doT 3 x y).1, .int .i64 (doT 3 x y).2])
        rw [E.out]
      · repeat (first | exact Below.refl _ _ | apply up_alloc | (refine up_set ?_ (by simp) _))
    · have E : Hid (doT 7 x y = (y, x)) := Lib.hid (by subst hx; subst hy; rfl)
      go_enter Try.func20, Try.ntmps20
      go_wp2_with (first
        | (go_at_call 30; refine (HQ.out _).mono ?_; rintro e w' ⟨rfl, rfl⟩)
        | (go_at_call 29; refine (HM.out _).mono ?_; rintro e w' ⟨rfl, rfl⟩))
      refine wp_loop_rounds 4 ?_
      rw [rounds_succ]
      go_wp2
      rw [rounds_succ]
      go_wp2
      rw [rounds_succ]
      go_wp2
      rw [rounds_succ]
      go_wp2
      refine bodyPost_ret (v := .agg #[.int .i64 y, .int .i64 x]) (by simp [results, Try.results20, go_sem]) rfl ⟨?_, ?_⟩
      · show Ending.returned _ = Ending.returned (.agg #[.int .i64 (doT 7 x y).1, .int .i64 (doT 7 x y).2])
        rw [E.out]
      · repeat (first | exact Below.refl _ _ | apply up_alloc | (refine up_set ?_ (by simp) _))

theorem mir_eq (t : Int) : t % 8 = if mir t = true then 4 + t % 4 else t % 4 := by
  unfold mir
  split
  · rename_i h
    have := of_decide_eq_true h
    omega
  · rename_i h
    have : ¬ 4 ≤ t % 8 := fun k => h (decide_eq_true k)
    omega
theorem do_any (t x y : Int) (w : World) (h0 : -9223372036854775808 ≤ x) (h1 : x ≤ 9223372036854775807) (k0 : -9223372036854775808 ≤ y) (k1 : y ≤ 9223372036854775807) :
    Calls Try.prog 20 #[.int .i64 t, .agg #[.int .i64 x, .int .i64 y]] w fun e w' => e = .returned (.agg #[.int .i64 (doT (t % 8) x y).1, .int .i64 (doT (t % 8) x y).2]) ∧ Below w.heap.size w w' := by
  have hq : ((t % 4).toNat : Int) = t % 4 := by omega
  have := do_way t x y _ _ (mir t) (t % 4).toNat (by omega) w rfl rfl (neg_neg64 x h0 h1) (neg_neg64 y k0 k1) (fun w => mirrors_any t w) (fun w => by rw [hq]; exact quarters_any t w)
  rw [mir_eq]
  rw [hq] at this
  exact this
end Go.Proofs.Ythdemhahgjpdmaa
