/- What the small calls of package scheme, and the document's own Panels, Fine, answer: for every scheme. -/
import Derived.Test.YtnofncibplgmpaaSchemeSc
import Derived.Test.YtnofncibplgmpaaStepAll
namespace Go.Proofs.Ytnofncibplgmpaa
open Go.RowKit
set_option linter.unusedVariables false

/-- How many panels there are. -/
def panM (c r : Int) : Int := if (sideB c && sideB r) = true then c * r else 0
theorem pan_in {c r : Int} (h : (sideB c && sideB r) = true) : 1 ≤ c * r ∧ c * r ≤ 4096 := by
  rw [Bool.and_eq_true] at h
  have h1 := sideB_true h.1
  have h2 := sideB_true h.2
  have h3 : c * r ≤ 64 * 64 := Int.mul_le_mul h1.2 h2.2 (by omega) (by omega)
  have h4 : 0 < c * r := Int.mul_pos (by omega) (by omega)
  omega

theorem schIsSide_any (n : Int) (w : World) :
    Calls Try.prog 45 #[.int .i64 n] w fun e w' => e = .returned (.bool (sideB n)) ∧ w = w' := by
  have H := Lib.hid fun w => in_any n 1 64 w
  go_enter Try.func45, Try.ntmps45
  go_wp2_with fail
  refine (H.out _).mono ?_
  rintro e w1 ⟨rfl, rfl⟩
  go_wp2
  go_ret
  exact ⟨rfl, rfl⟩

set_option maxHeartbeats 1000000 in
theorem schPanels_any (c r : Int) (a : Option Addr) (n cap : Nat) (w : World) :
    Calls Try.prog 29 #[.agg #[.int .i64 c, .int .i64 r, .slice a n cap]] w fun e w' => e = .returned (.int .i64 (panM c r)) ∧ Below w.heap.size w w' := by
  have K1 := fun w => schIsSide_any c w
  have K2 := fun w => schIsSide_any r w
  have hp : panM c r = if (sideB c && sideB r) = true then c * r else 0 := rfl
  have hi := @pan_in c r
  obtain ⟨q, hq⟩ : ∃ q, c * r = q := ⟨_, rfl⟩
  rw [hq] at hp hi
  generalize panM c r = P at *
  generalize sideB c = x at *
  generalize sideB r = y at *
  have H1 := Lib.hid K1; have H2 := Lib.hid K2
  clear K1 K2
  cases x
  · obtain rfl : P = 0 := by simpa using hp
    clear hp hi
    go_enter Try.func29, Try.ntmps29
    go_wp2_with fail
    refine (H1.out _).mono ?_
    rintro e w1 ⟨rfl, rfl⟩
    go_wp2
    go_ret
    exact ⟨rfl, up_alloc (Below.refl _ _) _⟩
  cases y
  · obtain rfl : P = 0 := by simpa using hp
    clear hp hi
    go_enter Try.func29, Try.ntmps29
    go_wp2_with (first
      | (go_at_call 45; with_reducible refine (H1.out _).mono ?_; rintro e w' ⟨rfl, rfl⟩)
      | (go_at_call 45; with_reducible refine (H2.out _).mono ?_; rintro e w' ⟨rfl, rfl⟩))
    go_ret
    exact ⟨rfl, up_alloc (Below.refl _ _) _⟩
  · obtain rfl : P = q := by simpa using hp
    obtain ⟨q0, q1⟩ := hi rfl
    clear hp
    go_enter Try.func29, Try.ntmps29
    go_wp2_with (first
      | (go_at_call 45; with_reducible refine (H1.out _).mono ?_; rintro e w' ⟨rfl, rfl⟩)
      | (go_at_call 45; with_reducible refine (H2.out _).mono ?_; rintro e w' ⟨rfl, rfl⟩))
    go_ret
    exact ⟨rfl, up_alloc (Below.refl _ _) _⟩

set_option maxHeartbeats 1000000 in
theorem refPanels_any (c r : Int) (a : Option Addr) (n cap : Nat) (w : World) :
    Calls Try.prog 19 #[.agg #[.int .i64 c, .int .i64 r, .slice a n cap]] w fun e w' => e = .returned (.int .i64 (panM c r)) ∧ Below w.heap.size w w' := by
  have K1 := fun w => refIn_any c 1 64 w
  have K2 := fun w => refIn_any r 1 64 w
  have hp : panM c r = if (inB c 1 64 && inB r 1 64) = true then c * r else 0 := rfl
  have hi : (inB c 1 64 && inB r 1 64) = true → _ := @pan_in c r
  obtain ⟨q, hq⟩ : ∃ q, c * r = q := ⟨_, rfl⟩
  rw [hq] at hp hi
  generalize panM c r = P at *
  generalize inB c 1 64 = x at *
  generalize inB r 1 64 = y at *
  have H1 := Lib.hid K1; have H2 := Lib.hid K2
  clear K1 K2
  cases x
  · obtain rfl : P = 0 := by simpa using hp
    clear hp hi
    go_enter Try.func19, Try.ntmps19
    go_wp2_with fail
    refine (H1.out _).mono ?_
    rintro e w1 ⟨rfl, rfl⟩
    go_wp2
    go_ret
    exact ⟨rfl, up_alloc (Below.refl _ _) _⟩
  cases y
  · obtain rfl : P = 0 := by simpa using hp
    clear hp hi
    go_enter Try.func19, Try.ntmps19
    go_wp2_with (first
      | (go_at_call 18; with_reducible refine (H1.out _).mono ?_; rintro e w' ⟨rfl, rfl⟩)
      | (go_at_call 18; with_reducible refine (H2.out _).mono ?_; rintro e w' ⟨rfl, rfl⟩))
    go_ret
    exact ⟨rfl, up_alloc (Below.refl _ _) _⟩
  · obtain rfl : P = q := by simpa using hp
    obtain ⟨q0, q1⟩ := hi rfl
    clear hp
    go_enter Try.func19, Try.ntmps19
    go_wp2_with (first
      | (go_at_call 18; with_reducible refine (H1.out _).mono ?_; rintro e w' ⟨rfl, rfl⟩)
      | (go_at_call 18; with_reducible refine (H2.out _).mono ?_; rintro e w' ⟨rfl, rfl⟩))
    go_ret
    exact ⟨rfl, up_alloc (Below.refl _ _) _⟩

/-- Is a scheme right? -/
def rightM (s : Sc) : Bool := (decide (1 ≤ panM s.c s.r) && decide (panM s.c s.r ≤ 64)) && (decide (s.l.length ≤ 6) && ((allS s.c s.r s.l).2.2 && (((allS s.c s.r s.l).1 == 1) && ((allS s.c s.r s.l).2.1 == 1))))

set_option maxHeartbeats 1000000 in
theorem schRight_core (c r x y p : Int) (z : Bool) (a : Option Addr) (n cap : Nat) (w : World) (u1 u2 u3 u4 : Bool) (e1 : decide ((6 : Int) < (n : Int)) = u1) (e3 : (x == 1) = u3) (e4 : (y == 1) = u4)
    (KP : ∀ w, Calls Try.prog 29 #[.agg #[.int .i64 c, .int .i64 r, .slice a n cap]] w fun e w' => e = .returned (.int .i64 p) ∧ Below w.heap.size w w')
    (KI : ∀ w, Calls Try.prog 28 #[.int .i64 p, .int .i64 1, .int .i64 64] w fun e w' => e = .returned (.bool u2) ∧ w = w')
    (KA : ∀ w1, Below w.heap.size w w1 → Calls Try.prog 30 #[.int .i64 c, .int .i64 r, .slice a n cap] w1 fun e w' => e = .returned (.tuple #[.int .i64 x, .int .i64 y, .bool z]) ∧ Below w1.heap.size w1 w') :
    Calls Try.prog 20 #[.agg #[.int .i64 c, .int .i64 r, .slice a n cap]] w fun e w' => e = .returned (.bool (u2 && (!u1 && (z && (u3 && u4))))) ∧ Below w.heap.size w w' := by
  have HP := Lib.hid KP; have HI := Lib.hid KI; have HA := Lib.hid KA
  clear KP KI KA
  cases u2
  · clear e1 e3 e4
    go_enter Try.func20, Try.ntmps20
    go_wp2_with fail
    refine (HP.out _).mono ?_
    rintro e w1 ⟨rfl, hb⟩
    have B1 := Lib.hid (up_trans (up_alloc (Below.refl _ w) _) hb)
    clear hb
    go_wp2_with fail
    refine (HI.out _).mono ?_
    rintro e w2 ⟨rfl, rfl⟩
    go_wp2
    go_ret
    exact ⟨rfl, B1.out⟩
  cases u1
  · go_enter Try.func20, Try.ntmps20
    go_wp2_with fail
    refine (HP.out _).mono ?_
    rintro e w1 ⟨rfl, hb⟩
    have A := (Bx.new w 24 [.int .i64 c, .int .i64 r, .slice a n cap]).up hb
    have B1 := Lib.hid (up_trans (up_alloc (Below.refl _ w) _) hb)
    clear hb
    have a0 := A.cell 0 rfl; have a1 := A.cell 1 rfl; have a2 := A.cell 2 rfl
    go_wp2_with fail
    refine (HI.out _).mono ?_
    rintro e w2 ⟨rfl, rfl⟩
    go_wp2_with fail
    refine (HA.out _ B1.out).mono ?_
    rintro e w3 ⟨rfl, hb⟩
    have B3 := Lib.hid (up_trans B1.out hb)
    clear hb
    cases z
    · clear e3 e4
      go_wp2
      go_ret
      exact ⟨rfl, B3.out⟩
    cases u3
    · clear e4
      go_wp2
      go_ret
      exact ⟨rfl, B3.out⟩
    · go_wp2
      go_ret
      exact ⟨rfl, B3.out⟩
  · clear e3 e4
    go_enter Try.func20, Try.ntmps20
    go_wp2_with fail
    refine (HP.out _).mono ?_
    rintro e w1 ⟨rfl, hb⟩
    have A := (Bx.new w 24 [.int .i64 c, .int .i64 r, .slice a n cap]).up hb
    have B1 := Lib.hid (up_trans (up_alloc (Below.refl _ w) _) hb)
    clear hb
    have a2 := A.cell 2 rfl
    go_wp2_with fail
    refine (HI.out _).mono ?_
    rintro e w2 ⟨rfl, rfl⟩
    go_wp2
    go_ret
    exact ⟨rfl, B1.out⟩

theorem len6 (n : Nat) : decide ((6 : Int) < (n : Int)) = !decide (n ≤ 6) := by rw [Bool.eq_iff_iff]; simp; omega

/-- The steps of a scheme lie where its slice says. -/
def InL (w : World) (a : Option Addr) (l : List Sp) : Prop := l = [] ∨ ∃ b off, a = some ⟨b, off, none⟩ ∧ InS w b off l
theorem InL.up {w w' : World} {a : Option Addr} {l : List Sp} (h : InL w a l) (hb : Below w.heap.size w w') : InL w' a l := h.imp id fun ⟨b, off, e, h⟩ => ⟨b, off, e, h.up hb⟩

theorem schRight_any (s : Sc) (a : Option Addr) (cap : Nat) (w : World) (hc : s.c ≤ 9223372036854775807) (hr : s.r ≤ 9223372036854775807) (hl : s.l.length ≤ 1000000) (h : InL w a s.l) :
    Calls Try.prog 20 #[.agg #[.int .i64 s.c, .int .i64 s.r, .slice a s.l.length cap]] w fun e w' => e = .returned (.bool (rightM s)) ∧ Below w.heap.size w w' := by
  have K := schRight_core s.c s.r (allS s.c s.r s.l).1 (allS s.c s.r s.l).2.1 (panM s.c s.r) (allS s.c s.r s.l).2.2 a s.l.length cap w _ _ _ _ rfl rfl rfl (fun w => schPanels_any s.c s.r a s.l.length cap w) (fun w => in_any _ 1 64 w) (fun w1 hb => stepAll_any a cap s.c s.r s.l w1 hc hr hl (h.up hb))
  rw [len6, Bool.not_not] at K
  exact K

set_option maxHeartbeats 1000000 in
theorem refFine_core (c r x y p : Int) (z : Bool) (a : Option Addr) (n cap : Nat) (w : World) (u1 u2 u3 u4 : Bool) (e1 : decide ((n : Int) ≤ (6 : Int)) = u1) (e3 : (x == 1) = u3) (e4 : (y == 1) = u4)
    (KP : ∀ w, Calls Try.prog 19 #[.agg #[.int .i64 c, .int .i64 r, .slice a n cap]] w fun e w' => e = .returned (.int .i64 p) ∧ Below w.heap.size w w')
    (KI : ∀ w, Calls Try.prog 18 #[.int .i64 p, .int .i64 1, .int .i64 64] w fun e w' => e = .returned (.bool u2) ∧ w' = w)
    (KA : ∀ w1, Below w.heap.size w w1 → Calls Try.prog 17 #[.int .i64 c, .int .i64 r, .slice a n cap] w1 fun e w' => e = .returned (.tuple #[.int .i64 x, .int .i64 y, .bool z]) ∧ Below w1.heap.size w1 w') :
    Calls Try.prog 11 #[.agg #[.int .i64 c, .int .i64 r, .slice a n cap]] w fun e w' => e = .returned (.bool (u2 && (u1 && (z && (u3 && u4))))) ∧ Below w.heap.size w w' := by
  have HP := Lib.hid KP; have HI := Lib.hid KI; have HA := Lib.hid KA
  clear KP KI KA
  go_enter Try.func11, Try.ntmps11
  go_wp2_with fail
  refine (HA.out _ (up_alloc (Below.refl _ _) _)).mono ?_
  rintro e w1 ⟨rfl, hb⟩
  have A := (Bx.new w 24 [.int .i64 c, .int .i64 r, .slice a n cap]).up hb
  have B1 := Lib.hid (up_trans (up_alloc (Below.refl _ w) _) hb)
  clear hb
  have a0 := A.cell 0 rfl; have a1 := A.cell 1 rfl; have a2 := A.cell 2 rfl
  cases z
  · clear e1 e3 e4
    go_wp2
    go_ret
    exact ⟨by simp, B1.out⟩
  cases u3
  · clear e1 e4
    go_wp2
    go_ret
    exact ⟨by simp, B1.out⟩
  cases u4
  · clear e1
    go_wp2
    go_ret
    exact ⟨by simp, B1.out⟩
  go_wp2_with fail
  refine (HP.out _).mono ?_
  rintro e w2 ⟨rfl, hb⟩
  have A2 := A.up hb
  have B2 := Lib.hid (up_trans B1.out hb)
  clear hb a0 a1 a2
  have a2 := A2.cell 2 rfl
  go_wp2_with fail
  refine (HI.out _).mono ?_
  rintro e w3 ⟨rfl, rfl⟩
  cases u2
  · clear e1
    go_wp2
    go_ret
    exact ⟨by simp, B2.out⟩
  · go_wp2
    go_ret
    exact ⟨by simp, B2.out⟩

theorem len6' (n : Nat) : decide ((n : Int) ≤ (6 : Int)) = decide (n ≤ 6) := by rw [Bool.eq_iff_iff]; simp; omega
theorem refFine_any (s : Sc) (a : Option Addr) (cap : Nat) (w : World) (hc : s.c ≤ 9223372036854775807) (hr : s.r ≤ 9223372036854775807) (hl : s.l.length ≤ 1000000) (h : InL w a s.l) :
    Calls Try.prog 11 #[.agg #[.int .i64 s.c, .int .i64 s.r, .slice a s.l.length cap]] w fun e w' => e = .returned (.bool (rightM s)) ∧ Below w.heap.size w w' := by
  have K := refFine_core s.c s.r (allS s.c s.r s.l).1 (allS s.c s.r s.l).2.1 (panM s.c s.r) (allS s.c s.r s.l).2.2 a s.l.length cap w _ _ _ _ rfl rfl rfl (fun w => refPanels_any s.c s.r a s.l.length cap w) (fun w => refIn_any _ 1 64 w) (fun w1 hb => refAfter_any a cap s.c s.r s.l w1 hc hr hl (h.up hb))
  rw [len6'] at K
  exact K
end Go.Proofs.Ytnofncibplgmpaa
