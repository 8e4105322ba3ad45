/- The law TurnGroup answers true for every three numbers, where the library's table of powers is as the program's text lays it: turns are a group: one behind another one is one, and each is undone. -/
import Derived.Test.YtppifnglkjcclaaDoorTurnAlive
import Derived.Test.YtppifnglkjcclaaDoorTurnLaid
import Derived.Test.YtppifnglkjcclaaDoorTurnMat
import Derived.RowKit3
import Derived.OpenShut
namespace Go.Proofs.YtppifnglkjcclaaDoor
open Go.RowKit
set_option linter.unusedVariables false

set_option maxRecDepth 100000 in
set_option maxHeartbeats 2000000 in
theorem group_core (a b c r s v k q : Int) (A B M : Mx) (w : World) (hg : Tab w) (hq : bits .and .i64 a 7 = q) (k0 : 0 ≤ k) (k7 : k ≤ 7)
    (K1 : ∀ w, Calls Tryd.prog 12 #[.int .i64 a, .int .i64 b] w fun e w' => e = .returned (.int .i64 r) ∧ w' = w)
    (K2 : ∀ w, Calls Tryd.prog 12 #[.int .i64 r, .int .i64 c] w fun e w' => e = .returned (.int .i64 s) ∧ w' = w)
    (K3 : ∀ w, Calls Tryd.prog 12 #[.int .i64 b, .int .i64 c] w fun e w' => e = .returned (.int .i64 v) ∧ w' = w)
    (K4 : ∀ w, Calls Tryd.prog 12 #[.int .i64 a, .int .i64 v] w fun e w' => e = .returned (.int .i64 s) ∧ w' = w)
    (K5 : ∀ w, Calls Tryd.prog 12 #[.int .i64 a, .int .i64 k] w fun e w' => e = .returned (.int .i64 0) ∧ w' = w)
    (K6 : ∀ w, Calls Tryd.prog 12 #[.int .i64 k, .int .i64 a] w fun e w' => e = .returned (.int .i64 0) ∧ w' = w)
    (K7 : ∀ w, Calls Tryd.prog 12 #[.int .i64 0, .int .i64 a] w fun e w' => e = .returned (.int .i64 q) ∧ w' = w)
    (K8 : ∀ w, Calls Tryd.prog 12 #[.int .i64 a, .int .i64 0] w fun e w' => e = .returned (.int .i64 q) ∧ w' = w)
    (KB : ∀ w, Calls Tryd.prog 15 #[.int .i64 a] w fun e w' => e = .returned (.int .i64 k) ∧ w' = w)
    (OA : ∀ w, Calls Tryd.prog 7 #[.int .i64 a] w fun e w' => e = .returned (.agg #[.int .i64 A.a, .int .i64 A.b, .int .i64 A.c, .int .i64 A.d]) ∧ Below w.heap.size w w')
    (OB : ∀ w, Calls Tryd.prog 7 #[.int .i64 b] w fun e w' => e = .returned (.agg #[.int .i64 B.a, .int .i64 B.b, .int .i64 B.c, .int .i64 B.d]) ∧ Below w.heap.size w w')
    (MT : ∀ w, Calls Tryd.prog 14 #[.agg #[.int .i64 A.a, .int .i64 A.b, .int .i64 A.c, .int .i64 A.d], .agg #[.int .i64 B.a, .int .i64 B.b, .int .i64 B.c, .int .i64 B.d]] w fun e w' => e = .returned (.agg #[.int .i64 M.a, .int .i64 M.b, .int .i64 M.c, .int .i64 M.d]) ∧ Below w.heap.size w w')
    (MR : ∀ w, Calls Tryd.prog 13 #[.agg #[.int .i64 M.a, .int .i64 M.b, .int .i64 M.c, .int .i64 M.d]] w fun e w' => e = .returned (.int .i64 r) ∧ Below w.heap.size w w') :
    Calls Tryd.prog 4 #[.int .i64 a, .int .i64 b, .int .i64 c] w fun e w' => e = .returned (.bool true) ∧ Below w.heap.size w w' := by
  have H1 := Lib.hid K1; have H2 := Lib.hid K2; have H3 := Lib.hid K3; have H4 := Lib.hid K4; have H5 := Lib.hid K5; have H6 := Lib.hid K6; have H7 := Lib.hid K7; have H8 := Lib.hid K8
  have HB := Lib.hid KB; have HOA := Lib.hid OA; have HOB := Lib.hid OB; have HT := Lib.hid MT; have HR := Lib.hid MR; have G := Lib.hid hg
  clear K1 K2 K3 K4 K5 K6 K7 K8 KB OA OB MT MR hg
  go_enter Tryd.func4, Tryd.ntmps4
  go_wp2_with fail
  refine (alive_any _ G.out).mono ?_
  rintro e w1 ⟨rfl, hb⟩
  have B1 := Lib.hid hb; clear hb
  go_wp2_with fail
  refine (H1.out _).mono ?_
  rintro e w' ⟨rfl, rfl⟩
  go_wp2_with fail
  refine (HOA.out _).mono ?_
  rintro e w2 ⟨rfl, hb⟩
  have B2 := Lib.hid (up_trans B1.out hb); clear hb
  go_wp2_with fail
  refine (HOB.out _).mono ?_
  rintro e w3 ⟨rfl, hb⟩
  have B3 := Lib.hid (up_trans B2.out hb); clear hb
  go_wp2_with fail
  refine (HT.out _).mono ?_
  rintro e w4 ⟨rfl, hb⟩
  have B4 := Lib.hid (up_trans B3.out hb); clear hb
  go_wp2_with fail
  refine (HR.out _).mono ?_
  rintro e w5 ⟨rfl, hb⟩
  have B5 := Lib.hid (up_trans B4.out hb); clear hb
  go_wp2_with fail
  refine (H2.out _).mono ?_
  rintro e w' ⟨rfl, rfl⟩
  go_wp2_with fail
  refine (H3.out _).mono ?_
  rintro e w' ⟨rfl, rfl⟩
  go_wp2_with fail
  refine (H4.out _).mono ?_
  rintro e w' ⟨rfl, rfl⟩
  go_wp2_with fail
  refine (HB.out _).mono ?_
  rintro e w' ⟨rfl, rfl⟩
  go_wp2_with fail
  refine (H5.out _).mono ?_
  rintro e w' ⟨rfl, rfl⟩
  go_wp2_with fail
  refine (H6.out _).mono ?_
  rintro e w' ⟨rfl, rfl⟩
  go_wp2_with fail
  refine (H7.out _).mono ?_
  rintro e w' ⟨rfl, rfl⟩
  go_wp2_with fail
  refine (H8.out _).mono ?_
  rintro e w' ⟨rfl, rfl⟩
  go_wp2
  go_ret
  exact ⟨rfl, B5.out⟩

theorem mir_mod (t : Int) : mir (t % 8) = mir t := by unfold mir; rw [show t % 8 % 8 = t % 8 by omega]
theorem then_mod (a b : Int) : thenT a b = thenT (a % 8) (b % 8) := by
  unfold thenT
  rw [mir_mod, mir_mod, rem4, rem4]
theorem back_mod (a : Int) : backT a = backT (a % 8) := by
  unfold backT
  rw [mir_mod, rem4, show a % 8 % 8 = a % 8 by omega]
theorem fin8 (a : Int) : ∃ i : Fin 8, a % 8 = (i.val : Int) := ⟨⟨(a % 8).toNat, by omega⟩, by simp; omega⟩
theorem then_in (i j : Fin 8) : 0 ≤ thenT (i.val : Int) (j.val : Int) ∧ thenT (i.val : Int) (j.val : Int) ≤ 7 := by
  have : ∀ i j : Fin 8, 0 ≤ thenT (i.val : Int) (j.val : Int) ∧ thenT (i.val : Int) (j.val : Int) ≤ 7 := by decide +kernel
  exact this i j
theorem then_three (i j k : Fin 8) : thenT (thenT (i.val : Int) (j.val : Int)) (k.val : Int) = thenT (i.val : Int) (thenT (j.val : Int) (k.val : Int)) := by
  have : ∀ i j k : Fin 8, thenT (thenT (i.val : Int) (j.val : Int)) (k.val : Int) = thenT (i.val : Int) (thenT (j.val : Int) (k.val : Int)) := by decide +kernel
  exact this i j k
theorem then_back (i : Fin 8) : (0 ≤ backT (i.val : Int) ∧ backT (i.val : Int) ≤ 7) ∧ thenT (i.val : Int) (backT (i.val : Int)) = 0 ∧ thenT (backT (i.val : Int)) (i.val : Int) = 0 ∧ thenT 0 (i.val : Int) = (i.val : Int) ∧ thenT (i.val : Int) 0 = (i.val : Int) := by
  have : ∀ i : Fin 8, (0 ≤ backT (i.val : Int) ∧ backT (i.val : Int) ≤ 7) ∧ thenT (i.val : Int) (backT (i.val : Int)) = 0 ∧ thenT (backT (i.val : Int)) (i.val : Int) = 0 ∧ thenT 0 (i.val : Int) = (i.val : Int) ∧ thenT (i.val : Int) 0 = (i.val : Int) := by decide +kernel
  exact this i
theorem mat_then (i j : Fin 8) : mthen (mx (i.val : Int)) (mx (j.val : Int)) = mx (thenT (i.val : Int) (j.val : Int)) := by
  have : ∀ i j : Fin 8, (mthen (mx (i.val : Int)) (mx (j.val : Int))).a = (mx (thenT (i.val : Int) (j.val : Int))).a ∧ (mthen (mx (i.val : Int)) (mx (j.val : Int))).b = (mx (thenT (i.val : Int) (j.val : Int))).b ∧ (mthen (mx (i.val : Int)) (mx (j.val : Int))).c = (mx (thenT (i.val : Int) (j.val : Int))).c ∧ (mthen (mx (i.val : Int)) (mx (j.val : Int))).d = (mx (thenT (i.val : Int) (j.val : Int))).d := by decide +kernel
  obtain ⟨h1, h2, h3, h4⟩ := this i j
  generalize mthen (mx (i.val : Int)) (mx (j.val : Int)) = P at *
  generalize mx (thenT (i.val : Int) (j.val : Int)) = Q at *
  obtain ⟨a, b, c, d⟩ := P
  obtain ⟨a', b', c', d'⟩ := Q
  simp only at h1 h2 h3 h4
  rw [h1, h2, h3, h4]

theorem walkTurnGroup (a b c : Int) (h0 : (Lit.int .i64 a).wf = true) (h1 : (Lit.int .i64 b).wf = true) (h2 : (Lit.int .i64 c).wf = true) (w : World) (hg : Tab w) :
    Calls Tryd.prog 4 #[.int .i64 a, .int .i64 b, .int .i64 c] w fun e w' => e = .returned (.bool true) ∧ Below w.heap.size w w' := by
  obtain ⟨i, hi⟩ := fin8 a
  obtain ⟨j, hj⟩ := fin8 b
  obtain ⟨l, hl⟩ := fin8 c
  obtain ⟨⟨k0, k7⟩, e5, e6, e7, e8⟩ := then_back i
  obtain ⟨r0, r7⟩ := then_in i j
  obtain ⟨v0, v7⟩ := then_in j l
  have s7 : ∀ x : Int, 0 ≤ x → x ≤ 7 → x % 8 = x := fun x _ _ => by omega
  refine group_core a b c (thenT (i.val : Int) (j.val : Int)) (thenT (thenT (i.val : Int) (j.val : Int)) (l.val : Int)) (thenT (j.val : Int) (l.val : Int)) (backT (i.val : Int)) (i.val : Int) (mx (i.val : Int)) (mx (j.val : Int)) (mthen (mx (i.val : Int)) (mx (j.val : Int))) w hg (by rw [and7, hi]) k0 k7 ?_ ?_ ?_ ?_ ?_ ?_ ?_ ?_ ?_ ?_ ?_ ?_ ?_
  · intro w; have := then_any a b w; rwa [then_mod, hi, hj] at this
  · intro w; have := then_any (thenT (i.val : Int) (j.val : Int)) c w; rwa [then_mod _ c, hl, s7 _ r0 r7] at this
  · intro w; have := then_any b c w; rwa [then_mod, hj, hl] at this
  · intro w; have := then_any a (thenT (j.val : Int) (l.val : Int)) w; rwa [then_mod a, hi, s7 _ v0 v7, ← then_three] at this
  · intro w; have := then_any a (backT (i.val : Int)) w; rwa [then_mod a, hi, s7 _ k0 k7, e5] at this
  · intro w; have := then_any (backT (i.val : Int)) a w; rwa [then_mod _ a, hi, s7 _ k0 k7, e6] at this
  · intro w; have := then_any 0 a w; rwa [then_mod 0 a, hi, s7 0 (by decide) (by decide), e7] at this
  · intro w; have := then_any a 0 w; rwa [then_mod a 0, hi, s7 0 (by decide) (by decide), e8] at this
  · intro w; have := back_any a w; rwa [back_mod, hi] at this
  · intro w; have := refOf_any a w; rwa [hi] at this
  · intro w; have := refOf_any b w; rwa [hj] at this
  · intro w; exact refThen_any _ _ w
  · intro w
    have e : (((thenT (i.val : Int) (j.val : Int)).toNat : Nat) : Int) = thenT (i.val : Int) (j.val : Int) := by omega
    have := refTurn_yes (thenT (i.val : Int) (j.val : Int)).toNat (by omega) w
    rw [mat_then]
    rwa [e] at this
end Go.Proofs.YtppifnglkjcclaaDoor
