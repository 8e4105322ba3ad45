/- What the small calls of package step answer, and After: for every step and every number of columns and rows. -/
import Derived.Test.YtnofncibplgmpaaNumIn
import Derived.Test.YtnofncibplgmpaaRefIn
import Derived.Test.YtnofncibplgmpaaBoxes
import Derived.Lib.Hide
import Derived.OwnWalk
namespace Go.Proofs.Ytnofncibplgmpaa
open Go.RowKit
set_option linter.unusedVariables false

/-- May the step of this side and this number be? -/
def rightB (d n : Int) : Bool := (decide (1 ≤ d) && decide (d ≤ 4)) && (decide (1 ≤ n) && decide (n ≤ 64))
theorem rightB_true {d n : Int} (h : rightB d n = true) : (1 ≤ d ∧ d ≤ 4) ∧ 1 ≤ n ∧ n ≤ 64 := by simpa [rightB] using h

theorem stepRight_any (d n : Int) (u : Bool) (w : World) :
    Calls Try.prog 56 #[.agg #[.int .i64 d, .int .i64 n, .bool u]] w fun e w' => e = .returned (.bool (rightB d n)) ∧ Below w.heap.size w w' := by
  have K1 := fun w => in_any d 1 4 w
  have K2 := fun w => in_any n 1 64 w
  unfold rightB
  generalize (decide (1 ≤ d) && decide (d ≤ 4)) = a at *
  generalize (decide (1 ≤ n) && decide (n ≤ 64)) = b at *
  have H1 := Lib.hid K1; have H2 := Lib.hid K2
  clear K1 K2
  cases a
  all_goals
    go_enter Try.func56, Try.ntmps56
    go_wp2_with (first
      | (go_at_call 28; with_reducible refine (H1.out _).mono ?_; rintro e w' ⟨rfl, rfl⟩)
      | (go_at_call 28; with_reducible refine (H2.out _).mono ?_; rintro e w' ⟨rfl, rfl⟩))
    go_ret
    exact ⟨by simp, up_alloc (Below.refl _ _) _⟩

theorem refRight_any (d n : Int) (u : Bool) (w : World) :
    Calls Try.prog 27 #[.agg #[.int .i64 d, .int .i64 n, .bool u]] w fun e w' => e = .returned (.bool (rightB d n)) ∧ Below w.heap.size w w' := by
  have K1 := fun w => refIn_any d 1 4 w
  have K2 := fun w => refIn_any n 1 64 w
  unfold inB at K1 K2
  unfold rightB
  generalize (decide (1 ≤ d) && decide (d ≤ 4)) = a at *
  generalize (decide (1 ≤ n) && decide (n ≤ 64)) = b at *
  have H1 := Lib.hid K1; have H2 := Lib.hid K2
  clear K1 K2
  cases a
  all_goals
    go_enter Try.func27, Try.ntmps27
    go_wp2_with (first
      | (go_at_call 18; with_reducible refine (H1.out _).mono ?_; rintro e w' ⟨rfl, rfl⟩)
      | (go_at_call 18; with_reducible refine (H2.out _).mono ?_; rintro e w' ⟨rfl, rfl⟩))
    go_ret
    exact ⟨by simp, up_alloc (Below.refl _ _) _⟩

theorem stepThere_any (c r : Int) (w : World) :
    Calls Try.prog 46 #[.int .i64 c, .int .i64 r] w fun e w' => e = .returned (.bool (decide (1 ≤ c) && decide (1 ≤ r))) ∧ w' = w := by
  by_cases h1 : 1 ≤ c <;> by_cases h2 : 1 ≤ r
  all_goals
    go_enter Try.func46, Try.ntmps46
    go_wp2
    go_ret
    exact ⟨by simp [h1, h2], rfl⟩

/-- How many columns and rows there are behind a step, and whether it can be done. -/
def aft (c r d n : Int) : Int × Int × Bool :=
  if (1 ≤ c ∧ 1 ≤ r) ∧ rightB d n = true then
    if d ≤ 2 then (if 2 * n ≤ c then (c - n, r, true) else (0, 0, false))
    else (if 2 * n ≤ r then (c, r - n, true) else (0, 0, false))
  else (0, 0, false)
theorem aft_yes {c r d n : Int} (h : (aft c r d n).2.2 = true) : ((1 ≤ c ∧ 1 ≤ r) ∧ (1 ≤ d ∧ d ≤ 4) ∧ 1 ≤ n ∧ n ≤ 64) ∧ ((d ≤ 2 ∧ 2 * n ≤ c ∧ aft c r d n = (c - n, r, true)) ∨ (2 < d ∧ 2 * n ≤ r ∧ aft c r d n = (c, r - n, true))) := by
  unfold aft at h ⊢
  split at h
  · rename_i hr
    refine ⟨⟨hr.1, rightB_true hr.2⟩, ?_⟩
    rw [if_pos hr]
    split at h
    · rename_i hd
      rw [if_pos hd]
      split at h
      · rename_i hn; left; exact ⟨hd, hn, if_pos hn⟩
      · cases h
    · rename_i hd
      rw [if_neg hd]
      split at h
      · rename_i hn; right; exact ⟨by omega, hn, if_pos hn⟩
      · cases h
  · cases h
theorem aft_no {c r d n : Int} (h : (aft c r d n).2.2 = false) : aft c r d n = (0, 0, false) := by
  unfold aft at h ⊢
  split at h
  · rename_i hr
    rw [if_pos hr]
    split at h
    · rename_i hd
      rw [if_pos hd]
      split at h
      · cases h
      · rename_i hn; rw [if_neg hn]
    · rename_i hd
      rw [if_neg hd]
      split at h
      · cases h
      · rename_i hn; rw [if_neg hn]
  · rename_i hr; rw [if_neg hr]

theorem ret3 {p : Int × Int × Bool} {a b : Int} {c : Bool} (h : p = (a, b, c)) : Ending.returned (.tuple #[.int .i64 a, .int .i64 b, .bool c]) = .returned (.tuple #[.int .i64 p.1, .int .i64 p.2.1, .bool p.2.2]) := by rw [h]

/-- There are no panels, or the step is not right. -/
theorem stepAfter_bad (c r d n : Int) (u t g : Bool) (w : World) (htg : t = false ∨ g = false)
    (KT : ∀ w, Calls Try.prog 46 #[.int .i64 c, .int .i64 r] w fun e w' => e = .returned (.bool t) ∧ w' = w)
    (KR : ∀ w, Calls Try.prog 56 #[.agg #[.int .i64 d, .int .i64 n, .bool u]] w fun e w' => e = .returned (.bool g) ∧ Below w.heap.size w w') :
    Calls Try.prog 47 #[.int .i64 c, .int .i64 r, .agg #[.int .i64 d, .int .i64 n, .bool u]] w fun e w' => e = .returned (.tuple #[.int .i64 0, .int .i64 0, .bool false]) ∧ Below w.heap.size w w' := by
  have HT := Lib.hid KT; have HR := Lib.hid KR
  clear KT KR
  cases t
  · clear htg
    go_enter Try.func47, Try.ntmps47
    go_wp2_with fail
    refine (HT.out _).mono ?_
    rintro e w1 ⟨rfl, rfl⟩
    go_wp2
    refine bodyPost_ret (v := .tuple #[.int .i64 0, .int .i64 0, .bool false]) (by simp [results, Try.results47, go_sem]) rfl ⟨rfl, up_alloc (Below.refl _ _) _⟩
  · obtain rfl : g = false := by simpa using htg
    clear htg
    go_enter Try.func47, Try.ntmps47
    go_wp2_with fail
    refine (HT.out _).mono ?_
    rintro e w1 ⟨rfl, rfl⟩
    go_wp2_with fail
    refine (HR.out _).mono ?_
    rintro e w2 ⟨rfl, hb⟩
    go_wp2
    refine bodyPost_ret (v := .tuple #[.int .i64 0, .int .i64 0, .bool false]) (by simp [results, Try.results47, go_sem]) rfl ⟨rfl, up_trans (up_alloc (Below.refl _ _) _) hb⟩

set_option maxHeartbeats 1000000 in
theorem stepAfter_side (c r d n : Int) (u : Bool) (w : World) (c0 : 1 ≤ c) (c1 : c ≤ 9223372036854775807) (r0 : 1 ≤ r) (r1 : r ≤ 9223372036854775807) (n0 : 1 ≤ n) (n1 : n ≤ 64) (hd : d = 1 ∨ d = 2)
    (KT : ∀ w, Calls Try.prog 46 #[.int .i64 c, .int .i64 r] w fun e w' => e = .returned (.bool true) ∧ w' = w)
    (KR : ∀ w, Calls Try.prog 56 #[.agg #[.int .i64 d, .int .i64 n, .bool u]] w fun e w' => e = .returned (.bool true) ∧ Below w.heap.size w w') (F : Int × Int × Bool) (hF : (if 2 * n ≤ c then (c - n, r, true) else (0, 0, false)) = F) :
    Calls Try.prog 47 #[.int .i64 c, .int .i64 r, .agg #[.int .i64 d, .int .i64 n, .bool u]] w fun e w' => e = .returned (.tuple #[.int .i64 F.1, .int .i64 F.2.1, .bool F.2.2]) ∧ Below w.heap.size w w' := by
  have HT := Lib.hid KT; have HR := Lib.hid KR; have HF := Lib.hid hF
  clear KT KR hF
  rcases hd with rfl | rfl
  all_goals
    go_enter Try.func47, Try.ntmps47
    go_wp2_with fail
    refine (HT.out _).mono ?_
    rintro e w1 ⟨rfl, rfl⟩
    go_wp2_with fail
    refine (HR.out _).mono ?_
    rintro e w2 ⟨rfl, hb⟩
    have A := (Bx.new w 37 [_, .int .i64 n, .bool u]).up hb
    have a0 := A.cell 0 rfl; have a1 := A.cell 1 rfl
    have B1 := Lib.hid (up_trans (up_alloc (Below.refl _ w) _) hb)
    clear hb A
    by_cases h : 2 * n ≤ c
    · go_wp2
      exact bodyPost_ret (v := .tuple #[.int .i64 (c - n), .int .i64 r, .bool true]) (by simp [results, Try.results47, go_sem]) rfl ⟨ret3 (by rw [← HF.out, if_pos (by omega)]), B1.out⟩
    · go_wp2
      exact bodyPost_ret (v := .tuple #[.int .i64 0, .int .i64 0, .bool false]) (by simp [results, Try.results47, go_sem]) rfl ⟨ret3 (by rw [← HF.out, if_neg (by omega)]), B1.out⟩

set_option maxHeartbeats 1000000 in
theorem stepAfter_foot (c r d n : Int) (u : Bool) (w : World) (c0 : 1 ≤ c) (c1 : c ≤ 9223372036854775807) (r0 : 1 ≤ r) (r1 : r ≤ 9223372036854775807) (n0 : 1 ≤ n) (n1 : n ≤ 64) (hd : d = 3 ∨ d = 4)
    (KT : ∀ w, Calls Try.prog 46 #[.int .i64 c, .int .i64 r] w fun e w' => e = .returned (.bool true) ∧ w' = w)
    (KR : ∀ w, Calls Try.prog 56 #[.agg #[.int .i64 d, .int .i64 n, .bool u]] w fun e w' => e = .returned (.bool true) ∧ Below w.heap.size w w') (F : Int × Int × Bool) (hF : (if 2 * n ≤ r then (c, r - n, true) else (0, 0, false)) = F) :
    Calls Try.prog 47 #[.int .i64 c, .int .i64 r, .agg #[.int .i64 d, .int .i64 n, .bool u]] w fun e w' => e = .returned (.tuple #[.int .i64 F.1, .int .i64 F.2.1, .bool F.2.2]) ∧ Below w.heap.size w w' := by
  have HT := Lib.hid KT; have HR := Lib.hid KR; have HF := Lib.hid hF
  clear KT KR hF
  rcases hd with rfl | rfl
  all_goals
    go_enter Try.func47, Try.ntmps47
    go_wp2_with fail
    refine (HT.out _).mono ?_
    rintro e w1 ⟨rfl, rfl⟩
    go_wp2_with fail
    refine (HR.out _).mono ?_
    rintro e w2 ⟨rfl, hb⟩
    have A := (Bx.new w 37 [_, .int .i64 n, .bool u]).up hb
    have a0 := A.cell 0 rfl; have a1 := A.cell 1 rfl
    have B1 := Lib.hid (up_trans (up_alloc (Below.refl _ w) _) hb)
    clear hb A
    by_cases h : 2 * n ≤ r
    · go_wp2
      go_region
      all_goals
        go_wp2
        go_ret3
        exact ⟨ret3 (by rw [← HF.out, if_pos (by omega)]), by have := B1.out; repeat (first | (with_reducible exact this) | (with_reducible apply up_drew))⟩
    · go_wp2
      exact bodyPost_ret (v := .tuple #[.int .i64 0, .int .i64 0, .bool false]) (by simp [results, Try.results47, go_sem]) rfl ⟨ret3 (by rw [← HF.out, if_neg (by omega)]), B1.out⟩

theorem stepAfter_any (c r d n : Int) (u : Bool) (w : World) (c1 : c ≤ 9223372036854775807) (r1 : r ≤ 9223372036854775807) :
    Calls Try.prog 47 #[.int .i64 c, .int .i64 r, .agg #[.int .i64 d, .int .i64 n, .bool u]] w fun e w' => e = .returned (.tuple #[.int .i64 (aft c r d n).1, .int .i64 (aft c r d n).2.1, .bool (aft c r d n).2.2]) ∧ Below w.heap.size w w' := by
  have KT := fun w => stepThere_any c r w
  have KR := fun w => stepRight_any d n u w
  by_cases h : (1 ≤ c ∧ 1 ≤ r) ∧ rightB d n = true
  · have hr := rightB_true h.2
    rw [show (decide (1 ≤ c) && decide (1 ≤ r)) = true by simp [h.1]] at KT
    rw [h.2] at KR
    by_cases hd : d ≤ 2
    · exact stepAfter_side c r d n u w h.1.1 c1 h.1.2 r1 hr.2.1 hr.2.2 (by omega) KT KR _ (by unfold aft; rw [if_pos h, if_pos hd])
    · exact stepAfter_foot c r d n u w h.1.1 c1 h.1.2 r1 hr.2.1 hr.2.2 (by omega) KT KR _ (by unfold aft; rw [if_pos h, if_neg hd])
  · rw [show aft c r d n = (0, 0, false) by unfold aft; rw [if_neg h]]
    refine stepAfter_bad c r d n u _ _ w ?_ KT KR
    by_cases hg : rightB d n = true
    · left
      have h2 : ¬ (1 ≤ c ∧ 1 ≤ r) := fun h2 => h ⟨h2, hg⟩
      simp; omega
    · right; simpa using hg
end Go.Proofs.Ytnofncibplgmpaa
