/- What dec's Within answers, and that the chapter's example holds. -/
import Derived.Test.YtaphkplidnepaaaDoorDecCode
import Derived.Test.YtaphkplidnepaaaDoorNumIn
namespace Go.Proofs.YtaphkplidnepaaaDoor
open Go.RowKit DecMath
set_option linter.unusedVariables false

/-- The number whose digits l are, if it is from lo to hi. -/
def inOf (l : List UInt8) (lo hi : Int) : Int × Bool := if (numOf l).2 = true ∧ lo ≤ (numOf l).1 ∧ (numOf l).1 ≤ hi then numOf l else (0, false)

set_option maxRecDepth 100000 in
theorem decWithin_any (s : ByteArray) (lo hi : Int) (w : World) (hs : s.size ≤ 9223372036854775807) (hg : Good w) :
    Calls Tryd.prog 44 #[.string s, .int .i64 lo, .int .i64 hi] w fun e w' => e = .returned (.tuple #[.int .i64 (inOf s.data.toList lo hi).1, .bool (inOf s.data.toList lo hi).2]) ∧ Below w.heap.size w w' := by
  have K := decGet_any s w hs hg
  have I := fun (v : Int) w => in_any v lo hi w
  have hr : inOf s.data.toList lo hi = if (numOf s.data.toList).2 = true ∧ lo ≤ (numOf s.data.toList).1 ∧ (numOf s.data.toList).1 ≤ hi then numOf s.data.toList else (0, false) := rfl
  generalize inOf s.data.toList lo hi = r at *
  generalize numOf s.data.toList = p at *
  obtain ⟨v, b⟩ := p
  simp only at K hr
  cases b
  · have HK := Lib.hid K
    have E := Lib.hid (show r = (0, false) from by rw [hr, if_neg (fun h => by cases h.1)])
    clear K hg I hr
    go_enter Tryd.func44, Tryd.ntmps44
    go_wp2_with fail
    refine HK.out.mono ?_
    rintro e w1 ⟨rfl, hb⟩
    go_wp2
    go_ret2
    exact ⟨ret_pair2 E.out, hb⟩
  · by_cases hin : lo ≤ v ∧ v ≤ hi
    · have HK := Lib.hid K
      have i1 : (decide (lo ≤ v) && decide (v ≤ hi)) = true := by simp [hin]
      have I1 := I v
      rw [i1] at I1
      have HI := Lib.hid I1
      have E := Lib.hid (show r = (v, true) from by rw [hr, if_pos ⟨rfl, hin⟩])
      clear K hg I i1 I1 hin hr
      go_enter Tryd.func44, Tryd.ntmps44
      go_wp2_with fail
      refine HK.out.mono ?_
      rintro e w1 ⟨rfl, hb⟩
      go_wp2_with fail
      refine (HI.out _).mono ?_
      rintro e w2 ⟨rfl, rfl⟩
      go_wp2
      go_ret2
      exact ⟨ret_pair2 E.out, hb⟩
    · have HK := Lib.hid K
      have i1 : (decide (lo ≤ v) && decide (v ≤ hi)) = false := by simp; omega
      have I1 := I v
      rw [i1] at I1
      have HI := Lib.hid I1
      have E := Lib.hid (show r = (0, false) from by rw [hr, if_neg (fun h => hin h.2)])
      clear K hg I i1 I1 hin hr
      go_enter Tryd.func44, Tryd.ntmps44
      go_wp2_with fail
      refine HK.out.mono ?_
      rintro e w1 ⟨rfl, hb⟩
      go_wp2_with fail
      refine (HI.out _).mono ?_
      rintro e w2 ⟨rfl, rfl⟩
      go_wp2
      go_ret2
      exact ⟨ret_pair2 E.out, hb⟩

theorem itoa_0 : Lib.itoa 0 = [48] := by rw [Lib.itoa, if_neg (by decide)]; exact Lib.decDigits_one (by decide)
theorem itoa_7 : Lib.itoa 7 = [55] := by rw [Lib.itoa, if_neg (by decide)]; exact Lib.decDigits_one (by decide)
theorem itoa_m42 : Lib.itoa (-42) = [45, 52, 50] := by rw [Lib.itoa, if_pos (by decide)]; exact congrArg _ (Lib.decDigits_two (by decide) (by decide))
theorem num_m42 : numOf [45, 52, 50] = (-42, true) := by rw [← itoa_m42]; exact numOf_itoa _ (by decide) (by decide)
theorem num_007 : numOf [48, 48, 55] = (0, false) := numOf_no _ 7 (by decide) (by rw [itoa_7]; decide)

end Go.Proofs.YtaphkplidnepaaaDoor
