/- The chapter's example holds; and the law WordsTell answers true for every table, number and text: each kind has its word, and no other one. -/
import Derived.Test.YtbklkpojpcmccaaWordsRef
namespace Go.Proofs.Ytbklkpojpcmccaa
open Go.RowKit
set_option linter.unusedVariables false

theorem tab_two : (tab 2)[2]? = some ⟨#[116, 117, 114, 110]⟩ := rfl
theorem wordsAlive_any (w : World) :
    Calls Try.prog 5 #[] w fun e w' => e = .returned (.bool true) ∧ Below w.heap.size w w' := by
  have G := fun w => wordsGet_yes tab_two w
  have P := fun w => wordsPut_any 4 5 w
  rw [show word (tab 4) 5 = ⟨#[115, 116, 97, 105, 114]⟩ from rfl] at P
  have L := fun w => wordsAll_any 1 w
  rw [show (tab 1).length = 4 from rfl] at L
  have HG := Lib.hid G; have HP := Lib.hid P; have HL := Lib.hid L
  clear G P L
  go_enter Try.func5, Try.ntmps5
  go_wp2_with fail
  refine (HG.out _).mono ?_
  rintro e w1 ⟨rfl, hb⟩
  have B1 := Lib.hid hb; clear hb
  go_wp2_with fail
  refine (HP.out _).mono ?_
  rintro e w2 ⟨rfl, hb⟩
  have B2 := Lib.hid (up_trans B1.out hb); clear hb
  go_wp2_with fail
  refine (HL.out _).mono ?_
  rintro e w3 ⟨v, rfl, hs, hb⟩
  have B3 := Lib.hid (up_trans B2.out hb); clear hb
  obtain ⟨_, ⟨h, _⟩ | ⟨g, _, rfl, _⟩⟩ := hs
  · cases h
  go_wp2
  go_ret
  exact ⟨rfl, B3.out⟩

theorem tell_in (t n q : Int) (b : Bool) (x s : ByteArray) (t1 : 1 ≤ t) (t4 : t ≤ 4) (hq : decide (0 < q) = b) (w : World)
    (KG : ∀ w, Calls Try.prog 6 #[.int .i64 t, .string s] w fun e w' => e = .returned (.tuple #[.int .i64 q, .bool b]) ∧ Below w.heap.size w w')
    (KF : ∀ w, Calls Try.prog 7 #[.int .i64 t, .string s] w fun e w' => e = .returned (.int .i64 q) ∧ Below w.heap.size w w')
    (KP : ∀ w, Calls Try.prog 8 #[.int .i64 t, .int .i64 n] w fun e w' => e = .returned (.string x) ∧ Below w.heap.size w w')
    (KW : ∀ w, Calls Try.prog 9 #[.int .i64 t, .int .i64 n] w fun e w' => e = .returned (.string x) ∧ Below w.heap.size w w') :
    Calls Try.prog 3 #[.int .i64 t, .int .i64 n, .string s] w fun e w' => e = .returned (.bool true) ∧ Below w.heap.size w w' := by
  have HA := Lib.hid wordsAlive_any; have HG := Lib.hid KG; have HF := Lib.hid KF; have HP := Lib.hid KP; have HW := Lib.hid KW
  clear KG KF KP KW
  cases b
  all_goals
    go_enter Try.func3, Try.ntmps3
    go_wp2_with fail
    refine (HA.out _).mono ?_
    rintro e w1 ⟨rfl, hb⟩
    have B1 := Lib.hid hb; clear hb
    go_wp2_with fail
    refine (HG.out _).mono ?_
    rintro e w2 ⟨rfl, hb⟩
    have B2 := Lib.hid (up_trans B1.out hb); clear hb
    go_wp2_with fail
    refine (HF.out _).mono ?_
    rintro e w3 ⟨rfl, hb⟩
    have B3 := Lib.hid (up_trans B2.out hb); clear hb
    go_wp2_with fail
    refine (HP.out _).mono ?_
    rintro e w4 ⟨rfl, hb⟩
    have B4 := Lib.hid (up_trans B3.out hb); clear hb
    go_wp2_with fail
    refine (HW.out _).mono ?_
    rintro e w5 ⟨rfl, hb⟩
    have B5 := Lib.hid (up_trans B4.out hb); clear hb
    go_wp2
    go_ret
    exact ⟨rfl, B5.out⟩

theorem tell_out (t n : Int) (s : ByteArray) (ht : t < 1 ∨ 4 < t) (w : World)
    (KG : ∀ w, Calls Try.prog 6 #[.int .i64 t, .string s] w fun e w' => e = .returned (.tuple #[.int .i64 0, .bool false]) ∧ Below w.heap.size w w')
    (KP : ∀ w, Calls Try.prog 8 #[.int .i64 t, .int .i64 n] w fun e w' => e = .returned (.string ⟨#[]⟩) ∧ Below w.heap.size w w') :
    Calls Try.prog 3 #[.int .i64 t, .int .i64 n, .string s] w fun e w' => e = .returned (.bool true) ∧ Below w.heap.size w w' := by
  have HA := Lib.hid wordsAlive_any; have HG := Lib.hid KG; have HP := Lib.hid KP
  clear KG KP
  rcases ht with ht | ht
  all_goals
    go_enter Try.func3, Try.ntmps3
    go_wp2_with fail
    refine (HA.out _).mono ?_
    rintro e w1 ⟨rfl, hb⟩
    have B1 := Lib.hid hb; clear hb
    go_wp2_with fail
    refine (HG.out _).mono ?_
    rintro e w2 ⟨rfl, hb⟩
    have B2 := Lib.hid (up_trans B1.out hb); clear hb
    go_wp2_with fail
    refine (HP.out _).mono ?_
    rintro e w3 ⟨rfl, hb⟩
    have B3 := Lib.hid (up_trans B2.out hb); clear hb
    go_wp2
    go_ret
    exact ⟨rfl, B3.out⟩

theorem tab_out {t : Int} (h : t < 1 ∨ 4 < t) : tab t = [] := tab_none (by omega) (by omega) (by omega) (by omega)
theorem word_out (n : Int) : word [] n = ⟨#[]⟩ := by
  unfold word
  split <;> rfl

theorem walkWordsTell (t n : Int) (s : ByteArray) (w : World) (h0 : (Lit.int .i64 t).wf = true) (h1 : (Lit.int .i64 n).wf = true) (hs : s.size ≤ maxLen) :
    Calls Try.prog 3 #[.int .i64 t, .int .i64 n, .string s] w fun e w' => e = .returned (.bool true) ∧ Below w.heap.size w w' := by
  by_cases ht : t < 1 ∨ 4 < t
  · have e := tab_out ht
    refine tell_out t n s ht w (fun w => wordsGet_no (by rw [e]; simp) w) (fun w => ?_)
    have := wordsPut_any t n w
    rwa [e, word_out] at this
  by_cases hs : s ∈ tab t
  · obtain ⟨k, hk⟩ := List.getElem?_of_mem hs
    exact tell_in t n ((k : Int) + 1) true (word (tab t) n) s (by omega) (by omega) (decide_eq_true (by omega)) w (fun w => wordsGet_yes hk w) (fun w => refFind_yes hk w) (fun w => wordsPut_any t n w) (fun w => refWord_any t n w)
  · exact tell_in t n 0 false (word (tab t) n) s (by omega) (by omega) (by decide) w (fun w => wordsGet_no hs w) (fun w => refFind_no hs w) (fun w => wordsPut_any t n w) (fun w => refWord_any t n w)
end Go.Proofs.Ytbklkpojpcmccaa
