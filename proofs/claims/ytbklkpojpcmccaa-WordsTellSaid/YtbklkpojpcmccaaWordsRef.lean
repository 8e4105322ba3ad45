/- What gatherumref09.Word and Find answer: for every table, number and text. -/
import Derived.Test.YtbklkpojpcmccaaWordsCode
namespace Go.Proofs.Ytbklkpojpcmccaa
open Go.RowKit
set_option linter.unusedVariables false

theorem refWord_1 (n : Int) (w : World) :
    Calls Try.prog 9 #[.int .i64 1, .int .i64 n] w fun e w' => e = .returned (.string (word (tab 1) n)) ∧ Below w.heap.size w w' := by
  by_cases h1 : n < 1
  · rw [word_low h1]
    go_enter Try.func9, Try.ntmps9
    go_wp2
    go_ret
    exact ⟨rfl, up_alloc (up_alloc (Below.refl _ _) _) _⟩
  by_cases h2 : 4 < n
  · rw [word_high (l := tab 1) h2]
    go_enter Try.func9, Try.ntmps9
    go_wp2
    go_ret
    exact ⟨rfl, up_alloc (up_alloc (Below.refl _ _) _) _⟩
  obtain rfl | rfl | rfl | rfl : n = 1 ∨ n = 2 ∨ n = 3 ∨ n = 4 := by omega
  all_goals
    go_enter Try.func9, Try.ntmps9
    go_wp2
    go_ret
    exact ⟨rfl, up_alloc (up_alloc (Below.refl _ _) _) _⟩
theorem refWord_2 (n : Int) (w : World) :
    Calls Try.prog 9 #[.int .i64 2, .int .i64 n] w fun e w' => e = .returned (.string (word (tab 2) n)) ∧ Below w.heap.size w w' := by
  by_cases h1 : n < 1
  · rw [word_low h1]
    go_enter Try.func9, Try.ntmps9
    go_wp2
    go_ret
    exact ⟨rfl, up_alloc (up_alloc (Below.refl _ _) _) _⟩
  by_cases h2 : 4 < n
  · rw [word_high (l := tab 2) h2]
    go_enter Try.func9, Try.ntmps9
    go_wp2
    go_ret
    exact ⟨rfl, up_alloc (up_alloc (Below.refl _ _) _) _⟩
  obtain rfl | rfl | rfl | rfl : n = 1 ∨ n = 2 ∨ n = 3 ∨ n = 4 := by omega
  all_goals
    go_enter Try.func9, Try.ntmps9
    go_wp2
    go_ret
    exact ⟨rfl, up_alloc (up_alloc (Below.refl _ _) _) _⟩
theorem refWord_3 (n : Int) (w : World) :
    Calls Try.prog 9 #[.int .i64 3, .int .i64 n] w fun e w' => e = .returned (.string (word (tab 3) n)) ∧ Below w.heap.size w w' := by
  by_cases h1 : n < 1
  · rw [word_low h1]
    go_enter Try.func9, Try.ntmps9
    go_wp2
    go_ret
    exact ⟨rfl, up_alloc (up_alloc (Below.refl _ _) _) _⟩
  by_cases h2 : 4 < n
  · rw [word_high (l := tab 3) h2]
    go_enter Try.func9, Try.ntmps9
    go_wp2
    go_ret
    exact ⟨rfl, up_alloc (up_alloc (Below.refl _ _) _) _⟩
  obtain rfl | rfl | rfl | rfl : n = 1 ∨ n = 2 ∨ n = 3 ∨ n = 4 := by omega
  all_goals
    go_enter Try.func9, Try.ntmps9
    go_wp2
    go_ret
    exact ⟨rfl, up_alloc (up_alloc (Below.refl _ _) _) _⟩
theorem refWord_4 (n : Int) (w : World) :
    Calls Try.prog 9 #[.int .i64 4, .int .i64 n] w fun e w' => e = .returned (.string (word (tab 4) n)) ∧ Below w.heap.size w w' := by
  by_cases h1 : n < 1
  · rw [word_low h1]
    go_enter Try.func9, Try.ntmps9
    go_wp2
    go_ret
    exact ⟨rfl, up_alloc (up_alloc (Below.refl _ _) _) _⟩
  by_cases h2 : 7 < n
  · rw [word_high (l := tab 4) h2]
    go_enter Try.func9, Try.ntmps9
    go_wp2
    go_ret
    exact ⟨rfl, up_alloc (up_alloc (Below.refl _ _) _) _⟩
  obtain rfl | rfl | rfl | rfl | rfl | rfl | rfl : n = 1 ∨ n = 2 ∨ n = 3 ∨ n = 4 ∨ n = 5 ∨ n = 6 ∨ n = 7 := by omega
  all_goals
    go_enter Try.func9, Try.ntmps9
    go_wp2
    go_ret
    exact ⟨rfl, up_alloc (up_alloc (Below.refl _ _) _) _⟩

theorem refWord_any (t n : Int) (w : World) :
    Calls Try.prog 9 #[.int .i64 t, .int .i64 n] w fun e w' => e = .returned (.string (word (tab t) n)) ∧ Below w.heap.size w w' := by
  by_cases h1 : t = 1
  · subst h1; exact refWord_1 n w
  by_cases h2 : t = 2
  · subst h2; exact refWord_2 n w
  by_cases h3 : t = 3
  · subst h3; exact refWord_3 n w
  by_cases h4 : t = 4
  · subst h4; exact refWord_4 n w
  rw [tab_none h1 h2 h3 h4]
  have e1 : (t == 1) = false := by simpa using h1
  have e2 : (t == 2) = false := by simpa using h2
  have e3 : (t == 3) = false := by simpa using h3
  have e4 : (t == 4) = false := by simpa using h4
  by_cases h1 : n < 1
  · rw [word_low h1]
    go_enter Try.func9, Try.ntmps9
    go_wp2
    go_ret
    exact ⟨rfl, up_alloc (Below.refl _ _) _⟩
  · have h2 : 0 < n := by omega
    rw [word_high (l := []) h2]
    go_enter Try.func9, Try.ntmps9
    go_wp2
    go_ret
    exact ⟨rfl, up_alloc (Below.refl _ _) _⟩

def WordsFindRel (M : Nat) (w : World) (x : Value) (wr : World) : Prop := ∃ j : Nat, j ≤ M ∧ x = .int .i64 ((j : Int) + 1) ∧ ∃ u : Later w, wr = u.now
theorem toList_some {s : ByteArray} (h : s ≠ ⟨#[]⟩) : (s.toList == []) = false := by
  have := toList_ne h
  simpa [ByteArray.toList_eq] using this

theorem refFind_core (t : Int) (s : ByteArray) (wd : Nat → ByteArray) (k : Nat) (hk : k < 7) (hs : s ≠ ⟨#[]⟩) (hf : ∀ j, j < k → wd j ≠ s) (he : wd k = s) (w : World)
    (KW : ∀ (j : Nat) (w : World), Calls Try.prog 9 #[.int .i64 t, .int .i64 ((j : Int) + 1)] w fun e w' => e = .returned (.string (wd j)) ∧ Below w.heap.size w w') :
    Calls Try.prog 7 #[.int .i64 t, .string s] w fun e w' => e = .returned (.int .i64 ((k : Int) + 1)) ∧ Below w.heap.size w w' := by
  have HW := Lib.hid KW; have HF := Lib.hid hf; have HE := Lib.hid he
  have h0 := toList_some hs
  clear KW hf he hs
  go_enter Try.func7, Try.ntmps7
  go_wp2_with fail
  go_loopw [5] (fun x wr => WordsFindRel k w x wr) (fun x _ => 8 - (intOf x).toNat)
  case atStart => exact ⟨0, by omega, by go_num, ⟨w, Below.refl _ _⟩, rfl⟩
  case round =>
    obtain ⟨j, hj, rfl, u, rfl⟩ := hrel
    have j8 : (j : Int) + 1 ≤ 7 := by omega
    have K := HW.out j u.now
    by_cases hjk : j = k
    · subst hjk
      rw [HE.out] at K
      have HK := Lib.hid K
      clear K
      go_wp2_with fail
      refine HK.out.mono ?_
      rintro e w1 ⟨rfl, hb⟩
      have HB := Lib.hid (up_trans u.up hb)
      clear hb
      go_wp2
      go_ret
      exact ⟨rfl, HB.out⟩
    · have h1 := toList_ne (HF.out j (by omega))
      generalize wd j = b at *
      have HK := Lib.hid K
      clear K
      go_wp2_with fail
      refine HK.out.mono ?_
      rintro e w1 ⟨rfl, hb⟩
      have HB := Lib.hid (up_trans u.up hb)
      clear hb
      go_wp2_with fail
      go_roundw
      case rel => exact ⟨j + 1, by omega, by go_num, ⟨_, HB.out⟩, rfl⟩
      case measure => simp [intOf]; omega

theorem refFind_none (t : Int) (s : ByteArray) (wd : Nat → ByteArray) (hs : s ≠ ⟨#[]⟩) (hf : ∀ j, j < 7 → wd j ≠ s) (w : World)
    (KW : ∀ (j : Nat) (w : World), Calls Try.prog 9 #[.int .i64 t, .int .i64 ((j : Int) + 1)] w fun e w' => e = .returned (.string (wd j)) ∧ Below w.heap.size w w') :
    Calls Try.prog 7 #[.int .i64 t, .string s] w fun e w' => e = .returned (.int .i64 0) ∧ Below w.heap.size w w' := by
  have HW := Lib.hid KW; have HF := Lib.hid hf
  have h0 := toList_some hs
  clear KW hf hs
  go_enter Try.func7, Try.ntmps7
  go_wp2_with fail
  go_loopw [5] (fun x wr => WordsFindRel 7 w x wr) (fun x _ => 8 - (intOf x).toNat)
  case atStart => exact ⟨0, by omega, by go_num, ⟨w, Below.refl _ _⟩, rfl⟩
  case round =>
    obtain ⟨j, hj, rfl, u, rfl⟩ := hrel
    by_cases hj7 : j = 7
    · subst hj7
      go_wp2
      go_ret
      exact ⟨rfl, u.up⟩
    · have j8 : (j : Int) + 1 ≤ 7 := by omega
      have K := HW.out j u.now
      have h1 := toList_ne (HF.out j (by omega))
      generalize wd j = b at *
      have HK := Lib.hid K
      clear K
      go_wp2_with fail
      refine HK.out.mono ?_
      rintro e w1 ⟨rfl, hb⟩
      have HB := Lib.hid (up_trans u.up hb)
      clear hb
      go_wp2_with fail
      go_roundw
      case rel => exact ⟨j + 1, by omega, by go_num, ⟨_, HB.out⟩, rfl⟩
      case measure => simp [intOf]; omega

theorem refFind_empty (t : Int) (w : World) :
    Calls Try.prog 7 #[.int .i64 t, .string ⟨#[]⟩] w fun e w' => e = .returned (.int .i64 0) ∧ Below w.heap.size w w' := by
  go_enter Try.func7, Try.ntmps7
  go_wp2_with fail
  go_loopw [5] (fun x wr => WordsFindRel 7 w x wr) (fun x _ => 8 - (intOf x).toNat)
  case atStart => exact ⟨0, by omega, by go_num, ⟨w, Below.refl _ _⟩, rfl⟩
  case round =>
    obtain ⟨j, hj, rfl, u, rfl⟩ := hrel
    by_cases hj7 : j = 7
    · subst hj7
      go_wp2
      go_ret
      exact ⟨rfl, u.up⟩
    · have j8 : (j : Int) + 1 ≤ 7 := by omega
      go_wp2_with fail
      go_roundw
      case rel => exact ⟨j + 1, by omega, by go_num, u, rfl⟩
      case measure => simp [intOf]; omega

theorem word_in {l : List ByteArray} {n : Int} (h : word l n ≠ ⟨#[]⟩) : word l n ∈ l := by
  unfold word at *
  split at h
  · rename_i h1
    rw [if_pos h1]
    cases e : l[(n - 1).toNat]? with
    | none => rw [e] at h; exact absurd rfl h
    | some b => exact List.mem_of_getElem? e
  · exact absurd rfl h

theorem refFind_yes {t : Int} {k : Nat} {s : ByteArray} (hk : (tab t)[k]? = some s) (w : World) :
    Calls Try.prog 7 #[.int .i64 t, .string s] w fun e w' => e = .returned (.int .i64 ((k : Int) + 1)) ∧ Below w.heap.size w w' := by
  have hl := (List.getElem?_eq_some_iff.1 hk).1
  refine refFind_core t s (fun j => word (tab t) ((j : Int) + 1)) k (by have := tab_short t; omega) (tab_full t s (List.mem_of_getElem? hk)) (fun j hj => ?_) (word_at hk) w (fun j w => refWord_any t _ w)
  have hb0 : (tab t)[j]? = some (tab t)[j] := by simp
  show word (tab t) ((j : Int) + 1) ≠ s
  rw [word_at hb0]
  exact tab_first hk j _ hj hb0
theorem refFind_no {t : Int} {s : ByteArray} (hs : s ∉ tab t) (w : World) :
    Calls Try.prog 7 #[.int .i64 t, .string s] w fun e w' => e = .returned (.int .i64 0) ∧ Below w.heap.size w w' := by
  by_cases h : s = ⟨#[]⟩
  · subst h; exact refFind_empty t w
  refine refFind_none t s (fun j => word (tab t) ((j : Int) + 1)) h (fun j hj e => ?_) w (fun j w => refWord_any t _ w)
  have e : word (tab t) ((j : Int) + 1) = s := e
  exact hs (e ▸ word_in (e.symm ▸ h))
end Go.Proofs.Ytbklkpojpcmccaa
