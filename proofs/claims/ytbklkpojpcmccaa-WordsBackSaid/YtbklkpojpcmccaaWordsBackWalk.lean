/- The law WordsBack answers true for every table and number: words come back from kinds; a table has all of its words, in order. -/
import Derived.Test.YtbklkpojpcmccaaWordsTellWalk
namespace Go.Proofs.Ytbklkpojpcmccaa
open Go.RowKit
set_option linter.unusedVariables false

def WordsManyRel (M : Nat) (w : World) (x : Value) (wr : World) : Prop := ∃ j : Nat, j ≤ M ∧ x = .int .i64 (j : Int) ∧ ∃ u : Later w, wr = u.now

set_option maxRecDepth 100000 in
theorem back_out (t n : Int) (ht : t < 1 ∨ 4 < t) (w : World)
    (KL : ∀ w, Calls Try.prog 10 #[.int .i64 t] w fun e w' => e = .returned (.slice none 0 0) ∧ Below w.heap.size w w')
    (KP : ∀ w, Calls Try.prog 8 #[.int .i64 t, .int .i64 n] w fun e w' => e = .returned (.string ⟨#[]⟩) ∧ Below w.heap.size w w') :
    Calls Try.prog 4 #[.int .i64 t, .int .i64 n] w fun e w' => e = .returned (.bool true) ∧ Below w.heap.size w w' := by
  have HA := Lib.hid wordsAlive_any; have HL := Lib.hid KL; have HP := Lib.hid KP
  clear KL KP
  rcases ht with ht | ht
  all_goals
    go_enter Try.func4, Try.ntmps4
    go_wp2_with fail
    refine (HA.out _).mono ?_
    rintro e w1 ⟨rfl, hb⟩
    have B1 := Lib.hid hb; clear hb
    go_wp2_with fail
    refine (HL.out _).mono ?_
    rintro e w2 ⟨rfl, hb⟩
    have B2 := Lib.hid (up_trans B1.out hb); clear hb
    go_wp2_with fail
    refine wp_loop_rounds 1 ?_
    rw [rounds_succ]
    by_cases hn : n < 1
    · go_wp2_with fail
      refine (HP.out _).mono ?_
      rintro e w3 ⟨rfl, hb⟩
      have B3 := Lib.hid (up_trans B2.out hb); clear hb
      go_wp2
      go_ret
      exact ⟨rfl, B3.out⟩
    · have h1 : 1 ≤ n := by omega
      have h2 : decide (n ≤ 0) = false := by simp; omega
      go_wp2_with fail
      refine (HP.out _).mono ?_
      rintro e w3 ⟨rfl, hb⟩
      have B3 := Lib.hid (up_trans B2.out hb); clear hb
      go_wp2
      go_ret
      exact ⟨rfl, B3.out⟩

set_option maxRecDepth 100000 in
theorem back_in (t n : Int) (t1 : 1 ≤ t) (t4 : t ≤ 4) (l : List ByteArray) (m : Nat) (hm : l.length = m) (m0 : 0 < m) (m7 : m ≤ 7) (w : World) (hne : ∀ b ∈ l, b ≠ ⟨#[]⟩)
    (KL : ∀ w, Calls Try.prog 10 #[.int .i64 t] w fun e w' => ∃ v, e = .returned v ∧ Strs w' v m l ∧ Below w.heap.size w w')
    (KW : ∀ n w, Calls Try.prog 9 #[.int .i64 t, .int .i64 n] w fun e w' => e = .returned (.string (word l n)) ∧ Below w.heap.size w w')
    (KP : ∀ n w, Calls Try.prog 8 #[.int .i64 t, .int .i64 n] w fun e w' => e = .returned (.string (word l n)) ∧ Below w.heap.size w w')
    (KG : ∀ (k : Nat) s w, l[k]? = some s → Calls Try.prog 6 #[.int .i64 t, .string s] w fun e w' => e = .returned (.tuple #[.int .i64 ((k : Int) + 1), .bool true]) ∧ Below w.heap.size w w') :
    Calls Try.prog 4 #[.int .i64 t, .int .i64 n] w fun e w' => e = .returned (.bool true) ∧ Below w.heap.size w w' := by
  have HA := Lib.hid wordsAlive_any; have HL := Lib.hid KL; have HW := Lib.hid KW; have HP := Lib.hid KP; have HG := Lib.hid KG; have HM := Lib.hid hm; have HN := Lib.hid hne
  clear KL KW KP KG hm hne
  go_enter Try.func4, Try.ntmps4
  go_wp2_with fail
  refine (HA.out _).mono ?_
  rintro e w1 ⟨rfl, hb⟩
  have B1 := Lib.hid hb; clear hb
  go_wp2_with fail
  refine (HL.out _).mono ?_
  rintro e w2 ⟨v, rfl, hs, hb⟩
  have B2 := Lib.hid (up_trans B1.out hb); clear hb
  obtain ⟨_, ⟨h, _⟩ | ⟨g, _, rfl, hc⟩⟩ := hs
  · omega
  have HC := Lib.hid hc
  clear hc
  go_wp2_with fail
  go_loopw [6] (fun x wr => WordsManyRel m w2 x wr) (fun x _ => m - (intOf x).toNat)
  case atStart => exact ⟨0, by omega, by go_num, ⟨w2, Below.refl _ _⟩, rfl⟩
  case round =>
    obtain ⟨j, hj, rfl, u, rfl⟩ := hrel
    have K := HW.out ((j : Int) + 1) u.now
    by_cases hjm : j = m
    · subst hjm
      rw [word_high (by have := HM.out; omega)] at K
      have HK := Lib.hid K
      clear K
      go_wp2_with fail
      refine HK.out.mono ?_
      rintro e w3 ⟨rfl, hb⟩
      obtain ⟨u, rfl⟩ := Later.next hb
      clear hb HK
      go_wp2_with fail
      go_loopw [7] (fun x wr => WordsManyRel j w2 x wr) (fun x _ => j - (intOf x).toNat)
      case atStart => exact ⟨0, by omega, by go_num, u, rfl⟩
      case round =>
        obtain ⟨i, hi, rfl, u, rfl⟩ := hrel
        by_cases hij : i = j
        · subst hij
          have K := HP.out n u.now
          by_cases n1 : n < 1
          · rw [word_low n1] at K
            have HK := Lib.hid K
            clear K
            go_wp2_with fail
            refine HK.out.mono ?_
            rintro e w3 ⟨rfl, hb⟩
            have B3 := Lib.hid (up_trans (up_trans B2.out u.up) hb); clear hb
            go_wp2
            go_ret
            exact ⟨rfl, B3.out⟩
          by_cases n2 : (i : Int) < n
          · rw [word_high (by have := HM.out; omega)] at K
            have HK := Lib.hid K
            clear K
            have d1 : 1 ≤ n := by omega
            have d2 : decide (n ≤ (i : Int)) = false := by simp; omega
            go_wp2_with fail
            refine HK.out.mono ?_
            rintro e w3 ⟨rfl, hb⟩
            have B3 := Lib.hid (up_trans (up_trans B2.out u.up) hb); clear hb
            go_wp2
            go_ret
            exact ⟨rfl, B3.out⟩
          · obtain ⟨k, rfl⟩ : ∃ k : Nat, n = (k : Int) + 1 := ⟨(n - 1).toNat, by omega⟩
            have hkl : k < l.length := by have := HM.out; omega
            have hb0 : l[k]? = some l[k] := by simp [hkl]
            rw [word_at hb0] at K
            have h1 := toList_some (HN.out _ (List.mem_of_getElem? hb0))
            generalize l[k] = b at *
            have HK := Lib.hid K
            clear K hb0
            have d1 : decide ((1 : Int) ≤ (k : Int) + 1) = true := decide_eq_true (by omega)
            have d2 : decide ((k : Int) + 1 ≤ (i : Int)) = true := decide_eq_true (by omega)
            go_wp2_with fail
            refine HK.out.mono ?_
            rintro e w3 ⟨rfl, hb⟩
            have B3 := Lib.hid (up_trans (up_trans B2.out u.up) hb); clear hb
            go_wp2
            go_ret
            exact ⟨rfl, B3.out⟩
        · have hil : i < l.length := by have := HM.out; omega
          have hb0 : l[i]? = some l[i] := by simp [hil]
          have KP := HP.out ((i : Int) + 1)
          rw [word_at hb0] at KP
          have KG := fun w => HG.out i _ w hb0
          have k0 := HC.out i _ hb0
          generalize l[i] = b at *
          have HKG := Lib.hid KG
          have HKP := Lib.hid KP
          clear hb0 KG KP
          have ij : (i : Int) < (j : Int) := by omega
          have c0 := u.cell k0
          go_wp2_with fail
          refine (HKG.out _).mono ?_
          rintro e w3 ⟨rfl, hb⟩
          obtain ⟨u, rfl⟩ := Later.next hb
          clear hb HKG c0
          have j0 := fun u : Later w2 => u.cell k0
          go_wp2_with fail
          refine wp_region_later (by kernel_rfl) (by kernel_rfl) ?_
          repeat (go_big_quiet_step ((go_at_call 8; with_reducible exact Later.call (HKP.out _))))
          refine wpQuiet_nil ?_
          rintro _ ⟨u2, rfl⟩
          go_wp2_with fail
          go_roundw
          case rel => exact ⟨i + 1, by omega, by go_num, u2, rfl⟩
          case measure => simp [intOf]; omega
    · have hjl : j < l.length := by have := HM.out; omega
      have hb0 : l[j]? = some l[j] := by simp [hjl]
      rw [word_at hb0] at K
      have h1 := toList_some (HN.out _ (List.mem_of_getElem? hb0))
      generalize l[j] = b at *
      have HK := Lib.hid K
      clear K hb0
      go_wp2_with fail
      refine HK.out.mono ?_
      rintro e w3 ⟨rfl, hb⟩
      obtain ⟨u, rfl⟩ := Later.next hb
      clear hb HK
      go_wp2_with fail
      go_roundw
      case rel => exact ⟨j + 1, by omega, by go_num, u, rfl⟩
      case measure => simp [intOf]; omega

theorem tab_some {t : Int} (t1 : 1 ≤ t) (t4 : t ≤ 4) : 0 < (tab t).length := by
  obtain rfl | rfl | rfl | rfl : t = 1 ∨ t = 2 ∨ t = 3 ∨ t = 4 := by omega
  all_goals decide

theorem walkWordsBack (t n : Int) (w : World) (h0 : (Lit.int .i64 t).wf = true) (h1 : (Lit.int .i64 n).wf = true) :
    Calls Try.prog 4 #[.int .i64 t, .int .i64 n] w fun e w' => e = .returned (.bool true) ∧ Below w.heap.size w w' := by
  by_cases ht : t < 1 ∨ 4 < t
  · have e := tab_out ht
    refine back_out t n ht w (fun w => ?_) (fun w => ?_)
    · have := wordsAll_any t w
      rw [e] at this
      refine this.mono ?_
      rintro e w' ⟨v, rfl, ⟨_, ⟨_, rfl⟩ | ⟨g, h, _⟩⟩, hb⟩
      · exact ⟨rfl, hb⟩
      · cases h
    · have := wordsPut_any t n w
      rwa [e, word_out] at this
  · exact back_in t n (by omega) (by omega) (tab t) _ rfl (tab_some (by omega) (by omega)) (tab_short t) w (tab_full t) (fun w => wordsAll_any t w) (fun n w => refWord_any t n w) (fun n w => wordsPut_any t n w) (fun k s w hk => wordsGet_yes hk w)
end Go.Proofs.Ytbklkpojpcmccaa
