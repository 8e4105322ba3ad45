/- The law LexLines answers true for every text: its lines are what stands between line feeds. -/
import Derived.Test.YtfmhhacnhmjjmaaLexAlive
namespace Go.Proofs.Ytfmhhacnhmjjmaa
open Go.RowKit
set_option linter.unusedVariables false

def LineRel (ls : List (List UInt8)) (S : List UInt8) (m : Nat) (t i : Value) : Prop :=
  ∃ (k : Nat) (T : List UInt8), k ≤ m ∧ i = .int .i64 (k : Int) ∧ t = .string (tx T) ∧ T ++ restJ (k == 0) (ls.drop k) = S
def OctRel (n : Nat) (i : Value) : Prop := ∃ j : Nat, j ≤ n ∧ i = .int .i64 (j : Int)

set_option maxRecDepth 100000 in
set_option maxHeartbeats 2000000 in
theorem lines_core (s : ByteArray) (ls : List (List UInt8)) (m : Nat) (hm : ls.length = m) (m0 : 0 < m) (m1 : m ≤ 1001) (hJ : restJ true ls = s.data.toList) (hN : ∀ a ∈ ls, (10 : UInt8) ∉ a) (w : World) (hl : s.size ≤ 1000)
    (KL : ∀ w, Calls Try.prog 8 #[.string s] w (GivesT w.heap.size ls w)) :
    Calls Try.prog 3 #[.string s] w fun e w' => e = .returned (.bool true) ∧ Below w.heap.size w w' := by
  have HA := Lib.hid lexAlive_any; have HL := Lib.hid KL; have HM := Lib.hid hm; have HJ := Lib.hid hJ; have HN := Lib.hid hN
  clear KL hm hJ hN
  have z : decide ((1000 : Int) < (s.size : Int)) = false := by simp; omega
  go_enter Try.func3, Try.ntmps3
  go_wp2_with fail
  refine (HA.out _).mono ?_
  rintro e w1 ⟨rfl, hb⟩
  have B1 := Lib.hid hb; clear hb
  go_wp2_with fail
  refine (HL.out _).mono ?_
  rintro e w2 ⟨v, rfl, hv, hb⟩
  have B2 := Lib.hid (up_trans B1.out hb); clear hb
  obtain ⟨a, cap, rfl, hc⟩ := hv.texts
  clear hv
  rw [HM.out]
  rcases hc with h | ⟨g, rfl, hc⟩
  · have := HM.out; rw [h] at this; simp at this; omega
  have HC := Lib.hid hc
  clear hc
  go_wp2_with fail
  go_loop [4, 5] (fun t i => LineRel ls s.data.toList m t i) (fun _ i => m - (intOf i).toNat)
  case atStart => exact ⟨0, [], Nat.zero_le _, rfl, rfl, by rw [← HJ.out]; rfl⟩
  case round =>
    obtain ⟨k, T, hk, rfl, rfl, hT⟩ := hrel
    have hTl : T.length ≤ 1000 := by
      have := congrArg List.length hT
      rw [List.length_append, size_data] at this
      omega
    have hPz : (tx T).size ≤ 1000 := by rw [tx_size]; exact hTl
    have HT := Lib.hid hT
    clear hT
    by_cases hlt : k < m
    · have hkl : k < ls.length := by rw [HM.out]; exact hlt
      have hx0 : ls[k]? = some ls[k] := List.getElem?_eq_getElem hkl
      have DR := Lib.hid (List.drop_eq_getElem_cons hkl)
      have NO := Lib.hid (HN.out ls[k] (List.getElem_mem hkl))
      have c0 := HC.out k _ hx0
      obtain ⟨x, hx⟩ : ∃ x, ls[k] = x := ⟨_, rfl⟩
      rw [hx] at DR NO c0
      clear hx0 hx
      have HH := Lib.hid HT.out
      rw [DR.out, restJ] at HH
      have hxl : x.length ≤ 1000 := by
        have := congrArg List.length HH.out
        rw [List.length_append, List.length_append, List.length_append, size_data] at this
        omega
      have hxz : (tx x).size ≤ 1000 := by rw [tx_size]; exact hxl
      have z1 : (k : Int) < (m : Int) := by omega
      -- the octets of the line
      have OC : Hid (∀ j (hj : j < (tx x).size), (((tx x)[j]'hj).toNat : Int) ≠ 10) := by
        refine Lib.hid fun j hj => ?_
        have e : (tx x)[j]'hj = x[j]'(by rw [tx_size] at hj; exact hj) := by simp [tx, ByteArray.getElem_eq_getElem_data]
        rw [e]
        intro h
        apply NO.out
        have : x[j]'(by rw [tx_size] at hj; exact hj) = 10 := by
          apply UInt8.toNat_inj.1
          have h10 : (10 : UInt8).toNat = 10 := rfl
          omega
        rw [← this]
        exact List.getElem_mem _
      by_cases hk0 : k = 0
      · subst hk0
        have HR := Lib.hid (show (T ++ x) ++ restJ ((0 + 1 : Nat) == 0) (ls.drop (0 + 1)) = s.data.toList by rw [← HH.out]; simp)
        have a1 : tx T ++ tx x = tx (T ++ x) := tx_append _ _
        obtain ⟨R, hR⟩ : ∃ R, tx (T ++ x) = R := ⟨_, rfl⟩
        rw [hR] at a1
        have HRR := Lib.hid hR
        clear hR
        generalize tx T = P at *
        generalize tx x = p at *
        go_wp2_with fail
        go_loop [6] (fun i => OctRel p.size i) (fun i => p.size - (intOf i).toNat)
        case atStart => exact ⟨0, Nat.zero_le _, rfl⟩
        case round =>
          obtain ⟨j, hj, rfl⟩ := hrel
          by_cases hjl : j < p.size
          · have y1 : (j : Int) < (p.size : Int) := by omega
            have o1 : (((p[j]'hjl).toNat : Int) == 10) = false := by simpa using OC.out j hjl
            go_wp2
            go_round
            case rel => exact ⟨j + 1, by omega, by go_num⟩
            case measure => simp [intOf]; omega
          · obtain rfl : j = p.size := by omega
            go_wp2
            go_round
            case rel => exact ⟨0 + 1, T ++ x, by omega, by go_num, by rw [HRR.out], HR.out⟩
            case measure => simp [intOf]; omega
      · have hk1 : 0 < k := by omega
        have HR := Lib.hid (show (T ++ [10] ++ x) ++ restJ ((k + 1 : Nat) == 0) (ls.drop (k + 1)) = s.data.toList by
          rw [← HH.out, show (k == 0) = false by simpa using hk0]
          simp)
        have a0 : tx T ++ (⟨#[10]⟩ : ByteArray) = tx (T ++ [10]) := tx_append T [10]
        have a1 : tx (T ++ [10]) ++ tx x = tx (T ++ [10] ++ x) := tx_append _ _
        have hPz2 : (tx (T ++ [10])).size ≤ 1001 := by rw [tx_size, List.length_append, List.length_singleton]; omega
        obtain ⟨R, hR⟩ : ∃ R, tx (T ++ [10] ++ x) = R := ⟨_, rfl⟩
        rw [hR] at a1
        have HRR := Lib.hid hR
        clear hR hk0
        generalize tx (T ++ [10]) = P1 at *
        generalize tx T = P at *
        generalize tx x = p at *
        go_wp2_with fail
        go_loop [6] (fun i => OctRel p.size i) (fun i => p.size - (intOf i).toNat)
        case atStart => exact ⟨0, Nat.zero_le _, rfl⟩
        case round =>
          obtain ⟨j, hj, rfl⟩ := hrel
          by_cases hjl : j < p.size
          · have y1 : (j : Int) < (p.size : Int) := by omega
            have o1 : (((p[j]'hjl).toNat : Int) == 10) = false := by simpa using OC.out j hjl
            go_wp2
            go_round
            case rel => exact ⟨j + 1, by omega, by go_num⟩
            case measure => simp [intOf]; omega
          · obtain rfl : j = p.size := by omega
            go_wp2
            go_round
            case rel => exact ⟨k + 1, T ++ [10] ++ x, by omega, by go_num, by rw [HRR.out], HR.out⟩
            case measure => simp [intOf]; omega
    · obtain rfl : k = m := by omega
      have HE := Lib.hid HT.out
      rw [List.drop_of_length_le (by rw [HM.out]; exact Nat.le_refl _), restJ, List.append_nil] at HE
      have cs := tx_same T s.data.toList
      rw [decide_eq_true HE.out, tx_data] at cs
      have k0 : (0 : Int) < (k : Int) := by omega
      generalize tx T = P at *
      go_wp2
      go_ret
      exact ⟨rfl, B2.out⟩
theorem walkLexLines (s : ByteArray) (w : World) (hs : s.size ≤ maxLen) :
    Calls Try.prog 3 #[.string s] w fun e w' => e = .returned (.bool true) ∧ Below w.heap.size w w' := by
  unfold maxLen at hs
  by_cases hl : 1000 < s.size
  · have HA := Lib.hid lexAlive_any
    have z : (1000 : Int) < (s.size : Int) := by omega
    go_enter Try.func3, Try.ntmps3
    go_wp2_with fail
    refine (HA.out _).mono ?_
    rintro e w1 ⟨rfl, hb⟩
    have B1 := Lib.hid hb; clear hb
    go_wp2
    go_ret
    exact ⟨rfl, B1.out⟩
  · have h1 := lines_length s.data.toList []
    rw [size_data] at h1
    exact lines_core s (linesM s.data.toList []) _ rfl (List.length_pos_iff.2 (lines_some _ _)) (by omega) (by rw [restJ_lines]; rfl) (lines_none _ _ (by simp)) w (by omega) (fun w => lexLines_any s w (by omega))
end Go.Proofs.Ytfmhhacnhmjjmaa
