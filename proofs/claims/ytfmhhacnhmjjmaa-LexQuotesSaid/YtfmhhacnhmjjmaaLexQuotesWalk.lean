/- The law LexQuotes answers true for every text: it comes back from its quoted text; no other text is one's. -/
import Derived.Test.YtfmhhacnhmjjmaaLexAlive
namespace Go.Proofs.Ytfmhhacnhmjjmaa
open Go.RowKit
set_option linter.unusedVariables false

set_option maxRecDepth 100000 in
set_option maxHeartbeats 2000000 in
theorem quotes_none (s : ByteArray) (Q : ByteArray) (T : ByteArray) (b : Bool) (w : World) (hl : s.size ≤ 500)
    (K1 : ∀ w, Calls Try.prog 12 #[.string s] w fun e w' => e = .returned (.tuple #[.string Q, .bool false]) ∧ Below w.heap.size w w')
    (K2 : ∀ w, Calls Try.prog 13 #[.string s] w fun e w' => e = .returned (.tuple #[.string Q, .bool false]) ∧ Below w.heap.size w w')
    (K3 : ∀ w, Calls Try.prog 14 #[.string s] w fun e w' => e = .returned (.tuple #[.string T, .bool b]) ∧ Below w.heap.size w w')
    (K4 : ∀ w, Calls Try.prog 15 #[.string s] w fun e w' => e = .returned (.tuple #[.string T, .bool b]) ∧ Below w.heap.size w w') :
    Calls Try.prog 5 #[.string s] w fun e w' => e = .returned (.bool true) ∧ Below w.heap.size w w' := by
  have HA := Lib.hid lexAlive_any; have H1 := Lib.hid K1; have H2 := Lib.hid K2; have H3 := Lib.hid K3; have H4 := Lib.hid K4
  clear K1 K2 K3 K4
  have z : decide ((500 : Int) < (s.size : Int)) = false := by simp; omega
  cases b
  all_goals
    go_enter Try.func5, Try.ntmps5
    go_wp2_with fail
    refine (HA.out _).mono ?_
    rintro e w1 ⟨rfl, hb⟩
    have B1 := Lib.hid hb; clear hb
    go_wp2_with fail
    refine (H1.out _).mono ?_
    rintro e w2 ⟨rfl, hb⟩
    have B2 := Lib.hid (up_trans B1.out hb); clear hb
    go_wp2_with fail
    refine (H2.out _).mono ?_
    rintro e w3 ⟨rfl, hb⟩
    have B3 := Lib.hid (up_trans B2.out hb); clear hb
    go_wp2_with fail
    refine (H3.out _).mono ?_
    rintro e w4 ⟨rfl, hb⟩
    have B4 := Lib.hid (up_trans B3.out hb); clear hb
    go_wp2_with fail
    refine (H4.out _).mono ?_
    rintro e w5 ⟨rfl, hb⟩
    have B5 := Lib.hid (up_trans B4.out hb); clear hb
    go_wp2
    go_ret
    exact ⟨rfl, B5.out⟩

set_option maxRecDepth 100000 in
set_option maxHeartbeats 2000000 in
theorem quotes_some (s : ByteArray) (q : List UInt8) (Q : ByteArray) (hQ : tx q = Q) (T : ByteArray) (b : Bool) (w : World) (hl : s.size ≤ 500)
    (K1 : ∀ w, Calls Try.prog 12 #[.string s] w fun e w' => e = .returned (.tuple #[.string Q, .bool true]) ∧ Below w.heap.size w w')
    (K2 : ∀ w, Calls Try.prog 13 #[.string s] w fun e w' => e = .returned (.tuple #[.string Q, .bool true]) ∧ Below w.heap.size w w')
    (K3 : ∀ w, Calls Try.prog 14 #[.string s] w fun e w' => e = .returned (.tuple #[.string T, .bool b]) ∧ Below w.heap.size w w')
    (K4 : ∀ w, Calls Try.prog 15 #[.string s] w fun e w' => e = .returned (.tuple #[.string T, .bool b]) ∧ Below w.heap.size w w')
    (K5 : ∀ w, Calls Try.prog 14 #[.string Q] w fun e w' => e = .returned (.tuple #[.string s, .bool true]) ∧ Below w.heap.size w w')
    (K6 : ∀ w, Calls Try.prog 9 #[.string Q] w fun e w' => ∃ v, e = .returned (.tuple #[v, .bool true]) ∧ TxS w' v [q] ∧ Below w.heap.size w w') :
    Calls Try.prog 5 #[.string s] w fun e w' => e = .returned (.bool true) ∧ Below w.heap.size w w' := by
  have HA := Lib.hid lexAlive_any; have H1 := Lib.hid K1; have H2 := Lib.hid K2; have H3 := Lib.hid K3; have H4 := Lib.hid K4; have H5 := Lib.hid K5; have H6 := Lib.hid K6; have HQ := Lib.hid hQ
  clear K1 K2 K3 K4 K5 K6 hQ
  have z : decide ((500 : Int) < (s.size : Int)) = false := by simp; omega
  cases b
  all_goals
    go_enter Try.func5, Try.ntmps5
    go_wp2_with fail
    refine (HA.out _).mono ?_
    rintro e w1 ⟨rfl, hb⟩
    have B1 := Lib.hid hb; clear hb
    go_wp2_with fail
    refine (H1.out _).mono ?_
    rintro e w2 ⟨rfl, hb⟩
    have B2 := Lib.hid (up_trans B1.out hb); clear hb
    go_wp2_with fail
    refine (H2.out _).mono ?_
    rintro e w3 ⟨rfl, hb⟩
    have B3 := Lib.hid (up_trans B2.out hb); clear hb
    go_wp2_with fail
    refine (H3.out _).mono ?_
    rintro e w4 ⟨rfl, hb⟩
    have B4 := Lib.hid (up_trans B3.out hb); clear hb
    go_wp2_with fail
    refine (H4.out _).mono ?_
    rintro e w5 ⟨rfl, hb⟩
    have B5 := Lib.hid (up_trans B4.out hb); clear hb
    go_wp2_with fail
    refine (H5.out _).mono ?_
    rintro e w6 ⟨rfl, hb⟩
    have B6 := Lib.hid (up_trans B5.out hb); clear hb
    go_wp2_with fail
    refine (H6.out _).mono ?_
    rintro e w7 ⟨v, rfl, ⟨a, c, rfl, hv⟩, hb⟩
    have B7 := Lib.hid (up_trans B6.out hb); clear hb
    rcases hv with h | ⟨g, rfl, hv⟩
    · cases h
    have c0 := hv 0 q rfl
    rw [HQ.out] at c0
    clear hv
    rw [show ([q] : List (List UInt8)).length = 1 from rfl]
    go_wp2
    go_ret
    exact ⟨rfl, B7.out⟩

set_option maxRecDepth 100000 in
theorem walkLexQuotes (s : ByteArray) (w : World) (hs : s.size ≤ maxLen) :
    Calls Try.prog 5 #[.string s] w fun e w' => e = .returned (.bool true) ∧ Below w.heap.size w w' := by
  unfold maxLen at hs
  by_cases hl : 500 < s.size
  · have HA := Lib.hid lexAlive_any
    have z : (500 : Int) < (s.size : Int) := by omega
    go_enter Try.func5, Try.ntmps5
    go_wp2_with fail
    refine (HA.out _).mono ?_
    rintro e w1 ⟨rfl, hb⟩
    have B1 := Lib.hid hb; clear hb
    go_wp2
    go_ret
    exact ⟨rfl, B1.out⟩
  · have K1 := fun w => lexQuote_core s w (by omega)
    have K2 := fun w => refQuote_core s w (by omega)
    have K3 := fun w => lexUnquote_core s w (by omega)
    have K4 := fun w => refUnquote_core s w (by omega)
    unfold GivesQ at K1 K2 K3 K4
    cases hO : quoteO s.data.toList with
    | none =>
      rw [hO] at K1 K2
      exact quotes_none s _ _ _ w (by omega) K1 K2 K3 K4
    | some q =>
      rw [hO] at K1 K2
      have hq := (quote_some hO).2
      have hql : q.length ≤ 999999 := by
        rw [← hq, quoteT_length]
        have := esc_length s.data.toList
        rw [size_data] at this
        omega
      have K5 := fun w => lexUnquote_core (tx q) w (by rw [tx_size]; exact hql)
      have K6 := fun w => lexFields_any (tx q) w (by rw [tx_size]; exact hql)
      unfold GivesQ at K5
      unfold GivesF at K6
      rw [data_tx, unq_quote hO] at K5
      rw [data_tx, fields_quote hO] at K6
      have e : tx ((some s.data.toList).getD []) = s := tx_data s
      rw [e] at K5
      exact quotes_some s q _ rfl _ _ w (by omega) K1 K2 K3 K4 K5 K6
end Go.Proofs.Ytfmhhacnhmjjmaa
