/- What the document's own Quote and Unquote answer. -/
import Derived.Test.YtfmhhacnhmjjmaaLexQuote
namespace Go.Proofs.Ytfmhhacnhmjjmaa
open Go.RowKit
set_option linter.unusedVariables false

def RefQuoteRel (s : ByteArray) (t i : Value) : Prop :=
  ∃ k : Nat, k ≤ s.size ∧ i = .int .i64 (k : Int) ∧ t = .string (tx ((s.data.toList.take k).flatMap escO)) ∧ (s.data.toList.take k).all seenB = true
theorem const_one (n : UInt8) : (⟨#[n]⟩ : ByteArray) = tx [n] := rfl

set_option maxHeartbeats 2000000 in
theorem refQuote_core (s : ByteArray) (w : World) (hs : s.size ≤ 999999) :
    Calls Try.prog 13 #[.string s] w (GivesQ (quoteO s.data.toList) w) := by
  obtain ⟨F, hF0⟩ : ∃ F, quoteO s.data.toList = F := ⟨_, rfl⟩
  have HF := Lib.hid hF0
  rw [hF0]
  clear hF0
  go_enter Try.func13, Try.ntmps13
  go_wp2
  go_loop [4, 5] (fun t i => RefQuoteRel s t i) (fun _ i => s.size - (intOf i).toNat)
  case atStart => exact ⟨0, Nat.zero_le _, rfl, rfl, rfl⟩
  case round =>
    obtain ⟨k, hk, rfl, rfl, hall⟩ := hrel
    have HA := Lib.hid hall
    clear hall
    have hEl : ((s.data.toList.take k).flatMap escO).length ≤ 9999999 := by
      have := esc_length (s.data.toList.take k)
      rw [List.length_take, size_data] at this
      omega
    have hPz : (tx ((s.data.toList.take k).flatMap escO)).size ≤ 9999999 := by rw [tx_size]; exact hEl
    clear hEl
    by_cases hlt : k < s.size
    · have z1 : (k : Int) < (s.size : Int) := by omega
      have EO := Lib.hid (esc_octet hlt)
      have AO := Lib.hid (all_octet hlt HA.out)
      have AB := Lib.hid (all_bad hlt)
      have hsl := slice_one hlt hs
      obtain ⟨c, hc⟩ : ∃ c, s[k] = c := ⟨_, rfl⟩
      rw [hc] at EO AO AB hsl
      have hx : ((s[k].toNat : Nat) : Int) = (c.toNat : Int) := by rw [hc]
      clear hc
      have hqz : (tx [c]).size ≤ 1 := by rw [tx_size]; exact Nat.le_refl _
      have KP := fun w => refSeen_any c w
      have e34 := oct34 c; have e92 := oct92 c
      generalize (c.toNat : Int) = x at *
      obtain ⟨E, hE⟩ : ∃ E, (s.data.toList.take k).flatMap escO = E := ⟨_, rfl⟩
      have HE := Lib.hid hE
      rw [hE] at hPz
      rw [hE]
      clear hE
      cases hse : seenB c
      · rw [hse] at KP
        have HKP := Lib.hid KP
        have HN := Lib.hid (quote_no (AB.out hse))
        rw [HF.out] at HN
        clear KP e34 e92 hse
        go_wp2_with (go_at_call 21; refine (HKP.out _).mono ?_; rintro e w' ⟨rfl, rfl⟩)
        go_ret2
        exact ⟨ret_text HN.out.symm rfl rfl, Below.refl _ _⟩
      · rw [hse] at KP
        have HKP := Lib.hid KP
        have HA1 := Lib.hid (AO.out hse)
        clear KP hse
        by_cases hq : c = 34 ∨ c = 92
        · have ES := Lib.hid (show escO c = [92, c] by rcases hq with rfl | rfl <;> decide)
          have a1 : tx E ++ (⟨#[92]⟩ : ByteArray) = tx (E ++ [92]) := tx_append E [92]
          have a2 : tx (E ++ [92]) ++ tx [c] = tx (E ++ [92] ++ [c]) := tx_append _ _
          have hPz2 : (tx (E ++ [92])).size ≤ 99999999 := by rw [tx_size, List.length_append, List.length_singleton]; rw [tx_size] at hPz; omega
          have HR := Lib.hid (show tx (E ++ [92] ++ [c]) = tx ((s.data.toList.take (k + 1)).flatMap escO) by rw [EO.out, HE.out, ES.out]; simp)
          generalize tx (E ++ [92] ++ [c]) = R at *
          generalize tx (E ++ [92]) = P1 at *
          generalize tx E = P at *
          generalize tx [c] = q at *
          have b1 : (x == 34) = decide (c = 34) := by rw [e34, Bool.eq_iff_iff]; simp
          have b2 : (x == 92) = decide (c = 92) := by rw [e92, Bool.eq_iff_iff]; simp
          clear e34 e92
          rcases hq with hq | hq
          · rw [decide_eq_true hq] at b1
            clear b2 hq
            go_wp2_with (go_at_call 21; refine (HKP.out _).mono ?_; rintro e w' ⟨rfl, rfl⟩)
            go_round
            case rel => exact ⟨k + 1, by omega, by go_num, by rw [HR.out], HA1.out⟩
            case measure => simp [intOf]; omega
          · have b1' : (x == 34) = false := by rw [b1, hq]; decide
            rw [decide_eq_true hq] at b2
            clear b1 hq
            go_wp2_with (go_at_call 21; refine (HKP.out _).mono ?_; rintro e w' ⟨rfl, rfl⟩)
            go_round
            case rel => exact ⟨k + 1, by omega, by go_num, by rw [HR.out], HA1.out⟩
            case measure => simp [intOf]; omega
        · have ES := Lib.hid (escO_o (fun e => hq (.inl e)) (fun e => hq (.inr e)))
          have a2 : tx E ++ tx [c] = tx (E ++ [c]) := tx_append _ _
          have HR := Lib.hid (show tx (E ++ [c]) = tx ((s.data.toList.take (k + 1)).flatMap escO) by rw [EO.out, HE.out, ES.out])
          generalize tx (E ++ [c]) = R at *
          generalize tx E = P at *
          generalize tx [c] = q at *
          have b1 : (x == 34) = false := by rw [e34]; simpa using fun e => hq (.inl e)
          have b2 : (x == 92) = false := by rw [e92]; simpa using fun e => hq (.inr e)
          clear e34 e92 hq
          go_wp2_with (go_at_call 21; refine (HKP.out _).mono ?_; rintro e w' ⟨rfl, rfl⟩)
          go_round
          case rel => exact ⟨k + 1, by omega, by go_num, by rw [HR.out], HA1.out⟩
          case measure => simp [intOf]; omega
    · obtain rfl : k = s.size := by omega
      have HN := Lib.hid HA.out
      rw [List.take_of_length_le (by rw [size_data]; exact Nat.le_refl _)] at HN hPz
      have HY := Lib.hid (quote_yes HN.out)
      rw [HF.out] at HY
      rw [List.take_of_length_le (by rw [size_data]; exact Nat.le_refl _)]
      obtain ⟨E, hE⟩ : ∃ E, s.data.toList.flatMap escO = E := ⟨_, rfl⟩
      have HE := Lib.hid hE
      rw [hE] at hPz
      rw [hE]
      clear hE
      have a1 : (⟨#[34]⟩ : ByteArray) ++ tx E = tx (34 :: E) := tx_append [34] E
      have a2 : tx (34 :: E) ++ (⟨#[34]⟩ : ByteArray) = tx (34 :: E ++ [34]) := tx_append (34 :: E) [34]
      have hPz2 : (tx (34 :: E)).size ≤ 99999999 := by rw [tx_size, List.length_cons]; rw [tx_size] at hPz; omega
      have HR := Lib.hid (show tx (34 :: E ++ [34]) = tx (quoteT s.data.toList) by unfold quoteT; rw [HE.out]; rfl)
      generalize tx (34 :: E ++ [34]) = R at *
      generalize tx (34 :: E) = P1 at *
      generalize tx E = P at *
      go_wp2
      go_ret2
      exact ⟨ret_text HY.out.symm HR.out rfl, Below.refl _ _⟩
theorem refQuote_any (l : List UInt8) (w : World) (hs : l.length ≤ 999999) : Calls Try.prog 13 #[.string (tx l)] w (GivesQ (quoteO l) w) := by
  have := refQuote_core (tx l) w (by rw [tx_size]; exact hs)
  rwa [data_tx] at this

/-- What is left between the first and the last octet, from i on. -/
def restO (s : ByteArray) (i : Nat) : List UInt8 := (s.data.toList.take (s.size - 1)).drop i
theorem rest_mid (s : ByteArray) : restO s 1 = midL s.data.toList := by unfold restO midL; rw [size_data]
theorem rest_octet {s : ByteArray} {i : Nat} (h : i < s.size - 1) : restO s i = s[i]'(by omega) :: restO s (i + 1) := by
  unfold restO
  have hl : i < (s.data.toList.take (s.size - 1)).length := by rw [List.length_take, size_data]; omega
  rw [List.drop_eq_getElem_cons hl, List.getElem_take]
  rfl
theorem rest_none {s : ByteArray} {i : Nat} (h : s.size - 1 ≤ i) : restO s i = [] := List.drop_eq_nil_of_le (by rw [List.length_take, size_data]; omega)
def RefUnqRel (s : ByteArray) (t i : Value) : Prop :=
  ∃ (k : Nat) (out : List UInt8), 1 ≤ k ∧ k ≤ s.size - 1 ∧ out.length ≤ k ∧ i = .int .i64 (k : Int) ∧ t = .string (tx out) ∧ out ++ rbM (restO s k) = rbM (midL s.data.toList)
theorem slice_two {s : ByteArray} {k : Nat} (h : k + 1 < s.size) (hs : s.size ≤ 999999) (w : World) : (Instr.slice 9 (.string s) (some (.int .i64 ((k : Int) + 1))) (some (.int .i64 ((k : Int) + 1 + 1))) none).run Try.prog w = .ok (.string (tx [s[k + 1]])) w := by
  have := slice_one h hs w
  rwa [show (((k + 1 : Nat) : Nat) : Int) = (k : Int) + 1 by omega] at this

set_option maxHeartbeats 2000000 in
theorem refUnquote_core (s : ByteArray) (w : World) (hs : s.size ≤ 999999) :
    Calls Try.prog 15 #[.string s] w (GivesQ (unqO s.data.toList) w) := by
  obtain ⟨F, hF0⟩ : ∃ F, unqO s.data.toList = F := ⟨_, rfl⟩
  have HF := Lib.hid hF0
  rw [hF0]
  clear hF0
  by_cases h2 : s.size < 2
  · have HN := Lib.hid (unq_short (s := s.data.toList) (by rw [size_data]; exact h2))
    rw [HF.out] at HN
    have z1 : (s.size : Int) < 2 := by omega
    go_enter Try.func15, Try.ntmps15
    go_wp2
    go_ret2
    exact ⟨ret_text HN.out.symm rfl rfl, Below.refl _ _⟩
  · have z1 : decide ((s.size : Int) < 2) = false := by simp; omega
    go_enter Try.func15, Try.ntmps15
    go_wp2
    go_loop [4, 5] (fun t i => RefUnqRel s t i) (fun _ i => s.size - (intOf i).toNat)
    case atStart => exact ⟨1, [], Nat.le_refl _, by omega, by simp, rfl, rfl, by rw [rest_mid]; rfl⟩
    case round =>
      obtain ⟨k, out, h1, hk, ho, rfl, rfl, hF⟩ := hrel
      have HH0 := Lib.hid hF
      clear hF
      have hPz : (tx out).size ≤ 999999 := by rw [tx_size]; omega
      by_cases hlt : k < s.size - 1
      · have z2 : (k : Int) < (s.size : Int) := by omega
        have z3 : (k : Int) < (s.size : Int) - 1 := by omega
        have RO := Lib.hid (rest_octet hlt)
        have hsl := slice_one (show k < s.size by omega) (by omega)
        obtain ⟨c, hc⟩ : ∃ c, s[k] = c := ⟨_, rfl⟩
        rw [hc] at RO hsl
        have hx : ((s[k].toNat : Nat) : Int) = (c.toNat : Int) := by rw [hc]
        clear hc
        have e92 := oct92 c
        generalize (c.toNat : Int) = x at *
        by_cases h92 : c = 92
        · have b1 : (x == 92) = true := by rw [e92, h92]; rfl
          clear e92
          by_cases hm : k + 1 < s.size - 1
          · have z4 : (k : Int) + 1 < (s.size : Int) - 1 := by omega
            have z5 : (k : Int) + 1 < (s.size : Int) := by omega
            have RO2 := Lib.hid (rest_octet hm)
            have hsl2 := slice_two (show k + 1 < s.size by omega) (by omega)
            obtain ⟨d, hd⟩ : ∃ d, s[k + 1] = d := ⟨_, rfl⟩
            rw [hd] at RO2 hsl2
            clear hd
            have HH := Lib.hid HH0.out
            rw [RO.out, RO2.out, h92, rb_two] at HH
            have a2 : tx out ++ tx [d] = tx (out ++ [d]) := tx_append _ _
            have hqz : (tx [d]).size ≤ 1 := by rw [tx_size]; exact Nat.le_refl _
            have HR := Lib.hid (rfl : tx (out ++ [d]) = tx (out ++ [d]))
            obtain ⟨R, hR⟩ : ∃ R, tx (out ++ [d]) = R := ⟨_, rfl⟩
            rw [hR] at a2
            have HRR := Lib.hid hR
            clear hR HR h92 hsl
            generalize tx out = P at *
            generalize tx [d] = q at *
            go_wp2
            go_round
            case rel => exact ⟨k + 1 + 1, out ++ [d], by omega, by omega, by simp; omega, by go_num, by rw [HRR.out], by rw [← HH.out]; simp⟩
            case measure => simp [intOf]; omega
          · have z4 : decide ((k : Int) + 1 < (s.size : Int) - 1) = false := by simp; omega
            have HH := Lib.hid HH0.out
            rw [RO.out, rest_none (by omega), rb_last] at HH
            have a2 : tx out ++ tx [c] = tx (out ++ [c]) := tx_append _ _
            have hqz : (tx [c]).size ≤ 1 := by rw [tx_size]; exact Nat.le_refl _
            obtain ⟨R, hR⟩ : ∃ R, tx (out ++ [c]) = R := ⟨_, rfl⟩
            rw [hR] at a2
            have HRR := Lib.hid hR
            clear hR h92
            generalize tx out = P at *
            generalize tx [c] = q at *
            go_wp2
            go_round
            case rel => exact ⟨k + 1, out ++ [c], by omega, by omega, by simp; omega, by go_num, by rw [HRR.out], by rw [← HH.out, rest_none (by omega)]; simp [rbM]⟩
            case measure => simp [intOf]; omega
        · have b1 : (x == 92) = false := by rw [e92]; simpa using h92
          have HH := Lib.hid HH0.out
          rw [RO.out, rb_one _ h92] at HH
          have a2 : tx out ++ tx [c] = tx (out ++ [c]) := tx_append _ _
          have hqz : (tx [c]).size ≤ 1 := by rw [tx_size]; exact Nat.le_refl _
          obtain ⟨R, hR⟩ : ∃ R, tx (out ++ [c]) = R := ⟨_, rfl⟩
          rw [hR] at a2
          have HRR := Lib.hid hR
          clear hR h92 e92
          generalize tx out = P at *
          generalize tx [c] = q at *
          go_wp2
          go_round
          case rel => exact ⟨k + 1, out ++ [c], by omega, by omega, by simp; omega, by go_num, by rw [HRR.out], by rw [← HH.out]; simp⟩
          case measure => simp [intOf]; omega
      · have z3 : decide ((k : Int) < (s.size : Int) - 1) = false := by simp; omega
        have HH := Lib.hid HH0.out
        rw [rest_none (by omega), show rbM [] = [] from rfl, List.append_nil] at HH
        have KQ := Lib.hid fun w => refQuote_any out w (by omega)
        have ES := Lib.hid (tx_data s)
        have cs := tx_same ((quoteO out).getD []) s.data.toList
        rw [ES.out] at cs
        obtain ⟨U, hU⟩ : ∃ U, tx out = U := ⟨_, rfl⟩
        have HUU := Lib.hid hU
        rw [hU] at KQ hPz
        rw [hU]
        clear hU
        by_cases hq : quoteO out = some s.data.toList
        · have HY := Lib.hid (unq_ref_yes (s := s.data.toList) (by rw [← HH.out]; exact hq))
          rw [← HH.out, HF.out] at HY
          unfold GivesQ at KQ
          rw [hq] at KQ
          rw [show (some s.data.toList).getD [] = s.data.toList from rfl, show (some s.data.toList).isSome = true from rfl, ES.out] at KQ
          clear hq cs
          go_wp2_with fail
          refine (KQ.out _).mono ?_
          rintro e w2 ⟨rfl, hb⟩
          have HB2 := Lib.hid hb
          clear hb
          go_wp2
          go_ret2
          exact ⟨ret_text HY.out.symm HUU.out.symm rfl, HB2.out⟩
        · have HY := Lib.hid (unq_ref_no (s := s.data.toList) (by rw [← HH.out]; exact hq))
          rw [HF.out] at HY
          cases hO : quoteO out with
          | none =>
            unfold GivesQ at KQ
            rw [hO] at KQ
            rw [show (none : Option (List UInt8)).getD [] = [] from rfl, show (none : Option (List UInt8)).isSome = false from rfl] at KQ
            clear hq cs hO
            generalize tx [] = E at *
            go_wp2_with fail
            refine (KQ.out _).mono ?_
            rintro e w2 ⟨rfl, hb⟩
            have HB2 := Lib.hid hb
            clear hb
            go_wp2
            go_ret2
            exact ⟨ret_text HY.out.symm rfl rfl, HB2.out⟩
          | some q =>
            unfold GivesQ at KQ
            rw [hO] at KQ cs hq
            rw [show (some q).getD [] = q from rfl, show (some q).isSome = true from rfl] at KQ
            rw [show (some q).getD [] = q from rfl, decide_eq_false (fun e => hq (by rw [e]))] at cs
            clear hq hO
            generalize tx q = T at *
            go_wp2_with fail
            refine (KQ.out _).mono ?_
            rintro e w2 ⟨rfl, hb⟩
            have HB2 := Lib.hid hb
            clear hb
            go_wp2
            go_ret2
            exact ⟨ret_text HY.out.symm rfl rfl, HB2.out⟩
end Go.Proofs.Ytfmhhacnhmjjmaa
