/- What lex's Quote, bare and Unquote answer. -/
import Derived.Test.YtfmhhacnhmjjmaaLexRefFields
namespace Go.Proofs.Ytfmhhacnhmjjmaa
open Go.RowKit
set_option linter.unusedVariables false

/-- What a call answers that makes a text, or none. -/
def GivesQ (O : Option (List UInt8)) (w : World) (e : Ending) (w' : World) : Prop := e = .returned (.tuple #[.string (tx (O.getD [])), .bool O.isSome]) ∧ Below w.heap.size w w'
theorem ret_text {O G : Option (List UInt8)} {b : Bool} {p : ByteArray} (h : O = G) (hp : p = tx (O.getD [])) (hb : O.isSome = b) : Ending.returned (.tuple #[.string p, .bool b]) = .returned (.tuple #[.string (tx (G.getD [])), .bool G.isSome]) := by rw [← h, hb, hp]

theorem quote_yes {l : List UInt8} (h : l.all seenB = true) : quoteO l = some (quoteT l) := if_pos h
theorem quote_no {l : List UInt8} (h : l.all seenB = false) : quoteO l = none := if_neg (by rw [h]; decide)
theorem all_octet {s : ByteArray} {k : Nat} (h : k < s.size) (ha : (s.data.toList.take k).all seenB = true) (hc : seenB s[k] = true) : (s.data.toList.take (k + 1)).all seenB = true := by
  rw [take_octet h, List.all_append, ha]
  simp [hc]
theorem all_bad {s : ByteArray} {k : Nat} (h : k < s.size) (hc : seenB s[k] = false) : s.data.toList.all seenB = false := by
  rw [List.all_eq_false]
  refine ⟨s[k], ?_, by rw [hc]; decide⟩
  have e : s[k] = s.data.toList[k]'(by rw [size_data]; exact h) := rfl
  rw [e]
  exact List.getElem_mem _
theorem esc_octet {s : ByteArray} {k : Nat} (h : k < s.size) : (s.data.toList.take (k + 1)).flatMap escO = (s.data.toList.take k).flatMap escO ++ escO s[k] := by rw [take_octet h, esc_snoc]

def QuoteRel (s : ByteArray) (w : World) (b i : Value) (wr : World) : Prop :=
  ∃ k : Nat, k ≤ s.size ∧ i = .int .i64 (k : Int) ∧ rowB wr w.heap.size b (34 :: (s.data.toList.take k).flatMap escO) ∧ (s.data.toList.take k).all seenB = true ∧ Below w.heap.size w wr

set_option maxHeartbeats 2000000 in
theorem lexQuote_core (s : ByteArray) (w : World) (hs : s.size ≤ 9999999) :
    Calls Try.prog 12 #[.string s] w (GivesQ (quoteO s.data.toList) w) := by
  obtain ⟨F, hF0⟩ : ∃ F, quoteO s.data.toList = F := ⟨_, rfl⟩
  have HF := Lib.hid hF0
  rw [hF0]
  clear hF0
  go_enter Try.func12, Try.ntmps12
  go_wp2
  go_loopw [4, 10] (fun b i wr => QuoteRel s w b i wr) (fun _ i _ => s.size - (intOf i).toNat)
  case atStart => exact ⟨0, Nat.zero_le _, rfl, rowB_one w w.heap.size 34 (Nat.le_refl _), rfl, (Below.refl _ _).alloc (Nat.le_refl _) _⟩
  case round =>
    obtain ⟨k, hk, rfl, hrow, hall, hb⟩ := hrel
    have HR := Lib.hid hrow; have HB := Lib.hid hb; have HA := Lib.hid hall
    clear hrow hb hall
    have hEl : ((s.data.toList.take k).flatMap escO).length ≤ 99999999 := by
      have := esc_length (s.data.toList.take k)
      rw [List.length_take, size_data] at this
      omega
    by_cases hlt : k < s.size
    · have z1 : (k : Int) < (s.size : Int) := by omega
      have EO := Lib.hid (esc_octet hlt)
      have AO := Lib.hid (all_octet hlt HA.out)
      have AB := Lib.hid (all_bad hlt)
      obtain ⟨c, hc⟩ : ∃ c, s[k] = c := ⟨_, rfl⟩
      rw [hc] at EO AO AB
      have hx : ((s[k].toNat : Nat) : Int) = (c.toNat : Int) := by rw [hc]
      clear hc
      have KP := fun w => lexPrinted_any c w
      have e34 := oct34 c; have e92 := oct92 c
      have HCX := Lib.hid (rfl : (c.toNat : Int) = (c.toNat : Int))
      obtain ⟨x, hcx⟩ : ∃ x, (c.toNat : Int) = x := ⟨_, rfl⟩
      rw [hcx] at hx KP e34 e92
      have HX := Lib.hid hcx
      clear hcx HCX
      cases hse : seenB c
      · rw [hse] at KP
        have HKP := Lib.hid KP
        have HN := Lib.hid (quote_no (AB.out hse))
        rw [HF.out] at HN
        clear KP e34 e92 hse
        go_wp2_with (go_at_call 19; refine (HKP.out _).mono ?_; rintro e w' ⟨rfl, rfl⟩)
        go_ret2
        exact ⟨ret_text HN.out.symm rfl rfl, HB.out⟩
      · rw [hse] at KP
        have HKP := Lib.hid KP
        have HA1 := Lib.hid (AO.out hse)
        clear KP hse
        by_cases hq : c = 34 ∨ c = 92
        · have ES := Lib.hid (show escO c = [92, c] by rcases hq with rfl | rfl <;> decide)
          have b1 : (x == 34) = decide (c = 34) := by rw [e34, Bool.eq_iff_iff]; simp
          have b2 : (x == 92) = decide (c = 92) := by rw [e92, Bool.eq_iff_iff]; simp
          clear e34 e92
          rcases hq with hq | hq
          · rw [decide_eq_true hq] at b1
            clear b2 hq
            go_wp2_with (first
              | (go_at_call 19; refine (HKP.out _).mono ?_; rintro e w' ⟨rfl, rfl⟩)
              | (at_builtin; refine wpList_append_octet rfl _ _ rfl w.heap.size _ _ rfl HR.out HB.out.size 92 92 rfl rfl (by simp only [List.length_cons]; omega) ?_))
            intro v1 w1 h1 hb1
            have H1 := Lib.hid h1; have HB1 := Lib.hid (HB.out.trans hb1)
            clear h1 hb1
            go_wp2_with (at_builtin; refine wpList_append_octet rfl _ _ rfl w.heap.size _ _ rfl H1.out HB1.out.size x c HX.out.symm rfl (by simp only [List.length_append, List.length_cons, List.length_nil]; omega) ?_)
            intro v2 w2 h2 hb2
            have H2 := Lib.hid h2; have HB2 := Lib.hid (HB1.out.trans hb2)
            clear h2 hb2
            go_wp2
            go_roundw
            case rel =>
              refine ⟨k + 1, by omega, by go_num, ?_, HA1.out, HB2.out⟩
              rw [EO.out, ES.out]
              simpa using H2.out
            case measure => simp [intOf]; omega
          · have b1' : (x == 34) = false := by rw [b1, hq]; decide
            rw [decide_eq_true hq] at b2
            clear b1 hq
            go_wp2_with (first
              | (go_at_call 19; refine (HKP.out _).mono ?_; rintro e w' ⟨rfl, rfl⟩)
              | (at_builtin; refine wpList_append_octet rfl _ _ rfl w.heap.size _ _ rfl HR.out HB.out.size 92 92 rfl rfl (by simp only [List.length_cons]; omega) ?_))
            intro v1 w1 h1 hb1
            have H1 := Lib.hid h1; have HB1 := Lib.hid (HB.out.trans hb1)
            clear h1 hb1
            go_wp2_with (at_builtin; refine wpList_append_octet rfl _ _ rfl w.heap.size _ _ rfl H1.out HB1.out.size x c HX.out.symm rfl (by simp only [List.length_append, List.length_cons, List.length_nil]; omega) ?_)
            intro v2 w2 h2 hb2
            have H2 := Lib.hid h2; have HB2 := Lib.hid (HB1.out.trans hb2)
            clear h2 hb2
            go_wp2
            go_roundw
            case rel =>
              refine ⟨k + 1, by omega, by go_num, ?_, HA1.out, HB2.out⟩
              rw [EO.out, ES.out]
              simpa using H2.out
            case measure => simp [intOf]; omega
        · have ES := Lib.hid (escO_o (fun e => hq (.inl e)) (fun e => hq (.inr e)))
          have b1 : (x == 34) = false := by rw [e34]; simpa using fun e => hq (.inl e)
          have b2 : (x == 92) = false := by rw [e92]; simpa using fun e => hq (.inr e)
          clear e34 e92 hq
          go_wp2_with (first
            | (go_at_call 19; refine (HKP.out _).mono ?_; rintro e w' ⟨rfl, rfl⟩)
            | (at_builtin; refine wpList_append_octet rfl _ _ rfl w.heap.size _ _ rfl HR.out HB.out.size x c HX.out.symm rfl (by simp only [List.length_cons]; omega) ?_))
          intro v1 w1 h1 hb1
          have H1 := Lib.hid h1; have HB1 := Lib.hid (HB.out.trans hb1)
          clear h1 hb1
          go_wp2
          go_roundw
          case rel =>
            refine ⟨k + 1, by omega, by go_num, ?_, HA1.out, HB1.out⟩
            rw [EO.out, ES.out]
            simpa using H1.out
          case measure => simp [intOf]; omega
    · obtain rfl : k = s.size := by omega
      have HN := Lib.hid HA.out
      rw [List.take_of_length_le (by rw [size_data]; exact Nat.le_refl _)] at HN
      have HY := Lib.hid (quote_yes HN.out)
      rw [HF.out] at HY
      go_wp2_with (at_builtin; refine wpList_append_octet rfl _ _ rfl w.heap.size _ _ rfl HR.out HB.out.size 34 34 rfl rfl (by simp only [List.length_cons]; omega) ?_)
      intro v1 w1 h1 hb1
      have hcv := rowB.text h1
      have HB1 := Lib.hid (HB.out.trans hb1)
      clear h1 hb1
      rw [List.take_of_length_le (by rw [size_data]; exact Nat.le_refl _)] at hcv
      obtain ⟨p, hp⟩ : ∃ p, tx (34 :: (s.data.toList.flatMap escO ++ [34])) = p := ⟨_, rfl⟩
      rw [hp] at hcv
      have HP := Lib.hid hp
      clear hp
      go_wp2
      go_ret2
      exact ⟨ret_text HY.out.symm HP.out.symm rfl, HB1.out⟩
theorem lexQuote_any (l : List UInt8) (w : World) (hs : l.length ≤ 9999999) : Calls Try.prog 12 #[.string (tx l)] w (GivesQ (quoteO l) w) := by
  have := lexQuote_core (tx l) w (by rw [tx_size]; exact hs)
  rwa [data_tx] at this

theorem bare_yes (r : List UInt8) : bareM (92 :: r) false = bareM r true := by simp [bareM]
theorem bare_no {c : UInt8} (r : List UInt8) (e : Bool) (h : (c == 92 && !e) = false) : bareM (c :: r) e = c :: bareM r false := by
  rw [bareM, if_neg (by rw [h]; decide)]
def BareRel (s : ByteArray) (w : World) (b t i : Value) (wr : World) : Prop :=
  ∃ (k : Nat) (out : List UInt8) (e : Bool), k ≤ s.size ∧ out.length ≤ k ∧ i = .int .i64 (k : Int) ∧ t = .bool e ∧ rowB wr w.heap.size b out ∧ Below w.heap.size w wr ∧ out ++ bareM (s.data.toList.drop k) e = bareM s.data.toList false

set_option maxHeartbeats 2000000 in
theorem lexBare_core (s : ByteArray) (w : World) (hs : s.size ≤ 9999999) :
    Calls Try.prog 22 #[.string s] w fun e w' => e = .returned (.string (tx (bareM s.data.toList false))) ∧ Below w.heap.size w w' := by
  obtain ⟨F, hF0⟩ : ∃ F, bareM s.data.toList false = F := ⟨_, rfl⟩
  have HF0 := Lib.hid hF0
  rw [hF0]
  clear hF0
  obtain ⟨p, hp⟩ : ∃ p, tx F = p := ⟨_, rfl⟩
  have HP := Lib.hid hp
  rw [hp]
  clear hp
  go_enter Try.func22, Try.ntmps22
  go_wp2
  go_loopw [3, 4, 8] (fun b t i wr => BareRel s w b t i wr) (fun _ _ i _ => s.size - (intOf i).toNat)
  case atStart => exact ⟨0, [], false, Nat.zero_le _, Nat.le_refl _, rfl, rfl, rowB_nil _ _, Below.refl _ _, rfl⟩
  case round =>
    obtain ⟨k, out, e, hk, ho, rfl, rfl, hrow, hb, hF⟩ := hrel
    have HR := Lib.hid hrow; have HB := Lib.hid hb; have HF := Lib.hid hF
    clear hrow hb hF
    by_cases hlt : k < s.size
    · have z1 : (k : Int) < (s.size : Int) := by omega
      have DO := Lib.hid (drop_octet hlt)
      obtain ⟨c, hc⟩ : ∃ c, s[k] = c := ⟨_, rfl⟩
      rw [hc] at DO
      have hx : ((s[k].toNat : Nat) : Int) = (c.toNat : Int) := by rw [hc]
      clear hc
      have e92 := oct92 c
      obtain ⟨x, hcx⟩ : ∃ x, (c.toNat : Int) = x := ⟨_, rfl⟩
      rw [hcx] at hx e92
      have HX := Lib.hid hcx
      clear hcx
      by_cases h92 : c = 92
      · have b1 : (x == 92) = true := by rw [e92, h92]; rfl
        cases e
        · have HH := Lib.hid HF.out
          rw [DO.out, h92, bare_yes] at HH
          clear e92 h92
          go_wp2
          go_roundw
          case rel => exact ⟨k + 1, out, true, by omega, by omega, by go_num, rfl, HR.out, HB.out, HH.out⟩
          case measure => simp [intOf]; omega
        · have HH := Lib.hid HF.out
          rw [DO.out, bare_no _ _ (by rw [h92]; decide)] at HH
          clear e92 h92
          go_wp2_with (at_builtin; refine wpList_append_octet rfl _ _ rfl w.heap.size _ _ rfl HR.out HB.out.size x c HX.out.symm rfl (by omega) ?_)
          intro v1 w1 h1 hb1
          have H1 := Lib.hid h1; have HB1 := Lib.hid (HB.out.trans hb1)
          clear h1 hb1
          go_wp2
          go_roundw
          case rel => exact ⟨k + 1, out ++ [c], false, by omega, by simp; omega, by go_num, rfl, H1.out, HB1.out, by rw [← HH.out]; simp⟩
          case measure => simp [intOf]; omega
      · have b1 : (x == 92) = false := by rw [e92]; simpa using h92
        have HH := Lib.hid HF.out
        rw [DO.out, bare_no _ _ (by simp [h92])] at HH
        clear e92 h92
        go_wp2_with (at_builtin; refine wpList_append_octet rfl _ _ rfl w.heap.size _ _ rfl HR.out HB.out.size x c HX.out.symm rfl (by omega) ?_)
        intro v1 w1 h1 hb1
        have H1 := Lib.hid h1; have HB1 := Lib.hid (HB.out.trans hb1)
        clear h1 hb1
        go_wp2
        go_roundw
        case rel => exact ⟨k + 1, out ++ [c], false, by omega, by simp; omega, by go_num, rfl, H1.out, HB1.out, by rw [← HH.out]; simp⟩
        case measure => simp [intOf]; omega
    · obtain rfl : k = s.size := by omega
      have HH := Lib.hid HF.out
      rw [List.drop_of_length_le (by rw [size_data]; exact Nat.le_refl _), show bareM [] e = [] by rfl, List.append_nil, HF0.out] at HH
      have hcv := rowB.text HR.out
      rw [HH.out, HP.out] at hcv
      go_wp2
      go_ret
      exact ⟨rfl, HB.out⟩
theorem lexBare_any (l : List UInt8) (w : World) (hs : l.length ≤ 9999999) : Calls Try.prog 22 #[.string (tx l)] w fun e w' => e = .returned (.string (tx (bareM l false))) ∧ Below w.heap.size w w' := by
  have := lexBare_core (tx l) w (by rw [tx_size]; exact hs)
  rwa [data_tx] at this

theorem mid_extract {s : ByteArray} (h : 2 ≤ s.size) : s.extract 1 (s.size - 1) = tx (midL s.data.toList) := by
  rw [tx_extract]
  unfold midL
  rw [size_data]
theorem slice_mid {s : ByteArray} (h : 2 ≤ s.size) (hs : s.size ≤ 9999999) (w : World) : (Instr.slice 9 (.string s) (some (.int .i64 1)) (some (.int .i64 ((s.size : Int) - 1))) none).run Try.prog w = .ok (.string (tx (midL s.data.toList))) w := by
  rw [run_slice_string_if w 9 s .i64 .i64 _ _ Try.underlying9, if_pos (by omega), if_pos (by omega), ← mid_extract h]
  have e : ((s.size : Int) - 1).toNat = s.size - 1 := by omega
  rw [e]
  rfl
theorem mid_length (s : List UInt8) : (midL s).length ≤ s.length := by
  unfold midL
  rw [List.length_drop, List.length_take]
  omega

set_option maxHeartbeats 2000000 in
theorem lexUnquote_core (s : ByteArray) (w : World) (hs : s.size ≤ 999999) :
    Calls Try.prog 14 #[.string s] w (GivesQ (unqO s.data.toList) w) := by
  by_cases h2 : s.size < 2
  · have HN := Lib.hid (unq_short (s := s.data.toList) (by rw [size_data]; exact h2))
    obtain ⟨F, hF0⟩ : ∃ F, unqO s.data.toList = F := ⟨_, rfl⟩
    rw [hF0] at HN ⊢
    clear hF0
    have z1 : (s.size : Int) < 2 := by omega
    go_enter Try.func14, Try.ntmps14
    go_wp2
    go_ret2
    exact ⟨ret_text HN.out.symm rfl rfl, Below.refl _ _⟩
  · have z1 : decide ((s.size : Int) < 2) = false := by simp; omega
    have hsl := slice_mid (by omega) (by omega) (s := s)
    obtain ⟨m, hm⟩ : ∃ m, midL s.data.toList = m := ⟨_, rfl⟩
    have hml : m.length ≤ 999999 := by have := mid_length s.data.toList; rw [size_data, hm] at this; omega
    rw [hm] at hsl
    have HM := Lib.hid hm
    have KB := Lib.hid fun w => lexBare_any m w (by omega)
    have hul := bare_length m false
    have ES := Lib.hid (tx_data s)
    obtain ⟨u, hu⟩ : ∃ u, bareM m false = u := ⟨_, rfl⟩
    rw [hu] at KB hul
    have HU := Lib.hid hu
    clear hm hu
    have KQ := Lib.hid fun w => lexQuote_any u w (by omega)
    obtain ⟨F, hF0⟩ : ∃ F, unqO s.data.toList = F := ⟨_, rfl⟩
    have HF := Lib.hid hF0
    rw [hF0]
    clear hF0
    have cs := tx_same ((quoteO u).getD []) s.data.toList
    rw [ES.out] at cs
    obtain ⟨U, hU⟩ : ∃ U, tx u = U := ⟨_, rfl⟩
    have HUU := Lib.hid hU
    rw [hU] at KB KQ
    clear hU
    by_cases hq : quoteO u = some s.data.toList
    · have HH := Lib.hid (unq_code_yes (s := s.data.toList) (by rw [HM.out, HU.out]; exact hq))
      rw [HM.out, HU.out, HF.out] at HH
      unfold GivesQ at KQ
      rw [hq] at KQ
      rw [show (some s.data.toList).getD [] = s.data.toList from rfl, show (some s.data.toList).isSome = true from rfl, ES.out] at KQ
      clear hq cs
      generalize tx m = M at *
      go_enter Try.func14, Try.ntmps14
      go_wp2_with fail
      refine (KB.out _).mono ?_
      rintro e w1 ⟨rfl, hb⟩
      have HB := Lib.hid hb
      clear hb
      go_wp2_with fail
      refine (KQ.out _).mono ?_
      rintro e w2 ⟨rfl, hb⟩
      have HB2 := Lib.hid (up_trans HB.out hb)
      clear hb
      go_wp2
      go_ret2
      exact ⟨ret_text HH.out.symm HUU.out.symm rfl, HB2.out⟩
    · have HH := Lib.hid (unq_code_no (s := s.data.toList) (by rw [HM.out, HU.out]; exact hq))
      rw [HF.out] at HH
      cases hO : quoteO u with
      | none =>
        unfold GivesQ at KQ
        rw [hO] at KQ
        rw [show (none : Option (List UInt8)).getD [] = [] from rfl, show (none : Option (List UInt8)).isSome = false from rfl] at KQ
        clear hq cs hO
        generalize tx m = M at *
        generalize tx [] = E at *
        go_enter Try.func14, Try.ntmps14
        go_wp2_with fail
        refine (KB.out _).mono ?_
        rintro e w1 ⟨rfl, hb⟩
        have HB := Lib.hid hb
        clear hb
        go_wp2_with fail
        refine (KQ.out _).mono ?_
        rintro e w2 ⟨rfl, hb⟩
        have HB2 := Lib.hid (up_trans HB.out hb)
        clear hb
        go_wp2
        go_ret2
        exact ⟨ret_text HH.out.symm rfl rfl, HB2.out⟩
      | some q =>
        unfold GivesQ at KQ
        rw [hO] at KQ cs hq
        rw [show (some q).getD [] = q from rfl, show (some q).isSome = true from rfl] at KQ
        rw [show (some q).getD [] = q from rfl, decide_eq_false (fun e => hq (by rw [e]))] at cs
        clear hq hO
        generalize tx m = M at *
        generalize tx q = T at *
        go_enter Try.func14, Try.ntmps14
        go_wp2_with fail
        refine (KB.out _).mono ?_
        rintro e w1 ⟨rfl, hb⟩
        have HB := Lib.hid hb
        clear hb
        go_wp2_with fail
        refine (KQ.out _).mono ?_
        rintro e w2 ⟨rfl, hb⟩
        have HB2 := Lib.hid (up_trans HB.out hb)
        clear hb
        go_wp2
        go_ret2
        exact ⟨ret_text HH.out.symm rfl rfl, HB2.out⟩
end Go.Proofs.Ytfmhhacnhmjjmaa
