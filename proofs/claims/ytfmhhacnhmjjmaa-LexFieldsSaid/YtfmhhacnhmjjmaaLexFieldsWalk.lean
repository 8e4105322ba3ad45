/- The law LexFields answers true for every line: its fields are told apart, quoted ones too, as far as a remark; or that they can't be. -/
import Derived.Test.YtfmhhacnhmjjmaaLexAlive
namespace Go.Proofs.Ytfmhhacnhmjjmaa
open Go.RowKit
set_option linter.unusedVariables false

set_option maxHeartbeats 1000000 in
theorem walkLexFields (s : ByteArray) (w : World) (hs : s.size ≤ maxLen) :
    Calls Try.prog 4 #[.string s] w fun e w' => e = .returned (.bool true) ∧ Below w.heap.size w w' := by
  unfold maxLen at hs
  have HA := Lib.hid lexAlive_any
  by_cases hl : 1000 < s.size
  · have z : (1000 : Int) < (s.size : Int) := by omega
    go_enter Try.func4, Try.ntmps4
    go_wp2_with fail
    refine (HA.out _).mono ?_
    rintro e w1 ⟨rfl, hb⟩
    have B1 := Lib.hid hb; clear hb
    go_wp2
    go_ret
    exact ⟨rfl, B1.out⟩
  · have z : decide ((1000 : Int) < (s.size : Int)) = false := by simp; omega
    have HK := Lib.hid fun w => lexFields_any s w (by omega)
    have HR := Lib.hid fun w => refFields_any s w (by omega)
    have hn : ((fieldsL s.data.toList).getD []).length ≤ 1000000 := by
      cases h : fieldsL s.data.toList with
      | none => simp
      | some l => have := fieldsL_length h; rw [size_data] at this; simp; omega
    generalize fieldsL s.data.toList = F at *
    have HN := Lib.hid hn
    clear hn
    unfold GivesF at HK HR
    obtain ⟨b, hb0⟩ : ∃ b, F.isSome = b := ⟨_, rfl⟩
    obtain ⟨ls, hls⟩ : ∃ ls, F.getD [] = ls := ⟨_, rfl⟩
    rw [hb0, hls] at HK HR
    rw [hls] at HN
    clear hb0 hls
    go_enter Try.func4, Try.ntmps4
    go_wp2_with fail
    refine (HA.out _).mono ?_
    rintro e w1 ⟨rfl, hb⟩
    have B1 := Lib.hid hb; clear hb
    go_wp2_with fail
    refine (HK.out _).mono ?_
    rintro e w2 ⟨v1, rfl, h1, hb⟩
    have B2 := Lib.hid (up_trans B1.out hb); have H1 := Lib.hid h1; clear hb h1
    go_wp2_with fail
    refine (HR.out _).mono ?_
    rintro e w3 ⟨v2, rfl, h2, hb⟩
    have B3 := Lib.hid (up_trans B2.out hb); have H2 := Lib.hid h2; have H1' := Lib.hid (H1.out.up hb); clear hb h2
    go_wp2_with fail
    refine (texts_same H1'.out H2.out HN.out).mono ?_
    rintro e w4 ⟨rfl, hb⟩
    have B4 := Lib.hid (up_trans B3.out hb); clear hb
    go_wp2
    go_ret
    exact ⟨rfl, B4.out⟩
end Go.Proofs.Ytfmhhacnhmjjmaa
