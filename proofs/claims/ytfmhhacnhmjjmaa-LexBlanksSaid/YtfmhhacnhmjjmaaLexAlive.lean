/- The chapter's example holds; and what is asked of both sides, with their answers as letters. -/
import Derived.Test.YtfmhhacnhmjjmaaLexRefQuote
import Derived.Test.YtfmhhacnhmjjmaaLexLines
namespace Go.Proofs.Ytfmhhacnhmjjmaa
open Go.RowKit
set_option linter.unusedVariables false

set_option maxHeartbeats 1000000 in
theorem lexAlive_any (w : World) : Calls Try.prog 7 #[] w fun e w' => e = .returned (.bool true) ∧ Below w.heap.size w w' := by
  have K1 := fun w => lexFields_any ⟨#[112, 97, 103, 101, 115, 32, 55, 32, 35, 32, 110, 111]⟩ w (by decide)
  rw [show fieldsL (⟨#[112, 97, 103, 101, 115, 32, 55, 32, 35, 32, 110, 111]⟩ : ByteArray).data.toList = some [[112, 97, 103, 101, 115], [55]] by decide +kernel] at K1
  have K2 := fun w => lexQuote_core ⟨#[97, 34, 98]⟩ w (by decide)
  rw [show quoteO (⟨#[97, 34, 98]⟩ : ByteArray).data.toList = some [34, 97, 92, 34, 98, 34] by decide +kernel] at K2
  have K3 := fun w => lexLines_any ⟨#[97, 10]⟩ w (by decide)
  rw [show linesM (⟨#[97, 10]⟩ : ByteArray).data.toList [] = [[97], []] by decide +kernel] at K3
  have H1 := Lib.hid K1; have H2 := Lib.hid K2; have H3 := Lib.hid K3
  clear K1 K2 K3
  have t0 : (tx [34, 97, 92, 34, 98, 34]).toList = [34, 97, 92, 34, 98, 34] := tx_toList _
  go_enter Try.func7, Try.ntmps7
  go_wp2_with fail
  refine (H1.out _).mono ?_
  rintro e w1 ⟨v, rfl, ⟨a, c, rfl, _⟩, hb⟩
  have B1 := Lib.hid hb; clear hb
  go_wp2_with fail
  refine (H2.out _).mono ?_
  rintro e w2 ⟨rfl, hb⟩
  have B2 := Lib.hid (up_trans B1.out hb); clear hb
  go_wp2_with fail
  refine (H3.out _).mono ?_
  rintro e w3 ⟨v, rfl, hv, hb⟩
  have B3 := Lib.hid (up_trans B2.out hb); clear hb
  obtain ⟨a2, c2, rfl, _⟩ := hv.texts
  clear hv
  go_wp2
  go_ret
  exact ⟨rfl, B3.out⟩
end Go.Proofs.Ytfmhhacnhmjjmaa
