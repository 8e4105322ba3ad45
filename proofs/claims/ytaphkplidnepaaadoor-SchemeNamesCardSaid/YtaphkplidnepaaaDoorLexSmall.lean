/- What the small calls of package lex, the library's Clone and the document's own seen and Same answer. -/
import Derived.Test.YtaphkplidnepaaaDoorTexts
import Derived.Test.YtaphkplidnepaaaDoorLexMath
import Derived.Test.YtaphkplidnepaaaDoorShelf
namespace Go.Proofs.YtaphkplidnepaaaDoor
open Go.RowKit
set_option linter.unusedVariables false

theorem seen_eq (c : UInt8) : seenB c = (decide ((32 : Int) ≤ (c.toNat : Int)) && decide ((c.toNat : Int) ≤ 126)) := by
  unfold seenB
  rw [Bool.eq_iff_iff]
  simp
  omega
theorem refSeen_any (c : UInt8) (w : World) : Calls Tryd.prog 40 #[.int .u8 (c.toNat : Int)] w fun e w' => e = .returned (.bool (seenB c)) ∧ w = w' := by
  rw [seen_eq]
  generalize (c.toNat : Int) = x at *
  obtain ⟨b1, h1⟩ : ∃ b, decide ((32 : Int) ≤ x) = b := ⟨_, rfl⟩
  obtain ⟨b2, h2⟩ : ∃ b, decide (x ≤ (126 : Int)) = b := ⟨_, rfl⟩
  rw [h1, h2]
  cases b1 <;> cases b2
  all_goals
    go_enter Tryd.func40, Tryd.ntmps40
    go_wp2
    go_ret
    exact ⟨rfl, rfl⟩
/-- A text of no octet, or one. -/
theorem toList_none (l : List UInt8) : ((tx l).toList == []) = decide (l = []) := by rw [tx_toList, Bool.eq_iff_iff]; simp

/-- What a call answers that makes a list of texts. -/
def GivesT (base : Nat) (ls : List (List UInt8)) (w : World) (e : Ending) (w' : World) : Prop := ∃ v, e = .returned v ∧ rowT w' base v ls ∧ Below base w w'
end Go.Proofs.YtaphkplidnepaaaDoor
