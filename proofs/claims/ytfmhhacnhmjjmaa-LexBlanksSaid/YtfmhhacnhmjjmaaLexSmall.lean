/- What the small calls of package lex, the library's Clone and the document's own seen and Same answer. -/
import Derived.Test.YtfmhhacnhmjjmaaTexts
import Derived.Test.YtfmhhacnhmjjmaaLexMath
import Derived.Test.YtfmhhacnhmjjmaaShelf
namespace Go.Proofs.Ytfmhhacnhmjjmaa
open Go.RowKit
set_option linter.unusedVariables false

theorem lexBlank_any (c : UInt8) (w : World) : Calls Try.prog 17 #[.int .u8 (c.toNat : Int)] w fun e w' => e = .returned (.bool (blankB c)) ∧ w = w' := by
  have e1 := oct_eq c 32
  have e2 := oct_eq c 9
  rw [show (((32 : UInt8).toNat : Nat) : Int) = 32 from rfl] at e1
  rw [show (((9 : UInt8).toNat : Nat) : Int) = 9 from rfl] at e2
  unfold blankB
  generalize (c == 32) = b1 at *
  generalize (c == 9) = b2 at *
  generalize (c.toNat : Int) = x at *
  cases b1 <;> cases b2
  all_goals
    go_enter Try.func17, Try.ntmps17
    go_wp2
    go_ret
    exact ⟨rfl, rfl⟩
theorem seen_eq (c : UInt8) : seenB c = (decide ((32 : Int) ≤ (c.toNat : Int)) && decide ((c.toNat : Int) ≤ 126)) := by
  unfold seenB
  rw [Bool.eq_iff_iff]
  simp
  omega
theorem lexPrinted_any (c : UInt8) (w : World) : Calls Try.prog 19 #[.int .u8 (c.toNat : Int)] w fun e w' => e = .returned (.bool (seenB c)) ∧ w = w' := by
  rw [seen_eq]
  generalize (c.toNat : Int) = x at *
  obtain ⟨b1, h1⟩ : ∃ b, decide ((32 : Int) ≤ x) = b := ⟨_, rfl⟩
  obtain ⟨b2, h2⟩ : ∃ b, decide (x ≤ (126 : Int)) = b := ⟨_, rfl⟩
  rw [h1, h2]
  cases b1 <;> cases b2
  all_goals
    go_enter Try.func19, Try.ntmps19
    go_wp2
    go_ret
    exact ⟨rfl, rfl⟩
theorem refSeen_any (c : UInt8) (w : World) : Calls Try.prog 21 #[.int .u8 (c.toNat : Int)] w fun e w' => e = .returned (.bool (seenB c)) ∧ w = w' := by
  rw [seen_eq]
  generalize (c.toNat : Int) = x at *
  obtain ⟨b1, h1⟩ : ∃ b, decide ((32 : Int) ≤ x) = b := ⟨_, rfl⟩
  obtain ⟨b2, h2⟩ : ∃ b, decide (x ≤ (126 : Int)) = b := ⟨_, rfl⟩
  rw [h1, h2]
  cases b1 <;> cases b2
  all_goals
    go_enter Try.func21, Try.ntmps21
    go_wp2
    go_ret
    exact ⟨rfl, rfl⟩
theorem clone_text (s : ByteArray) (w : World) (hs : s.size ≤ 1000000000) : Calls Try.prog 16 #[.string s] w fun e w' => e = .returned (.string s) ∧ Below w.heap.size w w' := by
  have K := Lib.hid (AnyPu.stringslite_Clone Try.laysMp25 s w (by omega))
  go_enter Try.func16, Try.ntmps16
  go_wp2_with fail
  refine K.out.mono ?_
  rintro e w1 ⟨rfl, hb⟩
  go_wp2
  go_ret
  exact ⟨rfl, hb⟩

/-- A text of no octet, or one. -/
theorem toList_none (l : List UInt8) : ((tx l).toList == []) = decide (l = []) := by rw [tx_toList, Bool.eq_iff_iff]; simp

/-- What a call answers that makes a list of texts. -/
def GivesT (base : Nat) (ls : List (List UInt8)) (w : World) (e : Ending) (w' : World) : Prop := ∃ v, e = .returned v ∧ rowT w' base v ls ∧ Below base w w'
theorem lexAdd_any {w : World} {base : Nat} {v : Value} {ls : List (List UInt8)} (hown : rowT w base v ls) (hbase : base ≤ w.heap.size) (l : List UInt8) (hl : l.length ≤ 1000000000) (hn : ls.length ≤ 1000000) :
    Calls Try.prog 18 #[v, .string (tx l)] w (GivesT base (addF ls l) w) := by
  have HO := Lib.hid hown
  clear hown
  have e := toList_none l
  have hz := tx_size l
  have HT := Lib.hid (rfl : tx l = tx l)
  by_cases h : l = []
  · rw [decide_eq_true h] at e
    have E := Lib.hid (show addF ls l = ls by rw [h, addF_nil])
    generalize tx l = p at *
    clear h hz
    go_enter Try.func18, Try.ntmps18
    go_wp2
    go_ret
    exact ⟨v, rfl, by rw [E.out]; exact HO.out, Below.refl _ _⟩
  · rw [decide_eq_false h] at e
    have E := Lib.hid (addF_some (out := ls) h)
    obtain ⟨p, hp⟩ : ∃ p, p = tx l := ⟨_, rfl⟩
    rw [← hp] at e hz ⊢
    have HP := Lib.hid hp
    have K := Lib.hid (clone_text p w (by omega))
    clear h hz hp
    go_enter Try.func18, Try.ntmps18
    go_wp2_with fail
    refine K.out.mono ?_
    rintro e w1 ⟨rfl, hb⟩
    have HB := Lib.hid hb
    clear hb
    go_wp2_with (at_builtin; refine wpList_append_text rfl _ _ rfl base v ls rfl (HO.out.up HB.out) ?c1 p l HP.out rfl hn ?_)
    case c1 => have := HB.out.size; omega
    intro v1 w2 h1 hb1
    have H1 := Lib.hid h1; have HB1 := Lib.hid hb1
    clear h1 hb1
    go_wp2
    go_ret
    exact ⟨v1, rfl, by rw [E.out]; exact H1.out, (HB.out.mono hbase).trans HB1.out⟩
end Go.Proofs.Ytfmhhacnhmjjmaa
