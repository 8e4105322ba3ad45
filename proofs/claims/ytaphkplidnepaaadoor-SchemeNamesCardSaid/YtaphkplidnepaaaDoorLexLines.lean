/- What the document's own Same, and lex.Lines, answer. -/
import Derived.Test.YtaphkplidnepaaaDoorLexSmall
namespace Go.Proofs.YtaphkplidnepaaaDoor
open Go.RowKit
set_option linter.unusedVariables false

set_option maxHeartbeats 1000000 in
/-- Of a list of texts twice, Same answers true. -/
theorem texts_same {w : World} {va vb : Value} {ls : List (List UInt8)} (ha : TxS w va ls) (hb : TxS w vb ls) (hl : ls.length ≤ 1000000) :
    Calls Tryd.prog 15 #[va, vb] w fun e w' => e = .returned (.bool true) ∧ Below w.heap.size w w' := by
  obtain ⟨a, ca, rfl, ha⟩ := ha
  obtain ⟨b, cb, rfl, hb⟩ := hb
  have HA := Lib.hid ha; have HB := Lib.hid hb
  clear ha hb
  obtain ⟨m, hm⟩ : ∃ m, ls.length = m := ⟨_, rfl⟩
  have HM := Lib.hid hm
  rw [hm] at hl ⊢
  clear hm
  go_enter Tryd.func15, Tryd.ntmps15
  go_wp2
  go_loopw [5] (fun i wr => ∃ k : Nat, k ≤ m ∧ i = .int .i64 (k : Int) ∧ ∃ u : Later w, wr = u.now) (fun i _ => m - (intOf i).toNat)
  case atStart => exact ⟨0, by omega, by go_num, ⟨w, Below.refl _ _⟩, rfl⟩
  case round =>
    obtain ⟨k, hk, rfl, u, rfl⟩ := hrel
    by_cases hlt : k < m
    · obtain ⟨x, hx⟩ : ∃ x, ls[k]? = some x := ⟨ls[k]'(by rw [HM.out]; exact hlt), List.getElem?_eq_getElem _⟩
      obtain h | ⟨g1, rfl, h1, _⟩ := HA.out
      · have := HM.out; rw [h] at this; simp at this; omega
      obtain h | ⟨g2, rfl, h2, _⟩ := HB.out
      · have := HM.out; rw [h] at this; simp at this; omega
      have c1 := fun u : Later w => u.cell (h1 k x hx)
      have c2 := fun u : Later w => u.cell (h2 k x hx)
      generalize tx x = p at *
      have z0 : (0 : Int) ≤ (k : Int) := by omega
      have z1 : (k : Int) < (m : Int) := by omega
      clear h1 h2 hx
      go_wp2
      refine wp_region_later (by kernel_rfl) (by kernel_rfl) ?_
      repeat (go_big_quiet_step (fail))
      refine wpQuiet_nil ?_
      rintro _ ⟨u2, rfl⟩
      clear c1 c2
      go_wp2
      go_roundw
      case rel => exact ⟨k + 1, by omega, by go_num, u2, rfl⟩
      case measure => simp [intOf]; omega
    · have hk2 : m ≤ k := by omega
      go_wp2
      go_ret
      exact ⟨rfl, u.up⟩

def LinesRel (s : ByteArray) (w : World) (l f i : Value) (wr : World) : Prop :=
  ∃ (k from_ : Nat) (out : List (List UInt8)), k ≤ s.size ∧ from_ ≤ k ∧ out.length ≤ k ∧ i = .int .i64 (k : Int) ∧ f = .int .i64 (from_ : Int) ∧ rowT wr w.heap.size l out ∧ Below w.heap.size w wr ∧
    out ++ linesM (s.data.toList.drop k) ((s.data.toList.take k).drop from_) = linesM s.data.toList []

end Go.Proofs.YtaphkplidnepaaaDoor
