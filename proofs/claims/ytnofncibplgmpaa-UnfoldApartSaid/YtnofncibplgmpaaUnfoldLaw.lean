/- unfold.Of, unfold.Order and the reference's Of, for every scheme. -/
import Derived.Test.YtnofncibplgmpaaUnfoldOrder
import Derived.Test.YtnofncibplgmpaaUnfoldAlive
import Derived.Test.YtnofncibplgmpaaRefOf
import Derived.Test.YtnofncibplgmpaaStepArg
namespace Go.Proofs.Ytnofncibplgmpaa
open Go.RowKit
set_option linter.unusedVariables false

/-- v is a slice that holds the panels P. -/
def GotP (w : World) (b : Option Addr) (P : List Pn) : Prop := P = [] ∨ ∃ g, b = some ⟨g, 0, none⟩ ∧ PnRow w g P
theorem GotP.up {w w' : World} {b : Option Addr} {P : List Pn} (h : GotP w b P) (hb : Below w.heap.size w w') : GotP w' b P := h.imp id fun ⟨g, e, h⟩ => ⟨g, e, h.up hb⟩
/-- What is told of a scheme's panels. -/
def panR (s : Sc) : List Pn := if rightM s = true then panL s else []
def numR (s : Sc) : List Int := if rightM s = true then (pcL s).map Pc.n else []
theorem panR_length (s : Sc) : (panR s).length ≤ 64 ∧ (numR s).length = (panR s).length := by
  unfold panR numR
  by_cases h : rightM s = true
  · obtain ⟨_, _, hm, _, _⟩ := right_bounds h
    rw [if_pos h, if_pos h, panL_length, List.length_map, pcL_length]
    omega
  · rw [if_neg h, if_neg h]
    simp
theorem panR_at (s : Sc) (i : Nat) (hi : i < (panR s).length) : ∃ (k : Nat) (p : Pn), (panR s)[i]? = some p ∧ p.leaf = (k : Int) ∧ k < (numR s).length ∧ (numR s)[k]? = some (i : Int) := by
  unfold panR numR at *
  by_cases h : rightM s = true
  · rw [if_pos h] at hi ⊢
    rw [if_pos h]
    obtain ⟨k, hk, e1, e2⟩ := panL_at s i (by rw [pcL_length, ← panL_length]; exact hi)
    refine ⟨k, _, e2, rfl, by rw [List.length_map]; exact hk, ?_⟩
    rw [List.getElem?_map, List.getElem?_eq_getElem hk]
    simp [e1]
  · rw [if_neg h] at hi
    exact absurd hi (Nat.not_lt_zero _)
theorem unfOf_any (s : Sc) (a : Option Addr) (cap : Nat) (w : World) (hc : s.c ≤ 9223372036854775807) (hr : s.r ≤ 9223372036854775807) (hl : s.l.length ≤ 1000000) (hI : InL w a s.l) :
    Calls Try.prog 7 #[.agg #[.int .i64 s.c, .int .i64 s.r, .slice a s.l.length cap]] w fun e w' => ∃ b, e = .returned (.slice b (panR s).length (panR s).length) ∧ GotP w' b (panR s) ∧ Below w.heap.size w w' := by
  cases h : rightM s
  · have e : panR s = [] := by unfold panR; rw [if_neg (by simp [h])]
    rw [e]
    exact (unfOf_no s a cap w hc hr hl hI h).mono fun _ _ ⟨h1, h2⟩ => ⟨none, h1, .inl rfl, h2⟩
  · have e : panR s = panL s := by unfold panR; rw [if_pos h]
    rw [e, panL_length, ← pcL_length]
    exact (unfOf_yes s a cap w hI h).mono fun _ _ ⟨g, h1, h2, _, h3⟩ => ⟨_, h1, .inr ⟨g, rfl, h2⟩, h3⟩
theorem refOf_any (s : Sc) (a : Option Addr) (cap : Nat) (w : World) (hc : s.c ≤ 9223372036854775807) (hr : s.r ≤ 9223372036854775807) (hl : s.l.length ≤ 1000000) (hI : InL w a s.l) :
    Calls Try.prog 8 #[.agg #[.int .i64 s.c, .int .i64 s.r, .slice a s.l.length cap]] w fun e w' => ∃ b, e = .returned (.slice b (panR s).length (panR s).length) ∧ GotP w' b (panR s) ∧ Below w.heap.size w w' := by
  cases h : rightM s
  · have e : panR s = [] := by unfold panR; rw [if_neg (by simp [h])]
    rw [e]
    exact (refOf_no s a cap w hc hr hl hI h).mono fun _ _ ⟨⟨b, h1⟩, h2⟩ => ⟨b, h1, .inl rfl, h2⟩
  · have e : panR s = panL s := by unfold panR; rw [if_pos h]
    rw [e, panL_length, ← pcL_length]
    exact (refOf_yes s a cap w hI h).mono fun _ _ ⟨g, h1, h2, _, h3⟩ => ⟨_, h1, .inr ⟨g, rfl, h2⟩, h3⟩
/-- v is a slice that holds the numbers N. -/
def GotN (w : World) (b : Option Addr) (N : List Int) : Prop := N = [] ∨ ∃ g, b = some ⟨g, 0, none⟩ ∧ ∀ i x, N[i]? = some x → w.cell? ⟨g, i, none⟩ = some (.int .i64 x)
theorem GotN.up {w w' : World} {b : Option Addr} {N : List Int} (h : GotN w b N) (hb : Below w.heap.size w w') : GotN w' b N := h.imp id fun ⟨g, e, h⟩ => ⟨g, e, fun i x hx => bl_cell hb (h i x hx)⟩
theorem unfOrder_any (s : Sc) (a : Option Addr) (cap : Nat) (w : World) (hc : s.c ≤ 9223372036854775807) (hr : s.r ≤ 9223372036854775807) (hl : s.l.length ≤ 1000000) (hI : InL w a s.l) :
    Calls Try.prog 9 #[.agg #[.int .i64 s.c, .int .i64 s.r, .slice a s.l.length cap]] w fun e w' => ∃ b c, e = .returned (.slice b (numR s).length c) ∧ GotN w' b (numR s) ∧ Below w.heap.size w w' := by
  cases h : rightM s
  · have e : numR s = [] := by unfold numR; rw [if_neg (by simp [h])]
    rw [e]
    exact (unfOrder_no s a cap w hc hr hl hI h).mono fun _ _ ⟨h1, h2⟩ => ⟨none, 0, h1, .inl rfl, h2⟩
  · have e : numR s = (pcL s).map Pc.n := by unfold numR; rw [if_pos h]
    rw [e]
    refine (unfOrder_yes s a cap w hI h).mono fun e w' ⟨v, h1, h2, h3⟩ => ?_
    have h0 : 0 < ((pcL s).map Pc.n).length := by
      obtain ⟨hc, hr, _, _, _⟩ := right_bounds h
      have hp : 1 ≤ s.c * s.r := Int.le_trans (by omega) (Int.mul_le_mul hc.1 hr.1 (by omega) (by omega) : 1 * 1 ≤ s.c * s.r)
      rw [List.length_map, pcL_length]
      omega
    obtain ⟨g, cap', rfl, _, _, hc⟩ := rowI_form h2 h0
    exact ⟨_, _, h1, .inr ⟨g, rfl, hc⟩, h3⟩
end Go.Proofs.Ytnofncibplgmpaa
