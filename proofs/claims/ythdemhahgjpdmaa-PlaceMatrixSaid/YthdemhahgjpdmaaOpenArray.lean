/- An array of ints that came in, opened: its cells are ints, as many as the type says. -/
import Derived.Test.YthdemhahgjpdmaaProg
import Derived.OpenShut
import Derived.ProofKit
namespace Go.Proofs.Ythdemhahgjpdmaa
open Go.RowKit Go.ChangeShapes
set_option linter.unusedVariables false

theorem trod_ints_array {H : Type} {enc : TypeId × Value → H} {P : Program} {w : World} {base : Nat} {spare : Nat → Bool} {held : Bool} {fuel : Nat} {t e : TypeId} {n : Nat} {cs : List Value} {x : DataW H × List MemPlace}
    (ht : P.underlying t = some (.array n e)) (he : P.underlying e = some (.int .i64)) (hce : P.cellsOf e = 1) (hct : P.cellsOf t = n) (h : DataW.trod enc P w base spare held fuel t cs = some x) :
    ∃ zs : List Int, zs.length = n ∧ cs = zs.map (Value.int .i64) ∧ ∀ z ∈ zs, (Lit.int .i64 z).wf = true := by
  obtain ⟨xs, m, rfl, _, hl, hx, hi⟩ := DataW.trod_array ht h
  rw [hct] at hl
  rw [hce] at hi
  have each : ∀ i, i < n → ∃ z, cs[i]? = some (.int .i64 z) ∧ (Lit.int .i64 z).wf = true := fun i hin => by
    have hc := hi i hin
    have hxi : xs[i]? = some xs[i] := List.getElem?_eq_getElem (by omega)
    rw [hxi, Nat.mul_one] at hc
    have hd : (cs.drop i).take 1 = [cs[i]] := by rw [List.drop_eq_getElem_cons (by omega)]; rfl
    rw [hd] at hc
    obtain ⟨z, ez, _, hz⟩ := DataW.trod_int he hc
    refine ⟨z, ?_, hz⟩
    rw [List.getElem?_eq_getElem (by omega)]
    simp at ez
    rw [ez]
  clear hi h hx
  have all : ∀ (k : Nat) (l : List Value), l.length = k → (∀ i, i < k → ∃ z, l[i]? = some (.int .i64 z) ∧ (Lit.int .i64 z).wf = true) → ∃ zs : List Int, zs.length = k ∧ l = zs.map (Value.int .i64) ∧ ∀ z ∈ zs, (Lit.int .i64 z).wf = true := by
    intro k
    induction k with
    | zero => intro l hl _; exact ⟨[], rfl, List.eq_nil_of_length_eq_zero hl, fun _ h => by cases h⟩
    | succ k ih =>
      intro l hl hall
      cases l with
      | nil => cases hl
      | cons v l =>
        obtain ⟨z, hz, wz⟩ := hall 0 (by omega)
        obtain ⟨zs, h1, h2, h3⟩ := ih l (by simpa using hl) fun i hik => by have := hall (i + 1) (by omega); simpa using this
        simp at hz
        subst hz
        subst h2
        exact ⟨z :: zs, by simp [h1], rfl, fun y hy => (List.mem_cons.1 hy).elim (fun e => e ▸ wz) (h3 y)⟩
  exact all n cs hl each
theorem list6 {α : Type} (l : List α) (h : l.length = 6) : ∃ a b c d e f, l = [a, b, c, d, e, f] := by
  match l, h with
  | [a, b, c, d, e, f], _ => exact ⟨a, b, c, d, e, f, rfl⟩
end Go.Proofs.Ythdemhahgjpdmaa
