/- A slice of structs whose fields are ints, bools or strings that came in, read cell by cell. -/
import Derived.Deep.Slices
import Derived.Deep.Fields
import Derived.OpenShut
import Derived.Lib.SmallJoins
namespace Go.Proofs.Ytnofncibplgmpaa
open Go.Deep Go.ChangeShapes Go.WideShapes
set_option linter.unusedVariables false

/-- What is known of a cell of this type. -/
def FitV (u : Option TypeDesc) (v : Value) : Prop := match u with
  | some (.int k) => ∃ z, v = .int k z ∧ (Lit.int k z).wf = true
  | some .bool => ∃ b, v = .bool b
  | some .string => ∃ s : ByteArray, v = .string s ∧ s.size ≤ maxLen
  | _ => True

/-- Of each number below n there is one: a list of them. -/
theorem list_of {α : Type} {Q : Nat → α → Prop} : ∀ (n : Nat), (∀ i, i < n → ∃ x, Q i x) → ∃ l : List α, l.length = n ∧ ∀ i x, l[i]? = some x → Q i x
  | 0, _ => ⟨[], rfl, fun i x h => by simp at h⟩
  | n + 1, h => by
    obtain ⟨l, hl, hq⟩ := list_of n (fun i hi => h i (by omega))
    obtain ⟨x, hx⟩ := h n (by omega)
    refine ⟨l ++ [x], by simp [hl], fun i y hy => ?_⟩
    rcases Nat.lt_or_ge i n with hi | hi
    · rw [List.getElem?_append_left (by omega)] at hy
      exact hq i y hy
    · rw [List.getElem?_append_right (by omega), List.getElem?_singleton] at hy
      split at hy
      · cases hy
        obtain rfl : i = n := by omega
        exact hx
      · cases hy

section
variable {H : Type} {enc : TypeId × Value → H} {P : Program} {w : World} {base : Nat} {spare : Nat → Bool} {held : Bool}

theorem trod_fit {t : TypeId} {fuel : Nat} {cs : List Value} {x : DataW H × List MemPlace} (hc : cs.length = 1) (h : DataW.trod enc P w base spare held fuel t cs = some x) : ∃ v, cs = [v] ∧ FitV (P.underlying t) v := by
  obtain ⟨v, rfl⟩ := List.length_eq_one_iff.1 hc
  refine ⟨v, rfl, ?_⟩
  unfold FitV
  split
  · rename_i k hk
    obtain ⟨z, hz, _, hw⟩ := DataW.trod_int hk h
    exact ⟨z, by simpa using hz, hw⟩
  · rename_i hk
    obtain ⟨b, hb, _⟩ := DataW.trod_bool hk h
    exact ⟨b, by simpa using hb⟩
  · rename_i hk
    obtain ⟨s, hs, _, hw⟩ := DataW.trod_string hk h
    exact ⟨s, by simpa using hs, hw⟩
  · trivial

theorem fit_int {t : TypeId} {k : IntKind} {p : Addr} (ht : P.underlying t = some (.int k)) (h : ∃ v, w.cell? p = some v ∧ FitV (P.underlying t) v) : ∃ z, w.cell? p = some (.int k z) ∧ (Lit.int k z).wf = true := by
  obtain ⟨v, hc, hv⟩ := h
  rw [ht] at hv
  obtain ⟨z, rfl, hz⟩ := hv
  exact ⟨z, hc, hz⟩
theorem fit_bool {t : TypeId} {p : Addr} (ht : P.underlying t = some .bool) (h : ∃ v, w.cell? p = some v ∧ FitV (P.underlying t) v) : ∃ z, w.cell? p = some (.bool z) := by
  obtain ⟨v, hc, hv⟩ := h
  rw [ht] at hv
  obtain ⟨z, rfl⟩ := hv
  exact ⟨z, hc⟩
theorem fit_text {t : TypeId} {p : Addr} (ht : P.underlying t = some .string) (h : ∃ v, w.cell? p = some v ∧ FitV (P.underlying t) v) : ∃ z : ByteArray, w.cell? p = some (.string z) ∧ z.size ≤ maxLen := by
  obtain ⟨v, hc, hv⟩ := h
  rw [ht] at hv
  obtain ⟨z, rfl, hz⟩ := hv
  exact ⟨z, hc, hz⟩

/-- Every field of every element holds what its type says. -/
theorem open_cell_structs {t e : TypeId} {fs : Array Field} {fuel : Nat} {cs : List Value} {x : DataW H × List MemPlace} (ht : P.underlying t = some (.slice e)) (he : P.underlying e = some (.struct fs))
    (hone : oneCellFields P fs = true) (ce : P.cellsOf e = fs.size) (h : DataW.trod enc P w base spare held fuel t cs = some x) :
    cs = [.slice none 0 0] ∨ ∃ (a : Addr) (len cap : Nat), cs = [.slice (some a) len cap] ∧ len ≤ cap ∧ cap ≤ maxLen ∧
      ∀ i, i < len → ∀ j f, fs[j]? = some f → ∃ v, w.cell? (a.add (i * fs.size + j)) = some v ∧ FitV (P.underlying f.type) v := by
  rcases open_slice ht h with ⟨h0, _⟩ | ⟨a, len, cap, m, n, D, Pl, rfl, hb, hl, hm, hmm, rfl, hx⟩
  · exact .inl h0
  right
  have hlm : len ≤ m := by rw [hmm]; split <;> omega
  refine ⟨a, len, cap, rfl, hl, hm, fun i hi j f hfj => ?_⟩
  have hj : j < fs.size := (Array.getElem?_eq_some_iff.1 hfj).1
  obtain ⟨cs', h1, h2⟩ := hx i (by omega)
  rw [ce] at h1
  obtain ⟨_, hlen, hcell⟩ := World.cells?_some h1
  obtain ⟨xs, k, _, _, _, hxl, hf⟩ := DataW.trod_struct he h2
  obtain ⟨o, c⟩ := hone_of hone j _ hfj
  have g := hf j _ hfj
  rw [o, c, List.getElem?_eq_getElem (by omega)] at g
  obtain ⟨v, hv, hw⟩ := trod_fit (by rw [List.length_take, List.length_drop]; omega) g
  have e1 := hcell j hj
  rw [Go.Deep.add_add] at e1
  have e2 : cs'[j]? = some v := by
    have : ((cs'.drop j).take 1)[0]? = some v := by rw [hv]; rfl
    simpa using this
  exact ⟨v, e1.trans e2, hw⟩
end
end Go.Proofs.Ytnofncibplgmpaa
