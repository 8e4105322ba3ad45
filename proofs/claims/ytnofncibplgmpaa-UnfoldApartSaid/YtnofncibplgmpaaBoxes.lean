/- Boxes: a block of the memory whose cells are known and which may be written; it stays so in every later world. -/
import Derived.Test.YtnofncibplgmpaaLater
import Derived.WalkSpells
import Derived.Deep.RegionHeld
namespace Go.Proofs.Ytnofncibplgmpaa
open Go.RowKit
set_option linter.unusedVariables false

/-- The block B holds just vs, from its first cell on, and may be written. -/
def Bx (w : World) (B : Nat) (vs : List Value) : Prop := (∀ j v, vs[j]? = some v → w.cell? ⟨B, j, none⟩ = some v) ∧ ∀ j, w.frozen? ⟨B, j, none⟩ = false
theorem Bx.cell {w : World} {B : Nat} {vs : List Value} (h : Bx w B vs) (j : Nat) {v : Value} (hj : vs[j]? = some v) : w.cell? ⟨B, j, none⟩ = some v := h.1 j v hj
theorem Bx.free {w : World} {B : Nat} {vs : List Value} (h : Bx w B vs) (j : Nat) : w.frozen? ⟨B, j, none⟩ = false := h.2 j
theorem Bx.up {w w' : World} {B : Nat} {v0 : Value} {vs : List Value} (h : Bx w B (v0 :: vs)) (hb : Below w.heap.size w w') : Bx w' B (v0 :: vs) :=
  ⟨fun j v hj => bl_cell hb (h.1 j v hj), fun j => (kept_marks hb B j (World.block_lt_of_cell? w _ (h.1 0 v0 rfl))).trans (h.2 j)⟩
theorem Bx.alloc {w : World} {B : Nat} {v0 : Value} {vs : List Value} (h : Bx w B (v0 :: vs)) (o : Obj) : Bx (w.alloc o) B (v0 :: vs) := h.up (up_alloc (Below.refl _ _) o)
theorem Bx.new (w : World) (t : TypeId) (vs : List Value) : Bx (w.alloc (.cells vs.toArray t)) w.heap.size vs := by
  refine ⟨fun j v hj => ?_, fun j => ?_⟩
  · have hj' := hj
    obtain ⟨hlt, rfl⟩ := List.getElem?_eq_some_iff.1 hj'
    simp [go_sem, hlt]
  · simp [go_sem]
theorem Bx.far {w : World} {B : Nat} {vs : List Value} (h : Bx w B vs) {p : Addr} (hp : p.block ≠ B) (x : Value) : Bx (w.setCell p x) B vs :=
  ⟨fun j v hj => (World.cell?_setCell_far _ _ _ _ hp).trans (h.1 j v hj), fun j => by simp only [World.frozen?_setCell]; exact h.2 j⟩
theorem Bx.set {w : World} {B : Nat} {vs : List Value} (h : Bx w B vs) (i : Nat) (x : Value) : Bx (w.setCell ⟨B, i, none⟩ x) B (vs.set i x) := by
  refine ⟨fun j v hj => ?_, fun j => by simp only [World.frozen?_setCell]; exact h.2 j⟩
  rw [List.getElem?_set] at hj
  by_cases e : i = j
  · subst e
    simp only [if_true] at hj
    split at hj
    · rename_i hlt
      obtain rfl := Option.some.inj hj
      exact World.cell?_setCell_same w _ _ (h.1 i _ (List.getElem?_eq_getElem hlt))
    · cases hj
  · rw [if_neg e] at hj
    rw [World.cell?_setCell_other _ _ _ _ (by intro k; exact e (by injection k))]
    exact h.1 j v hj
theorem Bx.set3 {w : World} {B : Nat} {a0 a1 a2 : Value} (h : Bx w B [a0, a1, a2]) (v0 v1 v2 : Value) : Bx (((w.setCell ⟨B, 0, none⟩ v0).setCell ⟨B, 1, none⟩ v1).setCell ⟨B, 2, none⟩ v2) B [v0, v1, v2] := ((h.set 0 v0).set 1 v1).set 2 v2
theorem Bx.set2 {w : World} {B : Nat} {a0 a1 : Value} (h : Bx w B [a0, a1]) (v0 v1 : Value) : Bx ((w.setCell ⟨B, 0, none⟩ v0).setCell ⟨B, 1, none⟩ v1) B [v0, v1] := (h.set 0 v0).set 1 v1
theorem Bx.set4 {w : World} {B : Nat} {a0 a1 a2 a3 : Value} (h : Bx w B [a0, a1, a2, a3]) (v0 v1 v2 v3 : Value) : Bx ((((w.setCell ⟨B, 0, none⟩ v0).setCell ⟨B, 1, none⟩ v1).setCell ⟨B, 2, none⟩ v2).setCell ⟨B, 3, none⟩ v3) B [v0, v1, v2, v3] := (((h.set 0 v0).set 1 v1).set 2 v2).set 3 v3
theorem Bx.drew {w : World} {B : Nat} {v0 : Value} {vs : List Value} (h : Bx w B (v0 :: vs)) : Bx w.drew B (v0 :: vs) := h.up (up_drew (Below.refl _ _))
theorem Bx.lt {w : World} {B : Nat} {v0 : Value} {vs : List Value} (h : Bx w B (v0 :: vs)) : B < w.heap.size := World.block_lt_of_cell? w _ (h.1 0 v0 rfl)
end Go.Proofs.Ytnofncibplgmpaa
