/- But for two blocks, all that was there is as it was; cells laid one by one. -/
import Derived.Test.YtnofncibplgmpaaBoxes
import Derived.IntWalk
import Derived.Laws.AppendOwn
import Derived.Laws.IdiomCopy
import Derived.RangeFuncBox
import Derived.Deep.Upon
import Derived.Lib.Hide
namespace Go.Proofs.Ytnofncibplgmpaa
open Go.RowKit
set_option linter.unusedVariables false

/-- But for the blocks D and R, all that was there is as it was. -/
structure But (D R : Nat) (w w' : World) : Prop where
  os : w'.os = w.os
  tape : w'.tape = w.tape
  output : w'.output = w.output
  size : w.heap.size ≤ w'.heap.size
  block : ∀ k, k < w.heap.size → k ≠ D → k ≠ R → w'.heap[k]? = w.heap[k]?
theorem But.of {D R : Nat} {w w' : World} (h : Below w.heap.size w w') : But D R w w' := ⟨h.os, h.tape, h.output, h.size, fun k hk _ _ => h.block k hk⟩
theorem But.refl (D R : Nat) (w : World) : But D R w w := But.of (Below.refl _ _)
theorem But.trans {D R R' : Nat} {w w' w'' : World} (h : But D R w w') (k : But D R' w' w'') (hR : R' = D ∨ R' = R ∨ w.heap.size ≤ R') : But D R w w'' :=
  ⟨k.os.trans h.os, k.tape.trans h.tape, k.output.trans h.output, Nat.le_trans h.size k.size, fun j hj h1 h2 => (k.block j (Nat.lt_of_lt_of_le hj h.size) h1 (by rcases hR with r | r | r <;> omega)).trans (h.block j hj h1 h2)⟩
theorem But.set {D R : Nat} {w w' : World} (h : But D R w w') (o : Nat) (v : Value) : But D R w (w'.setCell ⟨D, o, none⟩ v) :=
  ⟨h.os, h.tape, h.output, by have := h.size; simpa [World.setCell] using this, fun k hk h1 h2 => (Below.heap_setCell _ _ _ _ h1).trans (h.block k hk h1 h2)⟩
/-- Below what the two blocks are, nothing has changed. -/
theorem But.below {D R B : Nat} {w w' : World} (h : But D R w w') (hB : B ≤ w.heap.size) (h1 : B ≤ D) (h2 : B ≤ R) : Below B w w' := ⟨h.os, h.tape, h.output, h.size, fun k hk => h.block k (by omega) (by omega) (by omega)⟩
/-- Cells laid one by one: the block is as great as it was. -/
theorem heap_setCells_at (b : Nat) : ∀ (vs : List Value) (o : Nat) (w : World) (cur : Array Value) (t : TypeId), w.heap[b]? = some (.cells cur t (0, 0)) → ∃ cur', (w.setCells b o vs).heap[b]? = some (.cells cur' t (0, 0)) ∧ cur'.size = cur.size
  | [], _, w, cur, t, h => ⟨cur, h, rfl⟩
  | v :: r, o, w, cur, t, h => by
    have h1 : (w.setCell ⟨b, o, none⟩ v).heap[b]? = some (.cells (cur.setIfInBounds o v) t (0, 0)) := by
      obtain ⟨hlt, hk⟩ := Array.getElem?_eq_some_iff.1 h
      show (w.heap.modify b _)[b]? = _
      rw [Array.getElem?_eq_getElem (by rw [Array.size_modify]; exact hlt), Array.getElem_modify_self, hk]
      rfl
    obtain ⟨cur', h2, h3⟩ := heap_setCells_at b r (o + 1) _ _ t h1
    exact ⟨cur', h2, by simpa using h3⟩
theorem setCells_but (D b o : Nat) (vs : List Value) (w : World) : But D b w (w.setCells b o vs) := by
  have h : ∀ (vs : List Value) (o : Nat) (w : World), (w.setCells b o vs).os = w.os ∧ (w.setCells b o vs).tape = w.tape ∧ (w.setCells b o vs).output = w.output ∧ w.heap.size ≤ (w.setCells b o vs).heap.size := by
    intro vs
    induction vs with
    | nil => intro o w; exact ⟨rfl, rfl, rfl, Nat.le_refl _⟩
    | cons v r ih =>
      intro o w
      obtain ⟨h1, h2, h3, h4⟩ := ih (o + 1) (w.setCell ⟨b, o, none⟩ v)
      exact ⟨h1, h2, h3, by simpa [World.setCell, World.setCells] using h4⟩
  obtain ⟨h1, h2, h3, h4⟩ := h vs o w
  exact ⟨h1, h2, h3, h4, fun k hk _ hne => World.heap_setCells_other w b o vs hk hne⟩
theorem But.comm {D R : Nat} {w w' : World} (h : But D R w w') : But R D w w' := ⟨h.os, h.tape, h.output, h.size, fun k hk h1 h2 => h.block k hk h2 h1⟩
theorem But.more {D R : Nat} {w w' : World} (h : But R R w w') : But D R w w' := ⟨h.os, h.tape, h.output, h.size, fun k hk _ h2 => h.block k hk h2 h2⟩
theorem row_frozen {w : World} {R : Nat} {cur : Array Value} {t : TypeId} (h : w.heap[R]? = some (.cells cur t (0, 0))) (j : Nat) : w.frozen? ⟨R, j, none⟩ = false := by simp [World.frozen?, h]
theorem row_some {w : World} {R : Nat} {cur : Array Value} {t : TypeId} (h : w.heap[R]? = some (.cells cur t (0, 0))) (j : Nat) (hj : j < cur.size) : (w.cell? ⟨R, j, none⟩).isSome = true := by simp [World.cell?, h, hj]
theorem drew_but (D R : Nat) (w : World) : But D R w w.drew := ⟨rfl, rfl, rfl, Nat.le_refl _, fun _ _ _ _ => rfl⟩
theorem alloc_but (D R : Nat) (w : World) (o : Obj) : But D R w (w.alloc o) := But.of (up_alloc (Below.refl _ _) o)
theorem cells_out {w : World} {b o : Nat} {vs : List Value} {j : Nat} (h : j < o ∨ o + vs.length ≤ j) : (w.setCells b o vs).cell? ⟨b, j, none⟩ = w.cell? ⟨b, j, none⟩ := World.cell?_setCells_out b vs o w _ (fun _ _ => h)
theorem cell_new (w : World) (cur : Array Value) (t : TypeId) (j : Nat) : (w.alloc (.cells cur t)).cell? ⟨w.heap.size, j, none⟩ = cur[j]? := by simp [go_sem]
theorem heap_new (w : World) (o : Obj) : (w.alloc o).heap[w.heap.size]? = some o := World.alloc_heap_new w o
end Go.Proofs.Ytnofncibplgmpaa
