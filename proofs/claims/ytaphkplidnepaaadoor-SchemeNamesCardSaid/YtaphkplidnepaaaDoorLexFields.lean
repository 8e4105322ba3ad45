/- What lex's take and Fields answer. -/
import Derived.Test.YtaphkplidnepaaaDoorLexSmall
import Derived.Test.YtaphkplidnepaaaDoorBoxes
namespace Go.Proofs.YtaphkplidnepaaaDoor
open Go.RowKit
set_option linter.unusedVariables false

theorem Bx.kept {w w' : World} {B : Nat} {vs : List Value} (h : Bx w B vs) (hb : w'.heap[B]? = w.heap[B]?) : Bx w' B vs :=
  ⟨fun j v hj => (World.cell?_of_block (a := ⟨B, j, none⟩) hb).trans (h.1 j v hj), fun j => by
    have := h.2 j
    unfold World.frozen? at this ⊢
    rw [hb]
    exact this⟩
/-- But for the block B, all is as it was. -/
def Only (B : Nat) (w w' : World) : Prop := Below B w w' ∧ w'.heap.size = w.heap.size ∧ ∀ k, k ≠ B → w'.heap[k]? = w.heap[k]?
theorem only_refl (B : Nat) (w : World) : Only B w w := ⟨Below.refl _ _, rfl, fun _ _ => rfl⟩
theorem only_set (B o : Nat) (w : World) (v : Value) : Only B w (w.setCell ⟨B, o, none⟩ v) := ⟨(Below.refl B w).setCell (p := ⟨B, o, none⟩) (Nat.le_refl _) v, by simp [World.setCell], fun k hk => Below.heap_setCell _ _ _ _ hk⟩

/-- What take makes of the two truths. -/
def TookQ (B : Nat) (wi fr : Bool) (w : World) (e : Ending) (w' : World) : Prop := e = .returned (.tuple #[]) ∧ Bx w' B [.bool wi, .bool fr] ∧ Only B w w'
theorem oct92 (c : UInt8) : ((c.toNat : Int) == 92) = (c == 92) := oct_eq c 92
theorem oct34 (c : UInt8) : ((c.toNat : Int) == 34) = (c == 34) := oct_eq c 34
theorem oct35 (c : UInt8) : ((c.toNat : Int) == 35) = (c == 35) := oct_eq c 35
theorem oct_apart (c : UInt8) : ¬ ((c == 92) = true ∧ (c == 34) = true) := by
  rintro ⟨h1, h2⟩
  simp at h1 h2
  rw [h1] at h2
  exact absurd h2 (by decide)
/-- What a call answers that tells fields apart. -/
def GivesF (F : Option (List (List UInt8))) (w : World) (e : Ending) (w' : World) : Prop := ∃ v, e = .returned (.tuple #[v, .bool F.isSome]) ∧ TxS w' v (F.getD []) ∧ Below w.heap.size w w'

def FieldsRel (s : ByteArray) (w : World) (F : Option (List (List UInt8))) (l f n i : Value) (wr : World) : Prop :=
  n = .int .i64 (s.size : Int) ∧ ∃ (k from_ : Nat) (out : List (List UInt8)) (wi fr : Bool), k ≤ s.size ∧ from_ ≤ k ∧ out.length ≤ k ∧ i = .int .i64 (k : Int) ∧ f = .int .i64 (from_ : Int) ∧ rowT wr (w.heap.size + 1) l out ∧ Bx wr w.heap.size [.bool wi, .bool fr] ∧ Below w.heap.size w wr ∧ w.heap.size + 1 ≤ wr.heap.size ∧
    (wi = false → fr = false) ∧ fieldsM (s.data.toList.drop k) out ((s.data.toList.take k).drop from_) wi fr = F

theorem ret_fields {v : Value} {F G : Option (List (List UInt8))} {b : Bool} (h : F = G) (hb : F.isSome = b) : Ending.returned (.tuple #[v, .bool b]) = .returned (.tuple #[v, .bool G.isSome]) := by rw [← h, hb]

end Go.Proofs.YtaphkplidnepaaaDoor
