/- Lists of numbers, as they come in and as a deck keeps them; what a call leaves as it was. -/
import Derived.Test.YtiekhpeekhibeaaProg
import Derived.Test.YtiekhpeekhibeaaBoxes
import Derived.IntWalk
import Derived.Laws.AppendOwn
import Derived.Laws.IdiomCopy
import Derived.RangeFuncBox
import Derived.Deep.Upon
import Derived.Lib.Hide
namespace Go.Proofs.Ytiekhpeekhibeaa
open Go.RowKit
set_option linter.unusedVariables false

theorem Try.infoInt : (Try.prog.info? 3).map (fun i => (i.zero, i.size, i.bytes)) = some (some (.int .i64 0), 1, 8) := by kernel_rfl
/-- The numbers as cells. -/
def enc (l : List Int) : List Value := l.map (Value.int .i64)
theorem enc_length (l : List Int) : (enc l).length = l.length := by simp [enc]
theorem enc_get {l : List Int} {j : Nat} {u : Value} (h : (enc l)[j]? = some u) : ∃ x, l[j]? = some x ∧ u = .int .i64 x := by
  simp [enc] at h
  obtain ⟨x, h1, h2⟩ := h
  exact ⟨x, h1, h2.symm⟩
theorem enc_one {l : List Int} : ∀ u ∈ enc l, u.oneCell' = true := by
  intro u hu
  obtain ⟨x, _, rfl⟩ := List.mem_map.1 hu
  rfl
theorem enc_append (l m : List Int) : enc (l ++ m) = enc l ++ enc m := by simp [enc]

/-- The numbers of a slice that lies at a. -/
def Nums (w : World) (a : Option Addr) (l : List Int) : Prop := l = [] ∨ ∃ b off, a = some ⟨b, off, none⟩ ∧ ∀ j x, l[j]? = some x → w.cell? ⟨b, off + j, none⟩ = some (.int .i64 x)
theorem Nums.nil {w : World} {a : Option Addr} : Nums w a [] := .inl rfl
theorem Nums.up {w w' : World} {a : Option Addr} {l : List Int} (h : Nums w a l) (hb : Below w.heap.size w w') : Nums w' a l := by
  rcases h with h | ⟨b, off, e, h⟩
  · exact .inl h
  · exact .inr ⟨b, off, e, fun j x hx => bl_cell hb (h j x hx)⟩
theorem Nums.take {w : World} {a : Option Addr} {l : List Int} (h : Nums w a l) (k : Nat) : Nums w a (l.take k) := by
  rcases h with rfl | ⟨b, off, e, h⟩
  · exact .inl (by simp)
  · refine .inr ⟨b, off, e, fun j x hx => h j x ?_⟩
    rw [List.getElem?_take] at hx
    split at hx
    · exact hx
    · cases hx
theorem Nums.drop {w : World} {b off : Nat} {l : List Int} (h : Nums w (some ⟨b, off, none⟩) l) (k : Nat) : Nums w (some ⟨b, off + k, none⟩) (l.drop k) := by
  rcases h with rfl | ⟨b', off', e, h⟩
  · exact .inl (by simp)
  · cases e
    refine .inr ⟨b, off + k, rfl, fun j x hx => ?_⟩
    rw [List.getElem?_drop] at hx
    rw [Nat.add_assoc]
    exact h _ x hx
theorem Nums.cell {w : World} {a : Option Addr} {l : List Int} (h : Nums w a l) (hl : 0 < l.length) : ∃ b off, a = some ⟨b, off, none⟩ ∧ ∀ j x, l[j]? = some x → w.cell? ⟨b, off + j, none⟩ = some (.int .i64 x) := by
  rcases h with rfl | h
  · simp at hl
  · exact h
/-- A list of the call's own, as any list. -/
theorem Nums.own {w : World} {base : Nat} {v : Value} {l : List Int} (h : w.ownsRow base 3 1 v l.length (enc l)) : ∃ a c, v = .slice a l.length c ∧ Nums w a l ∧ (∀ p, a = some p → p.block < w.heap.size ∧ base ≤ p.block) := by
  rcases h.2 with ⟨rfl, h0⟩ | ⟨g, cap, cur, rfl, hb, hg, hcap, hmax, hsz, htk⟩
  · exact ⟨none, 0, by rw [h0], .inl (List.eq_nil_of_length_eq_zero h0), fun p hp => by cases hp⟩
  · refine ⟨some ⟨g, 0, none⟩, cap, rfl, .inr ⟨g, 0, rfl, fun j x hx => ?_⟩, fun p hp => by cases hp; exact ⟨(Array.getElem?_eq_some_iff.1 hg).1, hb⟩⟩
    have := h.cells (g := g) rfl j (.int .i64 x) (by simp [enc, hx])
    rwa [show (⟨g, 0, none⟩ : Addr).add j = ⟨g, 0 + j, none⟩ by unfold Addr.add; split <;> simp_all] at this

/-- But for the blocks D and R, all that was there is as it was. -/
structure But (D R : Nat) (w w' : World) : Prop where
  os : w'.os = w.os
  tape : w'.tape = w.tape
  output : w'.output = w.output
  size : w.heap.size ≤ w'.heap.size
  block : ∀ k, k < w.heap.size → k ≠ D → k ≠ R → w'.heap[k]? = w.heap[k]?
theorem But.of {D R : Nat} {w w' : World} (h : Below w.heap.size w w') : But D R w w' := ⟨h.os, h.tape, h.output, h.size, fun k hk _ _ => h.block k hk⟩
theorem But.refl (D R : Nat) (w : World) : But D R w w := But.of (Below.refl _ _)
theorem But.trans {D R R' : Nat} {w w' w'' : World} (h : But D R w w') (k : But D R' w' w'') (hR : R' = D ∨ R' = R ∨ w.heap.size ≤ R') : But D R w w'' :=
  ⟨k.os.trans h.os, k.tape.trans h.tape, k.output.trans h.output, Nat.le_trans h.size k.size, fun j hj h1 h2 => (k.block j (Nat.lt_of_lt_of_le hj h.size) h1 (by rcases hR with r | r | r <;> omega)).trans (h.block j hj h1 h2)⟩
theorem But.set {D R : Nat} {w w' : World} (h : But D R w w') (o : Nat) (v : Value) : But D R w (w'.setCell ⟨D, o, none⟩ v) :=
  ⟨h.os, h.tape, h.output, by have := h.size; simpa [World.setCell] using this, fun k hk h1 h2 => (Below.heap_setCell _ _ _ _ h1).trans (h.block k hk h1 h2)⟩
/-- Below what the two blocks are, nothing has changed. -/
theorem But.below {D R B : Nat} {w w' : World} (h : But D R w w') (hB : B ≤ w.heap.size) (h1 : B ≤ D) (h2 : B ≤ R) : Below B w w' := ⟨h.os, h.tape, h.output, h.size, fun k hk => h.block k (by omega) (by omega) (by omega)⟩
theorem Nums.but {D R : Nat} {w w' : World} {a : Option Addr} {l : List Int} (h : Nums w a l) (hb : But D R w w') (hn : ∀ p, a = some p → p.block ≠ D ∧ p.block ≠ R) : Nums w' a l := by
  rcases h with h | ⟨b, off, rfl, h⟩
  · exact .inl h
  · obtain ⟨h1, h2⟩ := hn _ rfl
    exact .inr ⟨b, off, rfl, fun j x hx => (World.cell?_of_block (hb.block b (World.block_lt_of_cell? w _ (h j x hx)) h1 h2)).trans (h j x hx)⟩

/-- v is a slice of numbers that may be written, and grows as far as its block goes: it lies in R (a nil one lies nowhere). -/
def RowAt (w : World) (R : Nat) (v : Value) (l : List Int) : Prop :=
  (v = .slice none 0 0 ∧ l = []) ∨ ∃ off c cur, v = .slice (some ⟨R, off, none⟩) l.length c ∧ w.heap[R]? = some (.cells cur 3 (0, 0)) ∧ l.length ≤ c ∧ c ≤ maxLen ∧ off + c ≤ cur.size ∧ ∀ j x, l[j]? = some x → w.cell? ⟨R, off + j, none⟩ = some (.int .i64 x)
theorem RowAt.kept {w w' : World} {R : Nat} {v : Value} {l : List Int} (h : RowAt w R v l) (hb : R < w.heap.size → w'.heap[R]? = w.heap[R]?) : RowAt w' R v l := by
  rcases h with h | ⟨off, c, cur, hv, hc, h1, h2, h3, h4⟩
  · exact .inl h
  · have e := hb (Array.getElem?_eq_some_iff.1 hc).1
    exact .inr ⟨off, c, cur, hv, e.trans hc, h1, h2, h3, fun j x hx => (World.cell?_of_block (a := ⟨R, off + j, none⟩) e).trans (h4 j x hx)⟩
theorem RowAt.nums {w : World} {R : Nat} {v : Value} {l : List Int} (h : RowAt w R v l) : ∃ a c, v = .slice a l.length c ∧ Nums w a l ∧ l.length ≤ c ∧ c ≤ maxLen := by
  rcases h with ⟨rfl, rfl⟩ | ⟨off, c, cur, rfl, hc, h1, h2, h3, h4⟩
  · exact ⟨none, 0, rfl, .inl rfl, Nat.le_refl _, Nat.zero_le _⟩
  · exact ⟨_, c, rfl, .inr ⟨R, off, rfl, h4⟩, h1, h2⟩
theorem RowAt.of {w : World} {base : Nat} {v : Value} {l : List Int} (h : w.ownsRow base 3 1 v l.length (enc l)) (D : Nat) : ∃ R, RowAt w R v l ∧ ((v = .slice none 0 0 ∧ R = D) ∨ (base ≤ R ∧ R < w.heap.size ∧ v ≠ .slice none 0 0)) := by
  obtain ⟨a, c, e, hn, _⟩ := Nums.own h
  rcases h.2 with ⟨rfl, h0⟩ | ⟨g, cap, cur, rfl, hb, hg, hcap, hmax, hsz, htk⟩
  · exact ⟨D, .inl ⟨rfl, List.eq_nil_of_length_eq_zero h0⟩, .inl ⟨rfl, rfl⟩⟩
  · refine ⟨g, .inr ⟨0, cap, cur, rfl, hg, hcap, hmax, by omega, ?_⟩, .inr ⟨hb, (Array.getElem?_eq_some_iff.1 hg).1, by simp⟩⟩
    intro j x hx
    rcases hn with h0 | ⟨b, off, e1, h1⟩
    · rw [h0] at hx; simp at hx
    · cases e
      cases e1
      exact h1 j x hx

/-- A deck: its box at D, its things in R (D itself, where it has no list). -/
def Dk (w : World) (D R : Nat) (l : List Int) : Prop := ∃ v, Boxed w D 43 v ∧ RowAt w R v l ∧ (v = .slice none 0 0 → R = D)
theorem Dk.ltD {w : World} {D R : Nat} {l : List Int} (h : Dk w D R l) : D < w.heap.size := by
  obtain ⟨v, h1, _⟩ := h
  exact h1.lt
theorem Dk.ltR {w : World} {D R : Nat} {l : List Int} (h : Dk w D R l) : R < w.heap.size := by
  obtain ⟨v, h1, h2, h3⟩ := h
  rcases h2 with ⟨rfl, _⟩ | ⟨off, c, cur, hv, hc, _⟩
  · rw [h3 rfl]; exact h1.lt
  · exact (Array.getElem?_eq_some_iff.1 hc).1
theorem Dk.but {w w' : World} {D R D' R' : Nat} {l : List Int} (h : Dk w D R l) (hb : But D' R' w w') (h1 : D ≠ D') (h2 : D ≠ R') (h3 : R ≠ D') (h4 : R ≠ R') : Dk w' D R l := by
  obtain ⟨v, k1, k2, k3⟩ := h
  exact ⟨v, (hb.block D k1.lt h1 h2).trans k1, k2.kept (fun hl => hb.block R hl h3 h4), k3⟩
theorem Dk.up {w w' : World} {D R : Nat} {l : List Int} (h : Dk w D R l) (hb : Below w.heap.size w w') : Dk w' D R l := by
  obtain ⟨v, k1, k2, k3⟩ := h
  exact ⟨v, (hb.block D k1.lt).trans k1, k2.kept (fun hl => hb.block R hl), k3⟩
theorem box_row {w : World} {D R : Nat} {v : Value} {cur : Array Value} {fr : Nat × Nat} (h : Boxed w D 43 v) (k : w.heap[R]? = some (.cells cur 3 fr)) : R ≠ D := by
  rintro rfl
  have := (show w.heap[R]? = _ from h).symm.trans k
  simp at this
/-- What a call makes of the deck at D, whose things were in R: now it has l; nothing else has changed. -/
def Made (w : World) (D R : Nat) (l : List Int) (w' : World) : Prop := ∃ R', Dk w' D R' l ∧ (R' = D ∨ R' = R ∨ w.heap.size ≤ R') ∧ But D R w w'
/-- A new list is laid into the deck's box. -/
theorem Dk.put {w w' : World} {D R R' : Nat} {l l' : List Int} {v : Value} (h : Dk w D R l) (hb : But D R w w') (hD : Boxed w' D 43 v) (v' : Value) (hr : RowAt w' R' v' l') (hn : v' = .slice none 0 0 → R' = D) (hR : R' = D ∨ R' = R ∨ w.heap.size ≤ R') :
    Made w D R l' (w'.setCell ⟨D, 0, none⟩ v') := by
  refine ⟨R', ⟨v', hD.set v', ?_, hn⟩, hR, hb.set 0 v'⟩
  rcases hr with h0 | ⟨off, c, cur, hv, hc, h1, h2, h3, h4⟩
  · exact .inl h0
  · have hne := box_row hD hc
    have e : (w'.setCell ⟨D, 0, none⟩ v').heap[R']? = w'.heap[R']? := Below.heap_setCell _ _ _ _ hne
    exact .inr ⟨off, c, cur, hv, e.trans hc, h1, h2, h3, fun j x hx => (World.cell?_of_block (a := ⟨R', off + j, none⟩) e).trans (h4 j x hx)⟩

/-- Cells laid one by one: the block is as great as it was. -/
theorem heap_setCells_at (b : Nat) : ∀ (vs : List Value) (o : Nat) (w : World) (cur : Array Value) (t : TypeId), w.heap[b]? = some (.cells cur t (0, 0)) → ∃ cur', (w.setCells b o vs).heap[b]? = some (.cells cur' t (0, 0)) ∧ cur'.size = cur.size
  | [], _, w, cur, t, h => ⟨cur, h, rfl⟩
  | v :: r, o, w, cur, t, h => by
    have h1 : (w.setCell ⟨b, o, none⟩ v).heap[b]? = some (.cells (cur.setIfInBounds o v) t (0, 0)) := by
      obtain ⟨hlt, hk⟩ := Array.getElem?_eq_some_iff.1 h
      show (w.heap.modify b _)[b]? = _
      rw [Array.getElem?_eq_getElem (by rw [Array.size_modify]; exact hlt), Array.getElem_modify_self, hk]
      rfl
    obtain ⟨cur', h2, h3⟩ := heap_setCells_at b r (o + 1) _ _ t h1
    exact ⟨cur', h2, by simpa using h3⟩
theorem setCells_but (D b o : Nat) (vs : List Value) (w : World) : But D b w (w.setCells b o vs) := by
  have h : ∀ (vs : List Value) (o : Nat) (w : World), (w.setCells b o vs).os = w.os ∧ (w.setCells b o vs).tape = w.tape ∧ (w.setCells b o vs).output = w.output ∧ w.heap.size ≤ (w.setCells b o vs).heap.size := by
    intro vs
    induction vs with
    | nil => intro o w; exact ⟨rfl, rfl, rfl, Nat.le_refl _⟩
    | cons v r ih =>
      intro o w
      obtain ⟨h1, h2, h3, h4⟩ := ih (o + 1) (w.setCell ⟨b, o, none⟩ v)
      exact ⟨h1, h2, h3, by simpa [World.setCell, World.setCells] using h4⟩
  obtain ⟨h1, h2, h3, h4⟩ := h vs o w
  exact ⟨h1, h2, h3, h4, fun k hk _ hne => World.heap_setCells_other w b o vs hk hne⟩
theorem But.comm {D R : Nat} {w w' : World} (h : But D R w w') : But R D w w' := ⟨h.os, h.tape, h.output, h.size, fun k hk h1 h2 => h.block k hk h2 h1⟩
theorem But.more {D R : Nat} {w w' : World} (h : But R R w w') : But D R w w' := ⟨h.os, h.tape, h.output, h.size, fun k hk _ h2 => h.block k hk h2 h2⟩
end Go.Proofs.Ytiekhpeekhibeaa
