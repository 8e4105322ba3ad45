/- Part 1 of the texts that the proofs of this seat share: Later, Boxes, But, Wide, Job, NumIn, QuietTail, StillRun, QuickOrder, BoundsNums, BoundsCode, BoundsFirst, RefIn, StepCode, StepSp, SchemeSc. -/
import Derived.WalkKit
import Derived.Below
import Derived.Deep.QuietTactic
import Derived.BigQuiet
import Derived.WalkSpells
import Derived.Deep.RegionHeld
import Derived.IntWalk
import Derived.Laws.AppendOwn
import Derived.Laws.IdiomCopy
import Derived.RangeFuncBox
import Derived.Deep.Upon
import Derived.Lib.Hide
import Derived.Deep.MidRow
import Derived.Laws.Tables
import GoSem.Core.Value
import Derived.Test.YtcjnhgafifkfeaaDoorProg
import Derived.RowKit3
import Derived.StillTail
import Derived.KernelRfl
import Derived.OwnWalk
/- Worlds that have grown since: every old block is as it was. One walk, in the order of the text, of a region that draws its order and holds calls that make memory of their own. -/
namespace Go.Proofs.YtcjnhgafifkfeaaDoor
open Go.RowKit
set_option linter.unusedVariables false

theorem bl_trans {B : Nat} {a b c : World} (h : Below B a b) (k : Below b.heap.size b c) (hB : B ≤ b.heap.size) : Below B a c := h.trans (k.mono hB)
theorem bl_cell {w w' : World} {p : Addr} {v : Value} (h : Below w.heap.size w w') (hc : w.cell? p = some v) : w'.cell? p = some v := (h.cell (World.block_lt_of_cell? w p hc)).trans hc
theorem up_alloc {a w : World} (h : Below a.heap.size a w) (o : Obj) : Below a.heap.size a (w.alloc o) := h.alloc h.size o
theorem up_drew {a w : World} (h : Below a.heap.size a w) : Below a.heap.size a w.drew := h.drew
theorem up_trans {a b c : World} (h : Below a.heap.size a b) (k : Below b.heap.size b c) : Below a.heap.size a c := h.trans (k.mono h.size)
theorem up_set {a w : World} (h : Below a.heap.size a w) {p : Addr} (hp : a.heap.size ≤ p.block) (u : Value) : Below a.heap.size a (w.setCell p u) := h.setCell hp u
theorem kept_cells {W w1 : World} (hb : Below W.heap.size W w1) (b o : Nat) (h : b < W.heap.size) : w1.cell? ⟨b, o, none⟩ = W.cell? ⟨b, o, none⟩ := hb.cell (p := ⟨b, o, none⟩) h
theorem kept_marks {W w1 : World} (hb : Below W.heap.size W w1) (b o : Nat) (h : b < W.heap.size) : w1.frozen? ⟨b, o, none⟩ = W.frozen? ⟨b, o, none⟩ := hb.frozen (p := ⟨b, o, none⟩) h

/-- A world that w has become: nothing that was there has changed. -/
structure Later (w : World) where
  now : World
  up : Below w.heap.size w now
instance (w : World) : Nonempty (Later w) := ⟨⟨w, Below.refl _ _⟩⟩
theorem Later.cell {w : World} (u : Later w) {p : Addr} {v : Value} (h : w.cell? p = some v) : u.now.cell? p = some v := bl_cell u.up h
theorem Later.call {P : Program} {f : FuncId} {args : Array Value} {w : World} {u : Later w} {v : Value} (h : Calls P f args u.now fun e w' => e = .returned v ∧ Below u.now.heap.size u.now w') :
    Calls P f args u.now fun e w'' => e = .returned v ∧ ∃ u' : Later w, w'' = u'.now := h.mono fun _ _ ⟨he, hb⟩ => ⟨he, ⟨_, up_trans u.up hb⟩, rfl⟩
theorem Later.next {w : World} {u : Later w} {w' : World} (h : Below u.now.heap.size u.now w') : ∃ u' : Later w, w' = u'.now := ⟨⟨_, up_trans u.up h⟩, rfl⟩
theorem later_start {w : World} {G : World → Prop} (h : ∀ u : Later w, G u.now) : G w := h ⟨w, Below.refl _ _⟩
/-- The region, in the order of the text; what stands behind it is asked of every later world. -/
theorem wp_region_later {P : Program} {id : Nat} {Q : Exit → Act → World → Prop} {a : Act} {w : World} {u : Later w} {l : List Oper} (hm : P.follows .mixedOrders = true) (hB : Region.lexB .any l.toArray = true)
    (h : wpQuiet P l.toArray (fun w' => ∃ u : Later w, w' = u.now) (fun a' => ∀ w', (∃ u : Later w, w' = u.now) → Q .normal a' w') l a) : (Code.region id l.toArray true).wp P Q a u.now :=
  wp_region_quiet (C := fun w' => ∃ u : Later w, w' = u.now) hm hB ⟨⟨_, up_drew u.up⟩, rfl⟩ (by simpa using h)
end Go.Proofs.YtcjnhgafifkfeaaDoor
/- Boxes: a block of the memory whose cells are known and which may be written; it stays so in every later world. -/
namespace Go.Proofs.YtcjnhgafifkfeaaDoor
open Go.RowKit
set_option linter.unusedVariables false

/-- The block B holds just vs, from its first cell on, and may be written. -/
def Bx (w : World) (B : Nat) (vs : List Value) : Prop := (∀ j v, vs[j]? = some v → w.cell? ⟨B, j, none⟩ = some v) ∧ ∀ j, w.frozen? ⟨B, j, none⟩ = false
theorem Bx.cell {w : World} {B : Nat} {vs : List Value} (h : Bx w B vs) (j : Nat) {v : Value} (hj : vs[j]? = some v) : w.cell? ⟨B, j, none⟩ = some v := h.1 j v hj
theorem Bx.free {w : World} {B : Nat} {vs : List Value} (h : Bx w B vs) (j : Nat) : w.frozen? ⟨B, j, none⟩ = false := h.2 j
theorem Bx.up {w w' : World} {B : Nat} {v0 : Value} {vs : List Value} (h : Bx w B (v0 :: vs)) (hb : Below w.heap.size w w') : Bx w' B (v0 :: vs) :=
  ⟨fun j v hj => bl_cell hb (h.1 j v hj), fun j => (kept_marks hb B j (World.block_lt_of_cell? w _ (h.1 0 v0 rfl))).trans (h.2 j)⟩
theorem Bx.alloc {w : World} {B : Nat} {v0 : Value} {vs : List Value} (h : Bx w B (v0 :: vs)) (o : Obj) : Bx (w.alloc o) B (v0 :: vs) := h.up (up_alloc (Below.refl _ _) o)
theorem Bx.new (w : World) (t : TypeId) (vs : List Value) : Bx (w.alloc (.cells vs.toArray t)) w.heap.size vs := by
  refine ⟨fun j v hj => ?_, fun j => ?_⟩
  · have hj' := hj
    obtain ⟨hlt, rfl⟩ := List.getElem?_eq_some_iff.1 hj'
    simp [go_sem, hlt]
  · simp [go_sem]
theorem Bx.far {w : World} {B : Nat} {vs : List Value} (h : Bx w B vs) {p : Addr} (hp : p.block ≠ B) (x : Value) : Bx (w.setCell p x) B vs :=
  ⟨fun j v hj => (World.cell?_setCell_far _ _ _ _ hp).trans (h.1 j v hj), fun j => by simp only [World.frozen?_setCell]; exact h.2 j⟩
theorem Bx.set {w : World} {B : Nat} {vs : List Value} (h : Bx w B vs) (i : Nat) (x : Value) : Bx (w.setCell ⟨B, i, none⟩ x) B (vs.set i x) := by
  refine ⟨fun j v hj => ?_, fun j => by simp only [World.frozen?_setCell]; exact h.2 j⟩
  rw [List.getElem?_set] at hj
  by_cases e : i = j
  · subst e
    simp only [if_true] at hj
    split at hj
    · rename_i hlt
      obtain rfl := Option.some.inj hj
      exact World.cell?_setCell_same w _ _ (h.1 i _ (List.getElem?_eq_getElem hlt))
    · cases hj
  · rw [if_neg e] at hj
    rw [World.cell?_setCell_other _ _ _ _ (by intro k; exact e (by injection k))]
    exact h.1 j v hj
theorem Bx.set3 {w : World} {B : Nat} {a0 a1 a2 : Value} (h : Bx w B [a0, a1, a2]) (v0 v1 v2 : Value) : Bx (((w.setCell ⟨B, 0, none⟩ v0).setCell ⟨B, 1, none⟩ v1).setCell ⟨B, 2, none⟩ v2) B [v0, v1, v2] := ((h.set 0 v0).set 1 v1).set 2 v2
theorem Bx.set2 {w : World} {B : Nat} {a0 a1 : Value} (h : Bx w B [a0, a1]) (v0 v1 : Value) : Bx ((w.setCell ⟨B, 0, none⟩ v0).setCell ⟨B, 1, none⟩ v1) B [v0, v1] := (h.set 0 v0).set 1 v1
theorem Bx.set4 {w : World} {B : Nat} {a0 a1 a2 a3 : Value} (h : Bx w B [a0, a1, a2, a3]) (v0 v1 v2 v3 : Value) : Bx ((((w.setCell ⟨B, 0, none⟩ v0).setCell ⟨B, 1, none⟩ v1).setCell ⟨B, 2, none⟩ v2).setCell ⟨B, 3, none⟩ v3) B [v0, v1, v2, v3] := (((h.set 0 v0).set 1 v1).set 2 v2).set 3 v3
theorem Bx.drew {w : World} {B : Nat} {v0 : Value} {vs : List Value} (h : Bx w B (v0 :: vs)) : Bx w.drew B (v0 :: vs) := h.up (up_drew (Below.refl _ _))
theorem Bx.lt {w : World} {B : Nat} {v0 : Value} {vs : List Value} (h : Bx w B (v0 :: vs)) : B < w.heap.size := World.block_lt_of_cell? w _ (h.1 0 v0 rfl)
end Go.Proofs.YtcjnhgafifkfeaaDoor
/- But for two blocks, all that was there is as it was; cells laid one by one. -/
namespace Go.Proofs.YtcjnhgafifkfeaaDoor
open Go.RowKit
set_option linter.unusedVariables false

/-- But for the blocks D and R, all that was there is as it was. -/
structure But (D R : Nat) (w w' : World) : Prop where
  os : w'.os = w.os
  tape : w'.tape = w.tape
  output : w'.output = w.output
  size : w.heap.size ≤ w'.heap.size
  block : ∀ k, k < w.heap.size → k ≠ D → k ≠ R → w'.heap[k]? = w.heap[k]?
theorem But.of {D R : Nat} {w w' : World} (h : Below w.heap.size w w') : But D R w w' := ⟨h.os, h.tape, h.output, h.size, fun k hk _ _ => h.block k hk⟩
theorem But.refl (D R : Nat) (w : World) : But D R w w := But.of (Below.refl _ _)
theorem But.trans {D R R' : Nat} {w w' w'' : World} (h : But D R w w') (k : But D R' w' w'') (hR : R' = D ∨ R' = R ∨ w.heap.size ≤ R') : But D R w w'' :=
  ⟨k.os.trans h.os, k.tape.trans h.tape, k.output.trans h.output, Nat.le_trans h.size k.size, fun j hj h1 h2 => (k.block j (Nat.lt_of_lt_of_le hj h.size) h1 (by rcases hR with r | r | r <;> omega)).trans (h.block j hj h1 h2)⟩
theorem But.set {D R : Nat} {w w' : World} (h : But D R w w') (o : Nat) (v : Value) : But D R w (w'.setCell ⟨D, o, none⟩ v) :=
  ⟨h.os, h.tape, h.output, by have := h.size; simpa [World.setCell] using this, fun k hk h1 h2 => (Below.heap_setCell _ _ _ _ h1).trans (h.block k hk h1 h2)⟩
/-- Below what the two blocks are, nothing has changed. -/
theorem But.below {D R B : Nat} {w w' : World} (h : But D R w w') (hB : B ≤ w.heap.size) (h1 : B ≤ D) (h2 : B ≤ R) : Below B w w' := ⟨h.os, h.tape, h.output, h.size, fun k hk => h.block k (by omega) (by omega) (by omega)⟩
/-- Cells laid one by one: the block is as great as it was. -/
theorem heap_setCells_at (b : Nat) : ∀ (vs : List Value) (o : Nat) (w : World) (cur : Array Value) (t : TypeId), w.heap[b]? = some (.cells cur t (0, 0)) → ∃ cur', (w.setCells b o vs).heap[b]? = some (.cells cur' t (0, 0)) ∧ cur'.size = cur.size
  | [], _, w, cur, t, h => ⟨cur, h, rfl⟩
  | v :: r, o, w, cur, t, h => by
    have h1 : (w.setCell ⟨b, o, none⟩ v).heap[b]? = some (.cells (cur.setIfInBounds o v) t (0, 0)) := by
      obtain ⟨hlt, hk⟩ := Array.getElem?_eq_some_iff.1 h
      show (w.heap.modify b _)[b]? = _
      rw [Array.getElem?_eq_getElem (by rw [Array.size_modify]; exact hlt), Array.getElem_modify_self, hk]
      rfl
    obtain ⟨cur', h2, h3⟩ := heap_setCells_at b r (o + 1) _ _ t h1
    exact ⟨cur', h2, by simpa using h3⟩
theorem setCells_but (D b o : Nat) (vs : List Value) (w : World) : But D b w (w.setCells b o vs) := by
  have h : ∀ (vs : List Value) (o : Nat) (w : World), (w.setCells b o vs).os = w.os ∧ (w.setCells b o vs).tape = w.tape ∧ (w.setCells b o vs).output = w.output ∧ w.heap.size ≤ (w.setCells b o vs).heap.size := by
    intro vs
    induction vs with
    | nil => intro o w; exact ⟨rfl, rfl, rfl, Nat.le_refl _⟩
    | cons v r ih =>
      intro o w
      obtain ⟨h1, h2, h3, h4⟩ := ih (o + 1) (w.setCell ⟨b, o, none⟩ v)
      exact ⟨h1, h2, h3, by simpa [World.setCell, World.setCells] using h4⟩
  obtain ⟨h1, h2, h3, h4⟩ := h vs o w
  exact ⟨h1, h2, h3, h4, fun k hk _ hne => World.heap_setCells_other w b o vs hk hne⟩
theorem But.comm {D R : Nat} {w w' : World} (h : But D R w w') : But R D w w' := ⟨h.os, h.tape, h.output, h.size, fun k hk h1 h2 => h.block k hk h2 h1⟩
theorem But.more {D R : Nat} {w w' : World} (h : But R R w w') : But D R w w' := ⟨h.os, h.tape, h.output, h.size, fun k hk _ h2 => h.block k hk h2 h2⟩
theorem row_frozen {w : World} {R : Nat} {cur : Array Value} {t : TypeId} (h : w.heap[R]? = some (.cells cur t (0, 0))) (j : Nat) : w.frozen? ⟨R, j, none⟩ = false := by simp [World.frozen?, h]
theorem row_some {w : World} {R : Nat} {cur : Array Value} {t : TypeId} (h : w.heap[R]? = some (.cells cur t (0, 0))) (j : Nat) (hj : j < cur.size) : (w.cell? ⟨R, j, none⟩).isSome = true := by simp [World.cell?, h, hj]
theorem drew_but (D R : Nat) (w : World) : But D R w w.drew := ⟨rfl, rfl, rfl, Nat.le_refl _, fun _ _ _ _ => rfl⟩
theorem alloc_but (D R : Nat) (w : World) (o : Obj) : But D R w (w.alloc o) := But.of (up_alloc (Below.refl _ _) o)
theorem cells_out {w : World} {b o : Nat} {vs : List Value} {j : Nat} (h : j < o ∨ o + vs.length ≤ j) : (w.setCells b o vs).cell? ⟨b, j, none⟩ = w.cell? ⟨b, j, none⟩ := World.cell?_setCells_out b vs o w _ (fun _ _ => h)
theorem cell_new (w : World) (cur : Array Value) (t : TypeId) (j : Nat) : (w.alloc (.cells cur t)).cell? ⟨w.heap.size, j, none⟩ = cur[j]? := by simp [go_sem]
theorem heap_new (w : World) (o : Obj) : (w.alloc o).heap[w.heap.size]? = some o := World.alloc_heap_new w o
end Go.Proofs.YtcjnhgafifkfeaaDoor
/- Structs and arrays of many cells, by value: loads, stores, results, without going through them cell by cell. -/
namespace Go.Proofs.YtcjnhgafifkfeaaDoor
open Go.RowKit
set_option linter.unusedVariables false

section
variable {P : Program} {ops : Array Oper} {rest : List Oper} {o : Oper} {a : Act} {w : World} {Q : Exit → Act → World → Prop}
theorem wpList_alloc_to (hg : o.guard = none) (ty : TypeId) (ho : o.op = .alloc ty) (v : Value) (w' : World) (hr : (Instr.alloc ty true (.tuple #[])).run P w = .ok v w') (h : wpList P ops Q rest (a.put o.dst v) w') : wpList P ops Q (o :: rest) a w :=
  wpList_plain hg fun _ hK => by
    unfold Oper.wp execOp
    simp only [ho, Sem.run_bind, hr, Result.andThen_ok]
    exact hK _ _ h
theorem wpList_build_to (hg : o.guard = none) (t : TypeId) (parts : Array (Nat × Operand)) (ho : o.op = .build t parts) (cells : Array Value) (hc : P.built t (parts.map fun (i, x) => (i, a.eval x)).toList = some cells) (h : wpList P ops Q rest (a.put o.dst (.agg cells)) w) : wpList P ops Q (o :: rest) a w :=
  wpList_build hg t parts ho (by rw [hc]; rfl) (by rw [hc]; exact h)
end

theorem Bx.range {w : World} {B : Nat} {vs : List Value} (h : Bx w B vs) : w.rangeAt B 0 vs := fun j v hj => by rw [Nat.zero_add]; exact h.1 j v hj
theorem Bx.some {w : World} {B : Nat} {vs : List Value} (h : Bx w B vs) : w.there B 0 vs.length := fun j hj => by
  rw [Nat.zero_add]
  exact ⟨by rw [h.1 j _ (List.getElem?_eq_getElem hj)]; rfl, h.2 j⟩
theorem there_up {w w' : World} {b o n : Nat} (h : w.there b o n) (hb : Below w.heap.size w w') : w'.there b o n := fun j hj => by
  obtain ⟨h1, h2⟩ := h j hj
  obtain ⟨v, hv⟩ := Option.isSome_iff_exists.1 h1
  exact ⟨by rw [bl_cell hb hv]; rfl, (kept_marks hb b _ (World.block_lt_of_cell? w _ hv)).trans h2⟩
theorem Bx.lowE {w : World} {B : Nat} {vs : List Value} (h : Bx w B vs) (h0 : 0 < vs.length) : B < w.heap.size := World.block_lt_of_cell? w _ (h.1 0 _ (List.getElem?_eq_getElem h0))
theorem Bx.later {w w' : World} {B : Nat} {vs : List Value} (h : Bx w B vs) (h0 : 0 < vs.length) (hb : Below w.heap.size w w') : Bx w' B vs :=
  ⟨fun j v hj => bl_cell hb (h.1 j v hj), fun j => (kept_marks hb B j (h.lowE h0)).trans (h.2 j)⟩
/-- All cells of a box written at once. -/
theorem Bx.sets {w : World} {B : Nat} {vs ws : List Value} (h : Bx w B vs) (hl : ws.length = vs.length) : Bx (w.setCells B 0 ws) B ws := by
  refine ⟨fun j v hj => ?_, fun j => by rw [World.frozen?_setCells]; exact h.2 j⟩
  have := World.rangeAt_setCells_same w B 0 ws (by rw [hl]; exact h.some) j v hj
  rwa [Nat.zero_add] at this
theorem below_setCells {w : World} {n B : Nat} (hB : n ≤ B) : ∀ (ws : List Value) (o : Nat) (w' : World), Below n w w' → Below n w (w'.setCells B o ws)
  | [], _, _, h => h
  | v :: r, o, w', h => below_setCells hB r (o + 1) _ (h.setCell (p := ⟨B, o, none⟩) hB v)
theorem sets_far {w : World} {B C : Nat} {vs : List Value} (h : Bx w C vs) (hne : C ≠ B) (o : Nat) (ws : List Value) : Bx (w.setCells B o ws) C vs := by
  refine ⟨fun j v hj => ?_, fun j => by rw [World.frozen?_setCells]; exact h.2 j⟩
  rw [World.cell?_setCells_out B ws o w _ (fun e _ => absurd e hne)]
  exact h.1 j v hj

/-- What a function answers whose one result is a struct, or an array, in a box. -/
theorem results_wide {P : Program} {fn : Func} {tmps : Array Value} {w : World} {s : Nat} {t : TypeId} (hr : fn.results = #[.cell s t]) (b : Nat) (ht : tmps.getD s undef = .pointer (some ⟨b, 0, none⟩)) (cs : List Value) (d : TypeDesc)
    (hc : w.rangeAt b 0 cs) (hu : P.underlying t = some d) (hd : d.isRow = true) (hi : (P.info? t).map (·.size) = some cs.length) : (results fn tmps).run P w = .ok (.agg cs.toArray) w := by
  unfold results
  rw [hr]
  have ht' : tmps[s]?.getD undef = .pointer (some ⟨b, 0, none⟩) := by simpa using ht
  simp [ht', asAddr, run_loadVar_mid w b 0 t cs d hc hu hd hi]
end Go.Proofs.YtcjnhgafifkfeaaDoor
/- A job, as the cells of its struct: a title, 28 numbers, a scheme, a list of words; from what to what the numbers may be. -/
namespace Go.Proofs.YtcjnhgafifkfeaaDoor
open Go.RowKit
set_option linter.unusedVariables false

/-- In which of a job's cells its i-th number stands. -/
def cellJ (i : Nat) : Nat := if i < 11 then i + 1 else i + 5
/-- A job's cells: its title, its numbers, its scheme's columns and rows and steps, its list of words. -/
def jobL (t : ByteArray) (n : Nat → Int) (c r : Int) (fv lv : Value) : List Value :=
  .string t :: .int .i64 (n 0) :: .int .i64 (n 1) :: .int .i64 (n 2) :: .int .i64 (n 3) :: .int .i64 (n 4) :: .int .i64 (n 5) :: .int .i64 (n 6) :: .int .i64 (n 7) :: .int .i64 (n 8) :: .int .i64 (n 9) :: .int .i64 (n 10) :: .int .i64 c :: .int .i64 r :: fv :: lv :: .int .i64 (n 11) :: .int .i64 (n 12) :: .int .i64 (n 13) :: .int .i64 (n 14) :: .int .i64 (n 15) :: .int .i64 (n 16) :: .int .i64 (n 17) :: .int .i64 (n 18) :: .int .i64 (n 19) :: .int .i64 (n 20) :: .int .i64 (n 21) :: .int .i64 (n 22) :: .int .i64 (n 23) :: .int .i64 (n 24) :: .int .i64 (n 25) :: .int .i64 (n 26) :: .int .i64 (n 27) :: []
theorem jobL_length (t : ByteArray) (n : Nat → Int) (c r : Int) (fv lv : Value) : (jobL t n c r fv lv).length = 33 := rfl
theorem num_ways {i : Nat} (h : i < 28) : i = 0 ∨ i = 1 ∨ i = 2 ∨ i = 3 ∨ i = 4 ∨ i = 5 ∨ i = 6 ∨ i = 7 ∨ i = 8 ∨ i = 9 ∨ i = 10 ∨ i = 11 ∨ i = 12 ∨ i = 13 ∨ i = 14 ∨ i = 15 ∨ i = 16 ∨ i = 17 ∨ i = 18 ∨ i = 19 ∨ i = 20 ∨ i = 21 ∨ i = 22 ∨ i = 23 ∨ i = 24 ∨ i = 25 ∨ i = 26 ∨ i = 27 := by omega
theorem job_at (t : ByteArray) (n : Nat → Int) (c r : Int) (fv lv : Value) {i : Nat} (h : i < 28) : (jobL t n c r fv lv)[cellJ i]? = some (.int .i64 (n i)) := by
  rcases num_ways h with rfl | rfl | rfl | rfl | rfl | rfl | rfl | rfl | rfl | rfl | rfl | rfl | rfl | rfl | rfl | rfl | rfl | rfl | rfl | rfl | rfl | rfl | rfl | rfl | rfl | rfl | rfl | rfl <;> rfl
theorem cellJ_lt {i : Nat} (h : i < 28) : cellJ i < 33 := by unfold cellJ; split <;> omega
theorem cellJ_inj {i j : Nat} (h : cellJ i = cellJ j) : i = j := by unfold cellJ at h; split at h <;> split at h <;> omega
/-- The numbers with z in the i-th place. -/
def setN (n : Nat → Int) (i : Nat) (z : Int) : Nat → Int := fun j => if j = i then z else n j
theorem job_set (t : ByteArray) (n : Nat → Int) (c r : Int) (fv lv : Value) {i : Nat} (h : i < 28) (z : Int) : (jobL t n c r fv lv).set (cellJ i) (.int .i64 z) = jobL t (setN n i z) c r fv lv := by
  rcases num_ways h with rfl | rfl | rfl | rfl | rfl | rfl | rfl | rfl | rfl | rfl | rfl | rfl | rfl | rfl | rfl | rfl | rfl | rfl | rfl | rfl | rfl | rfl | rfl | rfl | rfl | rfl | rfl | rfl <;> rfl
theorem job_one (t : ByteArray) (n : Nat → Int) (c r : Int) (a : Option Addr) (k d : Nat) (a' : Option Addr) (k' d' : Nat) : (jobL t n c r (.slice a k d) (.slice a' k' d')).toArray.all (·.oneCell') = true := by
  rw [List.all_toArray]; rfl
/-- All numbers, in order. -/
def numsL (n : Nat → Int) : List Int := (List.range 28).map n
/-- From what, and to what, numbers may be. -/
def fromL : List Int := [1, -5000000, -5000000, 1, 1, 0, 0, 0, 0, 0, 1, 1, 1, 1, 0, 0, 0, 0, 0, 1, 0, 0, 0, 0, 0, 0, 1, 0]
def toL : List Int := [100000, 5000000, 5000000, 5000000, 5000000, 5000000, 5000000, 5000000, 5000000, 5000000, 4, 4, 5000000, 5000000, 5000000, 5000000, 5000000, 100000, 1000, 1000, 3, 5000000, 5000000, 5000000, 5000000, 5000000, 1000, 5000000]
def lowJ (i : Nat) : Int := fromL.getD i 0
def topJ (i : Nat) : Int := toL.getD i 0
/-- May the i-th number be what it is? -/
def okJ (n : Nat → Int) (i : Nat) : Bool := decide (lowJ i ≤ n i) && decide (n i ≤ topJ i)
/-- The first number that may not be; -1: all may. -/
def firstJ (n : Nat → Int) : Int := match (List.range 28).find? (fun i => !okJ n i) with
  | some i => (i : Int)
  | none => -1
/-- The i-th number; 0: there is none. -/
def getJ (n : Nat → Int) (i : Int) : Int := if 0 ≤ i ∧ i < 28 then n i.toNat else 0
/-- The numbers with z in the i-th place, if there is one. -/
def setJ (n : Nat → Int) (i z : Int) : Nat → Int := if 0 ≤ i ∧ i < 28 then setN n i.toNat z else n

theorem firstJ_at {n : Nat → Int} {k : Nat} (hk : k < 28) (h : ∀ j, j < k → okJ n j = true) (h0 : okJ n k = false) : firstJ n = (k : Int) := by
  have : (List.range 28).find? (fun i => !okJ n i) = some k := by
    rw [List.find?_range_eq_some]
    exact ⟨by simp [h0], List.mem_range.2 hk, fun j hj => by simp [h j hj]⟩
  unfold firstJ
  rw [this]
theorem firstJ_none {n : Nat → Int} (h : ∀ j, j < 28 → okJ n j = true) : firstJ n = -1 := by
  have : (List.range 28).find? (fun i => !okJ n i) = none := by
    rw [List.find?_range_eq_none]
    exact fun j hj => by simp [h j hj]
  unfold firstJ
  rw [this]
theorem okJ_snoc {n : Nat → Int} {k : Nat} (h : ∀ j, j < k → okJ n j = true) (h0 : okJ n k = true) : ∀ j, j < k + 1 → okJ n j = true := fun j hj => by
  by_cases e : j = k
  · rw [e]; exact h0
  · exact h j (by omega)
theorem numsL_at (n : Nat → Int) {i : Nat} (h : i < 28) : (numsL n)[i]? = some (n i) := by
  unfold numsL
  rw [List.getElem?_map, List.getElem?_range h]
  rfl
theorem numsL_length (n : Nat → Int) : (numsL n).length = 28 := by simp [numsL]
theorem low_at {i : Nat} (h : i < 28) : fromL[i]? = some (lowJ i) := by
  rcases num_ways h with rfl | rfl | rfl | rfl | rfl | rfl | rfl | rfl | rfl | rfl | rfl | rfl | rfl | rfl | rfl | rfl | rfl | rfl | rfl | rfl | rfl | rfl | rfl | rfl | rfl | rfl | rfl | rfl <;> rfl
theorem top_at {i : Nat} (h : i < 28) : toL[i]? = some (topJ i) := by
  rcases num_ways h with rfl | rfl | rfl | rfl | rfl | rfl | rfl | rfl | rfl | rfl | rfl | rfl | rfl | rfl | rfl | rfl | rfl | rfl | rfl | rfl | rfl | rfl | rfl | rfl | rfl | rfl | rfl | rfl <;> rfl
theorem low_bd (i : Nat) : -5000000 ≤ lowJ i ∧ lowJ i ≤ 1 := by
  by_cases h : i < 28
  · rcases num_ways h with rfl | rfl | rfl | rfl | rfl | rfl | rfl | rfl | rfl | rfl | rfl | rfl | rfl | rfl | rfl | rfl | rfl | rfl | rfl | rfl | rfl | rfl | rfl | rfl | rfl | rfl | rfl | rfl <;> decide
  · have : lowJ i = 0 := by unfold lowJ; simp [List.getD, List.getElem?_eq_none (show fromL.length ≤ i from by show 28 ≤ i; omega)]
    omega
theorem top_bd (i : Nat) : 0 ≤ topJ i ∧ topJ i ≤ 5000000 := by
  by_cases h : i < 28
  · rcases num_ways h with rfl | rfl | rfl | rfl | rfl | rfl | rfl | rfl | rfl | rfl | rfl | rfl | rfl | rfl | rfl | rfl | rfl | rfl | rfl | rfl | rfl | rfl | rfl | rfl | rfl | rfl | rfl | rfl <;> decide
  · have : topJ i = 0 := by unfold topJ; simp [List.getD, List.getElem?_eq_none (show toL.length ≤ i from by show 28 ≤ i; omega)]
    omega
end Go.Proofs.YtcjnhgafifkfeaaDoor
/- What num.In answers, for every three ints. -/
namespace Go.Proofs.YtcjnhgafifkfeaaDoor
open Go.RowKit

theorem in_any (n lo hi : Int) (w : World) :
    Calls Tryd.prog 23 #[.int .i64 n, .int .i64 lo, .int .i64 hi] w fun e w' => e = .returned (.bool (decide (lo ≤ n) && decide (n ≤ hi))) ∧ w = w' := by
  by_cases h1 : lo ≤ n <;> by_cases h2 : n ≤ hi
  all_goals
    go_enter Tryd.func23, Tryd.ntmps23
    go_wp2
    go_ret
    exact ⟨by simp [h1, h2], rfl⟩
end Go.Proofs.YtcjnhgafifkfeaaDoor
/- A region that draws its order, whose head reads and calls (the calls may make memory) and whose tail, in one forced order, writes: one walk of the head in the order of the text, in every world of a class, then one plain walk of the tail. -/
namespace Go.Proofs.YtcjnhgafifkfeaaDoor
open Go.RowKit
set_option linter.unusedVariables false

section
variable {P : Program} {ops : Array Oper} {C : World → Prop}

/-- Whatever order the head comes up in, as long as f operations are left of it; L is asked behind them. -/
def headAny (P : Program) (ops : Array Oper) (C : World → Prop) (n : Nat) (L : Array Bool → Act → Prop) : Nat → Array Bool → Act → Prop
  | 0, s, a => L s a
  | f + 1, s, a => Region.ready .any ops s ≠ [] ∧ ∀ i ∈ Region.ready .any ops s, i < n ∧ qOp P ops C i (headAny P ops C n L f (s.setIfInBounds i true)) a

theorem headAny_wp {n g : Nat} {L : Array Bool → Act → Prop} {Q : Exit → Act → World → Prop} (hL : ∀ s a w, C w → L s a → wpAny P .any ops Q g s a w) :
    ∀ (f : Nat) (s : Array Bool) (a : Act) (w : World), C w → headAny P ops C n L f s a → wpAny P .any ops Q (f + g) s a w := by
  intro f
  induction f with
  | zero => intro s a w hw h; rw [Nat.zero_add]; exact hL _ _ _ hw h
  | succ f ih =>
    intro s a w hw h
    rw [show f + 1 + g = f + g + 1 by omega]
    exact ⟨fun h0 => absurd h0 h.1, fun i hi => wpOp_of_qOp hw (fun a' w' hw' h' => ih _ a' w' hw' h') (h.2 i hi).2⟩

/-- An operation of the head that may come up now may be taken first. -/
theorem headAny_swap {n i : Nat} {oi : Oper} {v : Value} {L : Array Bool → Act → Prop} (hi : ops[i]? = some oi) (hsel : ∀ (j : Nat) (o : Oper) cs b, ops[j]? = some o → o.op ≠ .select cs b)
    (hs : Region.sinkB .any ops n = true) (hc : Region.chainB .any ops n = true) (hn : n < ops.size) (hin : i < n) (hdone : ∀ s a, L s a → ∀ j ∈ Region.ready .any ops s, n ≤ j) :
    ∀ (f : Nat) (s : Array Bool) (a : Act), HeadInv .any ops n s →
      (∀ j oj, ops[j]? = some oj → j ≠ i → s.getD j true = false → (∀ e ∈ oj.after, Region.binds .any e = true → e.on ≠ i) → oi.apart ops oj = true) →
      i ∈ Region.ready .any ops s → YieldsIn P ops C oi v a → headAny P ops C n L f (s.setIfInBounds i true) (a.put oi.dst v) → headAny P ops C n L (f + 1) s a := by
  intro f
  induction f with
  | zero =>
    intro s a inv _ hr hy H
    have inHead : ∀ j ∈ Region.ready .any ops s, j < n := fun j hj => Nat.lt_of_not_le fun h => tail_waits hs hc hn inv _ i rfl hin (mem_ready.1 hr).1 j h hj
    refine ⟨fun h => (by rw [h] at hr; cases hr), fun j hj => ⟨inHead j hj, ?_⟩⟩
    by_cases e : j = i
    · subst e; exact hy.qOp hi H
    · exact absurd (hdone _ _ H j (ready_mono hj e)) (by have := inHead j hj; omega)
  | succ f ih =>
    intro s a inv free hr hy H
    have hun := (mem_ready.1 hr).1
    have inHead : ∀ j ∈ Region.ready .any ops s, j < n := fun j hj => Nat.lt_of_not_le fun h => tail_waits hs hc hn inv _ i rfl hin hun j h hj
    refine ⟨fun h => (by rw [h] at hr; cases hr), fun j hj => ⟨inHead j hj, ?_⟩⟩
    by_cases e : j = i
    · subst e; exact hy.qOp hi H
    · obtain ⟨ju, oj, ho, before⟩ := mem_ready.1 hj
      have waits : ∀ x ∈ oj.after, Region.binds .any x = true → x.on ≠ i := fun x hx hb he => by
        have := before x hx hb
        rw [he, getD_both hun] at this
        cases this
      refine qOp_mono (fun a' h' => ih (s.setIfInBounds j true) a' (inv.set hj (inHead j hj)) (fun k ok hk ki hu no => free k ok hk ki ?_ no) (ready_mono hr (Ne.symm e)) h'.1 ?_)
        (qOp_put ho (free j oj ho e ju waits) (fun cs b => hsel i oi cs b hi) (fun cs b => hsel j oj cs b ho) hy (H.2 j (ready_mono hj e)).2)
      · by_cases jk : j = k
        · subst jk; exact ju
        · rwa [getD_set_ne true jk] at hu
      · rw [Array.setIfInBounds_comm _ _ e]; exact h'.2

theorem headAny_lex {n g : Nat} {K : Act → Prop} (hsel : Region.noSelect ops = true) (hs : Region.sinkB .any ops n = true) (hc : Region.chainB .any ops n = true) (hn : n < ops.size) :
    ∀ (l : List Oper) (k : Nat) (s : Array Bool) (a : Act), (∀ j, j < l.length → l[j]? = ops[k + j]?) → k + l.length = n → HeadInv .any ops n s → Region.lexHead .any ops g l.length k s = true → wpQuiet P ops C K l a →
    headAny P ops C n (fun s' a' => Region.seqB .any ops g n s' = true ∧ K a') l.length s a := by
  intro l
  induction l with
  | nil =>
    intro k s a _ hk _ hB h
    obtain rfl : k = n := by simpa using hk
    exact ⟨by simpa [Region.lexHead] using hB, h⟩
  | cons o l ih =>
    intro k s a hl hk inv hB h
    have h0 : ops[k]? = some o := by simpa using (hl 0 (by simp)).symm
    simp only [List.length_cons, Region.lexHead, Bool.and_eq_true] at hB
    simp only [List.length_cons] at hk
    have hr : k ∈ Region.ready .any ops s := by simpa using hB.1.1
    obtain ⟨v, hy, hK⟩ := yieldsIn_of_qOp (K := wpQuiet P ops C K l) h0 (by unfold qOp; simp only [h0]; exact h)
    exact headAny_swap h0 (Region.noSelect_spec hsel) hs hc hn (by omega) (fun s' a' h' => seqB_ready h'.1) l.length s a inv (Region.free_spec h0 hB.1.2) hr hy
      (ih (k + 1) _ _ (fun j hj => by have := hl (j + 1) (by simp; omega); simpa [Nat.add_assoc, Nat.add_comm 1 j] using this) (by omega) (inv.set hr (by omega)) hB.2 hK)
end

/-- The head, n operations, in the order of the text in every world of the class; then the tail. -/
theorem wp_region_head_tail {P : Program} {id : Nat} {C : World → Prop} {Q : Exit → Act → World → Prop} {a : Act} {w : World} {l : List Oper} (n : Nat) (hm : P.follows .mixedOrders = true) (hB : Region.lexTailB .any l.toArray n = true)
    (hC : C w.drew) (h : wpQuiet P l.toArray C (fun a' => ∀ w', C w' → wpList P l.toArray Q (l.drop n) a' w') (l.take n) a) : (Code.region id l.toArray true).wp P Q a w := by
  simp only [Region.lexTailB, Bool.and_eq_true, decide_eq_true_eq] at hB
  obtain ⟨⟨⟨⟨hsel, hn⟩, hs⟩, hc⟩, hlex⟩ := hB
  have hn' : n < l.length := by simpa using hn
  have tl : (l.take n).length = n := by simp; omega
  have dl : (l.drop n).length = l.toArray.size - n := by simp
  have H := headAny_lex (P := P) (C := C) (g := l.toArray.size - n) hsel hs hc hn (l.take n) 0 (Array.replicate l.toArray.size false) a
    (fun j hj => by rw [tl] at hj; simp [hj]) (by rw [tl]; omega)
    ⟨by simp, fun j oj _ hj => (by rw [getD_replicate_false] at hj; cases hj), fun t _ ht => getD_in (by simpa using ht) (getD_replicate_false _ _)⟩ (by rw [tl]; exact hlex) h
  have G := headAny_wp (Q := Q) (g := l.toArray.size - n) (fun s a' w' hw' hL => by
    have := wpAny_of_seq (md := .any) (Q' := Q) (l.drop n) n s a' w' (fun j => by simp [List.getElem?_drop]) (by rw [dl]; exact hL.1) (hL.2 w' hw')
    rwa [dl] at this) _ _ _ w.drew hC H
  rw [tl, show n + (l.toArray.size - n) = l.toArray.size by omega] at G
  exact wp_region_any hm G

/-- The same, at the class of all later worlds. -/
theorem wp_region_later_tail {P : Program} {id : Nat} {Q : Exit → Act → World → Prop} {a : Act} {w : World} {u : Later w} {l : List Oper} (n : Nat) (hm : P.follows .mixedOrders = true) (hB : Region.lexTailB .any l.toArray n = true)
    (h : wpQuiet P l.toArray (fun w' => ∃ u : Later w, w' = u.now) (fun a' => ∀ w', (∃ u : Later w, w' = u.now) → wpList P l.toArray Q (l.drop n) a' w') (l.take n) a) : (Code.region id l.toArray true).wp P Q a u.now :=
  wp_region_head_tail n hm hB ⟨⟨_, up_drew u.up⟩, rfl⟩ h
end Go.Proofs.YtcjnhgafifkfeaaDoor
/- A run of operations that hand values on, reckon addresses and read cells that are known: the kernel carries them out, in one step. -/
namespace Go.Proofs.YtcjnhgafifkfeaaDoor
open Go.RowKit
set_option linter.unusedVariables false

/-- What a piece of a program answers, if its loads answer vs one by one; what is left of them, and what stood where. -/
def stillSem {α : Type} (P : Program) : Sem α → List Value → Option (α × List Value × List (Addr × Value))
  | .pure a, vs => some (a, vs, [])
  | .program k, vs => stillSem P (k P) vs
  | .mark _ k, vs => stillSem P k vs
  | .load _ a k, v :: vs => (stillSem P (k v) vs).map fun x => (x.1, x.2.1, (a, v) :: x.2.2)
  | _, _ => none
theorem stillSem_run {α : Type} {P : Program} {m : Sem α} {vs : List Value} {x : α × List Value × List (Addr × Value)} (h : stillSem P m vs = some x) (w : World) (hw : ∀ p ∈ x.2.2, w.cell? p.1 = some p.2) : m.run P w = .ok x.1 w := by
  induction m generalizing vs x with
  | pure b => simp only [stillSem, Option.some.injEq] at h; rw [← h]; rfl
  | program k ih => exact ih P (by simpa only [stillSem] using h) hw
  | mark _ k ih => exact ih (by simpa only [stillSem] using h) hw
  | load md a k ih =>
    cases vs with
    | nil => simp only [stillSem] at h; cases h
    | cons v vs =>
      simp only [stillSem, Option.map_eq_some_iff] at h
      obtain ⟨y, hy, rfl⟩ := h
      have h0 : w.cell? a = some v := hw (a, v) (by simp)
      rw [Sem.run, h0]
      exact ih v (x := y) hy (fun p hp => hw p (by simp [hp]))
  | _ => simp only [stillSem] at h; cases h

/-- A frame's slots, read. -/
def evalL (s : List Value) : Operand → Value
  | .tmp t => s.getD t undef
  | .const v => v
  | .global g => .pointer (some ⟨g, 0, none⟩)
  | .func f => .func (.func f) #[] #[]
theorem evalL_eq (s : List Value) (ds : List Deferred) : Act.eval ⟨s.toArray, ds⟩ = evalL s := by
  funext x
  cases x <;> simp [Act.eval, evalL, List.getD]

def forceL {β : Type} : List Value → (List Value → β) → β
  | [], k => k []
  | x :: xs, k => forceL xs fun ys => k (x :: ys)
theorem forceL_eq {β : Type} (l : List Value) (k : List Value → β) : forceL l k = k l := by
  induction l generalizing k with
  | nil => rfl
  | cons x xs ih => simp only [forceL, ih]

/-- What one operation leaves in its slot. -/
def stillVal (P : Program) (s : List Value) (o : Oper) (vs : List Value) : Option (Value × List Value × List (Addr × Value)) :=
  match stillSem P (execOp (evalL s) o) vs with
  | some (.value v, r, ps) => some (v, r, ps)
  | _ => none
/-- The slots behind all of them; what was read where. -/
def stillRun (P : Program) : List Oper → List Value → List Value → Option (List Value × List (Addr × Value))
  | [], s, _ => some (s, [])
  | o :: rest, s, vs => if o.guard.isNone then (match stillVal P s o vs, o.dst with
    | some (v, r, ps), some d => forceL (s.set d v) fun s' => (stillRun P rest s' r).map fun x => (x.1, ps ++ x.2)
    | _, _ => none) else none

theorem stillRun_cons {P : Program} {o : Oper} {rest : List Oper} {s vs s' : List Value} {ps : List (Addr × Value)} (h : stillRun P (o :: rest) s vs = some (s', ps)) :
    o.guard = none ∧ ∃ (v : Value) (d : Nat) (r : List Value) (qs ts : List (Addr × Value)), o.dst = some d ∧ stillVal P s o vs = some (v, r, qs) ∧ stillRun P rest (s.set d v) r = some (s', ts) ∧ ps = qs ++ ts := by
  unfold stillRun at h
  split at h
  · rename_i hg
    have hg' : o.guard = none := by
      cases hh : o.guard with
      | none => rfl
      | some x => rw [hh] at hg; cases hg
    refine ⟨hg', ?_⟩
    split at h
    · rename_i v r qs d hv hd
      rw [forceL_eq, Option.map_eq_some_iff] at h
      obtain ⟨x, hx, he⟩ := h
      obtain ⟨rfl, rfl⟩ := Prod.mk.inj he
      exact ⟨v, d, r, qs, x.2, hd, hv, hx, rfl⟩
    · cases h
  · cases h
theorem stillVal_run {P : Program} {s vs r : List Value} {o : Oper} {v : Value} {ps : List (Addr × Value)} (ds : List Deferred) (h : stillVal P s o vs = some (v, r, ps)) (w : World) (hw : ∀ p ∈ ps, w.cell? p.1 = some p.2) :
    (execOp (Act.eval ⟨s.toArray, ds⟩) o).run P w = .ok (.value v) w := by
  rw [evalL_eq]
  unfold stillVal at h
  split at h
  · rename_i u r' ps' hu
    obtain ⟨rfl, e⟩ := Prod.mk.inj (Option.some.inj h)
    obtain ⟨rfl, rfl⟩ := Prod.mk.inj e
    exact stillSem_run hu w hw
  · cases h
theorem put_still {s : List Value} {ds : List Deferred} {o : Oper} {d : Nat} (hd : o.dst = some d) (v : Value) : Act.put ⟨s.toArray, ds⟩ o.dst v = ⟨(s.set d v).toArray, ds⟩ := by
  rw [hd]
  simp [Act.put]
theorem want_still {o : Oper} (hg : o.guard = none) (y : Nat → Option Bool) : Region.wanted o y = true := by
  unfold Region.wanted
  rw [hg]

/-- In a region that draws its order. -/
theorem wpQuiet_still {P : Program} {ops : Array Oper} {C : World → Prop} {Q : Act → Prop} {ds : List Deferred} {l m : List Oper} {s vs s' : List Value} {ps : List (Addr × Value)}
    (h : stillRun P l s vs = some (s', ps)) (hw : ∀ w, C w → ∀ p ∈ ps, w.cell? p.1 = some p.2) (hq : wpQuiet P ops C Q m ⟨s'.toArray, ds⟩) : wpQuiet P ops C Q (l ++ m) ⟨s.toArray, ds⟩ := by
  induction l generalizing s vs ps with
  | nil =>
    simp only [stillRun, Option.some.injEq, Prod.mk.injEq] at h
    obtain ⟨rfl, -⟩ := h
    exact hq
  | cons o rest ih =>
    obtain ⟨hg, v, d, r, qs, ts, hd, hv, hr, rfl⟩ := stillRun_cons h
    show wpQuiet P ops C Q (o :: (rest ++ m)) _
    unfold wpQuiet
    rw [if_pos (want_still hg _)]
    refine ⟨v, fun w hC => ?_, by rw [put_still hd]; exact ih hr (fun w hC p hp => hw w hC p (by simp [hp]))⟩
    unfold Oper.quietAt
    rw [stillVal_run ds hv w (fun p hp => hw w hC p (by simp [hp]))]
    exact ⟨rfl, rfl⟩
theorem wpQuiet_stills {P : Program} {ops : Array Oper} {C : World → Prop} {Q : Act → Prop} {ds : List Deferred} {l : List Oper} {s vs s' : List Value} {ps : List (Addr × Value)}
    (h : stillRun P l s vs = some (s', ps)) (hw : ∀ w, C w → ∀ p ∈ ps, w.cell? p.1 = some p.2) (hq : wpQuiet P ops C Q [] ⟨s'.toArray, ds⟩) : wpQuiet P ops C Q l ⟨s.toArray, ds⟩ := by
  have := wpQuiet_still (m := []) h hw hq
  rwa [List.append_nil] at this
/-- In one that does not. -/
theorem wpList_still {P : Program} {ops : Array Oper} {Q : Exit → Act → World → Prop} {ds : List Deferred} {l m : List Oper} {s vs s' : List Value} {ps : List (Addr × Value)} {w : World}
    (h : stillRun P l s vs = some (s', ps)) (hw : ∀ p ∈ ps, w.cell? p.1 = some p.2) (hq : wpList P ops Q m ⟨s'.toArray, ds⟩ w) : wpList P ops Q (l ++ m) ⟨s.toArray, ds⟩ w := by
  induction l generalizing s vs ps with
  | nil =>
    simp only [stillRun, Option.some.injEq, Prod.mk.injEq] at h
    obtain ⟨rfl, -⟩ := h
    exact hq
  | cons o rest ih =>
    obtain ⟨hg, v, d, r, qs, ts, hd, hv, hr, rfl⟩ := stillRun_cons h
    show wpList P ops Q (o :: (rest ++ m)) _ _
    unfold wpList
    rw [if_pos (want_still hg _)]
    refine .inl ?_
    unfold Oper.wp
    rw [stillVal_run ds hv w (fun p hp => hw p (by simp [hp]))]
    show wpList P ops Q (rest ++ m) _ _
    rw [put_still hd]
    exact ih hr (fun p hp => hw p (by simp [hp]))

theorem wpList_stills {P : Program} {ops : Array Oper} {Q : Exit → Act → World → Prop} {ds : List Deferred} {l : List Oper} {s vs s' : List Value} {ps : List (Addr × Value)} {w : World}
    (h : stillRun P l s vs = some (s', ps)) (hw : ∀ p ∈ ps, w.cell? p.1 = some p.2) (hq : wpList P ops Q [] ⟨s'.toArray, ds⟩ w) : wpList P ops Q l ⟨s.toArray, ds⟩ w := by
  have := wpList_still (m := []) h hw hq
  rwa [List.append_nil] at this

/-- What was read stands in one box. -/
theorem reads_box {w : World} {B : Nat} {cells : List Value} (hB : ∀ j v, cells[j]? = some v → w.cell? ⟨B, j, none⟩ = some v) {ps : List (Addr × Value)} (l : List Nat) (v : Nat → Value) (hl : ps = l.map fun j => (⟨B, j, none⟩, v j)) (h : ∀ j ∈ l, cells[j]? = some (v j)) : ∀ p ∈ ps, w.cell? p.1 = some p.2 := by
  subst hl
  intro p hp
  obtain ⟨j, hj, rfl⟩ := List.mem_map.1 hp
  exact hB j _ (h j hj)
end Go.Proofs.YtcjnhgafifkfeaaDoor
/- A cheaper check that a great region's head may be walked in the order of the text, its tail in one forced order. -/
namespace Go.Proofs.YtcjnhgafifkfeaaDoor
set_option linter.unusedVariables false
set_option linter.unnecessarySimpa false

/-- What counts of an operation: its slot, what it looks at, what it waits for. -/
abbrev Tr := Option Nat × List Nat × List Nat
def tripOf (ops : Array Oper) (o : Oper) : Tr := (o.dst, o.looksAt ops, (o.after.toList.filter (Region.binds .any)).map (·.on))
def apartT (t s : Tr) : Bool :=
  (match t.1 with | some d => !s.2.1.contains d && s.1 != some d | none => true) && (match s.1 with | some d => !t.2.1.contains d | none => true)
def backT : Nat → List Tr → Bool
  | _, [] => true
  | k, t :: r => t.2.2.all (fun j => decide (j < k)) && backT (k + 1) r
def freeT : Nat → Nat → List Tr → Bool
  | 0, _, _ => true
  | _, _, [] => true
  | f + 1, k, t :: r => r.all (fun s => s.2.2.contains k || apartT t s) && freeT f (k + 1) r
def chainT : Nat → List Tr → Bool
  | _, [] => true
  | k, t :: r => t.2.2.contains (k - 1) && chainT (k + 1) r
def sinkT (T : List Tr) (n : Nat) : Bool := (List.range n).all fun i => T.any fun t => t.2.2.contains i
def quickT (T : List Tr) (n : Nat) : Bool := decide (n < T.length) && backT 0 T && freeT n 0 T && sinkT (T.take (n + 1)) n && chainT (n + 1) (T.drop (n + 1))
def forceN {β : Type} : List Nat → (List Nat → β) → β
  | [], k => k []
  | x :: xs, k => forceN xs fun ys => k (x :: ys)
theorem forceN_eq {β : Type} (l : List Nat) (k : List Nat → β) : forceN l k = k l := by
  induction l generalizing k with
  | nil => rfl
  | cons x xs ih => simp only [forceN, ih]
def forceT {β : Type} : List Tr → (List Tr → β) → β
  | [], k => k []
  | x :: xs, k => forceN x.2.1 fun a => forceN x.2.2 fun b => forceT xs fun ys => k ((x.1, a, b) :: ys)
theorem forceT_eq {β : Type} (l : List Tr) (k : List Tr → β) : forceT l k = k l := by
  induction l generalizing k with
  | nil => rfl
  | cons x xs ih => simp only [forceT, forceN_eq, ih]
def quickB (l : List Oper) (n : Nat) : Bool := Region.noSelect l.toArray && forceT (l.map (tripOf l.toArray)) fun T => quickT T n

theorem backT_spec : ∀ (T : List Tr) (k : Nat), backT k T = true → ∀ i t, T[i]? = some t → ∀ j ∈ t.2.2, j < k + i
  | [], _, _, i, t, ht, _, _ => by simp at ht
  | t0 :: r, k, h, i, t, ht, j, hj => by
    simp only [backT, Bool.and_eq_true, List.all_eq_true, decide_eq_true_eq] at h
    cases i with
    | zero => simp only [List.getElem?_cons_zero, Option.some.injEq] at ht; subst ht; exact h.1 j hj
    | succ i => have := backT_spec r (k + 1) h.2 i t (by simpa using ht) j hj; omega
theorem freeT_spec : ∀ (f : Nat) (T : List Tr) (k : Nat), freeT f k T = true → ∀ i t, i < f → T[i]? = some t → ∀ j s, i < j → T[j]? = some s → (s.2.2.contains (k + i) || apartT t s) = true
  | 0, _, _, _, i, _, hi, _, _, _, _, _ => by omega
  | f + 1, [], _, _, i, t, _, ht, _, _, _, _ => by simp at ht
  | f + 1, t0 :: r, k, h, i, t, hi, ht, j, s, hij, hs => by
    simp only [freeT, Bool.and_eq_true, List.all_eq_true] at h
    obtain ⟨j, rfl⟩ : ∃ m, j = m + 1 := ⟨j - 1, by omega⟩
    simp only [List.getElem?_cons_succ] at hs
    cases i with
    | zero =>
      simp only [List.getElem?_cons_zero, Option.some.injEq] at ht
      subst ht
      exact h.1 s (List.mem_of_getElem? hs)
    | succ i =>
      have := freeT_spec f r (k + 1) h.2 i t (by omega) (by simpa using ht) j s (by omega) hs
      rwa [show k + (i + 1) = k + 1 + i by omega]
theorem chainT_spec : ∀ (T : List Tr) (k : Nat), chainT k T = true → ∀ (i : Nat) (t : Tr), T[i]? = some t → t.2.2.contains (k + i - 1) = true
  | [], _, _, i, t, ht => by simp at ht
  | t0 :: r, k, h, i, t, ht => by
    simp only [chainT, Bool.and_eq_true] at h
    cases i with
    | zero => simp only [List.getElem?_cons_zero, Option.some.injEq] at ht; subst ht; simpa using h.1
    | succ i =>
      have := chainT_spec r (k + 1) h.2 i t (by simpa using ht)
      rwa [show k + (i + 1) - 1 = k + 1 + i - 1 by omega]

section
variable {l : List Oper}
theorem trip_waits {o : Oper} {i : Nat} : (tripOf l.toArray o).2.2.contains i = true ↔ ∃ e ∈ o.after, Region.binds .any e = true ∧ e.on = i := by
  simp only [tripOf, List.contains_iff_mem, List.mem_map, List.mem_filter, Array.mem_toList_iff]
  exact ⟨fun ⟨e, ⟨h1, h2⟩, h3⟩ => ⟨e, h1, h2, h3⟩, fun ⟨e, h1, h2, h3⟩ => ⟨e, ⟨h1, h2⟩, h3⟩⟩
theorem trip_any {o : Oper} {i : Nat} (h : (tripOf l.toArray o).2.2.contains i = true) : (o.after.any fun e => Region.binds .any e && e.on == i) = true := by
  obtain ⟨e, he, hb, rfl⟩ := trip_waits.1 h
  exact Array.any_eq_true'.2 ⟨e, he, by simp [hb]⟩
theorem trip_at {i : Nat} {o : Oper} (h : l[i]? = some o) : (l.map (tripOf l.toArray))[i]? = some (tripOf l.toArray o) := by
  rw [List.getElem?_map, h]; rfl

/-- The first k operations are listed. -/
def Upto (l : List Oper) (k : Nat) (s : Array Bool) : Prop := s.size = l.length ∧ ∀ j, j < l.length → s[j]? = some (decide (j < k))
theorem Upto.getD {k : Nat} {s : Array Bool} (h : Upto l k s) {j : Nat} (hj : j < l.length) (b : Bool) : s.getD j b = decide (j < k) := by
  rw [Array.getD_eq_getD_getElem?, h.2 j hj]; rfl
theorem Upto.next {k : Nat} {s : Array Bool} (h : Upto l k s) : Upto l (k + 1) (s.setIfInBounds k true) := by
  refine ⟨by rw [Array.size_setIfInBounds]; exact h.1, fun j hj => ?_⟩
  rw [Array.getElem?_setIfInBounds]
  by_cases e : k = j
  · subst e
    have : k < s.size := by rw [h.1]; exact hj
    simp [this]
  · rw [if_neg e, h.2 j hj]
    congr 1
    by_cases hk : j < k
    · simp [hk]; omega
    · have h1 : ¬ j < k + 1 := by omega
      simp [hk, h1]

theorem quick_ready {k : Nat} {s : Array Bool} (h : Upto l k s) {o : Oper} (ho : l[k]? = some o) (hb : ∀ j ∈ (tripOf l.toArray o).2.2, j < k) : k ∈ Region.ready .any l.toArray s := by
  have hk : k < l.length := (List.getElem?_eq_some_iff.1 ho).1
  rw [mem_ready]
  refine ⟨by rw [h.getD hk]; simp, o, by simpa using ho, fun e he hbind => ?_⟩
  have hlt : e.on < k := hb e.on (List.contains_iff_mem.1 (trip_waits.2 ⟨e, he, hbind, rfl⟩))
  rw [h.getD (by omega)]
  simpa using hlt
theorem quick_free {k : Nat} {s : Array Bool} (h : Upto l k s) {o : Oper} (ho : l[k]? = some o)
    (hf : ∀ j p, k < j → l[j]? = some p → ((tripOf l.toArray p).2.2.contains k || apartT (tripOf l.toArray o) (tripOf l.toArray p)) = true) : Region.free .any l.toArray s k = true := by
  have ho' : l.toArray[k]? = some o := by simpa using ho
  unfold Region.free
  rw [ho']
  simp only [List.all_eq_true, List.mem_range, List.size_toArray]
  intro j hj
  by_cases e : j = k
  · simp [e]
  · by_cases hk : j < k
    · rw [h.getD hj]; simp [hk]
    · have hp : l[j]? = some l[j] := List.getElem?_eq_getElem hj
      have hp' : l.toArray[j]? = some l[j] := by simpa using hp
      have := hf j _ (by omega) hp
      rw [hp']
      simp only [Bool.or_eq_true] at this ⊢
      rcases this with hw | ha
      · exact .inr (.inl (trip_any hw))
      · exact .inr (.inr ha)
end

theorem filter_one {n k : Nat} (p : Nat → Bool) (hk : k < n) (h : ∀ j, j < n → (p j = true ↔ j = k)) : (List.range n).filter p = [k] := by
  have : (List.range n).filter p = (List.range n).filter (· == k) := by
    apply List.filter_congr
    intro j hj
    have := h j (List.mem_range.1 hj)
    by_cases e : j = k
    · simp [e, (h k hk).2 rfl]
    · have : p j = false := by cases hp : p j with | false => rfl | true => exact absurd (this.1 hp) e
      simp [this, e]
  rw [this, List.filter_beq, List.nodup_range.count, if_pos (List.mem_range.2 hk)]
  rfl

theorem lexTail_quick {l : List Oper} {n : Nat} (h : quickB l n = true) : Region.lexTailB .any l.toArray n = true := by
  simp only [quickB, forceT_eq, quickT, Bool.and_eq_true, decide_eq_true_eq, List.length_map] at h
  obtain ⟨hsel, ⟨⟨⟨hn, hback⟩, hfree⟩, hsink⟩, hchain⟩ := h
  have Hb : ∀ k o, l[k]? = some o → ∀ j ∈ (tripOf l.toArray o).2.2, j < k := fun k o ho j hj => by
    have := backT_spec _ 0 hback k _ (trip_at ho) j hj
    omega
  have Hf : ∀ k o, k < n → l[k]? = some o → ∀ j p, k < j → l[j]? = some p → ((tripOf l.toArray p).2.2.contains k || apartT (tripOf l.toArray o) (tripOf l.toArray p)) = true := fun k o hk ho j p hj hp => by
    have := freeT_spec n _ 0 hfree k _ hk (trip_at ho) j _ hj (trip_at hp)
    rwa [Nat.zero_add] at this
  have Hc : ∀ t o, n < t → l[t]? = some o → (tripOf l.toArray o).2.2.contains (t - 1) = true := fun t o ht ho => by
    have := chainT_spec _ (n + 1) hchain (t - (n + 1)) (tripOf l.toArray o) (by rw [List.getElem?_drop, show n + 1 + (t - (n + 1)) = t by omega]; exact trip_at ho)
    rwa [show n + 1 + (t - (n + 1)) - 1 = t - 1 by omega] at this
  have Hs : ∀ i, i < n → ∃ j o, i < j ∧ j ≤ n ∧ l[j]? = some o ∧ (tripOf l.toArray o).2.2.contains i = true := fun i hi => by
    simp only [sinkT, List.all_eq_true, List.mem_range, List.any_eq_true] at hsink
    obtain ⟨t, ht, hc⟩ := hsink i hi
    obtain ⟨j, hj⟩ := List.getElem?_of_mem ht
    rw [List.getElem?_take] at hj
    split at hj
    · rename_i hjn
      rw [List.getElem?_map, Option.map_eq_some_iff] at hj
      obtain ⟨o, ho, rfl⟩ := hj
      exact ⟨j, o, Hb j o ho i (List.contains_iff_mem.1 hc), by omega, ho, hc⟩
    · cases hj
  have hsz : l.toArray.size = l.length := by simp
  simp only [Region.lexTailB, Bool.and_eq_true, decide_eq_true_eq]
  refine ⟨⟨⟨⟨hsel, by rw [hsz]; exact hn⟩, ?_⟩, ?_⟩, ?_⟩
  · simp only [Region.sinkB, List.all_eq_true, List.mem_range, List.any_eq_true, Bool.and_eq_true, decide_eq_true_eq]
    intro i hi
    obtain ⟨j, o, hij, hjn, ho, hc⟩ := Hs i hi
    refine ⟨j, by omega, hij, ?_⟩
    unfold Region.waitsFor
    rw [show l.toArray[j]? = some o by simpa using ho]
    exact trip_any hc
  · simp only [Region.chainB, List.all_eq_true, List.mem_range, Bool.or_eq_true, decide_eq_true_eq]
    intro t ht
    by_cases hle : t ≤ n
    · exact .inl hle
    · right
      rw [hsz] at ht
      have ho := List.getElem?_eq_getElem ht
      unfold Region.waitsFor
      rw [show l.toArray[t]? = some l[t] by simpa using ho]
      exact trip_any (Hc t _ (by omega) ho)
  · have hseq : ∀ g k s, Upto l k s → n ≤ k → k + g = l.length → Region.seqB .any l.toArray g k s = true := by
      intro g
      induction g with
      | zero =>
        intro k s hu hk hg
        simp only [Region.seqB, List.isEmpty_iff]
        apply List.eq_nil_iff_forall_not_mem.2
        intro j hj
        obtain ⟨h1, o, ho, -⟩ := mem_ready.1 hj
        have hj' : j < l.length := by have := (Array.getElem?_eq_some_iff.1 ho).1; simpa using this
        rw [hu.getD hj'] at h1
        simp only [decide_eq_false_iff_not] at h1
        omega
      | succ g ih =>
        intro k s hu hk hg
        simp only [Region.seqB, Bool.and_eq_true, decide_eq_true_eq]
        refine ⟨?_, ih (k + 1) _ hu.next (by omega) (by omega)⟩
        have hkl : k < l.length := by omega
        have hok := List.getElem?_eq_getElem hkl
        unfold Region.ready
        rw [hsz]
        apply filter_one _ hkl
        intro j hj
        have e : (!s.getD j true && ((l.toArray[j]?).map (·.after.all fun e => !Region.binds .any e || s.getD e.on false)).getD false) = true ↔ j ∈ Region.ready .any l.toArray s := by
          unfold Region.ready
          rw [List.mem_filter, List.mem_range, hsz]
          exact ⟨fun h => ⟨hj, h⟩, fun h => h.2⟩
        rw [e]
        constructor
        · intro hr
          obtain ⟨h1, o, ho, h2⟩ := mem_ready.1 hr
          rw [hu.getD hj] at h1
          simp only [decide_eq_false_iff_not] at h1
          by_cases ejk : j = k
          · exact ejk
          · have hjo : l[j]? = some o := by simpa using ho
            obtain ⟨x, hx, hbx, hon⟩ := trip_waits.1 (Hc j o (by omega) hjo)
            have h3 := h2 x hx hbx
            rw [hu.getD (by omega)] at h3
            simp only [decide_eq_true_eq] at h3
            omega
        · rintro rfl
          exact quick_ready hu hok (Hb _ _ hok)
    have hhead : ∀ f k s, Upto l k s → k + f = n → Region.lexHead .any l.toArray (l.length - n) f k s = true := by
      intro f
      induction f with
      | zero =>
        intro k s hu hk
        simp only [Region.lexHead]
        exact hseq _ k s hu (by omega) (by omega)
      | succ f ih =>
        intro k s hu hk
        have hkl : k < l.length := by omega
        have hok := List.getElem?_eq_getElem hkl
        simp only [Region.lexHead, Bool.and_eq_true]
        exact ⟨⟨List.contains_iff_mem.2 (quick_ready hu hok (Hb _ _ hok)), quick_free hu hok (fun j p hj hp => Hf k _ (by omega) hok j p hj hp)⟩, ih (k + 1) _ hu.next (by omega)⟩
    rw [hsz]
    exact hhead n 0 _ ⟨by simp, fun j hj => by simp [hj]⟩ (by omega)
end Go.Proofs.YtcjnhgafifkfeaaDoor
/- What bounds.numbers answers, for a job in a box; one of those numbers. -/
namespace Go.Proofs.YtcjnhgafifkfeaaDoor
open Go.RowKit
set_option linter.unusedVariables false

/-- The i-th number of the job at B: where it stands, from what to what it may be. -/
def numC (B i : Nat) : List Value := [.pointer (some ⟨B, cellJ i, none⟩), .int .i64 (lowJ i), .int .i64 (topJ i)]
/-- All of them. -/
def numL (B : Nat) : List Value := (List.range 28).flatMap (numC B)
theorem numL_length (B : Nat) : (numL B).length = 84 := rfl
theorem numL_one (B : Nat) : (numL B).toArray.all (·.oneCell') = true := by
  rw [List.all_toArray]; rfl
theorem nums_alloc (w : World) : (Instr.alloc 47 true (.tuple #[])).run Tryd.prog w = .ok (.pointer (some ⟨w.heap.size, 0, none⟩)) (w.alloc (.cells Tryd.zeroCells47 47)) := by
  kernel_rfl
theorem nums_zero : Tryd.zeroCells47.size = 84 := by kernel_rfl
theorem nums_there (w : World) : (w.alloc (.cells Tryd.zeroCells47 47)).there w.heap.size 0 84 := fun j hj => by
  rw [Nat.zero_add]
  refine ⟨?_, by simp [go_sem]⟩
  rw [cell_new, Array.getElem?_eq_getElem (by rw [nums_zero]; exact hj)]
  rfl
theorem nums_one (B : Nat) {i : Nat} (h : i < 28) (w : World) : (Instr.index 47 (.agg (numL B).toArray) (.int .i64 (i : Int))).run Tryd.prog w = .ok (.agg (numC B i).toArray) w := by
  rcases num_ways h with rfl | rfl | rfl | rfl | rfl | rfl | rfl | rfl | rfl | rfl | rfl | rfl | rfl | rfl | rfl | rfl | rfl | rfl | rfl | rfl | rfl | rfl | rfl | rfl | rfl | rfl | rfl | rfl
  all_goals exact (show _ = _ from by kernel_rfl)

/-- A cell's address; the i-th number, as a struct. -/
abbrev P (B j : Nat) : Value := .pointer (some ⟨B, j, none⟩)
abbrev N (B i : Nat) : Value := .agg (numC B i).toArray
/-- What stands in the slots of bounds.numbers, when all has been reckoned. -/
def numF (R B : Nat) : List Value :=
  P B 0 :: undef :: P R 0 :: P B 0 :: P B 0 :: P B 1 :: N B 0 :: P B 0 :: P B 0 :: P B 2 :: P B 2 :: N B 1 ::
  P B 0 :: P B 0 :: P B 2 :: P B 3 :: N B 2 :: P B 0 :: P B 0 :: P B 4 :: N B 3 :: P B 0 :: P B 0 :: P B 5 ::
  N B 4 :: P B 0 :: P B 0 :: P B 6 :: N B 5 :: P B 0 :: P B 0 :: P B 7 :: N B 6 :: P B 0 :: P B 0 :: P B 8 ::
  N B 7 :: P B 0 :: P B 0 :: P B 9 :: N B 8 :: P B 0 :: P B 0 :: P B 10 :: N B 9 :: P B 0 :: P B 0 :: P B 11 ::
  N B 10 :: P B 0 :: P B 0 :: P B 16 :: N B 11 :: P B 0 :: P B 0 :: P B 17 :: N B 12 :: P B 0 :: P B 0 :: P B 18 ::
  N B 13 :: P B 0 :: P B 0 :: P B 19 :: N B 14 :: P B 0 :: P B 0 :: P B 20 :: N B 15 :: P B 0 :: P B 0 :: P B 21 ::
  N B 16 :: P B 0 :: P B 0 :: P B 22 :: N B 17 :: P B 0 :: P B 0 :: P B 23 :: N B 18 :: P B 0 :: P B 0 :: P B 24 ::
  N B 19 :: P B 0 :: P B 0 :: P B 25 :: N B 20 :: P B 0 :: P B 0 :: P B 26 :: N B 21 :: P B 0 :: P B 0 :: P B 27 ::
  N B 22 :: P B 0 :: P B 0 :: P B 28 :: N B 23 :: P B 0 :: P B 0 :: P B 29 :: N B 24 :: P B 0 :: P B 0 :: P B 30 ::
  N B 25 :: P B 0 :: P B 0 :: P B 31 :: N B 26 :: P B 0 :: P B 0 :: P B 32 :: N B 27 :: undef :: []

set_option maxRecDepth 100000 in
set_option maxHeartbeats 4000000 in
theorem numbers_any (B : Nat) (w : World) : Calls Tryd.prog 21 #[.pointer (some ⟨B, 0, none⟩)] w fun e w' => e = .returned (.agg (numL B).toArray) ∧ Below w.heap.size w w' := by
  have hT := nums_there w
  have HT := Lib.hid hT
  clear hT
  go_enter Tryd.func21, Tryd.ntmps21
  go_wp2
  generalize hw1 : w.alloc (.cells Tryd.zeroCells47 47) = w1 at *
  have HW := Lib.hid hw1
  clear hw1
  refine later_start (w := w1) ?_
  intro u
  simp only [List.append]
  refine wp_region_later_tail 114 (by kernel_rfl) (lexTail_quick (by kernel_rfl)) ?_
  simp only [List.take_succ_cons, List.take_zero, List.drop_succ_cons, List.drop_zero]
  refine wpQuiet_stills (vs := []) (s' := numF w.heap.size B) (ps := []) ?still (fun _ _ _ hp => by cases hp) ?_
  case still => kernel_rfl
  refine wpQuiet_nil ?_
  rintro _ ⟨u2, rfl⟩
  have HT2 := Lib.hid (there_up HT.out u2.up)
  have HU := Lib.hid u2.up
  generalize u2.now = w2 at *
  refine wpList_build_to rfl 47 _ rfl (numL B).toArray (by kernel_rfl) ?_
  refine wpList_store_mid rfl 47 _ _ rfl w.heap.size 0 (numL B).toArray rfl rfl HT2.out (by kernel_rfl) (numL_one B) ?_
  have HR := Lib.hid (World.rangeAt_setCells_same _ w.heap.size 0 (numL B) (by rw [numL_length]; exact HT2.out))
  have HB := Lib.hid (below_setCells (Nat.le_refl w.heap.size) (numL B) 0 _ (up_trans (by rw [← HW.out]; exact up_alloc (Below.refl _ _) _) HU.out))
  generalize w2.setCells w.heap.size 0 (numL B) = w3 at *
  refine wpList_nil ?_
  go_wp2
  exact bodyPost_ret (v := .agg (numL B).toArray) (results_wide Tryd.results21 w.heap.size rfl _ _ HR.out Tryd.underlying47 rfl (by kernel_rfl)) rfl ⟨rfl, HB.out⟩
end Go.Proofs.YtcjnhgafifkfeaaDoor
/- What bounds.Count, isPlace, Get answer. -/
namespace Go.Proofs.YtcjnhgafifkfeaaDoor
open Go.RowKit
set_option linter.unusedVariables false

theorem count_any (w : World) : Calls Tryd.prog 19 #[] w fun e w' => e = .returned (.int .i64 28) ∧ Below w.heap.size w w' := by
  have HB := Lib.hid (Below.refl w.heap.size w)
  go_enter Tryd.func19, Tryd.ntmps19
  go_wp2
  go_ret
  exact ⟨rfl, HB.out⟩
theorem isPlace_any (i : Int) (w : World) : Calls Tryd.prog 20 #[.int .i64 i] w fun e w' => e = .returned (.bool (decide (0 ≤ i) && decide (i ≤ 27))) ∧ Below w.heap.size w w' := by
  have H := Lib.hid (fun w => in_any i 0 27 w)
  have HB := Lib.hid (Below.refl w.heap.size w)
  generalize (decide (0 ≤ i) && decide (i ≤ 27)) = b at *
  go_enter Tryd.func20, Tryd.ntmps20
  go_wp2_with fail
  refine (H.out _).mono ?_
  rintro e w1 ⟨rfl, rfl⟩
  go_wp2
  go_ret
  exact ⟨rfl, HB.out⟩

theorem bGet_out (cs : List Value) (i : Int) (w : World) (hi : (decide (0 ≤ i) && decide (i ≤ 27)) = false) :
    Calls Tryd.prog 7 #[.agg cs.toArray, .int .i64 i] w fun e w' => e = .returned (.int .i64 0) ∧ Below w.heap.size w w' := by
  have K0 := fun w => isPlace_any i w
  rw [hi] at K0
  have H0 := Lib.hid K0
  have HB := Lib.hid (up_alloc (Below.refl w.heap.size w) (.cells cs.toArray 29))
  clear K0 hi
  go_enter Tryd.func7, Tryd.ntmps7
  go_wp2_with fail
  refine (H0.out _).mono ?_
  rintro e w1 ⟨rfl, hb⟩
  have HB1 := Lib.hid (up_trans HB.out hb)
  go_wp2
  go_ret
  exact ⟨rfl, HB1.out⟩
theorem bGet_in (cs : List Value) (v : Int) (k : Nat) (w : World) (hk : k < 28) (hl : cs.length = 33) (hv : cs[cellJ k]? = some (.int .i64 v)) :
    Calls Tryd.prog 7 #[.agg cs.toArray, .int .i64 (k : Int)] w fun e w' => e = .returned (.int .i64 v) ∧ Below w.heap.size w w' := by
  have K0 := fun w => isPlace_any (k : Int) w
  rw [show (decide (0 ≤ (k : Int)) && decide ((k : Int) ≤ 27)) = true by simp; omega] at K0
  have H0 := Lib.hid K0
  have HB := Lib.hid (up_alloc (Below.refl w.heap.size w) (.cells cs.toArray 29))
  have HX := Lib.hid (Bx.new w 29 cs)
  have h1 := nums_one w.heap.size hk
  have h2 : (Instr.field 46 (.agg (numC w.heap.size k).toArray) 0).run Tryd.prog = fun w1 => .ok (.pointer (some ⟨w.heap.size, cellJ k, none⟩)) w1 := by
    funext w1
    kernel_rfl
  have h2 := fun w1 => congrFun h2 w1
  have HV := Lib.hid hv
  have HL := Lib.hid hl
  clear K0 hv hl
  generalize (numC w.heap.size k).toArray = nk at *
  generalize cellJ k = j at *
  have HN := Lib.hid (fun w1 => numbers_any w.heap.size w1)
  generalize (numL w.heap.size).toArray = nl at *
  go_enter Tryd.func7, Tryd.ntmps7
  go_wp2_with fail
  refine (H0.out _).mono ?_
  rintro e w1 ⟨rfl, hb⟩
  have HX1 := Lib.hid (HX.out.later (by rw [HL.out]; decide) hb)
  have HB1 := Lib.hid (up_trans HB.out hb)
  go_wp2_with fail
  refine (HN.out _).mono ?_
  rintro e w2 ⟨rfl, hb2⟩
  have HX2 := Lib.hid (HX1.out.later (by rw [HL.out]; decide) hb2)
  have HB2 := Lib.hid (up_trans HB1.out hb2)
  have hc := HX2.out.cell j HV.out
  go_wp2
  go_ret
  exact ⟨rfl, HB2.out⟩
end Go.Proofs.YtcjnhgafifkfeaaDoor
/- What bounds.First answers. -/
namespace Go.Proofs.YtcjnhgafifkfeaaDoor
open Go.RowKit
set_option linter.unusedVariables false

/-- As far as the k-th number, all may be. -/
def FirstRel (w : World) (n : Nat → Int) (i : Value) (wr : World) : Prop := ∃ k : Nat, k ≤ 28 ∧ i = .int .i64 (k : Int) ∧ (∀ j, j < k → okJ n j = true) ∧ ∃ u : Later w, wr = u.now

set_option maxHeartbeats 1000000 in
theorem bFirst_any (cs : List Value) (n : Nat → Int) (w : World) (hl : cs.length = 33) (hv : ∀ k, k < 28 → cs[cellJ k]? = some (.int .i64 (n k))) :
    Calls Tryd.prog 9 #[.agg cs.toArray] w fun e w' => e = .returned (.int .i64 (firstJ n)) ∧ Below w.heap.size w w' := by
  have HB := Lib.hid (up_alloc (Below.refl w.heap.size w) (.cells cs.toArray 29))
  have HX := Lib.hid (Bx.new w 29 cs)
  have HI := Lib.hid (fun (k : Nat) (hk : k < 28) => show ∀ w1, (Instr.index 47 (.agg (numL w.heap.size).toArray) (.int .i64 (k : Int))).run Tryd.prog w1 = .ok (.agg #[.pointer (some ⟨w.heap.size, cellJ k, none⟩), .int .i64 (lowJ k), .int .i64 (topJ k)]) w1 from fun w1 => nums_one w.heap.size hk w1)
  have HV := Lib.hid hv
  have HL := Lib.hid hl
  have HN := Lib.hid (fun w1 => numbers_any w.heap.size w1)
  generalize (numL w.heap.size).toArray = nl at *
  have HF := Lib.hid (fun (k : Nat) (hk : k < 28) (h : ∀ j, j < k → okJ n j = true) (h0 : okJ n k = false) => firstJ_at hk h h0)
  have HZ := Lib.hid (fun h => firstJ_none (n := n) h)
  generalize firstJ n = F at *
  clear hv hl
  go_enter Tryd.func9, Tryd.ntmps9
  go_wp2_with fail
  refine (HN.out _).mono ?_
  rintro e w1 ⟨rfl, hb⟩
  have HX1 := Lib.hid (HX.out.later (by rw [HL.out]; decide) hb)
  have HB1 := Lib.hid (up_trans HB.out hb)
  clear hb
  generalize hB : w.heap.size = B at *
  have HBB := Lib.hid hB
  clear hB
  go_wp2
  go_loopw [6] (fun i wr => FirstRel w1 n i wr) (fun i _ => 28 - (intOf i).toNat)
  case atStart => exact ⟨0, by omega, by go_num, fun j hj => absurd hj (Nat.not_lt_zero _), ⟨w1, Below.refl _ _⟩, rfl⟩
  case round =>
    obtain ⟨k, hk, rfl, hall, u, rfl⟩ := hrel
    have HA := Lib.hid hall
    clear hall
    by_cases hlt : k < 28
    · have h1 := HI.out k hlt
      have z1 : (k : Int) < 28 := by omega
      obtain ⟨W, hW⟩ : ∃ W, u.now = W := ⟨_, rfl⟩
      have HU := Lib.hid u.up
      have HX2 := Lib.hid (HX1.out.later (by rw [HL.out]; decide) u.up)
      rw [hW] at HU HX2
      rw [hW]
      have hc := HX2.out.cell (cellJ k) (HV.out k hlt)
      obtain ⟨v, hvv⟩ : ∃ v, n k = v := ⟨_, rfl⟩
      have hok : okJ n k = (decide (lowJ k ≤ n k) && decide (n k ≤ topJ k)) := rfl
      rw [hvv] at hc hok
      generalize cellJ k = j at *
      generalize lowJ k = lo at *
      generalize topJ k = hi at *
      have KI := fun w => in_any v lo hi w
      rw [← hok] at KI
      obtain ⟨b, hb⟩ : ∃ b, okJ n k = b := ⟨_, rfl⟩
      rw [hb] at KI
      have HOk := Lib.hid hb
      have HK := Lib.hid (fun w1 => (KI w1).mono fun e w' ⟨he, hw⟩ => (⟨he, hw ▸ Below.refl _ _⟩ : e = Ending.returned (.bool b) ∧ Below w1.heap.size w1 w'))
      clear hok hb KI
      go_wp2
      have HC := Bx.new W 46 [.pointer (some ⟨B, j, none⟩), .int .i64 lo, .int .i64 hi]
      have hcc := Lib.hid (bl_cell (up_alloc (Below.refl _ W) (.cells #[.pointer (some ⟨B, j, none⟩), .int .i64 lo, .int .i64 hi] 46)) hc)
      have HUU := Lib.hid (up_alloc HU.out (.cells #[.pointer (some ⟨B, j, none⟩), .int .i64 lo, .int .i64 hi] 46))
      generalize hw5 : W.alloc (.cells #[.pointer (some ⟨B, j, none⟩), .int .i64 lo, .int .i64 hi] 46) = w5 at *
      clear hw5 hc hvv
      refine later_start (w := w5) ?_
      intro u5
      have c0 := fun u : Later w5 => u.cell (HC.cell 0 rfl)
      have c1 := fun u : Later w5 => u.cell (HC.cell 1 rfl)
      have c2 := fun u : Later w5 => u.cell (HC.cell 2 rfl)
      have c3 := fun u : Later w5 => u.cell hcc.out
      cases b
      all_goals
        refine wp_region_later (by kernel_rfl) (by kernel_rfl) ?_
        repeat (go_big_quiet_step ((go_at_call 23; with_reducible exact Later.call (HK.out _))))
        refine wpQuiet_nil ?_
        rintro _ ⟨u2, rfl⟩
        clear c0 c1 c2 c3
        have HU2 := Lib.hid (up_trans HUU.out u2.up)
        generalize u2.now = w6 at *
        go_wp2
      · go_ret
        exact ⟨by rw [HF.out k hlt HA.out HOk.out]; rfl, up_trans (by rw [HBB.out]; exact HB1.out) HU2.out⟩
      · go_roundw
        case rel => exact ⟨k + 1, by omega, by go_num, okJ_snoc HA.out HOk.out, ⟨w6, HU2.out⟩, rfl⟩
        case measure => simp [intOf]; omega
    · have hk2 : k = 28 := by omega
      subst hk2
      go_wp2
      go_ret
      exact ⟨by rw [HZ.out HA.out]; rfl, up_trans (by rw [HBB.out]; exact HB1.out) u.up⟩
end Go.Proofs.YtcjnhgafifkfeaaDoor
/- What gatherumref01.In answers, for every three ints. -/
namespace Go.Proofs.YtcjnhgafifkfeaaDoor
open Go.RowKit

/-- n is from lo to hi. -/
def inB (n lo hi : Int) : Bool := decide (lo ≤ n) && decide (n ≤ hi)
end Go.Proofs.YtcjnhgafifkfeaaDoor
/- What the small calls of package step answer, and After: for every step and every number of columns and rows. -/
namespace Go.Proofs.YtcjnhgafifkfeaaDoor
open Go.RowKit
set_option linter.unusedVariables false

/-- May the step of this side and this number be? -/
def rightB (d n : Int) : Bool := (decide (1 ≤ d) && decide (d ≤ 4)) && (decide (1 ≤ n) && decide (n ≤ 64))
theorem rightB_true {d n : Int} (h : rightB d n = true) : (1 ≤ d ∧ d ≤ 4) ∧ 1 ≤ n ∧ n ≤ 64 := by simpa [rightB] using h

/-- How many columns and rows there are behind a step, and whether it can be done. -/
def aft (c r d n : Int) : Int × Int × Bool :=
  if (1 ≤ c ∧ 1 ≤ r) ∧ rightB d n = true then
    if d ≤ 2 then (if 2 * n ≤ c then (c - n, r, true) else (0, 0, false))
    else (if 2 * n ≤ r then (c, r - n, true) else (0, 0, false))
  else (0, 0, false)
theorem aft_yes {c r d n : Int} (h : (aft c r d n).2.2 = true) : ((1 ≤ c ∧ 1 ≤ r) ∧ (1 ≤ d ∧ d ≤ 4) ∧ 1 ≤ n ∧ n ≤ 64) ∧ ((d ≤ 2 ∧ 2 * n ≤ c ∧ aft c r d n = (c - n, r, true)) ∨ (2 < d ∧ 2 * n ≤ r ∧ aft c r d n = (c, r - n, true))) := by
  unfold aft at h ⊢
  split at h
  · rename_i hr
    refine ⟨⟨hr.1, rightB_true hr.2⟩, ?_⟩
    rw [if_pos hr]
    split at h
    · rename_i hd
      rw [if_pos hd]
      split at h
      · rename_i hn; left; exact ⟨hd, hn, if_pos hn⟩
      · cases h
    · rename_i hd
      rw [if_neg hd]
      split at h
      · rename_i hn; right; exact ⟨by omega, hn, if_pos hn⟩
      · cases h
  · cases h
theorem aft_no {c r d n : Int} (h : (aft c r d n).2.2 = false) : aft c r d n = (0, 0, false) := by
  unfold aft at h ⊢
  split at h
  · rename_i hr
    rw [if_pos hr]
    split at h
    · rename_i hd
      rw [if_pos hd]
      split at h
      · cases h
      · rename_i hn; rw [if_neg hn]
    · rename_i hd
      rw [if_neg hd]
      split at h
      · cases h
      · rename_i hn; rw [if_neg hn]
  · rename_i hr; rw [if_neg hr]

theorem ret3 {p : Int × Int × Bool} {a b : Int} {c : Bool} (h : p = (a, b, c)) : Ending.returned (.tuple #[.int .i64 a, .int .i64 b, .bool c]) = .returned (.tuple #[.int .i64 p.1, .int .i64 p.2.1, .bool p.2.2]) := by rw [h]

end Go.Proofs.YtcjnhgafifkfeaaDoor
/- A step, as plain data. -/
namespace Go.Proofs.YtcjnhgafifkfeaaDoor
/-- A step. -/
structure Sp where
  d : Int
  n : Int
  u : Bool
deriving DecidableEq
end Go.Proofs.YtcjnhgafifkfeaaDoor
/- A scheme, as plain data. -/
namespace Go.Proofs.YtcjnhgafifkfeaaDoor
/-- A scheme: columns, rows and steps. -/
structure Sc where
  c : Int
  r : Int
  l : List Sp
deriving DecidableEq
def zeroSc : Sc := ⟨0, 0, []⟩
def sideB (n : Int) : Bool := decide (1 ≤ n) && decide (n ≤ 64)
theorem sideB_true {n : Int} (h : sideB n = true) : 1 ≤ n ∧ n ≤ 64 := by simpa [sideB] using h
end Go.Proofs.YtcjnhgafifkfeaaDoor
