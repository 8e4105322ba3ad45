/- Part 1 of the texts that the proofs of this seat share: Later, Boxes, But, Shelf, Pile, PileLib, PileDeck, PileTurn, RefIn. -/
import Derived.WalkKit
import Derived.Below
import Derived.Deep.QuietTactic
import Derived.BigQuiet
import Derived.WalkSpells
import Derived.Deep.RegionHeld
import Derived.IntWalk
import Derived.Laws.AppendOwn
import Derived.Laws.IdiomCopy
import Derived.RangeFuncBox
import Derived.Deep.Upon
import Derived.Lib.Hide
import Derived.Shelf.SlGeneric
import Derived.Ground.SlgnProg
import Derived.Shelf.SlicesQ.Reverse
import Derived.Shelf.SlicesE.Clone
import Derived.Test.YtffnngmiaihkeaaProg
import Derived.Maps.AppendAt
import Derived.Lib.AppendZerosOnto
import Derived.Lib.Overlaps
import Derived.Shelf.Spec.SlicesInsert
import Derived.Laws.NewBlocks
import Derived.Deep.RegionLaw
import Derived.Deep.RegionHeld3
import Derived.BigRegion
import Derived.RowKit3
/- Worlds that have grown since: every old block is as it was. One walk, in the order of the text, of a region that draws its order and holds calls that make memory of their own. -/
namespace Go.Proofs.Ytffnngmiaihkeaa
open Go.RowKit
set_option linter.unusedVariables false

theorem bl_trans {B : Nat} {a b c : World} (h : Below B a b) (k : Below b.heap.size b c) (hB : B ≤ b.heap.size) : Below B a c := h.trans (k.mono hB)
theorem bl_cell {w w' : World} {p : Addr} {v : Value} (h : Below w.heap.size w w') (hc : w.cell? p = some v) : w'.cell? p = some v := (h.cell (World.block_lt_of_cell? w p hc)).trans hc
theorem up_alloc {a w : World} (h : Below a.heap.size a w) (o : Obj) : Below a.heap.size a (w.alloc o) := h.alloc h.size o
theorem up_drew {a w : World} (h : Below a.heap.size a w) : Below a.heap.size a w.drew := h.drew
theorem up_trans {a b c : World} (h : Below a.heap.size a b) (k : Below b.heap.size b c) : Below a.heap.size a c := h.trans (k.mono h.size)
theorem up_set {a w : World} (h : Below a.heap.size a w) {p : Addr} (hp : a.heap.size ≤ p.block) (u : Value) : Below a.heap.size a (w.setCell p u) := h.setCell hp u
theorem kept_cells {W w1 : World} (hb : Below W.heap.size W w1) (b o : Nat) (h : b < W.heap.size) : w1.cell? ⟨b, o, none⟩ = W.cell? ⟨b, o, none⟩ := hb.cell (p := ⟨b, o, none⟩) h
theorem kept_marks {W w1 : World} (hb : Below W.heap.size W w1) (b o : Nat) (h : b < W.heap.size) : w1.frozen? ⟨b, o, none⟩ = W.frozen? ⟨b, o, none⟩ := hb.frozen (p := ⟨b, o, none⟩) h

/-- A world that w has become: nothing that was there has changed. -/
structure Later (w : World) where
  now : World
  up : Below w.heap.size w now
instance (w : World) : Nonempty (Later w) := ⟨⟨w, Below.refl _ _⟩⟩
theorem Later.cell {w : World} (u : Later w) {p : Addr} {v : Value} (h : w.cell? p = some v) : u.now.cell? p = some v := bl_cell u.up h
theorem Later.call {P : Program} {f : FuncId} {args : Array Value} {w : World} {u : Later w} {v : Value} (h : Calls P f args u.now fun e w' => e = .returned v ∧ Below u.now.heap.size u.now w') :
    Calls P f args u.now fun e w'' => e = .returned v ∧ ∃ u' : Later w, w'' = u'.now := h.mono fun _ _ ⟨he, hb⟩ => ⟨he, ⟨_, up_trans u.up hb⟩, rfl⟩
theorem Later.next {w : World} {u : Later w} {w' : World} (h : Below u.now.heap.size u.now w') : ∃ u' : Later w, w' = u'.now := ⟨⟨_, up_trans u.up h⟩, rfl⟩
theorem later_start {w : World} {G : World → Prop} (h : ∀ u : Later w, G u.now) : G w := h ⟨w, Below.refl _ _⟩
/-- The region, in the order of the text; what stands behind it is asked of every later world. -/
theorem wp_region_later {P : Program} {id : Nat} {Q : Exit → Act → World → Prop} {a : Act} {w : World} {u : Later w} {l : List Oper} (hm : P.follows .mixedOrders = true) (hB : Region.lexB .any l.toArray = true)
    (h : wpQuiet P l.toArray (fun w' => ∃ u : Later w, w' = u.now) (fun a' => ∀ w', (∃ u : Later w, w' = u.now) → Q .normal a' w') l a) : (Code.region id l.toArray true).wp P Q a u.now :=
  wp_region_quiet (C := fun w' => ∃ u : Later w, w' = u.now) hm hB ⟨⟨_, up_drew u.up⟩, rfl⟩ (by simpa using h)
end Go.Proofs.Ytffnngmiaihkeaa
/- Boxes: a block of the memory whose cells are known and which may be written; it stays so in every later world. -/
namespace Go.Proofs.Ytffnngmiaihkeaa
open Go.RowKit
set_option linter.unusedVariables false

/-- The block B holds just vs, from its first cell on, and may be written. -/
def Bx (w : World) (B : Nat) (vs : List Value) : Prop := (∀ j v, vs[j]? = some v → w.cell? ⟨B, j, none⟩ = some v) ∧ ∀ j, w.frozen? ⟨B, j, none⟩ = false
theorem Bx.cell {w : World} {B : Nat} {vs : List Value} (h : Bx w B vs) (j : Nat) {v : Value} (hj : vs[j]? = some v) : w.cell? ⟨B, j, none⟩ = some v := h.1 j v hj
theorem Bx.free {w : World} {B : Nat} {vs : List Value} (h : Bx w B vs) (j : Nat) : w.frozen? ⟨B, j, none⟩ = false := h.2 j
theorem Bx.up {w w' : World} {B : Nat} {v0 : Value} {vs : List Value} (h : Bx w B (v0 :: vs)) (hb : Below w.heap.size w w') : Bx w' B (v0 :: vs) :=
  ⟨fun j v hj => bl_cell hb (h.1 j v hj), fun j => (kept_marks hb B j (World.block_lt_of_cell? w _ (h.1 0 v0 rfl))).trans (h.2 j)⟩
theorem Bx.alloc {w : World} {B : Nat} {v0 : Value} {vs : List Value} (h : Bx w B (v0 :: vs)) (o : Obj) : Bx (w.alloc o) B (v0 :: vs) := h.up (up_alloc (Below.refl _ _) o)
theorem Bx.new (w : World) (t : TypeId) (vs : List Value) : Bx (w.alloc (.cells vs.toArray t)) w.heap.size vs := by
  refine ⟨fun j v hj => ?_, fun j => ?_⟩
  · have hj' := hj
    obtain ⟨hlt, rfl⟩ := List.getElem?_eq_some_iff.1 hj'
    simp [go_sem, hlt]
  · simp [go_sem]
theorem Bx.far {w : World} {B : Nat} {vs : List Value} (h : Bx w B vs) {p : Addr} (hp : p.block ≠ B) (x : Value) : Bx (w.setCell p x) B vs :=
  ⟨fun j v hj => (World.cell?_setCell_far _ _ _ _ hp).trans (h.1 j v hj), fun j => by simp only [World.frozen?_setCell]; exact h.2 j⟩
theorem Bx.set {w : World} {B : Nat} {vs : List Value} (h : Bx w B vs) (i : Nat) (x : Value) : Bx (w.setCell ⟨B, i, none⟩ x) B (vs.set i x) := by
  refine ⟨fun j v hj => ?_, fun j => by simp only [World.frozen?_setCell]; exact h.2 j⟩
  rw [List.getElem?_set] at hj
  by_cases e : i = j
  · subst e
    simp only [if_true] at hj
    split at hj
    · rename_i hlt
      obtain rfl := Option.some.inj hj
      exact World.cell?_setCell_same w _ _ (h.1 i _ (List.getElem?_eq_getElem hlt))
    · cases hj
  · rw [if_neg e] at hj
    rw [World.cell?_setCell_other _ _ _ _ (by intro k; exact e (by injection k))]
    exact h.1 j v hj
theorem Bx.set3 {w : World} {B : Nat} {a0 a1 a2 : Value} (h : Bx w B [a0, a1, a2]) (v0 v1 v2 : Value) : Bx (((w.setCell ⟨B, 0, none⟩ v0).setCell ⟨B, 1, none⟩ v1).setCell ⟨B, 2, none⟩ v2) B [v0, v1, v2] := ((h.set 0 v0).set 1 v1).set 2 v2
theorem Bx.set2 {w : World} {B : Nat} {a0 a1 : Value} (h : Bx w B [a0, a1]) (v0 v1 : Value) : Bx ((w.setCell ⟨B, 0, none⟩ v0).setCell ⟨B, 1, none⟩ v1) B [v0, v1] := (h.set 0 v0).set 1 v1
theorem Bx.set4 {w : World} {B : Nat} {a0 a1 a2 a3 : Value} (h : Bx w B [a0, a1, a2, a3]) (v0 v1 v2 v3 : Value) : Bx ((((w.setCell ⟨B, 0, none⟩ v0).setCell ⟨B, 1, none⟩ v1).setCell ⟨B, 2, none⟩ v2).setCell ⟨B, 3, none⟩ v3) B [v0, v1, v2, v3] := (((h.set 0 v0).set 1 v1).set 2 v2).set 3 v3
theorem Bx.drew {w : World} {B : Nat} {v0 : Value} {vs : List Value} (h : Bx w B (v0 :: vs)) : Bx w.drew B (v0 :: vs) := h.up (up_drew (Below.refl _ _))
theorem Bx.lt {w : World} {B : Nat} {v0 : Value} {vs : List Value} (h : Bx w B (v0 :: vs)) : B < w.heap.size := World.block_lt_of_cell? w _ (h.1 0 v0 rfl)
end Go.Proofs.Ytffnngmiaihkeaa
/- But for two blocks, all that was there is as it was; cells laid one by one. -/
namespace Go.Proofs.Ytffnngmiaihkeaa
open Go.RowKit
set_option linter.unusedVariables false

/-- But for the blocks D and R, all that was there is as it was. -/
structure But (D R : Nat) (w w' : World) : Prop where
  os : w'.os = w.os
  tape : w'.tape = w.tape
  output : w'.output = w.output
  size : w.heap.size ≤ w'.heap.size
  block : ∀ k, k < w.heap.size → k ≠ D → k ≠ R → w'.heap[k]? = w.heap[k]?
theorem But.of {D R : Nat} {w w' : World} (h : Below w.heap.size w w') : But D R w w' := ⟨h.os, h.tape, h.output, h.size, fun k hk _ _ => h.block k hk⟩
theorem But.refl (D R : Nat) (w : World) : But D R w w := But.of (Below.refl _ _)
theorem But.trans {D R R' : Nat} {w w' w'' : World} (h : But D R w w') (k : But D R' w' w'') (hR : R' = D ∨ R' = R ∨ w.heap.size ≤ R') : But D R w w'' :=
  ⟨k.os.trans h.os, k.tape.trans h.tape, k.output.trans h.output, Nat.le_trans h.size k.size, fun j hj h1 h2 => (k.block j (Nat.lt_of_lt_of_le hj h.size) h1 (by rcases hR with r | r | r <;> omega)).trans (h.block j hj h1 h2)⟩
theorem But.set {D R : Nat} {w w' : World} (h : But D R w w') (o : Nat) (v : Value) : But D R w (w'.setCell ⟨D, o, none⟩ v) :=
  ⟨h.os, h.tape, h.output, by have := h.size; simpa [World.setCell] using this, fun k hk h1 h2 => (Below.heap_setCell _ _ _ _ h1).trans (h.block k hk h1 h2)⟩
/-- Below what the two blocks are, nothing has changed. -/
theorem But.below {D R B : Nat} {w w' : World} (h : But D R w w') (hB : B ≤ w.heap.size) (h1 : B ≤ D) (h2 : B ≤ R) : Below B w w' := ⟨h.os, h.tape, h.output, h.size, fun k hk => h.block k (by omega) (by omega) (by omega)⟩
/-- Cells laid one by one: the block is as great as it was. -/
theorem heap_setCells_at (b : Nat) : ∀ (vs : List Value) (o : Nat) (w : World) (cur : Array Value) (t : TypeId), w.heap[b]? = some (.cells cur t (0, 0)) → ∃ cur', (w.setCells b o vs).heap[b]? = some (.cells cur' t (0, 0)) ∧ cur'.size = cur.size
  | [], _, w, cur, t, h => ⟨cur, h, rfl⟩
  | v :: r, o, w, cur, t, h => by
    have h1 : (w.setCell ⟨b, o, none⟩ v).heap[b]? = some (.cells (cur.setIfInBounds o v) t (0, 0)) := by
      obtain ⟨hlt, hk⟩ := Array.getElem?_eq_some_iff.1 h
      show (w.heap.modify b _)[b]? = _
      rw [Array.getElem?_eq_getElem (by rw [Array.size_modify]; exact hlt), Array.getElem_modify_self, hk]
      rfl
    obtain ⟨cur', h2, h3⟩ := heap_setCells_at b r (o + 1) _ _ t h1
    exact ⟨cur', h2, by simpa using h3⟩
theorem setCells_but (D b o : Nat) (vs : List Value) (w : World) : But D b w (w.setCells b o vs) := by
  have h : ∀ (vs : List Value) (o : Nat) (w : World), (w.setCells b o vs).os = w.os ∧ (w.setCells b o vs).tape = w.tape ∧ (w.setCells b o vs).output = w.output ∧ w.heap.size ≤ (w.setCells b o vs).heap.size := by
    intro vs
    induction vs with
    | nil => intro o w; exact ⟨rfl, rfl, rfl, Nat.le_refl _⟩
    | cons v r ih =>
      intro o w
      obtain ⟨h1, h2, h3, h4⟩ := ih (o + 1) (w.setCell ⟨b, o, none⟩ v)
      exact ⟨h1, h2, h3, by simpa [World.setCell, World.setCells] using h4⟩
  obtain ⟨h1, h2, h3, h4⟩ := h vs o w
  exact ⟨h1, h2, h3, h4, fun k hk _ hne => World.heap_setCells_other w b o vs hk hne⟩
theorem But.comm {D R : Nat} {w w' : World} (h : But D R w w') : But R D w w' := ⟨h.os, h.tape, h.output, h.size, fun k hk h1 h2 => h.block k hk h2 h1⟩
theorem But.more {D R : Nat} {w w' : World} (h : But R R w w') : But D R w w' := ⟨h.os, h.tape, h.output, h.size, fun k hk _ h2 => h.block k hk h2 h2⟩
theorem row_frozen {w : World} {R : Nat} {cur : Array Value} {t : TypeId} (h : w.heap[R]? = some (.cells cur t (0, 0))) (j : Nat) : w.frozen? ⟨R, j, none⟩ = false := by simp [World.frozen?, h]
theorem row_some {w : World} {R : Nat} {cur : Array Value} {t : TypeId} (h : w.heap[R]? = some (.cells cur t (0, 0))) (j : Nat) (hj : j < cur.size) : (w.cell? ⟨R, j, none⟩).isSome = true := by simp [World.cell?, h, hj]
theorem drew_but (D R : Nat) (w : World) : But D R w w.drew := ⟨rfl, rfl, rfl, Nat.le_refl _, fun _ _ _ _ => rfl⟩
theorem alloc_but (D R : Nat) (w : World) (o : Obj) : But D R w (w.alloc o) := But.of (up_alloc (Below.refl _ _) o)
theorem cells_out {w : World} {b o : Nat} {vs : List Value} {j : Nat} (h : j < o ∨ o + vs.length ≤ j) : (w.setCells b o vs).cell? ⟨b, j, none⟩ = w.cell? ⟨b, j, none⟩ := World.cell?_setCells_out b vs o w _ (fun _ _ => h)
theorem cell_new (w : World) (cur : Array Value) (t : TypeId) (j : Nat) : (w.alloc (.cells cur t)).cell? ⟨w.heap.size, j, none⟩ = cur[j]? := by simp [go_sem]
theorem heap_new (w : World) (o : Obj) : (w.alloc o).heap[w.heap.size]? = some o := World.alloc_heap_new w o
end Go.Proofs.Ytffnngmiaihkeaa
/- The library's contracts at this program: each of the library's functions is compared, body by body, with the one that its contract was proved of. -/
namespace Go.Proofs
open Go.Shelf
def Try.laysSlgn35_ren : Go.Shelf.Ren := ⟨fun | 35 => 59 | n => n, fun | 22 => 69 | 23 => 59 | 3 => 3 | 4 => 4 | 0 => 0 | n => n, fun | n => n⟩
theorem Try.laysSlgn35 : Go.Proofs.SlLaysE0.n35 Try.prog Try.laysSlgn35_ren := {
  mixed := by kernel_rfl
  f35 := ⟨Try.f59.name, by decide, Try.func59.trans (congrArg some (by kernel_rfl))⟩
  t0 := Try.underlying0
  a0 := Try.isAgg0
  z0 := Try.sizeOf0
  v0 := Try.zeroValue0
  t3 := Try.underlying3
  a3 := Try.isAgg3
  z3 := Try.sizeOf3
  v3 := Try.zeroValue3
  t4 := Try.underlying4
  a4 := Try.isAgg4
  z4 := Try.sizeOf4
  v4 := Try.zeroValue4
  t22 := Try.underlying69
  a22 := Try.isAgg69
  z22 := Try.sizeOf69
  v22 := Try.zeroValue69 }
def Try.laysSlgn41_ren : Go.Shelf.Ren := ⟨fun | 41 => 49 | n => n, fun | 22 => 69 | 23 => 59 | 4 => 4 | n => n, fun | n => n⟩
theorem Try.laysSlgn41 : Go.Proofs.SlLaysE0.n41 Try.prog Try.laysSlgn41_ren := {
  mixed := by kernel_rfl
  f41 := ⟨Try.f49.name, by decide, Try.func49.trans (congrArg some (by kernel_rfl))⟩
  t4 := Try.underlying4
  a4 := Try.isAgg4
  z4 := Try.sizeOf4
  v4 := Try.zeroValue4
  t22 := Try.underlying69
  a22 := Try.isAgg69
  z22 := Try.sizeOf69
  v22 := Try.zeroValue69 }
end Go.Proofs
/- Decks of pieces: a piece's cells, how a deck lies in memory, and what the library's Clone makes of a list of pieces. -/
namespace Go.Proofs.Ytffnngmiaihkeaa
open Go.RowKit Go.Lib
set_option linter.unusedVariables false

/-- A panel that lies somewhere: its number, and whether it was flipped. -/
structure Pc where
  n : Int
  fx : Bool
  fy : Bool
deriving DecidableEq, Inhabited
def Pc.cells (p : Pc) : List Value := [.int .i64 p.n, .int .i64 0, .bool p.fx, .bool p.fy]
def Pc.val (p : Pc) : Value := .agg #[.int .i64 p.n, .int .i64 0, .bool p.fx, .bool p.fy]
/-- The pieces' cells, one behind the other. -/
def pcs (l : List Pc) : List Value := l.flatMap Pc.cells
theorem pcs_cons (p : Pc) (l : List Pc) : pcs (p :: l) = p.cells ++ pcs l := rfl
theorem pcs_append (l m : List Pc) : pcs (l ++ m) = pcs l ++ pcs m := by simp [pcs]
theorem pcs_length (l : List Pc) : (pcs l).length = l.length * 4 := by
  induction l with
  | nil => rfl
  | cons p l ih => rw [pcs_cons, List.length_append, ih, List.length_cons]; simp [Pc.cells]; omega
theorem pcs_one {l : List Pc} : ∀ u ∈ pcs l, u.oneCell' = true := by
  intro u hu
  obtain ⟨p, _, hp⟩ := List.mem_flatMap.1 hu
  simp [Pc.cells] at hp
  rcases hp with rfl | rfl | rfl | rfl <;> rfl
theorem pcs_at {l : List Pc} {j : Nat} {p : Pc} (h : l[j]? = some p) (i : Nat) (hi : i < 4) : (pcs l)[j * 4 + i]? = p.cells[i]? := by
  induction l generalizing j with
  | nil => simp at h
  | cons q l ih =>
    rw [pcs_cons]
    cases j with
    | zero =>
      simp only [List.getElem?_cons_zero, Option.some.injEq] at h
      subst h
      rw [List.getElem?_append_left (by simp [Pc.cells]; omega)]
      simp
    | succ j =>
      rw [List.getElem?_cons_succ] at h
      rw [List.getElem?_append_right (by simp [Pc.cells]; omega), ← ih h]
      congr 1
      simp [Pc.cells]
      omega
theorem pcs_set {l : List Pc} {j : Nat} (hj : j < l.length) (q : Pc) : pcs (l.set j q) = (pcs l).take (j * 4) ++ q.cells ++ (pcs l).drop (j * 4 + 4) := by
  have h1 : l.set j q = l.take j ++ q :: l.drop (j + 1) := List.set_eq_take_append_cons_drop .. |>.trans (by rw [if_pos hj])
  have h2 : pcs l = pcs (l.take j) ++ pcs (l.drop j) := by rw [← pcs_append, List.take_append_drop]
  have h3 : (pcs (l.take j)).length = j * 4 := by rw [pcs_length, List.length_take]; omega
  have h4 : l.drop j = l[j] :: l.drop (j + 1) := List.drop_eq_getElem_cons hj
  rw [h1, pcs_append, pcs_cons, h2, List.take_left' h3, ← h3, List.drop_append, h4, pcs_cons]
  simp [Pc.cells]

theorem Try.infoPc : (Try.prog.info? 59).map (fun i => (i.zero, i.size, i.bytes)) = some (some (.agg #[.int .i64 0, .int .i64 0, .bool false, .bool false]), 4, 24) := by kernel_rfl

/-- The pieces stand in block b, from its first cell on. -/
def PcsAt (w : World) (b : Nat) (l : List Pc) : Prop := ∀ j u, (pcs l)[j]? = some u → w.cell? ⟨b, j, none⟩ = some u
theorem PcsAt.up {w w' : World} {b : Nat} {l : List Pc} (h : PcsAt w b l) (hb : Below w.heap.size w w') : PcsAt w' b l := fun j u hu => bl_cell hb (h j u hu)
theorem PcsAt.cells {w : World} {b : Nat} {l : List Pc} (h : PcsAt w b l) {j : Nat} {p : Pc} (hp : l[j]? = some p) :
    w.cell? ⟨b, j * 4, none⟩ = some (.int .i64 p.n) ∧ w.cell? ⟨b, j * 4 + 1, none⟩ = some (.int .i64 0) ∧ w.cell? ⟨b, j * 4 + 2, none⟩ = some (.bool p.fx) ∧ w.cell? ⟨b, j * 4 + 3, none⟩ = some (.bool p.fy) :=
  ⟨h _ _ (pcs_at hp 0 (by omega)), h _ _ (pcs_at hp 1 (by omega)), h _ _ (pcs_at hp 2 (by omega)), h _ _ (pcs_at hp 3 (by omega))⟩

/-- A list of pieces of the call's own, that lies in block g, from there on as far as cap. -/
structure Row (w : World) (base g cap : Nat) (l : List Pc) : Prop where
  own : w.ownsRow base 59 4 (.slice (some ⟨g, 0, none⟩) l.length cap) l.length (pcs l)
theorem Row.block {w : World} {base g cap : Nat} {l : List Pc} (h : Row w base g cap l) : ∃ cur, w.heap[g]? = some (.cells cur 59 (0, 0)) ∧ l.length ≤ cap ∧ cap ≤ maxLen ∧ cur.size = cap * 4 ∧ cur.toList.take (l.length * 4) = pcs l ∧ base ≤ g := by
  rcases h.own.2 with ⟨e, _⟩ | ⟨g', cap', cur, e, h1, h2, h3, h4, h5, h6⟩
  · cases e
  · cases e
    exact ⟨cur, h2, h3, h4, h5, h6, h1⟩
theorem Row.of_block {w : World} {base g cap : Nat} {l : List Pc} {cur : Array Value} (h1 : base ≤ g) (h2 : w.heap[g]? = some (.cells cur 59 (0, 0))) (h3 : l.length ≤ cap) (h4 : cap ≤ maxLen) (h5 : cur.size = cap * 4) (h6 : cur.toList.take (l.length * 4) = pcs l) : Row w base g cap l :=
  ⟨⟨pcs_length l, .inr ⟨g, cap, cur, rfl, h1, h2, h3, h4, h5, h6⟩⟩⟩
theorem Row.lt {w : World} {base g cap : Nat} {l : List Pc} (h : Row w base g cap l) : base ≤ g ∧ g < w.heap.size := h.own.lt g rfl
theorem Row.at {w : World} {base g cap : Nat} {l : List Pc} (h : Row w base g cap l) : PcsAt w g l := fun j u hu => by
  have := h.own.cells (g := g) rfl j u hu
  rwa [show (⟨g, 0, none⟩ : Addr).add j = ⟨g, j, none⟩ by unfold Addr.add; split <;> simp_all] at this
theorem Row.free {w : World} {base g cap : Nat} {l : List Pc} (h : Row w base g cap l) (j : Nat) : w.frozen? ⟨g, j, none⟩ = false := by
  obtain ⟨cur, h2, _⟩ := h.block
  exact row_frozen h2 j
theorem Row.kept {w w' : World} {base g cap : Nat} {l : List Pc} (h : Row w base g cap l) (hb : w'.heap[g]? = w.heap[g]?) : Row w' base g cap l := by
  obtain ⟨cur, h2, h3, h4, h5, h6, h1⟩ := h.block
  exact Row.of_block h1 (hb.trans h2) h3 h4 h5 h6
theorem Row.up {w w' : World} {base g cap : Nat} {l : List Pc} (h : Row w base g cap l) (hb : Below w.heap.size w w') : Row w' base g cap l := h.kept (hb.block g h.lt.2)
theorem Row.base {w : World} {base g cap : Nat} {l : List Pc} (h : Row w base g cap l) (b : Nat) (hb : b ≤ g) : Row w b g cap l := by
  obtain ⟨cur, h2, h3, h4, h5, h6, h1⟩ := h.block
  exact Row.of_block hb h2 h3 h4 h5 h6
/-- What is told of any slice of the call's own, of a list that has something. -/
theorem Row.of_own {w : World} {base : Nat} {v : Value} {l : List Pc} (h : w.ownsRow base 59 4 v l.length (pcs l)) (hl : 0 < l.length) : ∃ g cap, v = .slice (some ⟨g, 0, none⟩) l.length cap ∧ Row w base g cap l := by
  rcases h.2 with ⟨_, h0⟩ | ⟨g, cap, cur, rfl, _⟩
  · omega
  · exact ⟨g, cap, rfl, ⟨h⟩⟩

/-- A deck: its box at D, its things in block R. -/
structure Dp (w : World) (base D R : Nat) (l : List Pc) : Prop where
  low : base ≤ D
  row : ∃ cap, Boxed w D 71 (.slice (some ⟨R, 0, none⟩) l.length cap) ∧ Row w base R cap l
theorem Dp.ltD {w : World} {base D R : Nat} {l : List Pc} (h : Dp w base D R l) : D < w.heap.size := by
  obtain ⟨cap, h1, h2⟩ := h.row
  exact h1.lt
theorem Dp.ltR {w : World} {base D R : Nat} {l : List Pc} (h : Dp w base D R l) : base ≤ R ∧ R < w.heap.size := by
  obtain ⟨cap, h1, h2⟩ := h.row
  exact h2.lt
theorem Dp.ne {w : World} {base D R : Nat} {l : List Pc} (h : Dp w base D R l) : R ≠ D := by
  obtain ⟨cap, h1, h2⟩ := h.row
  obtain ⟨cur, h3, _⟩ := h2.block
  rintro rfl
  have := (show w.heap[R]? = _ from h1).symm.trans h3
  simp at this
theorem Dp.kept {w w' : World} {base D R : Nat} {l : List Pc} (h : Dp w base D R l) (h1 : w'.heap[D]? = w.heap[D]?) (h2 : w'.heap[R]? = w.heap[R]?) : Dp w' base D R l := by
  obtain ⟨cap, k1, k2⟩ := h.row
  exact ⟨h.low, cap, h1.trans k1, k2.kept h2⟩
theorem Dp.up {w w' : World} {base D R : Nat} {l : List Pc} (h : Dp w base D R l) (hb : Below w.heap.size w w') : Dp w' base D R l := h.kept (hb.block D h.ltD) (hb.block R h.ltR.2)
theorem Dp.but {w w' : World} {base D R D' R' : Nat} {l : List Pc} (h : Dp w base D R l) (hb : But D' R' w w') (h1 : D ≠ D') (h2 : D ≠ R') (h3 : R ≠ D') (h4 : R ≠ R') : Dp w' base D R l := h.kept (hb.block D h.ltD h1 h2) (hb.block R h.ltR.2 h3 h4)
theorem Dp.base {w : World} {base D R : Nat} {l : List Pc} (h : Dp w base D R l) (b : Nat) (h1 : b ≤ D) (h2 : b ≤ R) : Dp w b D R l := by
  obtain ⟨cap, k1, k2⟩ := h.row
  exact ⟨h1, cap, k1, k2.base b h2⟩

/-- What a call makes of the deck at D, whose things were in R: now it has l; nothing else has changed. -/
def MadeP (base : Nat) (w : World) (D R : Nat) (l : List Pc) (w' : World) : Prop := ∃ R', Dp w' base D R' l ∧ (R' = R ∨ w.heap.size ≤ R') ∧ But D R w w'
/-- A new list is laid into the deck's box. -/
theorem Dp.put {w w' : World} {base D R R' c : Nat} {l l' : List Pc} {v : Value} (h : Dp w base D R l) (hb : But D R w w') (hD : Boxed w' D 71 v) (hr : Row w' base R' c l') (hR : R' = R ∨ w.heap.size ≤ R') :
    MadeP base w D R l' (w'.setCell ⟨D, 0, none⟩ (.slice (some ⟨R', 0, none⟩) l'.length c)) := by
  obtain ⟨cur, h3, _⟩ := hr.block
  have hne : R' ≠ D := by
    rintro rfl
    have := (show w'.heap[R']? = _ from hD).symm.trans h3
    simp at this
  exact ⟨R', ⟨h.low, c, hD.set _, hr.kept (Below.heap_setCell _ _ _ _ hne)⟩, hR, hb.set 0 _⟩

theorem pcClone_any {w : World} {b : Nat} {l : List Pc} (c : Nat) (h : PcsAt w b l) (h0 : 0 < l.length) (hm : l.length ≤ 1000000) :
    Calls Try.prog 49 #[.slice (some ⟨b, 0, none⟩) l.length c] w fun e w' => ∃ g cap, e = .returned (.slice (some ⟨g, 0, none⟩) l.length cap) ∧ Row w' w.heap.size g cap l ∧ Below w.heap.size w w' := by
  obtain ⟨i0, hi, hz0, hz1, hz2⟩ := info_parts Try.infoPc
  have K : Calls Try.prog 49 _ _ _ := AnyE.slices_Clone Try.laysSlgn41 i0 _ 4 24 hi hz0 hz1 hz2 rfl (by omega) Try.sizeOf59 b 0 l.length c (pcs l) w (pcs_length l) (by unfold maxLen; omega) (by omega)
    (fun j u hu => by rw [Nat.zero_add]; exact h j u hu) pcs_one
  refine K.mono ?_
  rintro e w' ⟨v, rfl, h1, _, h2⟩
  obtain ⟨g, cap, rfl, h3⟩ := Row.of_own h1 h0
  exact ⟨g, cap, rfl, h3, h2⟩
end Go.Proofs.Ytffnngmiaihkeaa
/- What the library's Reverse and Insert make of lists of pieces. -/
namespace Go.Proofs.Ytffnngmiaihkeaa
open Go.RowKit Go.Sort Go.Lib
set_option linter.unusedVariables false

theorem flat_pcs (l : List Pc) : flatK Pc.cells 4 l.toArray = (pcs l).toArray := by
  apply Array.ext
  · simp [pcs_length]
  · intro t h1 h2
    have ht : t < l.length * 4 := by simpa using h1
    have e := get_flatK Pc.cells 4 l.toArray t (by simpa using ht)
    rw [getElem!_pos _ t h1] at e
    rw [e]
    have hj : t / 4 < l.length := by omega
    have hp := pcs_at (l := l) (j := t / 4) (p := l[t / 4]) (List.getElem?_eq_getElem hj) (t % 4) (by omega)
    rw [show t / 4 * 4 + t % 4 = t by omega] at hp
    have hc : t % 4 < (l[t / 4]).cells.length := by simp [Pc.cells]; omega
    rw [List.getElem?_eq_getElem (by rw [pcs_length]; exact ht), List.getElem?_eq_getElem hc] at hp
    have e2 : l.toArray[t / 4]! = l[t / 4] := by rw [getElem!_pos _ (t / 4) (by simpa using hj)]; simp
    rw [e2, getElem!_pos _ (t % 4) hc]
    simpa using (Option.some.inj hp).symm

theorem Row.holds {w : World} {base g cap : Nat} {l : List Pc} (h : Row w base g cap l) : HoldsK Pc.cells 4 w g 0 l.toArray := by
  unfold HoldsK
  rw [flat_pcs]
  intro j hj
  have hj' : j < (pcs l).length := by simpa using hj
  refine ⟨?_, h.free _⟩
  rw [Nat.zero_add, h.at j _ (List.getElem?_eq_getElem hj'), getElem!_pos _ j hj]
  simp
theorem put_heap {w : World} {g n : Nat} {cur : Array Value} {e : TypeId} {fr : Nat × Nat} (F : Array Value) (hb : w.heap[g]? = some (.cells cur e fr)) : (putRow id (Sort.ahead w n) g 0 F).heap[g]? = some (.cells (putCells id 0 F cur) e fr) := by
  simp [putRow, mapBlock, Sort.ahead, Array.getElem?_modify, hb, onCells]
theorem put_other {w : World} {g n : Nat} (F : Array Value) {k : Nat} (hk : k ≠ g) : (putRow id (Sort.ahead w n) g 0 F).heap[k]? = w.heap[k]? := by
  have : g ≠ k := fun e => hk e.symm
  simp [putRow, mapBlock, Sort.ahead, Array.getElem?_modify, this]
theorem put_take (cur : Array Value) (F : List Value) (h : F.length ≤ cur.size) : (putCells id 0 F.toArray cur).toList.take F.length = F := by
  apply List.ext_getElem?
  intro j
  by_cases hj : j < F.length
  · rw [List.getElem?_take_of_lt hj, Array.getElem?_toList]
    simp [putCells, hj, show j < cur.size by omega]
  · rw [List.getElem?_take_eq_none (by omega), List.getElem?_eq_none (by omega)]

theorem pcReverse_any {w : World} {base g cap : Nat} {l : List Pc} (h : Row w base g cap l) (hm : l.length ≤ 1000000) :
    Calls Try.prog 59 #[.slice (some ⟨g, 0, none⟩) l.length cap] w fun e w' => e = .returned (.tuple #[]) ∧ Row w' base g cap l.reverse ∧ Below base w w' := by
  have K : Calls Try.prog 59 _ _ _ := AnyQ.slices_Reverse Try.laysSlgn35 4 Try.isAgg59 Try.sizeOf59 Pc.cells (fun _ => rfl) (fun p v hv => pcs_one (l := [p]) v (by simpa [pcs] using hv)) g 0 cap l.toArray w h.holds (by simp; omega)
  rw [show l.toArray.size = l.length by simp] at K
  refine K.mono ?_
  rintro e w' ⟨rfl, n, rfl⟩
  obtain ⟨cur, h2, h3, h4, h5, h6, h1⟩ := h.block
  have e1 : l.toArray.reverse = l.reverse.toArray := by simp
  have hpl : (pcs l.reverse).length = l.length * 4 := by rw [pcs_length, List.length_reverse]
  refine ⟨rfl, Row.of_block h1 (put_heap _ h2) (by simpa using h3) h4 (by simpa [putCells] using h5) ?_, ?_⟩
  · rw [e1, flat_pcs, List.length_reverse]
    have := put_take cur (pcs l.reverse) (by rw [hpl]; omega)
    rwa [hpl] at this
  · exact ⟨rfl, rfl, rfl, by simp [putRowK, putRow, mapBlock, Sort.ahead], fun k hk => put_other _ (by have := h.lt; omega)⟩

/-- copy, of elements of k cells: all is read before anything is written. -/
theorem run_copy_k {P : Program} (w : World) (dT sT ty elem : TypeId) (k b o dLen dCap : Nat) (a : Addr) (sLen sCap : Nat) (cs : List Value)
    (hu : P.underlying dT = some (.slice elem)) (hs : (P.info? elem).map (·.size) = some k) (hn : cs.length = Nat.min sLen dLen * k)
    (hsrc : ∀ j v, cs[j]? = some v → w.cell? (a.add j) = some v) (hc : ∀ j, j < cs.length → (w.cell? ⟨b, o + j, none⟩).isSome = true) (hf : ∀ j, j < cs.length → w.frozen? ⟨b, o + j, none⟩ = false) (h1 : ∀ v ∈ cs, v.oneCell' = true) :
    (Builtin.copy_ #[dT, sT] ty #[.slice (some ⟨b, o, none⟩) dLen dCap, .slice (some a) sLen sCap]).run P w = .ok (goInt (Nat.min sLen dLen)) (w.setCells b o cs) := by
  have hst := run_storeCells_cells (P := P) b o cs 0 w (by simpa using hc) (by simpa using hf) h1
  cases hq : P.info? elem with
  | none => simp [hq] at hs
  | some i =>
    have hi : i.size = k := by simpa [hq] using hs
    have hl := run_firstCells_some (P := P) w i.size (Nat.min sLen dLen) a sLen sCap cs (by rw [hi]; exact hn) hsrc
    simp [Builtin.copy_, run_underlying hu, Builtin.lenOf, sizeOf, typeInfo, hq, hl, hst]

/-- Cells laid one by one: what stands in the block then. -/
theorem heap_setCells_list (b : Nat) : ∀ (vs : List Value) (o : Nat) (w : World) (cur : Array Value) (t : TypeId), w.heap[b]? = some (.cells cur t (0, 0)) → o + vs.length ≤ cur.size → ∃ cur', (w.setCells b o vs).heap[b]? = some (.cells cur' t (0, 0)) ∧ cur'.toList = cur.toList.take o ++ vs ++ cur.toList.drop (o + vs.length)
  | [], o, w, cur, t, h, _ => ⟨cur, h, by simp⟩
  | v :: r, o, w, cur, t, h, hlen => by
    simp only [List.length_cons] at hlen
    have h1 : (w.setCell ⟨b, o, none⟩ v).heap[b]? = some (.cells (cur.setIfInBounds o v) t (0, 0)) := by
      obtain ⟨hlt, hk⟩ := Array.getElem?_eq_some_iff.1 h
      show (w.heap.modify b _)[b]? = _
      rw [Array.getElem?_eq_getElem (by rw [Array.size_modify]; exact hlt), Array.getElem_modify_self, hk]
      rfl
    obtain ⟨cur', h2, h3⟩ := heap_setCells_list b r (o + 1) _ _ t h1 (by simp; omega)
    refine ⟨cur', h2, ?_⟩
    rw [h3]
    have e : (cur.setIfInBounds o v).toList = cur.toList.take o ++ v :: cur.toList.drop (o + 1) := by
      rw [Array.toList_setIfInBounds, List.set_eq_take_append_cons_drop, if_pos (by simp; omega)]
    have lt : (cur.toList.take o).length = o := by rw [List.length_take]; simp; omega
    have e1 : (cur.toList.take o ++ v :: cur.toList.drop (o + 1)).take (o + 1) = cur.toList.take o ++ [v] := by
      rw [List.take_append, lt, List.take_of_length_le (by omega), show o + 1 - o = 1 by omega]
      rfl
    have e2 : (cur.toList.take o ++ v :: cur.toList.drop (o + 1)).drop (o + 1 + r.length) = cur.toList.drop (o + (r.length + 1)) := by
      rw [List.drop_append, lt, List.drop_eq_nil_of_le (by omega), show o + 1 + r.length - o = r.length + 1 by omega, List.drop_succ_cons, List.drop_drop, List.nil_append]
      congr 1
      omega
    rw [e, e1, e2]
    simp

/-- What Insert answers, of a list in block g. -/
def InsP (base : Nat) (w : World) (g : Nat) (l : List Pc) (e : Ending) (w' : World) : Prop :=
  ∃ g' cap', e = .returned (.slice (some ⟨g', 0, none⟩) l.length cap') ∧ Row w' base g' cap' l ∧ (g' = g ∨ w.heap.size ≤ g') ∧ But g g w w'

theorem but_of_grown {w w' : World} {g : Nat} (h : w.grownBy w' (some g)) : But g g w w' := ⟨h.os, h.tape, h.output, h.size, fun k hk h1 _ => h.block k hk (by simpa using h1)⟩
theorem addr0 (g j : Nat) : (⟨g, 0, none⟩ : Addr).add j = ⟨g, j, none⟩ := by unfold Addr.add; split <;> simp_all

set_option maxRecDepth 100000 in
set_option maxHeartbeats 1000000 in
theorem pcInsert_end {w : World} {base g cap : Nat} {l xs : List Pc} (h : Row w base g cap l) (u c2 : Nat) (hu : PcsAt w u xs) (hl0 : 0 < l.length) (hx0 : 0 < xs.length) (hl : l.length ≤ 1000000) (hx : xs.length ≤ 1000000) :
    Calls Try.prog 63 #[.slice (some ⟨g, 0, none⟩) l.length cap, .int .i64 (l.length : Int), .slice (some ⟨u, 0, none⟩) xs.length c2] w (InsP base w g (l ++ xs)) := by
  obtain ⟨i0, hi, hz0, hz1, hz2⟩ := info_parts Try.infoPc
  have hcap : l.length ≤ cap ∧ cap ≤ maxLen := by obtain ⟨cur, _, h3, h4, _⟩ := h.block; exact ⟨h3, h4⟩
  have HR := Lib.hid h; have HU := Lib.hid hu
  have HX : Hid ((pcs xs).length = xs.length * 4) := Lib.hid (pcs_length xs)
  have HLX : Hid ((l ++ xs).length = l.length + xs.length) := Lib.hid List.length_append
  have hbase := h.lt
  clear h hu
  generalize hn : l.length = n at *
  generalize hm : xs.length = m at *
  have HN := Lib.hid hn; have HM := Lib.hid hm
  clear hn hm
  have z1 : ¬ ((m : Int) = 0) := by omega
  rcases Decidable.em (cap = n) with rfl | hne
  all_goals
    go_enter Try.func63, Try.ntmps63
    go_wp2_with (at_builtin; refine wpList_append_own_at _ rfl _ _ 69 rfl base 59 i0 _ 4 24 Try.underlying69 hi hz0 hz1 hz2 rfl (by omega) _ _ _ rfl (HN.out ▸ HR.out.own) ⟨u, 0, none⟩ m c2 (pcs xs) rfl ?qc1 ?qc2 ?qc3 ?qc4 ?qc5 ?qc6 ?_)
    case qc1 => exact HX.out
    case qc2 => intro j v hj; rw [addr0]; exact HU.out j v hj
    case qc3 => exact pcs_one
    case qc4 => unfold maxLen; omega
    case qc5 => omega
    case qc6 => omega
    intro v' w1 hown hgrow hnil hat
    rw [← pcs_append, ← HLX.out] at hown
    obtain ⟨g', cap', rfl, hrow⟩ := Row.of_own hown (by rw [HLX.out]; omega)
    have HO := Lib.hid hrow; have HG := Lib.hid (but_of_grown (g := g) hgrow)
    have HA := Lib.hid hat
    clear hown hgrow hnil hat hrow
    go_wp2
    go_ret
    refine ⟨g', cap', rfl, HO.out, ?_, HG.out⟩
    have := HA.out
    simp [Value.ownBlock] at this
    omega

theorem run_overlaps_pc {w : World} (u g o : Nat) (m c2 lb cb : Nat) (hne : u ≠ g) (curu curg : Array Value) (hu : w.heap[u]? = some (.cells curu 59 (0, 0))) (hg : w.heap[g]? = some (.cells curg 59 (0, 0))) (h0 : curg.size ≠ 0) :
    (callFunc 64 #[.slice (some ⟨u, 0, none⟩) m c2, .slice (some ⟨g, o, none⟩) lb cb]).run Try.prog w = .ok (.value (.bool false)) w := by
  rw [run_callFunc_extern Try.func64 (by kernel_rfl) (by kernel_rfl) (by kernel_rfl) (e := Extern.SlicesOverlaps.overlaps #[69, 69] #[4]) (by kernel_rfl),
    Lib.run_overlaps_apart w 69 4 59 Try.underlying69 4 Try.sizeOf59 ⟨u, 0, none⟩ ⟨g, o, none⟩ m c2 lb cb hne 59 59 curu.size curg.size (by simp [World.shape?, hu]) (by simp [World.shape?, hg]) h0 (row_frozen hu _) (row_frozen hu _)]
  rfl

set_option maxHeartbeats 4000000 in
set_option maxRecDepth 100000 in
theorem pcInsert_room {w : World} {base g cap : Nat} {l xs : List Pc} (h : Row w base g cap l) (base2 u c2 : Nat) (hu : Row w base2 u c2 xs) (hne : u ≠ g) (hl0 : 0 < l.length) (hx0 : 0 < xs.length) (hl : l.length ≤ 1000000) (hx : xs.length ≤ 1000000) (hroom : l.length + xs.length ≤ cap) :
    Calls Try.prog 63 #[.slice (some ⟨g, 0, none⟩) l.length cap, .int .i64 0, .slice (some ⟨u, 0, none⟩) xs.length c2] w (InsP base w g (xs ++ l)) := by
  obtain ⟨cur, h2, h3, h4, h5, h6, h1⟩ := h.block
  obtain ⟨curu, k2, k3, k4, k5, k6, k1⟩ := hu.block
  have hov := fun o lb cb => run_overlaps_pc (w := w) u g o xs.length c2 lb cb hne curu cur k2 h2 (by omega)
  have HL := Lib.hid (pcs_length l); have HX := Lib.hid (pcs_length xs); have HA := Lib.hid h.at; have HU := Lib.hid hu.at
  have hsz : (Try.prog.info? 59).map (·.size) = some 4 := by kernel_rfl
  have c1 : ∀ ty dc sc, (Builtin.copy_ #[69, 69] ty #[.slice (some ⟨g, xs.length * 4, none⟩) l.length dc, .slice (some ⟨g, 0, none⟩) (l.length + xs.length) sc]).run Try.prog w.drew = .ok (goInt l.length) (w.drew.setCells g (xs.length * 4) (pcs l)) := fun ty dc sc => by
    have := run_copy_k (P := Try.prog) w.drew _ 69 ty _ 4 g (xs.length * 4) l.length dc ⟨g, 0, none⟩ (l.length + xs.length) sc (pcs l) Try.underlying69 hsz (by rw [pcs_length, show Nat.min (l.length + xs.length) l.length = l.length from Nat.min_eq_right (by omega)])
      (fun j v hj => by rw [addr0]; exact h.at j v hj) (fun j hj => row_some (w := w.drew) h2 _ (by rw [HL.out] at hj; omega)) (fun j _ => row_frozen (w := w.drew) h2 _) pcs_one
    rwa [show Nat.min (l.length + xs.length) l.length = l.length from Nat.min_eq_right (by omega)] at this
  obtain ⟨cur1, e1, e2⟩ := heap_setCells_list g (pcs l) (xs.length * 4) w.drew cur _ h2 (by rw [pcs_length]; omega)
  obtain ⟨W1, hW1⟩ : ∃ W1, w.drew.setCells g (xs.length * 4) (pcs l) = W1 := ⟨_, rfl⟩
  have hb1 : But g g w W1 := by rw [← hW1]; exact (drew_but g g w).trans (setCells_but g g _ _ _) (.inl rfl)
  rw [hW1] at e1 c1
  have s1 : cur1.size = cap * 4 := by
    have := congrArg List.length e2
    simp [HL.out] at this
    omega
  have hU1 : PcsAt W1 u xs := fun j v hv => by
    rw [World.cell?_of_block (a := ⟨u, j, none⟩) (hb1.block u hu.lt.2 hne hne)]
    exact hu.at j v hv
  have c2' : ∀ ty dc sc, (Builtin.copy_ #[69, 69] ty #[.slice (some ⟨g, 0, none⟩) (l.length + xs.length) dc, .slice (some ⟨u, 0, none⟩) xs.length sc]).run Try.prog W1 = .ok (goInt xs.length) (W1.setCells g 0 (pcs xs)) := fun ty dc sc => by
    have := run_copy_k (P := Try.prog) W1 _ 69 ty _ 4 g 0 (l.length + xs.length) dc ⟨u, 0, none⟩ xs.length sc (pcs xs) Try.underlying69 hsz (by rw [pcs_length, show Nat.min xs.length (l.length + xs.length) = xs.length from Nat.min_eq_left (by omega)])
      (fun j v hj => by rw [addr0]; exact hU1 j v hj) (fun j hj => row_some e1 _ (by rw [HX.out] at hj; omega)) (fun j _ => row_frozen e1 _) pcs_one
    rwa [show Nat.min xs.length (l.length + xs.length) = xs.length from Nat.min_eq_left (by omega)] at this
  obtain ⟨cur2, f1, f2⟩ := heap_setCells_list g (pcs xs) 0 W1 cur1 _ e1 (by rw [pcs_length]; omega)
  have s2 : cur2.size = cap * 4 := by
    have := congrArg List.length f2
    simp [HX.out] at this
    omega
  have hfin : InsP base w g (xs ++ l) (.returned (.slice (some ⟨g, 0, none⟩) (l.length + xs.length) cap)) (W1.setCells g 0 (pcs xs)) := by
    refine ⟨g, cap, by rw [List.length_append, Nat.add_comm], Row.of_block h1 f1 (by rw [List.length_append]; omega) h4 s2 ?_, .inl rfl, hb1.trans (setCells_but g g _ _ _) (.inl rfl)⟩
    rw [f2, e2]
    have lt : (cur.toList.take (xs.length * 4)).length = xs.length * 4 := by rw [List.length_take]; simp; omega
    have t1 : ((cur.toList.take (xs.length * 4) ++ pcs l ++ cur.toList.drop (xs.length * 4 + (pcs l).length)).drop (0 + (pcs xs).length)) = pcs l ++ cur.toList.drop (xs.length * 4 + (pcs l).length) := by
      rw [Nat.zero_add, HX.out, List.append_assoc, List.drop_append, lt, List.drop_eq_nil_of_le (by omega), Nat.sub_self]
      rfl
    rw [t1, List.take_zero, List.nil_append, ← List.append_assoc, ← pcs_append, List.length_append, List.take_append, List.take_of_length_le (by rw [pcs_length, List.length_append]; exact Nat.le_refl _)]
    rw [pcs_length (xs ++ l), List.length_append, Nat.sub_self]
    simp
  have HF := Lib.hid hfin
  clear hfin f1 f2 e1 e2 s1 s2 hU1 hb1 h2 h5 h6 h1 k1 k2 k3 k4 k5 k6 h hu HA HU cur2 cur1
  generalize l.length = n at *
  generalize xs.length = m at *
  have z1 : ¬ ((m : Int) = 0) := by omega
  have z2 : ¬ ((n : Int) = 0) := by omega
  have z3 : ¬ ((cap : Int) < (n : Int) + (m : Int)) := by omega
  have z4 : cap ≤ 9223372036854775807 := by unfold maxLen at h4; omega
  have z5 : IntKind.i64.wrap (m : Int) = (m : Int) := IntWalk.i64_in _ (by omega)
  have z6 : (0 : Int) ≤ (m : Int) := by omega
  have z7 : (m : Int) ≤ (n : Int) + (m : Int) := by omega
  have z8 : ¬ (cap = m) := by omega
  have z10 : (0 : Int) ≤ (n : Int) + (m : Int) := by omega
  have z9 : n + m - m = n := by omega
  have HW := Lib.hid hW1
  clear hW1
  go_enter Try.func63, Try.ntmps63
  go_wp2_with (simp only [hov])
  go_region_law (refine step_copy_runI rfl _ _ 69 69 rfl _ _ (by simp [Act.eval, Act.put]) (by simp [Act.eval, Act.put]) (c1 _ _ _) ?_)
  go_wp2_with (at_builtin; refine wpList_copy_runI _ rfl _ _ 69 69 rfl _ _ rfl rfl (c2' _ _ _) ?_)
  go_ret
  exact HF.out

theorem zeros4_size (n : Nat) : (Builtin.zeroCells (Value.agg #[.int .i64 0, .int .i64 0, .bool false, .bool false]).cells n).size = n * 4 := by simp [Builtin.zeroCells, Value.cells]

set_option maxHeartbeats 4000000 in
set_option maxRecDepth 100000 in
theorem pcInsert_grow {w : World} {base g cap : Nat} {l xs : List Pc} (h : Row w base g cap l) (base2 u c2 : Nat) (hu : Row w base2 u c2 xs) (hl0 : 0 < l.length) (hx0 : 0 < xs.length) (hl : l.length ≤ 1000000) (hx : xs.length ≤ 1000000) (hroom : cap < l.length + xs.length) :
    Calls Try.prog 63 #[.slice (some ⟨g, 0, none⟩) l.length cap, .int .i64 0, .slice (some ⟨u, 0, none⟩) xs.length c2] w (InsP base w g (xs ++ l)) := by
  obtain ⟨cur, h2, h3, h4, h5, h6, h1⟩ := h.block
  obtain ⟨i0, hi, hz0, hz1, hz2⟩ := info_parts Try.infoPc
  have HL := Lib.hid (pcs_length l); have HX := Lib.hid (pcs_length xs); have HA := Lib.hid h.at; have HU := Lib.hid hu.at
  have hsz : (Try.prog.info? 59).map (·.size) = some 4 := by kernel_rfl
  obtain ⟨N, hN⟩ : ∃ N, l.length + xs.length = N := ⟨_, rfl⟩
  rw [hN] at hroom
  -- the new row of zeros
  have hrz : ∀ ty, (Builtin.append_ #[69, 3] ty #[.slice (some ⟨g, 0, none⟩) 0 cap, .int .i64 (N : Int)]).run Try.prog w =
      .ok (.slice (some ⟨w.heap.size, 0, none⟩) N (grownCap w N cap 59)) (w.drew.alloc (.cells (#[] ++ Builtin.zeroCells (Value.agg #[.int .i64 0, .int .i64 0, .bool false, .bool false]).cells N ++ Builtin.zeroCells (Value.agg #[.int .i64 0, .int .i64 0, .bool false, .bool false]).cells (grownCap w N cap 59 - N)) 59)) := fun ty => by
    have hold : (Builtin.firstCells i0.size 0 (.slice (some ⟨g, 0, none⟩) 0 cap)).run Try.prog w.drew = .ok ([] : List Value).toArray w.drew := run_firstCells_some w.drew i0.size 0 ⟨g, 0, none⟩ 0 cap [] (by simp) (fun j v hj => by simp at hj)
    have h := Lib.run_append_grow_zeros w 69 3 ty 59 i0 _ .i64 .i64 Try.underlying69 Try.underlying3 hi hz0 (some ⟨g, 0, none⟩) 0 cap [] hold N (by omega) (by omega) (by omega) (by omega) (by rw [hz2]; omega) (by rw [hz2, Nat.zero_add]; exact growslice_fits hroom (by omega))
    rw [Nat.zero_add] at h
    exact h
  have hGn : N ≤ grownCap w N cap 59 := grownCap_ge w _ _ _
  have hGm := grownCap_le_maxLen w N cap 59 (by unfold maxLen; omega)
  generalize grownCap w N cap 59 = G at *
  obtain ⟨ROW, hROW⟩ : ∃ ROW : Array Value, #[] ++ Builtin.zeroCells (Value.agg #[.int .i64 0, .int .i64 0, .bool false, .bool false]).cells N ++ Builtin.zeroCells (Value.agg #[.int .i64 0, .int .i64 0, .bool false, .bool false]).cells (G - N) = ROW := ⟨_, rfl⟩
  rw [hROW] at hrz
  have hRs : ROW.size = G * 4 := by
    rw [← hROW, Array.size_append, Array.size_append, zeros4_size, zeros4_size]
    simp
    omega
  clear hROW
  obtain ⟨W0, hW0⟩ : ∃ W0, w.drew.alloc (.cells ROW 59) = W0 := ⟨_, rfl⟩
  have e0 : W0.heap[w.heap.size]? = some (.cells ROW 59 (0, 0)) := by rw [← hW0]; exact heap_new w.drew _
  have hbw : Below w.heap.size w W0 := by rw [← hW0]; exact up_alloc (up_drew (Below.refl _ _)) _
  rw [hW0] at hrz
  have c1 : ∀ ty dc sc, (Builtin.copy_ #[69, 69] ty #[.slice (some ⟨w.heap.size, 0, none⟩) N dc, .slice (some ⟨u, 0, none⟩) xs.length sc]).run Try.prog W0 = .ok (goInt xs.length) (W0.setCells w.heap.size 0 (pcs xs)) := fun ty dc sc => by
    have := run_copy_k (P := Try.prog) W0 _ 69 ty _ 4 w.heap.size 0 N dc ⟨u, 0, none⟩ xs.length sc (pcs xs) Try.underlying69 hsz (by rw [pcs_length, show Nat.min xs.length N = xs.length from Nat.min_eq_left (by omega)])
      (fun j v hj => by rw [addr0]; exact (hu.at.up hbw) j v hj) (fun j hj => row_some e0 _ (by rw [HX.out] at hj; omega)) (fun j _ => row_frozen e0 _) pcs_one
    rwa [show Nat.min xs.length N = xs.length from Nat.min_eq_left (by omega)] at this
  obtain ⟨cur1, e1, e2⟩ := heap_setCells_list w.heap.size (pcs xs) 0 W0 ROW _ e0 (by rw [pcs_length]; omega)
  obtain ⟨W1, hW1⟩ : ∃ W1, W0.setCells w.heap.size 0 (pcs xs) = W1 := ⟨_, rfl⟩
  have hb1 : But w.heap.size w.heap.size W0 W1 := by rw [← hW1]; exact setCells_but _ _ _ _ _
  rw [hW1] at e1 c1
  have s1 : cur1.size = G * 4 := by
    have := congrArg List.length e2
    simp [HX.out] at this
    omega
  have hA1 : PcsAt W1.drew g l := fun j v hv => by
    show W1.cell? ⟨g, j, none⟩ = some v
    rw [World.cell?_of_block (a := ⟨g, j, none⟩) (hb1.block g (Nat.lt_of_lt_of_le h.lt.2 hbw.size) (by have := h.lt; omega) (by have := h.lt; omega))]
    exact (h.at.up hbw) j v hv
  have c2' : ∀ ty dc sc, (Builtin.copy_ #[69, 69] ty #[.slice (some ⟨w.heap.size, xs.length * 4, none⟩) l.length dc, .slice (some ⟨g, 0, none⟩) l.length sc]).run Try.prog W1.drew = .ok (goInt l.length) (W1.drew.setCells w.heap.size (xs.length * 4) (pcs l)) := fun ty dc sc => by
    have := run_copy_k (P := Try.prog) W1.drew _ 69 ty _ 4 w.heap.size (xs.length * 4) l.length dc ⟨g, 0, none⟩ l.length sc (pcs l) Try.underlying69 hsz (by rw [pcs_length, show Nat.min l.length l.length = l.length from Nat.min_self _])
      (fun j v hj => by rw [addr0]; exact hA1 j v hj) (fun j hj => row_some (w := W1.drew) e1 _ (by rw [HL.out] at hj; omega)) (fun j _ => row_frozen (w := W1.drew) e1 _) pcs_one
    rwa [show Nat.min l.length l.length = l.length from Nat.min_self _] at this
  obtain ⟨cur2, f1, f2⟩ := heap_setCells_list w.heap.size (pcs l) (xs.length * 4) W1.drew cur1 _ e1 (by rw [pcs_length]; omega)
  have s2 : cur2.size = G * 4 := by
    have := congrArg List.length f2
    simp [HL.out] at this
    omega
  have hfin : InsP base w g (xs ++ l) (.returned (.slice (some ⟨w.heap.size, 0, none⟩) N G)) (W1.drew.setCells w.heap.size (xs.length * 4) (pcs l)) := by
    refine ⟨w.heap.size, G, by rw [List.length_append, Nat.add_comm, hN], Row.of_block (by have := h.lt; omega) f1 (by rw [List.length_append]; omega) hGm s2 ?_, .inr (Nat.le_refl _), ?_⟩
    · rw [f2, e2]
      have t1 : (List.take 0 ROW.toList ++ pcs xs ++ ROW.toList.drop (0 + (pcs xs).length)).take (xs.length * 4) = pcs xs := by
        rw [List.take_zero, List.nil_append, ← HX.out, List.take_left' rfl]
      rw [t1, ← pcs_append, List.length_append, List.take_append, List.take_of_length_le (by rw [pcs_length, List.length_append]; exact Nat.le_refl _)]
      rw [pcs_length (xs ++ l), List.length_append, Nat.sub_self]
      simp
    · have b2 := setCells_but w.heap.size w.heap.size (xs.length * 4) (pcs l) W1.drew
      exact ⟨b2.os.trans (hb1.os.trans hbw.os), b2.tape.trans (hb1.tape.trans hbw.tape), b2.output.trans (hb1.output.trans hbw.output), Nat.le_trans hbw.size (Nat.le_trans hb1.size b2.size), fun k hk _ _ =>
        (b2.block k (Nat.lt_of_lt_of_le hk (Nat.le_trans hbw.size hb1.size)) (by omega) (by omega)).trans ((hb1.block k (Nat.lt_of_lt_of_le hk hbw.size) (by omega) (by omega)).trans (hbw.block k hk))⟩
  have HF := Lib.hid hfin
  clear hfin f1 f2 e1 e2 e0 s1 s2 hA1 hb1 hbw h2 h5 h6 h1 h hu HA HU cur2 cur1 cur hRs
  have HW := Lib.hid hW1; have HW0 := Lib.hid hW0
  clear hW1 hW0
  generalize l.length = n at *
  generalize xs.length = m at *
  have z1 : ¬ ((m : Int) = 0) := by omega
  have z2 : ¬ ((n : Int) = 0) := by omega
  have z3 : (cap : Int) < (n : Int) + (m : Int) := by omega
  have z4 : cap ≤ 9223372036854775807 := by unfold maxLen at h4; omega
  have z5 : IntKind.i64.wrap (m : Int) = (m : Int) := IntWalk.i64_in _ (by omega)
  have z6 : (0 : Int) ≤ (m : Int) := by omega
  have z7 : (m : Int) ≤ (N : Int) := by omega
  have z8 : ¬ (G = m) := by omega
  have z9 : N - m = n := by omega
  have z11 : (n : Int) + (m : Int) = (N : Int) := by omega
  have z12 : IntKind.i64.wrap (N : Int) = (N : Int) := IntWalk.i64_in _ (by omega)
  have z13 : ¬ (G = 0) := by omega
  have z14 : ¬ (cap = 0) := by omega
  go_enter Try.func63, Try.ntmps63
  go_wp2_with (first
    | (at_builtin; refine Lib.wpList_append_run _ rfl _ _ _ _ rfl _ _ rfl rfl _ _ (hrz _) ?_)
    | (at_builtin; refine wpList_copy_runI _ rfl _ _ 69 69 rfl _ _ rfl rfl (c1 _ _ _) ?_))
  go_region_law (refine step_copy_runI rfl _ _ 69 69 rfl _ _ (by simp [Act.eval, Act.put]) (by simp [Act.eval, Act.put]) (c2' _ _ _) ?_)
  go_wp2
  go_ret
  exact HF.out
end Go.Proofs.Ytffnngmiaihkeaa
/- What deck's calls answer (Of, Len, List, lay, Over, Under), at pieces, for decks that have something. -/
namespace Go.Proofs.Ytffnngmiaihkeaa
open Go.RowKit
set_option linter.unusedVariables false

/-- A deck that was made just now, of l. -/
def NewP (w : World) (l : List Pc) (e : Ending) (w' : World) : Prop := ∃ D R, e = .returned (.pointer (some ⟨D, 0, none⟩)) ∧ Dp w' w.heap.size D R l ∧ Below w.heap.size w w'
theorem pcOf_any {w : World} {b : Nat} {l : List Pc} (c : Nat) (h : PcsAt w b l) (h0 : 0 < l.length) (hm : l.length ≤ 1000000) :
    Calls Try.prog 41 #[.slice (some ⟨b, 0, none⟩) l.length c] w (NewP w l) := by
  have HK := Lib.hid (pcClone_any c h h0 hm)
  clear h
  go_enter Try.func41, Try.ntmps41
  go_wp2_with fail
  refine HK.out.mono ?_
  rintro e w1 ⟨g, cap, rfl, hrow, hb⟩
  have HR := Lib.hid hrow; have HB := Lib.hid hb
  clear hrow hb HK
  go_wp2
  go_ret
  exact ⟨w1.heap.size, g, rfl, ⟨HB.out.size, cap, Boxed.new w1 _ _, HR.out.kept (Below.heap_alloc _ _ _ HR.out.lt.2)⟩, up_alloc HB.out _⟩

theorem pcLen_any {w : World} {base D R : Nat} {l : List Pc} (h : Dp w base D R l) :
    Calls Try.prog 27 #[.pointer (some ⟨D, 0, none⟩)] w fun e w' => e = .returned (.int .i64 (l.length : Int)) ∧ w' = w := by
  obtain ⟨cap, h1, h2⟩ := h.row
  have b0 := h1.cell
  clear h h1 h2
  go_enter Try.func27, Try.ntmps27
  go_wp2
  go_ret
  exact ⟨rfl, rfl⟩

/-- A list that was made just now. -/
def ListP (w : World) (l : List Pc) (e : Ending) (w' : World) : Prop := ∃ g cap, e = .returned (.slice (some ⟨g, 0, none⟩) l.length cap) ∧ Row w' w.heap.size g cap l ∧ Below w.heap.size w w'
theorem pcList_any {w : World} {base D R : Nat} {l : List Pc} (h : Dp w base D R l) (h0 : 0 < l.length) (hm : l.length ≤ 1000000) :
    Calls Try.prog 35 #[.pointer (some ⟨D, 0, none⟩)] w (ListP w l) := by
  obtain ⟨cap, h1, h2⟩ := h.row
  have b0 := h1.cell
  have HK := Lib.hid (pcClone_any cap h2.at h0 hm)
  clear h h1 h2
  go_enter Try.func35, Try.ntmps35
  go_wp2_with fail
  refine HK.out.mono ?_
  rintro e w1 ⟨g, c, rfl, hrow, hb⟩
  have HR := Lib.hid hrow; have HB := Lib.hid hb
  clear hrow hb HK
  go_wp2
  go_ret
  exact ⟨g, c, rfl, HR.out, HB.out⟩

theorem pcInsert_front {w : World} {base g cap : Nat} {l xs : List Pc} (h : Row w base g cap l) (base2 u c2 : Nat) (hu : Row w base2 u c2 xs) (hne : u ≠ g) (hl0 : 0 < l.length) (hx0 : 0 < xs.length) (hl : l.length ≤ 1000000) (hx : xs.length ≤ 1000000) :
    Calls Try.prog 63 #[.slice (some ⟨g, 0, none⟩) l.length cap, .int .i64 0, .slice (some ⟨u, 0, none⟩) xs.length c2] w (InsP base w g (xs ++ l)) := by
  by_cases hroom : l.length + xs.length ≤ cap
  · exact pcInsert_room h base2 u c2 hu hne hl0 hx0 hl hx hroom
  · exact pcInsert_grow h base2 u c2 hu hl0 hx0 hl hx (by omega)

set_option maxHeartbeats 1000000 in
/-- lay, over what Insert makes of the two lists. -/
theorem pcLay_core {w : World} {base D R D2 R2 : Nat} {l xs L : List Pc} (h : Dp w base D R l) (ho : Dp w base D2 R2 xs) (k : Int) (hx0 : 0 < xs.length) (hx : xs.length ≤ 1000000)
    (KI : ∀ w' cap u c2, Below w.heap.size w w' → Row w' base R cap l → Row w' w.heap.size u c2 xs → Calls Try.prog 63 #[.slice (some ⟨R, 0, none⟩) l.length cap, .int .i64 k, .slice (some ⟨u, 0, none⟩) xs.length c2] w' (InsP base w' R L)) :
    Calls Try.prog 60 #[.pointer (some ⟨D, 0, none⟩), .int .i64 k, .pointer (some ⟨D2, 0, none⟩)] w fun e w' => e = .returned (.tuple #[]) ∧ MadeP base w D R L w' := by
  have HD := Lib.hid h
  have hne := h.ne
  obtain ⟨cap, h1, h2⟩ := h.row
  have KL := fun (w' : World) (hb : Below w.heap.size w w') => pcList_any (ho.up hb) hx0 hx
  have HL := Lib.hid KL; have HI := Lib.hid KI; have H1 := Lib.hid h1; have H2 := Lib.hid h2
  have b0 := h1.cell
  clear KL KI h1 h2 ho h
  go_enter Try.func60, Try.ntmps60
  go_wp2
  go_region_with (first
      | (go_at_call 35; refine (HL.out _ (up_drew (Below.refl _ _))).mono ?_; rintro e w1 ⟨u, c2, rfl, hu, hb1⟩; have hB1 : Below w.heap.size w w1 := up_trans (up_drew (Below.refl _ _)) hb1; have hD1 : Boxed w1 D 71 (.slice (some ⟨R, 0, none⟩) l.length cap) := (hB1.block _ H1.out.lt).trans H1.out; have b1 := hD1.cell)
      | (go_at_call 63; refine (HI.out _ _ _ _ hB1 (H2.out.up hB1) hu).mono ?_; rintro e w2 ⟨g', cap', rfl, hr', hR', hb2⟩; have hD2 : Boxed w2 D 71 (.slice (some ⟨R, 0, none⟩) l.length cap) := (hb2.block D hD1.lt (fun e => hne e.symm) (fun e => hne e.symm)).trans hD1; have b2 := hD2.cell; have f2 := hD2.frozen))
  all_goals
    go_end0
    exact ⟨rfl, HD.out.put ((But.of hB1).trans hb2.more (.inr (.inl rfl))) hD2 hr' (hR'.elim .inl (fun h => .inr (Nat.le_trans hB1.size h)))⟩

theorem pcOver_any {w : World} {base D R D2 R2 : Nat} {l xs : List Pc} (h : Dp w base D R l) (ho : Dp w base D2 R2 xs) (hl0 : 0 < l.length) (hx0 : 0 < xs.length) (hl : l.length ≤ 1000000) (hx : xs.length ≤ 1000000) :
    Calls Try.prog 47 #[.pointer (some ⟨D, 0, none⟩), .pointer (some ⟨D2, 0, none⟩)] w fun e w' => e = .returned (.tuple #[]) ∧ MadeP base w D R (xs ++ l) w' := by
  have HK := Lib.hid (pcLay_core h ho 0 hx0 hx (fun w' cap u c2 hb hr hu => pcInsert_front hr _ u c2 hu (by have := hu.lt; have := h.ltR; omega) hl0 hx0 hl hx))
  clear h ho
  go_enter Try.func47, Try.ntmps47
  go_wp2_with fail
  refine HK.out.mono ?_
  rintro e w1 ⟨rfl, hm⟩
  have HM := Lib.hid hm
  clear hm HK
  go_wp2
  go_end0
  exact ⟨rfl, HM.out⟩
theorem pcUnder_any {w : World} {base D R D2 R2 : Nat} {l xs : List Pc} (h : Dp w base D R l) (ho : Dp w base D2 R2 xs) (hl0 : 0 < l.length) (hx0 : 0 < xs.length) (hl : l.length ≤ 1000000) (hx : xs.length ≤ 1000000) :
    Calls Try.prog 46 #[.pointer (some ⟨D, 0, none⟩), .pointer (some ⟨D2, 0, none⟩)] w fun e w' => e = .returned (.tuple #[]) ∧ MadeP base w D R (l ++ xs) w' := by
  have HK := Lib.hid (pcLay_core h ho (l.length : Int) hx0 hx (fun w' cap u c2 hb hr hu => pcInsert_end hr u c2 hu.at hl0 hx0 hl hx))
  have HN := Lib.hid (pcLen_any h)
  clear h ho
  go_enter Try.func46, Try.ntmps46
  go_wp2_with (go_at_call 27; refine HN.out.mono ?_; rintro e w' ⟨rfl, rfl⟩)
  refine HK.out.mono ?_
  rintro e w1 ⟨rfl, hm⟩
  have HM := Lib.hid hm
  clear hm HK
  go_wp2
  go_end0
  exact ⟨rfl, HM.out⟩
end Go.Proofs.Ytffnngmiaihkeaa
/- What deck.Turn makes of a deck of pieces by the closure of unfold.after: its things from the end on, each flipped. -/
namespace Go.Proofs.Ytffnngmiaihkeaa
open Go.RowKit
set_option linter.unusedVariables false

/-- A piece that is turned over at a line that goes up and down (up), or across. -/
def flipP (up : Bool) (p : Pc) : Pc := if up = true then ⟨p.n, !p.fx, p.fy⟩ else ⟨p.n, p.fx, !p.fy⟩
theorem over_any {w : World} {U : Nat} {up : Bool} (hU : w.cell? ⟨U, 0, none⟩ = some (.bool up)) (p : Pc) :
    Calls Try.prog 42 #[p.val, .pointer (some ⟨U, 0, none⟩)] w fun e w' => e = .returned (flipP up p).val ∧ Below w.heap.size w w' := by
  obtain ⟨n, fx, fy⟩ := p
  unfold Pc.val
  dsimp only
  have x0 := bl_cell (up_alloc (up_alloc (Below.refl _ w) (.cells #[.int .i64 n, .int .i64 0, .bool fx, .bool fy] 59)) (.cells #[.int .i64 0, .int .i64 0, .bool false, .bool false] 59)) hU
  clear hU
  cases up
  all_goals
    go_enter Try.func42, Try.ntmps42
    go_wp2
    refine bodyPost_ret (v := .agg _) (by simp [results, Try.results42, go_sem, flipP]) rfl ⟨rfl, ?_⟩
    repeat (first | with_reducible exact Below.refl _ _ | apply up_alloc | refine up_set ?_ (by simp) _)

theorem pcTurn_run (U : Nat) (w : World) : (binOp .neq 81 (.func (.func 42) #[] #[.pointer (some ⟨U, 0, none⟩)]) .nilFunc).run Try.prog w = .ok (.bool true) w := by kernel_rfl

/-- The first k flipped. -/
def partP (up : Bool) (k : Nat) (L : List Pc) : List Pc := (L.take k).map (flipP up) ++ L.drop k
theorem partP_length (up : Bool) (k : Nat) (L : List Pc) : (partP up k L).length = L.length := by simp [partP]; omega
theorem partP_at {up : Bool} {k : Nat} {L : List Pc} {x : Pc} (h : L[k]? = some x) : (partP up k L)[k]? = some x ∧ partP up (k + 1) L = (partP up k L).set k (flipP up x) := by
  obtain ⟨hk, rfl⟩ := List.getElem?_eq_some_iff.1 h
  have hl : ((L.take k).map (flipP up)).length = k := by simp; omega
  refine ⟨?_, ?_⟩
  · unfold partP
    rw [List.getElem?_append_right (by omega), hl, Nat.sub_self]
    simp [hk]
  · unfold partP
    rw [List.set_append_right _ _ (by omega), hl, Nat.sub_self, List.take_succ_eq_append_getElem hk, List.map_append, List.drop_eq_getElem_cons hk]
    simp only [List.set_cons_zero, List.map_cons, List.map_nil, List.append_assoc, List.singleton_append]
theorem partP_none (up : Bool) (L : List Pc) : partP up 0 L = L := by simp [partP]
theorem partP_all (up : Bool) (L : List Pc) : partP up L.length L = L.map (flipP up) := by simp [partP]

/-- A piece of a list of the call's own is written. -/
theorem Row.stored {w : World} {base g cap : Nat} {l : List Pc} (h : Row w base g cap l) {k : Nat} (hk : k < l.length) (q : Pc) : Row (w.setCells g (k * 4) q.cells) base g cap (l.set k q) := by
  obtain ⟨cur, h2, h3, h4, h5, h6, h1⟩ := h.block
  have hlen : (pcs l).length = l.length * 4 := pcs_length l
  have hq : q.cells.length = 4 := rfl
  obtain ⟨cur1, e1, e2⟩ := heap_setCells_list g q.cells (k * 4) w cur _ h2 (by rw [hq]; omega)
  have s1 : cur1.size = cap * 4 := by
    have := congrArg List.length e2
    simp [hq] at this
    omega
  refine Row.of_block h1 e1 (by simpa using h3) h4 s1 ?_
  have lt : (cur.toList.take (k * 4)).length = k * 4 := by rw [List.length_take]; simp; omega
  have t1 : (cur.toList.take (l.length * 4)).take (k * 4) = cur.toList.take (k * 4) := by rw [List.take_take, Nat.min_eq_left (by omega)]
  have t2 : (cur.toList.take (l.length * 4)).drop (k * 4 + 4) = (cur.toList.drop (k * 4 + 4)).take (l.length * 4 - (k * 4 + 4)) := List.drop_take ..
  have t3 : (cur.toList.take (k * 4) ++ q.cells).length = k * 4 + 4 := by rw [List.length_append, lt, hq]
  rw [List.length_set, e2, pcs_set hk, ← h6, hq, t1, t2, List.take_append, t3, List.take_of_length_le (i := l.length * 4) (by rw [t3]; omega)]

def TurnRelP (up : Bool) (w : World) (base g m c : Nat) (L : List Pc) (i : Value) (wr : World) : Prop :=
  ∃ k : Nat, k ≤ m ∧ i = .int .i64 (k : Int) ∧ Row wr w.heap.size g c (partP up k L) ∧ Below w.heap.size w wr

set_option maxHeartbeats 1000000 in
theorem pcTurn_any {w : World} {base D R : Nat} {l : List Pc} (h : Dp w base D R l) (hl0 : 0 < l.length) (hl : l.length ≤ 1000000) {U : Nat} {up : Bool} (hU : w.cell? ⟨U, 0, none⟩ = some (.bool up)) :
    Calls Try.prog 45 #[.pointer (some ⟨D, 0, none⟩), .func (.func 42) #[] #[.pointer (some ⟨U, 0, none⟩)]] w fun e w' => e = .returned (.tuple #[]) ∧ MadeP base w D R (l.reverse.map (flipP up)) w' := by
  have HL := Lib.hid (pcList_any h hl0 hl); have HD := Lib.hid h
  have hbase : base ≤ w.heap.size := Nat.le_of_lt (Nat.lt_of_le_of_lt h.low h.ltD)
  obtain ⟨cap0, h1, _⟩ := h.row
  have H1 := Lib.hid h1; have HU := Lib.hid hU; have HB0 := Lib.hid hbase
  clear h1 h hU hbase
  have q := pcTurn_run U
  obtain ⟨L, hL⟩ : ∃ L, l.reverse = L := ⟨_, rfl⟩
  have hLl : L.length = l.length := by rw [← hL]; exact List.length_reverse
  rw [hL]
  go_enter Try.func45, Try.ntmps45
  go_wp2_with fail
  refine HL.out.mono ?_
  rintro e w1 ⟨g, c, rfl, hrow, hb⟩
  have HV := Lib.hid (pcReverse_any hrow hl); have HB := Lib.hid hb
  clear hrow hb HL
  go_wp2_with fail
  refine HV.out.mono ?_
  rintro e w2 ⟨rfl, hrow, hb⟩
  have hb2 : Below w.heap.size w w2 := HB.out.trans hb
  rw [hL] at hrow
  have HR2 := Lib.hid hrow; have HB2 := Lib.hid hb2
  clear hrow hb hb2 HV HB
  clear hL
  generalize hmm : l.length = m at *
  have HLl := Lib.hid hLl
  clear hmm hLl
  go_wp2
  go_loopw [17] (fun i wr => TurnRelP up w base g m c L i wr) (fun i _ => m - (intOf i).toNat)
  case atStart => exact ⟨0, by omega, by go_num, by rw [partP_none]; exact HR2.out, HB2.out⟩
  case round =>
    obtain ⟨k, hk, rfl, hrow, hb⟩ := hrel
    by_cases hlt : k < m
    · obtain ⟨x, hx⟩ : ∃ x, L[k]? = some x := ⟨L[k]'(by rw [HLl.out]; exact hlt), List.getElem?_eq_getElem _⟩
      obtain ⟨p1, p2⟩ := partP_at (up := up) hx
      obtain ⟨c0, c1, c2, c3⟩ := hrow.at.cells p1
      have HRr := Lib.hid hrow; have HBr := Lib.hid hb; have HP := Lib.hid p2; have HC := Lib.hid (hrow.at.cells p1)
      have z0 : (0 : Int) ≤ (k : Int) := by omega
      have z1 : (k : Int) < (m : Int) := by omega
      have KO := fun (w' : World) (hb' : Below wr.heap.size wr w') => over_any (w := w') (U := U) (up := up) (bl_cell hb' (bl_cell HBr.out HU.out)) x
      have hkl : k < (partP up k L).length := by rw [partP_length, HLl.out]; exact hlt
      obtain ⟨q, hq⟩ : ∃ q, flipP up x = q := ⟨_, rfl⟩
      rw [hq] at KO
      have HQ := Lib.hid hq
      obtain ⟨xn, xx, xy⟩ := x
      obtain ⟨qn, qx, qy⟩ := q
      unfold Pc.val at KO
      dsimp only at KO c0 c1 c2 c3
      have HO := Lib.hid KO
      clear hrow hb p1 p2 hx HR2 HB2 KO hq
      go_wp2_with fail
      refine (HO.out _ ?_).mono ?_
      · repeat (first | with_reducible exact Below.refl _ _ | apply up_alloc | refine up_set ?_ (by simp) _)
      rintro e w3 ⟨rfl, hb3⟩
      have hbr : Below wr.heap.size wr w3 := up_trans (by repeat (first | with_reducible exact Below.refl _ _ | apply up_alloc | refine up_set ?_ (by simp) _)) hb3
      have hr3 := HRr.out.up hbr
      have f0 := hr3.free (k * 4); have f1 := hr3.free (k * 4 + 1); have f2 := hr3.free (k * 4 + 2); have f3 := hr3.free (k * 4 + 3)
      have d0 := bl_cell hbr c0; have d1 := bl_cell hbr c1; have d2 := bl_cell hbr c2; have d3 := bl_cell hbr c3
      have H3 := Lib.hid hr3; have HB3 := Lib.hid (HBr.out.trans (hbr.mono HBr.out.size))
      clear hb3 hbr hr3 c0 c1 c2 c3
      go_wp2
      go_roundw
      case rel =>
        refine ⟨k + 1, by omega, by go_num, ?_, ?_⟩
        · rw [HP.out]
          have := H3.out.stored hkl (flipP up ⟨xn, xx, xy⟩)
          rw [HQ.out] at this ⊢
          exact this
        · have hg := H3.out.lt.1
          repeat (first | with_reducible exact HB3.out | (refine Below.setCell ?_ (by simpa using hg) _))
      case measure => simp [intOf]; omega
    · obtain rfl : k = m := by omega
      have e : partP up k L = L.map (flipP up) := by rw [← HLl.out]; exact partP_all up L
      rw [e] at hrow
      have hD2 : Boxed wr D 71 (.slice (some ⟨R, 0, none⟩) k cap0) := (hb.block _ H1.out.lt).trans H1.out
      have b2 := hD2.cell; have f2 := hD2.frozen
      have HF := Lib.hid (HD.out.put (But.of hb) hD2 (hrow.base base (Nat.le_trans HB0.out hrow.lt.1)) (.inr hrow.lt.1))
      rw [List.length_map, HLl.out] at HF
      clear hrow hb hD2 HR2 HB2 e
      go_wp2
      go_end0
      exact ⟨rfl, HF.out⟩
end Go.Proofs.Ytffnngmiaihkeaa
/- What gatherumref01.In answers, for every three ints. -/
namespace Go.Proofs.Ytffnngmiaihkeaa
open Go.RowKit

/-- n is from lo to hi. -/
def inB (n lo hi : Int) : Bool := decide (lo ≤ n) && decide (n ≤ hi)
theorem refIn_any (n lo hi : Int) (w : World) :
    Calls Try.prog 14 #[.int .i64 n, .int .i64 lo, .int .i64 hi] w fun e w' => e = .returned (.bool (inB n lo hi)) ∧ w' = w := by
  by_cases h1 : lo ≤ n <;> by_cases h2 : n ≤ hi
  all_goals
    go_enter Try.func14, Try.ntmps14
    go_wp2
    go_ret
    exact ⟨by simp [inB, h1, h2], rfl⟩
end Go.Proofs.Ytffnngmiaihkeaa
