/- Part 1 of the texts that the proofs of this seat share: NumIn, RefIn, Later, Boxes, StepCode, StepSp, SchemeSc, StepAll, SchemeCode, Shelf, DecPut, DecMath. -/
import Derived.Test.YtenigkjonegdmaaGreatDoorProg
import Derived.WalkKit
import Derived.RowKit3
import Derived.Below
import Derived.Deep.QuietTactic
import Derived.BigQuiet
import Derived.WalkSpells
import Derived.Deep.RegionHeld
import Derived.Lib.Hide
import Derived.OwnWalk
import Derived.Shelf.Strconv.Itoa3
import Derived.Shelf.Strconv.ErrVarAll
import Derived.Shelf.Small.Wraps
import Derived.Shelf.Strings.Split
import Derived.Shelf.Strings.Cut
import Derived.Shelf.Strings.OnBuilder
import Derived.Shelf.SlicesE.IndexFunc
import Derived.Shelf.SlicesQ.IndexFunc
import Derived.Ground.SlgfProg
import Derived.Shelf.Pu.Clone
import Derived.Lib.AppendIntMem
import Derived.Lib.ItoaNum
import Derived.Lib.AtoiAllCases
/- What num.In answers, for every three ints. -/
namespace Go.Proofs.YtenigkjonegdmaaGreatDoor
open Go.RowKit

theorem in_any (n lo hi : Int) (w : World) :
    Calls Tryz.prog 77 #[.int .i64 n, .int .i64 lo, .int .i64 hi] w fun e w' => e = .returned (.bool (decide (lo ≤ n) && decide (n ≤ hi))) ∧ w = w' := by
  by_cases h1 : lo ≤ n <;> by_cases h2 : n ≤ hi
  all_goals
    go_enter Tryz.func77, Tryz.ntmps77
    go_wp2
    go_ret
    exact ⟨by simp [h1, h2], rfl⟩
end Go.Proofs.YtenigkjonegdmaaGreatDoor
/- What gatherumref01.In answers, for every three ints. -/
namespace Go.Proofs.YtenigkjonegdmaaGreatDoor
open Go.RowKit

/-- n is from lo to hi. -/
def inB (n lo hi : Int) : Bool := decide (lo ≤ n) && decide (n ≤ hi)
theorem refIn_any (n lo hi : Int) (w : World) :
    Calls Tryz.prog 72 #[.int .i64 n, .int .i64 lo, .int .i64 hi] w fun e w' => e = .returned (.bool (inB n lo hi)) ∧ w' = w := by
  by_cases h1 : lo ≤ n <;> by_cases h2 : n ≤ hi
  all_goals
    go_enter Tryz.func72, Tryz.ntmps72
    go_wp2
    go_ret
    exact ⟨by simp [inB, h1, h2], rfl⟩
end Go.Proofs.YtenigkjonegdmaaGreatDoor
/- Worlds that have grown since: every old block is as it was. One walk, in the order of the text, of a region that draws its order and holds calls that make memory of their own. -/
namespace Go.Proofs.YtenigkjonegdmaaGreatDoor
open Go.RowKit
set_option linter.unusedVariables false

theorem bl_trans {B : Nat} {a b c : World} (h : Below B a b) (k : Below b.heap.size b c) (hB : B ≤ b.heap.size) : Below B a c := h.trans (k.mono hB)
theorem bl_cell {w w' : World} {p : Addr} {v : Value} (h : Below w.heap.size w w') (hc : w.cell? p = some v) : w'.cell? p = some v := (h.cell (World.block_lt_of_cell? w p hc)).trans hc
theorem up_alloc {a w : World} (h : Below a.heap.size a w) (o : Obj) : Below a.heap.size a (w.alloc o) := h.alloc h.size o
theorem up_drew {a w : World} (h : Below a.heap.size a w) : Below a.heap.size a w.drew := h.drew
theorem up_trans {a b c : World} (h : Below a.heap.size a b) (k : Below b.heap.size b c) : Below a.heap.size a c := h.trans (k.mono h.size)
theorem up_set {a w : World} (h : Below a.heap.size a w) {p : Addr} (hp : a.heap.size ≤ p.block) (u : Value) : Below a.heap.size a (w.setCell p u) := h.setCell hp u
theorem kept_cells {W w1 : World} (hb : Below W.heap.size W w1) (b o : Nat) (h : b < W.heap.size) : w1.cell? ⟨b, o, none⟩ = W.cell? ⟨b, o, none⟩ := hb.cell (p := ⟨b, o, none⟩) h
theorem kept_marks {W w1 : World} (hb : Below W.heap.size W w1) (b o : Nat) (h : b < W.heap.size) : w1.frozen? ⟨b, o, none⟩ = W.frozen? ⟨b, o, none⟩ := hb.frozen (p := ⟨b, o, none⟩) h

/-- A world that w has become: nothing that was there has changed. -/
structure Later (w : World) where
  now : World
  up : Below w.heap.size w now
instance (w : World) : Nonempty (Later w) := ⟨⟨w, Below.refl _ _⟩⟩
theorem Later.cell {w : World} (u : Later w) {p : Addr} {v : Value} (h : w.cell? p = some v) : u.now.cell? p = some v := bl_cell u.up h
theorem Later.call {P : Program} {f : FuncId} {args : Array Value} {w : World} {u : Later w} {v : Value} (h : Calls P f args u.now fun e w' => e = .returned v ∧ Below u.now.heap.size u.now w') :
    Calls P f args u.now fun e w'' => e = .returned v ∧ ∃ u' : Later w, w'' = u'.now := h.mono fun _ _ ⟨he, hb⟩ => ⟨he, ⟨_, up_trans u.up hb⟩, rfl⟩
theorem Later.next {w : World} {u : Later w} {w' : World} (h : Below u.now.heap.size u.now w') : ∃ u' : Later w, w' = u'.now := ⟨⟨_, up_trans u.up h⟩, rfl⟩
theorem later_start {w : World} {G : World → Prop} (h : ∀ u : Later w, G u.now) : G w := h ⟨w, Below.refl _ _⟩
/-- The region, in the order of the text; what stands behind it is asked of every later world. -/
theorem wp_region_later {P : Program} {id : Nat} {Q : Exit → Act → World → Prop} {a : Act} {w : World} {u : Later w} {l : List Oper} (hm : P.follows .mixedOrders = true) (hB : Region.lexB .any l.toArray = true)
    (h : wpQuiet P l.toArray (fun w' => ∃ u : Later w, w' = u.now) (fun a' => ∀ w', (∃ u : Later w, w' = u.now) → Q .normal a' w') l a) : (Code.region id l.toArray true).wp P Q a u.now :=
  wp_region_quiet (C := fun w' => ∃ u : Later w, w' = u.now) hm hB ⟨⟨_, up_drew u.up⟩, rfl⟩ (by simpa using h)
end Go.Proofs.YtenigkjonegdmaaGreatDoor
/- Boxes: a block of the memory whose cells are known and which may be written; it stays so in every later world. -/
namespace Go.Proofs.YtenigkjonegdmaaGreatDoor
open Go.RowKit
set_option linter.unusedVariables false

/-- The block B holds just vs, from its first cell on, and may be written. -/
def Bx (w : World) (B : Nat) (vs : List Value) : Prop := (∀ j v, vs[j]? = some v → w.cell? ⟨B, j, none⟩ = some v) ∧ ∀ j, w.frozen? ⟨B, j, none⟩ = false
theorem Bx.cell {w : World} {B : Nat} {vs : List Value} (h : Bx w B vs) (j : Nat) {v : Value} (hj : vs[j]? = some v) : w.cell? ⟨B, j, none⟩ = some v := h.1 j v hj
theorem Bx.free {w : World} {B : Nat} {vs : List Value} (h : Bx w B vs) (j : Nat) : w.frozen? ⟨B, j, none⟩ = false := h.2 j
theorem Bx.up {w w' : World} {B : Nat} {v0 : Value} {vs : List Value} (h : Bx w B (v0 :: vs)) (hb : Below w.heap.size w w') : Bx w' B (v0 :: vs) :=
  ⟨fun j v hj => bl_cell hb (h.1 j v hj), fun j => (kept_marks hb B j (World.block_lt_of_cell? w _ (h.1 0 v0 rfl))).trans (h.2 j)⟩
theorem Bx.alloc {w : World} {B : Nat} {v0 : Value} {vs : List Value} (h : Bx w B (v0 :: vs)) (o : Obj) : Bx (w.alloc o) B (v0 :: vs) := h.up (up_alloc (Below.refl _ _) o)
theorem Bx.new (w : World) (t : TypeId) (vs : List Value) : Bx (w.alloc (.cells vs.toArray t)) w.heap.size vs := by
  refine ⟨fun j v hj => ?_, fun j => ?_⟩
  · have hj' := hj
    obtain ⟨hlt, rfl⟩ := List.getElem?_eq_some_iff.1 hj'
    simp [go_sem, hlt]
  · simp [go_sem]
theorem Bx.far {w : World} {B : Nat} {vs : List Value} (h : Bx w B vs) {p : Addr} (hp : p.block ≠ B) (x : Value) : Bx (w.setCell p x) B vs :=
  ⟨fun j v hj => (World.cell?_setCell_far _ _ _ _ hp).trans (h.1 j v hj), fun j => by simp only [World.frozen?_setCell]; exact h.2 j⟩
theorem Bx.set {w : World} {B : Nat} {vs : List Value} (h : Bx w B vs) (i : Nat) (x : Value) : Bx (w.setCell ⟨B, i, none⟩ x) B (vs.set i x) := by
  refine ⟨fun j v hj => ?_, fun j => by simp only [World.frozen?_setCell]; exact h.2 j⟩
  rw [List.getElem?_set] at hj
  by_cases e : i = j
  · subst e
    simp only [if_true] at hj
    split at hj
    · rename_i hlt
      obtain rfl := Option.some.inj hj
      exact World.cell?_setCell_same w _ _ (h.1 i _ (List.getElem?_eq_getElem hlt))
    · cases hj
  · rw [if_neg e] at hj
    rw [World.cell?_setCell_other _ _ _ _ (by intro k; exact e (by injection k))]
    exact h.1 j v hj
theorem Bx.set3 {w : World} {B : Nat} {a0 a1 a2 : Value} (h : Bx w B [a0, a1, a2]) (v0 v1 v2 : Value) : Bx (((w.setCell ⟨B, 0, none⟩ v0).setCell ⟨B, 1, none⟩ v1).setCell ⟨B, 2, none⟩ v2) B [v0, v1, v2] := ((h.set 0 v0).set 1 v1).set 2 v2
theorem Bx.set2 {w : World} {B : Nat} {a0 a1 : Value} (h : Bx w B [a0, a1]) (v0 v1 : Value) : Bx ((w.setCell ⟨B, 0, none⟩ v0).setCell ⟨B, 1, none⟩ v1) B [v0, v1] := (h.set 0 v0).set 1 v1
theorem Bx.set4 {w : World} {B : Nat} {a0 a1 a2 a3 : Value} (h : Bx w B [a0, a1, a2, a3]) (v0 v1 v2 v3 : Value) : Bx ((((w.setCell ⟨B, 0, none⟩ v0).setCell ⟨B, 1, none⟩ v1).setCell ⟨B, 2, none⟩ v2).setCell ⟨B, 3, none⟩ v3) B [v0, v1, v2, v3] := (((h.set 0 v0).set 1 v1).set 2 v2).set 3 v3
theorem Bx.drew {w : World} {B : Nat} {v0 : Value} {vs : List Value} (h : Bx w B (v0 :: vs)) : Bx w.drew B (v0 :: vs) := h.up (up_drew (Below.refl _ _))
theorem Bx.lt {w : World} {B : Nat} {v0 : Value} {vs : List Value} (h : Bx w B (v0 :: vs)) : B < w.heap.size := World.block_lt_of_cell? w _ (h.1 0 v0 rfl)
end Go.Proofs.YtenigkjonegdmaaGreatDoor
/- What the small calls of package step answer, and After: for every step and every number of columns and rows. -/
namespace Go.Proofs.YtenigkjonegdmaaGreatDoor
open Go.RowKit
set_option linter.unusedVariables false

/-- May the step of this side and this number be? -/
def rightB (d n : Int) : Bool := (decide (1 ≤ d) && decide (d ≤ 4)) && (decide (1 ≤ n) && decide (n ≤ 64))
theorem rightB_true {d n : Int} (h : rightB d n = true) : (1 ≤ d ∧ d ≤ 4) ∧ 1 ≤ n ∧ n ≤ 64 := by simpa [rightB] using h

theorem stepRight_any (d n : Int) (u : Bool) (w : World) :
    Calls Tryz.prog 100 #[.agg #[.int .i64 d, .int .i64 n, .bool u]] w fun e w' => e = .returned (.bool (rightB d n)) ∧ Below w.heap.size w w' := by
  have K1 := fun w => in_any d 1 4 w
  have K2 := fun w => in_any n 1 64 w
  unfold rightB
  generalize (decide (1 ≤ d) && decide (d ≤ 4)) = a at *
  generalize (decide (1 ≤ n) && decide (n ≤ 64)) = b at *
  have H1 := Lib.hid K1; have H2 := Lib.hid K2
  clear K1 K2
  cases a
  all_goals
    go_enter Tryz.func100, Tryz.ntmps100
    go_wp2_with (first
      | (go_at_call 77; with_reducible refine (H1.out _).mono ?_; rintro e w' ⟨rfl, rfl⟩)
      | (go_at_call 77; with_reducible refine (H2.out _).mono ?_; rintro e w' ⟨rfl, rfl⟩))
    go_ret
    exact ⟨by simp, up_alloc (Below.refl _ _) _⟩

theorem refRight_any (d n : Int) (u : Bool) (w : World) :
    Calls Tryz.prog 48 #[.agg #[.int .i64 d, .int .i64 n, .bool u]] w fun e w' => e = .returned (.bool (rightB d n)) ∧ Below w.heap.size w w' := by
  have K1 := fun w => refIn_any d 1 4 w
  have K2 := fun w => refIn_any n 1 64 w
  unfold inB at K1 K2
  unfold rightB
  generalize (decide (1 ≤ d) && decide (d ≤ 4)) = a at *
  generalize (decide (1 ≤ n) && decide (n ≤ 64)) = b at *
  have H1 := Lib.hid K1; have H2 := Lib.hid K2
  clear K1 K2
  cases a
  all_goals
    go_enter Tryz.func48, Tryz.ntmps48
    go_wp2_with (first
      | (go_at_call 72; with_reducible refine (H1.out _).mono ?_; rintro e w' ⟨rfl, rfl⟩)
      | (go_at_call 72; with_reducible refine (H2.out _).mono ?_; rintro e w' ⟨rfl, rfl⟩))
    go_ret
    exact ⟨by simp, up_alloc (Below.refl _ _) _⟩

/-- How many columns and rows there are behind a step, and whether it can be done. -/
def aft (c r d n : Int) : Int × Int × Bool :=
  if (1 ≤ c ∧ 1 ≤ r) ∧ rightB d n = true then
    if d ≤ 2 then (if 2 * n ≤ c then (c - n, r, true) else (0, 0, false))
    else (if 2 * n ≤ r then (c, r - n, true) else (0, 0, false))
  else (0, 0, false)
theorem aft_yes {c r d n : Int} (h : (aft c r d n).2.2 = true) : ((1 ≤ c ∧ 1 ≤ r) ∧ (1 ≤ d ∧ d ≤ 4) ∧ 1 ≤ n ∧ n ≤ 64) ∧ ((d ≤ 2 ∧ 2 * n ≤ c ∧ aft c r d n = (c - n, r, true)) ∨ (2 < d ∧ 2 * n ≤ r ∧ aft c r d n = (c, r - n, true))) := by
  unfold aft at h ⊢
  split at h
  · rename_i hr
    refine ⟨⟨hr.1, rightB_true hr.2⟩, ?_⟩
    rw [if_pos hr]
    split at h
    · rename_i hd
      rw [if_pos hd]
      split at h
      · rename_i hn; left; exact ⟨hd, hn, if_pos hn⟩
      · cases h
    · rename_i hd
      rw [if_neg hd]
      split at h
      · rename_i hn; right; exact ⟨by omega, hn, if_pos hn⟩
      · cases h
  · cases h
theorem aft_no {c r d n : Int} (h : (aft c r d n).2.2 = false) : aft c r d n = (0, 0, false) := by
  unfold aft at h ⊢
  split at h
  · rename_i hr
    rw [if_pos hr]
    split at h
    · rename_i hd
      rw [if_pos hd]
      split at h
      · cases h
      · rename_i hn; rw [if_neg hn]
    · rename_i hd
      rw [if_neg hd]
      split at h
      · cases h
      · rename_i hn; rw [if_neg hn]
  · rename_i hr; rw [if_neg hr]

theorem ret3 {p : Int × Int × Bool} {a b : Int} {c : Bool} (h : p = (a, b, c)) : Ending.returned (.tuple #[.int .i64 a, .int .i64 b, .bool c]) = .returned (.tuple #[.int .i64 p.1, .int .i64 p.2.1, .bool p.2.2]) := by rw [h]

end Go.Proofs.YtenigkjonegdmaaGreatDoor
/- A step, as plain data. -/
namespace Go.Proofs.YtenigkjonegdmaaGreatDoor
/-- A step. -/
structure Sp where
  d : Int
  n : Int
  u : Bool
deriving DecidableEq
end Go.Proofs.YtenigkjonegdmaaGreatDoor
/- A scheme, as plain data. -/
namespace Go.Proofs.YtenigkjonegdmaaGreatDoor
/-- A scheme: columns, rows and steps. -/
structure Sc where
  c : Int
  r : Int
  l : List Sp
deriving DecidableEq
def zeroSc : Sc := ⟨0, 0, []⟩
def sideB (n : Int) : Bool := decide (1 ≤ n) && decide (n ≤ 64)
theorem sideB_true {n : Int} (h : sideB n = true) : 1 ≤ n ∧ n ≤ 64 := by simpa [sideB] using h
end Go.Proofs.YtenigkjonegdmaaGreatDoor
/- What step.All and the document's own After answer, for every list of steps that came in. -/
namespace Go.Proofs.YtenigkjonegdmaaGreatDoor
open Go.RowKit
set_option linter.unusedVariables false

/-- Steps one behind the other. -/
def allM : Int → Int → List Sp → Int × Int × Bool
  | c, r, [] => (c, r, true)
  | c, r, p :: l => if (aft c r p.d p.n).2.2 = true then allM (aft c r p.d p.n).1 (aft c r p.d p.n).2.1 l else (0, 0, false)
def allS (c r : Int) (l : List Sp) : Int × Int × Bool := if 1 ≤ c ∧ 1 ≤ r then allM c r l else (0, 0, false)
theorem allM_yes {c r c' r' : Int} {p : Sp} {l : List Sp} (h : aft c r p.d p.n = (c', r', true)) : allM c r (p :: l) = allM c' r' l := by simp [allM, h]
theorem allM_no {c r : Int} {p : Sp} {l : List Sp} (h : aft c r p.d p.n = (0, 0, false)) : allM c r (p :: l) = (0, 0, false) := by simp [allM, h]
theorem allS_one (c r : Int) (p : Sp) : allS c r [p] = aft c r p.d p.n := by
  unfold allS
  by_cases h : (aft c r p.d p.n).2.2 = true
  · obtain ⟨⟨h0, _⟩, h1⟩ := aft_yes h
    rw [if_pos h0]
    rcases h1 with ⟨_, _, e⟩ | ⟨_, _, e⟩
    all_goals rw [allM_yes (e), allM, e]
  · have h := aft_no (by simpa using h)
    rw [allM_no h, h]
    split <;> rfl

/-- The steps that came in lie at block b, from off on. -/
def InS (w : World) (b off : Nat) (l : List Sp) : Prop := ∀ j p, l[j]? = some p → w.cell? ⟨b, off + j * 3, none⟩ = some (.int .i64 p.d) ∧ w.cell? ⟨b, off + j * 3 + 1, none⟩ = some (.int .i64 p.n) ∧ w.cell? ⟨b, off + j * 3 + 2, none⟩ = some (.bool p.u)
theorem InS.up {w w' : World} {b off : Nat} {l : List Sp} (h : InS w b off l) (hb : Below w.heap.size w w') : InS w' b off l := fun j p hp => by
  obtain ⟨c0, c1, c2⟩ := h j p hp
  exact ⟨bl_cell hb c0, bl_cell hb c1, bl_cell hb c2⟩

def AllRel (l : List Sp) (F : Int × Int × Bool) (w : World) (x y i : Value) (wr : World) : Prop :=
  ∃ (k : Nat) (c r : Int), k ≤ l.length ∧ x = .int .i64 c ∧ y = .int .i64 r ∧ i = .int .i64 (k : Int) ∧ (1 ≤ c ∧ c ≤ 9223372036854775807) ∧ (1 ≤ r ∧ r ≤ 9223372036854775807) ∧ Hid (allM c r (l.drop k) = F) ∧ Below w.heap.size w wr

theorem drop_step {l : List Sp} {k : Nat} {p : Sp} (h : l[k]? = some p) : l.drop k = p :: l.drop (k + 1) := by
  obtain ⟨hlt, rfl⟩ := List.getElem?_eq_some_iff.1 h
  exact List.drop_eq_getElem_cons hlt
theorem aft_in {c r d n c' r' : Int} (h : aft c r d n = (c', r', true)) (c1 : c ≤ 9223372036854775807) (r1 : r ≤ 9223372036854775807) : (1 ≤ c' ∧ c' ≤ 9223372036854775807) ∧ 1 ≤ r' ∧ r' ≤ 9223372036854775807 := by
  obtain ⟨⟨h0, _⟩, h1⟩ := aft_yes (c := c) (r := r) (d := d) (n := n) (by rw [h])
  rcases h1 with ⟨_, _, e⟩ | ⟨_, _, e⟩
  all_goals
    rw [h] at e
    simp only [Prod.mk.injEq] at e
    omega

theorem aft_wrong {c r d n : Int} (h : rightB d n = false) : aft c r d n = (0, 0, false) := by unfold aft; rw [if_neg (by simp [h])]
theorem aft_col {c r d n : Int} (hc : 1 ≤ c) (hr : 1 ≤ r) (h : rightB d n = true) (hd : d ≤ 2) : aft c r d n = if 2 * n ≤ c then (c - n, r, true) else (0, 0, false) := by unfold aft; rw [if_pos ⟨⟨hc, hr⟩, h⟩, if_pos hd]
theorem aft_row {c r d n : Int} (hc : 1 ≤ c) (hr : 1 ≤ r) (h : rightB d n = true) (hd : ¬ d ≤ 2) : aft c r d n = if 2 * n ≤ r then (c, r - n, true) else (0, 0, false) := by unfold aft; rw [if_pos ⟨⟨hc, hr⟩, h⟩, if_neg hd]

end Go.Proofs.YtenigkjonegdmaaGreatDoor
/- What the small calls of package scheme, and the document's own Panels, Fine, answer: for every scheme. -/
namespace Go.Proofs.YtenigkjonegdmaaGreatDoor
open Go.RowKit
set_option linter.unusedVariables false

/-- How many panels there are. -/
def panM (c r : Int) : Int := if (sideB c && sideB r) = true then c * r else 0
theorem pan_in {c r : Int} (h : (sideB c && sideB r) = true) : 1 ≤ c * r ∧ c * r ≤ 4096 := by
  rw [Bool.and_eq_true] at h
  have h1 := sideB_true h.1
  have h2 := sideB_true h.2
  have h3 : c * r ≤ 64 * 64 := Int.mul_le_mul h1.2 h2.2 (by omega) (by omega)
  have h4 : 0 < c * r := Int.mul_pos (by omega) (by omega)
  omega

theorem schIsSide_any (n : Int) (w : World) :
    Calls Tryz.prog 86 #[.int .i64 n] w fun e w' => e = .returned (.bool (sideB n)) ∧ w = w' := by
  have H := Lib.hid fun w => in_any n 1 64 w
  go_enter Tryz.func86, Tryz.ntmps86
  go_wp2_with fail
  refine (H.out _).mono ?_
  rintro e w1 ⟨rfl, rfl⟩
  go_wp2
  go_ret
  exact ⟨rfl, rfl⟩

set_option maxHeartbeats 1000000 in
theorem refPanels_any (c r : Int) (a : Option Addr) (n cap : Nat) (w : World) :
    Calls Tryz.prog 47 #[.agg #[.int .i64 c, .int .i64 r, .slice a n cap]] w fun e w' => e = .returned (.int .i64 (panM c r)) ∧ Below w.heap.size w w' := by
  have K1 := fun w => refIn_any c 1 64 w
  have K2 := fun w => refIn_any r 1 64 w
  have hp : panM c r = if (inB c 1 64 && inB r 1 64) = true then c * r else 0 := rfl
  have hi : (inB c 1 64 && inB r 1 64) = true → _ := @pan_in c r
  obtain ⟨q, hq⟩ : ∃ q, c * r = q := ⟨_, rfl⟩
  rw [hq] at hp hi
  generalize panM c r = P at *
  generalize inB c 1 64 = x at *
  generalize inB r 1 64 = y at *
  have H1 := Lib.hid K1; have H2 := Lib.hid K2
  clear K1 K2
  cases x
  · obtain rfl : P = 0 := by simpa using hp
    clear hp hi
    go_enter Tryz.func47, Tryz.ntmps47
    go_wp2_with fail
    refine (H1.out _).mono ?_
    rintro e w1 ⟨rfl, rfl⟩
    go_wp2
    go_ret
    exact ⟨rfl, up_alloc (Below.refl _ _) _⟩
  cases y
  · obtain rfl : P = 0 := by simpa using hp
    clear hp hi
    go_enter Tryz.func47, Tryz.ntmps47
    go_wp2_with (first
      | (go_at_call 72; with_reducible refine (H1.out _).mono ?_; rintro e w' ⟨rfl, rfl⟩)
      | (go_at_call 72; with_reducible refine (H2.out _).mono ?_; rintro e w' ⟨rfl, rfl⟩))
    go_ret
    exact ⟨rfl, up_alloc (Below.refl _ _) _⟩
  · obtain rfl : P = q := by simpa using hp
    obtain ⟨q0, q1⟩ := hi rfl
    clear hp
    go_enter Tryz.func47, Tryz.ntmps47
    go_wp2_with (first
      | (go_at_call 72; with_reducible refine (H1.out _).mono ?_; rintro e w' ⟨rfl, rfl⟩)
      | (go_at_call 72; with_reducible refine (H2.out _).mono ?_; rintro e w' ⟨rfl, rfl⟩))
    go_ret
    exact ⟨rfl, up_alloc (Below.refl _ _) _⟩

/-- Is a scheme right? -/
def rightM (s : Sc) : Bool := (decide (1 ≤ panM s.c s.r) && decide (panM s.c s.r ≤ 64)) && (decide (s.l.length ≤ 6) && ((allS s.c s.r s.l).2.2 && (((allS s.c s.r s.l).1 == 1) && ((allS s.c s.r s.l).2.1 == 1))))

theorem len6 (n : Nat) : decide ((6 : Int) < (n : Int)) = !decide (n ≤ 6) := by rw [Bool.eq_iff_iff]; simp; omega

/-- The steps of a scheme lie where its slice says. -/
def InL (w : World) (a : Option Addr) (l : List Sp) : Prop := l = [] ∨ ∃ b off, a = some ⟨b, off, none⟩ ∧ InS w b off l
theorem InL.up {w w' : World} {a : Option Addr} {l : List Sp} (h : InL w a l) (hb : Below w.heap.size w w') : InL w' a l := h.imp id fun ⟨b, off, e, h⟩ => ⟨b, off, e, h.up hb⟩

theorem len6' (n : Nat) : decide ((n : Int) ≤ (6 : Int)) = decide (n ≤ 6) := by rw [Bool.eq_iff_iff]; simp; omega
end Go.Proofs.YtenigkjonegdmaaGreatDoor
/- The library's contracts at this program: each of the library's functions is compared, body by body, with the one that its contract was proved of. -/
namespace Go.Proofs
open Go.Shelf
def Tryz.lays169_ren : Go.Shelf.Ren := ⟨fun | 169 => 21 | n => n, fun | 70 => 43 | 9 => 9 | 0 => 0 | 72 => 46 | 37 => 44 | 127 => 83 | 3 => 3 | 5 => 5 | n => n, fun | n => n⟩
theorem Tryz.lays169 : Go.Proofs.Lays.n169 Tryz.prog Tryz.lays169_ren := {
  mixed := by kernel_rfl
  f169 := Tryz.func21.trans (congrArg some (by kernel_rfl))
  t0 := Tryz.underlying0
  a0 := Tryz.isAgg0
  z0 := Tryz.sizeOf0
  v0 := Tryz.zeroValue0
  t3 := Tryz.underlying3
  a3 := Tryz.isAgg3
  z3 := Tryz.sizeOf3
  v3 := Tryz.zeroValue3
  t9 := Tryz.underlying9
  a9 := Tryz.isAgg9
  z9 := Tryz.sizeOf9
  v9 := Tryz.zeroValue9
  t37 := Tryz.underlying44
  a37 := Tryz.isAgg44
  z37 := Tryz.sizeOf44
  v37 := Tryz.zeroValue44
  t70 := Tryz.underlying43
  a70 := Tryz.isAgg43
  z70 := Tryz.sizeOf43
  v70 := Tryz.zeroValue43
  t72 := Tryz.underlying46
  a72 := Tryz.isAgg46
  z72 := Tryz.sizeOf46
  v72 := Tryz.zeroValue46
  t127 := Tryz.underlying83
  a127 := Tryz.isAgg83
  z127 := Tryz.sizeOf83
  v127 := Tryz.zeroValue83 }
theorem Tryz.Builder_Extra_169 : Builder.Extra Tryz.prog Tryz.lays169_ren := {
  sizeBuilder := by kernel_rfl
  liesBuilder := by kernel_rfl
  t5 := Tryz.underlying5
  a5 := Tryz.isAgg5
  z5 := Tryz.sizeOf5
  v5 := Tryz.zeroValue5
  infoByte := by kernel_rfl
  cellsByte := by kernel_rfl
  sizeByte := by kernel_rfl
  neB5 := by decide }
open Go.RowKit in
theorem Tryz.Builder_String_any (B b : Nat) (l : List UInt8) (w : World) (h : Lib.IsBuilder 46 5 B b (Lib.byteCells l) w) (hBw : B ≤ w.heap.size) :
    Calls Tryz.prog 21 #[.pointer (some ⟨b, 0, none⟩)] w fun e w' => e = .returned (.string ⟨l.toArray⟩) ∧ Below B w w' := Any.Builder_String_any Tryz.lays169 Tryz.Builder_Extra_169 B b l w h hBw
def Tryz.lays156_ren : Go.Shelf.Ren := ⟨fun | 156 => 20 | 165 => 43 | 166 => 19 | 169 => 21 | 240 => 42 | 241 => 69 | 276 => 68 | 277 => 90 | n => n, fun | 31 => 27 | 9 => 9 | 3 => 3 | 4 => 4 | 0 => 0 | 20 => 20 | 72 => 46 | 76 => 57 | 70 => 43 | 37 => 44 | 75 => 56 | 127 => 83 | 164 => 106 | 5 => 5 | 80 => 60 | n => n, fun | n => n⟩
theorem Tryz.lays156 : Go.Proofs.Lays.n156 Tryz.prog Tryz.lays156_ren := {
  mixed := by kernel_rfl
  f156 := Tryz.func20.trans (congrArg some (by kernel_rfl))
  f165 := Tryz.func43.trans (congrArg some (by kernel_rfl))
  f166 := Tryz.func19.trans (congrArg some (by kernel_rfl))
  f169 := Tryz.func21.trans (congrArg some (by kernel_rfl))
  f240 := Tryz.func42.trans (congrArg some (by kernel_rfl))
  f241 := Tryz.func69.trans (congrArg some (by kernel_rfl))
  f276 := Tryz.func68.trans (congrArg some (by kernel_rfl))
  f277 := Tryz.func90.trans (congrArg some (by kernel_rfl))
  t0 := Tryz.underlying0
  a0 := Tryz.isAgg0
  z0 := Tryz.sizeOf0
  v0 := Tryz.zeroValue0
  t3 := Tryz.underlying3
  a3 := Tryz.isAgg3
  z3 := Tryz.sizeOf3
  v3 := Tryz.zeroValue3
  t4 := Tryz.underlying4
  a4 := Tryz.isAgg4
  z4 := Tryz.sizeOf4
  v4 := Tryz.zeroValue4
  t9 := Tryz.underlying9
  a9 := Tryz.isAgg9
  z9 := Tryz.sizeOf9
  v9 := Tryz.zeroValue9
  t20 := Tryz.underlying20
  a20 := Tryz.isAgg20
  z20 := Tryz.sizeOf20
  v20 := Tryz.zeroValue20
  t31 := Tryz.underlying27
  a31 := Tryz.isAgg27
  z31 := Tryz.sizeOf27
  v31 := Tryz.zeroValue27
  t37 := Tryz.underlying44
  a37 := Tryz.isAgg44
  z37 := Tryz.sizeOf44
  v37 := Tryz.zeroValue44
  t70 := Tryz.underlying43
  a70 := Tryz.isAgg43
  z70 := Tryz.sizeOf43
  v70 := Tryz.zeroValue43
  t72 := Tryz.underlying46
  a72 := Tryz.isAgg46
  z72 := Tryz.sizeOf46
  v72 := Tryz.zeroValue46
  t75 := Tryz.underlying56
  a75 := Tryz.isAgg56
  z75 := Tryz.sizeOf56
  v75 := Tryz.zeroValue56
  t76 := Tryz.underlying57
  a76 := Tryz.isAgg57
  z76 := Tryz.sizeOf57
  v76 := Tryz.zeroValue57
  t127 := Tryz.underlying83
  a127 := Tryz.isAgg83
  z127 := Tryz.sizeOf83
  v127 := Tryz.zeroValue83
  t164 := Tryz.underlying106
  a164 := Tryz.isAgg106
  z164 := Tryz.sizeOf106
  v164 := Tryz.zeroValue106 }
theorem Tryz.Builder_Extra_156 : Builder.Extra Tryz.prog Tryz.lays156_ren := {
  sizeBuilder := by kernel_rfl
  liesBuilder := by kernel_rfl
  t5 := Tryz.underlying5
  a5 := Tryz.isAgg5
  z5 := Tryz.sizeOf5
  v5 := Tryz.zeroValue5
  infoByte := by kernel_rfl
  cellsByte := by kernel_rfl
  sizeByte := by kernel_rfl
  neB5 := by decide }
open Go.RowKit in
theorem Tryz.strings_Join_none (a : Option Addr) (c : Nat) (sep : ByteArray) (w : World) :
    Calls Tryz.prog 20 #[.slice a 0 c, .string sep] w fun e w' => e = .returned (.string ⟨#[]⟩) ∧ w' = w := Any.strings_Join_none Tryz.lays156 Tryz.Builder_Extra_156 a c sep w
open Go.RowKit in
theorem Tryz.strings_Join (bk o c : Nat) (xs : List ByteArray) (sep : ByteArray) (w : World) (hcells : ∀ (j : Nat) x, xs[j]? = some x → w.cell? ⟨bk, o + j, none⟩ = some (.string x)) (hbk : bk < w.heap.size) (hN : xs.length ≤ 140737488355328) (hcap : xs.length ≤ c) (hlen : (Lib.join (xs.map (·.data.toList)) sep.data.toList).length ≤ 140737488355328) :
    Calls Tryz.prog 20 #[.slice (some ⟨bk, o, none⟩) xs.length c, .string sep] w fun e w' => e = .returned (.string ⟨(Lib.join (xs.map (·.data.toList)) sep.data.toList).toArray⟩) ∧ Below w.heap.size w w' := Any.strings_Join Tryz.lays156 Tryz.Builder_Extra_156 bk o c xs sep w hcells hbk hN hcap hlen
def Tryz.lays104_ren : Go.Shelf.Ren := ⟨fun | 104 => 122 | 211 => 140 | 207 => 150 | n => n, fun | 9 => 9 | 4 => 4 | 24 => 31 | 3 => 3 | n => n, fun | n => n⟩
theorem Tryz.lays104 : Go.Proofs.Lays.n104 Tryz.prog Tryz.lays104_ren := {
  mixed := by kernel_rfl
  f104 := Tryz.func122.trans (congrArg some (by kernel_rfl))
  f207 := Tryz.func150.trans (congrArg some (by kernel_rfl))
  f211 := Tryz.func140.trans (congrArg some (by kernel_rfl))
  t3 := Tryz.underlying3
  a3 := Tryz.isAgg3
  z3 := Tryz.sizeOf3
  v3 := Tryz.zeroValue3
  t4 := Tryz.underlying4
  a4 := Tryz.isAgg4
  z4 := Tryz.sizeOf4
  v4 := Tryz.zeroValue4
  t9 := Tryz.underlying9
  a9 := Tryz.isAgg9
  z9 := Tryz.sizeOf9
  v9 := Tryz.zeroValue9
  t24 := Tryz.underlying31
  a24 := Tryz.isAgg31
  z24 := Tryz.sizeOf31
  v24 := Tryz.zeroValue31 }
open Go.RowKit in
theorem Tryz.strings_CutSuffix (s p : ByteArray) (w : World) (hs : s.size ≤ 9223372036854775807) :
    Calls Tryz.prog 122 #[.string s, .string p] w fun e w' => e = .returned (.tuple #[.string ⟨(Lib.trimSuffix s.data.toList p.data.toList).toArray⟩, .bool (Lib.hasSuffix s.data.toList p.data.toList)]) ∧ w' = w := Any.strings_CutSuffix Tryz.lays104 s p w hs
def Tryz.laysM171_ren : Go.Shelf.Ren := ⟨fun | 171 => 89 | 243 => 101 | 246 => 110 | 283 => 117 | 284 => 118 | 285 => 119 | 286 => 120 | 129 => 133 | 317 => 132 | 318 => 134 | 319 => 135 | 320 => 136 | 337 => 145 | 338 => 146 | n => n, fun | 3 => 3 | 9 => 9 | 2 => 2 | 4 => 4 | 171 => 142 | 0 => 0 | 53 => 143 | 37 => 44 | 5 => 5 | 173 => 146 | 212 => 160 | 51 => 161 | 20 => 20 | 213 => 162 | 46 => 158 | 232 => 180 | 233 => 181 | n => n, fun | 17 => 1 | 18 => 4 | 19 => 5 | n => n⟩
theorem Tryz.laysM171 : Go.Proofs.LaysM.n171 Tryz.prog Tryz.laysM171_ren := {
  mixed := by kernel_rfl
  f129 := Tryz.func133.trans (congrArg some (by kernel_rfl))
  f171 := Tryz.func89.trans (congrArg some (by kernel_rfl))
  f243 := Tryz.func101.trans (congrArg some (by kernel_rfl))
  f246 := Tryz.func110.trans (congrArg some (by kernel_rfl))
  f283 := Tryz.func117.trans (congrArg some (by kernel_rfl))
  f284 := Tryz.func118.trans (congrArg some (by kernel_rfl))
  f285 := Tryz.func119.trans (congrArg some (by kernel_rfl))
  f286 := Tryz.func120.trans (congrArg some (by kernel_rfl))
  f317 := Tryz.func132.trans (congrArg some (by kernel_rfl))
  f318 := Tryz.func134.trans (congrArg some (by kernel_rfl))
  f319 := Tryz.func135.trans (congrArg some (by kernel_rfl))
  f320 := Tryz.func136.trans (congrArg some (by kernel_rfl))
  f337 := Tryz.func145.trans (congrArg some (by kernel_rfl))
  f338 := Tryz.func146.trans (congrArg some (by kernel_rfl))
  t0 := Tryz.underlying0
  a0 := Tryz.isAgg0
  z0 := Tryz.sizeOf0
  v0 := Tryz.zeroValue0
  t2 := Tryz.underlying2
  a2 := Tryz.isAgg2
  z2 := Tryz.sizeOf2
  v2 := Tryz.zeroValue2
  t3 := Tryz.underlying3
  a3 := Tryz.isAgg3
  z3 := Tryz.sizeOf3
  v3 := Tryz.zeroValue3
  t4 := Tryz.underlying4
  a4 := Tryz.isAgg4
  z4 := Tryz.sizeOf4
  v4 := Tryz.zeroValue4
  t5 := Tryz.underlying5
  a5 := Tryz.isAgg5
  z5 := Tryz.sizeOf5
  v5 := Tryz.zeroValue5
  t9 := Tryz.underlying9
  a9 := Tryz.isAgg9
  z9 := Tryz.sizeOf9
  v9 := Tryz.zeroValue9
  t20 := Tryz.underlying20
  a20 := Tryz.isAgg20
  z20 := Tryz.sizeOf20
  v20 := Tryz.zeroValue20
  t37 := Tryz.underlying44
  a37 := Tryz.isAgg44
  z37 := Tryz.sizeOf44
  v37 := Tryz.zeroValue44
  t46 := Tryz.underlying158
  a46 := Tryz.isAgg158
  z46 := Tryz.sizeOf158
  v46 := Tryz.zeroValue158
  t51 := Tryz.underlying161
  a51 := Tryz.isAgg161
  z51 := Tryz.sizeOf161
  v51 := Tryz.zeroValue161
  t53 := Tryz.underlying143
  a53 := Tryz.isAgg143
  z53 := Tryz.sizeOf143
  v53 := Tryz.zeroValue143
  t171 := Tryz.underlying142
  a171 := Tryz.isAgg142
  z171 := Tryz.sizeOf142
  v171 := Tryz.zeroValue142
  t173 := Tryz.underlying146
  a173 := Tryz.isAgg146
  z173 := Tryz.sizeOf146
  v173 := Tryz.zeroValue146
  t212 := Tryz.underlying160
  a212 := Tryz.isAgg160
  z212 := Tryz.sizeOf160
  v212 := Tryz.zeroValue160
  t213 := Tryz.underlying162
  a213 := Tryz.isAgg162
  z213 := Tryz.sizeOf162
  t232 := Tryz.underlying180
  a232 := Tryz.isAgg180
  z232 := Tryz.sizeOf180
  v232 := Tryz.zeroValue180
  t233 := Tryz.underlying181
  a233 := Tryz.isAgg181
  z233 := Tryz.sizeOf181
  v233 := Tryz.zeroValue181
  g17 := by kernel_rfl
  g18 := by kernel_rfl
  g19 := by kernel_rfl
  i0 := by kernel_rfl
  i2 := by kernel_rfl
  i3 := by kernel_rfl
  i4 := by kernel_rfl
  i5 := by kernel_rfl
  i9 := by kernel_rfl
  i20 := by kernel_rfl
  i37 := by kernel_rfl
  i46 := by kernel_rfl
  i51 := by kernel_rfl
  i53 := by kernel_rfl
  i171 := by kernel_rfl
  i173 := by kernel_rfl
  i212 := by kernel_rfl
  i232 := by kernel_rfl
  i233 := by kernel_rfl
  m17 := by kernel_rfl
  m18 := by kernel_rfl
  m19 := by kernel_rfl }
open Go.RowKit Go.Sort Go.Lib in
theorem Tryz.strconv_Itoa (n : Int) (h0 : -9223372036854775808 ≤ n) (h1 : n ≤ 9223372036854775807) (w : World) (htab : Lib.TabIs Tryz.prog w "internal/strconv.uint64pow10" .u64 Lib.pow10Tab) :
    Calls Tryz.prog 89 #[.int .i64 n] w fun e w' => e = .returned (.string ⟨(Lib.itoa n).toArray⟩) ∧ ∃ k os, w' = grow (w.drewN k) os := Any.strconv_Itoa Tryz.laysM171 n h0 h1 w htab
def Tryz.laysC172_ren : Go.Shelf.Ren := ⟨fun | 172 => 108 | 244 => 114 | 245 => 115 | 247 => 123 | 279 => 124 | 280 => 125 | 281 => 126 | 282 => 127 | 287 => 141 | 316 => 73 | 171 => 89 | 205 => 142 | 321 => 151 | 322 => 152 | 243 => 101 | 246 => 110 | 283 => 117 | 284 => 118 | 285 => 119 | 286 => 120 | 129 => 133 | 317 => 132 | 318 => 134 | 319 => 135 | 320 => 136 | 337 => 145 | 338 => 146 | n => n, fun | 9 => 9 | 3 => 3 | 75 => 56 | 76 => 57 | 4 => 4 | 5 => 5 | 167 => 150 | 37 => 44 | 0 => 0 | 85 => 151 | 2 => 2 | 168 => 153 | 53 => 143 | 175 => 165 | 46 => 158 | 210 => 168 | 127 => 83 | 145 => 179 | 143 => 177 | 21 => 21 | 171 => 142 | 173 => 146 | 212 => 160 | 51 => 161 | 20 => 20 | 213 => 162 | 232 => 180 | 233 => 181 | 80 => 60 | n => n, fun | 15 => 2 | 16 => 3 | 17 => 1 | 18 => 4 | 19 => 5 | n => n⟩
theorem Tryz.laysC172 : Go.Proofs.LaysC.n172 Tryz.prog Tryz.laysC172_ren := {
  mixed := by kernel_rfl
  f129 := Tryz.func133.trans (congrArg some (by kernel_rfl))
  f171 := Tryz.func89.trans (congrArg some (by kernel_rfl))
  f172 := Tryz.func108.trans (congrArg some (by kernel_rfl))
  f205 := Tryz.func142.trans (congrArg some (by kernel_rfl))
  f243 := Tryz.func101.trans (congrArg some (by kernel_rfl))
  f244 := Tryz.func114.trans (congrArg some (by kernel_rfl))
  f245 := Tryz.func115.trans (congrArg some (by kernel_rfl))
  f246 := Tryz.func110.trans (congrArg some (by kernel_rfl))
  f247 := Tryz.func123.trans (congrArg some (by kernel_rfl))
  f279 := Tryz.func124.trans (congrArg some (by kernel_rfl))
  f280 := Tryz.func125.trans (congrArg some (by kernel_rfl))
  f281 := Tryz.func126.trans (congrArg some (by kernel_rfl))
  f282 := Tryz.func127.trans (congrArg some (by kernel_rfl))
  f283 := Tryz.func117.trans (congrArg some (by kernel_rfl))
  f284 := Tryz.func118.trans (congrArg some (by kernel_rfl))
  f285 := Tryz.func119.trans (congrArg some (by kernel_rfl))
  f286 := Tryz.func120.trans (congrArg some (by kernel_rfl))
  f287 := Tryz.func141.trans (congrArg some (by kernel_rfl))
  f316 := Tryz.func73.trans (congrArg some (by kernel_rfl))
  f317 := Tryz.func132.trans (congrArg some (by kernel_rfl))
  f318 := Tryz.func134.trans (congrArg some (by kernel_rfl))
  f319 := Tryz.func135.trans (congrArg some (by kernel_rfl))
  f320 := Tryz.func136.trans (congrArg some (by kernel_rfl))
  f321 := Tryz.func151.trans (congrArg some (by kernel_rfl))
  f322 := Tryz.func152.trans (congrArg some (by kernel_rfl))
  f337 := Tryz.func145.trans (congrArg some (by kernel_rfl))
  f338 := Tryz.func146.trans (congrArg some (by kernel_rfl))
  t0 := Tryz.underlying0
  a0 := Tryz.isAgg0
  z0 := Tryz.sizeOf0
  v0 := Tryz.zeroValue0
  t2 := Tryz.underlying2
  a2 := Tryz.isAgg2
  z2 := Tryz.sizeOf2
  v2 := Tryz.zeroValue2
  t3 := Tryz.underlying3
  a3 := Tryz.isAgg3
  z3 := Tryz.sizeOf3
  v3 := Tryz.zeroValue3
  t4 := Tryz.underlying4
  a4 := Tryz.isAgg4
  z4 := Tryz.sizeOf4
  v4 := Tryz.zeroValue4
  t5 := Tryz.underlying5
  a5 := Tryz.isAgg5
  z5 := Tryz.sizeOf5
  v5 := Tryz.zeroValue5
  t9 := Tryz.underlying9
  a9 := Tryz.isAgg9
  z9 := Tryz.sizeOf9
  v9 := Tryz.zeroValue9
  t20 := Tryz.underlying20
  a20 := Tryz.isAgg20
  z20 := Tryz.sizeOf20
  v20 := Tryz.zeroValue20
  t21 := Tryz.underlying21
  a21 := Tryz.isAgg21
  z21 := Tryz.sizeOf21
  v21 := Tryz.zeroValue21
  t37 := Tryz.underlying44
  a37 := Tryz.isAgg44
  z37 := Tryz.sizeOf44
  v37 := Tryz.zeroValue44
  t46 := Tryz.underlying158
  a46 := Tryz.isAgg158
  z46 := Tryz.sizeOf158
  v46 := Tryz.zeroValue158
  t51 := Tryz.underlying161
  a51 := Tryz.isAgg161
  z51 := Tryz.sizeOf161
  v51 := Tryz.zeroValue161
  t53 := Tryz.underlying143
  a53 := Tryz.isAgg143
  z53 := Tryz.sizeOf143
  v53 := Tryz.zeroValue143
  t75 := Tryz.underlying56
  a75 := Tryz.isAgg56
  z75 := Tryz.sizeOf56
  v75 := Tryz.zeroValue56
  t76 := Tryz.underlying57
  a76 := Tryz.isAgg57
  z76 := Tryz.sizeOf57
  v76 := Tryz.zeroValue57
  t85 := Tryz.underlying151
  a85 := Tryz.isAgg151
  z85 := Tryz.sizeOf151
  v85 := Tryz.zeroValue151
  t127 := Tryz.underlying83
  a127 := Tryz.isAgg83
  z127 := Tryz.sizeOf83
  v127 := Tryz.zeroValue83
  t143 := Tryz.underlying177
  a143 := Tryz.isAgg177
  z143 := Tryz.sizeOf177
  v143 := Tryz.zeroValue177
  t145 := Tryz.underlying179
  a145 := Tryz.isAgg179
  z145 := Tryz.sizeOf179
  v145 := Tryz.zeroValue179
  t167 := Tryz.underlying150
  a167 := Tryz.isAgg150
  z167 := Tryz.sizeOf150
  v167 := Tryz.zeroValue150
  t168 := Tryz.underlying153
  a168 := Tryz.isAgg153
  z168 := Tryz.sizeOf153
  v168 := Tryz.zeroValue153
  t171 := Tryz.underlying142
  a171 := Tryz.isAgg142
  z171 := Tryz.sizeOf142
  v171 := Tryz.zeroValue142
  t173 := Tryz.underlying146
  a173 := Tryz.isAgg146
  z173 := Tryz.sizeOf146
  v173 := Tryz.zeroValue146
  t175 := Tryz.underlying165
  a175 := Tryz.isAgg165
  z175 := Tryz.sizeOf165
  v175 := Tryz.zeroValue165
  t210 := Tryz.underlying168
  a210 := Tryz.isAgg168
  z210 := Tryz.sizeOf168
  v210 := Tryz.zeroValue168
  t212 := Tryz.underlying160
  a212 := Tryz.isAgg160
  z212 := Tryz.sizeOf160
  v212 := Tryz.zeroValue160
  t213 := Tryz.underlying162
  a213 := Tryz.isAgg162
  z213 := Tryz.sizeOf162
  t232 := Tryz.underlying180
  a232 := Tryz.isAgg180
  z232 := Tryz.sizeOf180
  v232 := Tryz.zeroValue180
  t233 := Tryz.underlying181
  a233 := Tryz.isAgg181
  z233 := Tryz.sizeOf181
  v233 := Tryz.zeroValue181
  g15 := by kernel_rfl
  g16 := by kernel_rfl
  g17 := by kernel_rfl
  g18 := by kernel_rfl
  g19 := by kernel_rfl
  t80 := Tryz.underlying60
  a80 := Tryz.isAgg60
  z80 := Tryz.sizeOf60
  v80 := Tryz.zeroValue60
  i0 := by kernel_rfl
  i2 := by kernel_rfl
  i3 := by kernel_rfl
  i4 := by kernel_rfl
  i5 := by kernel_rfl
  i9 := by kernel_rfl
  i20 := by kernel_rfl
  i21 := by kernel_rfl
  i37 := by kernel_rfl
  i46 := by kernel_rfl
  i51 := by kernel_rfl
  i53 := by kernel_rfl
  i75 := by kernel_rfl
  i76 := by kernel_rfl
  i80 := by kernel_rfl
  i85 := by kernel_rfl
  i127 := by kernel_rfl
  i143 := by kernel_rfl
  i145 := by kernel_rfl
  i167 := by kernel_rfl
  i168 := by kernel_rfl
  i171 := by kernel_rfl
  i173 := by kernel_rfl
  i175 := by kernel_rfl
  i210 := by kernel_rfl
  i212 := by kernel_rfl
  i232 := by kernel_rfl
  i233 := by kernel_rfl
  m15 := by kernel_rfl
  m16 := by kernel_rfl
  m17 := by kernel_rfl
  m18 := by kernel_rfl
  m19 := by kernel_rfl
  c0 := by kernel_rfl
  c2 := by kernel_rfl
  c3 := by kernel_rfl
  c4 := by kernel_rfl
  c5 := by kernel_rfl
  c9 := by kernel_rfl
  c20 := by kernel_rfl
  c21 := by kernel_rfl
  c37 := by kernel_rfl
  c46 := by kernel_rfl
  c51 := by kernel_rfl
  c53 := by kernel_rfl
  c75 := by kernel_rfl
  c76 := by kernel_rfl
  c80 := by kernel_rfl
  c85 := by kernel_rfl
  c127 := by kernel_rfl
  c143 := by kernel_rfl
  c145 := by kernel_rfl
  c167 := by kernel_rfl
  c168 := by kernel_rfl
  c171 := by kernel_rfl
  c173 := by kernel_rfl
  c175 := by kernel_rfl
  c210 := by kernel_rfl
  c212 := by kernel_rfl
  c213 := by kernel_rfl
  c232 := by kernel_rfl
  c233 := by kernel_rfl }
open Go.RowKit in
theorem Tryz.strconv_Atoi_ok (s : ByteArray) (hmax : s.size ≤ 9223372036854775806) (v : Int) (h : Lib.atoiAll s.data.toList = .ok v) (w : World) :
    Calls Tryz.prog 108 #[.string s] w fun e w' => e = .returned (.tuple #[.int .i64 v, .nilIface]) ∧ (w' = w ∨ ∃ t, w' = Lib.bytesWorld w 5 t) := Any.strconv_Atoi_ok Tryz.laysC172 s hmax v h w
open Go.RowKit in
theorem Tryz.strconv_Atoi_range_var (s : ByteArray) (hlim : s.size ≤ 281474976710656) (h : Lib.atoiAll s.data.toList = .range) (tp : TypeId) (p : Value) (w : World) (hvar : w.var? Tryz.prog "strconv.ErrRange" = some #[.iface tp p]) :
    Calls Tryz.prog 108 #[.string s] w fun e w' => ∃ N, e = .returned (.tuple #[.int .i64 (Lib.atoiSat s.data.toList), .iface 153 (.pointer (some ⟨N, 0, none⟩))]) ∧ w.heap.size ≤ N ∧ w'.heap[N]? = some (.cells #[.string ⟨#[65, 116, 111, 105]⟩, .string s, .iface tp p] 168 (0, 0)) ∧ Below w.heap.size w w' := Any.strconv_Atoi_range_var Tryz.laysC172 s hlim h tp p w hvar
def Tryz.lays145_ren : Go.Shelf.Ren := ⟨fun | 145 => 99 | 220 => 109 | 219 => 116 | 217 => 128 | 225 => 129 | 224 => 130 | 267 => 131 | 266 => 143 | 314 => 144 | n => n, fun | 9 => 9 | 4 => 4 | 59 => 133 | 3 => 3 | 5 => 5 | 46 => 158 | 146 => 170 | 51 => 161 | n => n, fun | 1 => 0 | n => n⟩
theorem Tryz.lays145 : Go.Proofs.Lays.n145 Tryz.prog Tryz.lays145_ren := {
  mixed := by kernel_rfl
  f145 := Tryz.func99.trans (congrArg some (by kernel_rfl))
  f217 := Tryz.func128.trans (congrArg some (by kernel_rfl))
  f219 := Tryz.func116.trans (congrArg some (by kernel_rfl))
  f220 := Tryz.func109.trans (congrArg some (by kernel_rfl))
  f224 := Tryz.func130.trans (congrArg some (by kernel_rfl))
  f225 := Tryz.func129.trans (congrArg some (by kernel_rfl))
  f266 := Tryz.func143.trans (congrArg some (by kernel_rfl))
  f267 := Tryz.func131.trans (congrArg some (by kernel_rfl))
  f314 := Tryz.func144.trans (congrArg some (by kernel_rfl))
  t3 := Tryz.underlying3
  a3 := Tryz.isAgg3
  z3 := Tryz.sizeOf3
  v3 := Tryz.zeroValue3
  t4 := Tryz.underlying4
  a4 := Tryz.isAgg4
  z4 := Tryz.sizeOf4
  v4 := Tryz.zeroValue4
  t5 := Tryz.underlying5
  a5 := Tryz.isAgg5
  z5 := Tryz.sizeOf5
  v5 := Tryz.zeroValue5
  t9 := Tryz.underlying9
  a9 := Tryz.isAgg9
  z9 := Tryz.sizeOf9
  v9 := Tryz.zeroValue9
  t46 := Tryz.underlying158
  a46 := Tryz.isAgg158
  z46 := Tryz.sizeOf158
  v46 := Tryz.zeroValue158
  t51 := Tryz.underlying161
  a51 := Tryz.isAgg161
  z51 := Tryz.sizeOf161
  v51 := Tryz.zeroValue161
  t59 := Tryz.underlying133
  a59 := Tryz.isAgg133
  z59 := Tryz.sizeOf133
  v59 := Tryz.zeroValue133
  t146 := Tryz.underlying170
  a146 := Tryz.isAgg170
  z146 := Tryz.sizeOf170
  v146 := Tryz.zeroValue170
  g1 := by kernel_rfl }
open Go.RowKit Go.Lib in
theorem Tryz.strings_Cut (s sep : ByteArray) (m : Int) (w : World) (hs : s.size < 4294967281) (hm : w.cell? ⟨0, 0, none⟩ = some (.int .i64 m)) :
    Calls Tryz.prog 99 #[.string s, .string sep] w fun e w' => e = .returned (.tuple #[.string ⟨(Lib.cut s.data.toList sep.data.toList).1.toArray⟩, .string ⟨(Lib.cut s.data.toList sep.data.toList).2.1.toArray⟩, .bool (Lib.cut s.data.toList sep.data.toList).2.2]) ∧ ∃ n, w' = w.drewN n := Any.strings_Cut Tryz.lays145 s sep m w hs hm
def Tryz.lays146_ren : Go.Shelf.Ren := ⟨fun | 146 => 111 | 221 => 121 | 268 => 137 | 138 => 138 | 143 => 139 | 195 => 147 | 197 => 148 | 218 => 149 | 219 => 116 | 260 => 153 | 217 => 128 | 225 => 129 | 224 => 130 | 267 => 131 | 266 => 143 | 314 => 144 | n => n, fun | 9 => 9 | 31 => 27 | 3 => 3 | 4 => 4 | 0 => 0 | 105 => 174 | 21 => 21 | 5 => 5 | 46 => 158 | 119 => 182 | 139 => 185 | 138 => 184 | 146 => 170 | 51 => 161 | n => n, fun | 1 => 0 | 3 => 6 | 4 => 7 | n => n⟩
theorem Tryz.lays146 : Go.Proofs.Lays.n146 Tryz.prog Tryz.lays146_ren := {
  mixed := by kernel_rfl
  f138 := Tryz.func138.trans (congrArg some (by kernel_rfl))
  f143 := Tryz.func139.trans (congrArg some (by kernel_rfl))
  f146 := Tryz.func111.trans (congrArg some (by kernel_rfl))
  f195 := Tryz.func147.trans (congrArg some (by kernel_rfl))
  f197 := Tryz.func148.trans (congrArg some (by kernel_rfl))
  f217 := Tryz.func128.trans (congrArg some (by kernel_rfl))
  f218 := Tryz.func149.trans (congrArg some (by kernel_rfl))
  f219 := Tryz.func116.trans (congrArg some (by kernel_rfl))
  f221 := Tryz.func121.trans (congrArg some (by kernel_rfl))
  f224 := Tryz.func130.trans (congrArg some (by kernel_rfl))
  f225 := Tryz.func129.trans (congrArg some (by kernel_rfl))
  f260 := Tryz.func153.trans (congrArg some (by kernel_rfl))
  f266 := Tryz.func143.trans (congrArg some (by kernel_rfl))
  f267 := Tryz.func131.trans (congrArg some (by kernel_rfl))
  f268 := Tryz.func137.trans (congrArg some (by kernel_rfl))
  f314 := Tryz.func144.trans (congrArg some (by kernel_rfl))
  t0 := Tryz.underlying0
  a0 := Tryz.isAgg0
  z0 := Tryz.sizeOf0
  v0 := Tryz.zeroValue0
  t3 := Tryz.underlying3
  a3 := Tryz.isAgg3
  z3 := Tryz.sizeOf3
  v3 := Tryz.zeroValue3
  t4 := Tryz.underlying4
  a4 := Tryz.isAgg4
  z4 := Tryz.sizeOf4
  v4 := Tryz.zeroValue4
  t5 := Tryz.underlying5
  a5 := Tryz.isAgg5
  z5 := Tryz.sizeOf5
  v5 := Tryz.zeroValue5
  t9 := Tryz.underlying9
  a9 := Tryz.isAgg9
  z9 := Tryz.sizeOf9
  v9 := Tryz.zeroValue9
  t21 := Tryz.underlying21
  a21 := Tryz.isAgg21
  z21 := Tryz.sizeOf21
  v21 := Tryz.zeroValue21
  t31 := Tryz.underlying27
  a31 := Tryz.isAgg27
  z31 := Tryz.sizeOf27
  v31 := Tryz.zeroValue27
  t46 := Tryz.underlying158
  a46 := Tryz.isAgg158
  z46 := Tryz.sizeOf158
  v46 := Tryz.zeroValue158
  t51 := Tryz.underlying161
  a51 := Tryz.isAgg161
  z51 := Tryz.sizeOf161
  v51 := Tryz.zeroValue161
  t105 := Tryz.underlying174
  a105 := Tryz.isAgg174
  z105 := Tryz.sizeOf174
  v105 := Tryz.zeroValue174
  t119 := Tryz.underlying182
  a119 := Tryz.isAgg182
  z119 := Tryz.sizeOf182
  t138 := Tryz.underlying184
  a138 := Tryz.isAgg184
  z138 := Tryz.sizeOf184
  v138 := Tryz.zeroValue184
  t139 := Tryz.underlying185
  a139 := Tryz.isAgg185
  z139 := Tryz.sizeOf185
  v139 := Tryz.zeroValue185
  t146 := Tryz.underlying170
  a146 := Tryz.isAgg170
  z146 := Tryz.sizeOf170
  v146 := Tryz.zeroValue170
  g1 := by kernel_rfl
  g3 := by kernel_rfl
  g4 := by kernel_rfl }
open Go.RowKit Go.Lib in
theorem Tryz.strings_Split (s sep : ByteArray) (m : Int) (w : World) (hs : s.size < 4294967281) (hm : w.cell? ⟨0, 0, none⟩ = some (.int .i64 m)) (h1 : 1 ≤ sep.size) :
    Calls Tryz.prog 111 #[.string s, .string sep] w fun e w' =>
      e = .returned (.slice (some ⟨w.heap.size, 0, none⟩) (Lib.countB s sep + 1) (Lib.countB s sep + 1)) ∧ w' = w.alloc (.cells ((Lib.splitB sep 0 (Lib.countB s sep) s).map Value.string).toArray 9) := Any.strings_Split Tryz.lays146 (by kernel_rfl) s sep m w hs hm h1
def Tryz.laysMp25_ren : Go.Shelf.Ren := ⟨fun | 25 => 73 | n => n, fun | 9 => 9 | 3 => 3 | 4 => 4 | 37 => 44 | 0 => 0 | 47 => 83 | 5 => 5 | n => n, fun | n => n⟩
theorem Tryz.laysMp25 : Go.Proofs.LaysPu.n25 Tryz.prog Tryz.laysMp25_ren := {
  mixed := by kernel_rfl
  f25 := Tryz.func73.trans (congrArg some (by kernel_rfl))
  t0 := Tryz.underlying0
  a0 := Tryz.isAgg0
  z0 := Tryz.sizeOf0
  v0 := Tryz.zeroValue0
  i0 := by kernel_rfl
  t3 := Tryz.underlying3
  a3 := Tryz.isAgg3
  z3 := Tryz.sizeOf3
  v3 := Tryz.zeroValue3
  i3 := by kernel_rfl
  t4 := Tryz.underlying4
  a4 := Tryz.isAgg4
  z4 := Tryz.sizeOf4
  v4 := Tryz.zeroValue4
  i4 := by kernel_rfl
  t5 := Tryz.underlying5
  a5 := Tryz.isAgg5
  z5 := Tryz.sizeOf5
  v5 := Tryz.zeroValue5
  i5 := by kernel_rfl
  t9 := Tryz.underlying9
  a9 := Tryz.isAgg9
  z9 := Tryz.sizeOf9
  v9 := Tryz.zeroValue9
  i9 := by kernel_rfl
  t37 := Tryz.underlying44
  a37 := Tryz.isAgg44
  z37 := Tryz.sizeOf44
  v37 := Tryz.zeroValue44
  i37 := by kernel_rfl
  t47 := Tryz.underlying83
  a47 := Tryz.isAgg83
  z47 := Tryz.sizeOf83
  v47 := Tryz.zeroValue83
  i47 := by kernel_rfl }
def Tryz.laysSlgf8K_ren : Go.Shelf.Ren := ⟨fun | 8 => 56 | 6 => 83 | n => n, fun | 22 => 47 | 23 => 51 | 25 => 54 | 4 => 4 | 3 => 3 | 0 => 0 | n => n, fun | n => n⟩
theorem Tryz.laysSlgf8K : Go.Proofs.SlLaysH0.n8 Tryz.prog Tryz.laysSlgf8K_ren := {
  mixed := by kernel_rfl
  f6 := ⟨Tryz.f83.name, by decide, Tryz.func83.trans (congrArg some (by kernel_rfl))⟩
  f8 := ⟨Tryz.f56.name, by decide, Tryz.func56.trans (congrArg some (by kernel_rfl))⟩
  t0 := Tryz.underlying0
  a0 := Tryz.isAgg0
  z0 := Tryz.sizeOf0
  v0 := Tryz.zeroValue0
  t3 := Tryz.underlying3
  a3 := Tryz.isAgg3
  z3 := Tryz.sizeOf3
  v3 := Tryz.zeroValue3
  t4 := Tryz.underlying4
  a4 := Tryz.isAgg4
  z4 := Tryz.sizeOf4
  v4 := Tryz.zeroValue4
  t22 := Tryz.underlying47
  a22 := Tryz.isAgg47
  z22 := Tryz.sizeOf47
  v22 := Tryz.zeroValue47
  t25 := Tryz.underlying54
  a25 := Tryz.isAgg54
  z25 := Tryz.sizeOf54
  v25 := Tryz.zeroValue54 }
def Tryz.laysSlgf8T_ren : Go.Shelf.Ren := ⟨fun | 8 => 64 | 6 => 88 | n => n, fun | 22 => 27 | 23 => 9 | 25 => 38 | 4 => 4 | 3 => 3 | 0 => 0 | n => n, fun | n => n⟩
theorem Tryz.laysSlgf8T : Go.Proofs.SlLaysH.n8 Tryz.prog Tryz.laysSlgf8T_ren := {
  mixed := by kernel_rfl
  f6 := ⟨Tryz.f88.name, by decide, Tryz.func88.trans (congrArg some (by kernel_rfl))⟩
  f8 := ⟨Tryz.f64.name, by decide, Tryz.func64.trans (congrArg some (by kernel_rfl))⟩
  t0 := Tryz.underlying0
  a0 := Tryz.isAgg0
  z0 := Tryz.sizeOf0
  v0 := Tryz.zeroValue0
  t3 := Tryz.underlying3
  a3 := Tryz.isAgg3
  z3 := Tryz.sizeOf3
  v3 := Tryz.zeroValue3
  t4 := Tryz.underlying4
  a4 := Tryz.isAgg4
  z4 := Tryz.sizeOf4
  v4 := Tryz.zeroValue4
  t22 := Tryz.underlying27
  a22 := Tryz.isAgg27
  z22 := Tryz.sizeOf27
  v22 := Tryz.zeroValue27
  a23 := Tryz.isAgg9
  z23 := Tryz.sizeOf9
  t25 := Tryz.underlying38
  a25 := Tryz.isAgg38
  z25 := Tryz.sizeOf38
  v25 := Tryz.zeroValue38 }
end Go.Proofs
/- What dec.Put answers for every int, where the library's table of powers is as the program's text lays it. -/
namespace Go.Proofs.YtenigkjonegdmaaGreatDoor
open Go.Shelf
open Go.RowKit
set_option linter.unusedVariables false

/-- The library's table of powers is as the program's text lays it. -/
def Tab (w : World) : Prop := Lib.TabIs Tryz.prog w "internal/strconv.uint64pow10" .u64 Lib.pow10Tab
theorem var_below {P : Program} {w w' : World} {name : String} {cs : Array Value} (h : w.var? P name = some cs) (hb : Below w.heap.size w w') : w'.var? P name = some cs := by
  unfold World.var? at *
  cases hg : P.globalNamed name with
  | none => simp [hg] at h
  | some g =>
    simp only [hg, Option.bind_some] at h ⊢
    have hlt : g < w.heap.size := by
      rcases Nat.lt_or_ge g w.heap.size with h' | h'
      · exact h'
      · simp [Array.getElem?_eq_none h'] at h
    rw [hb.block g hlt]
    exact h
theorem Tab.below {w w' : World} (h : Tab w) (hb : Below w.heap.size w w') : Tab w' := var_below h hb

theorem decPut_any (n : Int) (w : World) (n0 : -9223372036854775808 ≤ n) (n1 : n ≤ 9223372036854775807) (hg : Tab w) :
    Calls Tryz.prog 67 #[.int .i64 n] w fun e w' => e = .returned (.string ⟨(Lib.itoa n).toArray⟩) ∧ Below w.heap.size w w' := by
  go_enter Tryz.func67, Tryz.ntmps67
  go_wp2_with fail
  refine (Tryz.strconv_Itoa n n0 n1 _ hg).mono ?_
  rintro e w' ⟨rfl, k, os, rfl⟩
  go_wp2
  go_ret
  exact ⟨rfl, Lib.below_grow _ _ (Nat.le_refl _) _ _⟩
end Go.Proofs.YtenigkjonegdmaaGreatDoor
/- Plain arithmetic behind layer 2 (dec): the digits of a number come back as that number, by strconv's reading and by the digit-by-digit one; no condition but the range of an int. -/
namespace Go.Proofs.YtenigkjonegdmaaGreatDoor.DecMath
open Go.Lib

theorem digit_toNat (d : Nat) (h : d < 10) : (UInt8.ofNat (48 + d)).toNat = 48 + d := by
  rw [UInt8.toNat_ofNat']; omega

theorem parse_snoc (c : UInt8) : ∀ (l : List UInt8) (acc m : Nat), parseUint10 acc l = .ok m → parseUint10 acc (l ++ [c]) = parseUint10 m [c]
  | [], acc, m, h => by simp only [parseUint10] at h; injection h with h; subst h; rfl
  | x :: r, acc, m, h => by
    simp only [parseUint10, List.cons_append] at h ⊢
    split at h
    · rename_i hx
      rw [if_pos hx]
      split at h
      · cases h
      · rename_i h2
        rw [if_neg h2]
        split at h
        · cases h
        · rename_i h3
          rw [if_neg h3]
          simpa [parseUint10] using parse_snoc c r _ m h
    · cases h

theorem parse_digits (u : Nat) (h : u < 18446744073709551616) : parseUint10 0 (decDigits u) = .ok u := by
  induction u using Nat.strongRecOn with
  | ind u ih =>
    rw [decDigits]
    by_cases hu : u < 10
    · rw [dif_pos hu]
      simp only [parseUint10, digit_toNat u hu]
      rw [if_pos (by omega), if_neg (by omega), if_neg (by omega)]
      congr 1; omega
    · rw [dif_neg hu, parse_snoc _ _ _ _ (ih (u / 10) (by omega) (by omega))]
      simp only [parseUint10, digit_toNat (u % 10) (by omega)]
      rw [if_pos (by omega), if_neg (by omega), if_neg (by omega)]
      congr 1; omega

theorem digits_ne (u : Nat) : decDigits u ≠ [] := by
  rw [decDigits]; split <;> simp

/-- Each octet of a number's digits is a digit. -/
theorem digits_each (u : Nat) : ∀ c ∈ decDigits u, 48 ≤ c.toNat ∧ c.toNat ≤ 57 := by
  induction u using Nat.strongRecOn with
  | ind u ih =>
    rw [decDigits]
    by_cases hu : u < 10
    · rw [dif_pos hu]
      intro c hc
      simp only [List.mem_singleton] at hc
      subst hc
      rw [digit_toNat u hu]; omega
    · rw [dif_neg hu]
      intro c hc
      simp only [List.mem_append, List.mem_singleton] at hc
      rcases hc with hc | rfl
      · exact ih (u / 10) (by omega) c hc
      · rw [digit_toNat (u % 10) (by omega)]; omega

theorem mag_digits (u : Nat) (h : u < 18446744073709551616) : parseMag (decDigits u) = .ok u := by
  rw [parseMag, if_neg (digits_ne u), parse_digits u h]

theorem atoi_itoa (n : Int) (n0 : -9223372036854775808 ≤ n) (n1 : n ≤ 9223372036854775807) : atoiAll (itoa n) = .ok n := by
  unfold itoa
  split
  · rw [atoiAll_minus, mag_digits _ (by omega)]
    simp only [signed]
    rw [if_neg (by omega)]
    congr 1; omega
  · obtain ⟨c, r, e⟩ := List.exists_cons_of_ne_nil (digits_ne n.toNat)
    have hc := digits_each n.toNat c (by rw [e]; simp)
    have hm := mag_digits n.toNat (by omega)
    rw [e] at hm ⊢
    rw [atoiAll_plain c r (by omega) (by omega), hm]
    simp only [signless]
    rw [if_neg (by omega)]
    congr 1; omega

/-- The number whose digits l are, and whether there is one. -/
def numOf (l : List UInt8) : Int × Bool :=
  match atoiAll l with
  | .ok v => if itoa v = l then (v, true) else (0, false)
  | _ => (0, false)

theorem numOf_itoa (n : Int) (n0 : -9223372036854775808 ≤ n) (n1 : n ≤ 9223372036854775807) : numOf (itoa n) = (n, true) := by
  simp [numOf, atoi_itoa n n0 n1]

theorem numOf_none (l : List UInt8) (h : ∀ n : Int, -9223372036854775808 ≤ n → n ≤ 9223372036854775807 → itoa n ≠ l) : numOf l = (0, false) := by
  unfold numOf
  split
  · rename_i v hv
    have := atoiAll_bounds hv
    rw [if_neg (h v this.1 this.2)]
  · rfl

theorem numOf_cases (l : List UInt8) : (∃ n : Int, (-9223372036854775808 ≤ n ∧ n ≤ 9223372036854775807) ∧ itoa n = l ∧ numOf l = (n, true)) ∨
    ((∀ n : Int, -9223372036854775808 ≤ n → n ≤ 9223372036854775807 → itoa n ≠ l) ∧ numOf l = (0, false)) := by
  by_cases h : ∃ n : Int, (-9223372036854775808 ≤ n ∧ n ≤ 9223372036854775807) ∧ itoa n = l
  · obtain ⟨n, hn, rfl⟩ := h
    exact .inl ⟨n, hn, rfl, numOf_itoa n hn.1 hn.2⟩
  · have h' : ∀ n : Int, -9223372036854775808 ≤ n → n ≤ 9223372036854775807 → itoa n ≠ l := fun n a b e => h ⟨n, ⟨a, b⟩, e⟩
    exact .inr ⟨h', numOf_none l h'⟩

theorem nDigits_le : ∀ (k u : Nat), u < 10 ^ (k + 1) → nDigits u ≤ k + 1
  | 0, u, h => by rw [nDigits_small (by omega)]; omega
  | k + 1, u, h => by
    by_cases hu : u < 10
    · rw [nDigits_small hu]; omega
    · rw [nDigits_big hu]
      have := nDigits_le k (u / 10) (by have : 10 ^ (k + 1 + 1) = 10 ^ (k + 1) * 10 := Nat.pow_succ ..; omega)
      omega

theorem itoa_len (n : Int) (n0 : -9223372036854775808 ≤ n) (n1 : n ≤ 9223372036854775807) : 1 ≤ (itoa n).length ∧ (itoa n).length ≤ 20 := by
  unfold itoa
  split
  · have := nDigits_le 18 n.natAbs (by omega)
    simp only [List.length_cons, decDigits_length]; omega
  · have := nDigits_le 18 n.toNat (by omega)
    have := nDigits_pos n.toNat
    simp only [decDigits_length]; omega

/-- One round of the digit-by-digit reading. -/
def rd (neg : Bool) (n : Int) (c : UInt8) : Int := if neg then n * 10 - (c.toNat - 48) else n * 10 + (c.toNat - 48)
def w64 (n : Int) : Int := (n + 9223372036854775808) % 18446744073709551616 - 9223372036854775808

/-- The digit-by-digit reading of what stands behind the sign. -/
def rg (neg : Bool) (n : Int) : List UInt8 → Option Int
  | [] => some n
  | c :: r => if c.toNat < 48 ∨ 57 < c.toNat then none else rg neg (w64 (rd neg n c)) r

theorem rg_snoc (neg : Bool) (c : UInt8) : ∀ (l : List UInt8) (n m : Int), rg neg n l = some m → rg neg n (l ++ [c]) = rg neg m [c]
  | [], n, m, h => by simp only [rg] at h; injection h with h; subst h; rfl
  | x :: r, n, m, h => by
    simp only [rg, List.cons_append] at h ⊢
    split at h
    · cases h
    · rename_i hx
      rw [if_neg hx]
      simpa [rg] using rg_snoc neg c r _ m h

theorem rg_digits (neg : Bool) (u : Nat) (h : u ≤ 9223372036854775807 ∨ (neg = true ∧ u ≤ 9223372036854775808)) :
    rg neg 0 (decDigits u) = some (if neg then -(u : Int) else u) := by
  induction u using Nat.strongRecOn with
  | ind u ih =>
    rw [decDigits]
    by_cases hu : u < 10
    · rw [dif_pos hu]
      simp only [rg, digit_toNat u hu]
      rw [if_neg (by omega)]
      have e := digit_toNat u hu
      cases neg
      · simp only [rd, w64, e, Bool.false_eq_true, if_false, Option.some.injEq]; omega
      · simp only [rd, w64, e, if_true, Option.some.injEq]; omega
    · rw [dif_neg hu, rg_snoc _ _ _ _ _ (ih (u / 10) (by omega) (by omega))]
      simp only [rg, digit_toNat (u % 10) (by omega)]
      rw [if_neg (by omega)]
      have e := digit_toNat (u % 10) (by omega)
      cases neg
      · have h' : u ≤ 9223372036854775807 := by simpa using h
        simp only [rd, w64, e, Bool.false_eq_true, if_false, Option.some.injEq]; omega
      · simp only [rd, w64, e, if_true, Option.some.injEq]; omega

theorem rg_bd (neg : Bool) : ∀ (l : List UInt8) (n m : Int), -9223372036854775808 ≤ n → n ≤ 9223372036854775807 → rg neg n l = some m → -9223372036854775808 ≤ m ∧ m ≤ 9223372036854775807
  | [], n, m, a, b, h => by simp only [rg] at h; injection h with h; subst h; exact ⟨a, b⟩
  | x :: r, n, m, a, b, h => by
    simp only [rg] at h
    split at h
    · cases h
    · refine rg_bd neg r _ m ?_ ?_ h <;> unfold w64 <;> omega

/-- The digits that are left to write: none for 0. -/
def td (u : Nat) : List UInt8 := if u = 0 then [] else decDigits u
theorem td_step (u : Nat) (h : u ≠ 0) : td u = td (u / 10) ++ [UInt8.ofNat (48 + u % 10)] := by
  unfold td
  rw [if_neg h]
  by_cases hu : u < 10
  · rw [if_pos (by omega), decDigits, dif_pos hu, show u % 10 = u from by omega]; rfl
  · rw [if_neg (by omega), decDigits, dif_neg hu]

end Go.Proofs.YtenigkjonegdmaaGreatDoor.DecMath
