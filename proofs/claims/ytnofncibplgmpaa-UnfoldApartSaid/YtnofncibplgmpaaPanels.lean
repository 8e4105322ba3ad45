/- Lists of panels' leaves, and how they are flipped: their cells, and how such a list lies in memory. -/
import Derived.Test.YtnofncibplgmpaaProg
import Derived.Test.YtnofncibplgmpaaBut
import Derived.Test.YtnofncibplgmpaaPileLib
import Derived.Laws.MakeOwn
namespace Go.Proofs.Ytnofncibplgmpaa
open Go.RowKit
set_option linter.unusedVariables false

/-- A panel's leaf, and whether it is flipped. -/
structure Pn where
  leaf : Int
  fx : Bool
  fy : Bool
deriving DecidableEq
instance : Inhabited Pn := ⟨⟨0, false, false⟩⟩
def Pn.cells (p : Pn) : List Value := [.int .i64 p.leaf, .bool p.fx, .bool p.fy]
def pns (l : List Pn) : List Value := l.flatMap Pn.cells
theorem pns_cons (p : Pn) (l : List Pn) : pns (p :: l) = p.cells ++ pns l := rfl
theorem pns_append (l m : List Pn) : pns (l ++ m) = pns l ++ pns m := by simp [pns]
theorem pns_length (l : List Pn) : (pns l).length = l.length * 3 := by
  induction l with
  | nil => rfl
  | cons p l ih => rw [pns_cons, List.length_append, ih, List.length_cons]; simp [Pn.cells]; omega
theorem pns_at {l : List Pn} {j : Nat} {p : Pn} (h : l[j]? = some p) (i : Nat) (hi : i < 3) : (pns l)[j * 3 + i]? = p.cells[i]? := by
  induction l generalizing j with
  | nil => simp at h
  | cons q l ih =>
    rw [pns_cons]
    cases j with
    | zero =>
      simp only [List.getElem?_cons_zero, Option.some.injEq] at h
      subst h
      rw [List.getElem?_append_left (by simp [Pn.cells]; omega)]
      simp
    | succ j =>
      rw [List.getElem?_cons_succ] at h
      rw [List.getElem?_append_right (by simp [Pn.cells]; omega), ← ih h]
      congr 1
      simp [Pn.cells]
      omega
theorem pns_set {l : List Pn} {j : Nat} (hj : j < l.length) (q : Pn) : pns (l.set j q) = (pns l).take (j * 3) ++ q.cells ++ (pns l).drop (j * 3 + 3) := by
  have h1 : l.set j q = l.take j ++ q :: l.drop (j + 1) := List.set_eq_take_append_cons_drop .. |>.trans (by rw [if_pos hj])
  have h2 : pns l = pns (l.take j) ++ pns (l.drop j) := by rw [← pns_append, List.take_append_drop]
  have h3 : (pns (l.take j)).length = j * 3 := by rw [pns_length, List.length_take]; omega
  have h4 : l.drop j = l[j] :: l.drop (j + 1) := List.drop_eq_getElem_cons hj
  rw [h1, pns_append, pns_cons, h2, List.take_left' h3, ← h3, List.drop_append, h4, pns_cons]
  simp [Pn.cells]

theorem Try.infoPn : (Try.prog.info? 31).map (fun i => (i.zero, i.size, i.bytes)) = some (some (.agg #[.int .i64 0, .bool false, .bool false]), 3, 16) := by kernel_rfl

/-- The panels fill block g, which may be written. -/
def PnRow (w : World) (g : Nat) (l : List Pn) : Prop := ∃ cur, w.heap[g]? = some (.cells cur 31 (0, 0)) ∧ cur.toList = pns l
theorem PnRow.lt {w : World} {g : Nat} {l : List Pn} (h : PnRow w g l) : g < w.heap.size := by
  obtain ⟨cur, h1, _⟩ := h
  exact (Array.getElem?_eq_some_iff.1 h1).1
theorem PnRow.same {w w' : World} {g : Nat} {l : List Pn} (h : PnRow w g l) (e : w'.heap[g]? = w.heap[g]?) : PnRow w' g l := by
  obtain ⟨cur, h1, h2⟩ := h
  exact ⟨cur, e.trans h1, h2⟩
theorem PnRow.up {w w' : World} {g : Nat} {l : List Pn} (h : PnRow w g l) (hb : Below w.heap.size w w') : PnRow w' g l := h.same (hb.block g h.lt)
theorem PnRow.free {w : World} {g : Nat} {l : List Pn} (h : PnRow w g l) (j : Nat) : w.frozen? ⟨g, j, none⟩ = false := by
  obtain ⟨cur, h1, _⟩ := h
  exact row_frozen h1 j
theorem PnRow.cells {w : World} {g : Nat} {l : List Pn} (h : PnRow w g l) {j : Nat} {p : Pn} (hp : l[j]? = some p) :
    w.cell? ⟨g, j * 3, none⟩ = some (.int .i64 p.leaf) ∧ w.cell? ⟨g, j * 3 + 1, none⟩ = some (.bool p.fx) ∧ w.cell? ⟨g, j * 3 + 2, none⟩ = some (.bool p.fy) := by
  obtain ⟨cur, h1, h2⟩ := h
  have k : ∀ i u, i < 3 → p.cells[i]? = some u → w.cell? ⟨g, j * 3 + i, none⟩ = some u := fun i u hi hu => by
    have e := pns_at hp i hi
    rw [hu, ← h2, Array.getElem?_toList] at e
    simp [World.cell?, h1, e]
  exact ⟨k 0 _ (by omega) rfl, k 1 _ (by omega) rfl, k 2 _ (by omega) rfl⟩
theorem PnRow.stored {w : World} {g : Nat} {l : List Pn} (h : PnRow w g l) {k : Nat} (hk : k < l.length) (q : Pn) : PnRow (w.setCells g (k * 3) q.cells) g (l.set k q) := by
  obtain ⟨cur, h1, h2⟩ := h
  have hl : cur.size = l.length * 3 := by rw [← Array.length_toList, h2, pns_length]
  have hq : q.cells.length = 3 := rfl
  obtain ⟨cur1, e1, e2⟩ := heap_setCells_list g q.cells (k * 3) w cur _ h1 (by rw [hq]; omega)
  refine ⟨cur1, e1, ?_⟩
  rw [e2, pns_set hk, h2, hq]
theorem made_pns (n : Nat) : (madeCells (Value.cells (.agg #[.int .i64 0, .bool false, .bool false])) (n * 3)).toList = pns (List.replicate n default) := by
  apply List.ext_getElem?
  intro j
  by_cases hj : j < n * 3
  · have hp : (List.replicate n (default : Pn))[j / 3]? = some default := by rw [List.getElem?_replicate, if_pos (by omega)]
    have e := pns_at hp (j % 3) (by omega)
    rw [show j / 3 * 3 + j % 3 = j by omega] at e
    rw [e]
    have : j % 3 = 0 ∨ j % 3 = 1 ∨ j % 3 = 2 := by omega
    simp only [madeCells, Array.toList_map, Array.toList_range, List.getElem?_map, List.getElem?_range hj, Option.map_some, Value.cells]
    show some ((#[Value.int .i64 0, Value.bool false, Value.bool false] : Array Value)[j % 3]!) = _
    rcases this with h | h | h <;> rw [h] <;> rfl
  · rw [List.getElem?_eq_none (by simp [madeCells]; omega), List.getElem?_eq_none (by rw [pns_length, List.length_replicate]; omega)]
theorem PnRow.made (w : World) (n : Nat) : PnRow (w.alloc (.cells (madeCells (Value.cells (.agg #[.int .i64 0, .bool false, .bool false])) (n * 3)) 31)) w.heap.size (List.replicate n default) := ⟨_, World.alloc_heap_new w _, made_pns n⟩
theorem run_make_pns (n : Nat) (hn : n ≤ 1000000) (w : World) : (Instr.makeSlice 26 (.int .i64 (n : Int)) (.int .i64 (n : Int))).run Try.prog w = .ok (.slice (some ⟨w.heap.size, 0, none⟩) n n) (w.alloc (.cells (madeCells (Value.cells (.agg #[.int .i64 0, .bool false, .bool false])) (n * 3)) 31)) := by
  obtain ⟨i0, hi, hz0, hz1, hz2⟩ := info_parts Try.infoPn
  have := run_make (P := Try.prog) w 26 31 i0 _ Try.underlying26 hi hz0 .i64 .i64 (n : Int) (n : Int) (by omega) (Int.le_refl _) (by rw [hz2]; omega) (by omega)
  rw [hz1, Int.toNat_natCast] at this
  exact this

/-- Panels by their numbers: each one's leaf is its place in the list. -/
def ofStep (l : List Pc) (acc : List Pn) (k : Nat) : List Pn := acc.set (l[k]?.getD default).n.toNat ⟨(k : Int), (l[k]?.getD default).fx, (l[k]?.getD default).fy⟩
def ofL (l : List Pc) (k : Nat) : List Pn := (List.range k).foldl (ofStep l) (List.replicate l.length default)
theorem ofL_succ (l : List Pc) (k : Nat) : ofL l (k + 1) = ofStep l (ofL l k) k := by simp [ofL, List.range_succ]
theorem ofL_length (l : List Pc) (k : Nat) : (ofL l k).length = l.length := by
  induction k with
  | zero => simp [ofL]
  | succ k ih => rw [ofL_succ]; unfold ofStep; rw [List.length_set, ih]
end Go.Proofs.Ytnofncibplgmpaa
