/- Decks of pieces: a piece's cells, how a deck lies in memory, and what the library's Clone makes of a list of pieces. -/
import Derived.Test.YtnofncibplgmpaaProg
import Derived.Test.YtnofncibplgmpaaBut
import Derived.Test.YtnofncibplgmpaaShelf
namespace Go.Proofs.Ytnofncibplgmpaa
open Go.RowKit Go.Lib
set_option linter.unusedVariables false

/-- A panel that lies somewhere: its number, and whether it was flipped. -/
structure Pc where
  n : Int
  fx : Bool
  fy : Bool
deriving DecidableEq, Inhabited
def Pc.cells (p : Pc) : List Value := [.int .i64 p.n, .int .i64 0, .bool p.fx, .bool p.fy]
def Pc.val (p : Pc) : Value := .agg #[.int .i64 p.n, .int .i64 0, .bool p.fx, .bool p.fy]
/-- The pieces' cells, one behind the other. -/
def pcs (l : List Pc) : List Value := l.flatMap Pc.cells
theorem pcs_cons (p : Pc) (l : List Pc) : pcs (p :: l) = p.cells ++ pcs l := rfl
theorem pcs_append (l m : List Pc) : pcs (l ++ m) = pcs l ++ pcs m := by simp [pcs]
theorem pcs_length (l : List Pc) : (pcs l).length = l.length * 4 := by
  induction l with
  | nil => rfl
  | cons p l ih => rw [pcs_cons, List.length_append, ih, List.length_cons]; simp [Pc.cells]; omega
theorem pcs_one {l : List Pc} : ∀ u ∈ pcs l, u.oneCell' = true := by
  intro u hu
  obtain ⟨p, _, hp⟩ := List.mem_flatMap.1 hu
  simp [Pc.cells] at hp
  rcases hp with rfl | rfl | rfl | rfl <;> rfl
theorem pcs_at {l : List Pc} {j : Nat} {p : Pc} (h : l[j]? = some p) (i : Nat) (hi : i < 4) : (pcs l)[j * 4 + i]? = p.cells[i]? := by
  induction l generalizing j with
  | nil => simp at h
  | cons q l ih =>
    rw [pcs_cons]
    cases j with
    | zero =>
      simp only [List.getElem?_cons_zero, Option.some.injEq] at h
      subst h
      rw [List.getElem?_append_left (by simp [Pc.cells]; omega)]
      simp
    | succ j =>
      rw [List.getElem?_cons_succ] at h
      rw [List.getElem?_append_right (by simp [Pc.cells]; omega), ← ih h]
      congr 1
      simp [Pc.cells]
      omega
theorem pcs_set {l : List Pc} {j : Nat} (hj : j < l.length) (q : Pc) : pcs (l.set j q) = (pcs l).take (j * 4) ++ q.cells ++ (pcs l).drop (j * 4 + 4) := by
  have h1 : l.set j q = l.take j ++ q :: l.drop (j + 1) := List.set_eq_take_append_cons_drop .. |>.trans (by rw [if_pos hj])
  have h2 : pcs l = pcs (l.take j) ++ pcs (l.drop j) := by rw [← pcs_append, List.take_append_drop]
  have h3 : (pcs (l.take j)).length = j * 4 := by rw [pcs_length, List.length_take]; omega
  have h4 : l.drop j = l[j] :: l.drop (j + 1) := List.drop_eq_getElem_cons hj
  rw [h1, pcs_append, pcs_cons, h2, List.take_left' h3, ← h3, List.drop_append, h4, pcs_cons]
  simp [Pc.cells]

theorem Try.infoPc : (Try.prog.info? 42).map (fun i => (i.zero, i.size, i.bytes)) = some (some (.agg #[.int .i64 0, .int .i64 0, .bool false, .bool false]), 4, 24) := by kernel_rfl

/-- The pieces stand in block b, from its first cell on. -/
def PcsAt (w : World) (b : Nat) (l : List Pc) : Prop := ∀ j u, (pcs l)[j]? = some u → w.cell? ⟨b, j, none⟩ = some u
theorem PcsAt.up {w w' : World} {b : Nat} {l : List Pc} (h : PcsAt w b l) (hb : Below w.heap.size w w') : PcsAt w' b l := fun j u hu => bl_cell hb (h j u hu)
theorem PcsAt.cells {w : World} {b : Nat} {l : List Pc} (h : PcsAt w b l) {j : Nat} {p : Pc} (hp : l[j]? = some p) :
    w.cell? ⟨b, j * 4, none⟩ = some (.int .i64 p.n) ∧ w.cell? ⟨b, j * 4 + 1, none⟩ = some (.int .i64 0) ∧ w.cell? ⟨b, j * 4 + 2, none⟩ = some (.bool p.fx) ∧ w.cell? ⟨b, j * 4 + 3, none⟩ = some (.bool p.fy) :=
  ⟨h _ _ (pcs_at hp 0 (by omega)), h _ _ (pcs_at hp 1 (by omega)), h _ _ (pcs_at hp 2 (by omega)), h _ _ (pcs_at hp 3 (by omega))⟩

/-- A list of pieces of the call's own, that lies in block g, from there on as far as cap. -/
structure Row (w : World) (base g cap : Nat) (l : List Pc) : Prop where
  own : w.ownsRow base 42 4 (.slice (some ⟨g, 0, none⟩) l.length cap) l.length (pcs l)
theorem Row.block {w : World} {base g cap : Nat} {l : List Pc} (h : Row w base g cap l) : ∃ cur, w.heap[g]? = some (.cells cur 42 (0, 0)) ∧ l.length ≤ cap ∧ cap ≤ maxLen ∧ cur.size = cap * 4 ∧ cur.toList.take (l.length * 4) = pcs l ∧ base ≤ g := by
  rcases h.own.2 with ⟨e, _⟩ | ⟨g', cap', cur, e, h1, h2, h3, h4, h5, h6⟩
  · cases e
  · cases e
    exact ⟨cur, h2, h3, h4, h5, h6, h1⟩
theorem Row.of_block {w : World} {base g cap : Nat} {l : List Pc} {cur : Array Value} (h1 : base ≤ g) (h2 : w.heap[g]? = some (.cells cur 42 (0, 0))) (h3 : l.length ≤ cap) (h4 : cap ≤ maxLen) (h5 : cur.size = cap * 4) (h6 : cur.toList.take (l.length * 4) = pcs l) : Row w base g cap l :=
  ⟨⟨pcs_length l, .inr ⟨g, cap, cur, rfl, h1, h2, h3, h4, h5, h6⟩⟩⟩
theorem Row.lt {w : World} {base g cap : Nat} {l : List Pc} (h : Row w base g cap l) : base ≤ g ∧ g < w.heap.size := h.own.lt g rfl
theorem Row.at {w : World} {base g cap : Nat} {l : List Pc} (h : Row w base g cap l) : PcsAt w g l := fun j u hu => by
  have := h.own.cells (g := g) rfl j u hu
  rwa [show (⟨g, 0, none⟩ : Addr).add j = ⟨g, j, none⟩ by unfold Addr.add; split <;> simp_all] at this
theorem Row.free {w : World} {base g cap : Nat} {l : List Pc} (h : Row w base g cap l) (j : Nat) : w.frozen? ⟨g, j, none⟩ = false := by
  obtain ⟨cur, h2, _⟩ := h.block
  exact row_frozen h2 j
theorem Row.kept {w w' : World} {base g cap : Nat} {l : List Pc} (h : Row w base g cap l) (hb : w'.heap[g]? = w.heap[g]?) : Row w' base g cap l := by
  obtain ⟨cur, h2, h3, h4, h5, h6, h1⟩ := h.block
  exact Row.of_block h1 (hb.trans h2) h3 h4 h5 h6
theorem Row.up {w w' : World} {base g cap : Nat} {l : List Pc} (h : Row w base g cap l) (hb : Below w.heap.size w w') : Row w' base g cap l := h.kept (hb.block g h.lt.2)
theorem Row.base {w : World} {base g cap : Nat} {l : List Pc} (h : Row w base g cap l) (b : Nat) (hb : b ≤ g) : Row w b g cap l := by
  obtain ⟨cur, h2, h3, h4, h5, h6, h1⟩ := h.block
  exact Row.of_block hb h2 h3 h4 h5 h6
/-- What is told of any slice of the call's own, of a list that has something. -/
theorem Row.of_own {w : World} {base : Nat} {v : Value} {l : List Pc} (h : w.ownsRow base 42 4 v l.length (pcs l)) (hl : 0 < l.length) : ∃ g cap, v = .slice (some ⟨g, 0, none⟩) l.length cap ∧ Row w base g cap l := by
  rcases h.2 with ⟨_, h0⟩ | ⟨g, cap, cur, rfl, _⟩
  · omega
  · exact ⟨g, cap, rfl, ⟨h⟩⟩

/-- A deck: its box at D, its things in block R. -/
structure Dp (w : World) (base D R : Nat) (l : List Pc) : Prop where
  low : base ≤ D
  row : ∃ cap, Boxed w D 61 (.slice (some ⟨R, 0, none⟩) l.length cap) ∧ Row w base R cap l
theorem Dp.ltD {w : World} {base D R : Nat} {l : List Pc} (h : Dp w base D R l) : D < w.heap.size := by
  obtain ⟨cap, h1, h2⟩ := h.row
  exact h1.lt
theorem Dp.ltR {w : World} {base D R : Nat} {l : List Pc} (h : Dp w base D R l) : base ≤ R ∧ R < w.heap.size := by
  obtain ⟨cap, h1, h2⟩ := h.row
  exact h2.lt
theorem Dp.ne {w : World} {base D R : Nat} {l : List Pc} (h : Dp w base D R l) : R ≠ D := by
  obtain ⟨cap, h1, h2⟩ := h.row
  obtain ⟨cur, h3, _⟩ := h2.block
  rintro rfl
  have := (show w.heap[R]? = _ from h1).symm.trans h3
  simp at this
theorem Dp.kept {w w' : World} {base D R : Nat} {l : List Pc} (h : Dp w base D R l) (h1 : w'.heap[D]? = w.heap[D]?) (h2 : w'.heap[R]? = w.heap[R]?) : Dp w' base D R l := by
  obtain ⟨cap, k1, k2⟩ := h.row
  exact ⟨h.low, cap, h1.trans k1, k2.kept h2⟩
theorem Dp.up {w w' : World} {base D R : Nat} {l : List Pc} (h : Dp w base D R l) (hb : Below w.heap.size w w') : Dp w' base D R l := h.kept (hb.block D h.ltD) (hb.block R h.ltR.2)
theorem Dp.but {w w' : World} {base D R D' R' : Nat} {l : List Pc} (h : Dp w base D R l) (hb : But D' R' w w') (h1 : D ≠ D') (h2 : D ≠ R') (h3 : R ≠ D') (h4 : R ≠ R') : Dp w' base D R l := h.kept (hb.block D h.ltD h1 h2) (hb.block R h.ltR.2 h3 h4)
theorem Dp.base {w : World} {base D R : Nat} {l : List Pc} (h : Dp w base D R l) (b : Nat) (h1 : b ≤ D) (h2 : b ≤ R) : Dp w b D R l := by
  obtain ⟨cap, k1, k2⟩ := h.row
  exact ⟨h1, cap, k1, k2.base b h2⟩

/-- What a call makes of the deck at D, whose things were in R: now it has l; nothing else has changed. -/
def MadeP (base : Nat) (w : World) (D R : Nat) (l : List Pc) (w' : World) : Prop := ∃ R', Dp w' base D R' l ∧ (R' = R ∨ w.heap.size ≤ R') ∧ But D R w w'
/-- A new list is laid into the deck's box. -/
theorem Dp.put {w w' : World} {base D R R' c : Nat} {l l' : List Pc} {v : Value} (h : Dp w base D R l) (hb : But D R w w') (hD : Boxed w' D 61 v) (hr : Row w' base R' c l') (hR : R' = R ∨ w.heap.size ≤ R') :
    MadeP base w D R l' (w'.setCell ⟨D, 0, none⟩ (.slice (some ⟨R', 0, none⟩) l'.length c)) := by
  obtain ⟨cur, h3, _⟩ := hr.block
  have hne : R' ≠ D := by
    rintro rfl
    have := (show w'.heap[R']? = _ from hD).symm.trans h3
    simp at this
  exact ⟨R', ⟨h.low, c, hD.set _, hr.kept (Below.heap_setCell _ _ _ _ hne)⟩, hR, hb.set 0 _⟩

theorem pcClone_any {w : World} {b : Nat} {l : List Pc} (c : Nat) (h : PcsAt w b l) (h0 : 0 < l.length) (hm : l.length ≤ 1000000) :
    Calls Try.prog 42 #[.slice (some ⟨b, 0, none⟩) l.length c] w fun e w' => ∃ g cap, e = .returned (.slice (some ⟨g, 0, none⟩) l.length cap) ∧ Row w' w.heap.size g cap l ∧ Below w.heap.size w w' := by
  obtain ⟨i0, hi, hz0, hz1, hz2⟩ := info_parts Try.infoPc
  have K : Calls Try.prog 42 _ _ _ := AnyE.slices_Clone Try.laysSlgn41 i0 _ 4 24 hi hz0 hz1 hz2 rfl (by omega) Try.sizeOf42 b 0 l.length c (pcs l) w (pcs_length l) (by unfold maxLen; omega) (by omega)
    (fun j u hu => by rw [Nat.zero_add]; exact h j u hu) pcs_one
  refine K.mono ?_
  rintro e w' ⟨v, rfl, h1, _, h2⟩
  obtain ⟨g, cap, rfl, h3⟩ := Row.of_own h1 h0
  exact ⟨g, cap, rfl, h3, h2⟩
end Go.Proofs.Ytnofncibplgmpaa
