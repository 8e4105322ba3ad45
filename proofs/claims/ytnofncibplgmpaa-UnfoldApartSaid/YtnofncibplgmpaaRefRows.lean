/- Lists of the reference's panels: a panel's cells, how such a list lies in memory, and what moved and turned answer. -/
import Derived.Test.YtnofncibplgmpaaUnfoldMath
import Derived.Test.YtnofncibplgmpaaBoxes
namespace Go.Proofs.Ytnofncibplgmpaa
open Go.RowKit Go.Lib
set_option linter.unusedVariables false

def Rp.cells (p : Rp) : List Value := [.int .i64 p.n, .int .i64 p.col, .int .i64 p.row, .bool p.fx, .bool p.fy]
def Rp.val (p : Rp) : Value := .agg #[.int .i64 p.n, .int .i64 p.col, .int .i64 p.row, .bool p.fx, .bool p.fy]
/-- The panels' cells, one behind the other. -/
def rps (l : List Rp) : List Value := l.flatMap Rp.cells
theorem rps_cons (p : Rp) (l : List Rp) : rps (p :: l) = p.cells ++ rps l := rfl
theorem rps_append (l m : List Rp) : rps (l ++ m) = rps l ++ rps m := by simp [rps]
theorem rps_length (l : List Rp) : (rps l).length = l.length * 5 := by
  induction l with
  | nil => rfl
  | cons p l ih => rw [rps_cons, List.length_append, ih, List.length_cons]; simp [Rp.cells]; omega
theorem rps_one {l : List Rp} : ∀ u ∈ rps l, u.oneCell' = true := by
  intro u hu
  obtain ⟨p, _, hp⟩ := List.mem_flatMap.1 hu
  simp [Rp.cells] at hp
  rcases hp with rfl | rfl | rfl | rfl | rfl <;> rfl
theorem rps_at {l : List Rp} {j : Nat} {p : Rp} (h : l[j]? = some p) (i : Nat) (hi : i < 5) : (rps l)[j * 5 + i]? = p.cells[i]? := by
  induction l generalizing j with
  | nil => simp at h
  | cons q l ih =>
    rw [rps_cons]
    cases j with
    | zero =>
      simp only [List.getElem?_cons_zero, Option.some.injEq] at h
      subst h
      rw [List.getElem?_append_left (by simp [Rp.cells]; omega)]
      simp
    | succ j =>
      rw [List.getElem?_cons_succ] at h
      rw [List.getElem?_append_right (by simp [Rp.cells]; omega), ← ih h]
      congr 1
      simp [Rp.cells]
      omega
theorem rps_set {l : List Rp} {j : Nat} (hj : j < l.length) (q : Rp) : rps (l.set j q) = (rps l).take (j * 5) ++ q.cells ++ (rps l).drop (j * 5 + 5) := by
  have h1 : l.set j q = l.take j ++ q :: l.drop (j + 1) := List.set_eq_take_append_cons_drop .. |>.trans (by rw [if_pos hj])
  have h2 : rps l = rps (l.take j) ++ rps (l.drop j) := by rw [← rps_append, List.take_append_drop]
  have h3 : (rps (l.take j)).length = j * 5 := by rw [rps_length, List.length_take]; omega
  have h4 : l.drop j = l[j] :: l.drop (j + 1) := List.drop_eq_getElem_cons hj
  rw [h1, rps_append, rps_cons, h2, List.take_left' h3, ← h3, List.drop_append, h4, rps_cons]
  simp [Rp.cells]

theorem Try.infoRp : (Try.prog.info? 49).map (fun i => (i.zero, i.size, i.bytes)) = some (some (.agg #[.int .i64 0, .int .i64 0, .int .i64 0, .bool false, .bool false]), 5, 32) := by kernel_rfl

/-- The panels stand in block b, from its first cell on. -/
def RpsAt (w : World) (b : Nat) (l : List Rp) : Prop := ∀ j u, (rps l)[j]? = some u → w.cell? ⟨b, j, none⟩ = some u
theorem RpsAt.up {w w' : World} {b : Nat} {l : List Rp} (h : RpsAt w b l) (hb : Below w.heap.size w w') : RpsAt w' b l := fun j u hu => bl_cell hb (h j u hu)
theorem RpsAt.cells {w : World} {b : Nat} {l : List Rp} (h : RpsAt w b l) {j : Nat} {p : Rp} (hp : l[j]? = some p) :
    w.cell? ⟨b, j * 5, none⟩ = some (.int .i64 p.n) ∧ w.cell? ⟨b, j * 5 + 1, none⟩ = some (.int .i64 p.col) ∧ w.cell? ⟨b, j * 5 + 2, none⟩ = some (.int .i64 p.row) ∧ w.cell? ⟨b, j * 5 + 3, none⟩ = some (.bool p.fx) ∧ w.cell? ⟨b, j * 5 + 4, none⟩ = some (.bool p.fy) :=
  ⟨h _ _ (rps_at hp 0 (by omega)), h _ _ (rps_at hp 1 (by omega)), h _ _ (rps_at hp 2 (by omega)), h _ _ (rps_at hp 3 (by omega)), h _ _ (rps_at hp 4 (by omega))⟩

/-- v is a slice of the call's own (from block base on) that holds the panels l. -/
def OwnR (w : World) (base : Nat) (v : Value) (l : List Rp) : Prop := w.ownsRow base 49 5 v l.length (rps l)
theorem OwnR.nil (w : World) (base : Nat) : OwnR w base (.slice none 0 0) [] := World.ownsRow_nil _ _ _ _
theorem OwnR.up {w w' : World} {base : Nat} {v : Value} {l : List Rp} (h : OwnR w base v l) (hb : Below w.heap.size w w') : OwnR w' base v l := by
  refine World.ownsRow.kept h (row := none) ⟨hb.os, hb.tape, hb.output, hb.size, fun k hk _ => hb.block k hk⟩ ?_
  rcases h.2 with ⟨rfl, _⟩ | ⟨g, cap, cur, rfl, _⟩
  · exact .inl rfl
  · exact .inr (by simp [Value.ownBlock])
theorem OwnR.base {w : World} {base : Nat} {v : Value} {l : List Rp} (h : OwnR w base v l) (b : Nat) (hb : b ≤ base) : OwnR w b v l := by
  refine ⟨h.1, ?_⟩
  rcases h.2 with h0 | ⟨g, cap, cur, rfl, h1, h2⟩
  · exact .inl h0
  · exact .inr ⟨g, cap, cur, rfl, by omega, h2⟩

/-- A list of panels of the call's own, that lies in block g, from there on as far as cap. -/
structure Rw (w : World) (base g cap : Nat) (l : List Rp) : Prop where
  own : OwnR w base (.slice (some ⟨g, 0, none⟩) l.length cap) l
theorem Rw.block {w : World} {base g cap : Nat} {l : List Rp} (h : Rw w base g cap l) : ∃ cur, w.heap[g]? = some (.cells cur 49 (0, 0)) ∧ l.length ≤ cap ∧ cap ≤ maxLen ∧ cur.size = cap * 5 ∧ cur.toList.take (l.length * 5) = rps l ∧ base ≤ g := by
  rcases h.own.2 with ⟨e, _⟩ | ⟨g', cap', cur, e, h1, h2, h3, h4, h5, h6⟩
  · cases e
  · cases e
    exact ⟨cur, h2, h3, h4, h5, h6, h1⟩
theorem Rw.of_block {w : World} {base g cap : Nat} {l : List Rp} {cur : Array Value} (h1 : base ≤ g) (h2 : w.heap[g]? = some (.cells cur 49 (0, 0))) (h3 : l.length ≤ cap) (h4 : cap ≤ maxLen) (h5 : cur.size = cap * 5) (h6 : cur.toList.take (l.length * 5) = rps l) : Rw w base g cap l :=
  ⟨⟨rps_length l, .inr ⟨g, cap, cur, rfl, h1, h2, h3, h4, h5, h6⟩⟩⟩
theorem Rw.lt {w : World} {base g cap : Nat} {l : List Rp} (h : Rw w base g cap l) : base ≤ g ∧ g < w.heap.size := World.ownsRow.lt h.own g rfl
theorem Rw.at {w : World} {base g cap : Nat} {l : List Rp} (h : Rw w base g cap l) : RpsAt w g l := fun j u hu => by
  have := World.ownsRow.cells h.own (g := g) rfl j u hu
  rwa [show (⟨g, 0, none⟩ : Addr).add j = ⟨g, j, none⟩ by unfold Addr.add; split <;> simp_all] at this
theorem Rw.free {w : World} {base g cap : Nat} {l : List Rp} (h : Rw w base g cap l) (j : Nat) : w.frozen? ⟨g, j, none⟩ = false := by
  obtain ⟨cur, h2, _⟩ := h.block
  exact row_frozen h2 j
theorem Rw.up {w w' : World} {base g cap : Nat} {l : List Rp} (h : Rw w base g cap l) (hb : Below w.heap.size w w') : Rw w' base g cap l := by
  obtain ⟨cur, h2, h3, h4, h5, h6, h1⟩ := h.block
  exact Rw.of_block h1 ((hb.block g h.lt.2).trans h2) h3 h4 h5 h6
theorem Rw.base {w : World} {base g cap : Nat} {l : List Rp} (h : Rw w base g cap l) (b : Nat) (hb : b ≤ g) : Rw w b g cap l := by
  obtain ⟨cur, h2, h3, h4, h5, h6, h1⟩ := h.block
  exact Rw.of_block hb h2 h3 h4 h5 h6
/-- What is told of any slice of the call's own, of a list that has something. -/
theorem OwnR.form {w : World} {base : Nat} {v : Value} {l : List Rp} (h : OwnR w base v l) (hl : 0 < l.length) : ∃ g cap, v = .slice (some ⟨g, 0, none⟩) l.length cap ∧ Rw w base g cap l := by
  rcases h.2 with ⟨_, h0⟩ | ⟨g, cap, cur, rfl, _⟩
  · omega
  · exact ⟨g, cap, rfl, ⟨h⟩⟩
/-- One number of one panel is written. -/
theorem Rw.set {w : World} {base g cap : Nat} {l : List Rp} (h : Rw w base g cap l) {k : Nat} {p : Rp} (hk : l[k]? = some p) (i : Nat) (hi : i < 5) (v : Value) (q : Rp) (hq : p.cells.set i v = q.cells) : Rw (w.setCell ⟨g, k * 5 + i, none⟩ v) base g cap (l.set k q) := by
  obtain ⟨cur, h2, h3, h4, h5, h6, h1⟩ := h.block
  obtain ⟨hkl, hp⟩ := List.getElem?_eq_some_iff.1 hk
  have hs : (w.setCell ⟨g, k * 5 + i, none⟩ v).heap[g]? = some (.cells (cur.setIfInBounds (k * 5 + i) v) 49 (0, 0)) := by
    simp only [World.setCell, Array.getElem?_modify, if_true, h2, Option.map_some]
    rfl
  refine Rw.of_block h1 hs (by rw [List.length_set]; exact h3) h4 (by simp [h5]) ?_
  rw [List.length_set, Array.toList_setIfInBounds, List.take_set, h6]
  apply List.ext_getElem?
  intro j
  rw [List.getElem?_set, rps_length]
  by_cases hj : j < l.length * 5
  · have e1 : (rps (l.set k q))[j]? = ((l.set k q)[j / 5]'(by rw [List.length_set]; omega)).cells[j % 5]? := by
      have := rps_at (l := l.set k q) (j := j / 5) (List.getElem?_eq_getElem (by rw [List.length_set]; omega)) (j % 5) (by omega)
      rwa [show j / 5 * 5 + j % 5 = j by omega] at this
    have e2 : (rps l)[j]? = (l[j / 5]'(by omega)).cells[j % 5]? := by
      have := rps_at (l := l) (j := j / 5) (List.getElem?_eq_getElem (by omega)) (j % 5) (by omega)
      rwa [show j / 5 * 5 + j % 5 = j by omega] at this
    rw [e1, e2, List.getElem_set]
    by_cases hkj : k = j / 5
    · subst hkj
      rw [if_pos rfl, ← hq, hp, List.getElem?_set]
      have hc : p.cells.length = 5 := rfl
      by_cases hij : j / 5 * 5 + i = j
      · rw [if_pos hij, if_pos (by omega), if_pos (by omega), if_pos (by omega)]
      · rw [if_neg hij, if_neg (by omega)]
    · rw [if_neg (by omega), if_neg hkj]
  · rw [if_neg (by omega), List.getElem?_eq_none (by rw [rps_length]; omega), List.getElem?_eq_none (by rw [rps_length, List.length_set]; omega)]
theorem Rw.set_but {w : World} {base g cap : Nat} {l : List Rp} (h : Rw w base g cap l) (k : Nat) (v : Value) {B : Nat} {w0 : World} (hb : Below B w0 w) (hB : B ≤ g) : Below B w0 (w.setCell ⟨g, k, none⟩ v) := hb.setCell hB v

set_option maxHeartbeats 1000000 in
theorem refMoved_any (p : Rp) (d n : Int) (u : Bool) (c r : Int) (w : World) (hd : 1 ≤ d ∧ d ≤ 4) (hn : 1 ≤ n ∧ n ≤ 64) (hc : 1 ≤ c ∧ c ≤ 64) (hr : 1 ≤ r ∧ r ≤ 64) :
    Calls Try.prog 43 #[p.val, .agg #[.int .i64 d, .int .i64 n, .bool u], .int .i64 c, .int .i64 r] w fun e w' => e = .returned (.bool (movedM d n c r p)) ∧ Below w.heap.size w w' := by
  unfold Rp.val
  obtain ⟨pn, pc, pr, fx, fy⟩ := p
  obtain ⟨q1, h1⟩ : ∃ q, c - n = q := ⟨_, rfl⟩
  obtain ⟨q2, h2⟩ : ∃ q, r - n = q := ⟨_, rfl⟩
  have w1 : wrap64 (c - n) = q1 := by rw [h1]; exact IntWalk.wrap64_in _ (by omega)
  have w2 : wrap64 (r - n) = q2 := by rw [h2]; exact IntWalk.wrap64_in _ (by omega)
  obtain rfl | rfl | rfl | rfl : d = 1 ∨ d = 2 ∨ d = 3 ∨ d = 4 := by omega
  all_goals
    unfold movedM
    simp only [h1, h2]
    have H1 := Lib.hid h1; have H2 := Lib.hid h2
    clear h1 h2
    go_enter Try.func43, Try.ntmps43
    go_wp2
    go_ret
    refine ⟨by simp [H1.out, H2.out], ?_⟩
    repeat (first | with_reducible exact Below.refl _ _ | apply up_alloc)

set_option maxHeartbeats 1000000 in
theorem refTurned_any (p : Rp) (d n : Int) (u : Bool) (c r : Int) (w : World) (hd : 1 ≤ d ∧ d ≤ 4) (hn : 1 ≤ n ∧ n ≤ 64) (hc : 1 ≤ c ∧ c ≤ 64) (hr : 1 ≤ r ∧ r ≤ 64) (hp : (0 ≤ p.col ∧ p.col ≤ 64) ∧ 0 ≤ p.row ∧ p.row ≤ 64) :
    Calls Try.prog 44 #[p.val, .agg #[.int .i64 d, .int .i64 n, .bool u], .int .i64 c, .int .i64 r] w fun e w' => e = .returned (turnedM d n c r p).val ∧ Below w.heap.size w w' := by
  unfold Rp.val
  obtain ⟨pn, pc, pr, fx, fy⟩ := p
  simp only at hp
  have a1 : wrap64 (2 * n) = 2 * n := IntWalk.wrap64_in _ (by omega)
  have a2 : wrap64 (2 * n - 1) = 2 * n - 1 := IntWalk.wrap64_in _ (by omega)
  have a3 : wrap64 (2 * n - 1 - pc) = 2 * n - 1 - pc := IntWalk.wrap64_in _ (by omega)
  have a4 : wrap64 (2 * n - 1 - pr) = 2 * n - 1 - pr := IntWalk.wrap64_in _ (by omega)
  have b0 : wrap64 (c - n) = c - n := IntWalk.wrap64_in _ (by omega)
  have b1 : wrap64 (2 * (c - n)) = 2 * (c - n) := IntWalk.wrap64_in _ (by omega)
  have b2 : wrap64 (2 * (c - n) - 1) = 2 * (c - n) - 1 := IntWalk.wrap64_in _ (by omega)
  have b3 : wrap64 (2 * (c - n) - 1 - pc) = 2 * (c - n) - 1 - pc := IntWalk.wrap64_in _ (by omega)
  have e0 : wrap64 (r - n) = r - n := IntWalk.wrap64_in _ (by omega)
  have e1 : wrap64 (2 * (r - n)) = 2 * (r - n) := IntWalk.wrap64_in _ (by omega)
  have e2 : wrap64 (2 * (r - n) - 1) = 2 * (r - n) - 1 := IntWalk.wrap64_in _ (by omega)
  have e3 : wrap64 (2 * (r - n) - 1 - pr) = 2 * (r - n) - 1 - pr := IntWalk.wrap64_in _ (by omega)
  obtain rfl | rfl | rfl | rfl : d = 1 ∨ d = 2 ∨ d = 3 ∨ d = 4 := by omega
  all_goals
    unfold turnedM
    go_enter Try.func44, Try.ntmps44
    go_wp2
    refine bodyPost_ret (v := .agg _) (by simp [results, Try.results44, go_sem]) rfl ⟨rfl, ?_⟩
    repeat (first | with_reducible exact Below.refl _ _ | apply up_alloc)
end Go.Proofs.Ytnofncibplgmpaa
