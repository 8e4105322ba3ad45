/- Plain facts of folding: panels in one row, turned over by steps; which of them lie at each place. -/
import Derived.Test.YtnofncibplgmpaaUnfoldSmall
import Derived.Test.YtnofncibplgmpaaPileTurn
import Derived.Test.YtnofncibplgmpaaSchemeCode
namespace Go.Proofs.Ytnofncibplgmpaa
set_option linter.unusedVariables false

/-- A panel: where it is, and how it lies. -/
structure Rp where
  n : Int
  col : Int
  row : Int
  fx : Bool
  fy : Bool
deriving DecidableEq, Inhabited
def toPc (p : Rp) : Pc := ⟨p.n, p.fx, p.fy⟩
/-- Is it on the side that is folded? -/
def movedM (d n c r : Int) (p : Rp) : Bool := if d = 1 then decide (p.col < n) else if d = 2 then decide (c - n ≤ p.col) else if d = 3 then decide (p.row < n) else decide (r - n ≤ p.row)
/-- Turned over. -/
def turnedM (d n c r : Int) (p : Rp) : Rp :=
  if d = 1 then ⟨p.n, 2 * n - 1 - p.col, p.row, !p.fx, p.fy⟩ else if d = 2 then ⟨p.n, 2 * (c - n) - 1 - p.col, p.row, !p.fx, p.fy⟩
  else if d = 3 then ⟨p.n, p.col, 2 * n - 1 - p.row, p.fx, !p.fy⟩ else ⟨p.n, p.col, 2 * (r - n) - 1 - p.row, p.fx, !p.fy⟩
def shiftM (d n : Int) (p : Rp) : Rp := if d = 1 then ⟨p.n, p.col - n, p.row, p.fx, p.fy⟩ else if d = 3 then ⟨p.n, p.col, p.row - n, p.fx, p.fy⟩ else p
def overM (d n c r : Int) (l : List Rp) : List Rp := (l.filter (movedM d n c r)).map (turnedM d n c r)
def restM (d n c r : Int) (l : List Rp) : List Rp := l.filter fun p => !movedM d n c r p
def joinU {α : Type} (u : Bool) (rest over : List α) : List α := if u = true then rest ++ over else over ++ rest
/-- All panels behind a step. -/
def stepR (d n : Int) (u : Bool) (c r : Int) (l : List Rp) : List Rp := (joinU u (restM d n c r l) (overM d n c r l).reverse).map (shiftM d n)

/-- The panels that lie at a place, as pieces. -/
def atB (x y : Int) (p : Rp) : Bool := decide (p.col = x) && decide (p.row = y)
def pileL (l : List Rp) (x y : Int) : List Pc := (l.filter (atB x y)).map toPc
/-- All panels lie on the sheet. -/
def InR (c r : Int) (l : List Rp) : Prop := ∀ p ∈ l, (0 ≤ p.col ∧ p.col < c) ∧ 0 ≤ p.row ∧ p.row < r
def upM (d : Int) : Bool := decide (d = 1) || decide (d = 2)

theorem step_length (d n : Int) (u : Bool) (c r : Int) (l : List Rp) : (stepR d n u c r l).length = l.length := by
  unfold stepR joinU overM restM
  have : (l.filter (movedM d n c r)).length + (l.filter fun p => !movedM d n c r p).length = l.length := by
    induction l with
    | nil => rfl
    | cons p l ih => cases h : movedM d n c r p <;> simp [h] <;> omega
  cases u <;> simp <;> omega

theorem pile_length (l : List Rp) (x y : Int) : (pileL l x y).length ≤ l.length := by unfold pileL; rw [List.length_map]; exact List.length_filter_le _ _

/-- Where the place of the rest was. -/
def backX (d n : Int) (x : Int) : Int := if d = 1 then x + n else x
def backY (d n : Int) (y : Int) : Int := if d = 3 then y + n else y
/-- The place at the other side of the line. -/
def reflX (d n c : Int) (x : Int) : Int := if d = 1 then 2 * n - 1 - x else if d = 2 then 2 * (c - n) - 1 - x else x
def reflY (d n r : Int) (y : Int) : Int := if d = 3 then 2 * n - 1 - y else if d = 1 ∨ d = 2 then y else 2 * (r - n) - 1 - y

theorem filter_map_at {f : Rp → Rp} {x y x' y' : Int} {l : List Rp} (h : ∀ p ∈ l, atB x y (f p) = atB x' y' p) : (l.map f).filter (atB x y) = (l.filter (atB x' y')).map f := by
  induction l with
  | nil => rfl
  | cons p l ih =>
    have hp := h p (by simp)
    have ih := ih fun q hq => h q (List.mem_cons_of_mem _ hq)
    rw [List.map_cons, List.filter_cons, hp, List.filter_cons, ih]
    cases atB x' y' p <;> simp
theorem filter_comm {α : Type} (p q : α → Bool) (l : List α) : (l.filter p).filter q = (l.filter q).filter p := by
  rw [List.filter_filter, List.filter_filter]
  congr 1
  funext a
  exact Bool.and_comm _ _

/-- Which panels lie at a place behind a step. -/
def foldPl (d n : Int) (u : Bool) (c r : Int) (P : Int → Int → List Pc) (x y : Int) : List Pc :=
  if (0 ≤ reflX d n c (backX d n x) ∧ reflX d n c (backX d n x) < c) ∧ 0 ≤ reflY d n r (backY d n y) ∧ reflY d n r (backY d n y) < r then joinU u (P (backX d n x) (backY d n y)) ((P (reflX d n c (backX d n x)) (reflY d n r (backY d n y))).reverse.map (flipP (upM d)))
  else P (backX d n x) (backY d n y)

/-- A step that can be done on c by r panels. -/
structure Can (d n c r : Int) : Prop where
  d1 : 1 ≤ d
  d4 : d ≤ 4
  n1 : 1 ≤ n
  c1 : 1 ≤ c
  r1 : 1 ≤ r
  side : if d ≤ 2 then 2 * n ≤ c else 2 * n ≤ r
def newC (d n c : Int) : Int := if d ≤ 2 then c - n else c
def newR (d n r : Int) : Int := if d ≤ 2 then r else r - n

theorem Can.cases {d n c r : Int} (h : Can d n c r) : (d = 1 ∧ 2 * n ≤ c) ∨ (d = 2 ∧ 2 * n ≤ c) ∨ (d = 3 ∧ 2 * n ≤ r) ∨ (d = 4 ∧ 2 * n ≤ r) := by
  have h1 := h.d1; have h4 := h.d4; have hs := h.side
  by_cases e : d ≤ 2
  · rw [if_pos e] at hs; omega
  · rw [if_neg e] at hs; omega

theorem toPc_turned {d n c r : Int} (h : 1 ≤ d ∧ d ≤ 4) (p : Rp) : toPc (turnedM d n c r p) = flipP (upM d) (toPc p) := by
  obtain rfl | rfl | rfl | rfl : d = 1 ∨ d = 2 ∨ d = 3 ∨ d = 4 := by omega
  all_goals simp [toPc, turnedM, flipP, upM]
theorem toPc_shift (d n : Int) (p : Rp) : toPc (shiftM d n p) = toPc p := by unfold shiftM toPc; split <;> (try split) <;> rfl

theorem step_in {d n c r : Int} {u : Bool} (h : Can d n c r) {l : List Rp} (hl : InR c r l) : InR (newC d n c) (newR d n r) (stepR d n u c r l) := by
  intro p hp
  obtain ⟨q, hq, rfl⟩ := List.mem_map.1 hp
  have n1 := h.n1
  have hq : q ∈ restM d n c r l ∨ q ∈ overM d n c r l := by
    unfold joinU at hq
    cases u
    · simp at hq; exact hq.symm
    · simpa using hq
  rcases hq with hq | hq
  · obtain ⟨h1, h2⟩ := List.mem_filter.1 hq
    have k := hl q h1
    rcases h.cases with ⟨rfl, e⟩ | ⟨rfl, e⟩ | ⟨rfl, e⟩ | ⟨rfl, e⟩
    all_goals
      simp [movedM] at h2
      simp [shiftM, newC, newR]
      omega
  · obtain ⟨q', h0, rfl⟩ := List.mem_map.1 hq
    obtain ⟨h1, h2⟩ := List.mem_filter.1 h0
    have k := hl q' h1
    rcases h.cases with ⟨rfl, e⟩ | ⟨rfl, e⟩ | ⟨rfl, e⟩ | ⟨rfl, e⟩
    all_goals
      simp [movedM] at h2
      simp [shiftM, turnedM, newC, newR]
      omega

theorem pile_rest {d n c r : Int} (h : Can d n c r) {l : List Rp} {x y : Int} (hx : 0 ≤ x ∧ x < newC d n c) (hy : 0 ≤ y ∧ y < newR d n r) : (restM d n c r l).filter (atB (backX d n x) (backY d n y)) = l.filter (atB (backX d n x) (backY d n y)) := by
  unfold restM
  rw [filter_comm, List.filter_eq_self]
  intro p hp
  obtain ⟨_, h2⟩ := List.mem_filter.1 hp
  simp [atB] at h2
  rcases h.cases with ⟨rfl, e⟩ | ⟨rfl, e⟩ | ⟨rfl, e⟩ | ⟨rfl, e⟩
  all_goals
    simp [backX, backY] at h2
    simp [newC, newR] at hx hy
    simp [movedM]
    omega
theorem pile_over {d n c r : Int} (h : Can d n c r) {l : List Rp} (hl : InR c r l) {x y : Int} (hx : 0 ≤ x ∧ x < newC d n c) (hy : 0 ≤ y ∧ y < newR d n r) :
    (overM d n c r l).filter (atB (backX d n x) (backY d n y)) = (l.filter (atB (reflX d n c (backX d n x)) (reflY d n r (backY d n y)))).map (turnedM d n c r) := by
  unfold overM
  rw [filter_map_at (x' := reflX d n c (backX d n x)) (y' := reflY d n r (backY d n y)), filter_comm]
  · congr 1
    rw [List.filter_eq_self]
    intro p hp
    obtain ⟨h1, h2⟩ := List.mem_filter.1 hp
    have k := hl p h1
    simp [atB] at h2
    rcases h.cases with ⟨rfl, e⟩ | ⟨rfl, e⟩ | ⟨rfl, e⟩ | ⟨rfl, e⟩
    all_goals
      simp [backX, backY, reflX, reflY] at h2
      simp [newC, newR] at hx hy
      simp [movedM]
      omega
  · intro p hp
    rw [Bool.eq_iff_iff]
    rcases h.cases with ⟨rfl, e⟩ | ⟨rfl, e⟩ | ⟨rfl, e⟩ | ⟨rfl, e⟩
    all_goals
      simp [atB, turnedM, reflX, reflY, backX, backY]
      omega

theorem step_piles {d n c r : Int} {u : Bool} (h : Can d n c r) {l : List Rp} (hl : InR c r l) {x y : Int} (hx : 0 ≤ x ∧ x < newC d n c) (hy : 0 ≤ y ∧ y < newR d n r) : pileL (stepR d n u c r l) x y = foldPl d n u c r (pileL l) x y := by
  have hs : ∀ q : Rp, atB x y (shiftM d n q) = atB (backX d n x) (backY d n y) q := by
    intro q
    rw [Bool.eq_iff_iff]
    rcases h.cases with ⟨rfl, e⟩ | ⟨rfl, e⟩ | ⟨rfl, e⟩ | ⟨rfl, e⟩
    all_goals
      simp [atB, shiftM, backX, backY]
      try omega
  have hd : 1 ≤ d ∧ d ≤ 4 := ⟨h.d1, h.d4⟩
  have e1 : pileL (stepR d n u c r l) x y = ((joinU u (restM d n c r l) (overM d n c r l).reverse).filter (atB (backX d n x) (backY d n y))).map toPc := by
    unfold pileL stepR
    rw [filter_map_at (fun p _ => hs p), List.map_map]
    congr 1
    funext p
    exact toPc_shift d n p
  have e2 : (joinU u (restM d n c r l) (overM d n c r l).reverse).filter (atB (backX d n x) (backY d n y)) = joinU u (l.filter (atB (backX d n x) (backY d n y))) ((l.filter (atB (reflX d n c (backX d n x)) (reflY d n r (backY d n y)))).map (turnedM d n c r)).reverse := by
    unfold joinU
    cases u
    · simp only [Bool.false_eq_true, if_false, List.filter_append, List.filter_reverse, pile_rest h hx hy, pile_over h hl hx hy]
    · simp only [if_true, List.filter_append, List.filter_reverse, pile_rest h hx hy, pile_over h hl hx hy]
  have e3 : ∀ m : List Rp, (m.map (turnedM d n c r)).map toPc = (m.map toPc).map (flipP (upM d)) := fun m => by
    rw [List.map_map, List.map_map]
    congr 1
    funext p
    exact toPc_turned hd p
  rw [e1, e2]
  unfold foldPl
  split
  · unfold joinU pileL
    cases u <;> simp only [Bool.false_eq_true, if_false, if_true, List.map_append, List.map_reverse, e3]
  · rename_i hout
    have e4 : l.filter (atB (reflX d n c (backX d n x)) (reflY d n r (backY d n y))) = [] := by
      rw [List.filter_eq_nil_iff]
      intro p hp ha
      have k := hl p hp
      simp [atB] at ha
      exact hout ⟨by omega, by omega⟩
    rw [e4]
    unfold joinU pileL
    cases u <;> simp
end Go.Proofs.Ytnofncibplgmpaa
