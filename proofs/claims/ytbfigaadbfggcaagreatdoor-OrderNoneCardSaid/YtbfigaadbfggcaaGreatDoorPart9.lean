/- Part 9 of the texts that the proofs of this seat share: UnfoldMath, UnfoldSheet, UnfoldFolded, Panels, UnfoldPerm. -/
import Derived.Test.YtbfigaadbfggcaaGreatDoorPart7
import Derived.Test.YtbfigaadbfggcaaGreatDoorPart5
import Derived.Test.YtbfigaadbfggcaaGreatDoorPart1
import Derived.Test.YtbfigaadbfggcaaGreatDoorPart8
import Derived.Test.YtbfigaadbfggcaaGreatDoorProg
import Derived.Test.YtbfigaadbfggcaaGreatDoorPart4
import Derived.Laws.MakeOwn
/- Plain facts of folding: panels in one row, turned over by steps; which of them lie at each place. -/
namespace Go.Proofs.YtbfigaadbfggcaaGreatDoor
set_option linter.unusedVariables false

/-- A panel: where it is, and how it lies. -/
structure Rp where
  n : Int
  col : Int
  row : Int
  fx : Bool
  fy : Bool
deriving DecidableEq, Inhabited
def toPc (p : Rp) : Pc := ⟨p.n, p.fx, p.fy⟩
/-- Is it on the side that is folded? -/
def movedM (d n c r : Int) (p : Rp) : Bool := if d = 1 then decide (p.col < n) else if d = 2 then decide (c - n ≤ p.col) else if d = 3 then decide (p.row < n) else decide (r - n ≤ p.row)
/-- Turned over. -/
def turnedM (d n c r : Int) (p : Rp) : Rp :=
  if d = 1 then ⟨p.n, 2 * n - 1 - p.col, p.row, !p.fx, p.fy⟩ else if d = 2 then ⟨p.n, 2 * (c - n) - 1 - p.col, p.row, !p.fx, p.fy⟩
  else if d = 3 then ⟨p.n, p.col, 2 * n - 1 - p.row, p.fx, !p.fy⟩ else ⟨p.n, p.col, 2 * (r - n) - 1 - p.row, p.fx, !p.fy⟩
def shiftM (d n : Int) (p : Rp) : Rp := if d = 1 then ⟨p.n, p.col - n, p.row, p.fx, p.fy⟩ else if d = 3 then ⟨p.n, p.col, p.row - n, p.fx, p.fy⟩ else p
def overM (d n c r : Int) (l : List Rp) : List Rp := (l.filter (movedM d n c r)).map (turnedM d n c r)
def restM (d n c r : Int) (l : List Rp) : List Rp := l.filter fun p => !movedM d n c r p
def joinU {α : Type} (u : Bool) (rest over : List α) : List α := if u = true then rest ++ over else over ++ rest
/-- All panels behind a step. -/
def stepR (d n : Int) (u : Bool) (c r : Int) (l : List Rp) : List Rp := (joinU u (restM d n c r l) (overM d n c r l).reverse).map (shiftM d n)

/-- The panels that lie at a place, as pieces. -/
def atB (x y : Int) (p : Rp) : Bool := decide (p.col = x) && decide (p.row = y)
def pileL (l : List Rp) (x y : Int) : List Pc := (l.filter (atB x y)).map toPc
/-- All panels lie on the sheet. -/
def InR (c r : Int) (l : List Rp) : Prop := ∀ p ∈ l, (0 ≤ p.col ∧ p.col < c) ∧ 0 ≤ p.row ∧ p.row < r
def upM (d : Int) : Bool := decide (d = 1) || decide (d = 2)

theorem step_length (d n : Int) (u : Bool) (c r : Int) (l : List Rp) : (stepR d n u c r l).length = l.length := by
  unfold stepR joinU overM restM
  have : (l.filter (movedM d n c r)).length + (l.filter fun p => !movedM d n c r p).length = l.length := by
    induction l with
    | nil => rfl
    | cons p l ih => cases h : movedM d n c r p <;> simp [h] <;> omega
  cases u <;> simp <;> omega

theorem pile_length (l : List Rp) (x y : Int) : (pileL l x y).length ≤ l.length := by unfold pileL; rw [List.length_map]; exact List.length_filter_le _ _

/-- Where the place of the rest was. -/
def backX (d n : Int) (x : Int) : Int := if d = 1 then x + n else x
def backY (d n : Int) (y : Int) : Int := if d = 3 then y + n else y
/-- The place at the other side of the line. -/
def reflX (d n c : Int) (x : Int) : Int := if d = 1 then 2 * n - 1 - x else if d = 2 then 2 * (c - n) - 1 - x else x
def reflY (d n r : Int) (y : Int) : Int := if d = 3 then 2 * n - 1 - y else if d = 1 ∨ d = 2 then y else 2 * (r - n) - 1 - y

theorem filter_map_at {f : Rp → Rp} {x y x' y' : Int} {l : List Rp} (h : ∀ p ∈ l, atB x y (f p) = atB x' y' p) : (l.map f).filter (atB x y) = (l.filter (atB x' y')).map f := by
  induction l with
  | nil => rfl
  | cons p l ih =>
    have hp := h p (by simp)
    have ih := ih fun q hq => h q (List.mem_cons_of_mem _ hq)
    rw [List.map_cons, List.filter_cons, hp, List.filter_cons, ih]
    cases atB x' y' p <;> simp
theorem filter_comm {α : Type} (p q : α → Bool) (l : List α) : (l.filter p).filter q = (l.filter q).filter p := by
  rw [List.filter_filter, List.filter_filter]
  congr 1
  funext a
  exact Bool.and_comm _ _

/-- Which panels lie at a place behind a step. -/
def foldPl (d n : Int) (u : Bool) (c r : Int) (P : Int → Int → List Pc) (x y : Int) : List Pc :=
  if (0 ≤ reflX d n c (backX d n x) ∧ reflX d n c (backX d n x) < c) ∧ 0 ≤ reflY d n r (backY d n y) ∧ reflY d n r (backY d n y) < r then joinU u (P (backX d n x) (backY d n y)) ((P (reflX d n c (backX d n x)) (reflY d n r (backY d n y))).reverse.map (flipP (upM d)))
  else P (backX d n x) (backY d n y)

/-- A step that can be done on c by r panels. -/
structure Can (d n c r : Int) : Prop where
  d1 : 1 ≤ d
  d4 : d ≤ 4
  n1 : 1 ≤ n
  c1 : 1 ≤ c
  r1 : 1 ≤ r
  side : if d ≤ 2 then 2 * n ≤ c else 2 * n ≤ r
def newC (d n c : Int) : Int := if d ≤ 2 then c - n else c
def newR (d n r : Int) : Int := if d ≤ 2 then r else r - n

theorem Can.cases {d n c r : Int} (h : Can d n c r) : (d = 1 ∧ 2 * n ≤ c) ∨ (d = 2 ∧ 2 * n ≤ c) ∨ (d = 3 ∧ 2 * n ≤ r) ∨ (d = 4 ∧ 2 * n ≤ r) := by
  have h1 := h.d1; have h4 := h.d4; have hs := h.side
  by_cases e : d ≤ 2
  · rw [if_pos e] at hs; omega
  · rw [if_neg e] at hs; omega

theorem toPc_turned {d n c r : Int} (h : 1 ≤ d ∧ d ≤ 4) (p : Rp) : toPc (turnedM d n c r p) = flipP (upM d) (toPc p) := by
  obtain rfl | rfl | rfl | rfl : d = 1 ∨ d = 2 ∨ d = 3 ∨ d = 4 := by omega
  all_goals simp [toPc, turnedM, flipP, upM]
theorem toPc_shift (d n : Int) (p : Rp) : toPc (shiftM d n p) = toPc p := by unfold shiftM toPc; split <;> (try split) <;> rfl

theorem step_in {d n c r : Int} {u : Bool} (h : Can d n c r) {l : List Rp} (hl : InR c r l) : InR (newC d n c) (newR d n r) (stepR d n u c r l) := by
  intro p hp
  obtain ⟨q, hq, rfl⟩ := List.mem_map.1 hp
  have n1 := h.n1
  have hq : q ∈ restM d n c r l ∨ q ∈ overM d n c r l := by
    unfold joinU at hq
    cases u
    · simp at hq; exact hq.symm
    · simpa using hq
  rcases hq with hq | hq
  · obtain ⟨h1, h2⟩ := List.mem_filter.1 hq
    have k := hl q h1
    rcases h.cases with ⟨rfl, e⟩ | ⟨rfl, e⟩ | ⟨rfl, e⟩ | ⟨rfl, e⟩
    all_goals
      simp [movedM] at h2
      simp [shiftM, newC, newR]
      omega
  · obtain ⟨q', h0, rfl⟩ := List.mem_map.1 hq
    obtain ⟨h1, h2⟩ := List.mem_filter.1 h0
    have k := hl q' h1
    rcases h.cases with ⟨rfl, e⟩ | ⟨rfl, e⟩ | ⟨rfl, e⟩ | ⟨rfl, e⟩
    all_goals
      simp [movedM] at h2
      simp [shiftM, turnedM, newC, newR]
      omega

theorem pile_rest {d n c r : Int} (h : Can d n c r) {l : List Rp} {x y : Int} (hx : 0 ≤ x ∧ x < newC d n c) (hy : 0 ≤ y ∧ y < newR d n r) : (restM d n c r l).filter (atB (backX d n x) (backY d n y)) = l.filter (atB (backX d n x) (backY d n y)) := by
  unfold restM
  rw [filter_comm, List.filter_eq_self]
  intro p hp
  obtain ⟨_, h2⟩ := List.mem_filter.1 hp
  simp [atB] at h2
  rcases h.cases with ⟨rfl, e⟩ | ⟨rfl, e⟩ | ⟨rfl, e⟩ | ⟨rfl, e⟩
  all_goals
    simp [backX, backY] at h2
    simp [newC, newR] at hx hy
    simp [movedM]
    omega
theorem pile_over {d n c r : Int} (h : Can d n c r) {l : List Rp} (hl : InR c r l) {x y : Int} (hx : 0 ≤ x ∧ x < newC d n c) (hy : 0 ≤ y ∧ y < newR d n r) :
    (overM d n c r l).filter (atB (backX d n x) (backY d n y)) = (l.filter (atB (reflX d n c (backX d n x)) (reflY d n r (backY d n y)))).map (turnedM d n c r) := by
  unfold overM
  rw [filter_map_at (x' := reflX d n c (backX d n x)) (y' := reflY d n r (backY d n y)), filter_comm]
  · congr 1
    rw [List.filter_eq_self]
    intro p hp
    obtain ⟨h1, h2⟩ := List.mem_filter.1 hp
    have k := hl p h1
    simp [atB] at h2
    rcases h.cases with ⟨rfl, e⟩ | ⟨rfl, e⟩ | ⟨rfl, e⟩ | ⟨rfl, e⟩
    all_goals
      simp [backX, backY, reflX, reflY] at h2
      simp [newC, newR] at hx hy
      simp [movedM]
      omega
  · intro p hp
    rw [Bool.eq_iff_iff]
    rcases h.cases with ⟨rfl, e⟩ | ⟨rfl, e⟩ | ⟨rfl, e⟩ | ⟨rfl, e⟩
    all_goals
      simp [atB, turnedM, reflX, reflY, backX, backY]
      omega

theorem step_piles {d n c r : Int} {u : Bool} (h : Can d n c r) {l : List Rp} (hl : InR c r l) {x y : Int} (hx : 0 ≤ x ∧ x < newC d n c) (hy : 0 ≤ y ∧ y < newR d n r) : pileL (stepR d n u c r l) x y = foldPl d n u c r (pileL l) x y := by
  have hs : ∀ q : Rp, atB x y (shiftM d n q) = atB (backX d n x) (backY d n y) q := by
    intro q
    rw [Bool.eq_iff_iff]
    rcases h.cases with ⟨rfl, e⟩ | ⟨rfl, e⟩ | ⟨rfl, e⟩ | ⟨rfl, e⟩
    all_goals
      simp [atB, shiftM, backX, backY]
      try omega
  have hd : 1 ≤ d ∧ d ≤ 4 := ⟨h.d1, h.d4⟩
  have e1 : pileL (stepR d n u c r l) x y = ((joinU u (restM d n c r l) (overM d n c r l).reverse).filter (atB (backX d n x) (backY d n y))).map toPc := by
    unfold pileL stepR
    rw [filter_map_at (fun p _ => hs p), List.map_map]
    congr 1
    funext p
    exact toPc_shift d n p
  have e2 : (joinU u (restM d n c r l) (overM d n c r l).reverse).filter (atB (backX d n x) (backY d n y)) = joinU u (l.filter (atB (backX d n x) (backY d n y))) ((l.filter (atB (reflX d n c (backX d n x)) (reflY d n r (backY d n y)))).map (turnedM d n c r)).reverse := by
    unfold joinU
    cases u
    · simp only [Bool.false_eq_true, if_false, List.filter_append, List.filter_reverse, pile_rest h hx hy, pile_over h hl hx hy]
    · simp only [if_true, List.filter_append, List.filter_reverse, pile_rest h hx hy, pile_over h hl hx hy]
  have e3 : ∀ m : List Rp, (m.map (turnedM d n c r)).map toPc = (m.map toPc).map (flipP (upM d)) := fun m => by
    rw [List.map_map, List.map_map]
    congr 1
    funext p
    exact toPc_turned hd p
  rw [e1, e2]
  unfold foldPl
  split
  · unfold joinU pileL
    cases u <;> simp only [Bool.false_eq_true, if_false, if_true, List.map_append, List.map_reverse, e3]
  · rename_i hout
    have e4 : l.filter (atB (reflX d n c (backX d n x)) (reflY d n r (backY d n y))) = [] := by
      rw [List.filter_eq_nil_iff]
      intro p hp ha
      have k := hl p hp
      simp [atB] at ha
      exact hout ⟨by omega, by omega⟩
    rw [e4]
    unfold joinU pileL
    cases u <;> simp
end Go.Proofs.YtbfigaadbfggcaaGreatDoor
/- A sheet of piles, told by what lies at each place: what unfold.flat answers, and what unfold.after makes of one. -/
namespace Go.Proofs.YtbfigaadbfggcaaGreatDoor
open Go.RowKit
set_option linter.unusedVariables false

/-- A sheet: at each place a pile, each in memory of its own. -/
def Sheet (w : World) (base G : Nat) (c r : Int) (P : Int → Int → List Pc) : Prop :=
  ∃ (A : Nat) (L : List Ptr) (bk : Nat → Nat) (R : Nat → Nat) (S : Nat → List Pc), Gs w G A c r L ∧ (∀ k, k < L.length → L[k]? = some (ptrD (bk k))) ∧ (∀ i j, i < L.length → j < L.length → bk i = bk j → i = j) ∧ Decks w base (fun D => ∃ k, k < L.length ∧ D = bk k) R S ∧ ∀ x y, (0 ≤ x ∧ x < c) → (0 ≤ y ∧ y < r) → S (bk (y * c + x).toNat) = P x y
theorem Sheet.up {w w' : World} {base G : Nat} {c r : Int} {P : Int → Int → List Pc} (h : Sheet w base G c r P) (hb : Below w.heap.size w w') : Sheet w' base G c r P := by
  obtain ⟨A, L, bk, R, S, h1, h2, h3, h4, h5⟩ := h
  exact ⟨A, L, bk, R, S, h1.up hb, h2, h3, h4.up hb, h5⟩
theorem Sheet.sides {w : World} {base G : Nat} {c r : Int} {P : Int → Int → List Pc} (h : Sheet w base G c r P) : (1 ≤ c ∧ c ≤ 64) ∧ 1 ≤ r ∧ r ≤ 64 := by
  obtain ⟨A, L, bk, R, S, h1, _⟩ := h
  exact ⟨⟨h1.c1, h1.c64⟩, h1.r1, h1.r64⟩
theorem Sheet.piles {w : World} {base G : Nat} {c r : Int} {P Q : Int → Int → List Pc} (h : Sheet w base G c r P) (hq : ∀ x y, (0 ≤ x ∧ x < c) → (0 ≤ y ∧ y < r) → P x y = Q x y) : Sheet w base G c r Q := by
  obtain ⟨A, L, bk, R, S, h1, h2, h3, h4, h5⟩ := h
  exact ⟨A, L, bk, R, S, h1, h2, h3, h4, fun x y hx hy => (h5 x y hx hy).trans (hq x y hx hy)⟩

theorem idx_lt {c r x y : Int} (hx : 0 ≤ x ∧ x < c) (hy : 0 ≤ y ∧ y < r) : 0 ≤ y * c + x ∧ y * c + x < c * r := place_lt (by omega) hx.1 hx.2 hy.1 hy.2
theorem idx_inj {c x y x' y' : Int} (hx : 0 ≤ x ∧ x < c) (hy : 0 ≤ y) (hx' : 0 ≤ x' ∧ x' < c) (hy' : 0 ≤ y') (h : (y * c + x).toNat = (y' * c + x').toNat) : x = x' ∧ y = y' := by
  have h0 : 0 ≤ y * c := Int.mul_nonneg hy (by omega)
  have h1 : 0 ≤ y' * c := Int.mul_nonneg hy' (by omega)
  have h : y * c + x = y' * c + x' := by omega
  obtain ⟨a1, a2⟩ := td y x c hy hx.1 hx.2
  obtain ⟨b1, b2⟩ := td y' x' c hy' hx'.1 hx'.2
  rw [h] at a1 a2
  exact ⟨a2.symm.trans b2, a1.symm.trans b1⟩

theorem sheet_flat {w w' : World} {c r : Int} {e : Ending} (h : FlatP w c r e w') : ∃ G, e = .returned (.pointer (some ⟨G, 0, none⟩)) ∧ Sheet w' w.heap.size G c r (fun x y => [⟨y * c + x, false, false⟩]) ∧ Below w.heap.size w w' := by
  obtain ⟨G, A, ds, R, S, rfl, h1, h2, h3, h4, h5, _, _, h6⟩ := h
  have hk : ∀ k, k < (ds.map ptrD).length → ds[k]? = some (ds[k]?.getD 0) := fun k hk => by
    rw [List.length_map] at hk
    rw [List.getElem?_eq_getElem hk]
    rfl
  refine ⟨G, rfl, ⟨A, ds.map ptrD, fun k => ds[k]?.getD 0, R, S, h5, fun k hk' => ?_, fun i j hi hj hij => ?_, h3.sub ?_, fun x y hx hy => ?_⟩, h6⟩
  · rw [List.getElem?_map, hk k hk']
    rfl
  · have e1 := hk i hi
    simp only at hij
    rw [hij] at e1
    rw [List.length_map] at hi hj
    rw [List.getElem?_eq_getElem hi, List.getElem?_eq_getElem hj, Option.some.injEq] at e1
    have e : ds[i] = ds[j] := e1
    rw [List.nodup_iff_pairwise_ne, List.pairwise_iff_getElem] at h2
    rcases Nat.lt_trichotomy i j with h | h | h
    · exact absurd e (h2 i j hi hj h)
    · exact h
    · exact absurd e.symm (h2 j i hj hi h)
  · rintro D ⟨k, hk', rfl⟩
    exact List.mem_of_getElem? (hk k hk')
  · have hl := idx_lt hx hy
    have hlt : (y * c + x).toNat < (ds.map ptrD).length := by rw [List.length_map]; omega
    rw [h4 _ _ (hk _ hlt)]
    congr 2
    omega

/-- How a fold parts a sheet, in numbers. -/
structure CutOk (K : Cut) (d n c r : Int) : Prop where
  f1 : 0 ≤ K.fx ∧ 1 ≤ K.fc ∧ K.fx + K.fc ≤ c
  f2 : 0 ≤ K.fy ∧ 1 ≤ K.fr ∧ K.fy + K.fr ≤ r
  r1 : 0 ≤ K.rx ∧ 1 ≤ K.rc ∧ K.rx + K.rc ≤ c
  r2 : 0 ≤ K.ry ∧ 1 ≤ K.rr ∧ K.ry + K.rr ≤ r
  x1 : 0 ≤ K.x ∧ K.x + K.fc ≤ K.rc
  y1 : 0 ≤ K.y ∧ K.y + K.fr ≤ K.rr
  apart : (K.fx + K.fc ≤ K.rx ∨ K.rx + K.rc ≤ K.fx) ∨ K.fy + K.fr ≤ K.ry ∨ K.ry + K.rr ≤ K.fy
  new : K.rc = newC d n c ∧ K.rr = newR d n r
  back : ∀ X Y, backX d n X = K.rx + X ∧ backY d n Y = K.ry + Y
def flapX (up : Bool) (K : Cut) (px : Int) : Int := if up = true then K.fx + K.fc - 1 - px else K.fx + px
def flapY (up : Bool) (K : Cut) (py : Int) : Int := if up = true then K.fy + py else K.fy + K.fr - 1 - py
theorem cut_ok {d n c r : Int} (h : Can d n c r) : CutOk (cutOf d n c r) d n c r := by
  have n1 := h.n1; have c1 := h.c1; have r1 := h.r1
  rcases h.cases with ⟨rfl, e⟩ | ⟨rfl, e⟩ | ⟨rfl, e⟩ | ⟨rfl, e⟩
  all_goals
    simp only [cutOf, if_true, if_false, show (2 : Int) = 1 ↔ False by decide, show (3 : Int) = 1 ↔ False by decide, show (3 : Int) = 2 ↔ False by decide, show (4 : Int) = 1 ↔ False by decide, show (4 : Int) = 2 ↔ False by decide, show (4 : Int) = 3 ↔ False by decide]
    refine ⟨?_, ?_, ?_, ?_, ?_, ?_, ?_, ?_, fun X Y => ?_⟩
    all_goals
      simp [newC, newR, backX, backY]
      try omega
theorem cut_refl {d n c r : Int} (h : Can d n c r) {X Y : Int} (hX : 0 ≤ X ∧ X < newC d n c) (hY : 0 ≤ Y ∧ Y < newR d n r) :
    (((cutOf d n c r).x ≤ X ∧ X < (cutOf d n c r).x + (cutOf d n c r).fc) ∧ (cutOf d n c r).y ≤ Y ∧ Y < (cutOf d n c r).y + (cutOf d n c r).fr ↔ (0 ≤ reflX d n c (backX d n X) ∧ reflX d n c (backX d n X) < c) ∧ 0 ≤ reflY d n r (backY d n Y) ∧ reflY d n r (backY d n Y) < r) ∧
      flapX (upM d) (cutOf d n c r) (X - (cutOf d n c r).x) = reflX d n c (backX d n X) ∧ flapY (upM d) (cutOf d n c r) (Y - (cutOf d n c r).y) = reflY d n r (backY d n Y) := by
  have n1 := h.n1; have c1 := h.c1; have r1 := h.r1
  rcases h.cases with ⟨rfl, e⟩ | ⟨rfl, e⟩ | ⟨rfl, e⟩ | ⟨rfl, e⟩
  all_goals
    simp [newC, newR] at hX hY
    simp [cutOf, reflX, reflY, backX, backY, flapX, flapY, upM]
    omega

/-- Each pile of the flap comes upon one of the rest; no other one changes. -/
theorem runS_upto {m : Nat} {under up : Bool} {tb hb : Ix m → Nat} {S : Nat → List Pc} (hap : ∀ k j, tb k ≠ hb j) (ht : ∀ k j, tb k = tb j → k = j) (hh : ∀ k j, hb k = hb j → k = j) : ∀ n, n ≤ m →
    (∀ k : Ix m, runS under up tb hb (ixs m n) S (hb k) = if k.1 < n then joinU under (S (hb k)) ((S (tb k)).reverse.map (flipP up)) else S (hb k)) ∧ (∀ k : Ix m, n ≤ k.1 → runS under up tb hb (ixs m n) S (tb k) = S (tb k)) ∧ ∀ D, (∀ k, D ≠ tb k) → (∀ k, D ≠ hb k) → runS under up tb hb (ixs m n) S D = S D := by
  intro n
  induction n with
  | zero => intro _; exact ⟨fun k => by simp [ixs, runS], fun k _ => rfl, fun D _ _ => rfl⟩
  | succ n ih =>
    intro hn
    obtain ⟨h1, h2, h3⟩ := ih (by omega)
    rw [ixs_succ (by omega), runS_snoc]
    generalize runS under up tb hb (ixs m n) S = S' at *
    have hk0 : ∀ k : Ix m, k.1 ≠ n → k ≠ ⟨n, by omega⟩ := fun k h e => h (by rw [e])
    have e0 := h1 ⟨n, by omega⟩
    rw [if_neg (Nat.lt_irrefl n)] at e0
    refine ⟨fun k => ?_, fun k hk => ?_, fun D hD1 hD2 => ?_⟩
    · by_cases e : k.1 = n
      · obtain ⟨k, hk⟩ := k
        simp only at e
        subst e
        rw [if_pos (Nat.lt_succ_self k)]
        unfold stepS
        rw [putS_at, e0, h2 ⟨k, hk⟩ (Nat.le_refl k)]
        rfl
      · rw [stepS_far (fun e' => hap _ _ e'.symm) (fun e' => hk0 k e (hh _ _ e')), h1 k]
        by_cases e2 : k.1 < n
        · rw [if_pos e2, if_pos (by omega)]
        · rw [if_neg e2, if_neg (by omega)]
    · have e : k.1 ≠ n := by omega
      rw [stepS_far (fun e' => hk0 k e (ht _ _ e')) (hap _ _)]
      exact h2 k (by omega)
    · rw [stepS_far (hD1 _) (hD2 _)]
      exact h3 D hD1 hD2

theorem wantPs_at {c col row pc pr : Int} {l : List Ptr} {x y : Int} (hx : 0 ≤ x ∧ x < pc) (hy : 0 ≤ y ∧ y < pr) : (wantPs c col row pc pr l)[(y * pc + x).toNat]? = some (l[((row + y) * c + col + x).toNat]?.getD none) := by
  have hl := idx_lt hx hy
  obtain ⟨t1, t2⟩ := td y x pc hy.1 hx.1 hx.2
  unfold wantPs
  rw [List.getElem?_map, List.getElem?_range (by omega)]
  simp only [Option.map_some, srcP]
  rw [show (((y * pc + x).toNat : Nat) : Int) = y * pc + x by omega, t1, t2]
theorem wantMs_at {up : Bool} {c r : Int} {l : List Ptr} {x y : Int} (hx : 0 ≤ x ∧ x < c) (hy : 0 ≤ y ∧ y < r) : (wantMs up c r l)[(y * c + x).toNat]? = some (l[((if up = true then y else r - 1 - y) * c + (if up = true then c - 1 - x else x)).toNat]?.getD none) := by
  have hl := idx_lt hx hy
  obtain ⟨t1, t2⟩ := td y x c hy.1 hx.1 hx.2
  unfold wantMs
  rw [List.getElem?_map, List.getElem?_range (by omega)]
  simp only [Option.map_some, srcM]
  rw [show (((y * c + x).toNat : Nat) : Int) = y * c + x by omega, t1, t2]
  cases up <;> simp
theorem flap_at {up : Bool} {K : Cut} {d n c r : Int} (hK : CutOk K d n c r) {L : List Ptr} {bk : Nat → Nat} (hl : (L.length : Int) = c * r) (hb : ∀ k, k < L.length → L[k]? = some (ptrD (bk k))) {x y : Int} (hx : 0 ≤ x ∧ x < K.fc) (hy : 0 ≤ y ∧ y < K.fr) :
    (wantMs up K.fc K.fr (wantPs c K.fx K.fy K.fc K.fr L))[(y * K.fc + x).toNat]? = some (ptrD (bk (flapY up K y * c + flapX up K x).toNat)) := by
  have h1 := hK.f1; have h2 := hK.f2
  rw [wantMs_at hx hy]
  have hx' : 0 ≤ (if up = true then K.fc - 1 - x else x) ∧ (if up = true then K.fc - 1 - x else x) < K.fc := by split <;> omega
  have hy' : 0 ≤ (if up = true then y else K.fr - 1 - y) ∧ (if up = true then y else K.fr - 1 - y) < K.fr := by split <;> omega
  rw [wantPs_at hx' hy']
  have hi := idx_lt (c := c) (r := r) (x := K.fx + (if up = true then K.fc - 1 - x else x)) (y := K.fy + (if up = true then y else K.fr - 1 - y)) (by omega) (by omega)
  rw [Int.add_assoc, hb _ (by omega)]
  simp only [Option.getD_some]
  congr 4
  cases up
  · simp only [flapX, flapY, Bool.false_eq_true, if_false]
    congr 2
    omega
  · simp only [flapX, flapY, if_true]
    omega
theorem rest_at {K : Cut} {d n c r : Int} (hK : CutOk K d n c r) {L : List Ptr} {bk : Nat → Nat} (hl : (L.length : Int) = c * r) (hb : ∀ k, k < L.length → L[k]? = some (ptrD (bk k))) {x y : Int} (hx : 0 ≤ x ∧ x < K.rc) (hy : 0 ≤ y ∧ y < K.rr) :
    (wantPs c K.rx K.ry K.rc K.rr L)[(y * K.rc + x).toNat]? = some (ptrD (bk ((K.ry + y) * c + (K.rx + x)).toNat)) := by
  have h1 := hK.r1; have h2 := hK.r2
  rw [wantPs_at hx hy]
  have hi := idx_lt (c := c) (r := r) (x := K.rx + x) (y := K.ry + y) (by omega) (by omega)
  rw [Int.add_assoc, hb _ (by omega)]
  rfl

theorem parted_any {w : World} {G A : Nat} {c r : Int} {L : List Ptr} (h : Gs w G A c r L) {d n : Int} (u : Bool) (hc : Can d n c r) :
    Calls Tryz.prog 106 #[.pointer (some ⟨G, 0, none⟩), .agg #[.int .i64 d, .int .i64 n, .bool u]] w (PartedP w c L (cutOf d n c r)) := by
  rcases hc.cases with ⟨rfl, e⟩ | ⟨rfl, e⟩ | ⟨rfl, e⟩ | ⟨rfl, e⟩
  · exact parted_left h n u hc.n1 e
  · exact parted_right h n u hc.n1 e
  · exact parted_foot h n u hc.n1 e
  · exact parted_head h n u hc.n1 e

set_option maxHeartbeats 2000000 in
theorem sheet_after {w : World} {base G : Nat} {c r : Int} {P : Int → Int → List Pc} (h : Sheet w base G c r P) {d n : Int} (hc : Can d n c r) (u : Bool) (hlen : ∀ x y, (0 ≤ x ∧ x < c) → (0 ≤ y ∧ y < r) → (P x y).length ≤ 64) (hbase : base ≤ w.heap.size) :
    Calls Tryz.prog 88 #[.pointer (some ⟨G, 0, none⟩), .agg #[.int .i64 d, .int .i64 n, .bool u]] w fun e w' => ∃ G', e = .returned (.pointer (some ⟨G', 0, none⟩)) ∧ Sheet w' base G' (newC d n c) (newR d n r) (foldPl d n u c r P) ∧ Below base w w' := by
  obtain ⟨A, L, bk, R, S, hG, hL, hinj, hD, hP⟩ := h
  have hl := hG.len
  have hc64 := hG.c64; have hr64 := hG.r64
  have hK := cut_ok hc
  have href := fun {X Y : Int} => cut_refl (X := X) (Y := Y) hc
  have KP := fun (w' : World) (hb : Below w.heap.size w w') => parted_any (hG.up hb) u hc
  have hnew := hK.new
  have hbk := hK.back
  obtain ⟨K, hKd⟩ : ∃ K, cutOf d n c r = K := ⟨_, rfl⟩
  rw [hKd] at hK KP hnew hbk
  simp only [hKd] at href
  obtain ⟨up, hup⟩ : ∃ up, upM d = up := ⟨_, rfl⟩
  rw [hup] at href
  have f1 := hK.f1; have f2 := hK.f2; have r1 := hK.r1; have r2 := hK.r2; have x1 := hK.x1; have y1 := hK.y1; have hap := hK.apart
  obtain ⟨F, hF⟩ : ∃ F, wantMs up K.fc K.fr (wantPs c K.fx K.fy K.fc K.fr L) = F := ⟨_, rfl⟩
  obtain ⟨LQ, hQ⟩ : ∃ LQ, wantPs c K.rx K.ry K.rc K.rr L = LQ := ⟨_, rfl⟩
  have hfl : F.length = (K.fc * K.fr).toNat := by rw [← hF, wantMs_length]
  have hql : LQ.length = (K.rc * K.rr).toNat := by rw [← hQ, wantPs_length]
  have hfp : 0 ≤ K.fc * K.fr := Int.mul_nonneg (by omega) (by omega)
  have hqp : 0 ≤ K.rc * K.rr := Int.mul_nonneg (by omega) (by omega)
  -- the places of the flap, and those where they come
  have hplace : ∀ k : Ix F.length, ∃ x y : Int, (k.1 : Int).tmod K.fc = x ∧ (k.1 : Int).tdiv K.fc = y ∧ (0 ≤ x ∧ x < K.fc) ∧ (0 ≤ y ∧ y < K.fr) ∧ y * K.fc + x = k.1 := fun k => by
    obtain ⟨x, y, e1, e2, b0, b1, b2, b3, b4⟩ := split_place k.1 K.fc K.fr (by omega) (by have := k.2; omega)
    exact ⟨x, y, e1, e2, ⟨b0, b1⟩, ⟨b2, b3⟩, b4⟩
  have hfx : ∀ {x : Int}, (0 ≤ x ∧ x < K.fc) → K.fx ≤ flapX up K x ∧ flapX up K x < K.fx + K.fc := fun hx => by unfold flapX; split <;> omega
  have hfy : ∀ {y : Int}, (0 ≤ y ∧ y < K.fr) → K.fy ≤ flapY up K y ∧ flapY up K y < K.fy + K.fr := fun hy => by unfold flapY; split <;> omega
  have hfxi : ∀ {x x' : Int}, flapX up K x = flapX up K x' → x = x' := fun h => by unfold flapX at h; split at h <;> omega
  have hfyi : ∀ {y y' : Int}, flapY up K y = flapY up K y' → y = y' := fun h => by unfold flapY at h; split at h <;> omega
  have hin : ∀ {x y x' y' : Int}, (0 ≤ x ∧ x < c) → (0 ≤ y ∧ y < r) → (0 ≤ x' ∧ x' < c) → (0 ≤ y' ∧ y' < r) → bk (y * c + x).toNat = bk (y' * c + x').toNat → x = x' ∧ y = y' := fun hx hy hx' hy' e => by
    have i1 := idx_lt hx hy
    have i2 := idx_lt hx' hy'
    exact idx_inj hx hy.1 hx' hy'.1 (hinj _ _ (by omega) (by omega) e)
  have hM : ∀ {x y : Int}, (0 ≤ x ∧ x < c) → (0 ≤ y ∧ y < r) → ∃ k, k < L.length ∧ bk (y * c + x).toNat = bk k := fun hx hy => ⟨_, by have := idx_lt hx hy; omega, rfl⟩
  obtain ⟨tb, htb⟩ : ∃ tb : Ix F.length → Nat, tb = fun k => bk (flapY up K ((k.1 : Int).tdiv K.fc) * c + flapX up K ((k.1 : Int).tmod K.fc)).toNat := ⟨_, rfl⟩
  obtain ⟨hb, hhb⟩ : ∃ hb : Ix F.length → Nat, hb = fun k => bk ((K.ry + (K.y + (k.1 : Int).tdiv K.fc)) * c + (K.rx + (K.x + (k.1 : Int).tmod K.fc))).toNat := ⟨_, rfl⟩
  have hT : ∀ k : Ix F.length, F[k.1]'k.2 = ptrD (tb k) ∧ ∃ j, j < L.length ∧ tb k = bk j := fun k => by
    obtain ⟨x, y, e1, e2, hx, hy, e3⟩ := hplace k
    have hf := flap_at (up := up) hK hl hL hx hy
    rw [hF, e3, Int.toNat_natCast, List.getElem?_eq_getElem k.2, Option.some.injEq] at hf
    have g1 := hfx hx; have g2 := hfy hy
    rw [htb]
    simp only [e1, e2]
    exact ⟨hf, hM (by omega) (by omega)⟩
  have hH : ∀ k : Ix F.length, hasB K.rc K.rr (K.x + (k.1 : Int).tmod K.fc) (K.y + (k.1 : Int).tdiv K.fc) = true ∧ LQ[at1 K.rc (K.x + (k.1 : Int).tmod K.fc) (K.y + (k.1 : Int).tdiv K.fc)]? = some (ptrD (hb k)) ∧ ∃ j, j < L.length ∧ hb k = bk j := fun k => by
    obtain ⟨x, y, e1, e2, hx, hy, e3⟩ := hplace k
    rw [hhb]
    simp only [e1, e2]
    refine ⟨by simp [hasB]; omega, ?_, hM (by omega) (by omega)⟩
    rw [← hQ]
    exact rest_at hK hl hL (by omega) (by omega)
  have hpart : ∀ k j, tb k ≠ hb j := fun k j e => by
    obtain ⟨x, y, e1, e2, hx, hy, e3⟩ := hplace k
    obtain ⟨x', y', e1', e2', hx', hy', e3'⟩ := hplace j
    have g1 := hfx hx; have g2 := hfy hy
    rw [htb, hhb] at e
    simp only [e1, e2, e1', e2'] at e
    obtain ⟨q1, q2⟩ := hin (by omega) (by omega) (by omega) (by omega) e
    omega
  have hti : ∀ k j, tb k = tb j → k = j := fun k j e => by
    obtain ⟨x, y, e1, e2, hx, hy, e3⟩ := hplace k
    obtain ⟨x', y', e1', e2', hx', hy', e3'⟩ := hplace j
    have g1 := hfx hx; have g2 := hfy hy; have g3 := hfx hx'; have g4 := hfy hy'
    rw [htb] at e
    simp only [e1, e2, e1', e2'] at e
    obtain ⟨q1, q2⟩ := hin (by omega) (by omega) (by omega) (by omega) e
    obtain rfl := hfxi q1
    obtain rfl := hfyi q2
    exact Subtype.ext (by omega)
  have hhi : ∀ k j, hb k = hb j → k = j := fun k j e => by
    obtain ⟨x, y, e1, e2, hx, hy, e3⟩ := hplace k
    obtain ⟨x', y', e1', e2', hx', hy', e3'⟩ := hplace j
    rw [hhb] at e
    simp only [e1, e2, e1', e2'] at e
    obtain ⟨q1, q2⟩ := hin (by omega) (by omega) (by omega) (by omega) e
    obtain rfl : x = x' := by omega
    obtain rfl : y = y' := by omega
    exact Subtype.ext (by omega)
  have hSl : ∀ D, (∃ k, k < L.length ∧ D = bk k) → (S D).length ≤ 64 := by
    rintro D ⟨k, hk, rfl⟩
    obtain ⟨x, y, e1, e2, b0, b1, b2, b3, b4⟩ := split_place k c r hc.c1 (by omega)
    have := hP x y ⟨b0, b1⟩ ⟨b2, b3⟩
    rw [b4, Int.toNat_natCast] at this
    rw [this]
    exact hlen x y ⟨b0, b1⟩ ⟨b2, b3⟩
  have K1 : Calls Tryz.prog 88 #[.pointer (some ⟨G, 0, none⟩), .agg #[.int .i64 d, .int .i64 n, .bool u]] w fun e w' => ∃ Q QA R', e = .returned (.pointer (some ⟨Q, 0, none⟩)) ∧ Gs w' Q QA K.rc K.rr LQ ∧ Decks w' base (fun D => ∃ k, k < L.length ∧ D = bk k) R' (runS u up tb hb (ixs F.length F.length) S) ∧ w.heap.size ≤ Q ∧ w.heap.size ≤ QA ∧ Below base w w' := by
    by_cases hd : d = 1
    · subst hd
      obtain rfl : up = true := by rw [← hup]; rfl
      exact after_one n u K F LQ tb hb KP hF hQ hD hbase hT (by omega) hH hpart hSl
    · exact after_more d n u up K F LQ tb hb (by simpa using hd) (by rw [← hup, Bool.eq_iff_iff]; simp [upM, hd]) KP hF hQ hD hbase hT (by omega) hH hpart hSl
  refine K1.mono ?_
  rintro e w' ⟨Q, QA, R', rfl, hGQ, hD', _, _, hb'⟩
  refine ⟨Q, rfl, ?_, hb'⟩
  rw [← hnew.1, ← hnew.2]
  obtain ⟨u1, u2, u3⟩ := runS_upto (under := u) (up := up) (S := S) hpart hti hhi F.length (Nat.le_refl _)
  have hq : ∀ k, k < LQ.length → ∃ x y : Int, (k : Int).tmod K.rc = x ∧ (k : Int).tdiv K.rc = y ∧ (0 ≤ x ∧ x < K.rc) ∧ (0 ≤ y ∧ y < K.rr) ∧ y * K.rc + x = k := fun k hk => by
    obtain ⟨x, y, e1, e2, b0, b1, b2, b3, b4⟩ := split_place k K.rc K.rr (by omega) (by omega)
    exact ⟨x, y, e1, e2, ⟨b0, b1⟩, ⟨b2, b3⟩, b4⟩
  refine ⟨QA, LQ, fun k => bk ((K.ry + (k : Int).tdiv K.rc) * c + (K.rx + (k : Int).tmod K.rc)).toNat, R', _, hGQ, fun k hk => ?_, fun i j hi hj e => ?_, hD'.sub ?_, fun X Y hX hY => ?_⟩
  · obtain ⟨x, y, e1, e2, hx, hy, e3⟩ := hq k hk
    have hr := rest_at hK hl hL hx hy
    rw [hQ, e3, Int.toNat_natCast] at hr
    simp only [e1, e2]
    exact hr
  · obtain ⟨x, y, e1, e2, hx, hy, e3⟩ := hq i hi
    obtain ⟨x', y', e1', e2', hx', hy', e3'⟩ := hq j hj
    simp only [e1, e2, e1', e2'] at e
    obtain ⟨q1, q2⟩ := hin (by omega) (by omega) (by omega) (by omega) e
    obtain rfl : x = x' := by omega
    obtain rfl : y = y' := by omega
    omega
  · rintro D ⟨k, hk, rfl⟩
    obtain ⟨x, y, e1, e2, hx, hy, e3⟩ := hq k hk
    simp only [e1, e2]
    exact hM (by omega) (by omega)
  · have hi := idx_lt hX hY
    obtain ⟨t1, t2⟩ := td Y X K.rc hY.1 hX.1 hX.2
    have ecast : (((Y * K.rc + X).toNat : Nat) : Int) = Y * K.rc + X := by omega
    simp only [ecast, t1, t2]
    obtain ⟨c1, c2, c3⟩ := href (by rw [← hnew.1]; exact hX) (by rw [← hnew.2]; exact hY)
    have hP0 := hP (K.rx + X) (K.ry + Y) (by omega) (by omega)
    obtain ⟨k1, k2⟩ := hbk X Y
    unfold foldPl
    rw [← c2, ← c3] at c1
    rw [hup, ← c2, ← c3, k1, k2]
    by_cases hin2 : (K.x ≤ X ∧ X < K.x + K.fc) ∧ K.y ≤ Y ∧ Y < K.y + K.fr
    · rw [if_pos (c1.1 hin2)]
      have hkl := idx_lt (c := K.fc) (r := K.fr) (x := X - K.x) (y := Y - K.y) (by omega) (by omega)
      obtain ⟨s1, s2⟩ := td (Y - K.y) (X - K.x) K.fc (by omega) (by omega) (by omega)
      have hkn : ((Y - K.y) * K.fc + (X - K.x)).toNat < F.length := by omega
      have hu := u1 ⟨_, hkn⟩
      rw [if_pos hkn] at hu
      have ek : ((((Y - K.y) * K.fc + (X - K.x)).toNat : Nat) : Int) = (Y - K.y) * K.fc + (X - K.x) := by omega
      have eh : hb ⟨_, hkn⟩ = bk ((K.ry + Y) * c + (K.rx + X)).toNat := by
        rw [hhb]
        simp only [ek, s1, s2]
        rw [show K.y + (Y - K.y) = Y by omega, show K.x + (X - K.x) = X by omega]
      have et : tb ⟨_, hkn⟩ = bk (flapY up K (Y - K.y) * c + flapX up K (X - K.x)).toNat := by
        rw [htb]
        simp only [ek, s1, s2]
      rw [eh, et] at hu
      have g1 := hfx (x := X - K.x) (by omega); have g2 := hfy (y := Y - K.y) (by omega)
      rw [hu, hP0, hP (flapX up K (X - K.x)) (flapY up K (Y - K.y)) (by omega) (by omega)]
    · rw [if_neg (fun h => hin2 (c1.2 h)), ← hP0]
      refine u3 _ (fun k e => ?_) (fun k e => ?_)
      · obtain ⟨x, y, e1, e2, hx, hy, e3⟩ := hplace k
        have g1 := hfx hx; have g2 := hfy hy
        rw [htb] at e
        simp only [e1, e2] at e
        obtain ⟨q1, q2⟩ := hin (by omega) (by omega) (by omega) (by omega) e
        omega
      · obtain ⟨x, y, e1, e2, hx, hy, e3⟩ := hplace k
        rw [hhb] at e
        simp only [e1, e2] at e
        obtain ⟨q1, q2⟩ := hin (by omega) (by omega) (by omega) (by omega) e
        exact hin2 ⟨by omega, by omega⟩
end Go.Proofs.YtbfigaadbfggcaaGreatDoor
/- What unfold.folded answers: of a right scheme, one pile of all panels, as the document's own way of folding has them. -/
namespace Go.Proofs.YtbfigaadbfggcaaGreatDoor
open Go.RowKit
set_option linter.unusedVariables false

/-- All steps, one behind the other. -/
def goL : Int → Int → List Rp → List Sp → List Rp
  | _, _, l, [] => l
  | c, r, l, p :: ps => goL (newC p.d p.n c) (newR p.d p.n r) (stepR p.d p.n p.u c r l) ps
/-- A sheet that isn't folded yet. -/
def initL (c r : Int) : List Rp := (List.range (c * r).toNat).map fun (k : Nat) => ⟨(k : Int), (k : Int).tmod c, (k : Int).tdiv c, false, false⟩
/-- The panels of a scheme, from above. -/
def foldL (s : Sc) : List Rp := goL s.c s.r (initL s.c s.r) s.l

theorem can_aft {c r d n c' r' : Int} (h : aft c r d n = (c', r', true)) : Can d n c r ∧ c' = newC d n c ∧ r' = newR d n r := by
  obtain ⟨⟨h0, h1⟩, h2⟩ := aft_yes (c := c) (r := r) (d := d) (n := n) (by rw [h])
  rcases h2 with ⟨e1, e2, e⟩ | ⟨e1, e2, e⟩
  · rw [h] at e
    simp only [Prod.mk.injEq] at e
    exact ⟨⟨h1.1.1, h1.1.2, h1.2.1, h0.1, h0.2, by rw [if_pos e1]; exact e2⟩, by unfold newC; rw [if_pos e1]; exact e.1, by unfold newR; rw [if_pos e1]; exact e.2.1⟩
  · rw [h] at e
    simp only [Prod.mk.injEq] at e
    have e1' : ¬ d ≤ 2 := by omega
    exact ⟨⟨h1.1.1, h1.1.2, h1.2.1, h0.1, h0.2, by rw [if_neg e1']; exact e2⟩, by unfold newC; rw [if_neg e1']; exact e.1, by unfold newR; rw [if_neg e1']; exact e.2.1⟩
/-- The first step of steps that leave one panel. -/
theorem allM_first {c r : Int} {p : Sp} {l : List Sp} (h : allM c r (p :: l) = (1, 1, true)) : Can p.d p.n c r ∧ allM (newC p.d p.n c) (newR p.d p.n r) l = (1, 1, true) := by
  cases hz : (aft c r p.d p.n).2.2
  · rw [allM_no (aft_no hz)] at h
    cases h
  · obtain ⟨x', y', hz'⟩ : ∃ x' y', aft c r p.d p.n = (x', y', true) := ⟨(aft c r p.d p.n).1, (aft c r p.d p.n).2.1, by rw [← hz]⟩
    obtain ⟨h1, rfl, rfl⟩ := can_aft hz'
    rw [allM_yes hz'] at h
    exact ⟨h1, h⟩
theorem right_bounds {s : Sc} (h : rightM s = true) : (1 ≤ s.c ∧ s.c ≤ 64) ∧ (1 ≤ s.r ∧ s.r ≤ 64) ∧ s.c * s.r ≤ 64 ∧ s.l.length ≤ 6 ∧ allM s.c s.r s.l = (1, 1, true) := by
  unfold rightM at h
  simp only [Bool.and_eq_true, decide_eq_true_eq, beq_iff_eq] at h
  obtain ⟨⟨h1, h2⟩, h3, h4, h5, h6⟩ := h
  unfold panM at h1 h2
  by_cases hs : (sideB s.c && sideB s.r) = true
  · rw [if_pos hs] at h1 h2
    rw [Bool.and_eq_true] at hs
    have s1 := sideB_true hs.1
    have s2 := sideB_true hs.2
    unfold allS at h4 h5 h6
    rw [if_pos ⟨s1.1, s2.1⟩] at h4 h5 h6
    exact ⟨s1, s2, h2, h3, Prod.ext h5 (Prod.ext h6 h4)⟩
  · rw [if_neg hs] at h1
    omega

theorem init_in {c r : Int} (hc : 1 ≤ c) (hr : 1 ≤ r) : InR c r (initL c r) := by
  intro p hp
  obtain ⟨k, hk, rfl⟩ := List.mem_map.1 hp
  have hp : 0 ≤ c * r := Int.mul_nonneg (by omega) (by omega)
  obtain ⟨x, y, e1, e2, b0, b1, b2, b3, b4⟩ := split_place k c r hc (by have := List.mem_range.1 hk; omega)
  simp only [e1, e2]
  omega
theorem init_length (c r : Int) : (initL c r).length = (c * r).toNat := by simp [initL]
/-- Just one panel lies at each place. -/
theorem range_filter (n k : Nat) (hk : k < n) : (List.range n).filter (fun i => decide (i = k)) = [k] := by
  induction n with
  | zero => omega
  | succ n ih =>
    rw [List.range_succ, List.filter_append]
    by_cases e : k = n
    · subst e
      have : (List.range k).filter (fun i => decide (i = k)) = [] := by
        rw [List.filter_eq_nil_iff]
        intro i hi
        have := List.mem_range.1 hi
        simp
        omega
      rw [this]
      simp
    · rw [ih (by omega)]
      have : ¬ n = k := fun h => e h.symm
      simp [this]
theorem init_pile {c r x y : Int} (hc : 1 ≤ c) (hx : 0 ≤ x ∧ x < c) (hy : 0 ≤ y ∧ y < r) : pileL (initL c r) x y = [⟨y * c + x, false, false⟩] := by
  have hi := idx_lt hx hy
  have h : (List.range (c * r).toNat).filter (fun (k : Nat) => atB x y (⟨(k : Int), (k : Int).tmod c, (k : Int).tdiv c, false, false⟩ : Rp)) = [(y * c + x).toNat] := by
    rw [← range_filter (c * r).toNat (y * c + x).toNat (by omega)]
    refine List.filter_congr fun k hk => ?_
    have hk := List.mem_range.1 hk
    obtain ⟨x', y', e1, e2, b0, b1, b2, b3, b4⟩ := split_place k c r hc (by omega)
    rw [Bool.eq_iff_iff]
    simp only [atB, e1, e2, Bool.and_eq_true, decide_eq_true_eq]
    constructor
    · rintro ⟨rfl, rfl⟩; omega
    · intro h
      subst h
      obtain ⟨t1, t2⟩ := td y x c hy.1 hx.1 hx.2
      rw [show (((y * c + x).toNat : Nat) : Int) = y * c + x by omega] at e1 e2
      exact ⟨e1.symm.trans t2, e2.symm.trans t1⟩
  unfold pileL initL
  rw [List.filter_map, List.map_map]
  show List.map _ ((List.range (c * r).toNat).filter (fun (k : Nat) => atB x y (⟨(k : Int), (k : Int).tmod c, (k : Int).tdiv c, false, false⟩ : Rp))) = _
  rw [h]
  simp [toPc]
  omega
/-- All panels of a sheet of one. -/
theorem pile_all {l : List Rp} (h : InR 1 1 l) : pileL l 0 0 = l.map toPc := by
  unfold pileL
  rw [List.filter_eq_self.2]
  intro p hp
  have := h p hp
  simp [atB]
  omega

def FoldRel (w : World) (base n : Nat) (ls : List Sp) (F : List Rp) (g i : Value) (wr : World) : Prop :=
  ∃ (k G : Nat) (c r : Int) (l : List Rp), k ≤ n ∧ g = .pointer (some ⟨G, 0, none⟩) ∧ i = .int .i64 (k : Int) ∧ Hid (Sheet wr base G c r (pileL l)) ∧ Hid (InR c r l) ∧ Hid (l.length ≤ 64) ∧ Hid (allM c r (ls.drop k) = (1, 1, true)) ∧ Hid (goL c r l (ls.drop k) = F) ∧ Below w.heap.size w wr

set_option maxHeartbeats 1000000 in
theorem folded_yes (s : Sc) (a : Option Addr) (cap : Nat) (w : World) (hI : InL w a s.l) (hr : rightM s = true) :
    Calls Tryz.prog 78 #[.agg #[.int .i64 s.c, .int .i64 s.r, .slice a s.l.length cap]] w fun e w' => ∃ D R, e = .returned (.pointer (some ⟨D, 0, none⟩)) ∧ Dp w' w.heap.size D R ((foldL s).map toPc) ∧ Below w.heap.size w w' := by
  obtain ⟨hc, hrr, hm, hl6, hall⟩ := right_bounds hr
  have KR := fun w1 (h : Below w.heap.size w w1) => schRight_any s a cap w1 (by omega) (by omega) (by omega) (hI.up h)
  rw [hr] at KR
  have KF := fun w1 => flat_any s.c s.r hc hrr w1
  have hgo : goL s.c s.r (initL s.c s.r) s.l = foldL s := rfl
  have hlen0 : (initL s.c s.r).length ≤ 64 := by rw [init_length]; omega
  have hin0 := init_in hc.1 hrr.1
  have hpl := fun x y h1 h2 => init_pile (r := s.r) (x := x) (y := y) hc.1 h1 h2
  obtain ⟨F, hF⟩ : ∃ F, foldL s = F := ⟨_, rfl⟩
  rw [hF] at hgo ⊢
  have HI := Lib.hid hI; have HR := Lib.hid KR; have HF := Lib.hid KF; have HGo := Lib.hid hgo; have HL0 := Lib.hid hlen0; have HN0 := Lib.hid hin0; have HPl := Lib.hid hpl; have HAll := Lib.hid hall
  obtain ⟨c, r, ls⟩ := s
  simp only at HI HR HF HGo HL0 HN0 HPl HAll hl6 hc ⊢
  clear hI KR KF hgo hlen0 hin0 hpl hall hF hr hrr hm
  obtain ⟨n, hn⟩ : ∃ n, ls.length = n := ⟨_, rfl⟩
  rw [hn] at hl6 HR ⊢
  have HN := Lib.hid hn
  clear hn
  have hb0 := up_alloc (Below.refl _ w) (.cells #[.int .i64 c, .int .i64 r, .slice a n cap] 26)
  have HB0 := Lib.hid hb0
  clear hb0
  go_enter Tryz.func78, Tryz.ntmps78
  go_wp2_with fail
  refine (HR.out _ HB0.out).mono ?_
  rintro e w1 ⟨rfl, hb⟩
  have A1 := (Bx.new w 26 [.int .i64 c, .int .i64 r, .slice a n cap]).up hb
  have B1 := Lib.hid (up_trans HB0.out hb)
  have a0 := A1.cell 0 rfl; have a1 := A1.cell 1 rfl; have a2 := A1.cell 2 rfl
  clear hb
  go_wp2_with fail
  refine (HF.out _).mono ?_
  rintro e w2 hfl
  obtain ⟨G, rfl, hS, hb⟩ := sheet_flat hfl
  have A2 := A1.up hb
  have b2 := A2.cell 2 rfl
  have hS2 := Lib.hid (hS.piles (Q := pileL (initL c r)) (fun x y h1 h2 => (HPl.out x y h1 h2).symm))
  have B2 := Lib.hid (up_trans B1.out hb)
  clear a0 a1 a2 hb A1 A2 hS hfl
  go_wp2
  have hsz := B1.out.size
  go_loopw [3, 19] (fun g i wr => FoldRel w w1.heap.size n ls F g i wr) (fun _ i _ => n - (intOf i).toNat)
  case atStart => exact ⟨0, G, c, r, initL c r, by omega, rfl, by go_num, hS2, HN0, HL0, by rw [List.drop_zero]; exact HAll, by rw [List.drop_zero]; exact HGo, B2.out⟩
  case round =>
    obtain ⟨k, G, c, r, l, hk, rfl, rfl, HS, HIn, HLn, HM, HG, hb⟩ := hrel
    by_cases hlt : k < n
    · obtain ⟨p, hp⟩ : ∃ p, ls[k]? = some p := ⟨ls[k]'(by rw [HN.out]; exact hlt), List.getElem?_eq_getElem _⟩
      obtain ⟨b, off, rfl, hc⟩ := HI.out.resolve_left (by rintro rfl; cases hp)
      obtain ⟨d0, d1, d2⟩ := hc.up hb k p hp
      have hd := drop_step hp
      have hM := HM.out
      rw [hd] at hM
      obtain ⟨hcan, hM2⟩ := allM_first hM
      have hG2 := HG.out
      rw [hd] at hG2
      have hsd := HS.out.sides
      have KA := fun w' (h : Below wr.heap.size wr w') => sheet_after (HS.out.up h) hcan p.u (fun x y _ _ => Nat.le_trans (pile_length l x y) HLn.out) (Nat.le_trans (by have := HS.out; obtain ⟨A, L, bk, R, S, g1, _, _, g4, _⟩ := this; have := g1.pos; have := (g4.dk _ ⟨0, this, rfl⟩); exact Nat.le_of_lt (Nat.lt_of_le_of_lt this.low this.ltD)) h.size)
      have hS' := fun w' G' (h : Sheet w' w1.heap.size G' (newC p.d p.n c) (newR p.d p.n r) (foldPl p.d p.n p.u c r (pileL l))) => h.piles (Q := pileL (stepR p.d p.n p.u c r l)) (fun x y h1 h2 => (step_piles hcan HIn.out h1 h2).symm)
      have hI2 := step_in (u := p.u) hcan HIn.out
      have hL2 : (stepR p.d p.n p.u c r l).length ≤ 64 := by rw [step_length]; exact HLn.out
      have hG3 : goL (newC p.d p.n c) (newR p.d p.n r) (stepR p.d p.n p.u c r l) (ls.drop (k + 1)) = F := hG2
      have z0 : (0 : Int) ≤ (k : Int) := by omega
      have z1 : (k : Int) < (n : Int) := by omega
      have HA := Lib.hid KA; have HS2 := Lib.hid hS'; have HIn2 := Lib.hid hI2; have HL2 := Lib.hid hL2; have HG3 := Lib.hid hG3; have HM2 := Lib.hid hM2; have HB := Lib.hid hb
      obtain ⟨pd, pn, pu⟩ := p
      simp only at d0 d1 d2 HA HS2 HIn2 HL2 HG3 HM2
      clear KA hS' hI2 hL2 hG3 hM2 hb hM hG2 hd hc hp HS HIn HLn HM HG b2 hsd hcan
      go_wp2_with fail
      refine (HA.out _ (up_alloc (Below.refl _ _) _)).mono ?_
      rintro e w3 ⟨G', rfl, hS3, hb3⟩
      have HS3 := Lib.hid (HS2.out _ _ hS3)
      clear hS3 HA
      go_wp2
      go_roundw
      case rel =>
        refine ⟨k + 1, G', _, _, _, by omega, rfl, by go_num, HS3, HIn2, HL2, HM2, HG3, ?_⟩
        exact (up_alloc HB.out _).trans (hb3.mono hsz)
      case measure => simp [intOf]; omega
    · obtain rfl : k = n := by omega
      have hM := HM.out
      have hG2 := HG.out
      rw [List.drop_of_length_le (by rw [HN.out]; omega)] at hM hG2
      obtain ⟨rfl, rfl⟩ : c = 1 ∧ r = 1 := by
        rw [allM] at hM
        simp only [Prod.mk.injEq] at hM
        exact ⟨hM.1, hM.2.1⟩
      rw [goL] at hG2
      subst hG2
      obtain ⟨A, L, bk, R, S, hG, hL, hinj, hD, hP⟩ := HS.out
      have hlen : L.length = 1 := by have := hG.len; omega
      have e0 := hL 0 (by omega)
      have KAt : Calls Tryz.prog 89 #[.pointer (some ⟨G, 0, none⟩), .int .i64 0, .int .i64 0] wr fun e w' => e = .returned (.tuple #[.pointer (some ⟨bk 0, 0, none⟩), .bool true]) ∧ Below wr.heap.size wr w' := shAt_yes hG 0 0 (ptrD (bk 0)) (by decide) (by simpa [at1] using e0)
      have hd0 := hD.dk (bk 0) ⟨0, by omega, rfl⟩
      have hP0 := hP 0 0 (by omega) (by omega)
      simp only [Int.zero_mul, Int.add_zero, Int.toNat_zero] at hP0
      rw [hP0, pile_all HIn.out] at hd0
      have HAt := Lib.hid KAt; have HD0 := Lib.hid hd0; have HB := Lib.hid hb
      clear KAt hd0 hb hG hL hinj hD hP e0 hP0 HS HIn HLn HM HG b2 hM
      go_wp2_with (go_at_call 89; refine HAt.out.mono ?_; rintro e w3 ⟨rfl, hb3⟩; have HB3 := Lib.hid hb3; clear hb3)
      go_ret
      have k := HD0.out.up HB3.out
      exact ⟨bk 0, _, rfl, k.base _ (Nat.le_trans hsz k.low) (Nat.le_trans hsz k.ltR.1), up_trans HB.out HB3.out⟩
end Go.Proofs.YtbfigaadbfggcaaGreatDoor
/- Lists of panels' leaves, and how they are flipped: their cells, and how such a list lies in memory. -/
namespace Go.Proofs.YtbfigaadbfggcaaGreatDoor
open Go.RowKit
set_option linter.unusedVariables false

/-- A panel's leaf, and whether it is flipped. -/
structure Pn where
  leaf : Int
  fx : Bool
  fy : Bool
deriving DecidableEq
instance : Inhabited Pn := ⟨⟨0, false, false⟩⟩
def Pn.cells (p : Pn) : List Value := [.int .i64 p.leaf, .bool p.fx, .bool p.fy]
def pns (l : List Pn) : List Value := l.flatMap Pn.cells
theorem pns_cons (p : Pn) (l : List Pn) : pns (p :: l) = p.cells ++ pns l := rfl
theorem pns_append (l m : List Pn) : pns (l ++ m) = pns l ++ pns m := by simp [pns]
theorem pns_length (l : List Pn) : (pns l).length = l.length * 3 := by
  induction l with
  | nil => rfl
  | cons p l ih => rw [pns_cons, List.length_append, ih, List.length_cons]; simp [Pn.cells]; omega
theorem pns_at {l : List Pn} {j : Nat} {p : Pn} (h : l[j]? = some p) (i : Nat) (hi : i < 3) : (pns l)[j * 3 + i]? = p.cells[i]? := by
  induction l generalizing j with
  | nil => simp at h
  | cons q l ih =>
    rw [pns_cons]
    cases j with
    | zero =>
      simp only [List.getElem?_cons_zero, Option.some.injEq] at h
      subst h
      rw [List.getElem?_append_left (by simp [Pn.cells]; omega)]
      simp
    | succ j =>
      rw [List.getElem?_cons_succ] at h
      rw [List.getElem?_append_right (by simp [Pn.cells]; omega), ← ih h]
      congr 1
      simp [Pn.cells]
      omega
theorem pns_set {l : List Pn} {j : Nat} (hj : j < l.length) (q : Pn) : pns (l.set j q) = (pns l).take (j * 3) ++ q.cells ++ (pns l).drop (j * 3 + 3) := by
  have h1 : l.set j q = l.take j ++ q :: l.drop (j + 1) := List.set_eq_take_append_cons_drop .. |>.trans (by rw [if_pos hj])
  have h2 : pns l = pns (l.take j) ++ pns (l.drop j) := by rw [← pns_append, List.take_append_drop]
  have h3 : (pns (l.take j)).length = j * 3 := by rw [pns_length, List.length_take]; omega
  have h4 : l.drop j = l[j] :: l.drop (j + 1) := List.drop_eq_getElem_cons hj
  rw [h1, pns_append, pns_cons, h2, List.take_left' h3, ← h3, List.drop_append, h4, pns_cons]
  simp [Pn.cells]

theorem Tryz.infoPn : (Tryz.prog.info? 96).map (fun i => (i.zero, i.size, i.bytes)) = some (some (.agg #[.int .i64 0, .bool false, .bool false]), 3, 16) := by kernel_rfl

/-- The panels fill block g, which may be written. -/
def PnRow (w : World) (g : Nat) (l : List Pn) : Prop := ∃ cur, w.heap[g]? = some (.cells cur 96 (0, 0)) ∧ cur.toList = pns l
theorem PnRow.lt {w : World} {g : Nat} {l : List Pn} (h : PnRow w g l) : g < w.heap.size := by
  obtain ⟨cur, h1, _⟩ := h
  exact (Array.getElem?_eq_some_iff.1 h1).1
theorem PnRow.same {w w' : World} {g : Nat} {l : List Pn} (h : PnRow w g l) (e : w'.heap[g]? = w.heap[g]?) : PnRow w' g l := by
  obtain ⟨cur, h1, h2⟩ := h
  exact ⟨cur, e.trans h1, h2⟩
theorem PnRow.up {w w' : World} {g : Nat} {l : List Pn} (h : PnRow w g l) (hb : Below w.heap.size w w') : PnRow w' g l := h.same (hb.block g h.lt)
theorem PnRow.free {w : World} {g : Nat} {l : List Pn} (h : PnRow w g l) (j : Nat) : w.frozen? ⟨g, j, none⟩ = false := by
  obtain ⟨cur, h1, _⟩ := h
  exact row_frozen h1 j
theorem PnRow.cells {w : World} {g : Nat} {l : List Pn} (h : PnRow w g l) {j : Nat} {p : Pn} (hp : l[j]? = some p) :
    w.cell? ⟨g, j * 3, none⟩ = some (.int .i64 p.leaf) ∧ w.cell? ⟨g, j * 3 + 1, none⟩ = some (.bool p.fx) ∧ w.cell? ⟨g, j * 3 + 2, none⟩ = some (.bool p.fy) := by
  obtain ⟨cur, h1, h2⟩ := h
  have k : ∀ i u, i < 3 → p.cells[i]? = some u → w.cell? ⟨g, j * 3 + i, none⟩ = some u := fun i u hi hu => by
    have e := pns_at hp i hi
    rw [hu, ← h2, Array.getElem?_toList] at e
    simp [World.cell?, h1, e]
  exact ⟨k 0 _ (by omega) rfl, k 1 _ (by omega) rfl, k 2 _ (by omega) rfl⟩
theorem PnRow.stored {w : World} {g : Nat} {l : List Pn} (h : PnRow w g l) {k : Nat} (hk : k < l.length) (q : Pn) : PnRow (w.setCells g (k * 3) q.cells) g (l.set k q) := by
  obtain ⟨cur, h1, h2⟩ := h
  have hl : cur.size = l.length * 3 := by rw [← Array.length_toList, h2, pns_length]
  have hq : q.cells.length = 3 := rfl
  obtain ⟨cur1, e1, e2⟩ := heap_setCells_list g q.cells (k * 3) w cur _ h1 (by rw [hq]; omega)
  refine ⟨cur1, e1, ?_⟩
  rw [e2, pns_set hk, h2, hq]
theorem made_pns (n : Nat) : (madeCells (Value.cells (.agg #[.int .i64 0, .bool false, .bool false])) (n * 3)).toList = pns (List.replicate n default) := by
  apply List.ext_getElem?
  intro j
  by_cases hj : j < n * 3
  · have hp : (List.replicate n (default : Pn))[j / 3]? = some default := by rw [List.getElem?_replicate, if_pos (by omega)]
    have e := pns_at hp (j % 3) (by omega)
    rw [show j / 3 * 3 + j % 3 = j by omega] at e
    rw [e]
    have : j % 3 = 0 ∨ j % 3 = 1 ∨ j % 3 = 2 := by omega
    simp only [madeCells, Array.toList_map, Array.toList_range, List.getElem?_map, List.getElem?_range hj, Option.map_some, Value.cells]
    show some ((#[Value.int .i64 0, Value.bool false, Value.bool false] : Array Value)[j % 3]!) = _
    rcases this with h | h | h <;> rw [h] <;> rfl
  · rw [List.getElem?_eq_none (by simp [madeCells]; omega), List.getElem?_eq_none (by rw [pns_length, List.length_replicate]; omega)]
theorem PnRow.made (w : World) (n : Nat) : PnRow (w.alloc (.cells (madeCells (Value.cells (.agg #[.int .i64 0, .bool false, .bool false])) (n * 3)) 96)) w.heap.size (List.replicate n default) := ⟨_, World.alloc_heap_new w _, made_pns n⟩
theorem run_make_pns (n : Nat) (hn : n ≤ 1000000) (w : World) : (Instr.makeSlice 79 (.int .i64 (n : Int)) (.int .i64 (n : Int))).run Tryz.prog w = .ok (.slice (some ⟨w.heap.size, 0, none⟩) n n) (w.alloc (.cells (madeCells (Value.cells (.agg #[.int .i64 0, .bool false, .bool false])) (n * 3)) 96)) := by
  obtain ⟨i0, hi, hz0, hz1, hz2⟩ := info_parts Tryz.infoPn
  have := run_make (P := Tryz.prog) w 79 96 i0 _ Tryz.underlying79 hi hz0 .i64 .i64 (n : Int) (n : Int) (by omega) (Int.le_refl _) (by rw [hz2]; omega) (by omega)
  rw [hz1, Int.toNat_natCast] at this
  exact this

/-- Panels by their numbers: each one's leaf is its place in the list. -/
def ofStep (l : List Pc) (acc : List Pn) (k : Nat) : List Pn := acc.set (l[k]?.getD default).n.toNat ⟨(k : Int), (l[k]?.getD default).fx, (l[k]?.getD default).fy⟩
def ofL (l : List Pc) (k : Nat) : List Pn := (List.range k).foldl (ofStep l) (List.replicate l.length default)
theorem ofL_succ (l : List Pc) (k : Nat) : ofL l (k + 1) = ofStep l (ofL l k) k := by simp [ofL, List.range_succ]
theorem ofL_length (l : List Pc) (k : Nat) : (ofL l k).length = l.length := by
  induction k with
  | zero => simp [ofL]
  | succ k ih => rw [ofL_succ]; unfold ofStep; rw [List.length_set, ih]
end Go.Proofs.YtbfigaadbfggcaaGreatDoor
/- Each leaf is one panel's: behind all steps each number stands just once; and what flips tells of a panel's place. -/
namespace Go.Proofs.YtbfigaadbfggcaaGreatDoor
set_option linter.unusedVariables false

theorem turned_n (d n c r : Int) (p : Rp) : (turnedM d n c r p).n = p.n := by unfold turnedM; split <;> (try split) <;> (try split) <;> rfl
theorem shift_n (d n : Int) (p : Rp) : (shiftM d n p).n = p.n := by unfold shiftM; split <;> (try split) <;> rfl
theorem step_perm (d n : Int) (u : Bool) (c r : Int) (l : List Rp) : ((stepR d n u c r l).map Rp.n).Perm (l.map Rp.n) := by
  unfold stepR
  rw [List.map_map, show Rp.n ∘ shiftM d n = Rp.n from funext fun p => shift_n d n p]
  have h1 : ((overM d n c r l).reverse.map Rp.n).Perm ((l.filter (movedM d n c r)).map Rp.n) := by
    refine ((List.reverse_perm _).map _).trans ?_
    unfold overM
    rw [List.map_map, show Rp.n ∘ turnedM d n c r = Rp.n from funext fun p => turned_n d n c r p]
  have h2 : ((l.filter (movedM d n c r)).map Rp.n ++ (restM d n c r l).map Rp.n).Perm (l.map Rp.n) := by
    rw [← List.map_append]
    exact (List.filter_append_perm _ _).map _
  cases u
  · simp only [joinU, Bool.false_eq_true, if_false, List.map_append]
    exact (h1.append_right _).trans h2
  · simp only [joinU, if_true, List.map_append]
    exact (List.perm_append_comm.trans (h1.append_right _)).trans h2
theorem go_perm : ∀ (ls : List Sp) (c r : Int) (l : List Rp), ((goL c r l ls).map Rp.n).Perm (l.map Rp.n)
  | [], _, _, _ => List.Perm.refl _
  | p :: ls, c, r, l => (go_perm ls _ _ _).trans (step_perm _ _ _ _ _ _)
theorem init_nums (c r : Int) : (initL c r).map Rp.n = (List.range (c * r).toNat).map (fun k : Nat => (k : Int)) := by
  unfold initL
  rw [List.map_map]
  rfl
/-- The panels of a scheme, from above, as pieces; and by their numbers. -/
def pcL (s : Sc) : List Pc := (foldL s).map toPc
def panL (s : Sc) : List Pn := ofL (pcL s) (pcL s).length
theorem pcL_perm (s : Sc) : ((pcL s).map Pc.n).Perm ((List.range (s.c * s.r).toNat).map (fun k : Nat => (k : Int))) := by
  unfold pcL
  rw [List.map_map, show Pc.n ∘ toPc = Rp.n from rfl, ← init_nums]
  exact go_perm _ _ _ _
theorem pcL_length (s : Sc) : (pcL s).length = (s.c * s.r).toNat := by
  have := (pcL_perm s).length_eq
  simpa using this
theorem panL_length (s : Sc) : (panL s).length = (s.c * s.r).toNat := by unfold panL; rw [ofL_length, pcL_length]
theorem pcL_num (s : Sc) (k : Nat) (hk : k < (pcL s).length) : ∃ j : Nat, j < (pcL s).length ∧ ((pcL s)[k]'hk).n = (j : Int) := by
  have h : ((pcL s)[k]'hk).n ∈ (pcL s).map Pc.n := List.mem_map.2 ⟨_, List.getElem_mem _, rfl⟩
  rw [(pcL_perm s).mem_iff] at h
  obtain ⟨j, hj, e⟩ := List.mem_map.1 h
  exact ⟨j, by rw [pcL_length]; exact List.mem_range.1 hj, e.symm⟩
theorem pcL_leaf (s : Sc) (j : Nat) (hj : j < (pcL s).length) : ∃ (k : Nat) (hk : k < (pcL s).length), ((pcL s)[k]'hk).n = (j : Int) := by
  have h : (j : Int) ∈ (List.range (s.c * s.r).toNat).map (fun k : Nat => (k : Int)) := List.mem_map.2 ⟨j, List.mem_range.2 (by rw [← pcL_length]; exact hj), rfl⟩
  rw [← (pcL_perm s).mem_iff] at h
  obtain ⟨p, hp, e⟩ := List.mem_map.1 h
  obtain ⟨k, hk, e2⟩ := List.mem_iff_getElem.1 hp
  exact ⟨k, hk, by rw [e2]; exact e⟩
theorem pcL_nodup (s : Sc) {i k : Nat} (hi : i < (pcL s).length) (hk : k < (pcL s).length) (h : ((pcL s)[i]'hi).n = ((pcL s)[k]'hk).n) : i = k := by
  have hn : ((pcL s).map Pc.n).Nodup := by
    rw [(pcL_perm s).nodup_iff]
    refine List.Pairwise.map _ (S := fun a b => a ≠ b) (fun a b h => ?_) (List.nodup_range (n := (s.c * s.r).toNat))
    omega
  rw [List.Nodup, List.pairwise_iff_getElem] at hn
  by_cases e : i = k
  · exact e
  · exfalso
    rcases Nat.lt_or_gt_of_ne e with h1 | h1
    · refine hn i k (by simpa using hi) (by simpa using hk) h1 ?_
      simpa using h
    · refine hn k i (by simpa using hk) (by simpa using hi) h1 ?_
      simpa using h.symm

/-- What stands at a panel's number. -/
theorem ofL_at (l : List Pc) (hd : ∀ i k (hi : i < l.length) (hk : k < l.length), l[i].n = l[k].n → i = k) (hb : ∀ k (hk : k < l.length), ∃ j : Nat, j < l.length ∧ l[k].n = (j : Int)) (k : Nat) (hk : k < l.length) (j : Nat) (hj : l[k].n = (j : Int)) :
    ∀ n, k < n → n ≤ l.length → (ofL l n)[j]? = some ⟨(k : Int), l[k].fx, l[k].fy⟩
  | 0, h, _ => by omega
  | n + 1, h, h1 => by
    rw [ofL_succ]
    unfold ofStep
    have hn : n < l.length := by omega
    rw [List.getElem?_eq_getElem hn]
    simp only [Option.getD_some]
    obtain ⟨j', hj', ej⟩ := hb n hn
    have hjl : j < l.length := by
      obtain ⟨j2, h2, e2⟩ := hb k hk
      omega
    by_cases e : k = n
    · subst e
      have : (l[k].n).toNat = j := by omega
      rw [this, List.getElem?_set_self (by rw [ofL_length]; exact hjl)]
    · have : (l[n].n).toNat ≠ j := by
        intro e2
        exact e (hd k n hk hn (by omega))
      rw [List.getElem?_set_ne this]
      exact ofL_at l hd hb k hk j hj n (by omega) (by omega)
theorem panL_at (s : Sc) (j : Nat) (hj : j < (pcL s).length) : ∃ (k : Nat) (hk : k < (pcL s).length), ((pcL s)[k]'hk).n = (j : Int) ∧ (panL s)[j]? = some ⟨(k : Int), ((pcL s)[k]'hk).fx, ((pcL s)[k]'hk).fy⟩ := by
  obtain ⟨k, hk, e⟩ := pcL_leaf s j hj
  exact ⟨k, hk, e, ofL_at _ (fun i k hi hk h => pcL_nodup s hi hk h) (fun k hk => pcL_num s k hk) k hk j e _ hk (Nat.le_refl _)⟩

/-- How a panel lies, and where, and where it was, agree in all panels. -/
def bI (b : Bool) : Int := if b = true then 1 else 0
def ParX (C K : Int) (l : List Rp) : Prop := ∀ p ∈ l, (bI p.fx + p.col + p.n.tmod C) % 2 = K
def ParY (C K : Int) (l : List Rp) : Prop := ∀ p ∈ l, (bI p.fy + p.row + p.n.tdiv C) % 2 = K
theorem bI_not (b : Bool) : bI (!b) = 1 - bI b := by cases b <;> rfl
theorem step_mem {d n c r : Int} {u : Bool} {l : List Rp} {p : Rp} (h : p ∈ stepR d n u c r l) : ∃ q ∈ l, p = shiftM d n q ∨ p = shiftM d n (turnedM d n c r q) := by
  obtain ⟨q, hq, rfl⟩ := List.mem_map.1 h
  have hq : q ∈ restM d n c r l ∨ q ∈ overM d n c r l := by
    unfold joinU at hq
    cases u
    · simp at hq; exact hq.symm
    · simpa using hq
  rcases hq with hq | hq
  · exact ⟨q, (List.mem_filter.1 hq).1, .inl rfl⟩
  · obtain ⟨q', h0, rfl⟩ := List.mem_map.1 hq
    exact ⟨q', (List.mem_filter.1 h0).1, .inr rfl⟩
theorem step_parX {C d n c r K : Int} {u : Bool} {l : List Rp} (h : ParX C K l) : ∃ K', ParX C K' (stepR d n u c r l) := by
  refine ⟨if d = 1 then (K + n) % 2 else K, fun p hp => ?_⟩
  obtain ⟨q, hq, e⟩ := step_mem hp
  have k := h q hq
  rcases e with rfl | rfl <;> unfold shiftM <;> (try unfold turnedM) <;> (repeat' split) <;> (try simp only [bI_not]) <;> omega
theorem step_parY {C d n c r K : Int} {u : Bool} {l : List Rp} (h : ParY C K l) : ∃ K', ParY C K' (stepR d n u c r l) := by
  refine ⟨if d = 3 then (K + n) % 2 else K, fun p hp => ?_⟩
  obtain ⟨q, hq, e⟩ := step_mem hp
  have k := h q hq
  rcases e with rfl | rfl <;> unfold shiftM <;> (try unfold turnedM) <;> (repeat' split) <;> (try simp only [bI_not]) <;> omega
theorem go_parX (C : Int) : ∀ (ls : List Sp) (c r K : Int) (l : List Rp), ParX C K l → ∃ K', ParX C K' (goL c r l ls)
  | [], _, _, K, _, h => ⟨K, h⟩
  | p :: ls, c, r, K, l, h => by
    obtain ⟨K1, h1⟩ := step_parX (d := p.d) (n := p.n) (c := c) (r := r) (u := p.u) h
    exact go_parX C ls _ _ K1 _ h1
theorem go_parY (C : Int) : ∀ (ls : List Sp) (c r K : Int) (l : List Rp), ParY C K l → ∃ K', ParY C K' (goL c r l ls)
  | [], _, _, K, _, h => ⟨K, h⟩
  | p :: ls, c, r, K, l, h => by
    obtain ⟨K1, h1⟩ := step_parY (d := p.d) (n := p.n) (c := c) (r := r) (u := p.u) h
    exact go_parY C ls _ _ K1 _ h1
theorem fold_parX (s : Sc) : ∃ K, ParX s.c K (foldL s) := go_parX s.c _ _ _ 0 _ (fun p hp => by
  obtain ⟨k, hk, rfl⟩ := List.mem_map.1 hp
  show ((0 : Int) + (k : Int).tmod s.c + (k : Int).tmod s.c) % 2 = 0
  generalize (k : Int).tmod s.c = q
  omega)
theorem fold_parY (s : Sc) : ∃ K, ParY s.c K (foldL s) := go_parY s.c _ _ _ 0 _ (fun p hp => by
  obtain ⟨k, hk, rfl⟩ := List.mem_map.1 hp
  show ((0 : Int) + (k : Int).tdiv s.c + (k : Int).tdiv s.c) % 2 = 0
  generalize (k : Int).tdiv s.c = q
  omega)
/-- All panels lie at one place in the end. -/
theorem go_in : ∀ (ls : List Sp) (c r : Int) (l : List Rp), InR c r l → allM c r ls = (1, 1, true) → InR 1 1 (goL c r l ls)
  | [], c, r, l, h, e => by
    unfold allM at e
    simp only [Prod.mk.injEq] at e
    obtain ⟨rfl, rfl, _⟩ := e
    exact h
  | p :: ls, c, r, l, h, e => by
    obtain ⟨h1, h2⟩ := allM_first e
    exact go_in ls _ _ _ (step_in h1 h) h2
theorem fold_in {s : Sc} (h : rightM s = true) : InR 1 1 (foldL s) := by
  obtain ⟨hc, hr, _, _, ha⟩ := right_bounds h
  exact go_in _ _ _ _ (init_in hc.1 hr.1) ha
/-- What panels' flips are, by their numbers. -/
theorem pan_flips {s : Sc} (h : rightM s = true) : ∃ K L, ∀ j (hj : j < (panL s).length), (bI ((panL s)[j]'hj).fx + (j : Int).tmod s.c) % 2 = K ∧ (bI ((panL s)[j]'hj).fy + (j : Int).tdiv s.c) % 2 = L := by
  obtain ⟨K, hK⟩ := fold_parX s
  obtain ⟨L, hL⟩ := fold_parY s
  refine ⟨K, L, fun j hj => ?_⟩
  have hj2 : j < (pcL s).length := by rw [pcL_length, ← panL_length]; exact hj
  obtain ⟨k, hk, e1, e2⟩ := panL_at s j hj2
  rw [List.getElem?_eq_getElem hj, Option.some.injEq] at e2
  rw [e2]
  have hkf : k < (foldL s).length := by simpa [pcL] using hk
  have hm : (foldL s)[k] ∈ foldL s := List.getElem_mem hkf
  have hp : (pcL s)[k] = toPc ((foldL s)[k]) := by simp [pcL]
  rw [hp] at e1 ⊢
  have i := fold_in h _ hm
  have kx := hK _ hm
  have ky := hL _ hm
  simp only [toPc] at e1 ⊢
  rw [e1] at kx ky
  omega
end Go.Proofs.YtbfigaadbfggcaaGreatDoor
