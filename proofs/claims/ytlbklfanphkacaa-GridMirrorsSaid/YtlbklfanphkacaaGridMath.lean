/- Plain facts of lists: what is laid place by place into a part, or into a mirrored grid, stands where the document says. -/
import Derived.Test.YtlbklfanphkacaaGridMirror
import Derived.Test.YtlbklfanphkacaaGridIs
namespace Go.Proofs.Ytlbklfanphkacaa
open Go.RowKit
set_option linter.unusedVariables false

theorem td (a b c : Int) (ha : 0 ≤ a) (hb : 0 ≤ b) (hbc : b < c) : (a * c + b).tdiv c = a ∧ (a * c + b).tmod c = b := by
  have h0 : 0 ≤ a * c := Int.mul_nonneg ha (by omega)
  rw [Int.tdiv_eq_ediv_of_nonneg (by omega), Int.tmod_eq_emod_of_nonneg (by omega), Int.add_comm]
  refine ⟨?_, ?_⟩
  · rw [Int.add_mul_ediv_right _ _ (by omega), Int.ediv_eq_zero_of_lt hb hbc]
    omega
  · rw [Int.add_mul_emod_self_right, Int.emod_eq_of_lt hb hbc]

/-- Things laid one by one: each place has what came from its own source. -/
theorem fold_sets (l : List Int) (n m : Nat) (f : List Int → Nat → List Int) (t : Nat → Option Nat) (s : Nat → Nat)
    (hf : ∀ L k, f L k = match t k with
      | none => L
      | some j => L.set j (l[k]?.getD 0))
    (ht : ∀ k j, k < n → j < m → (t k = some j ↔ s j = k)) (hs : ∀ j, j < m → s j < n) :
    (List.range n).foldl f (List.replicate m 0) = (List.range m).map fun j => l[s j]?.getD 0 := by
  have key : ∀ k, k ≤ n → ((List.range k).foldl f (List.replicate m 0)).length = m ∧ ∀ j, j < m → ((List.range k).foldl f (List.replicate m 0))[j]? = some (if s j < k then l[s j]?.getD 0 else 0) := by
    intro k
    induction k with
    | zero => intro _; exact ⟨by simp, fun j hj => by simp [hj]⟩
    | succ k ih =>
      intro hk
      obtain ⟨h1, h2⟩ := ih (by omega)
      rw [List.range_succ, List.foldl_append]
      generalize (List.range k).foldl f (List.replicate m 0) = L at *
      simp only [List.foldl_cons, List.foldl_nil, hf]
      cases e : t k with
      | none =>
        refine ⟨h1, fun j hj => ?_⟩
        rw [h2 j hj]
        have : s j ≠ k := fun h => by rw [(ht k j (by omega) hj).2 h] at e; cases e
        by_cases h : s j < k
        · rw [if_pos h, if_pos (by omega)]
        · rw [if_neg h, if_neg (by omega)]
      | some i =>
        refine ⟨by rw [List.length_set]; exact h1, fun j hj => ?_⟩
        show (L.set i _)[j]? = _
        rw [List.getElem?_set]
        by_cases h : i = j
        · subst h
          have : s i = k := (ht k i (by omega) hj).1 e
          rw [if_pos rfl, if_pos (by omega), this, if_pos (by omega)]
        · rw [if_neg h, h2 j hj]
          have : s j ≠ k := fun h' => by rw [(ht k j (by omega) hj).2 h'] at e; injection e; omega
          by_cases h : s j < k
          · rw [if_pos h, if_pos (by omega)]
          · rw [if_neg h, if_neg (by omega)]
  obtain ⟨h1, h2⟩ := key n (Nat.le_refl _)
  apply List.ext_getElem?
  intro j
  by_cases hj : j < m
  · rw [h2 j hj, if_pos (hs j hj)]
    simp [hj]
  · rw [List.getElem?_eq_none (by omega), List.getElem?_eq_none (by simp; omega)]

/-- A place in the list, as column and row. -/
theorem split_place (k : Nat) (c r : Int) (hc : 1 ≤ c) (hk : (k : Int) < c * r) : ∃ x y : Int, (k : Int).tmod c = x ∧ (k : Int).tdiv c = y ∧ 0 ≤ x ∧ x < c ∧ 0 ≤ y ∧ y < r ∧ y * c + x = k := by
  have h1 := Int.mul_tdiv_add_tmod (k : Int) c
  have h2 : 0 ≤ (k : Int).tmod c := Int.tmod_nonneg _ (by omega)
  have h3 : (k : Int).tmod c < c := Int.tmod_lt_of_pos _ (by omega)
  have h4 : 0 ≤ (k : Int).tdiv c := Int.tdiv_nonneg (by omega) (by omega)
  refine ⟨_, _, rfl, rfl, h2, h3, h4, ?_, by rw [Int.mul_comm]; exact h1⟩
  generalize (k : Int).tmod c = m at *
  generalize (k : Int).tdiv c = d at *
  have : c * d < c * r := by omega
  exact Int.lt_of_mul_lt_mul_left this (by omega)
theorem place_lt {c r x y : Int} (hc : 1 ≤ c) (hx : 0 ≤ x) (hx2 : x < c) (hy : 0 ≤ y) (hy2 : y < r) : 0 ≤ y * c + x ∧ y * c + x < c * r := by
  have a : 0 ≤ y * c := Int.mul_nonneg hy (by omega)
  have b : (y + 1) * c ≤ r * c := Int.mul_le_mul_of_nonneg_right (by omega) (by omega)
  rw [Int.add_mul, Int.one_mul] at b
  rw [Int.mul_comm c r]
  omega

/-- Where the k-th thing of a part stood. -/
def srcP (c col row pc : Int) (k : Nat) : Int := (row + (k : Int).tdiv pc) * c + col + (k : Int).tmod pc
def wantP (c col row pc pr : Int) (l : List Int) : List Int := (List.range (pc * pr).toNat).map fun k => l[(srcP c col row pc k).toNat]?.getD 0
theorem srcP_lt {c r col row pc pr : Int} (hc : 1 ≤ c) (h0 : 0 ≤ col) (h1 : col + pc ≤ c) (h2 : 0 ≤ row) (h3 : row + pr ≤ r) (hp : 1 ≤ pc) (k : Nat) (hk : (k : Int) < pc * pr) : 0 ≤ srcP c col row pc k ∧ srcP c col row pc k < c * r := by
  obtain ⟨x, y, e1, e2, b0, b1, b2, b3, b4⟩ := split_place k pc pr hp hk
  unfold srcP
  rw [e1, e2, Int.add_assoc]
  exact place_lt hc (by omega) (by omega) (by omega) (by omega)

theorem part_eq (c r col row pc pr : Int) (l : List Int) (hl : (l.length : Int) = c * r) (hc : 1 ≤ c) (hc64 : c ≤ 64) (hr64 : r ≤ 64) (h0 : 0 ≤ col) (h1 : col + pc ≤ c) (h2 : 0 ≤ row) (h3 : row + pr ≤ r) (hp : 1 ≤ pc) (hq : 1 ≤ pr) :
    foldP pc pr col row (pts c l l.length) = wantP c col row pc pr l := by
  have hm : 0 ≤ pc * pr := Int.mul_nonneg (by omega) (by omega)
  unfold foldP pts wantP
  rw [List.foldl_map]
  refine fold_sets l l.length (pc * pr).toNat _ (fun k => if hasB pc pr (wrap64 ((k : Int).tmod c - col)) (wrap64 ((k : Int).tdiv c - row)) = true then some (at1 pc (wrap64 ((k : Int).tmod c - col)) (wrap64 ((k : Int).tdiv c - row))) else none) (fun k => (srcP c col row pc k).toNat) ?_ ?_ ?_
  · intro L k
    simp only [stepP, setL]
    split <;> rfl
  · intro k j hk hj
    obtain ⟨x, y, e1, e2, b0, b1, b2, b3, b4⟩ := split_place k c r hc (by omega)
    obtain ⟨x', y', f1, f2, d0, d1, d2, d3, d4⟩ := split_place j pc pr hp (by omega)
    have hsr := srcP_lt (c := c) (r := r) (col := col) (row := row) (pc := pc) (pr := pr) hc h0 h1 h2 h3 hp j (by omega)
    rw [e1, e2, IntWalk.wrap64_in (x - col) (by omega), IntWalk.wrap64_in (y - row) (by omega)]
    have hsv : srcP c col row pc j = (row + y') * c + (col + x') := by unfold srcP; rw [f1, f2, Int.add_assoc]
    constructor
    · intro h
      split at h
      · rename_i hh
        have hat := at1_lt hh
        simp [hasB] at hh
        obtain ⟨⟨g1, g2⟩, g3, g4⟩ := hh
        injection h with h
        unfold at1 at h
        have hj2 : (j : Int) = (y - row) * pc + (x - col) := by omega
        obtain ⟨t1, t2⟩ := td (y - row) (x - col) pc (by omega) (by omega) (by omega)
        rw [← hj2, f1] at t2
        rw [← hj2, f2] at t1
        have : srcP c col row pc j = k := by
          rw [hsv, t1, t2, ← b4]
          congr 1
          · congr 1; omega
          · omega
        omega
      · cases h
    · intro h
      have hk2 : (row + y') * c + (col + x') = (k : Int) := by rw [← hsv]; omega
      obtain ⟨t1, t2⟩ := td (row + y') (col + x') c (by omega) (by omega) (by omega)
      rw [hk2, e2] at t1
      rw [hk2, e1] at t2
      have e3 : x - col = x' := by omega
      have e4 : y - row = y' := by omega
      rw [e3, e4, if_pos (by simp [hasB]; omega)]
      unfold at1
      rw [d4]
      simp
  · intro j hj
    have hsr := srcP_lt (c := c) (r := r) (col := col) (row := row) (pc := pc) (pr := pr) hc h0 h1 h2 h3 hp j (by omega)
    omega

/-- Where the k-th thing of a mirrored grid stood. -/
def srcM (up : Bool) (c r : Int) (k : Nat) : Int := if up = true then (k : Int).tdiv c * c + (c - 1 - (k : Int).tmod c) else (r - 1 - (k : Int).tdiv c) * c + (k : Int).tmod c
def wantM (up : Bool) (c r : Int) (l : List Int) : List Int := (List.range (c * r).toNat).map fun k => l[(srcM up c r k).toNat]?.getD 0
theorem srcM_lt (up : Bool) {c r : Int} (hc : 1 ≤ c) (k : Nat) (hk : (k : Int) < c * r) : 0 ≤ srcM up c r k ∧ srcM up c r k < c * r := by
  obtain ⟨x, y, e1, e2, b0, b1, b2, b3, b4⟩ := split_place k c r hc hk
  unfold srcM
  rw [e1, e2]
  split
  · exact place_lt hc (by omega) (by omega) (by omega) (by omega)
  · exact place_lt hc (by omega) (by omega) (by omega) (by omega)
theorem srcM_twice (up : Bool) {c r : Int} (hc : 1 ≤ c) (k : Nat) (hk : (k : Int) < c * r) : (srcM up c r (srcM up c r k).toNat).toNat = k := by
  obtain ⟨x, y, e1, e2, b0, b1, b2, b3, b4⟩ := split_place k c r hc hk
  have hl := srcM_lt up hc k hk
  have hcast : ((srcM up c r k).toNat : Int) = srcM up c r k := by omega
  cases up
  · have e : srcM false c r k = (r - 1 - y) * c + x := by simp [srcM, e1, e2]
    rw [e] at hcast
    obtain ⟨t1, t2⟩ := td (r - 1 - y) x c (by omega) b0 b1
    have : srcM false c r (srcM false c r k).toNat = k := by
      rw [e]
      simp only [srcM, hcast, t1, t2]
      rw [← b4]
      simp
      congr 1
      omega
    omega
  · have e : srcM true c r k = y * c + (c - 1 - x) := by simp [srcM, e1, e2]
    rw [e] at hcast
    obtain ⟨t1, t2⟩ := td y (c - 1 - x) c b2 (by omega) (by omega)
    have : srcM true c r (srcM true c r k).toNat = k := by
      rw [e]
      simp only [srcM, hcast, t1, t2]
      rw [← b4]
      simp
      omega
    omega

theorem mirror_eq (up : Bool) (c r : Int) (l : List Int) (hl : (l.length : Int) = c * r) (hc : 1 ≤ c) (hc64 : c ≤ 64) (hr64 : r ≤ 64) (hr : 1 ≤ r) :
    foldM up c r (pts c l l.length) = wantM up c r l := by
  have hm : 0 ≤ c * r := Int.mul_nonneg (by omega) (by omega)
  have hlm : l.length = (c * r).toNat := by omega
  unfold foldM pts wantM
  rw [List.foldl_map]
  have hk : ∀ k : Nat, k < l.length → (if up = true then (if hasB c r (wrap64 (c - 1 - (k : Int).tmod c)) ((k : Int).tdiv c) = true then some (at1 c (wrap64 (c - 1 - (k : Int).tmod c)) ((k : Int).tdiv c)) else none) else (if hasB c r ((k : Int).tmod c) (wrap64 (r - 1 - (k : Int).tdiv c)) = true then some (at1 c ((k : Int).tmod c) (wrap64 (r - 1 - (k : Int).tdiv c))) else none)) = some (srcM up c r k).toNat := by
    intro k hk
    obtain ⟨x, y, e1, e2, b0, b1, b2, b3, b4⟩ := split_place k c r hc (by omega)
    rw [e1, e2, IntWalk.wrap64_in (c - 1 - x) (by omega), IntWalk.wrap64_in (r - 1 - y) (by omega)]
    cases up
    · rw [if_neg (by simp), if_pos (by simp [hasB]; omega)]
      simp [srcM, at1, e1, e2]
    · rw [if_pos rfl, if_pos (by simp [hasB]; omega)]
      simp [srcM, at1, e1, e2]
  refine fold_sets l l.length (c * r).toNat _ (fun k => if up = true then (if hasB c r (wrap64 (c - 1 - (k : Int).tmod c)) ((k : Int).tdiv c) = true then some (at1 c (wrap64 (c - 1 - (k : Int).tmod c)) ((k : Int).tdiv c)) else none) else (if hasB c r ((k : Int).tmod c) (wrap64 (r - 1 - (k : Int).tdiv c)) = true then some (at1 c ((k : Int).tmod c) (wrap64 (r - 1 - (k : Int).tdiv c))) else none)) (fun k => (srcM up c r k).toNat) ?_ ?_ ?_
  · intro L k
    cases up
    · simp only [stepM, setL, Bool.false_eq_true, if_false]
      split <;> rfl
    · simp only [stepM, setL, if_true]
      split <;> rfl
  · intro k j hkl hj
    have e := hk k hkl
    constructor
    · intro h
      rw [e] at h
      injection h with h
      rw [← h]
      exact srcM_twice up hc k (by omega)
    · intro h
      rw [e, ← h]
      rw [srcM_twice up hc j (by omega)]
  · intro j hj
    have := srcM_lt up (c := c) (r := r) hc j (by omega)
    omega

theorem wantM_length (up : Bool) (c r : Int) (l : List Int) : (wantM up c r l).length = (c * r).toNat := by simp [wantM]
theorem wantM_twice (up : Bool) (c r : Int) (l : List Int) (hl : (l.length : Int) = c * r) (hc : 1 ≤ c) (hr : 1 ≤ r) : wantM up c r (wantM up c r l) = l := by
  have hm : 0 ≤ c * r := Int.mul_nonneg (by omega) (by omega)
  apply List.ext_getElem?
  intro j
  by_cases hj : j < l.length
  · have h1 := srcM_lt up (c := c) (r := r) hc j (by omega)
    have h2 := srcM_twice up (c := c) (r := r) hc j (by omega)
    have e : (wantM up c r l)[(srcM up c r j).toNat]? = some (l[j]?.getD 0) := by
      unfold wantM
      rw [List.getElem?_map, List.getElem?_range (by omega)]
      simp only [Option.map_some, h2]
    conv => lhs; rw [wantM]
    rw [List.getElem?_map, List.getElem?_range (by omega)]
    simp only [Option.map_some, e, Option.getD_some]
    rw [List.getElem?_eq_getElem hj]
    rfl
  · rw [List.getElem?_eq_none (by rw [wantM_length]; omega), List.getElem?_eq_none (by omega)]
end Go.Proofs.Ytlbklfanphkacaa
