/- Plain facts of places: columns and rows in a list; things laid one by one, each from its own source. -/
import Derived.IntWalk
namespace Go.Proofs.Ytnofncibplgmpaa
set_option linter.unusedVariables false

theorem td (a b c : Int) (ha : 0 ≤ a) (hb : 0 ≤ b) (hbc : b < c) : (a * c + b).tdiv c = a ∧ (a * c + b).tmod c = b := by
  have h0 : 0 ≤ a * c := Int.mul_nonneg ha (by omega)
  rw [Int.tdiv_eq_ediv_of_nonneg (by omega), Int.tmod_eq_emod_of_nonneg (by omega), Int.add_comm]
  refine ⟨?_, ?_⟩
  · rw [Int.add_mul_ediv_right _ _ (by omega), Int.ediv_eq_zero_of_lt hb hbc]
    omega
  · rw [Int.add_mul_emod_self_right, Int.emod_eq_of_lt hb hbc]

/-- Things laid one by one: each place has what came from its own source. -/
theorem fold_sets {α : Type} (d : α) (l : List α) (n m : Nat) (f : List α → Nat → List α) (t : Nat → Option Nat) (s : Nat → Nat)
    (hf : ∀ L k, f L k = match t k with
      | none => L
      | some j => L.set j (l[k]?.getD d))
    (ht : ∀ k j, k < n → j < m → (t k = some j ↔ s j = k)) (hs : ∀ j, j < m → s j < n) :
    (List.range n).foldl f (List.replicate m d) = (List.range m).map fun j => l[s j]?.getD d := by
  have key : ∀ k, k ≤ n → ((List.range k).foldl f (List.replicate m d)).length = m ∧ ∀ j, j < m → ((List.range k).foldl f (List.replicate m d))[j]? = some (if s j < k then l[s j]?.getD d else d) := by
    intro k
    induction k with
    | zero => intro _; exact ⟨by simp, fun j hj => by simp [hj]⟩
    | succ k ih =>
      intro hk
      obtain ⟨h1, h2⟩ := ih (by omega)
      rw [List.range_succ, List.foldl_append]
      generalize (List.range k).foldl f (List.replicate m d) = L at *
      simp only [List.foldl_cons, List.foldl_nil, hf]
      cases e : t k with
      | none =>
        refine ⟨h1, fun j hj => ?_⟩
        rw [h2 j hj]
        have : s j ≠ k := fun h => by rw [(ht k j (by omega) hj).2 h] at e; cases e
        by_cases h : s j < k
        · rw [if_pos h, if_pos (by omega)]
        · rw [if_neg h, if_neg (by omega)]
      | some i =>
        refine ⟨by rw [List.length_set]; exact h1, fun j hj => ?_⟩
        show (L.set i _)[j]? = _
        rw [List.getElem?_set]
        by_cases h : i = j
        · subst h
          have : s i = k := (ht k i (by omega) hj).1 e
          rw [if_pos rfl, if_pos (by omega), this, if_pos (by omega)]
        · rw [if_neg h, h2 j hj]
          have : s j ≠ k := fun h' => by rw [(ht k j (by omega) hj).2 h'] at e; injection e; omega
          by_cases h : s j < k
          · rw [if_pos h, if_pos (by omega)]
          · rw [if_neg h, if_neg (by omega)]
  obtain ⟨h1, h2⟩ := key n (Nat.le_refl _)
  apply List.ext_getElem?
  intro j
  by_cases hj : j < m
  · rw [h2 j hj, if_pos (hs j hj)]
    simp [hj]
  · rw [List.getElem?_eq_none (by omega), List.getElem?_eq_none (by simp; omega)]

/-- A place in the list, as column and row. -/
theorem split_place (k : Nat) (c r : Int) (hc : 1 ≤ c) (hk : (k : Int) < c * r) : ∃ x y : Int, (k : Int).tmod c = x ∧ (k : Int).tdiv c = y ∧ 0 ≤ x ∧ x < c ∧ 0 ≤ y ∧ y < r ∧ y * c + x = k := by
  have h1 := Int.mul_tdiv_add_tmod (k : Int) c
  have h2 : 0 ≤ (k : Int).tmod c := Int.tmod_nonneg _ (by omega)
  have h3 : (k : Int).tmod c < c := Int.tmod_lt_of_pos _ (by omega)
  have h4 : 0 ≤ (k : Int).tdiv c := Int.tdiv_nonneg (by omega) (by omega)
  refine ⟨_, _, rfl, rfl, h2, h3, h4, ?_, by rw [Int.mul_comm]; exact h1⟩
  generalize (k : Int).tmod c = m at *
  generalize (k : Int).tdiv c = d at *
  have : c * d < c * r := by omega
  exact Int.lt_of_mul_lt_mul_left this (by omega)
theorem place_lt {c r x y : Int} (hc : 1 ≤ c) (hx : 0 ≤ x) (hx2 : x < c) (hy : 0 ≤ y) (hy2 : y < r) : 0 ≤ y * c + x ∧ y * c + x < c * r := by
  have a : 0 ≤ y * c := Int.mul_nonneg hy (by omega)
  have b : (y + 1) * c ≤ r * c := Int.mul_le_mul_of_nonneg_right (by omega) (by omega)
  rw [Int.add_mul, Int.one_mul] at b
  rw [Int.mul_comm c r]
  omega

/-- Where the k-th thing of a part stood. -/
def srcP (c col row pc : Int) (k : Nat) : Int := (row + (k : Int).tdiv pc) * c + col + (k : Int).tmod pc
theorem srcP_lt {c r col row pc pr : Int} (hc : 1 ≤ c) (h0 : 0 ≤ col) (h1 : col + pc ≤ c) (h2 : 0 ≤ row) (h3 : row + pr ≤ r) (hp : 1 ≤ pc) (k : Nat) (hk : (k : Int) < pc * pr) : 0 ≤ srcP c col row pc k ∧ srcP c col row pc k < c * r := by
  obtain ⟨x, y, e1, e2, b0, b1, b2, b3, b4⟩ := split_place k pc pr hp hk
  unfold srcP
  rw [e1, e2, Int.add_assoc]
  exact place_lt hc (by omega) (by omega) (by omega) (by omega)

/-- Where the k-th thing of a mirrored grid stood. -/
def srcM (up : Bool) (c r : Int) (k : Nat) : Int := if up = true then (k : Int).tdiv c * c + (c - 1 - (k : Int).tmod c) else (r - 1 - (k : Int).tdiv c) * c + (k : Int).tmod c
theorem srcM_lt (up : Bool) {c r : Int} (hc : 1 ≤ c) (k : Nat) (hk : (k : Int) < c * r) : 0 ≤ srcM up c r k ∧ srcM up c r k < c * r := by
  obtain ⟨x, y, e1, e2, b0, b1, b2, b3, b4⟩ := split_place k c r hc hk
  unfold srcM
  rw [e1, e2]
  split
  · exact place_lt hc (by omega) (by omega) (by omega) (by omega)
  · exact place_lt hc (by omega) (by omega) (by omega) (by omega)
theorem srcM_twice (up : Bool) {c r : Int} (hc : 1 ≤ c) (k : Nat) (hk : (k : Int) < c * r) : (srcM up c r (srcM up c r k).toNat).toNat = k := by
  obtain ⟨x, y, e1, e2, b0, b1, b2, b3, b4⟩ := split_place k c r hc hk
  have hl := srcM_lt up hc k hk
  have hcast : ((srcM up c r k).toNat : Int) = srcM up c r k := by omega
  cases up
  · have e : srcM false c r k = (r - 1 - y) * c + x := by simp [srcM, e1, e2]
    rw [e] at hcast
    obtain ⟨t1, t2⟩ := td (r - 1 - y) x c (by omega) b0 b1
    have : srcM false c r (srcM false c r k).toNat = k := by
      rw [e]
      simp only [srcM, hcast, t1, t2]
      rw [← b4]
      simp
      congr 1
      omega
    omega
  · have e : srcM true c r k = y * c + (c - 1 - x) := by simp [srcM, e1, e2]
    rw [e] at hcast
    obtain ⟨t1, t2⟩ := td y (c - 1 - x) c b2 (by omega) (by omega)
    have : srcM true c r (srcM true c r k).toNat = k := by
      rw [e]
      simp only [srcM, hcast, t1, t2]
      rw [← b4]
      simp
      omega
    omega
/-- A place's number in the list. -/
abbrev Ix (m : Nat) := { k : Nat // k < m }
/-- The first k numbers. -/
def ixs (m k : Nat) : List (Ix m) := (List.range k).filterMap fun i => if h : i < m then some ⟨i, h⟩ else none
theorem ixs_succ {m k : Nat} (h : k < m) : ixs m (k + 1) = ixs m k ++ [⟨k, h⟩] := by simp [ixs, List.range_succ, h]
theorem ixs_zero (m : Nat) : ixs m 0 = [] := rfl
theorem ixs_length {m : Nat} : ∀ k, k ≤ m → (ixs m k).length = k
  | 0, _ => rfl
  | k + 1, h => by rw [ixs_succ (by omega), List.length_append, ixs_length k (by omega)]; rfl
theorem ixs_at {m : Nat} : ∀ (k : Nat), k ≤ m → ∀ j, j < k → ∃ h : j < m, (ixs m k)[j]? = some ⟨j, h⟩
  | 0, _, j, hj => absurd hj (Nat.not_lt_zero _)
  | k + 1, hk, j, hj => by
    rw [ixs_succ (Nat.lt_of_succ_le hk)]
    by_cases h : j < k
    · obtain ⟨h1, h2⟩ := ixs_at k (Nat.le_of_succ_le hk) j h
      refine ⟨h1, ?_⟩
      rw [List.getElem?_append_left (by rw [ixs_length k (Nat.le_of_succ_le hk)]; exact h)]
      exact h2
    · obtain rfl : j = k := by omega
      refine ⟨Nat.lt_of_succ_le hk, ?_⟩
      rw [List.getElem?_append_right (by rw [ixs_length j (Nat.le_of_succ_le hk)]; exact Nat.le_refl _), ixs_length j (Nat.le_of_succ_le hk), Nat.sub_self]
      rfl
end Go.Proofs.Ytnofncibplgmpaa
