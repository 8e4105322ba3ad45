/- Plain facts of lists: what is laid place by place into a part, or into a mirrored grid, stands where the document says. -/
import Derived.Test.YtnofncibplgmpaaSheetMirror
import Derived.Test.YtnofncibplgmpaaGridPlaces
namespace Go.Proofs.Ytnofncibplgmpaa
open Go.RowKit
set_option linter.unusedVariables false

def wantPs (c col row pc pr : Int) (l : List Ptr) : List Ptr := (List.range (pc * pr).toNat).map fun k => l[(srcP c col row pc k).toNat]?.getD none
theorem part_eqS (c r col row pc pr : Int) (l : List Ptr) (hl : (l.length : Int) = c * r) (hc : 1 ≤ c) (hc64 : c ≤ 64) (hr64 : r ≤ 64) (h0 : 0 ≤ col) (h1 : col + pc ≤ c) (h2 : 0 ≤ row) (h3 : row + pr ≤ r) (hp : 1 ≤ pc) (hq : 1 ≤ pr) :
    foldPs pc pr col row (ptS c l l.length) = wantPs c col row pc pr l := by
  have hm : 0 ≤ pc * pr := Int.mul_nonneg (by omega) (by omega)
  unfold foldPs ptS wantPs
  rw [List.foldl_map]
  refine fold_sets none l l.length (pc * pr).toNat _ (fun k => if hasB pc pr (wrap64 ((k : Int).tmod c - col)) (wrap64 ((k : Int).tdiv c - row)) = true then some (at1 pc (wrap64 ((k : Int).tmod c - col)) (wrap64 ((k : Int).tdiv c - row))) else none) (fun k => (srcP c col row pc k).toNat) ?_ ?_ ?_
  · intro L k
    simp only [stepPs, setS]
    split <;> rfl
  · intro k j hk hj
    obtain ⟨x, y, e1, e2, b0, b1, b2, b3, b4⟩ := split_place k c r hc (by omega)
    obtain ⟨x', y', f1, f2, d0, d1, d2, d3, d4⟩ := split_place j pc pr hp (by omega)
    have hsr := srcP_lt (c := c) (r := r) (col := col) (row := row) (pc := pc) (pr := pr) hc h0 h1 h2 h3 hp j (by omega)
    rw [e1, e2, IntWalk.wrap64_in (x - col) (by omega), IntWalk.wrap64_in (y - row) (by omega)]
    have hsv : srcP c col row pc j = (row + y') * c + (col + x') := by unfold srcP; rw [f1, f2, Int.add_assoc]
    constructor
    · intro h
      split at h
      · rename_i hh
        have hat := at1_lt hh
        simp [hasB] at hh
        obtain ⟨⟨g1, g2⟩, g3, g4⟩ := hh
        injection h with h
        unfold at1 at h
        have hj2 : (j : Int) = (y - row) * pc + (x - col) := by omega
        obtain ⟨t1, t2⟩ := td (y - row) (x - col) pc (by omega) (by omega) (by omega)
        rw [← hj2, f1] at t2
        rw [← hj2, f2] at t1
        have : srcP c col row pc j = k := by
          rw [hsv, t1, t2, ← b4]
          congr 1
          · congr 1; omega
          · omega
        omega
      · cases h
    · intro h
      have hk2 : (row + y') * c + (col + x') = (k : Int) := by rw [← hsv]; omega
      obtain ⟨t1, t2⟩ := td (row + y') (col + x') c (by omega) (by omega) (by omega)
      rw [hk2, e2] at t1
      rw [hk2, e1] at t2
      have e3 : x - col = x' := by omega
      have e4 : y - row = y' := by omega
      rw [e3, e4, if_pos (by simp [hasB]; omega)]
      unfold at1
      rw [d4]
      simp
  · intro j hj
    have hsr := srcP_lt (c := c) (r := r) (col := col) (row := row) (pc := pc) (pr := pr) hc h0 h1 h2 h3 hp j (by omega)
    omega

def wantMs (up : Bool) (c r : Int) (l : List Ptr) : List Ptr := (List.range (c * r).toNat).map fun k => l[(srcM up c r k).toNat]?.getD none
theorem mirror_eqS (up : Bool) (c r : Int) (l : List Ptr) (hl : (l.length : Int) = c * r) (hc : 1 ≤ c) (hc64 : c ≤ 64) (hr64 : r ≤ 64) (hr : 1 ≤ r) :
    foldMs up c r (ptS c l l.length) = wantMs up c r l := by
  have hm : 0 ≤ c * r := Int.mul_nonneg (by omega) (by omega)
  have hlm : l.length = (c * r).toNat := by omega
  unfold foldMs ptS wantMs
  rw [List.foldl_map]
  have hk : ∀ k : Nat, k < l.length → (if up = true then (if hasB c r (wrap64 (c - 1 - (k : Int).tmod c)) ((k : Int).tdiv c) = true then some (at1 c (wrap64 (c - 1 - (k : Int).tmod c)) ((k : Int).tdiv c)) else none) else (if hasB c r ((k : Int).tmod c) (wrap64 (r - 1 - (k : Int).tdiv c)) = true then some (at1 c ((k : Int).tmod c) (wrap64 (r - 1 - (k : Int).tdiv c))) else none)) = some (srcM up c r k).toNat := by
    intro k hk
    obtain ⟨x, y, e1, e2, b0, b1, b2, b3, b4⟩ := split_place k c r hc (by omega)
    rw [e1, e2, IntWalk.wrap64_in (c - 1 - x) (by omega), IntWalk.wrap64_in (r - 1 - y) (by omega)]
    cases up
    · rw [if_neg (by simp), if_pos (by simp [hasB]; omega)]
      simp [srcM, at1, e1, e2]
    · rw [if_pos rfl, if_pos (by simp [hasB]; omega)]
      simp [srcM, at1, e1, e2]
  refine fold_sets none l l.length (c * r).toNat _ (fun k => if up = true then (if hasB c r (wrap64 (c - 1 - (k : Int).tmod c)) ((k : Int).tdiv c) = true then some (at1 c (wrap64 (c - 1 - (k : Int).tmod c)) ((k : Int).tdiv c)) else none) else (if hasB c r ((k : Int).tmod c) (wrap64 (r - 1 - (k : Int).tdiv c)) = true then some (at1 c ((k : Int).tmod c) (wrap64 (r - 1 - (k : Int).tdiv c))) else none)) (fun k => (srcM up c r k).toNat) ?_ ?_ ?_
  · intro L k
    cases up
    · simp only [stepMs, setS, Bool.false_eq_true, if_false]
      split <;> rfl
    · simp only [stepMs, setS, if_true]
      split <;> rfl
  · intro k j hkl hj
    have e := hk k hkl
    constructor
    · intro h
      rw [e] at h
      injection h with h
      rw [← h]
      exact srcM_twice up hc k (by omega)
    · intro h
      rw [e, ← h]
      rw [srcM_twice up hc j (by omega)]
  · intro j hj
    have := srcM_lt up (c := c) (r := r) hc j (by omega)
    omega

theorem wantMs_length (up : Bool) (c r : Int) (l : List Ptr) : (wantMs up c r l).length = (c * r).toNat := by simp [wantMs]
theorem wantPs_length (c col row pc pr : Int) (l : List Ptr) : (wantPs c col row pc pr l).length = (pc * pr).toNat := by simp [wantPs]
end Go.Proofs.Ytnofncibplgmpaa
