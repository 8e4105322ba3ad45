/- What grid's calls that look at no thing answer (isSide, fits), and plain facts on places. -/
import Derived.Test.YtnofncibplgmpaaProg
import Derived.Test.YtnofncibplgmpaaRefIn
import Derived.Test.YtnofncibplgmpaaBoxes
import Derived.Test.YtnofncibplgmpaaQuietTail
import Derived.IntWalk
import Derived.Laws.AppendOwn
import Derived.Lib.Hide
namespace Go.Proofs.Ytnofncibplgmpaa
open Go.RowKit
set_option linter.unusedVariables false

/-- There is such a place. -/
def hasB (c r col row : Int) : Bool := decide (0 ≤ col) && decide (col < c) && (decide (0 ≤ row) && decide (row < r))
theorem isSide_any (n : Int) (w : World) :
    Calls Try.prog 48 #[.int .i64 n] w fun e w' => e = .returned (.bool (inB n 1 64)) ∧ w' = w := by
  by_cases h1 : 1 ≤ n <;> by_cases h2 : n ≤ 64
  all_goals
    go_enter Try.func48, Try.ntmps48
    go_wp2
    go_ret
    exact ⟨by simp [inB, h1, h2], rfl⟩
theorem Bx.upne {w w' : World} {B : Nat} {vs : List Value} (h : Bx w B vs) (hne : 0 < vs.length) (hb : Below w.heap.size w w') : Bx w' B vs := by
  cases vs with
  | nil => simp at hne
  | cons v0 vs => exact h.up hb
theorem Bx.ltne {w : World} {B : Nat} {vs : List Value} (h : Bx w B vs) (hne : 0 < vs.length) : B < w.heap.size := by
  cases vs with
  | nil => simp at hne
  | cons v0 vs => exact h.lt
/-- Another block that was written leaves a grid as it was. -/
theorem Bx.kept {w w' : World} {B : Nat} {vs : List Value} (h : Bx w B vs) (hne : 0 < vs.length) {row : Option Nat} (hg : w.grownBy w' row) (hr : some B ≠ row) : Bx w' B vs :=
  have e := hg.block B (h.ltne hne) hr
  ⟨fun j v hj => (World.cell?_of_block (a := ⟨B, j, none⟩) e).trans (h.1 j v hj), fun j => (World.frozen?_of_block (a := ⟨B, j, none⟩) e).trans (h.2 j)⟩
/-- Where a thing stands in the list. -/
def at1 (c col row : Int) : Nat := (row * c + col).toNat
theorem at1_lt {c r col row : Int} (h : hasB c r col row = true) : 0 ≤ row * c + col ∧ row * c + col < c * r ∧ 0 ≤ row * c := by
  simp [hasB] at h
  obtain ⟨⟨h1, h2⟩, h3, h4⟩ := h
  have a : 0 ≤ row * c := Int.mul_nonneg h3 (by omega)
  have b : (row + 1) * c ≤ r * c := Int.mul_le_mul_of_nonneg_right (by omega) (by omega)
  rw [Int.add_mul, Int.one_mul] at b
  rw [Int.mul_comm c r]
  omega
theorem grown_of_below {w w' : World} (h : Below w.heap.size w w') (A : Nat) (k : Nat) (v : Value) : w.grownBy (w'.setCell ⟨A, k, none⟩ v) (some A) :=
  ⟨h.os, h.tape, h.output, by have := h.size; simpa [World.setCell] using this, fun j hj hne => (Below.heap_setCell _ _ _ _ (fun e => hne (by rw [e]))).trans (h.block j hj)⟩
theorem grown_refl (w : World) (row : Option Nat) : w.grownBy w row := ⟨rfl, rfl, rfl, Nat.le_refl _, fun _ _ _ => rfl⟩
/-- n of a side, at least one, are there from f on. -/
def fitB (f n side : Int) : Bool := decide (0 ≤ f) && (decide (1 ≤ n) && decide (f ≤ side - n))
theorem fits_any (f n side : Int) (hs : 0 ≤ side) (hs2 : side ≤ 64) (hn : n ≤ 9223372036854775807) (w : World) :
    Calls Try.prog 57 #[.int .i64 f, .int .i64 n, .int .i64 side] w fun e w' => e = .returned (.bool (fitB f n side)) ∧ w' = w := by
  by_cases h1 : 0 ≤ f
  · by_cases h2 : 1 ≤ n
    · have wn : IntKind.i64.wrap (side - n) = side - n := IntWalk.i64_in _ (by omega)
      by_cases h3 : f ≤ side - n
      all_goals
        go_enter Try.func57, Try.ntmps57
        go_wp2
        go_ret
        exact ⟨by simp [fitB]; omega, rfl⟩
    · go_enter Try.func57, Try.ntmps57
      go_wp2
      go_ret
      exact ⟨by simp [fitB]; omega, rfl⟩
  · go_enter Try.func57, Try.ntmps57
    go_wp2
    go_ret
    exact ⟨by simp [fitB]; omega, rfl⟩
theorem calls_b {f : FuncId} {args : Array Value} {w : World} {v : Value} (h : Calls Try.prog f args w fun e w' => e = .returned v ∧ w' = w) : Calls Try.prog f args w fun e w' => e = .returned v ∧ Below w.heap.size w w' :=
  h.mono fun e w' ⟨he, hw⟩ => ⟨he, by rw [hw]; exact Below.refl _ _⟩
theorem fit_in {f n side : Int} (h : fitB f n side = true) (hs : side ≤ 64) : inB n 1 64 = true ∧ 0 ≤ f ∧ f + n ≤ side := by
  simp [fitB] at h
  exact ⟨by simp [inB]; omega, by omega, by omega⟩
end Go.Proofs.Ytnofncibplgmpaa
