/- What the laws' own rising answers of spans that rise, none empty, apart, and each a part of another one: true. -/
import Derived.Test.YtbaadohjlinlpaaSpanRow
import Derived.IntWalk
import Derived.Deep.Light
namespace Go.Proofs.Ytbaadohjlinlpaa
open Go.RowKit
set_option linter.unusedVariables false

/-- The spans rise, none is empty, they are apart, and each is a part of a. -/
def RisingS (l : List (Int × Int)) (a0 a1 : Int) : Prop := ∀ i p, l[i]? = some p → p.1 < p.2 ∧ a0 ≤ p.1 ∧ p.2 ≤ a1 ∧ (∀ j q, i = j + 1 → l[j]? = some q → q.2 ≤ p.1)

def RisRel (n : Nat) (w1 : World) (i : Value) (wr : World) : Prop := ∃ k : Nat, k ≤ n ∧ i = .int .i64 (k : Int) ∧ ∃ u : Later w1, wr = u.now

set_option maxHeartbeats 1000000 in
theorem rising_none (a : Option Addr) (cap : Nat) (a0 a1 : Int) (w : World) :
    Calls Try.prog 17 #[.slice a 0 cap, .agg #[.int .i64 a0, .int .i64 a1]] w fun e w' => e = .returned (.bool true) ∧ Below w.heap.size w w' := by
  go_enter Try.func17, Try.ntmps17
  go_wp2
  refine wp_loop_rounds 1 ?_
  rw [rounds_succ]
  go_wp2
  go_ret
  exact ⟨rfl, up_alloc (Below.refl _ _) _⟩

set_option maxHeartbeats 2000000 in
theorem rising_any (g cap : Nat) (l : List (Int × Int)) (a0 a1 : Int) (w : World) (hl : 0 < l.length) (hm : l.length ≤ 1000000)
    (hc : ∀ i p, l[i]? = some p → w.cell? ⟨g, i * 2, none⟩ = some (.int .i64 p.1) ∧ w.cell? ⟨g, i * 2 + 1, none⟩ = some (.int .i64 p.2)) (hr : RisingS l a0 a1) :
    Calls Try.prog 17 #[.slice (some ⟨g, 0, none⟩) l.length cap, .agg #[.int .i64 a0, .int .i64 a1]] w fun e w' => e = .returned (.bool true) ∧ Below w.heap.size w w' := by
  have HC := Lib.hid hc; have HR := Lib.hid hr; clear hc hr
  generalize hn : l.length = n at *
  have HN := Lib.hid hn; clear hn
  go_enter Try.func17, Try.ntmps17
  go_wp2
  have b0 : (w.alloc (.cells #[.int .i64 a0, .int .i64 a1] 23)).cell? ⟨w.heap.size, 0, none⟩ = some (.int .i64 a0) := by simp
  have b1 : (w.alloc (.cells #[.int .i64 a0, .int .i64 a1] 23)).cell? ⟨w.heap.size, 1, none⟩ = some (.int .i64 a1) := by simp
  have hup : Below w.heap.size w (w.alloc (.cells #[.int .i64 a0, .int .i64 a1] 23)) := up_alloc (Below.refl _ _) _
  generalize (w.alloc (.cells #[.int .i64 a0, .int .i64 a1] 23)) = w1 at *
  have HU := Lib.hid hup
  clear hup
  have k0 := fun u : Later w1 => u.cell b0
  have k1 := fun u : Later w1 => u.cell b1
  clear b0 b1
  go_loopw [5] (fun i wr => RisRel n w1 i wr) (fun i _ => n - (intOf i).toNat)
  case atStart => exact ⟨0, by omega, by go_num, ⟨w1, Below.refl _ _⟩, rfl⟩
  case round =>
    obtain ⟨k, hk, rfl, u, rfl⟩ := hrel
    by_cases hlt : k < n
    · obtain ⟨p, hp⟩ : ∃ p, l[k]? = some p := ⟨l[k]'(by rw [HN.out]; exact hlt), List.getElem?_eq_getElem _⟩
      obtain ⟨r0, r1, r2, r3⟩ := HR.out k p hp
      obtain ⟨c0, c1⟩ := HC.out k p hp
      obtain ⟨p0, p1⟩ := p
      have j0 := fun u : Later w1 => u.cell (bl_cell HU.out c0)
      have j1 := fun u : Later w1 => u.cell (bl_cell HU.out c1)
      have KE := fun w => lawEmpty_b p0 p1 w
      rw [show emp p0 p1 = false by simp only [emp, decide_eq_false_iff_not]; simp only at r0; omega] at KE
      have HE := Lib.hid KE
      have R3 := Lib.hid r3
      simp only at r0 r1 r2 j0 j1
      have d1 : decide (p0 < a0) = false := by simp; omega
      have d2 : decide (a1 < p1) = false := by simp; omega
      have HP := Lib.hid hp
      clear c0 c1 KE r3 hp
      have z0 : (0 : Int) ≤ (k : Int) := by omega
      have z1 : (k : Int) < (n : Int) := by omega
      by_cases hz : k = 0
      · have d3 : decide (0 < k) = false := by simp; omega
        clear hz R3
        go_wp2_with fail
        refine wp_region_later (by kernel_rfl) (by kernel_rfl) ?_
        repeat (go_big_quiet_step ((go_at_call 13; with_reducible exact Later.call (HE.out _))))
        refine wpQuiet_nil ?_
        rintro _ ⟨u2, rfl⟩
        clear d1 d2 d3
        go_wp2
        go_roundw
        case rel => exact ⟨k + 1, by omega, by go_num, u2, rfl⟩
        case measure => simp [intOf]; omega
      · obtain ⟨j, hj⟩ : ∃ j, k = j + 1 := ⟨k - 1, by omega⟩
        obtain ⟨q, hq⟩ : ∃ q, l[j]? = some q := ⟨l[j]'(by rw [HN.out]; omega), List.getElem?_eq_getElem _⟩
        have r4 := R3.out j q hj hq
        obtain ⟨c2, c3⟩ := HC.out j q hq
        obtain ⟨q0, q1⟩ := q
        have j3 := fun u : Later w1 => u.cell (bl_cell HU.out c3)
        simp only at r4 j3
        have d3 : decide (0 < k) = true := by simp; omega
        have d4 : decide (p0 < q1) = false := by simp; omega
        have y0 : (0 : Int) ≤ (j : Int) := by omega
        have y1 : (j : Int) < (n : Int) := by omega
        have hw : IntKind.i64.wrap ((k : Int) - 1) = (j : Int) := by rw [IntWalk.i64_in _ (by omega)]; omega
        have HJ := Lib.hid hj
        clear hj hz c2 c3 hq r4 R3
        go_wp2_with fail
        refine wp_region_later (by kernel_rfl) (by kernel_rfl) ?_
        repeat (go_big_quiet_step ((go_at_call 13; with_reducible exact Later.call (HE.out _))))
        refine wpQuiet_nil ?_
        rintro _ ⟨u2, rfl⟩
        clear d1 d2 d3 d4 hw j3
        go_wp2
        go_roundw
        case rel => exact ⟨k + 1, by omega, by go_num, u2, rfl⟩
        case measure => simp [intOf]; omega
    · have hk2 : n ≤ k := by omega
      go_wp2
      go_ret
      exact ⟨rfl, up_trans HU.out u.up⟩
end Go.Proofs.Ytbaadohjlinlpaa
