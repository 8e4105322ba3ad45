/- What box.Corners hands back: a function that yields the four corners in order, as long as they are wanted, whatever is done with each. -/
import Derived.RangeFuncNested
import Derived.RangeFuncBound
import Derived.RangeFuncCalls
import Derived.RangeFuncLeaves
import Derived.Shelf.Abstract
import Derived.Shelf.RegionOpen
import Derived.WalkKit
import Derived.OwnWalkIn
import Derived.TacticsInMore
import Derived.LoopNIn
import Derived.LoopIn
import Derived.Maps.AppendAt
import Derived.Test.YtgfbgmkooflhbaaBoxCells
namespace Go.Proofs.Ytgfbgmkooflhbaa
open Go.RowKit Go.Shelf
set_option linter.unusedVariables false
attribute [local go_sem] Oper.semAt_some

/-- The corners, from X0 Y0 on, by way of X1 Y0. -/
def corners (a0 a1 a2 a3 : Int) : List (Int × Int) := [(a0, a1), (a2, a1), (a2, a3), (a0, a3)]

theorem corners_call (F : Fence) (n : Nat) (hf : F.fn 28) (hro : F.round = none) (a0 a1 a2 a3 : Int) (w : World) :
    CallsIn F n Try.prog 28 #[.agg #[.int .i64 a0, .int .i64 a1, .int .i64 a2, .int .i64 a3]] w fun e w' => e = .returned (.func (.func 29) #[] #[.pointer (some ⟨w.heap.size, 0, none⟩)]) ∧ w' = w.alloc (.cells #[.int .i64 a0, .int .i64 a1, .int .i64 a2, .int .i64 a3] 23) := by
  refine callsIn_of_wp Try.func28 rfl hf ?_ hro
  simp only [Try.ntmps28, List.size_toArray, List.length_cons, List.length_nil, Nat.reduceAdd, Nat.reduceSub, Array.replicate_succ, Array.replicate_zero, List.push_toArray, List.append_toArray, List.nil_append, List.cons_append]
  gi_wp2
  go_ret
  exact ⟨rfl, rfl⟩

set_option maxRecDepth 100000 in
set_option maxHeartbeats 4000000 in
theorem corners_in (F : Fence) (n : Nat) (hf : F.fn 29) (hro : F.round = none) (hn : 1 ≤ n) (l B n₀ : Nat) (a0 a1 a2 a3 : Int) (J Jx : List (Int × Int) → World → Prop)
    (hal : ∀ pre W o, J pre W → J pre (W.alloc o))
    (hY : ∀ pre x W, J pre W → pre.length < 4 → YieldAt F (n - 1) Try.prog l #[.agg #[.int .i64 x.1, .int .i64 x.2]] W fun e W' =>
      (e = .returned (.bool true) ∧ J (pre ++ [x]) W' ∧ Below n₀ W W') ∨ (e = .returned (.bool false) ∧ Jx (pre ++ [x]) W'))
    (W : World) (hB : C4 W B a0 a1 a2 a3) (h0 : J [] W) :
    CallsIn F n Try.prog 29 #[.func (.yield l) #[] #[], .pointer (some ⟨B, 0, none⟩)] W fun e W' => (∃ v, e = .returned v) ∧
      ((∃ ys, ys = corners a0 a1 a2 a3 ∧ J ys W') ∨ (∃ pre, pre <+: corners a0 a1 a2 a3 ∧ Jx pre W')) := by
  refine callsIn_of_wp Try.func29 rfl hf ?_ hro
  simp only [Try.ntmps29, List.size_toArray, List.length_cons, List.length_nil, Nat.reduceAdd, Nat.reduceSub, Array.replicate_succ, Array.replicate_zero, List.push_toArray, List.append_toArray, List.nil_append, List.cons_append]
  obtain ⟨b0, b1, b2, b3⟩ := hB
  gi_wp2
  gi_loopw [28] (fun i wr => ∃ k : Nat, k ≤ 4 ∧ i = .int .i64 (k : Int) ∧ J ((corners a0 a1 a2 a3).take k) wr) (fun i _ => 4 - (intOf i).toNat)
  case atStart =>
    exact ⟨0, by omega, by go_num, hal _ _ _ h0⟩
  case round =>
    obtain ⟨k, hk, rfl, hJ⟩ := hrel
    have hc : k = 0 ∨ k = 1 ∨ k = 2 ∨ k = 3 ∨ k = 4 := by omega
    rcases hc with rfl | rfl | rfl | rfl | rfl
    · have hJ' := hal _ _ (.cells #[.int .i64 a0, .int .i64 a1] 42) hJ
      obtain ⟨fn, tmps, assign, body, hy, hR⟩ := hY _ (a0, a1) _ hJ' (by simp [corners])
      have ix : ∀ w : World, (Instr.index 51 (.agg #[.int .i64 a0, .int .i64 a1, .int .i64 a2, .int .i64 a1, .int .i64 a2, .int .i64 a3, .int .i64 a0, .int .i64 a3]) (.int .i64 0)).run Try.prog w = .ok (.agg #[.int .i64 a0, .int .i64 a1]) w := fun _ => by kernel_rfl
      dsimp only at hy
      gi_wp2
      refine hR.mono ?_
      rintro e W3 (⟨rfl, hJ3, hk3⟩ | ⟨rfl, hJx3⟩)
      · gi_wp2
        go_roundw
        case rel => exact ⟨0 + 1, by omega, by go_num, hJ3⟩
        case measure => simp [intOf]
      · gi_wp2
        refine bodyPost_ret (results_none rfl _ _ _) rfl ?_
        exact ⟨⟨_, rfl⟩, .inr ⟨_, ⟨(corners a0 a1 a2 a3).drop (0 + 1), rfl⟩, hJx3⟩⟩
    · have hJ' := hal _ _ (.cells #[.int .i64 a2, .int .i64 a1] 42) hJ
      obtain ⟨fn, tmps, assign, body, hy, hR⟩ := hY _ (a2, a1) _ hJ' (by simp [corners])
      have ix : ∀ w : World, (Instr.index 51 (.agg #[.int .i64 a0, .int .i64 a1, .int .i64 a2, .int .i64 a1, .int .i64 a2, .int .i64 a3, .int .i64 a0, .int .i64 a3]) (.int .i64 1)).run Try.prog w = .ok (.agg #[.int .i64 a2, .int .i64 a1]) w := fun _ => by kernel_rfl
      dsimp only at hy
      gi_wp2
      refine hR.mono ?_
      rintro e W3 (⟨rfl, hJ3, hk3⟩ | ⟨rfl, hJx3⟩)
      · gi_wp2
        go_roundw
        case rel => exact ⟨1 + 1, by omega, by go_num, hJ3⟩
        case measure => simp [intOf]
      · gi_wp2
        refine bodyPost_ret (results_none rfl _ _ _) rfl ?_
        exact ⟨⟨_, rfl⟩, .inr ⟨_, ⟨(corners a0 a1 a2 a3).drop (1 + 1), rfl⟩, hJx3⟩⟩
    · have hJ' := hal _ _ (.cells #[.int .i64 a2, .int .i64 a3] 42) hJ
      obtain ⟨fn, tmps, assign, body, hy, hR⟩ := hY _ (a2, a3) _ hJ' (by simp [corners])
      have ix : ∀ w : World, (Instr.index 51 (.agg #[.int .i64 a0, .int .i64 a1, .int .i64 a2, .int .i64 a1, .int .i64 a2, .int .i64 a3, .int .i64 a0, .int .i64 a3]) (.int .i64 2)).run Try.prog w = .ok (.agg #[.int .i64 a2, .int .i64 a3]) w := fun _ => by kernel_rfl
      dsimp only at hy
      gi_wp2
      refine hR.mono ?_
      rintro e W3 (⟨rfl, hJ3, hk3⟩ | ⟨rfl, hJx3⟩)
      · gi_wp2
        go_roundw
        case rel => exact ⟨2 + 1, by omega, by go_num, hJ3⟩
        case measure => simp [intOf]
      · gi_wp2
        refine bodyPost_ret (results_none rfl _ _ _) rfl ?_
        exact ⟨⟨_, rfl⟩, .inr ⟨_, ⟨(corners a0 a1 a2 a3).drop (2 + 1), rfl⟩, hJx3⟩⟩
    · have hJ' := hal _ _ (.cells #[.int .i64 a0, .int .i64 a3] 42) hJ
      obtain ⟨fn, tmps, assign, body, hy, hR⟩ := hY _ (a0, a3) _ hJ' (by simp [corners])
      have ix : ∀ w : World, (Instr.index 51 (.agg #[.int .i64 a0, .int .i64 a1, .int .i64 a2, .int .i64 a1, .int .i64 a2, .int .i64 a3, .int .i64 a0, .int .i64 a3]) (.int .i64 3)).run Try.prog w = .ok (.agg #[.int .i64 a0, .int .i64 a3]) w := fun _ => by kernel_rfl
      dsimp only at hy
      gi_wp2
      refine hR.mono ?_
      rintro e W3 (⟨rfl, hJ3, hk3⟩ | ⟨rfl, hJx3⟩)
      · gi_wp2
        go_roundw
        case rel => exact ⟨3 + 1, by omega, by go_num, hJ3⟩
        case measure => simp [intOf]
      · gi_wp2
        refine bodyPost_ret (results_none rfl _ _ _) rfl ?_
        exact ⟨⟨_, rfl⟩, .inr ⟨_, ⟨(corners a0 a1 a2 a3).drop (3 + 1), rfl⟩, hJx3⟩⟩
    · gi_wp2
      go_end0
      exact ⟨⟨_, rfl⟩, .inl ⟨_, rfl, hJ⟩⟩

/-- What Corners hands back, as a range over it sees it. -/
theorem corners_stops (F : Fence) (n : Nat) (hf : F.fn 29) (hro : F.round = none) (hn : 1 ≤ n) (B n₀ : Nat) (a0 a1 a2 a3 : Int) (w : World) (hc : C4 w B a0 a1 a2 a3) :
    SeqStopsK F n Try.prog 29 #[.pointer (some ⟨B, 0, none⟩)] (fun x : Int × Int => #[Value.agg #[.int .i64 x.1, .int .i64 x.2]]) (Below n₀) (fun ys => ys = corners a0 a1 a2 a3) (fun pre => pre <+: corners a0 a1 a2 a3) 4 w := fun l J Jx W hW hJ _ hY h0 =>
  corners_in F n hf hro hn l B n₀ a0 a1 a2 a3 J Jx (fun pre W o h => hJ pre W _ none h (World.grownBy_alloc W o none) (fun r e => by cases e)) hY W (hc.up hW) h0
end Go.Proofs.Ytgfbgmkooflhbaa
