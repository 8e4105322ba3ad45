/- What deck.All hands back: a function that yields each place and the thing there, as they stood when the walk began, as long as they are wanted, whatever is done with each. -/
import Derived.RangeFuncNested
import Derived.RangeFuncBound
import Derived.RangeFuncCalls
import Derived.RangeFuncLeaves
import Derived.Shelf.Abstract
import Derived.Shelf.RegionOpen
import Derived.WalkKit
import Derived.OwnWalkIn
import Derived.TacticsInMore
import Derived.LoopNIn
import Derived.LoopIn
import Derived.Maps.AppendAt
import Derived.Lib.SliceRun
import Derived.Test.YtiekhpeekhibeaaDeckCode
import Derived.Test.YtiekhpeekhibeaaRoundQuiet
namespace Go.Proofs.Ytiekhpeekhibeaa
open Go.RowKit Go.Shelf
set_option linter.unusedVariables false

theorem all_any (p : Option Addr) (w : World) :
    Calls Try.prog 24 #[.pointer p] w fun e w' => e = .returned (.func (.func 26) #[] #[.pointer (some ⟨w.heap.size, 0, none⟩)]) ∧ w' = w.alloc (.cells #[.pointer p] 25) := by
  go_enter Try.func24, Try.ntmps24
  go_wp2
  go_ret
  exact ⟨rfl, rfl⟩

/-- What a round may do: lists of numbers that lie there, but for the body's own (O), stay as they are; what is not the body's own does not become so. -/
def KeepI (O : World → Nat → Prop) (W W' : World) : Prop :=
  W.heap.size ≤ W'.heap.size ∧ (∀ b, b < W.heap.size → O W' b → O W b) ∧ ∀ b cur fr, ¬ O W b → W.heap[b]? = some (.cells cur 3 fr) → W'.heap[b]? = some (.cells cur 3 fr)
theorem KeepI.trans {O : World → Nat → Prop} {A B C : World} (h : KeepI O A B) (k : KeepI O B C) : KeepI O A C :=
  ⟨Nat.le_trans h.1 k.1, fun b hb ho => h.2.1 b hb (k.2.1 b (by have := h.1; omega) ho), fun b cur fr hn hc =>
    have hB := h.2.2 b cur fr hn hc
    k.2.2 b cur fr (fun ho => hn (h.2.1 b (Array.getElem?_eq_some_iff.1 hc).1 ho)) hB⟩

/-- A place, and the thing there, as a loop's two variables. -/
def encP (x : Int × Int) : Array Value := #[.int .i64 x.1, .int .i64 x.2]
/-- The first k places, and what stands there. -/
def pts (l : List Int) (k : Nat) : List (Int × Int) := (List.range k).map fun (i : Nat) => ((i : Int), l[i]?.getD 0)
theorem pts_succ (l : List Int) (k : Nat) : pts l (k + 1) = pts l k ++ [((k : Int), l[k]?.getD 0)] := by simp [pts, List.range_succ]
theorem pts_length (l : List Int) (k : Nat) : (pts l k).length = k := by simp [pts]

/-- The iterator's copy: its cells. -/
def Copy (W : World) (D : Nat) (l : List Int) : Prop := ∃ cur fr, W.heap[D]? = some (.cells cur 3 fr) ∧ cur.toList.take l.length = enc l
theorem Copy.lt {W : World} {D : Nat} {l : List Int} (h : Copy W D l) : D < W.heap.size := by
  obtain ⟨cur, fr, hc, _⟩ := h
  exact (Array.getElem?_eq_some_iff.1 hc).1
theorem Copy.cell {W : World} {D : Nat} {l : List Int} (h : Copy W D l) (k : Nat) (x : Int) (hx : l[k]? = some x) : W.cell? ⟨D, k, none⟩ = some (.int .i64 x) := by
  obtain ⟨cur, fr, hc, ht⟩ := h
  have e : (enc l)[k]? = some (.int .i64 x) := by simp [enc, hx]
  rw [← ht, List.getElem?_take_of_lt (List.getElem?_eq_some_iff.1 hx).1] at e
  simp [World.cell?, hc]
  simpa using e
theorem Copy.keep {O : World → Nat → Prop} {W W' : World} {D : Nat} {l : List Int} (h : Copy W D l) (hk : KeepI O W W') (ho : ¬ O W D) : Copy W' D l ∧ ¬ O W' D := by
  obtain ⟨cur, fr, hc, ht⟩ := h
  exact ⟨⟨cur, fr, hk.2.2 D cur fr ho hc, ht⟩, fun h => ho (hk.2.1 D (Array.getElem?_eq_some_iff.1 hc).1 h)⟩

set_option maxRecDepth 100000 in
set_option maxHeartbeats 4000000 in
theorem all_in (n : Nat) (O : World → Nat → Prop) (l0 B : Nat) (p : Option Addr) (l : List Int) (hle : l.length ≤ 1000000) (J Jx : List (Int × Int) → World → Prop)
    (hal : ∀ pre W W', J pre W → W.grownBy W' none → J pre W')
    (hY : ∀ pre x W, J pre W → pre.length < l.length → YieldAt Fence.wide (n - 1) Try.prog l0 (encP x) W fun e W' =>
      (e = .returned (.bool true) ∧ J (pre ++ [x]) W' ∧ KeepI O W W') ∨ (e = .returned (.bool false) ∧ Jx (pre ++ [x]) W'))
    (W : World) (hB : W.cell? ⟨B, 0, none⟩ = some (.pointer p)) (hG : Has W p l) (hO : ∀ W', Below W.heap.size W W' → ∀ b, O W' b → b < W.heap.size) (h0 : J [] W) :
    CallsIn Fence.wide n Try.prog 26 #[.func (.yield l0) #[] #[], .pointer (some ⟨B, 0, none⟩)] W fun e W' => (∃ v, e = .returned v) ∧
      ((∃ ys, ys = pts l l.length ∧ J ys W') ∨ (∃ pre, (∃ k, k < l.length ∧ pre = pts l (k + 1)) ∧ Jx pre W')) := by
  refine callsIn_of_wp Try.func26 rfl trivial ?_ rfl
  simp only [Try.ntmps26, List.size_toArray, List.length_cons, List.length_nil, Nat.reduceAdd, Nat.reduceSub, Array.replicate_succ, Array.replicate_zero, List.push_toArray, List.append_toArray, List.nil_append, List.cons_append]
  have HC := Lib.hid (list_has hG hle)
  clear hG
  gi_wp2
  refine ⟨trivial, fun h => by simp [Fence.wide] at h, (callsIn_wide.2 HC.out).mono ?_⟩
  clear HC
  rintro e w1 ⟨v, rfl, hrow, hbW⟩
  obtain ⟨av, cv, rfl, hnv, hav⟩ := Nums.own hrow
  have hJ1 : J [] w1 := hal [] W w1 h0 ⟨hbW.os, hbW.tape, hbW.output, hbW.size, fun k hk _ => hbW.block k hk⟩
  have hcopy : 0 < l.length → ∃ D, av = some ⟨D, 0, none⟩ ∧ ¬ O w1 D ∧ Copy w1 D l := by
    intro hl
    rcases hrow.2 with ⟨_, h0⟩ | ⟨g, cap, cur, e, hb, hg, hcap, hmax, hsz, htk⟩
    · omega
    · cases e
      exact ⟨g, rfl, fun ho => by have := hO w1 hbW g ho; omega, ⟨cur, (0, 0), hg, by simpa using htk⟩⟩
  clear hrow hnv hav hbW h0 hB hO
  obtain ⟨m, hm⟩ : ∃ m, l.length = m := ⟨_, rfl⟩
  have HM := Lib.hid hm
  rw [hm] at hcopy hle
  rw [hm]
  clear hm
  have HY := Lib.hid hY; have HJ := Lib.hid hJ1; have HCo := Lib.hid hcopy; have HL := Lib.hid hal
  clear hY hJ1 hcopy hal
  gi_wp2
  gi_loopw [8] (fun i wr => ∃ k : Nat, k ≤ m ∧ i = .int .i64 (k : Int) ∧ J (pts l k) wr ∧ (0 < m → ∃ D, av = some ⟨D, 0, none⟩ ∧ ¬ O wr D ∧ Copy wr D l)) (fun i _ => m - (intOf i).toNat)
  case atStart => exact ⟨0, by omega, by go_num, HJ.out, HCo.out⟩
  case round =>
    obtain ⟨k, hk, rfl, hJs, hC⟩ := hrel
    by_cases hlt : k < m
    · obtain ⟨D, rfl, hOo, hC⟩ := hC (by omega)
      obtain ⟨x, hx⟩ : ∃ x, l[k]? = some x := ⟨l[k]'(by rw [HM.out]; exact hlt), List.getElem?_eq_getElem _⟩
      have hcx := hC.cell k x hx
      have z0 : (0 : Int) ≤ (k : Int) := by omega
      have z1 : (k : Int) < (m : Int) := by omega
      have hs : pts l (k + 1) = pts l k ++ [((k : Int), x)] := by rw [pts_succ, hx]; rfl
      obtain ⟨fn, tmps, assign, body, hy, hR⟩ := HY.out (pts l k) ((k : Int), x) _ hJs (by rw [pts_length, HM.out]; exact hlt)
      unfold encP at hy
      dsimp only at hy
      have HS := Lib.hid hs; have HC2 := Lib.hid hC; have HO2 := Lib.hid hOo
      clear hs hJs hC hOo hx HY HJ HCo
      gi_wp2
      refine ⟨fun h => by simp [Fence.wide] at h, hR.mono ?_⟩
      rintro e W3 (⟨rfl, hJ3, hk3⟩ | ⟨rfl, hJx3⟩)
      · gi_wp2
        go_roundw
        case rel =>
          obtain ⟨h1, h2⟩ := HC2.out.keep hk3 HO2.out
          exact ⟨k + 1, by omega, by go_num, by rw [HS.out]; exact hJ3, fun _ => ⟨D, rfl, h2, h1⟩⟩
        case measure => simp [intOf]; omega
      · gi_wp2
        refine bodyPost_ret (results_none rfl _ _ _) rfl ?_
        exact ⟨⟨_, rfl⟩, .inr ⟨_, ⟨k, by rw [HM.out]; exact hlt, rfl⟩, by rw [HS.out]; exact hJx3⟩⟩
    · have hk2 : m ≤ k := by omega
      have e : k = m := by omega
      subst e
      have HJ2 := Lib.hid hJs
      clear hJs hC
      gi_wp2
      go_end0
      exact ⟨⟨_, rfl⟩, .inl ⟨_, rfl, by rw [HM.out]; exact HJ2.out⟩⟩

/-- What All hands back, as a range over it sees it. -/
theorem all_stops (n : Nat) (O : World → Nat → Prop) (B : Nat) (p : Option Addr) (l : List Int) (hle : l.length ≤ 1000000) (w : World) (hB : w.cell? ⟨B, 0, none⟩ = some (.pointer p)) (hG : Has w p l) (hO : ∀ W', Below w.heap.size w W' → ∀ b, O W' b → b < w.heap.size) :
    SeqStopsK Fence.wide n Try.prog 26 #[.pointer (some ⟨B, 0, none⟩)] encP (KeepI O) (fun ys => ys = pts l l.length) (fun pre => ∃ k, k < l.length ∧ pre = pts l (k + 1)) l.length w := fun l0 J Jx W hW hJ _ hY h0 =>
  all_in n O l0 B p l hle J Jx (fun pre W W' h hg => hJ pre W W' none h hg (fun r e => by cases e)) hY W (bl_cell hW hB) (hG.up hW)
    (fun W' h b ho => Nat.lt_of_lt_of_le (hO W' (up_trans hW h) b ho) hW.size) h0
end Go.Proofs.Ytiekhpeekhibeaa
