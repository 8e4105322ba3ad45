/- What deck.All hands back, at pieces: a function that yields each place and the piece there, as long as they are wanted. -/
import Derived.RangeFuncNested
import Derived.RangeFuncBound
import Derived.RangeFuncCalls
import Derived.RangeFuncLeaves
import Derived.Shelf.Abstract
import Derived.Shelf.RegionOpen
import Derived.WalkKit
import Derived.OwnWalkIn
import Derived.TacticsInMore
import Derived.LoopNIn
import Derived.LoopIn
import Derived.Maps.AppendAt
import Derived.Lib.SliceRun
import Derived.Test.YtnofncibplgmpaaPileDeck
import Derived.Test.YtnofncibplgmpaaRoundQuiet
import Derived.Test.YtnofncibplgmpaaGridPlaces
namespace Go.Proofs.Ytnofncibplgmpaa
open Go.RowKit Go.Shelf
set_option linter.unusedVariables false

theorem pcAll_any (p : Option Addr) (w : World) :
    Calls Try.prog 15 #[.pointer p] w fun e w' => e = .returned (.func (.func 24) #[] #[.pointer (some ⟨w.heap.size, 0, none⟩)]) ∧ w' = w.alloc (.cells #[.pointer p] 38) := by
  go_enter Try.func15, Try.ntmps15
  go_wp2
  go_ret
  exact ⟨rfl, rfl⟩

/-- What a round may do: lists of two pieces and more that lie there stay as they are. -/
def KeepP (W W' : World) : Prop := W.heap.size ≤ W'.heap.size ∧ ∀ (b : Nat) (cur : Array Value) (fr : Nat × Nat), 8 ≤ cur.size → W.heap[b]? = some (.cells cur 42 fr) → W'.heap[b]? = some (.cells cur 42 fr)
theorem KeepP.trans {A B C : World} (h : KeepP A B) (k : KeepP B C) : KeepP A C := ⟨Nat.le_trans h.1 k.1, fun b cur fr hn hc => k.2 b cur fr hn (h.2 b cur fr hn hc)⟩
theorem keepP_below {W W' : World} (h : Below W.heap.size W W') : KeepP W W' := ⟨h.size, fun b cur fr _ hc => (h.block b (Array.getElem?_eq_some_iff.1 hc).1).trans hc⟩
theorem keepP_put (W : World) (l : Nat) (o o' : Obj) (hl : W.heap[l]? = some o) (hc : o.isCells = false) : KeepP W (W.putObj l o') :=
  ⟨by simp, fun b cur fr _ hb => by
    have hne : b ≠ l := fun e => by rw [e, hl] at hb; cases hb; cases hc
    exact ((grownBy_putObj' W l o').block b (Array.getElem?_eq_some_iff.1 hb).1 (fun e => hne (by injection e))).trans hb⟩
/-- A block of another type, or of one piece, was written. -/
theorem keepP_grown {W W' : World} {B : Nat} (h : W.grownBy W' (some B)) (hB : ∀ cur fr, W.heap[B]? = some (.cells cur 42 fr) → cur.size < 8) : KeepP W W' :=
  ⟨h.size, fun b cur fr hn hb => (h.block b (Array.getElem?_eq_some_iff.1 hb).1 (fun e => by
    obtain rfl : b = B := by injection e
    have := hB cur fr hb
    omega)).trans hb⟩

/-- A place, and the piece there, as a loop's two variables. -/
def encQ (x : Int × Pc) : Array Value := #[.int .i64 x.1, x.2.val]
/-- The iterator's copy. -/
def CopyP (W : World) (D : Nat) (l : List Pc) : Prop := ∃ cur fr, W.heap[D]? = some (.cells cur 42 fr) ∧ l.length * 4 ≤ cur.size ∧ PcsAt W D l
theorem CopyP.keep {W W' : World} {D : Nat} {l : List Pc} (h : CopyP W D l) (hk : KeepP W W') (hl : 2 ≤ l.length) : CopyP W' D l := by
  obtain ⟨cur, fr, hc, hs, ht⟩ := h
  have e := hk.2 D cur fr (by omega) hc
  exact ⟨cur, fr, e, hs, fun j u hu => (World.cell?_of_block (a := ⟨D, j, none⟩) (e.trans hc.symm)).trans (ht j u hu)⟩
theorem CopyP.up {W W' : World} {D : Nat} {l : List Pc} (h : CopyP W D l) (hb : Below W.heap.size W W') : CopyP W' D l := by
  obtain ⟨cur, fr, hc, hs, ht⟩ := h
  exact ⟨cur, fr, (hb.block D (Array.getElem?_eq_some_iff.1 hc).1).trans hc, hs, ht.up hb⟩

set_option maxRecDepth 100000 in
set_option maxHeartbeats 4000000 in
theorem pcAll_in (n : Nat) (l0 B : Nat) (base D R : Nat) (l : List Pc) (hl0 : 0 < l.length) (hle : l.length ≤ 1000000) (J Jx : Nat → World → Prop)
    (hal : ∀ k W W', J k W → W.grownBy W' none → J k W')
    (hY : ∀ (k : Nat) x W, l[k]? = some x → J k W → YieldAt Fence.wide (n - 1) Try.prog l0 (encQ ((k : Int), x)) W fun e W' =>
      (e = .returned (.bool true) ∧ J (k + 1) W' ∧ KeepP W W') ∨ (e = .returned (.bool false) ∧ Jx (k + 1) W'))
    (W : World) (hB : W.cell? ⟨B, 0, none⟩ = some (.pointer (some ⟨D, 0, none⟩))) (hG : Dp W base D R l) (h0 : J 0 W) :
    CallsIn Fence.wide n Try.prog 24 #[.func (.yield l0) #[] #[], .pointer (some ⟨B, 0, none⟩)] W fun e W' => (∃ v, e = .returned v) ∧
      (J l.length W' ∨ (∃ k, k < l.length ∧ Jx (k + 1) W')) := by
  refine callsIn_of_wp Try.func24 rfl trivial ?_ rfl
  simp only [Try.ntmps24, List.size_toArray, List.length_cons, List.length_nil, Nat.reduceAdd, Nat.reduceSub, Array.replicate_succ, Array.replicate_zero, List.push_toArray, List.append_toArray, List.nil_append, List.cons_append]
  have HC := Lib.hid (pcList_any hG hl0 hle)
  clear hG
  gi_wp2
  refine ⟨trivial, fun h => by simp [Fence.wide] at h, (callsIn_wide.2 HC.out).mono ?_⟩
  clear HC
  rintro e w1 ⟨g, cap, rfl, hrow, hbW⟩
  have hJ1 : J 0 w1 := hal 0 W w1 h0 ⟨hbW.os, hbW.tape, hbW.output, hbW.size, fun k hk _ => hbW.block k hk⟩
  have hcopy : CopyP w1 g l := by
    obtain ⟨cur, h2, h3, h4, h5, _⟩ := hrow.block
    exact ⟨cur, (0, 0), h2, by omega, hrow.at⟩
  clear hrow hbW h0 hB
  obtain ⟨m, hm⟩ : ∃ m, l.length = m := ⟨_, rfl⟩
  have HM := Lib.hid hm
  rw [hm] at hle hl0
  rw [hm]
  clear hm
  have HY := Lib.hid hY; have HJ := Lib.hid hJ1; have HCo := Lib.hid hcopy; have HL := Lib.hid hal
  clear hY hJ1 hcopy hal
  gi_wp2
  gi_loopw [8] (fun i wr => ∃ k : Nat, k ≤ m ∧ i = .int .i64 (k : Int) ∧ J k wr ∧ (k < m → CopyP wr g l)) (fun i _ => m - (intOf i).toNat)
  case atStart => exact ⟨0, by omega, by go_num, HJ.out, fun _ => HCo.out⟩
  case round =>
    obtain ⟨k, hk, rfl, hJs, hC⟩ := hrel
    by_cases hlt : k < m
    · have hC := hC hlt
      obtain ⟨x, hx⟩ : ∃ x, l[k]? = some x := ⟨l[k]'(by rw [HM.out]; exact hlt), List.getElem?_eq_getElem _⟩
      have hat : PcsAt wr g l := by obtain ⟨_, _, _, _, h⟩ := hC; exact h
      obtain ⟨d0, d1, d2, d3⟩ := hat.cells hx
      have z0 : (0 : Int) ≤ (k : Int) := by omega
      have z1 : (k : Int) < (m : Int) := by omega
      have hup : Below wr.heap.size wr (wr.alloc (.cells #[.int .i64 x.n, .int .i64 0, .bool x.fx, .bool x.fy] 42)) := up_alloc (Below.refl _ _) _
      have hJs2 := HL.out _ _ _ hJs (World.grownBy_alloc wr (.cells #[.int .i64 x.n, .int .i64 0, .bool x.fx, .bool x.fy] 42) none)
      obtain ⟨fn, tmps, assign, body, hy, hR⟩ := HY.out k x _ hx hJs2
      unfold encQ Pc.val at hy
      dsimp only at hy
      have HC2 := Lib.hid (hC.up hup)
      clear hJs hJs2 hC hx HY HJ HCo hat hup
      gi_wp2
      refine ⟨fun h => by simp [Fence.wide] at h, hR.mono ?_⟩
      rintro e W3 (⟨rfl, hJ3, hk3⟩ | ⟨rfl, hJx3⟩)
      · gi_wp2
        go_roundw
        case rel => exact ⟨k + 1, by omega, by go_num, hJ3, fun h => HC2.out.keep hk3 (by rw [HM.out]; omega)⟩
        case measure => simp [intOf]; omega
      · gi_wp2
        refine bodyPost_ret (results_none rfl _ _ _) rfl ?_
        exact ⟨⟨_, rfl⟩, .inr ⟨k, by rw [HM.out]; exact hlt, hJx3⟩⟩
    · have hk2 : m ≤ k := by omega
      have e : k = m := by omega
      subst e
      have HJ2 := Lib.hid hJs
      clear hJs hC
      gi_wp2
      go_end0
      exact ⟨⟨_, rfl⟩, .inl (by rw [HM.out]; exact HJ2.out)⟩

/-- What is yielded of number k. -/
def encJ (l : List Pc) (k : Ix l.length) : Array Value := encQ ((k.1 : Int), l[k.1]'k.2)
/-- What All hands back, as a range over it sees it, told by numbers. -/
theorem pcAll_stops (n : Nat) (B : Nat) (base D R : Nat) (l : List Pc) (hl0 : 0 < l.length) (hle : l.length ≤ 1000000) (w : World) (hB : w.cell? ⟨B, 0, none⟩ = some (.pointer (some ⟨D, 0, none⟩))) (hG : Dp w base D R l) :
    SeqStopsK Fence.wide n Try.prog 24 #[.pointer (some ⟨B, 0, none⟩)] (encJ l) KeepP (fun ys => ys = ixs l.length l.length) (fun pre => ∃ k, k < l.length ∧ pre = ixs l.length (k + 1)) l.length w := fun l0 J Jx W hW hJ _ hY h0 =>
  (pcAll_in n l0 B base D R l hl0 hle (fun k => J (ixs l.length k)) (fun k => Jx (ixs l.length k)) (fun k W W' h hg => hJ _ W W' none h hg (fun r e => by cases e))
    (fun k x W hx h => by
      obtain ⟨hk, rfl⟩ := List.getElem?_eq_some_iff.1 hx
      have := hY (ixs l.length k) ⟨k, hk⟩ W h (by rw [ixs_length k (by omega)]; exact hk)
      rwa [← ixs_succ hk] at this)
    W (bl_cell hW hB) (hG.up hW) h0).mono
    fun e W' ⟨h1, h2⟩ => ⟨h1, h2.elim (fun h => .inl ⟨_, rfl, h⟩) (fun ⟨k, hk, h⟩ => .inr ⟨_, ⟨k, hk, rfl⟩, h⟩)⟩

/-- nil: nothing is yielded. -/
theorem pcNil_stops (n : Nat) (B : Nat) (w : World) (hB : w.cell? ⟨B, 0, none⟩ = some (.pointer none)) :
    SeqStopsK Fence.wide n Try.prog 24 #[.pointer (some ⟨B, 0, none⟩)] encQ KeepP (fun ys => ys = []) (fun pre => False) 0 w := fun l0 J Jx W hW hJ _ hY h0 => by
  have hB2 := bl_cell hW hB
  have K : CallsIn Fence.wide n Try.prog 24 #[.func (.yield l0) #[] #[], .pointer (some ⟨B, 0, none⟩)] W fun e W' => (∃ v, e = .returned v) ∧ W' = W := by
    have HN : Calls Try.prog 25 #[.pointer none] W fun e w' => e = .returned (.slice none 0 0) ∧ w' = W := by
      go_enter Try.func25, Try.ntmps25
      go_wp2
      go_ret
      exact ⟨rfl, rfl⟩
    have HC := Lib.hid HN
    clear HN hY h0 hJ
    refine callsIn_of_wp Try.func24 rfl trivial ?_ rfl
    simp only [Try.ntmps24, List.size_toArray, List.length_cons, List.length_nil, Nat.reduceAdd, Nat.reduceSub, Array.replicate_succ, Array.replicate_zero, List.push_toArray, List.append_toArray, List.nil_append, List.cons_append]
    gi_wp2
    refine ⟨trivial, fun h => by simp [Fence.wide] at h, (callsIn_wide.2 HC.out).mono ?_⟩
    clear HC
    rintro e w1 ⟨rfl, rfl⟩
    gi_wp2
    gi_loopw [8] (fun i wr => i = .int .i64 0 ∧ wr = w1) (fun i _ => 0)
    case atStart => exact ⟨by go_num, rfl⟩
    case round =>
      obtain ⟨rfl, hwr⟩ := hrel
      obtain rfl : w1 = wr := hwr.symm
      gi_wp2
      go_end0
      exact ⟨⟨_, rfl⟩, rfl⟩
  refine K.mono ?_
  rintro e W' ⟨h, rfl⟩
  exact ⟨h, .inl ⟨[], rfl, h0⟩⟩
end Go.Proofs.Ytnofncibplgmpaa
