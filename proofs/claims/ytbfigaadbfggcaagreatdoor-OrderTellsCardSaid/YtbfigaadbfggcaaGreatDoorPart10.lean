/- Part 10 of the texts that the proofs of this seat share: PileSeq, UnfoldOf, RowI, UnfoldOrder, UnfoldAlive, RefRows. -/
import Derived.RangeFuncNested
import Derived.RangeFuncBound
import Derived.RangeFuncCalls
import Derived.RangeFuncLeaves
import Derived.Shelf.Abstract
import Derived.Shelf.RegionOpen
import Derived.WalkKit
import Derived.OwnWalkIn
import Derived.TacticsInMore
import Derived.LoopNIn
import Derived.LoopIn
import Derived.Maps.AppendAt
import Derived.Lib.SliceRun
import Derived.Test.YtbfigaadbfggcaaGreatDoorPart5
import Derived.Test.YtbfigaadbfggcaaGreatDoorPart6
import Derived.Test.YtbfigaadbfggcaaGreatDoorPart9
import Derived.Test.YtbfigaadbfggcaaGreatDoorPart1
import Derived.Deep.AppendLies
import Derived.Lib.Hide
import Derived.Maps.OwnIn
/- What deck.All hands back, at pieces: a function that yields each place and the piece there, as long as they are wanted. -/
namespace Go.Proofs.YtbfigaadbfggcaaGreatDoor
open Go.RowKit Go.Shelf
set_option linter.unusedVariables false

theorem pcAll_any (p : Option Addr) (w : World) :
    Calls Tryz.prog 80 #[.pointer p] w fun e w' => e = .returned (.func (.func 90) #[] #[.pointer (some ⟨w.heap.size, 0, none⟩)]) ∧ w' = w.alloc (.cells #[.pointer p] 106) := by
  go_enter Tryz.func80, Tryz.ntmps80
  go_wp2
  go_ret
  exact ⟨rfl, rfl⟩

/-- What a round may do: lists of two pieces and more that lie there stay as they are. -/
def KeepP (W W' : World) : Prop := W.heap.size ≤ W'.heap.size ∧ ∀ (b : Nat) (cur : Array Value) (fr : Nat × Nat), 8 ≤ cur.size → W.heap[b]? = some (.cells cur 109 fr) → W'.heap[b]? = some (.cells cur 109 fr)
theorem KeepP.trans {A B C : World} (h : KeepP A B) (k : KeepP B C) : KeepP A C := ⟨Nat.le_trans h.1 k.1, fun b cur fr hn hc => k.2 b cur fr hn (h.2 b cur fr hn hc)⟩
theorem keepP_below {W W' : World} (h : Below W.heap.size W W') : KeepP W W' := ⟨h.size, fun b cur fr _ hc => (h.block b (Array.getElem?_eq_some_iff.1 hc).1).trans hc⟩
theorem keepP_put (W : World) (l : Nat) (o o' : Obj) (hl : W.heap[l]? = some o) (hc : o.isCells = false) : KeepP W (W.putObj l o') :=
  ⟨by simp, fun b cur fr _ hb => by
    have hne : b ≠ l := fun e => by rw [e, hl] at hb; cases hb; cases hc
    exact ((grownBy_putObj' W l o').block b (Array.getElem?_eq_some_iff.1 hb).1 (fun e => hne (by injection e))).trans hb⟩
/-- A block of another type, or of one piece, was written. -/
theorem keepP_grown {W W' : World} {B : Nat} (h : W.grownBy W' (some B)) (hB : ∀ cur fr, W.heap[B]? = some (.cells cur 109 fr) → cur.size < 8) : KeepP W W' :=
  ⟨h.size, fun b cur fr hn hb => (h.block b (Array.getElem?_eq_some_iff.1 hb).1 (fun e => by
    obtain rfl : b = B := by injection e
    have := hB cur fr hb
    omega)).trans hb⟩

/-- A place, and the piece there, as a loop's two variables. -/
def encQ (x : Int × Pc) : Array Value := #[.int .i64 x.1, x.2.val]
/-- The iterator's copy. -/
def CopyP (W : World) (D : Nat) (l : List Pc) : Prop := ∃ cur fr, W.heap[D]? = some (.cells cur 109 fr) ∧ l.length * 4 ≤ cur.size ∧ PcsAt W D l
theorem CopyP.keep {W W' : World} {D : Nat} {l : List Pc} (h : CopyP W D l) (hk : KeepP W W') (hl : 2 ≤ l.length) : CopyP W' D l := by
  obtain ⟨cur, fr, hc, hs, ht⟩ := h
  have e := hk.2 D cur fr (by omega) hc
  exact ⟨cur, fr, e, hs, fun j u hu => (World.cell?_of_block (a := ⟨D, j, none⟩) (e.trans hc.symm)).trans (ht j u hu)⟩
theorem CopyP.up {W W' : World} {D : Nat} {l : List Pc} (h : CopyP W D l) (hb : Below W.heap.size W W') : CopyP W' D l := by
  obtain ⟨cur, fr, hc, hs, ht⟩ := h
  exact ⟨cur, fr, (hb.block D (Array.getElem?_eq_some_iff.1 hc).1).trans hc, hs, ht.up hb⟩

set_option maxRecDepth 100000 in
set_option maxHeartbeats 4000000 in
theorem pcAll_in (n : Nat) (l0 B : Nat) (base D R : Nat) (l : List Pc) (hl0 : 0 < l.length) (hle : l.length ≤ 1000000) (J Jx : Nat → World → Prop)
    (hal : ∀ k W W', J k W → W.grownBy W' none → J k W')
    (hY : ∀ (k : Nat) x W, l[k]? = some x → J k W → YieldAt Fence.wide (n - 1) Tryz.prog l0 (encQ ((k : Int), x)) W fun e W' =>
      (e = .returned (.bool true) ∧ J (k + 1) W' ∧ KeepP W W') ∨ (e = .returned (.bool false) ∧ Jx (k + 1) W'))
    (W : World) (hB : W.cell? ⟨B, 0, none⟩ = some (.pointer (some ⟨D, 0, none⟩))) (hG : Dp W base D R l) (h0 : J 0 W) :
    CallsIn Fence.wide n Tryz.prog 90 #[.func (.yield l0) #[] #[], .pointer (some ⟨B, 0, none⟩)] W fun e W' => (∃ v, e = .returned v) ∧
      (J l.length W' ∨ (∃ k, k < l.length ∧ Jx (k + 1) W')) := by
  refine callsIn_of_wp Tryz.func90 rfl trivial ?_ rfl
  simp only [Tryz.ntmps90, List.size_toArray, List.length_cons, List.length_nil, Nat.reduceAdd, Nat.reduceSub, Array.replicate_succ, Array.replicate_zero, List.push_toArray, List.append_toArray, List.nil_append, List.cons_append]
  have HC := Lib.hid (pcList_any hG hl0 hle)
  clear hG
  gi_wp2
  refine ⟨trivial, fun h => by simp [Fence.wide] at h, (callsIn_wide.2 HC.out).mono ?_⟩
  clear HC
  rintro e w1 ⟨g, cap, rfl, hrow, hbW⟩
  have hJ1 : J 0 w1 := hal 0 W w1 h0 ⟨hbW.os, hbW.tape, hbW.output, hbW.size, fun k hk _ => hbW.block k hk⟩
  have hcopy : CopyP w1 g l := by
    obtain ⟨cur, h2, h3, h4, h5, _⟩ := hrow.block
    exact ⟨cur, (0, 0), h2, by omega, hrow.at⟩
  clear hrow hbW h0 hB
  obtain ⟨m, hm⟩ : ∃ m, l.length = m := ⟨_, rfl⟩
  have HM := Lib.hid hm
  rw [hm] at hle hl0
  rw [hm]
  clear hm
  have HY := Lib.hid hY; have HJ := Lib.hid hJ1; have HCo := Lib.hid hcopy; have HL := Lib.hid hal
  clear hY hJ1 hcopy hal
  gi_wp2
  gi_loopw [8] (fun i wr => ∃ k : Nat, k ≤ m ∧ i = .int .i64 (k : Int) ∧ J k wr ∧ (k < m → CopyP wr g l)) (fun i _ => m - (intOf i).toNat)
  case atStart => exact ⟨0, by omega, by go_num, HJ.out, fun _ => HCo.out⟩
  case round =>
    obtain ⟨k, hk, rfl, hJs, hC⟩ := hrel
    by_cases hlt : k < m
    · have hC := hC hlt
      obtain ⟨x, hx⟩ : ∃ x, l[k]? = some x := ⟨l[k]'(by rw [HM.out]; exact hlt), List.getElem?_eq_getElem _⟩
      have hat : PcsAt wr g l := by obtain ⟨_, _, _, _, h⟩ := hC; exact h
      obtain ⟨d0, d1, d2, d3⟩ := hat.cells hx
      have z0 : (0 : Int) ≤ (k : Int) := by omega
      have z1 : (k : Int) < (m : Int) := by omega
      have hup : Below wr.heap.size wr (wr.alloc (.cells #[.int .i64 x.n, .int .i64 0, .bool x.fx, .bool x.fy] 109)) := up_alloc (Below.refl _ _) _
      have hJs2 := HL.out _ _ _ hJs (World.grownBy_alloc wr (.cells #[.int .i64 x.n, .int .i64 0, .bool x.fx, .bool x.fy] 109) none)
      obtain ⟨fn, tmps, assign, body, hy, hR⟩ := HY.out k x _ hx hJs2
      unfold encQ Pc.val at hy
      dsimp only at hy
      have HC2 := Lib.hid (hC.up hup)
      clear hJs hJs2 hC hx HY HJ HCo hat hup
      gi_wp2
      refine ⟨fun h => by simp [Fence.wide] at h, hR.mono ?_⟩
      rintro e W3 (⟨rfl, hJ3, hk3⟩ | ⟨rfl, hJx3⟩)
      · gi_wp2
        go_roundw
        case rel => exact ⟨k + 1, by omega, by go_num, hJ3, fun h => HC2.out.keep hk3 (by rw [HM.out]; omega)⟩
        case measure => simp [intOf]; omega
      · gi_wp2
        refine bodyPost_ret (results_none rfl _ _ _) rfl ?_
        exact ⟨⟨_, rfl⟩, .inr ⟨k, by rw [HM.out]; exact hlt, hJx3⟩⟩
    · have hk2 : m ≤ k := by omega
      have e : k = m := by omega
      subst e
      have HJ2 := Lib.hid hJs
      clear hJs hC
      gi_wp2
      go_end0
      exact ⟨⟨_, rfl⟩, .inl (by rw [HM.out]; exact HJ2.out)⟩

/-- What is yielded of number k. -/
def encJ (l : List Pc) (k : Ix l.length) : Array Value := encQ ((k.1 : Int), l[k.1]'k.2)
/-- What All hands back, as a range over it sees it, told by numbers. -/
theorem pcAll_stops (n : Nat) (B : Nat) (base D R : Nat) (l : List Pc) (hl0 : 0 < l.length) (hle : l.length ≤ 1000000) (w : World) (hB : w.cell? ⟨B, 0, none⟩ = some (.pointer (some ⟨D, 0, none⟩))) (hG : Dp w base D R l) :
    SeqStopsK Fence.wide n Tryz.prog 90 #[.pointer (some ⟨B, 0, none⟩)] (encJ l) KeepP (fun ys => ys = ixs l.length l.length) (fun pre => ∃ k, k < l.length ∧ pre = ixs l.length (k + 1)) l.length w := fun l0 J Jx W hW hJ _ hY h0 =>
  (pcAll_in n l0 B base D R l hl0 hle (fun k => J (ixs l.length k)) (fun k => Jx (ixs l.length k)) (fun k W W' h hg => hJ _ W W' none h hg (fun r e => by cases e))
    (fun k x W hx h => by
      obtain ⟨hk, rfl⟩ := List.getElem?_eq_some_iff.1 hx
      have := hY (ixs l.length k) ⟨k, hk⟩ W h (by rw [ixs_length k (by omega)]; exact hk)
      rwa [← ixs_succ hk] at this)
    W (bl_cell hW hB) (hG.up hW) h0).mono
    fun e W' ⟨h1, h2⟩ => ⟨h1, h2.elim (fun h => .inl ⟨_, rfl, h⟩) (fun ⟨k, hk, h⟩ => .inr ⟨_, ⟨k, hk, rfl⟩, h⟩)⟩

/-- nil: nothing is yielded. -/
theorem pcNil_stops (n : Nat) (B : Nat) (w : World) (hB : w.cell? ⟨B, 0, none⟩ = some (.pointer none)) :
    SeqStopsK Fence.wide n Tryz.prog 90 #[.pointer (some ⟨B, 0, none⟩)] encQ KeepP (fun ys => ys = []) (fun pre => False) 0 w := fun l0 J Jx W hW hJ _ hY h0 => by
  have hB2 := bl_cell hW hB
  have K : CallsIn Fence.wide n Tryz.prog 90 #[.func (.yield l0) #[] #[], .pointer (some ⟨B, 0, none⟩)] W fun e W' => (∃ v, e = .returned v) ∧ W' = W := by
    have HN : Calls Tryz.prog 91 #[.pointer none] W fun e w' => e = .returned (.slice none 0 0) ∧ w' = W := by
      go_enter Tryz.func91, Tryz.ntmps91
      go_wp2
      go_ret
      exact ⟨rfl, rfl⟩
    have HC := Lib.hid HN
    clear HN hY h0 hJ
    refine callsIn_of_wp Tryz.func90 rfl trivial ?_ rfl
    simp only [Tryz.ntmps90, List.size_toArray, List.length_cons, List.length_nil, Nat.reduceAdd, Nat.reduceSub, Array.replicate_succ, Array.replicate_zero, List.push_toArray, List.append_toArray, List.nil_append, List.cons_append]
    gi_wp2
    refine ⟨trivial, fun h => by simp [Fence.wide] at h, (callsIn_wide.2 HC.out).mono ?_⟩
    clear HC
    rintro e w1 ⟨rfl, rfl⟩
    gi_wp2
    gi_loopw [8] (fun i wr => i = .int .i64 0 ∧ wr = w1) (fun i _ => 0)
    case atStart => exact ⟨by go_num, rfl⟩
    case round =>
      obtain ⟨rfl, hwr⟩ := hrel
      obtain rfl : w1 = wr := hwr.symm
      gi_wp2
      go_end0
      exact ⟨⟨_, rfl⟩, rfl⟩
  refine K.mono ?_
  rintro e W' ⟨h, rfl⟩
  exact ⟨h, .inl ⟨[], rfl, h0⟩⟩
end Go.Proofs.YtbfigaadbfggcaaGreatDoor
/- What unfold.Of answers: of each panel of a right scheme its leaf, and how it is flipped; nothing of any other one. -/
namespace Go.Proofs.YtbfigaadbfggcaaGreatDoor
open Go.RowKit Go.Shelf
set_option linter.unusedVariables false
attribute [local go_sem] Oper.semAt_some

theorem folded_no (s : Sc) (a : Option Addr) (cap : Nat) (w : World) (hc : s.c ≤ 9223372036854775807) (hr : s.r ≤ 9223372036854775807) (hl : s.l.length ≤ 1000000) (hI : InL w a s.l) (hn : rightM s = false) :
    Calls Tryz.prog 78 #[.agg #[.int .i64 s.c, .int .i64 s.r, .slice a s.l.length cap]] w fun e w' => e = .returned (.pointer none) ∧ Below w.heap.size w w' := by
  have KR := fun w1 (h : Below w.heap.size w w1) => schRight_any s a cap w1 hc hr hl (hI.up h)
  rw [hn] at KR
  have HR := Lib.hid KR
  have HB0 := Lib.hid (up_alloc (Below.refl _ w) (.cells #[.int .i64 s.c, .int .i64 s.r, .slice a s.l.length cap] 26))
  generalize s.l.length = n at *
  clear KR hI hn
  go_enter Tryz.func78, Tryz.ntmps78
  go_wp2_with fail
  refine (HR.out _ HB0.out).mono ?_
  rintro e w1 ⟨rfl, hb⟩
  have B1 := Lib.hid (up_trans HB0.out hb)
  clear hb
  go_wp2
  go_ret
  exact ⟨rfl, B1.out⟩
theorem unfOf_no (s : Sc) (a : Option Addr) (cap : Nat) (w : World) (hc : s.c ≤ 9223372036854775807) (hr : s.r ≤ 9223372036854775807) (hl : s.l.length ≤ 1000000) (hI : InL w a s.l) (hn : rightM s = false) :
    Calls Tryz.prog 66 #[.agg #[.int .i64 s.c, .int .i64 s.r, .slice a s.l.length cap]] w fun e w' => e = .returned (.slice none 0 0) ∧ Below w.heap.size w w' := by
  have KF := fun w1 (h : Below w.heap.size w w1) => folded_no s a cap w1 hc hr hl (hI.up h) hn
  have HF := Lib.hid KF
  have HB0 := Lib.hid (up_alloc (Below.refl _ w) (.cells #[.int .i64 s.c, .int .i64 s.r, .slice a s.l.length cap] 26))
  generalize s.l.length = n at *
  clear KF hI hn
  go_enter Tryz.func66, Tryz.ntmps66
  go_wp2_with fail
  refine (HF.out _ HB0.out).mono ?_
  rintro e w1 ⟨rfl, hb⟩
  have B1 := Lib.hid (up_trans HB0.out hb)
  clear hb
  go_wp2
  go_ret
  exact ⟨rfl, B1.out⟩

/-- What has been laid so far. -/
def setsP (l : List Pc) (pre : List (Ix l.length)) : List Pn := pre.foldl (fun acc k => ofStep l acc k.1) (List.replicate l.length default)
theorem setsP_snoc (l : List Pc) (pre : List (Ix l.length)) (k : Ix l.length) : setsP l (pre ++ [k]) = ofStep l (setsP l pre) k.1 := by simp [setsP]
theorem setsP_length (l : List Pc) (pre : List (Ix l.length)) : (setsP l pre).length = l.length := by
  unfold setsP
  generalize hr : List.replicate l.length (default : Pn) = acc
  have ha : acc.length = l.length := by rw [← hr]; simp
  clear hr
  induction pre generalizing acc with
  | nil => exact ha
  | cons k pre ih => exact ih _ (by unfold ofStep; rw [List.length_set]; exact ha)
theorem setsP_all (l : List Pc) : ∀ n, n ≤ l.length → setsP l (ixs l.length n) = ofL l n
  | 0, _ => rfl
  | n + 1, h => by rw [ixs_succ (by omega), setsP_snoc, setsP_all l n (by omega), ofL_succ]
theorem pnRow_own {β : Type} (g : Nat) (f : β → List Pn) : Own (fun s W => PnRow W g (f s)) := by
  rintro s X Y row h hg hr
  obtain ⟨cur, h1, h2⟩ := h
  refine ⟨cur, (hg.block g (Array.getElem?_eq_some_iff.1 h1).1 (fun e => ?_)).trans h1, h2⟩
  obtain ⟨o, ho, hc⟩ := hr g e.symm
  rw [h1] at ho
  cases ho
  cases hc

theorem keepP_set (W : World) (a : Addr) (v : Value) (hB : ∀ cur fr, W.heap[a.block]? = some (.cells cur 109 fr) → cur.size < 8) : KeepP W (W.setCell a v) :=
  ⟨by simp [World.setCell], fun b cur fr hn hc => by
    by_cases e : b = a.block
    · subst e
      have := hB cur fr hc
      omega
    · exact (Below.heap_setCell _ _ _ _ e).trans hc⟩
theorem keepP_setCells (W : World) (g o : Nat) (vs : List Value) (hB : ∀ cur fr, W.heap[g]? = some (.cells cur 109 fr) → cur.size < 8) : KeepP W (W.setCells g o vs) :=
  ⟨(setCells_but g g o vs W).size, fun b cur fr hn hc => by
    by_cases e : b = g
    · subst e
      have := hB cur fr hc
      omega
    · exact (World.heap_setCells_other _ _ _ _ (Array.getElem?_eq_some_iff.1 hc).1 e).trans hc⟩

set_option maxRecDepth 100000 in
set_option maxHeartbeats 4000000 in
theorem unfOf_core (c r : Int) (a : Option Addr) (n cap : Nat) (w : World) (l : List Pc) (hl0 : 0 < l.length) (hl64 : l.length ≤ 4096) (hn : ∀ k : Ix l.length, ∃ j : Nat, j < l.length ∧ (l[k.1]'k.2).n = (j : Int))
    (KF : ∀ w1, Below w.heap.size w w1 → Calls Tryz.prog 78 #[.agg #[.int .i64 c, .int .i64 r, .slice a n cap]] w1 fun e w' => ∃ D R, e = .returned (.pointer (some ⟨D, 0, none⟩)) ∧ Dp w' w1.heap.size D R l ∧ Below w1.heap.size w1 w') :
    Calls Tryz.prog 66 #[.agg #[.int .i64 c, .int .i64 r, .slice a n cap]] w fun e w' => ∃ g, e = .returned (.slice (some ⟨g, 0, none⟩) l.length l.length) ∧ PnRow w' g (ofL l l.length) ∧ w.heap.size ≤ g ∧ Below w.heap.size w w' := by
  have HF := Lib.hid KF; have HN := Lib.hid hn
  have HB0 := Lib.hid (up_alloc (Below.refl _ w) (.cells #[.int .i64 c, .int .i64 r, .slice a n cap] 26))
  have mk := run_make_pns l.length (by omega)
  clear KF hn
  refine (callsIn_wide (n := 3)).1 ?_
  refine callsIn_of_wp_marks Tryz.func66 rfl trivial ?_ rfl
  simp only [Tryz.ntmps66, List.size_toArray, List.length_cons, List.length_nil, Nat.reduceAdd, Nat.reduceSub, Array.replicate_succ, Array.replicate_zero, List.push_toArray, List.append_toArray, List.nil_append, List.cons_append]
  gi_wp2_with (first
    | (refine ⟨trivial, ?_⟩; gi_at_call 78; refine (callsIn_wide.2 (HF.out _ HB0.out)).mono ?_; rintro e w1 ⟨D, R, rfl, hD, hb1⟩; have HD := Lib.hid hD; have HB1 := Lib.hid (up_trans HB0.out hb1); clear hD hb1)
    | (refine ⟨trivial, ?_⟩; gi_at_call 79; refine (callsIn_wide.2 (pcLen_any HD.out)).mono ?_; rintro e w2 ⟨rfl, rfl⟩)
    | (refine ⟨trivial, ?_⟩; gi_at_call 80; refine (callsIn_wide.2 (pcAll_any _ _)).mono ?_; rintro e w4 ⟨rfl, rfl⟩))
  obtain ⟨W0, hW0⟩ : ∃ W0, (((w2.alloc (.cells (madeCells #[.int .i64 0, .bool false, .bool false] (l.length * 3)) 96)).alloc (.cells #[.slice (some ⟨w2.heap.size, 0, none⟩) l.length l.length] 79)).alloc (.cells #[.pointer (some ⟨D, 0, none⟩)] 106)) = W0 := ⟨_, rfl⟩
  have up2 : Below w2.heap.size w2 W0 := by rw [← hW0]; exact up_alloc (up_alloc (up_alloc (Below.refl _ _) _) _) _
  have upw : Below w.heap.size w W0 := up_trans HB1.out up2
  have y4 : Boxed W0 (w2.heap.size + 1) 79 (.slice (some ⟨w2.heap.size, 0, none⟩) l.length l.length) := by
    rw [← hW0]
    have := (Boxed.new (w2.alloc (.cells (madeCells #[.int .i64 0, .bool false, .bool false] (l.length * 3)) 96)) 79 (.slice (some ⟨w2.heap.size, 0, none⟩) l.length l.length)).alloc (.cells #[.pointer (some ⟨D, 0, none⟩)] 106)
    simpa only [World.size_alloc] using this
  have yR : PnRow W0 w2.heap.size (setsP l []) := by
    rw [← hW0]
    exact ((PnRow.made w2 l.length).up (up_alloc (Below.refl _ _) _)).up (up_alloc (Below.refl _ _) _)
  have yG : W0.cell? ⟨w2.heap.size + 1 + 1, 0, none⟩ = some (.pointer (some ⟨D, 0, none⟩)) := by rw [← hW0]; simp [go_sem]
  have hD := HD.out.up up2
  have hsz : W0.heap.size = w2.heap.size + 3 := by rw [← hW0]; simp
  have hsw := HB1.out.size
  rw [hW0]
  clear hW0 HB1 HD HF up2 mk
  refine wpIn_rangeFunc_ownH rfl (by decide) (gf := 90) (lb := #[.pointer (some ⟨w2.heap.size + 1 + 1, 0, none⟩)]) rfl trivial (enters_of Tryz.func90 (by kernel_rfl) rfl)
    (pcAll_stops 2 (w2.heap.size + 1 + 1) _ D R l hl0 (by omega) W0 yG hD) KeepP.trans (fun W l o o' _ h1 h2 _ => keepP_put W l o o' h1 h2) (Below.refl _ _) (fun _ => rfl)
    (fun pre W => (Boxed W (w2.heap.size + 1) 79 (.slice (some ⟨w2.heap.size, 0, none⟩) l.length l.length) ∧ PnRow W w2.heap.size (setsP l pre)) ∧ Below w.heap.size w W)
    (fun c pre W => False)
    (OwnFrom.and (OwnFrom.and (Own.from (boxed_own _ _ _) _) (Own.from (pnRow_own _ (fun pre => setsP l pre)) _)) (ownFrom_below (Nat.le_refl _) (by omega)))
    (fun c => ownFrom_pure _ (fun _ => False))
    ⟨⟨y4, yR⟩, upw⟩
    (fun k a' W => ∃ Bq, w2.heap.size + 1 < Bq ∧ BoxN W Bq 109 #[.int .i64 (l[k.1]'k.2).n, .int .i64 0, .bool (l[k.1]'k.2).fx, .bool (l[k.1]'k.2).fy] ∧
      a' = { tmps := #[.agg #[.int .i64 c, .int .i64 r, .slice a n cap], .pointer (some ⟨w.heap.size, 0, none⟩), .slice none 0 0, .pointer (some ⟨D, 0, none⟩), .pointer (some ⟨w2.heap.size + 1, 0, none⟩), .int .i64 (k.1 : Int), .pointer (some ⟨Bq, 0, none⟩), .agg #[.int .i64 c, .int .i64 r, .slice a n cap], .pointer (some ⟨D, 0, none⟩), .pointer (some ⟨D, 0, none⟩), .bool false, .pointer (some ⟨D, 0, none⟩), .int .i64 (l.length : Int), .slice (some ⟨w2.heap.size, 0, none⟩) l.length l.length, .pointer (some ⟨D, 0, none⟩), .func (.func 90) #[] #[.pointer (some ⟨w2.heap.size + 1 + 1, 0, none⟩)], .int .i64 (k.1 : Int), .agg #[.int .i64 (l[k.1]'k.2).n, .int .i64 0, .bool (l[k.1]'k.2).fx, .bool (l[k.1]'k.2).fy], undef, undef, undef, undef, undef, undef, undef, undef, undef, undef], defers := [] })
    (fun k a' _ X Y row hs hg hr => by obtain ⟨Bx, h1, h2, h4⟩ := hs; exact ⟨Bx, h1, boxN_own Bx _ _ () X Y row h2 hg (fun r e => (hr r e).2), h4⟩)
    ?assign ?body ?done ?stop
  case assign =>
    rintro l0 pre k W K ⟨⟨k4, kR⟩, hB1⟩ hK
    have hsW := hB1.size
    unfold encJ encQ Pc.val
    dsimp only
    obtain ⟨p, hp⟩ : ∃ p, l[k.1]'k.2 = p := ⟨_, rfl⟩
    rw [hp] at hK ⊢
    gi_wp2
    have h4 := (Array.getElem?_eq_some_iff.1 k4).1
    exact hK _ _ ((KeepsOthers.alloc _ _).from _) (keepP_below (up_alloc (Below.refl _ _) _)) ⟨⟨k4.alloc _, kR.up (up_alloc (Below.refl _ _) _)⟩, hB1.alloc hsW _⟩ ⟨W.heap.size, h4, World.alloc_heap_new W _, rfl⟩
  case body =>
    rintro l0 pre k a' W hl _ ⟨⟨k4, kR⟩, hB1⟩ ⟨Bq, hBq, kQ, rfl⟩ hlen
    obtain ⟨p, hp⟩ : ∃ p, l[k.1]'k.2 = p := ⟨_, rfl⟩
    obtain ⟨j, hj, hpj⟩ := HN.out k
    rw [hp] at kQ hpj ⊢
    have q0 := kQ.cell 0 rfl; have q1 := kQ.cell 1 rfl; have q2 := kQ.cell 2 rfl; have q3 := kQ.cell 3 rfl
    have c4 := k4.cell
    obtain ⟨Z, hZ⟩ : ∃ Z, W.setCell ⟨Bq, 1, none⟩ (.int .i64 (k.1 : Int)) = Z := ⟨_, rfl⟩
    have zR : PnRow Z w2.heap.size (setsP l pre) := by rw [← hZ]; exact kR.same (Below.heap_setCell _ _ _ _ (by simp only; omega))
    have z4 : Boxed Z (w2.heap.size + 1) 79 (.slice (some ⟨w2.heap.size, 0, none⟩) l.length l.length) := by rw [← hZ]; exact (Below.heap_setCell _ _ _ _ (by simp only; omega)).trans k4
    have zQ : BoxN Z Bq 109 #[.int .i64 (j : Int), .int .i64 (k.1 : Int), .bool p.fx, .bool p.fy] := by
      rw [← hZ]
      rw [hpj] at kQ
      unfold BoxN at kQ ⊢
      simp only [World.setCell, Array.getElem?_modify, if_true, kQ, Option.map_some]
      rfl
    have y0 := zQ.cell 0 rfl; have y1 := zQ.cell 1 rfl; have y2 := zQ.cell 2 rfl; have y3 := zQ.cell 3 rfl; have y4 := z4.cell
    have q1f := kQ.free 1
    have hjs : j < (setsP l pre).length := by rw [setsP_length]; exact hj
    obtain ⟨f0, f1, f2⟩ := zR.cells (List.getElem?_eq_getElem hjs)
    have g0 := zR.free (j * 3); have g1 := zR.free (j * 3 + 1); have g2 := zR.free (j * 3 + 2)
    have kp1 : KeepP W Z := by
      rw [← hZ]
      refine keepP_set _ _ _ (fun cur fr e => ?_)
      rw [show W.heap[Bq]? = _ from kQ] at e
      cases e
      show 4 < 8
      omega
    have ko1 : KeepsOthers W Z := by rw [← hZ]; exact KeepsOthers.setCell _ _ _
    have bl1 : Below w.heap.size w Z := by rw [← hZ]; exact hB1.setCell (by simp only; omega) _
    have zR2 := zR.stored hjs ⟨(k.1 : Int), p.fx, p.fy⟩
    have z42 : Boxed (Z.setCells w2.heap.size (j * 3) (Pn.cells ⟨(k.1 : Int), p.fx, p.fy⟩)) (w2.heap.size + 1) 79 (.slice (some ⟨w2.heap.size, 0, none⟩) l.length l.length) := (World.heap_setCells_other _ _ _ _ (Array.getElem?_eq_some_iff.1 z4).1 (by omega)).trans z4
    have kp2 : KeepP Z (Z.setCells w2.heap.size (j * 3) (Pn.cells ⟨(k.1 : Int), p.fx, p.fy⟩)) := by
      obtain ⟨cur, e1, _⟩ := zR
      refine keepP_setCells _ _ _ _ (fun cur fr e => ?_)
      rw [e1] at e
      cases e
    have KP := Lib.hid (kp1.trans kp2); have KO := Lib.hid ko1; have BL := Lib.hid bl1; have ZR := Lib.hid zR2; have Z4 := Lib.hid z42
    clear kp1 kp2 ko1 bl1 zR2 z42
    gi_wp2
    refine ⟨(((KO.out.trans (KeepsOthers.setCell _ _ _)).trans (KeepsOthers.setCell _ _ _)).trans (KeepsOthers.setCell _ _ _)).from _, KP.out, ⟨Z4.out, ?_⟩, ((BL.out.setCell (by simp only; omega) _).setCell (by simp only; omega) _).setCell (by simp only; omega) _⟩
    rw [setsP_snoc]
    unfold ofStep
    rw [List.getElem?_eq_getElem k.2, hp]
    simp only [Option.getD_some, hpj, Int.toNat_natCast]
    exact ZR.out
  case done =>
    rintro E ys W hE rfl ⟨⟨k4, kR⟩, hB1⟩ hK
    have c4 := k4.cell
    rw [setsP_all l _ (Nat.le_refl _)] at kR
    gi_wp2
    refine ⟨by simp, .inl ⟨_, _, rfl, run_takeDeferred hK, ?_⟩⟩
    exact ⟨_, results_tmp rfl _ _ _, w2.heap.size, rfl, pnRow_own _ (fun _ : Unit => _) () W _ _ kR (grownBy_putObj' W E (.deferred none)) (fun r e => by cases e; exact ⟨_, hK, rfl⟩), by omega, hB1.trans (belowK_b (w := w) (Nat.le_refl _) W E _ _ (by omega) hK rfl rfl)⟩
  case stop =>
    rintro D c pre W hD hpre h hK
    exact h.elim

theorem unfOf_yes (s : Sc) (a : Option Addr) (cap : Nat) (w : World) (hI : InL w a s.l) (hr : rightM s = true) :
    Calls Tryz.prog 66 #[.agg #[.int .i64 s.c, .int .i64 s.r, .slice a s.l.length cap]] w fun e w' => ∃ g, e = .returned (.slice (some ⟨g, 0, none⟩) (pcL s).length (pcL s).length) ∧ PnRow w' g (panL s) ∧ w.heap.size ≤ g ∧ Below w.heap.size w w' := by
  obtain ⟨hc, hrr, hm, hl6, hall⟩ := right_bounds hr
  have hp : 1 ≤ s.c * s.r := Int.le_trans (by omega) (Int.mul_le_mul hc.1 hrr.1 (by omega) (by omega) : 1 * 1 ≤ s.c * s.r)
  have hlen := pcL_length s
  exact unfOf_core s.c s.r a s.l.length cap w (pcL s) (by omega) (by omega) (fun k => pcL_num s k.1 k.2) (fun w1 h => folded_yes s a cap w1 (hI.up h) hr)
end Go.Proofs.YtbfigaadbfggcaaGreatDoor
/- A slice of numbers in new memory, that grows. -/
namespace Go.Proofs.YtbfigaadbfggcaaGreatDoor
open Go.RowKit
set_option linter.unusedVariables false

/-- v is a slice of the call's own (from block base on) that holds the numbers l. -/
def rowI (w : World) (base : Nat) (v : Value) (l : List Int) : Prop := w.ownsRow base 3 1 v l.length (l.map (Value.int .i64))
theorem rowI.up {w w' : World} {base : Nat} {v : Value} {l : List Int} (h : rowI w base v l) (hb : Below w.heap.size w w') : rowI w' base v l := by
  refine World.ownsRow.kept h (row := none) ⟨hb.os, hb.tape, hb.output, hb.size, fun k hk _ => hb.block k hk⟩ ?_
  rcases h.2 with ⟨rfl, _⟩ | ⟨g, cap, cur, rfl, _⟩
  · exact .inl rfl
  · exact .inr (by simp [Value.ownBlock])
theorem rowI_form {w : World} {base : Nat} {v : Value} {l : List Int} (h : rowI w base v l) (hl : 0 < l.length) :
    ∃ g cap, v = .slice (some ⟨g, 0, none⟩) l.length cap ∧ base ≤ g ∧ g < w.heap.size ∧ ∀ i x, l[i]? = some x → w.cell? ⟨g, i, none⟩ = some (.int .i64 x) := by
  obtain ⟨g, cap, hv, hb, hlt⟩ := World.ownsRow.form h hl
  subst hv
  have hc := World.ownsRow.cells h (g := g) rfl
  have ad : ∀ j, (⟨g, 0, none⟩ : Addr).add j = ⟨g, j, none⟩ := fun j => by unfold Addr.add; split <;> simp_all
  refine ⟨g, cap, rfl, hb, hlt, fun i x hx => ?_⟩
  have c0 := hc i (.int .i64 x) (by simp [hx])
  rw [ad] at c0
  exact c0
end Go.Proofs.YtbfigaadbfggcaaGreatDoor
/- What unfold.Order answers: of a right scheme the numbers of all panels, by leaves; nothing of any other one. -/
namespace Go.Proofs.YtbfigaadbfggcaaGreatDoor
open Go.RowKit Go.Shelf
set_option linter.unusedVariables false
attribute [local go_sem] Oper.semAt_some

theorem Tryz.infoNum : (Tryz.prog.info? 3).map (fun i => (i.zero, i.size, i.bytes)) = some (some (.int .i64 0), 1, 8) := by kernel_rfl
/-- The numbers that have come. -/
def numsV (l : List Pc) (pre : List (Ix l.length)) : List Value := pre.map fun k => .int .i64 (l[k.1]'k.2).n
theorem numsV_snoc (l : List Pc) (pre : List (Ix l.length)) (k : Ix l.length) : numsV l (pre ++ [k]) = numsV l pre ++ [.int .i64 (l[k.1]'k.2).n] := by simp [numsV]
theorem numsV_all (l : List Pc) : numsV l (ixs l.length l.length) = (l.map Pc.n).map (Value.int .i64) := by
  apply List.ext_getElem?
  intro j
  unfold numsV
  rw [List.getElem?_map, List.map_map, List.getElem?_map]
  by_cases h : j < l.length
  · obtain ⟨h1, e⟩ := ixs_at _ (Nat.le_refl l.length) j h
    rw [e, List.getElem?_eq_getElem h]
    rfl
  · rw [List.getElem?_eq_none (by rw [ixs_length _ (Nat.le_refl _)]; omega), List.getElem?_eq_none (by omega)]
    rfl
theorem cell_a (w : World) (x : Value) (t : TypeId) : ∀ j u, [x][j]? = some u → (w.alloc (.cells #[x] t)).cell? ((⟨w.heap.size, 0, none⟩ : Addr).add j) = some u := by
  intro j u hj
  match j, hj with
  | 0, hj => simp at hj; subst hj; simp [Addr.add]
  | j + 1, hj => simp at hj
/-- A list of numbers grew: no list of pieces was written. -/
theorem keepP_append {W w1 : World} {B base : Nat} {tmp : Obj} {v v' : Value} {k m : Nat} {xs ys : List Value} (hv : Boxed W B 80 v) (hrow : W.ownsRow base 3 1 v k xs) (hown' : w1.ownsRow base 3 1 v' m ys) (hgrow : (W.alloc tmp).grownBy w1 v.ownBlock) (hv1 : Boxed w1 B 80 v) : KeepP W (w1.setCell ⟨B, 0, none⟩ v') := by
  have h1 : KeepP W (W.alloc tmp) := keepP_below (up_alloc (Below.refl _ _) _)
  have h2 : KeepP (W.alloc tmp) w1 := by
    refine ⟨hgrow.size, fun b cur fr hn hb => (hgrow.block b (Array.getElem?_eq_some_iff.1 hb).1 (fun e => ?_)).trans hb⟩
    rcases (hrow.alloc tmp).2 with ⟨rfl, _⟩ | ⟨g, cap, cur2, rfl, _, hgb, _⟩
    · simp [Value.ownBlock] at e
    · obtain rfl : g = b := by simpa [Value.ownBlock] using e.symm
      rw [hgb] at hb
      cases hb
  refine (h1.trans h2).trans (keepP_set _ _ _ (fun cur fr e => ?_))
  rw [show w1.heap[B]? = _ from hv1] at e
  cases e

theorem unfOrder_no (s : Sc) (a : Option Addr) (cap : Nat) (w : World) (hc : s.c ≤ 9223372036854775807) (hr : s.r ≤ 9223372036854775807) (hl : s.l.length ≤ 1000000) (hI : InL w a s.l) (hn : rightM s = false) :
    Calls Tryz.prog 67 #[.agg #[.int .i64 s.c, .int .i64 s.r, .slice a s.l.length cap]] w fun e w' => e = .returned (.slice none 0 0) ∧ Below w.heap.size w w' := by
  have KF := fun w1 (h : Below w.heap.size w w1) => folded_no s a cap w1 hc hr hl (hI.up h) hn
  have HF := Lib.hid KF
  generalize s.l.length = n at *
  clear KF hI hn
  have HB0 := Lib.hid (up_alloc (up_alloc (Below.refl _ w) (.cells #[.int .i64 s.c, .int .i64 s.r, .slice a n cap] 26)) (.cells #[.slice none 0 0] 80))
  refine (callsIn_wide (n := 3)).1 ?_
  refine callsIn_of_wp_marks Tryz.func67 rfl trivial ?_ rfl
  simp only [Tryz.ntmps67, List.size_toArray, List.length_cons, List.length_nil, Nat.reduceAdd, Nat.reduceSub, Array.replicate_succ, Array.replicate_zero, List.push_toArray, List.append_toArray, List.nil_append, List.cons_append]
  gi_wp2_with (first
    | (refine ⟨trivial, ?_⟩; gi_at_call 78; refine (callsIn_wide.2 (HF.out _ HB0.out)).mono ?_; rintro e w1 ⟨rfl, hb1⟩; have HB1 := Lib.hid (up_trans HB0.out hb1); have HN1 := Lib.hid hb1; clear hb1)
    | (refine ⟨trivial, ?_⟩; gi_at_call 80; refine (callsIn_wide.2 (pcAll_any _ _)).mono ?_; rintro e w4 ⟨rfl, rfl⟩))
  obtain ⟨W0, hW0⟩ : ∃ W0, w1.alloc (.cells #[.pointer none] 106) = W0 := ⟨_, rfl⟩
  have upw : Below w.heap.size w W0 := by rw [← hW0]; exact up_alloc HB1.out _
  have x0 : Boxed W0 (w.heap.size + 1) 80 (.slice none 0 0) := by
    have := (Boxed.new (w.alloc (.cells #[.int .i64 s.c, .int .i64 s.r, .slice a n cap] 26)) 80 (.slice none 0 0))
    simp only [World.size_alloc] at this
    have h2 := HN1.out
    rw [← hW0]
    have h3 : Boxed w1 (w.heap.size + 1) 80 (.slice none 0 0) := (h2.block _ (by simp)).trans this
    exact h3.alloc _
  have yG : W0.cell? ⟨w1.heap.size, 0, none⟩ = some (.pointer none) := by rw [← hW0]; simp [go_sem]
  have hsz : W0.heap.size = w1.heap.size + 1 := by rw [← hW0]; simp
  have hsw := HN1.out.size
  simp only [World.size_alloc] at hsw
  rw [hW0]
  clear hW0
  refine wpIn_rangeFunc_ownH rfl (by decide) (gf := 90) (lb := #[.pointer (some ⟨w1.heap.size, 0, none⟩)]) rfl trivial (enters_of Tryz.func90 (by kernel_rfl) rfl)
    (pcNil_stops 2 w1.heap.size W0 yG) KeepP.trans (fun W l o o' _ h1 h2 _ => keepP_put W l o o' h1 h2) (Below.refl _ _) (fun _ => rfl)
    (fun pre W => Boxed W (w.heap.size + 1) 80 (.slice none 0 0) ∧ Below w.heap.size w W)
    (fun c pre W => False)
    (OwnFrom.and (Own.from (boxed_own _ _ _) _) (ownFrom_below (Nat.le_refl _) (by omega)))
    (fun c => ownFrom_pure _ (fun _ => False))
    ⟨x0, upw⟩
    (fun x a' W => True)
    (fun x a' _ X Y row hs hg hr => trivial)
    ?assign ?body ?done ?stop
  case assign =>
    rintro l0 pre ⟨k, p⟩ W K ⟨k4, hB1⟩ hK
    have hsW := hB1.size
    unfold encQ Pc.val
    dsimp only
    gi_wp2
    exact hK _ _ ((KeepsOthers.alloc _ _).from _) (keepP_below (up_alloc (Below.refl _ _) _)) ⟨k4.alloc _, hB1.alloc hsW _⟩ trivial
  case body =>
    rintro l0 pre k a' W hl _ ⟨k4, hB1⟩ _ hlen
    exact absurd hlen (Nat.not_lt_zero _)
  case done =>
    rintro E ys W hE rfl ⟨k4, hB1⟩ hK
    have c4 := k4.cell
    gi_wp2
    refine ⟨by simp, .inl ⟨_, _, rfl, run_takeDeferred hK, ?_⟩⟩
    exact ⟨_, results_tmp rfl _ _ _, rfl, hB1.trans (belowK_b (w := w) (Nat.le_refl _) W E _ _ (by omega) hK rfl rfl)⟩
  case stop =>
    rintro D c pre W hD hpre h hK
    exact h.elim
set_option maxRecDepth 100000 in
set_option maxHeartbeats 4000000 in
theorem unfOrder_core (c r : Int) (a : Option Addr) (n cap : Nat) (w : World) (l : List Pc) (hl0 : 0 < l.length) (hl64 : l.length ≤ 4096)
    (KF : ∀ w1, Below w.heap.size w w1 → Calls Tryz.prog 78 #[.agg #[.int .i64 c, .int .i64 r, .slice a n cap]] w1 fun e w' => ∃ D R, e = .returned (.pointer (some ⟨D, 0, none⟩)) ∧ Dp w' w1.heap.size D R l ∧ Below w1.heap.size w1 w') :
    Calls Tryz.prog 67 #[.agg #[.int .i64 c, .int .i64 r, .slice a n cap]] w fun e w' => ∃ v, e = .returned v ∧ rowI w' w.heap.size v (l.map Pc.n) ∧ Below w.heap.size w w' := by
  obtain ⟨i0, hi, hz0, hz1, hz2⟩ := info_parts Tryz.infoNum
  have HF := Lib.hid KF
  have HB0 := Lib.hid (up_alloc (up_alloc (Below.refl _ w) (.cells #[.int .i64 c, .int .i64 r, .slice a n cap] 26)) (.cells #[.slice none 0 0] 80))
  clear KF
  refine (callsIn_wide (n := 3)).1 ?_
  refine callsIn_of_wp_marks Tryz.func67 rfl trivial ?_ rfl
  simp only [Tryz.ntmps67, List.size_toArray, List.length_cons, List.length_nil, Nat.reduceAdd, Nat.reduceSub, Array.replicate_succ, Array.replicate_zero, List.push_toArray, List.append_toArray, List.nil_append, List.cons_append]
  gi_wp2_with (first
    | (refine ⟨trivial, ?_⟩; gi_at_call 78; refine (callsIn_wide.2 (HF.out _ HB0.out)).mono ?_; rintro e w1 ⟨D, R, rfl, hD, hb1⟩; have HD := Lib.hid hD; have HB1 := Lib.hid (up_trans HB0.out hb1); have HN1 := Lib.hid hb1; clear hb1 hD)
    | (refine ⟨trivial, ?_⟩; gi_at_call 80; refine (callsIn_wide.2 (pcAll_any _ _)).mono ?_; rintro e w4 ⟨rfl, rfl⟩))
  obtain ⟨W0, hW0⟩ : ∃ W0, w1.alloc (.cells #[.pointer (some ⟨D, 0, none⟩)] 106) = W0 := ⟨_, rfl⟩
  have upw : Below w.heap.size w W0 := by rw [← hW0]; exact up_alloc HB1.out _
  have x0 : Boxed W0 (w.heap.size + 1) 80 (.slice none 0 0) := by
    have := (Boxed.new (w.alloc (.cells #[.int .i64 c, .int .i64 r, .slice a n cap] 26)) 80 (.slice none 0 0))
    simp only [World.size_alloc] at this
    have h2 := HN1.out
    rw [← hW0]
    have h3 : Boxed w1 (w.heap.size + 1) 80 (.slice none 0 0) := (h2.block _ (by simp)).trans this
    exact h3.alloc _
  have yG : W0.cell? ⟨w1.heap.size, 0, none⟩ = some (.pointer (some ⟨D, 0, none⟩)) := by rw [← hW0]; simp [go_sem]
  have hsz : W0.heap.size = w1.heap.size + 1 := by rw [← hW0]; simp
  have hsw := HN1.out.size
  simp only [World.size_alloc] at hsw
  have hD := HD.out.up (show Below w1.heap.size w1 W0 by rw [← hW0]; exact up_alloc (Below.refl _ _) _)
  rw [hW0]
  clear hW0 HD HF HN1
  refine wpIn_rangeFunc_ownH rfl (by decide) (gf := 90) (lb := #[.pointer (some ⟨w1.heap.size, 0, none⟩)]) rfl trivial (enters_of Tryz.func90 (by kernel_rfl) rfl)
    (pcAll_stops 2 w1.heap.size _ D R l hl0 (by omega) W0 yG hD) KeepP.trans (fun W l o o' _ h1 h2 _ => keepP_put W l o o' h1 h2) (Below.refl _ _) (fun _ => rfl)
    (fun pre W => (∃ v, Boxed W (w.heap.size + 1) 80 v ∧ W.ownsRow w.heap.size 3 1 v pre.length (numsV l pre) ∧ True) ∧ Below w.heap.size w W)
    (fun c pre W => False)
    (OwnFrom.and (Own.from (holdsRow_own w.heap.size (w.heap.size + 1) 80 3 1 (fun pre : List (Ix l.length) => pre.length) (fun pre => numsV l pre) (fun pre _ => True)) _) (ownFrom_below (Nat.le_refl _) (by omega)))
    (fun c => ownFrom_pure _ (fun _ => False))
    ⟨⟨_, x0, World.ownsRow_nil _ _ _ _, trivial⟩, upw⟩
    (fun k a' W => ∃ Bq, w.heap.size + 1 < Bq ∧ BoxN W Bq 109 #[.int .i64 (l[k.1]'k.2).n, .int .i64 0, .bool (l[k.1]'k.2).fx, .bool (l[k.1]'k.2).fy] ∧
      a' = { tmps := #[.agg #[.int .i64 c, .int .i64 r, .slice a n cap], .pointer (some ⟨w.heap.size, 0, none⟩), .slice none 0 0, .pointer (some ⟨w.heap.size + 1, 0, none⟩), undef, .pointer (some ⟨Bq, 0, none⟩), .agg #[.int .i64 c, .int .i64 r, .slice a n cap], .pointer (some ⟨D, 0, none⟩), .func (.func 90) #[] #[.pointer (some ⟨w1.heap.size, 0, none⟩)], .int .i64 (k.1 : Int), .agg #[.int .i64 (l[k.1]'k.2).n, .int .i64 0, .bool (l[k.1]'k.2).fx, .bool (l[k.1]'k.2).fy], undef, undef, undef, undef, undef, undef], defers := [] })
    (fun k a' _ X Y row hs hg hr => by obtain ⟨Bx, h1, h2, h4⟩ := hs; exact ⟨Bx, h1, boxN_own Bx _ _ () X Y row h2 hg (fun r e => (hr r e).2), h4⟩)
    ?assign ?body ?done ?stop
  case assign =>
    rintro l0 pre k W K ⟨⟨v, hv, hrow, -⟩, hB1⟩ hK
    have hsW := hB1.size
    unfold encJ encQ Pc.val
    dsimp only
    obtain ⟨p, hp⟩ : ∃ p, l[k.1]'k.2 = p := ⟨_, rfl⟩
    rw [hp] at hK ⊢
    gi_wp2
    exact hK _ _ ((KeepsOthers.alloc _ _).from _) (keepP_below (up_alloc (Below.refl _ _) _)) ⟨⟨v, hv.alloc _, hrow.alloc _, trivial⟩, hB1.alloc hsW _⟩ ⟨W.heap.size, hv.lt, World.alloc_heap_new W _, rfl⟩
  case body =>
    rintro l0 pre k a' W hl _ ⟨⟨v, hv, hrow, -⟩, hB1⟩ ⟨Bq, hBq, kQ, rfl⟩ hlen
    have hns := numsV_snoc l pre k
    obtain ⟨p, hp⟩ : ∃ p, l[k.1]'k.2 = p := ⟨_, rfl⟩
    rw [hp] at kQ hns ⊢
    have q0 := kQ.cell 0 rfl
    have hc := hv.cell
    have hle : w.heap.size ≤ w.heap.size + 1 := Nat.le_succ _
    have HQ := Lib.hid kQ
    clear kQ
    gi_wp2_with (gi_at_builtin; refine wpListIn_append_own _ rfl _ _ 80 rfl w.heap.size 3 i0 (.int .i64 0) 1 8 Tryz.underlying80 hi hz0 hz1 hz2 rfl (by decide) _ _ _ rfl (hrow.alloc _) ⟨W.heap.size, 0, none⟩ 1 1 [.int .i64 p.n] rfl rfl (cell_a _ _ _) (by simp [Value.oneCell']) (by unfold maxLen; omega) (by omega) (by have := hB1.size; simp; omega) ?_; intro v' w5 hown' hgrow _; obtain ⟨g', cap', rfl⟩ := ownsRow_succ hown'; obtain ⟨hv1, hv2, hr2, hk2, hb2⟩ := hv.appended (by decide) hrow hB1.size hle hown' hgrow; have hkp := keepP_append hv hrow hown' hgrow hv1; have hc1 := hv1.cell; have hf1 := hv1.frozen)
    exact ⟨hk2.from _, hkp, ⟨_, hv2, by rw [hns, List.length_append]; exact hr2, trivial⟩, hB1.trans hb2⟩
  case done =>
    rintro E ys W hE rfl ⟨⟨v, hv, hrow, -⟩, hB1⟩ hK
    have c4 := hv.cell
    gi_wp2
    refine ⟨by simp, .inl ⟨_, _, rfl, run_takeDeferred hK, ?_⟩⟩
    have h := ownsRow_putObj hrow (.deferred none) hK rfl
    rw [numsV_all, ixs_length _ (Nat.le_refl _)] at h
    exact ⟨_, results_tmp rfl _ _ _, v, rfl, (by unfold rowI; rw [List.length_map]; exact h), hB1.trans (belowK_b (w := w) (Nat.le_refl _) W E _ _ (by omega) hK rfl rfl)⟩
  case stop =>
    rintro D c pre W hD hpre h hK
    exact h.elim

theorem unfOrder_yes (s : Sc) (a : Option Addr) (cap : Nat) (w : World) (hI : InL w a s.l) (hr : rightM s = true) :
    Calls Tryz.prog 67 #[.agg #[.int .i64 s.c, .int .i64 s.r, .slice a s.l.length cap]] w fun e w' => ∃ v, e = .returned v ∧ rowI w' w.heap.size v ((pcL s).map Pc.n) ∧ Below w.heap.size w w' := by
  obtain ⟨hc, hrr, hm, hl6, hall⟩ := right_bounds hr
  have hp : 1 ≤ s.c * s.r := Int.le_trans (by omega) (Int.mul_le_mul hc.1 hrr.1 (by omega) (by omega) : 1 * 1 ≤ s.c * s.r)
  have hlen := pcL_length s
  exact unfOrder_core s.c s.r a s.l.length cap w (pcL s) (by omega) (by omega) (fun w1 h => folded_yes s a cap w1 (hI.up h) hr)
end Go.Proofs.YtbfigaadbfggcaaGreatDoor
/- gatherumlaw13.alive answers true. -/
namespace Go.Proofs.YtbfigaadbfggcaaGreatDoor
open Go.RowKit
set_option linter.unusedVariables false

def s21 : Sc := ⟨2, 1, [⟨1, 1, false⟩]⟩
theorem right_21 : rightM s21 = true := by decide +kernel
theorem pan_21 : panL s21 = [⟨0, true, false⟩, ⟨1, false, false⟩] := by decide +kernel
theorem len_21 : (pcL s21).length = 2 := by decide +kernel

theorem alive_of (w : World) :
    Calls Tryz.prog 66 #[.agg #[.int .i64 2, .int .i64 1, .slice (some ⟨w.heap.size, 0, none⟩) 1 1]] (w.alloc (.cells #[.int .i64 1, .int .i64 1, .bool false] 50)) fun e w' => ∃ g, e = .returned (.slice (some ⟨g, 0, none⟩) 2 2) ∧ PnRow w' g [⟨0, true, false⟩, ⟨1, false, false⟩] ∧ w.heap.size ≤ g ∧ Below w.heap.size w w' := by
  have hb := up_alloc (Below.refl _ w) (.cells #[.int .i64 1, .int .i64 1, .bool false] 50)
  have hI : InL (w.alloc (.cells #[.int .i64 1, .int .i64 1, .bool false] 50)) (some ⟨w.heap.size, 0, none⟩) s21.l := by
    refine .inr ⟨_, 0, rfl, ?_⟩
    intro j p hp
    match j, hp with
    | 0, hp =>
      cases hp
      refine ⟨?_, ?_, ?_⟩ <;> simp [go_sem]
    | j + 1, hp => simp [s21] at hp
  have K := unfOf_yes s21 (some ⟨w.heap.size, 0, none⟩) 1 _ hI right_21
  rw [len_21, pan_21] at K
  refine K.mono ?_
  rintro e w' ⟨g, h1, h2, h3, h4⟩
  simp only [World.size_alloc] at h3
  exact ⟨g, h1, h2, by omega, up_trans hb h4⟩

end Go.Proofs.YtbfigaadbfggcaaGreatDoor
/- Lists of the reference's panels: a panel's cells, how such a list lies in memory, and what moved and turned answer. -/
namespace Go.Proofs.YtbfigaadbfggcaaGreatDoor
open Go.RowKit Go.Lib
set_option linter.unusedVariables false

def Rp.cells (p : Rp) : List Value := [.int .i64 p.n, .int .i64 p.col, .int .i64 p.row, .bool p.fx, .bool p.fy]
def Rp.val (p : Rp) : Value := .agg #[.int .i64 p.n, .int .i64 p.col, .int .i64 p.row, .bool p.fx, .bool p.fy]
/-- The panels' cells, one behind the other. -/
def rps (l : List Rp) : List Value := l.flatMap Rp.cells
theorem rps_cons (p : Rp) (l : List Rp) : rps (p :: l) = p.cells ++ rps l := rfl
theorem rps_append (l m : List Rp) : rps (l ++ m) = rps l ++ rps m := by simp [rps]
theorem rps_length (l : List Rp) : (rps l).length = l.length * 5 := by
  induction l with
  | nil => rfl
  | cons p l ih => rw [rps_cons, List.length_append, ih, List.length_cons]; simp [Rp.cells]; omega
theorem rps_one {l : List Rp} : ∀ u ∈ rps l, u.oneCell' = true := by
  intro u hu
  obtain ⟨p, _, hp⟩ := List.mem_flatMap.1 hu
  simp [Rp.cells] at hp
  rcases hp with rfl | rfl | rfl | rfl | rfl <;> rfl
theorem rps_at {l : List Rp} {j : Nat} {p : Rp} (h : l[j]? = some p) (i : Nat) (hi : i < 5) : (rps l)[j * 5 + i]? = p.cells[i]? := by
  induction l generalizing j with
  | nil => simp at h
  | cons q l ih =>
    rw [rps_cons]
    cases j with
    | zero =>
      simp only [List.getElem?_cons_zero, Option.some.injEq] at h
      subst h
      rw [List.getElem?_append_left (by simp [Rp.cells]; omega)]
      simp
    | succ j =>
      rw [List.getElem?_cons_succ] at h
      rw [List.getElem?_append_right (by simp [Rp.cells]; omega), ← ih h]
      congr 1
      simp [Rp.cells]
      omega
theorem rps_set {l : List Rp} {j : Nat} (hj : j < l.length) (q : Rp) : rps (l.set j q) = (rps l).take (j * 5) ++ q.cells ++ (rps l).drop (j * 5 + 5) := by
  have h1 : l.set j q = l.take j ++ q :: l.drop (j + 1) := List.set_eq_take_append_cons_drop .. |>.trans (by rw [if_pos hj])
  have h2 : rps l = rps (l.take j) ++ rps (l.drop j) := by rw [← rps_append, List.take_append_drop]
  have h3 : (rps (l.take j)).length = j * 5 := by rw [rps_length, List.length_take]; omega
  have h4 : l.drop j = l[j] :: l.drop (j + 1) := List.drop_eq_getElem_cons hj
  rw [h1, rps_append, rps_cons, h2, List.take_left' h3, ← h3, List.drop_append, h4, rps_cons]
  simp [Rp.cells]

theorem Tryz.infoRp : (Tryz.prog.info? 85).map (fun i => (i.zero, i.size, i.bytes)) = some (some (.agg #[.int .i64 0, .int .i64 0, .int .i64 0, .bool false, .bool false]), 5, 32) := by kernel_rfl

/-- The panels stand in block b, from its first cell on. -/
def RpsAt (w : World) (b : Nat) (l : List Rp) : Prop := ∀ j u, (rps l)[j]? = some u → w.cell? ⟨b, j, none⟩ = some u
theorem RpsAt.up {w w' : World} {b : Nat} {l : List Rp} (h : RpsAt w b l) (hb : Below w.heap.size w w') : RpsAt w' b l := fun j u hu => bl_cell hb (h j u hu)
theorem RpsAt.cells {w : World} {b : Nat} {l : List Rp} (h : RpsAt w b l) {j : Nat} {p : Rp} (hp : l[j]? = some p) :
    w.cell? ⟨b, j * 5, none⟩ = some (.int .i64 p.n) ∧ w.cell? ⟨b, j * 5 + 1, none⟩ = some (.int .i64 p.col) ∧ w.cell? ⟨b, j * 5 + 2, none⟩ = some (.int .i64 p.row) ∧ w.cell? ⟨b, j * 5 + 3, none⟩ = some (.bool p.fx) ∧ w.cell? ⟨b, j * 5 + 4, none⟩ = some (.bool p.fy) :=
  ⟨h _ _ (rps_at hp 0 (by omega)), h _ _ (rps_at hp 1 (by omega)), h _ _ (rps_at hp 2 (by omega)), h _ _ (rps_at hp 3 (by omega)), h _ _ (rps_at hp 4 (by omega))⟩

/-- v is a slice of the call's own (from block base on) that holds the panels l. -/
def OwnR (w : World) (base : Nat) (v : Value) (l : List Rp) : Prop := w.ownsRow base 85 5 v l.length (rps l)
theorem OwnR.nil (w : World) (base : Nat) : OwnR w base (.slice none 0 0) [] := World.ownsRow_nil _ _ _ _
theorem OwnR.up {w w' : World} {base : Nat} {v : Value} {l : List Rp} (h : OwnR w base v l) (hb : Below w.heap.size w w') : OwnR w' base v l := by
  refine World.ownsRow.kept h (row := none) ⟨hb.os, hb.tape, hb.output, hb.size, fun k hk _ => hb.block k hk⟩ ?_
  rcases h.2 with ⟨rfl, _⟩ | ⟨g, cap, cur, rfl, _⟩
  · exact .inl rfl
  · exact .inr (by simp [Value.ownBlock])
theorem OwnR.base {w : World} {base : Nat} {v : Value} {l : List Rp} (h : OwnR w base v l) (b : Nat) (hb : b ≤ base) : OwnR w b v l := by
  refine ⟨h.1, ?_⟩
  rcases h.2 with h0 | ⟨g, cap, cur, rfl, h1, h2⟩
  · exact .inl h0
  · exact .inr ⟨g, cap, cur, rfl, by omega, h2⟩

/-- A list of panels of the call's own, that lies in block g, from there on as far as cap. -/
structure Rw (w : World) (base g cap : Nat) (l : List Rp) : Prop where
  own : OwnR w base (.slice (some ⟨g, 0, none⟩) l.length cap) l
theorem Rw.block {w : World} {base g cap : Nat} {l : List Rp} (h : Rw w base g cap l) : ∃ cur, w.heap[g]? = some (.cells cur 85 (0, 0)) ∧ l.length ≤ cap ∧ cap ≤ maxLen ∧ cur.size = cap * 5 ∧ cur.toList.take (l.length * 5) = rps l ∧ base ≤ g := by
  rcases h.own.2 with ⟨e, _⟩ | ⟨g', cap', cur, e, h1, h2, h3, h4, h5, h6⟩
  · cases e
  · cases e
    exact ⟨cur, h2, h3, h4, h5, h6, h1⟩
theorem Rw.of_block {w : World} {base g cap : Nat} {l : List Rp} {cur : Array Value} (h1 : base ≤ g) (h2 : w.heap[g]? = some (.cells cur 85 (0, 0))) (h3 : l.length ≤ cap) (h4 : cap ≤ maxLen) (h5 : cur.size = cap * 5) (h6 : cur.toList.take (l.length * 5) = rps l) : Rw w base g cap l :=
  ⟨⟨rps_length l, .inr ⟨g, cap, cur, rfl, h1, h2, h3, h4, h5, h6⟩⟩⟩
theorem Rw.lt {w : World} {base g cap : Nat} {l : List Rp} (h : Rw w base g cap l) : base ≤ g ∧ g < w.heap.size := World.ownsRow.lt h.own g rfl
theorem Rw.at {w : World} {base g cap : Nat} {l : List Rp} (h : Rw w base g cap l) : RpsAt w g l := fun j u hu => by
  have := World.ownsRow.cells h.own (g := g) rfl j u hu
  rwa [show (⟨g, 0, none⟩ : Addr).add j = ⟨g, j, none⟩ by unfold Addr.add; split <;> simp_all] at this
theorem Rw.free {w : World} {base g cap : Nat} {l : List Rp} (h : Rw w base g cap l) (j : Nat) : w.frozen? ⟨g, j, none⟩ = false := by
  obtain ⟨cur, h2, _⟩ := h.block
  exact row_frozen h2 j
theorem Rw.up {w w' : World} {base g cap : Nat} {l : List Rp} (h : Rw w base g cap l) (hb : Below w.heap.size w w') : Rw w' base g cap l := by
  obtain ⟨cur, h2, h3, h4, h5, h6, h1⟩ := h.block
  exact Rw.of_block h1 ((hb.block g h.lt.2).trans h2) h3 h4 h5 h6
theorem Rw.base {w : World} {base g cap : Nat} {l : List Rp} (h : Rw w base g cap l) (b : Nat) (hb : b ≤ g) : Rw w b g cap l := by
  obtain ⟨cur, h2, h3, h4, h5, h6, h1⟩ := h.block
  exact Rw.of_block hb h2 h3 h4 h5 h6
/-- What is told of any slice of the call's own, of a list that has something. -/
theorem OwnR.form {w : World} {base : Nat} {v : Value} {l : List Rp} (h : OwnR w base v l) (hl : 0 < l.length) : ∃ g cap, v = .slice (some ⟨g, 0, none⟩) l.length cap ∧ Rw w base g cap l := by
  rcases h.2 with ⟨_, h0⟩ | ⟨g, cap, cur, rfl, _⟩
  · omega
  · exact ⟨g, cap, rfl, ⟨h⟩⟩
/-- One number of one panel is written. -/
theorem Rw.set {w : World} {base g cap : Nat} {l : List Rp} (h : Rw w base g cap l) {k : Nat} {p : Rp} (hk : l[k]? = some p) (i : Nat) (hi : i < 5) (v : Value) (q : Rp) (hq : p.cells.set i v = q.cells) : Rw (w.setCell ⟨g, k * 5 + i, none⟩ v) base g cap (l.set k q) := by
  obtain ⟨cur, h2, h3, h4, h5, h6, h1⟩ := h.block
  obtain ⟨hkl, hp⟩ := List.getElem?_eq_some_iff.1 hk
  have hs : (w.setCell ⟨g, k * 5 + i, none⟩ v).heap[g]? = some (.cells (cur.setIfInBounds (k * 5 + i) v) 85 (0, 0)) := by
    simp only [World.setCell, Array.getElem?_modify, if_true, h2, Option.map_some]
    rfl
  refine Rw.of_block h1 hs (by rw [List.length_set]; exact h3) h4 (by simp [h5]) ?_
  rw [List.length_set, Array.toList_setIfInBounds, List.take_set, h6]
  apply List.ext_getElem?
  intro j
  rw [List.getElem?_set, rps_length]
  by_cases hj : j < l.length * 5
  · have e1 : (rps (l.set k q))[j]? = ((l.set k q)[j / 5]'(by rw [List.length_set]; omega)).cells[j % 5]? := by
      have := rps_at (l := l.set k q) (j := j / 5) (List.getElem?_eq_getElem (by rw [List.length_set]; omega)) (j % 5) (by omega)
      rwa [show j / 5 * 5 + j % 5 = j by omega] at this
    have e2 : (rps l)[j]? = (l[j / 5]'(by omega)).cells[j % 5]? := by
      have := rps_at (l := l) (j := j / 5) (List.getElem?_eq_getElem (by omega)) (j % 5) (by omega)
      rwa [show j / 5 * 5 + j % 5 = j by omega] at this
    rw [e1, e2, List.getElem_set]
    by_cases hkj : k = j / 5
    · subst hkj
      rw [if_pos rfl, ← hq, hp, List.getElem?_set]
      have hc : p.cells.length = 5 := rfl
      by_cases hij : j / 5 * 5 + i = j
      · rw [if_pos hij, if_pos (by omega), if_pos (by omega), if_pos (by omega)]
      · rw [if_neg hij, if_neg (by omega)]
    · rw [if_neg (by omega), if_neg hkj]
  · rw [if_neg (by omega), List.getElem?_eq_none (by rw [rps_length]; omega), List.getElem?_eq_none (by rw [rps_length, List.length_set]; omega)]
theorem Rw.set_but {w : World} {base g cap : Nat} {l : List Rp} (h : Rw w base g cap l) (k : Nat) (v : Value) {B : Nat} {w0 : World} (hb : Below B w0 w) (hB : B ≤ g) : Below B w0 (w.setCell ⟨g, k, none⟩ v) := hb.setCell hB v

set_option maxHeartbeats 1000000 in
theorem refMoved_any (p : Rp) (d n : Int) (u : Bool) (c r : Int) (w : World) (hd : 1 ≤ d ∧ d ≤ 4) (hn : 1 ≤ n ∧ n ≤ 64) (hc : 1 ≤ c ∧ c ≤ 64) (hr : 1 ≤ r ∧ r ≤ 64) :
    Calls Tryz.prog 69 #[p.val, .agg #[.int .i64 d, .int .i64 n, .bool u], .int .i64 c, .int .i64 r] w fun e w' => e = .returned (.bool (movedM d n c r p)) ∧ Below w.heap.size w w' := by
  unfold Rp.val
  obtain ⟨pn, pc, pr, fx, fy⟩ := p
  obtain ⟨q1, h1⟩ : ∃ q, c - n = q := ⟨_, rfl⟩
  obtain ⟨q2, h2⟩ : ∃ q, r - n = q := ⟨_, rfl⟩
  have w1 : wrap64 (c - n) = q1 := by rw [h1]; exact IntWalk.wrap64_in _ (by omega)
  have w2 : wrap64 (r - n) = q2 := by rw [h2]; exact IntWalk.wrap64_in _ (by omega)
  obtain rfl | rfl | rfl | rfl : d = 1 ∨ d = 2 ∨ d = 3 ∨ d = 4 := by omega
  all_goals
    unfold movedM
    simp only [h1, h2]
    have H1 := Lib.hid h1; have H2 := Lib.hid h2
    clear h1 h2
    go_enter Tryz.func69, Tryz.ntmps69
    go_wp2
    go_ret
    refine ⟨by simp [H1.out, H2.out], ?_⟩
    repeat (first | with_reducible exact Below.refl _ _ | apply up_alloc)

set_option maxHeartbeats 1000000 in
theorem refTurned_any (p : Rp) (d n : Int) (u : Bool) (c r : Int) (w : World) (hd : 1 ≤ d ∧ d ≤ 4) (hn : 1 ≤ n ∧ n ≤ 64) (hc : 1 ≤ c ∧ c ≤ 64) (hr : 1 ≤ r ∧ r ≤ 64) (hp : (0 ≤ p.col ∧ p.col ≤ 64) ∧ 0 ≤ p.row ∧ p.row ≤ 64) :
    Calls Tryz.prog 70 #[p.val, .agg #[.int .i64 d, .int .i64 n, .bool u], .int .i64 c, .int .i64 r] w fun e w' => e = .returned (turnedM d n c r p).val ∧ Below w.heap.size w w' := by
  unfold Rp.val
  obtain ⟨pn, pc, pr, fx, fy⟩ := p
  simp only at hp
  have a1 : wrap64 (2 * n) = 2 * n := IntWalk.wrap64_in _ (by omega)
  have a2 : wrap64 (2 * n - 1) = 2 * n - 1 := IntWalk.wrap64_in _ (by omega)
  have a3 : wrap64 (2 * n - 1 - pc) = 2 * n - 1 - pc := IntWalk.wrap64_in _ (by omega)
  have a4 : wrap64 (2 * n - 1 - pr) = 2 * n - 1 - pr := IntWalk.wrap64_in _ (by omega)
  have b0 : wrap64 (c - n) = c - n := IntWalk.wrap64_in _ (by omega)
  have b1 : wrap64 (2 * (c - n)) = 2 * (c - n) := IntWalk.wrap64_in _ (by omega)
  have b2 : wrap64 (2 * (c - n) - 1) = 2 * (c - n) - 1 := IntWalk.wrap64_in _ (by omega)
  have b3 : wrap64 (2 * (c - n) - 1 - pc) = 2 * (c - n) - 1 - pc := IntWalk.wrap64_in _ (by omega)
  have e0 : wrap64 (r - n) = r - n := IntWalk.wrap64_in _ (by omega)
  have e1 : wrap64 (2 * (r - n)) = 2 * (r - n) := IntWalk.wrap64_in _ (by omega)
  have e2 : wrap64 (2 * (r - n) - 1) = 2 * (r - n) - 1 := IntWalk.wrap64_in _ (by omega)
  have e3 : wrap64 (2 * (r - n) - 1 - pr) = 2 * (r - n) - 1 - pr := IntWalk.wrap64_in _ (by omega)
  obtain rfl | rfl | rfl | rfl : d = 1 ∨ d = 2 ∨ d = 3 ∨ d = 4 := by omega
  all_goals
    unfold turnedM
    go_enter Tryz.func70, Tryz.ntmps70
    go_wp2
    refine bodyPost_ret (v := .agg _) (by simp [results, Tryz.results70, go_sem]) rfl ⟨rfl, ?_⟩
    repeat (first | with_reducible exact Below.refl _ _ | apply up_alloc)
end Go.Proofs.YtbfigaadbfggcaaGreatDoor
