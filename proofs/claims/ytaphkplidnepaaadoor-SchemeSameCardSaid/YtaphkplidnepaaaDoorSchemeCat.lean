/- What scheme.catalogue yields: each name, in order, and the text of its scheme, as long as they are wanted, whatever is done with each. -/
import Derived.RangeFuncNested
import Derived.RangeFuncBound
import Derived.RangeFuncCalls
import Derived.RangeFuncLeaves
import Derived.Shelf.Abstract
import Derived.Shelf.RegionOpen
import Derived.WalkKit
import Derived.OwnWalkIn
import Derived.TacticsInMore
import Derived.LoopNIn
import Derived.LoopIn
import Derived.Test.YtaphkplidnepaaaDoorSchemeRead
import Derived.Test.YtaphkplidnepaaaDoorSchemeTell
namespace Go.Proofs.YtaphkplidnepaaaDoor
open Go.RowKit Go.Shelf
set_option linter.unusedVariables false

/-- A row of the catalogue. -/
abbrev CatE := { e : List UInt8 × Sc // e ∈ catS }
def catL : List CatE := catS.attach
def textE (x : CatE) : List UInt8 := joinM (partsM x.1.2)
/-- A name, and its scheme's text, as a loop's two variables. -/
def encE (x : CatE) : Array Value := #[.string (tx x.1.1), .string (tx (textE x))]
/-- A row as the program writes it. -/
def rowE (e : List UInt8 × Sc) : List UInt8 := e.1 ++ 32 :: joinM (partsC e.2)
theorem cat_cut : ∀ e ∈ catS, Lib.cut (rowE e) [32] = (e.1, joinM (partsC e.2), true) := by decide +kernel
theorem cat_split : ∀ e ∈ catS, Lib.split (joinM (partsC e.2)) [32] = partsC e.2 := by decide +kernel
theorem cat_short : ∀ e ∈ catS, (rowE e).length ≤ 100 ∧ (joinM (partsC e.2)).length ≤ 100 ∧ ∀ p ∈ partsC e.2, p.length ≤ 100 := by decide +kernel
theorem catL_length : catL.length = 21 := by simp [catL]; rfl
theorem catL_at {k : Nat} {x : CatE} (h : catL[k]? = some x) : catS[k]? = some x.1 := by
  unfold catL at h
  rw [List.getElem?_attach] at h
  simp only [Option.pmap_eq_some_iff] at h
  obtain ⟨a, ha, h1, rfl⟩ := h
  exact h1
theorem below_drewN {B : Nat} {a w : World} (h : Below B a w) : ∀ n, Below B a (w.drewN n)
  | 0 => h
  | n + 1 => (below_drewN h n).drew

def catC : Array Value := (catS.map fun e => Value.string (tx (rowE e))).toArray
def catZ : Array Value := (List.replicate 21 (Value.string ⟨#[]⟩)).toArray
theorem cat_alloc (w : World) : (Instr.alloc 58 true (.tuple #[])).run Tryd.prog w = .ok (.pointer (some ⟨w.heap.size, 0, none⟩)) (w.alloc (.cells catZ 58)) := by
  kernel_rfl
section
variable {P : Program} {ops : Array Oper} {rest : List Oper} {o : Oper} {a : Act} {w : World} {Q : Exit → Act → World → Prop}
theorem wpList_alloc_to (hg : o.guard = none) (ty : TypeId) (ho : o.op = .alloc ty) (v : Value) (w' : World) (hr : (Instr.alloc ty true (.tuple #[])).run P w = .ok v w') (h : wpList P ops Q rest (a.put o.dst v) w') : wpList P ops Q (o :: rest) a w :=
  wpList_plain hg fun _ hK => by
    unfold Oper.wp execOp
    simp only [ho, Sem.run_bind, hr, Result.andThen_ok]
    exact hK _ _ h
theorem wpList_build_to (hg : o.guard = none) (t : TypeId) (parts : Array (Nat × Operand)) (ho : o.op = .build t parts) (cells : Array Value) (hc : P.built t (parts.map fun (i, x) => (i, a.eval x)).toList = some cells) (h : wpList P ops Q rest (a.put o.dst (.agg cells)) w) : wpList P ops Q (o :: rest) a w :=
  wpList_build hg t parts ho (by rw [hc]; rfl) (by rw [hc]; exact h)
end

theorem cat_row (k : Nat) (e : List UInt8 × Sc) (h : catS[k]? = some e) (w : World) : (Instr.index 58 (.agg catC) (.int .i64 (k : Int))).run Tryd.prog w = .ok (.string (tx (rowE e))) w := by
  have hk : k < 21 := (List.getElem?_eq_some_iff.1 h).1
  have hc : k = 0 ∨ k = 1 ∨ k = 2 ∨ k = 3 ∨ k = 4 ∨ k = 5 ∨ k = 6 ∨ k = 7 ∨ k = 8 ∨ k = 9 ∨ k = 10 ∨ k = 11 ∨ k = 12 ∨ k = 13 ∨ k = 14 ∨ k = 15 ∨ k = 16 ∨ k = 17 ∨ k = 18 ∨ k = 19 ∨ k = 20 := by omega
  rcases hc with rfl | rfl | rfl | rfl | rfl | rfl | rfl | rfl | rfl | rfl | rfl | rfl | rfl | rfl | rfl | rfl | rfl | rfl | rfl | rfl | rfl
  all_goals
    obtain rfl := Option.some.inj h
    exact (show _ = _ from by kernel_rfl)
theorem grown_row (W : World) (cs cs' : Array Value) (t : TypeId) : W.grownBy ((W.alloc (.cells cs t)).setRow W.heap.size cs') none := by
  refine ⟨rfl, rfl, rfl, by simp [World.setRow], fun k hk _ => ?_⟩
  unfold World.setRow
  simp only [Array.getElem?_modify]
  rw [if_neg (by omega)]
  exact Below.heap_alloc W _ _ hk
theorem below_row (W : World) {B : Nat} (cs cs' : Array Value) (t : TypeId) (h : B ≤ W.heap.size) : Below B W ((W.alloc (.cells cs t)).setRow W.heap.size cs') := by
  have hg := grown_row W cs cs' t
  exact Below.grown (Below.refl B W) hg h (fun k e => by cases e)

theorem cat_cutRow (x : CatE) (w : World) (hm : Mx w) :
    Calls Tryd.prog 43 #[.string (tx (rowE x.1)), .string ⟨#[32]⟩] w fun e w' => e = .returned (.tuple #[.string (tx x.1.1), .string (tx (textE x)), .bool true]) ∧ ∃ n, w' = w.drewN n := by
  obtain ⟨m, hm⟩ := hm
  refine (Tryd.strings_Cut (tx (rowE x.1)) ⟨#[32]⟩ m w (by have := (cat_short x.1 x.2).1; rw [tx_size]; omega) hm).mono ?_
  rintro e w' ⟨rfl, n, rfl⟩
  refine ⟨?_, n, rfl⟩
  rw [data_tx, show (⟨#[32]⟩ : ByteArray).data.toList = [32] from rfl, cat_cut x.1 x.2]
  unfold textE
  rw [cat_parts x.1 x.2]
  rfl

set_option maxRecDepth 100000 in
set_option maxHeartbeats 4000000 in
theorem catalogue_in (n l0 n₀ : Nat) (J Jx : List CatE → World → Prop)
    (hal : ∀ pre W W', J pre W → W.grownBy W' none → J pre W')
    (hY : ∀ pre x W, J pre W → pre.length < 21 → YieldAt Fence.wide (n - 1) Tryd.prog l0 (encE x) W fun e W' =>
      (e = .returned (.bool true) ∧ J (pre ++ [x]) W' ∧ Below n₀ W W') ∨ (e = .returned (.bool false) ∧ Jx (pre ++ [x]) W'))
    (W : World) (hn : n₀ ≤ W.heap.size) (hm : ∃ m, 0 < n₀ ∧ W.cell? ⟨0, 0, none⟩ = some (.int .i64 m)) (h0 : J [] W) :
    CallsIn Fence.wide n Tryd.prog 31 #[.func (.yield l0) #[] #[]] W fun e W' => (∃ v, e = .returned v) ∧
      ((∃ ys, ys = catL ∧ J ys W') ∨ (∃ pre, (∃ k, k < 21 ∧ pre = catL.take (k + 1)) ∧ Jx pre W')) := by
  refine callsIn_of_wp Tryd.func31 rfl trivial ?_ rfl
  simp only [Tryd.ntmps31, List.size_toArray, List.length_cons, List.length_nil, Nat.reduceAdd, Nat.reduceSub, Array.replicate_succ, Array.replicate_zero, List.push_toArray, List.append_toArray, List.nil_append, List.cons_append]
  have HY := Lib.hid hY; have HJ := Lib.hid h0; have HN := Lib.hid hn; have HL := Lib.hid hal; have HM := Lib.hid hm
  clear hY hal h0 hm
  clear hn
  refine wpIn_seq (wpIn_wide.2 (wp_region_lit ?_))
  refine wpList_build_to rfl 58 _ rfl catC (by kernel_rfl) ?_
  refine wpList_alloc_to rfl _ rfl _ _ (cat_alloc W) ?_
  refine wpList_store_row rfl _ _ _ rfl W.heap.size catC rfl rfl _ _ (heap_alloc_new W _) (by kernel_rfl) (by kernel_rfl) (by kernel_rfl) ?_
  refine wpList_nil ?_
  show Code.wpIn Fence.wide n Tryd.prog _ _ _ _
  refine wpIn_seq (wpIn_wide.2 (wp_region_lit ?_))
  refine wpList_load_row rfl _ _ rfl W.heap.size rfl _ catC _ _ (setRow_heap _ _ _ _ _ _ (heap_alloc_new W _)) Tryd.underlying58 rfl (by kernel_rfl) ?_
  have hr := fun k e h w => cat_row k e h w
  obtain ⟨A, hA⟩ : ∃ A, Value.agg catC = A := ⟨_, rfl⟩
  have hg : W.grownBy ((W.alloc (.cells catZ 58)).setRow W.heap.size catC) none := grown_row W _ _ _
  have hw : Below n₀ W ((W.alloc (.cells catZ 58)).setRow W.heap.size catC) := below_row W _ _ _ HN.out
  have hJ1 := HL.out _ _ _ HJ.out hg
  rw [hA] at hr ⊢
  generalize ((W.alloc (.cells catZ 58)).setRow W.heap.size catC) = w1 at *
  have HJ1 := Lib.hid hJ1; have HB := Lib.hid hw; have HR := Lib.hid hr
  clear hA hg hw hJ1 hr
  refine wpList_plain rfl fun _ hK => ?_
  unfold Oper.wp execOp
  refine hK _ _ (wpList_nil ?_)
  show Code.wpIn Fence.wide n Tryd.prog _ _ _ _
  gi_wp2
  gi_loopw [10] (fun i wr => ∃ k : Nat, k ≤ 21 ∧ i = .int .i64 (k : Int) ∧ J (catL.take k) wr ∧ Below n₀ W wr) (fun i _ => 21 - (intOf i).toNat)
  case atStart => exact ⟨0, by omega, by go_num, HJ1.out, HB.out⟩
  case round =>
    obtain ⟨k, hk, rfl, hJs, hb⟩ := hrel
    by_cases hlt : k < 21
    · obtain ⟨x, hx⟩ : ∃ x, catL[k]? = some x := ⟨catL[k]'(by rw [catL_length]; exact hlt), List.getElem?_eq_getElem _⟩
      have hix := fun w => HR.out k x.1 (catL_at hx) w
      have hs := take_snoc hx
      have z0 : (0 : Int) ≤ (k : Int) := by omega
      have z1 : (k : Int) < 21 := by omega
      obtain ⟨m, hm, hcm⟩ := HM.out
      have KC := cat_cutRow x wr ⟨m, (hb.cell (p := ⟨0, 0, none⟩) hm).trans hcm⟩
      have KY := fun W' h => HY.out (catL.take k) x W' h (by rw [List.length_take, catL_length]; omega)
      unfold encE at KY
      have HKC := Lib.hid KC; have HKY := Lib.hid KY; have HS := Lib.hid hs; have HBk := Lib.hid hb; have HJk := Lib.hid hJs
      generalize tx (rowE x.1) = P at *
      generalize tx x.1.1 = Q at *
      generalize tx (textE x) = R at *
      clear KC KY hs hb hJs hx
      gi_wp2
      refine ⟨trivial, fun h => by simp [Fence.wide] at h, (callsIn_wide.2 HKC.out).mono ?_⟩
      rintro e w2 ⟨rfl, nd, rfl⟩
      have hJ2 := HL.out _ _ (wr.drewN nd) HJk.out ⟨rfl, rfl, rfl, Nat.le_refl _, fun _ _ _ => rfl⟩
      obtain ⟨fn, tmps, assign, body, hy, hR⟩ := HKY.out _ hJ2
      clear hJ2 HKY HKC hix hcm
      gi_wp2
      refine ⟨fun h => by simp [Fence.wide] at h, hR.mono ?_⟩
      rintro e W3 (⟨rfl, hJ3, hk3⟩ | ⟨rfl, hJx3⟩)
      · gi_wp2
        go_roundw
        case rel => exact ⟨k + 1, by omega, by go_num, by rw [HS.out]; exact hJ3, (below_drewN HBk.out nd).trans hk3⟩
        case measure => simp [intOf]; omega
      · gi_wp2
        refine bodyPost_ret (results_none rfl _ _ _) rfl ?_
        exact ⟨⟨_, rfl⟩, .inr ⟨_, ⟨k, hlt, rfl⟩, by rw [HS.out]; exact hJx3⟩⟩
    · obtain rfl : k = 21 := by omega
      have HJ2 := Lib.hid hJs
      clear hJs hb
      gi_wp2
      go_end0
      exact ⟨⟨_, rfl⟩, .inl ⟨_, rfl, by have := HJ2.out; rwa [List.take_of_length_le (by rw [catL_length]; omega)] at this⟩⟩

/-- What catalogue yields, as a range over it sees it; the body may write what lies in block n₀ or behind it. -/
theorem catalogue_from (n n₀ : Nat) (w : World) (hn : n₀ ≤ w.heap.size) (hm : ∃ m, 0 < n₀ ∧ w.cell? ⟨0, 0, none⟩ = some (.int .i64 m)) :
    SeqStopsK Fence.wide n Tryd.prog 31 #[] encE (Below n₀) (fun ys => ys = catL) (fun pre => ∃ k, k < 21 ∧ pre = catL.take (k + 1)) 21 w := fun l0 J Jx W hW hJ _ hY h0 => by
  obtain ⟨m, hlt, hm⟩ := hm
  exact catalogue_in n l0 n₀ J Jx (fun pre W W' h hg => hJ pre W W' none h hg (fun r e => by cases e)) hY W (by have := hW.size; omega) ⟨m, hlt, bl_cell hW hm⟩ h0
/-- What catalogue yields, as a range over it sees it. -/
theorem catalogue_stops (n : Nat) (w : World) (hm : Mx w) :
    SeqStopsK Fence.wide n Tryd.prog 31 #[] encE (Below w.heap.size) (fun ys => ys = catL) (fun pre => ∃ k, k < 21 ∧ pre = catL.take (k + 1)) 21 w := fun l0 J Jx W hW hJ _ hY h0 => by
  obtain ⟨m, hm⟩ := hm
  have hlt := World.block_lt_of_cell? w _ hm
  exact catalogue_in n l0 w.heap.size J Jx (fun pre W W' h hg => hJ pre W W' none h hg (fun r e => by cases e)) hY W hW.size ⟨m, hlt, bl_cell hW hm⟩ h0
end Go.Proofs.YtaphkplidnepaaaDoor
