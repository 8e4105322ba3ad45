/- Part 13 of the texts that the proofs of this seat share: SchemeCat, SchemeFind, SplitMay, RefLight, SplitLast, LiG, SplitEnd. -/
import Derived.RangeFuncNested
import Derived.RangeFuncBound
import Derived.RangeFuncCalls
import Derived.RangeFuncLeaves
import Derived.Shelf.Abstract
import Derived.Shelf.RegionOpen
import Derived.WalkKit
import Derived.OwnWalkIn
import Derived.TacticsInMore
import Derived.LoopNIn
import Derived.LoopIn
import Derived.Test.YtomakbnbokaigaaGreatDoorPart4
import Derived.Test.YtomakbnbokaigaaGreatDoorPart12
import Derived.Deep.RegionHeld3
import Derived.BigQuiet
import Derived.Test.YtomakbnbokaigaaGreatDoorPart2
/- What scheme.catalogue yields: each name, in order, and the text of its scheme, as long as they are wanted, whatever is done with each. -/
namespace Go.Proofs.YtomakbnbokaigaaGreatDoor
open Go.RowKit Go.Shelf
set_option linter.unusedVariables false

/-- A row of the catalogue. -/
abbrev CatE := { e : List UInt8 × Sc // e ∈ catS }
def catL : List CatE := catS.attach
def textE (x : CatE) : List UInt8 := joinM (partsM x.1.2)
/-- A name, and its scheme's text, as a loop's two variables. -/
def encE (x : CatE) : Array Value := #[.string (tx x.1.1), .string (tx (textE x))]
/-- A row as the program writes it. -/
def rowE (e : List UInt8 × Sc) : List UInt8 := e.1 ++ 32 :: joinM (partsC e.2)
theorem cat_cut : ∀ e ∈ catS, Lib.cut (rowE e) [32] = (e.1, joinM (partsC e.2), true) := by decide +kernel
theorem cat_split : ∀ e ∈ catS, Lib.split (joinM (partsC e.2)) [32] = partsC e.2 := by decide +kernel
theorem cat_short : ∀ e ∈ catS, (rowE e).length ≤ 100 ∧ (joinM (partsC e.2)).length ≤ 100 ∧ ∀ p ∈ partsC e.2, p.length ≤ 100 := by decide +kernel
theorem catL_length : catL.length = 21 := by simp [catL]; rfl
theorem catL_at {k : Nat} {x : CatE} (h : catL[k]? = some x) : catS[k]? = some x.1 := by
  unfold catL at h
  rw [List.getElem?_attach] at h
  simp only [Option.pmap_eq_some_iff] at h
  obtain ⟨a, ha, h1, rfl⟩ := h
  exact h1
theorem below_drewN {B : Nat} {a w : World} (h : Below B a w) : ∀ n, Below B a (w.drewN n)
  | 0 => h
  | n + 1 => (below_drewN h n).drew

def catC : Array Value := (catS.map fun e => Value.string (tx (rowE e))).toArray
def catZ : Array Value := (List.replicate 21 (Value.string ⟨#[]⟩)).toArray
theorem cat_alloc (w : World) : (Instr.alloc 85 true (.tuple #[])).run Tryz.prog w = .ok (.pointer (some ⟨w.heap.size, 0, none⟩)) (w.alloc (.cells catZ 85)) := by
  kernel_rfl

theorem cat_row (k : Nat) (e : List UInt8 × Sc) (h : catS[k]? = some e) (w : World) : (Instr.index 85 (.agg catC) (.int .i64 (k : Int))).run Tryz.prog w = .ok (.string (tx (rowE e))) w := by
  have hk : k < 21 := (List.getElem?_eq_some_iff.1 h).1
  have hc : k = 0 ∨ k = 1 ∨ k = 2 ∨ k = 3 ∨ k = 4 ∨ k = 5 ∨ k = 6 ∨ k = 7 ∨ k = 8 ∨ k = 9 ∨ k = 10 ∨ k = 11 ∨ k = 12 ∨ k = 13 ∨ k = 14 ∨ k = 15 ∨ k = 16 ∨ k = 17 ∨ k = 18 ∨ k = 19 ∨ k = 20 := by omega
  rcases hc with rfl | rfl | rfl | rfl | rfl | rfl | rfl | rfl | rfl | rfl | rfl | rfl | rfl | rfl | rfl | rfl | rfl | rfl | rfl | rfl | rfl
  all_goals
    obtain rfl := Option.some.inj h
    exact (show _ = _ from by kernel_rfl)
theorem grown_row (W : World) (cs cs' : Array Value) (t : TypeId) : W.grownBy ((W.alloc (.cells cs t)).setRow W.heap.size cs') none := by
  refine ⟨rfl, rfl, rfl, by simp [World.setRow], fun k hk _ => ?_⟩
  unfold World.setRow
  simp only [Array.getElem?_modify]
  rw [if_neg (by omega)]
  exact Below.heap_alloc W _ _ hk
theorem below_row (W : World) {B : Nat} (cs cs' : Array Value) (t : TypeId) (h : B ≤ W.heap.size) : Below B W ((W.alloc (.cells cs t)).setRow W.heap.size cs') := by
  have hg := grown_row W cs cs' t
  exact Below.grown (Below.refl B W) hg h (fun k e => by cases e)

theorem cat_cutRow (x : CatE) (w : World) (hm : Mx w) :
    Calls Tryz.prog 61 #[.string (tx (rowE x.1)), .string ⟨#[32]⟩] w fun e w' => e = .returned (.tuple #[.string (tx x.1.1), .string (tx (textE x)), .bool true]) ∧ ∃ n, w' = w.drewN n := by
  obtain ⟨m, hm⟩ := hm
  refine (Tryz.strings_Cut (tx (rowE x.1)) ⟨#[32]⟩ m w (by have := (cat_short x.1 x.2).1; rw [tx_size]; omega) hm).mono ?_
  rintro e w' ⟨rfl, n, rfl⟩
  refine ⟨?_, n, rfl⟩
  rw [data_tx, show (⟨#[32]⟩ : ByteArray).data.toList = [32] from rfl, cat_cut x.1 x.2]
  unfold textE
  rw [cat_parts x.1 x.2]
  rfl

set_option maxRecDepth 100000 in
set_option maxHeartbeats 4000000 in
theorem catalogue_in (n l0 n₀ : Nat) (J Jx : List CatE → World → Prop)
    (hal : ∀ pre W W', J pre W → W.grownBy W' none → J pre W')
    (hY : ∀ pre x W, J pre W → pre.length < 21 → YieldAt Fence.wide (n - 1) Tryz.prog l0 (encE x) W fun e W' =>
      (e = .returned (.bool true) ∧ J (pre ++ [x]) W' ∧ Below n₀ W W') ∨ (e = .returned (.bool false) ∧ Jx (pre ++ [x]) W'))
    (W : World) (hn : n₀ ≤ W.heap.size) (hm : ∃ m, 0 < n₀ ∧ W.cell? ⟨0, 0, none⟩ = some (.int .i64 m)) (h0 : J [] W) :
    CallsIn Fence.wide n Tryz.prog 52 #[.func (.yield l0) #[] #[]] W fun e W' => (∃ v, e = .returned v) ∧
      ((∃ ys, ys = catL ∧ J ys W') ∨ (∃ pre, (∃ k, k < 21 ∧ pre = catL.take (k + 1)) ∧ Jx pre W')) := by
  refine callsIn_of_wp Tryz.func52 rfl trivial ?_ rfl
  simp only [Tryz.ntmps52, List.size_toArray, List.length_cons, List.length_nil, Nat.reduceAdd, Nat.reduceSub, Array.replicate_succ, Array.replicate_zero, List.push_toArray, List.append_toArray, List.nil_append, List.cons_append]
  have HY := Lib.hid hY; have HJ := Lib.hid h0; have HN := Lib.hid hn; have HL := Lib.hid hal; have HM := Lib.hid hm
  clear hY hal h0 hm
  clear hn
  refine wpIn_seq (wpIn_wide.2 (wp_region_lit ?_))
  refine wpList_build_to rfl 85 _ rfl catC (by kernel_rfl) ?_
  refine wpList_alloc_to rfl _ rfl _ _ (cat_alloc W) ?_
  refine wpList_store_row rfl _ _ _ rfl W.heap.size catC rfl rfl _ _ (heap_alloc_new W _) (by kernel_rfl) (by kernel_rfl) (by kernel_rfl) ?_
  refine wpList_nil ?_
  show Code.wpIn Fence.wide n Tryz.prog _ _ _ _
  refine wpIn_seq (wpIn_wide.2 (wp_region_lit ?_))
  refine wpList_load_row rfl _ _ rfl W.heap.size rfl _ catC _ _ (setRow_heap _ _ _ _ _ _ (heap_alloc_new W _)) Tryz.underlying85 rfl (by kernel_rfl) ?_
  have hr := fun k e h w => cat_row k e h w
  obtain ⟨A, hA⟩ : ∃ A, Value.agg catC = A := ⟨_, rfl⟩
  have hg : W.grownBy ((W.alloc (.cells catZ 85)).setRow W.heap.size catC) none := grown_row W _ _ _
  have hw : Below n₀ W ((W.alloc (.cells catZ 85)).setRow W.heap.size catC) := below_row W _ _ _ HN.out
  have hJ1 := HL.out _ _ _ HJ.out hg
  rw [hA] at hr ⊢
  generalize ((W.alloc (.cells catZ 85)).setRow W.heap.size catC) = w1 at *
  have HJ1 := Lib.hid hJ1; have HB := Lib.hid hw; have HR := Lib.hid hr
  clear hA hg hw hJ1 hr
  refine wpList_plain rfl fun _ hK => ?_
  unfold Oper.wp execOp
  refine hK _ _ (wpList_nil ?_)
  show Code.wpIn Fence.wide n Tryz.prog _ _ _ _
  gi_wp2
  gi_loopw [10] (fun i wr => ∃ k : Nat, k ≤ 21 ∧ i = .int .i64 (k : Int) ∧ J (catL.take k) wr ∧ Below n₀ W wr) (fun i _ => 21 - (intOf i).toNat)
  case atStart => exact ⟨0, by omega, by go_num, HJ1.out, HB.out⟩
  case round =>
    obtain ⟨k, hk, rfl, hJs, hb⟩ := hrel
    by_cases hlt : k < 21
    · obtain ⟨x, hx⟩ : ∃ x, catL[k]? = some x := ⟨catL[k]'(by rw [catL_length]; exact hlt), List.getElem?_eq_getElem _⟩
      have hix := fun w => HR.out k x.1 (catL_at hx) w
      have hs := take_snoc hx
      have z0 : (0 : Int) ≤ (k : Int) := by omega
      have z1 : (k : Int) < 21 := by omega
      obtain ⟨m, hm, hcm⟩ := HM.out
      have KC := cat_cutRow x wr ⟨m, (hb.cell (p := ⟨0, 0, none⟩) hm).trans hcm⟩
      have KY := fun W' h => HY.out (catL.take k) x W' h (by rw [List.length_take, catL_length]; omega)
      unfold encE at KY
      have HKC := Lib.hid KC; have HKY := Lib.hid KY; have HS := Lib.hid hs; have HBk := Lib.hid hb; have HJk := Lib.hid hJs
      generalize tx (rowE x.1) = P at *
      generalize tx x.1.1 = Q at *
      generalize tx (textE x) = R at *
      clear KC KY hs hb hJs hx
      gi_wp2
      refine ⟨trivial, fun h => by simp [Fence.wide] at h, (callsIn_wide.2 HKC.out).mono ?_⟩
      rintro e w2 ⟨rfl, nd, rfl⟩
      have hJ2 := HL.out _ _ (wr.drewN nd) HJk.out ⟨rfl, rfl, rfl, Nat.le_refl _, fun _ _ _ => rfl⟩
      obtain ⟨fn, tmps, assign, body, hy, hR⟩ := HKY.out _ hJ2
      clear hJ2 HKY HKC hix hcm
      gi_wp2
      refine ⟨fun h => by simp [Fence.wide] at h, hR.mono ?_⟩
      rintro e W3 (⟨rfl, hJ3, hk3⟩ | ⟨rfl, hJx3⟩)
      · gi_wp2
        go_roundw
        case rel => exact ⟨k + 1, by omega, by go_num, by rw [HS.out]; exact hJ3, (below_drewN HBk.out nd).trans hk3⟩
        case measure => simp [intOf]; omega
      · gi_wp2
        refine bodyPost_ret (results_none rfl _ _ _) rfl ?_
        exact ⟨⟨_, rfl⟩, .inr ⟨_, ⟨k, hlt, rfl⟩, by rw [HS.out]; exact hJx3⟩⟩
    · obtain rfl : k = 21 := by omega
      have HJ2 := Lib.hid hJs
      clear hJs hb
      gi_wp2
      go_end0
      exact ⟨⟨_, rfl⟩, .inl ⟨_, rfl, by have := HJ2.out; rwa [List.take_of_length_le (by rw [catL_length]; omega)] at this⟩⟩

/-- What catalogue yields, as a range over it sees it; the body may write what lies in block n₀ or behind it. -/
theorem catalogue_from (n n₀ : Nat) (w : World) (hn : n₀ ≤ w.heap.size) (hm : ∃ m, 0 < n₀ ∧ w.cell? ⟨0, 0, none⟩ = some (.int .i64 m)) :
    SeqStopsK Fence.wide n Tryz.prog 52 #[] encE (Below n₀) (fun ys => ys = catL) (fun pre => ∃ k, k < 21 ∧ pre = catL.take (k + 1)) 21 w := fun l0 J Jx W hW hJ _ hY h0 => by
  obtain ⟨m, hlt, hm⟩ := hm
  exact catalogue_in n l0 n₀ J Jx (fun pre W W' h hg => hJ pre W W' none h hg (fun r e => by cases e)) hY W (by have := hW.size; omega) ⟨m, hlt, bl_cell hW hm⟩ h0
/-- What catalogue yields, as a range over it sees it. -/
theorem catalogue_stops (n : Nat) (w : World) (hm : Mx w) :
    SeqStopsK Fence.wide n Tryz.prog 52 #[] encE (Below w.heap.size) (fun ys => ys = catL) (fun pre => ∃ k, k < 21 ∧ pre = catL.take (k + 1)) 21 w := fun l0 J Jx W hW hJ _ hY h0 => by
  obtain ⟨m, hm⟩ := hm
  have hlt := World.block_lt_of_cell? w _ hm
  exact catalogue_in n l0 w.heap.size J Jx (fun pre W W' h hg => hJ pre W W' none h hg (fun r e => by cases e)) hY W hW.size ⟨m, hlt, bl_cell hW hm⟩ h0
end Go.Proofs.YtomakbnbokaigaaGreatDoor
/- What scheme.Find answers: for every text. -/
namespace Go.Proofs.YtomakbnbokaigaaGreatDoor
open Go.RowKit Go.Shelf
set_option linter.unusedVariables false
attribute [local go_sem] Oper.semAt_some

theorem InL.kept {W W' : World} {row : Option Nat} {a : Option Addr} {l : List Sp} (h : InL W a l) (hg : W.grownBy W' row) (hr : ∀ r, row = some r → ∃ o : Obj, W.heap[r]? = some o ∧ o.isCells = false) : InL W' a l := by
  rcases h with h | ⟨b, off, e, h⟩
  · exact .inl h
  · exact .inr ⟨b, off, e, fun j p hp => by
      obtain ⟨h0, h1, h2⟩ := h j p hp
      exact ⟨cell_kept h0 hg hr, cell_kept h1 hg hr, cell_kept h2 hg hr⟩⟩
theorem Cells.kept {W W' : World} {row : Option Nat} {B : Nat} {vs : List Value} (h : ∀ j v, vs[j]? = some v → W.cell? ⟨B, j, none⟩ = some v) (hg : W.grownBy W' row) (hr : ∀ r, row = some r → ∃ o : Obj, W.heap[r]? = some o ∧ o.isCells = false) : ∀ j v, vs[j]? = some v → W'.cell? ⟨B, j, none⟩ = some v := fun j v hj => cell_kept (h j v hj) hg hr

theorem cat_splitText (x : CatE) (w : World) (hm : Mx w) :
    Calls Tryz.prog 54 #[.string (tx (textE x)), .string ⟨#[32]⟩] w fun e w' => ∃ a c, e = .returned (.slice a (partsM x.1.2).length c) ∧ TxA w' a c (partsM x.1.2) ∧ Below w.heap.size w w' := by
  obtain ⟨m, hm⟩ := hm
  have ht : textE x = joinM (partsC x.1.2) := by unfold textE; rw [cat_parts x.1 x.2]
  have hs := cat_split x.1 x.2
  rw [← ht, ← cat_parts x.1 x.2] at hs
  have hz := (cat_short x.1 x.2).2.1
  rw [← ht] at hz
  have hl : (Lib.splitB ⟨#[32]⟩ 0 (Lib.countB (tx (textE x)) ⟨#[32]⟩) (tx (textE x))).map (·.data.toList) = partsM x.1.2 := by
    rw [Lib.splitB_data, data_tx, ← hs]
    unfold Lib.split Lib.countB
    rw [data_tx]
  have hn := Lib.splitB_all ⟨#[32]⟩ (by decide) 0 _ (tx (textE x)) rfl
  generalize hS : Lib.splitB ⟨#[32]⟩ 0 (Lib.countB (tx (textE x)) ⟨#[32]⟩) (tx (textE x)) = S at *
  have hlen : (partsM x.1.2).length = S.length := by rw [← hl]; simp
  refine (Tryz.strings_Split (tx (textE x)) ⟨#[32]⟩ m w (by rw [tx_size]; omega) hm (by decide)).mono ?_
  rintro e w' ⟨rfl, rfl⟩
  rw [hS, ← hn]
  refine ⟨some ⟨w.heap.size, 0, none⟩, S.length, by rw [hlen], .inr ⟨w.heap.size, 0, rfl, fun i l hi => ?_, by omega, ?_⟩, up_alloc (Below.refl _ _) _⟩
  · rw [← hl] at hi
    simp only [List.getElem?_map, Option.map_eq_some_iff] at hi
    obtain ⟨b, hb, rfl⟩ := hi
    rw [tx_data]
    have hlt := (List.getElem?_eq_some_iff.1 hb).1
    have hc : (w.alloc (.cells (S.map Value.string).toArray 9)).heap[w.heap.size]? = some (.cells (S.map Value.string).toArray 9 (0, 0)) := heap_alloc_new w _
    unfold World.cell?
    simp only [hc]
    simp [hb]
  · have : (partsM x.1.2).length ≤ 7 := by
      have := (toldB_true (cat_told x.1 x.2)).2.2.1
      simp [partsM]; omega
    unfold maxLen; omega

theorem InF.kept {W W' : World} {base : Nat} {row : Option Nat} {a : Option Addr} {l : List Sp} (h : InF base W a l) (hg : W.grownBy W' row) (hr : ∀ r, row = some r → ∃ o : Obj, W.heap[r]? = some o ∧ o.isCells = false) : InF base W' a l := by
  rcases h with h | ⟨b, off, e, h0, h⟩
  · exact .inl h
  · exact .inr ⟨b, off, e, h0, fun j p hp => by
      obtain ⟨h0, h1, h2⟩ := h j p hp
      exact ⟨cell_kept h0 hg hr, cell_kept h1 hg hr, cell_kept h2 hg hr⟩⟩
theorem keepsO_below {W W' : World} (h : Below W.heap.size W W') : KeepsOthers W W' := ⟨h.size, fun k o hk _ => (h.block k (Array.getElem?_eq_some_iff.1 hk).1).trans hk⟩
theorem find_own (c' : Code) (nm : List UInt8) (w : World) (B : Nat) (hB : w.heap.size ≤ B) : OwnFrom B (fun (_ : List CatE) W => c' = .ret ∧ ∃ (s : Sc) (a : Option Addr) (cap : Nat), findM nm = some s ∧ (∀ j v, [Value.int .i64 s.c, .int .i64 s.r, .slice a s.l.length cap][j]? = some v → W.cell? ⟨w.heap.size + 1, j, none⟩ = some v) ∧ W.cell? ⟨w.heap.size + 1 + 1, 0, none⟩ = some (.bool true) ∧ InF w.heap.size W a s.l ∧ Below w.heap.size w W) := by
  rintro _ W W' row ⟨e, s, a, cap, h1, h2, h3, h4, h5⟩ hg hr
  have hr' : ∀ r, row = some r → ∃ o : Obj, W.heap[r]? = some o ∧ o.isCells = false := fun r e => (hr r e).2
  exact ⟨e, s, a, cap, h1, Cells.kept h2 hg hr', cell_kept h3 hg hr', h4.kept hg hr', h5.grown hg h5.size (fun k e => by have := (hr k e).1; omega)⟩

set_option maxRecDepth 100000 in
set_option maxHeartbeats 4000000 in
theorem schFind_any (nm : List UInt8) (w : World) (hg : GoodM w) : Calls Tryz.prog 40 #[.string (tx nm)] w (GivesS (findM nm) w) := by
  obtain ⟨N, hN⟩ : ∃ N, tx nm = N := ⟨_, rfl⟩
  have HN := Lib.hid hN
  rw [hN]
  clear hN
  refine (callsIn_wide (n := 3)).1 ?_
  refine callsIn_of_wp_marks Tryz.func40 rfl trivial ?_ rfl
  simp only [Tryz.ntmps40, List.size_toArray, List.length_cons, List.length_nil, Nat.reduceAdd, Nat.reduceSub, Array.replicate_succ, Array.replicate_zero, List.push_toArray, List.append_toArray, List.nil_append, List.cons_append]
  gi_wp2
  have x0 := ((Bx.new w 9 [.string N]).alloc (.cells #[.int .i64 0, .int .i64 0, .slice none 0 0] 26)).alloc (.cells #[.bool false] 4)
  have x1 := (Bx.new (w.alloc (.cells #[.string N] 9)) 26 [.int .i64 0, .int .i64 0, .slice none 0 0]).alloc (.cells #[.bool false] 4)
  have x2 := Bx.new ((w.alloc (.cells #[.string N] 9)).alloc (.cells #[.int .i64 0, .int .i64 0, .slice none 0 0] 26)) 4 [.bool false]
  simp only [World.size_alloc] at x1 x2
  obtain ⟨W0, hW0⟩ : ∃ W0, (((w.alloc (.cells #[.string N] 9)).alloc (.cells #[.int .i64 0, .int .i64 0, .slice none 0 0] 26)).alloc (.cells #[.bool false] 4)) = W0 := ⟨_, rfl⟩
  have upw : Below w.heap.size w W0 := by rw [← hW0]; exact up_alloc (up_alloc (up_alloc (Below.refl _ _) _) _) _
  have hsz : W0.heap.size = w.heap.size + 3 := by rw [← hW0]; simp
  have X0 : Bx W0 w.heap.size [.string N] := by rw [← hW0]; exact x0
  have X1 : Bx W0 (w.heap.size + 1) [.int .i64 0, .int .i64 0, .slice none 0 0] := by rw [← hW0]; exact x1
  have X2 : Bx W0 (w.heap.size + 1 + 1) [.bool false] := by rw [← hW0]; exact x2
  rw [hW0]
  clear hW0 x0 x1 x2
  have G0 := hg.below upw
  have HU := Lib.hid upw; have HSZ := Lib.hid hsz; have HX0 := Lib.hid X0; have HX1 := Lib.hid X1; have HX2 := Lib.hid X2; have HG := Lib.hid G0
  clear upw X0 X1 X2 G0 hg
  refine wpIn_rangeFunc_ownG_of_H rfl (by decide) (gf := 52) (lb := #[]) rfl trivial (enters_of Tryz.func52 (by kernel_rfl) rfl)
    (catalogue_stops 2 W0 HG.out.2) belowK_t (belowK_b (Nat.le_refl _)) (Below.refl _ _) (fun _ => rfl)
    (fun pre W => (∀ e ∈ pre, e.1.1 ≠ nm) ∧ Below W0.heap.size W0 W)
    (fun c' pre W => c' = .ret ∧ ∃ (s : Sc) (a : Option Addr) (cap : Nat), findM nm = some s ∧ (∀ j v, [Value.int .i64 s.c, .int .i64 s.r, .slice a s.l.length cap][j]? = some v → W.cell? ⟨w.heap.size + 1, j, none⟩ = some v) ∧ W.cell? ⟨w.heap.size + 1 + 1, 0, none⟩ = some (.bool true) ∧ InF w.heap.size W a s.l ∧ Below w.heap.size w W)
    (OwnFrom.and (ownFrom_pure _ _) (ownFrom_below (Nat.le_refl _) (Nat.le_refl _)))
    (fun c' => find_own c' nm w W0.heap.size (by omega))
    ⟨fun e he => (by cases he), Below.refl _ _⟩
    (fun x => { tmps := #[.string N, .pointer (some ⟨w.heap.size, 0, none⟩), .pointer (some ⟨w.heap.size + 1, 0, none⟩), .pointer (some ⟨w.heap.size + 1 + 1, 0, none⟩), .string (tx x.1.1), .string (tx (textE x)), .string (tx x.1.1), .string (tx (textE x)), undef, undef, undef, undef, undef, undef, undef, undef, undef], defers := [] })
    ?assign ?body ?done ?stop (Below.refl _)
  case assign =>
    intro l x W K hK
    unfold encE
    gi_wp2
    exact hK
  case body =>
    rintro l0 pre x W ⟨hne, hB⟩ hlen
    have y0 := HX0.out.up hB
    have y1 := HX1.out.up hB
    have y2 := HX2.out.up hB
    have a0 := y0.cell 0 rfl
    have hz := hB.size
    have HB := Lib.hid hB; have HNE := Lib.hid hne
    have GW := Lib.hid (HG.out.below hB)
    have e := tx_same x.1.1 nm
    rw [HN.out] at e
    by_cases hx : x.1.1 = nm
    · rw [decide_eq_true hx] at e
      have HF := Lib.hid (show findM nm = some x.1.2 by rw [← hx]; exact (find_of_mem x.2).1)
      have KS := cat_splitText x W GW.out.2
      have KR := fun a c w1 (h : TxA w1 a c (partsM x.1.2)) (hg : GoodM w1) => schRead_any a c (partsM x.1.2) w1 h (fun p hp => by rw [cat_parts x.1 x.2] at hp; have := (cat_short x.1 x.2).2.2 p hp; omega) hg
      rw [read_parts x.1.2 (cat_told x.1 x.2)] at KR
      have HKS := Lib.hid KS; have HKR := Lib.hid KR
      generalize tx (textE x) = T at *
      generalize tx x.1.1 = Q at *
      generalize partsM x.1.2 = ls at *
      generalize x.1.2 = s at *
      clear KS KR hne hB hx
      gi_wp2_with (first
        | (refine ⟨trivial, ?_⟩; gi_at_call 54; refine (CallsIn.inRound l0 (callsIn_wide.2 HKS.out)).mono ?_; rintro e w1 ⟨a1, c1, rfl, hT, hb1⟩)
        | (refine ⟨trivial, ?_⟩; gi_at_call 53; refine (CallsIn.inRound l0 (callsIn_wide.2 (HKR.out _ _ _ hT (GW.out.below hb1)))).mono ?_; rintro e w2 ⟨a2, c2, rfl, hF, hb2⟩; have q1 := (y1.up hb1).up hb2; have q2 := (y2.up hb1).up hb2; have r0 := q1.cell 0 rfl; have r1 := q1.cell 1 rfl; have r2 := q1.cell 2 rfl; have rf := q1.free; have s0 := q2.cell 0 rfl; have sf := q2.free))
      have ho := (((keepsO_below (up_trans hb1 hb2)).trans (KeepsOthers.setCell w2 ⟨w.heap.size + 1, 0, none⟩ (.int .i64 s.c))).trans (KeepsOthers.setCell _ ⟨w.heap.size + 1, 1, none⟩ (.int .i64 s.r))).trans ((KeepsOthers.setCell _ ⟨w.heap.size + 1, 2, none⟩ (.slice a2 s.l.length c2)).trans (KeepsOthers.setCell _ ⟨w.heap.size + 1 + 1, 0, none⟩ (.bool true)))
      refine ⟨ho.from _, rfl, s, a2, c2, HF.out, ((q1.set3 _ _ _).far (p := ⟨w.heap.size + 1 + 1, 0, none⟩) (by simp only; omega) _).1, ?_, ?_, ?_⟩
      · exact (((((q2.far (p := ⟨w.heap.size + 1, 0, none⟩) (by simp only; omega) _).far (p := ⟨w.heap.size + 1, 1, none⟩) (by simp only; omega) _).far (p := ⟨w.heap.size + 1, 2, none⟩) (by simp only; omega) _).set 0 (.bool true)).cell 0 rfl)
      · have hs1 := hb1.size
        have hF' : InF (w.heap.size + 3) w2 a2 s.l := InF.mono hF (by omega)
        refine InF.mono (base := w.heap.size + 3) ?_ (by omega)
        repeat (first | (with_reducible exact hF') | (with_reducible refine InF.set ?_ (by simp only; omega) _))
      · have B2 := (HU.out.trans (HB.out.mono (by omega))).trans ((up_trans hb1 hb2).mono (by omega))
        repeat (first | (with_reducible exact B2) | (with_reducible refine up_set ?_ (by simp only; omega) _))
    · rw [decide_eq_false hx] at e
      generalize tx (textE x) = T at *
      have HX := Lib.hid hx
      generalize tx x.1.1 = Q at *
      clear hne hB hx
      gi_wp2
      exact ⟨KeepsFrom.refl _ _, Below.refl _ _, fun y hy => by
        rcases List.mem_append.1 hy with h | h
        · exact HNE.out y h
        · obtain rfl := List.mem_singleton.1 h; exact HX.out, HB.out⟩
  case done =>
    rintro D ys W hD rfl ⟨hne, hB⟩ hK
    have E := Lib.hid (show findM nm = none from find_none fun e he h => hne ⟨e, he⟩ (List.mem_attach _ _) h)
    have y1 := HX1.out.up hB
    have y2 := HX2.out.up hB
    have r0 := y1.cell 0 rfl; have r1 := y1.cell 1 rfl; have r2 := y1.cell 2 rfl; have rf := y1.free; have s0 := y2.cell 0 rfl; have sf := y2.free
    have hB1 := Lib.hid (HU.out.trans (hB.mono (by omega)))
    clear hne hB
    gi_wp2
    have hK' := ((((KeepsOthers.setCell W ⟨w.heap.size + 1, 0, none⟩ (.int .i64 0)).trans (KeepsOthers.setCell _ ⟨w.heap.size + 1, 1, none⟩ (.int .i64 0))).trans (KeepsOthers.setCell _ ⟨w.heap.size + 1, 2, none⟩ (.slice none 0 0))).trans (KeepsOthers.setCell _ ⟨w.heap.size + 1 + 1, 0, none⟩ (.bool false))).same D _ hK rfl
    refine ⟨by simp, .inl ⟨_, _, rfl, run_takeDeferred hK', ?_⟩⟩
    have p0 := Cells.kept ((y1.set3 (.int .i64 0) (.int .i64 0) (.slice none 0 0)).far (p := ⟨w.heap.size + 1 + 1, 0, none⟩) (by simp only; omega) (.bool false)).1 (grownBy_putObj' _ D (.deferred none)) (fun r e => by cases e; exact ⟨_, hK', rfl⟩)
    have p1 := cell_kept (((((y2.far (p := ⟨w.heap.size + 1, 0, none⟩) (by simp only; omega) (.int .i64 0)).far (p := ⟨w.heap.size + 1, 1, none⟩) (by simp only; omega) (.int .i64 0)).far (p := ⟨w.heap.size + 1, 2, none⟩) (by simp only; omega) (.slice none 0 0)).set 0 (.bool false)).cell 0 rfl) (grownBy_putObj' _ D (.deferred none)) (fun r e => by cases e; exact ⟨_, hK', rfl⟩)
    have c0 := p0 0 _ rfl; have c1 := p0 1 _ rfl; have c2 := p0 2 _ rfl
    refine ⟨.tuple #[.agg #[.int .i64 0, .int .i64 0, .slice none 0 0], .bool false], by simp [results, Tryz.results40, go_sem, c0, c1, c2, p1], ?_⟩
    rw [E.out]
    refine gives_none ?_
    refine Below.trans ?_ (belowK_b (w := w) (Nat.le_refl _) _ D _ _ (by omega) hK' rfl rfl)
    have B2 := hB1.out
    repeat (first | (with_reducible exact B2) | (with_reducible refine up_set ?_ (by simp only; omega) _))
  case stop =>
    rintro D c' pre W hD hpre ⟨rfl, s, a, cap, h1, h2, h3, h4, h5⟩ hK
    have H2 := Lib.hid h2; have H4 := Lib.hid h4; have H5 := Lib.hid h5; have H1 := Lib.hid h1
    clear h1 h2 h4 h5
    gi_wp2
    refine ⟨by simp, .inl ⟨_, _, rfl, run_takeDeferred hK, ?_⟩⟩
    have p0 := Cells.kept H2.out (grownBy_putObj' _ D (.deferred none)) (fun r e => by cases e; exact ⟨_, hK, rfl⟩)
    have p1 := cell_kept h3 (grownBy_putObj' _ D (.deferred none)) (fun r e => by cases e; exact ⟨_, hK, rfl⟩)
    have c0 := p0 0 _ rfl; have c1 := p0 1 _ rfl; have c2 := p0 2 _ rfl
    refine ⟨.tuple #[.agg #[.int .i64 s.c, .int .i64 s.r, .slice a s.l.length cap], .bool true], by simp [results, Tryz.results40, go_sem, c0, c1, c2, p1], ?_⟩
    rw [H1.out]
    exact ⟨a, cap, rfl, H4.out.kept (grownBy_putObj' _ D (.deferred none)) (fun r e => by cases e; exact ⟨_, hK, rfl⟩), H5.out.trans (belowK_b (w := w) (Nat.le_refl _) _ D _ _ (by omega) hK rfl rfl)⟩
end Go.Proofs.YtomakbnbokaigaaGreatDoor
/- What split.mayEnd and split.Last answer. -/
namespace Go.Proofs.YtomakbnbokaigaaGreatDoor
open Go.RowKit
set_option linter.unusedVariables false
set_option linter.unusedSimpArgs false

set_option maxHeartbeats 1000000 in
theorem spMay_core (cs : List Value) (b c r p q : Int) (a : Option Addr) (n cap : Nat) (N : ByteArray) (sc sr : Int) (l : List Sp) (m : Nat) (u v t V : Bool) (w : World) (h11 : cs[11]? = some (.int .i64 b)) (h12 : cs[12]? = some (.int .i64 c)) (h13 : cs[13]? = some (.int .i64 r)) (h14 : cs[14]? = some (.slice a n cap))
    (e1 : decide (q ≤ p) = t) (e2 : (b == 1) = v) (e3 : (b != 1) = !v)
    (KF : ∀ w1, Below w.heap.size w w1 → Calls Tryz.prog 40 #[.string N] w1 fun e w' => ∃ a1 c1, e = .returned (.tuple #[.agg #[.int .i64 sc, .int .i64 sr, .slice a1 m c1], .bool u]) ∧ InL w' a1 l ∧ Below w1.heap.size w1 w')
    (KP : ∀ a m k w1, Calls Tryz.prog 24 #[.agg #[.int .i64 sc, .int .i64 sr, .slice a m k]] w1 fun e w' => e = .returned (.int .i64 p) ∧ Below w1.heap.size w1 w')
    (KQ : ∀ w1, Calls Tryz.prog 24 #[.agg #[.int .i64 c, .int .i64 r, .slice a n cap]] w1 fun e w' => e = .returned (.int .i64 q) ∧ Below w1.heap.size w1 w')
    (KN : ∀ a1 k w1, InL w1 a1 l → Calls Tryz.prog 41 #[.agg #[.int .i64 sc, .int .i64 sr, .slice a1 m k]] w1 fun e w' => e = .returned (.bool V) ∧ Below w1.heap.size w1 w') :
    Calls Tryz.prog 29 #[.agg cs.toArray, .string N] w fun e w' => e = .returned (.bool (u && (!t && (!v || V)))) ∧ Below w.heap.size w w' := by
  have HX := Bx.new w 29 cs
  have HB := Lib.hid (up_alloc (Below.refl w.heap.size w) (.cells cs.toArray 29))
  have c11 := HX.cell 11 h11; have c12 := HX.cell 12 h12; have c13 := HX.cell 13 h13; have c14 := HX.cell 14 h14
  have HF := Lib.hid KF; have HP := Lib.hid KP; have HQ := Lib.hid KQ; have HN := Lib.hid KN
  clear KF KP KQ KN h11 h12 h13 h14 HX
  generalize cs.toArray = ca at *
  go_enter Tryz.func29, Tryz.ntmps29
  go_wp2_with fail
  refine (HF.out _ HB.out).mono ?_
  rintro e w1 ⟨a1, k1, rfl, hI, hb⟩
  have S := Bx.new w1 26 [.int .i64 sc, .int .i64 sr, .slice a1 m k1]
  have U := up_alloc (Below.refl w1.heap.size w1) (.cells #[.int .i64 sc, .int .i64 sr, .slice a1 m k1] 26)
  have B1 := Lib.hid (up_trans (up_trans HB.out hb) U)
  have b11 := bl_cell U (bl_cell hb c11); have b12 := bl_cell U (bl_cell hb c12); have b13 := bl_cell U (bl_cell hb c13); have b14 := bl_cell U (bl_cell hb c14)
  have s0 := S.cell 0 rfl; have s1 := S.cell 1 rfl; have s2 := S.cell 2 rfl
  have HI := Lib.hid (hI.up U)
  clear hb S U c11 c12 c13 c14 hI
  go_wp2_with fail
  obtain ⟨w2, hw2⟩ : ∃ w2, w1.alloc (.cells #[.int .i64 sc, .int .i64 sr, .slice a1 m k1] 26) = w2 := ⟨_, rfl⟩
  rw [hw2] at b11 b12 b13 b14 s0 s1 s2 HI B1 ⊢
  clear hw2
  cases u
  · clear e1 e2 e3
    refine later_start (w := w2) ?_
    intro x
    refine wp_region_later (by kernel_rfl) (by kernel_rfl) ?_
    repeat (go_big_quiet_step (fail))
    refine wpQuiet_nil ?_
    rintro _ ⟨x2, rfl⟩
    have BB := Lib.hid (up_trans B1.out x2.up)
    go_wp2
    go_ret
    exact ⟨rfl, BB.out⟩
  have j0 := fun x : Later w2 => x.cell s0
  have j1 := fun x : Later w2 => x.cell s1
  have j2 := fun x : Later w2 => x.cell s2
  have j11 := fun x : Later w2 => x.cell b11
  have j12 := fun x : Later w2 => x.cell b12
  have j13 := fun x : Later w2 => x.cell b13
  have j14 := fun x : Later w2 => x.cell b14
  clear s0 s1 s2 b11 b12 b13 b14
  cases t
  · cases v
    · refine later_start (w := w2) ?_
      intro x
      refine wp_region_later (by kernel_rfl) (by kernel_rfl) ?_
      repeat (go_big_quiet_step ((go_at_call 24; first | with_reducible exact Later.call (HP.out _ _ _ _) | with_reducible exact Later.call (HQ.out _))))
      refine wpQuiet_nil ?_
      rintro _ ⟨x2, rfl⟩
      have BB := Lib.hid (up_trans B1.out x2.up)
      go_wp2
      go_ret
      exact ⟨rfl, BB.out⟩
    · refine later_start (w := w2) ?_
      intro x
      refine wp_region_later (by kernel_rfl) (by kernel_rfl) ?_
      repeat (go_big_quiet_step ((go_at_call 24; first | with_reducible exact Later.call (HP.out _ _ _ _) | with_reducible exact Later.call (HQ.out _))))
      refine wpQuiet_nil ?_
      rintro _ ⟨x2, rfl⟩
      have BB := Lib.hid (up_trans B1.out x2.up)
      go_wp2_with fail
      refine (HN.out _ _ _ (HI.out.up x2.up)).mono ?_
      rintro e w3 ⟨rfl, hb⟩
      have B3 := Lib.hid (up_trans BB.out hb)
      clear hb
      go_wp2
      go_ret
      exact ⟨by simp, B3.out⟩
  · refine later_start (w := w2) ?_
    intro x
    refine wp_region_later (by kernel_rfl) (by kernel_rfl) ?_
    repeat (go_big_quiet_step ((go_at_call 24; first | with_reducible exact Later.call (HP.out _ _ _ _) | with_reducible exact Later.call (HQ.out _))))
    refine wpQuiet_nil ?_
    rintro _ ⟨x2, rfl⟩
    have BB := Lib.hid (up_trans B1.out x2.up)
    go_wp2
    go_ret
    exact ⟨rfl, BB.out⟩

theorem found_bounds (nm : List UInt8) : ((findM nm).getD zeroSc).c ≤ 9223372036854775807 ∧ ((findM nm).getD zeroSc).r ≤ 9223372036854775807 ∧ ((findM nm).getD zeroSc).l.length ≤ 6 := by
  cases h : findM nm with
  | none => exact ⟨by decide, by decide, by decide⟩
  | some s =>
    have := right_bounds (find_right h)
    simp only [Option.getD_some]
    omega
/-- The walk's truths are those of the plain function. -/
theorem may_eq (b p q : Int) (u V : Bool) : (u && (!(decide (q ≤ p)) && (!(b == 1) || V))) = (u && (decide (p < q) && (!decide (b = 1) || V))) := by
  have e1 : (b == 1) = decide (b = 1) := by rw [Bool.eq_iff_iff]; simp
  have e2 : (!(decide (q ≤ p))) = decide (p < q) := by rw [Bool.eq_iff_iff]; simp
  rw [e1, e2]
theorem spMay_any (cs : List Value) (j : Jb) (nm : List UInt8) (w : World) (h : JobA w cs j) (hg : GoodM w) :
    Calls Tryz.prog 29 #[.agg cs.toArray, .string (tx nm)] w fun e w' => e = .returned (.bool (endB (j.n 10) (panS j.f) nm)) ∧ Below w.heap.size w w' := by
  obtain ⟨a, c, a', c', h12, h13, h14, h15, hI, hT⟩ := h.cells
  obtain ⟨g1, g2, g3⟩ := found_bounds nm
  have K := spMay_core cs (j.n 10) j.f.c j.f.r _ _ a _ c (tx nm) _ _ ((findM nm).getD zeroSc).l _ _ _ _ _ w (h.num (k := 10) (by decide)) h12 h13 h14 rfl rfl rfl
    (fun w1 hb => (schFind_any nm w1 (hg.below hb)).mono fun e w' ⟨a1, c1, he, hF, hb1⟩ => ⟨a1, c1, he, hF.inL, hb1⟩)
    (fun a m k w1 => schPanels_any _ _ a m k w1) (fun w1 => schPanels_any _ _ _ _ _ w1) (fun a1 k w1 hI1 => spNests_any _ a1 k w1 g1 g2 (by omega) hI1)
  rw [may_eq] at K
  exact K

end Go.Proofs.YtomakbnbokaigaaGreatDoor
/- What the reference's Light tells of a job: where it answers true, the job is small. -/
namespace Go.Proofs.YtomakbnbokaigaaGreatDoor
open Go.RowKit
set_option linter.unusedVariables false
set_option linter.unusedSimpArgs false

theorem take_next {α : Type} {l : List α} {k : Nat} {x : α} (h : l[k]? = some x) : l.take (k + 1) = l.take k ++ [x] := by
  rw [List.take_add_one, h]; rfl
/-- A job is small enough to be gone through. -/
def SmallJ (j : Jb) : Prop := j.t.length ≤ 100 ∧ j.ls.length ≤ 6 ∧ j.f.l.length ≤ 10 ∧ (j.n 0 ≤ 300 ∨ 100000 < j.n 0) ∧ ∀ x ∈ j.ls, x.length ≤ 60

theorem light_out (T : ByteArray) (n : Nat → Int) (c r : Int) (a a' : Option Addr) (m d k d' : Nat) (b1 b2 b3 b4 b5 : Bool) (w : World) (h1 : decide ((100 : Int) < (T.size : Int)) = b1) (h2 : decide ((6 : Int) < (k : Int)) = b2) (h3 : decide ((10 : Int) < (m : Int)) = b3) (h4 : decide ((300 : Int) < n 0) = b4) (h5 : decide (n 0 ≤ 100000) = b5)
    (h : (b1 || b2 || b3 || (b4 && b5)) = true) :
    Calls Tryz.prog 7 #[.agg (jobL T n c r (.slice a m d) (.slice a' k d')).toArray] w fun e w' => e = .returned (.bool false) ∧ Below w.heap.size w w' := by
  have HX := Bx.new w 29 (jobL T n c r (.slice a m d) (.slice a' k d'))
  have c0 := HX.cell 0 rfl; have c1 := HX.cell 1 rfl; have c14 := HX.cell 14 rfl; have c15 := HX.cell 15 rfl
  have HB := Lib.hid (up_alloc (Below.refl w.heap.size w) (.cells (jobL T n c r (.slice a m d) (.slice a' k d')).toArray 29))
  clear HX
  generalize n 0 = p at *
  generalize (jobL T n c r (.slice a m d) (.slice a' k d')).toArray = cs at *
  have HH := Lib.hid h
  clear h
  cases b1
  · cases b2
    · cases b3
      · cases b4
        · exact absurd HH.out (by simp)
        · cases b5
          · exact absurd HH.out (by decide)
          · go_enter Tryz.func7, Tryz.ntmps7
            go_wp2
            go_ret
            exact ⟨rfl, HB.out⟩
      · go_enter Tryz.func7, Tryz.ntmps7
        go_wp2
        go_ret
        exact ⟨rfl, HB.out⟩
    · go_enter Tryz.func7, Tryz.ntmps7
      go_wp2
      go_ret
      exact ⟨rfl, HB.out⟩
  · go_enter Tryz.func7, Tryz.ntmps7
    go_wp2
    go_ret
    exact ⟨rfl, HB.out⟩

theorem light_in (T : ByteArray) (n : Nat → Int) (c r : Int) (a a' : Option Addr) (m d k d' : Nat) (ls : List (List UInt8)) (b4 b5 : Bool) (w : World) (hk : ls.length = k) (hT : TxA w a' d' ls) (hz : ∀ x ∈ ls, x.length ≤ maxLen)
    (h1 : decide ((100 : Int) < (T.size : Int)) = false) (h2 : decide ((6 : Int) < (k : Int)) = false) (h3 : decide ((10 : Int) < (m : Int)) = false) (h4 : decide ((300 : Int) < n 0) = b4) (h5 : decide (n 0 ≤ 100000) = b5)
    (h : (b4 && b5) = false) :
    Calls Tryz.prog 7 #[.agg (jobL T n c r (.slice a m d) (.slice a' k d')).toArray] w fun e w' => ∃ b, e = .returned (.bool b) ∧ (b = true → ∀ x ∈ ls, x.length ≤ 60) ∧ Below w.heap.size w w' := by
  have HX := Bx.new w 29 (jobL T n c r (.slice a m d) (.slice a' k d'))
  have c0 := HX.cell 0 rfl; have c1 := HX.cell 1 rfl; have c14 := HX.cell 14 rfl; have c15 := HX.cell 15 rfl
  have HB := Lib.hid (up_alloc (Below.refl w.heap.size w) (.cells (jobL T n c r (.slice a m d) (.slice a' k d')).toArray 29))
  have HA := Lib.hid (hT.up HB.out)
  have HN := Lib.hid hk; have HZ := Lib.hid hz
  have hk6 : k ≤ 6 := by simp only [decide_eq_false_iff_not] at h2; omega
  clear HX hT hk hz
  generalize n 0 = p at *
  generalize (jobL T n c r (.slice a m d) (.slice a' k d')).toArray = cs at *
  go_enter Tryz.func7, Tryz.ntmps7
  cases b4 <;> cases b5 <;> first | (exact absurd h (by decide)) | skip
  all_goals
    clear h
    go_wp2
    obtain ⟨w1, hw1⟩ : ∃ w1, w.alloc (.cells cs 29) = w1 := ⟨_, rfl⟩
    rw [hw1] at c0 c1 c14 c15 HB HA ⊢
    clear hw1 h1 h2 h3 h4 h5 c0 c1 c14
    go_loopw [3] (fun i wr => ∃ j : Nat, j ≤ k ∧ i = .int .i64 (j : Int) ∧ Hid (∀ x ∈ ls.take j, x.length ≤ 60) ∧ wr = w1) (fun i _ => k - (intOf i).toNat)
    case atStart => exact ⟨0, by omega, by go_num, Lib.hid (by simp), rfl⟩
    case round =>
      obtain ⟨j, hj, rfl, H60, hwr⟩ := hrel
      obtain rfl : w1 = wr := hwr.symm
      clear hwr
      by_cases hlt : j < k
      · obtain ⟨x, hx⟩ : ∃ x, ls[j]? = some x := ⟨ls[j]'(by rw [HN.out]; exact hlt), List.getElem?_eq_getElem _⟩
        obtain ⟨g, o, rfl, hc, -, -⟩ := HA.out.resolve_left (by rintro rfl; cases hx)
        have hcx := hc j x hx
        have hxz := HZ.out x (List.mem_of_getElem? hx)
        have z0 : (0 : Int) ≤ (j : Int) := by omega
        have z3 : (j : Int) < (k : Int) := by omega
        have htk := take_next hx
        obtain ⟨X, hX⟩ : ∃ X, tx x = X := ⟨_, rfl⟩
        have hXs : X.size = x.length := by rw [← hX, tx_size]
        rw [hX] at hcx
        unfold maxLen at hxz
        by_cases h60 : 60 < X.size
        · have z4 : (60 : Int) < (X.size : Int) := by omega
          clear hx hc htk hX
          go_wp2
          go_ret
          exact ⟨false, rfl, fun h => (nomatch h), HB.out⟩
        · have z4 : decide ((60 : Int) < (X.size : Int)) = false := by simp; omega
          have H61 := Lib.hid (show ∀ y ∈ ls.take (j + 1), y.length ≤ 60 by
            rw [htk]
            intro y hy
            rcases List.mem_append.1 hy with h | h
            · exact H60.out y h
            · obtain rfl := List.mem_singleton.1 h; omega)
          clear hx hc htk hX
          go_wp2
          go_roundw
          case rel => exact ⟨j + 1, by omega, by go_num, H61, by trivial⟩
          case measure => simp [intOf]; omega
      · obtain rfl : j = k := by omega
        have hall : ls.take j = ls := List.take_of_length_le (by rw [HN.out]; omega)
        have hz60 := H60.out
        rw [hall] at hz60
        have HH := Lib.hid hz60
        clear hall hz60
        go_wp2
        go_ret
        exact ⟨true, rfl, fun _ => HH.out, HB.out⟩

/-- What Light answers; where it is true, the job is small. -/
theorem refLight_any (cs : List Value) (j : Jb) (w : World) (h : JobA w cs j) (ht : j.t.length ≤ maxLen) (hz : ∀ x ∈ j.ls, x.length ≤ maxLen) :
    Calls Tryz.prog 7 #[.agg cs.toArray] w fun e w' => ∃ b, e = .returned (.bool b) ∧ (b = true → SmallJ j) ∧ Below w.heap.size w w' := by
  obtain ⟨a, d, a', d', rfl, h1, h2⟩ := h
  by_cases hs : (decide ((100 : Int) < ((tx j.t).size : Int)) || decide ((6 : Int) < (j.ls.length : Int)) || decide ((10 : Int) < (j.f.l.length : Int)) || (decide ((300 : Int) < j.n 0) && decide (j.n 0 ≤ 100000))) = true
  · exact (light_out _ _ _ _ _ _ _ _ _ _ _ _ _ _ _ w rfl rfl rfl rfl rfl hs).mono fun e w' ⟨he, hb⟩ => ⟨false, he, fun h => (by cases h), hb⟩
  · simp only [Bool.or_eq_true, not_or, Bool.not_eq_true] at hs
    obtain ⟨⟨⟨s1, s2⟩, s3⟩, s4⟩ := hs
    refine (light_in _ _ _ _ _ _ _ _ _ _ j.ls _ _ w rfl h2 hz s1 s2 s3 rfl rfl s4).mono ?_
    rintro e w' ⟨b, he, hh, hb⟩
    refine ⟨b, he, fun h => ⟨?_, ?_, ?_, ?_, hh h⟩, hb⟩
    · rw [tx_size] at s1; simp only [decide_eq_false_iff_not] at s1; omega
    · simp only [decide_eq_false_iff_not] at s2; omega
    · simp only [decide_eq_false_iff_not] at s3; omega
    · simp only [Bool.and_eq_false_iff, decide_eq_false_iff_not] at s4; omega
end Go.Proofs.YtomakbnbokaigaaGreatDoor
/- What split.Last answers. -/
namespace Go.Proofs.YtomakbnbokaigaaGreatDoor
open Go.RowKit
set_option linter.unusedVariables false
set_option linter.unusedSimpArgs false

theorem all_snoc {E : List UInt8 → Bool} {l : List (List UInt8)} {x : List UInt8} (h : l.all E = true) (hx : E x = true) : (l ++ [x]).all E = true := by simp_all
theorem all_not {E : List UInt8 → Bool} {l : List (List UInt8)} {x : List UInt8} (h : x ∈ l) (hx : E x = false) : l.all E = false := by
  rw [List.all_eq_false]
  exact ⟨x, h, by simp [hx]⟩

set_option maxHeartbeats 1000000 in
theorem spLast_core (cs : List Value) (a : Option Addr) (k cap : Nat) (ls : List (List UInt8)) (F t : Bool) (M : Nat) (E : List UInt8 → Bool) (w : World) (hL : cs.length = 33) (h15 : cs[15]? = some (.slice a k cap)) (hk : ls.length = k) (hT : TxA w a cap ls) (hk2 : k ≤ maxLen)
    (e1 : decide ((M : Int) < (k : Int)) = t) (e0 : decide (M < k) = t)
    (KF : ∀ w1, Below w.heap.size w w1 → Calls Tryz.prog 8 #[.agg cs.toArray] w1 fun e w' => e = .returned (.bool F) ∧ Below w1.heap.size w1 w')
    (KM : ∀ w1, Calls Tryz.prog 28 #[.agg cs.toArray] w1 fun e w' => e = .returned (.int .i64 (M : Int)) ∧ Below w1.heap.size w1 w')
    (KE : ∀ x w1, Below w.heap.size w w1 → Calls Tryz.prog 29 #[.agg cs.toArray, .string (tx x)] w1 fun e w' => e = .returned (.bool (E x)) ∧ Below w1.heap.size w1 w') :
    Calls Tryz.prog 10 #[.agg cs.toArray] w fun e w' => e = .returned (.bool (F && (!t && ls.all E))) ∧ Below w.heap.size w w' := by
  unfold maxLen at hk2
  have HX := Lib.hid (Bx.new w 29 cs)
  have HB := Lib.hid (up_alloc (Below.refl w.heap.size w) (.cells cs.toArray 29))
  have c15 := HX.out.cell 15 h15
  have HL := Lib.hid hL; have HN := Lib.hid hk
  have HA := Lib.hid (hT.up HB.out)
  have HF := Lib.hid KF; have HM := Lib.hid KM; have HE := Lib.hid KE
  clear KF KM KE h15 hL hk hT
  go_enter Tryz.func10, Tryz.ntmps10
  go_wp2_with fail
  obtain ⟨w1, hw1⟩ : ∃ w1, w.alloc (.cells cs.toArray 29) = w1 := ⟨_, rfl⟩
  rw [hw1] at c15 HA HB HX ⊢
  clear hw1
  have HRG := Lib.hid (later_range HX.out (by rw [HL.out]; decide))
  have j15 := fun x : Later w1 => x.cell c15
  clear c15
  cases F
  · clear e1 e0
    refine later_start (w := w1) ?_
    intro x
    refine wp_region_later (by kernel_rfl) (by kernel_rfl) ?_
    repeat (first
      | (go_big_quiet_want; refine quiet_load_job _ rfl w.heap.size rfl cs HL.out HRG.out ?_; simp only [Act.put, List.setIfInBounds_toArray, List.set_cons_succ, List.set_cons_zero]; go_big_quiet_on)
      | go_big_quiet_step ((go_at_call 8; with_reducible exact Later.call (HF.out _ (up_trans HB.out (Later.up _))))))
    refine wpQuiet_nil ?_
    rintro _ ⟨x2, rfl⟩
    have BB := Lib.hid (up_trans HB.out x2.up)
    go_wp2
    go_ret
    exact ⟨rfl, BB.out⟩
  cases t
  · refine later_start (w := w1) ?_
    intro x
    refine wp_region_later (by kernel_rfl) (by kernel_rfl) ?_
    repeat (first
      | (go_big_quiet_want; refine quiet_load_job _ rfl w.heap.size rfl cs HL.out HRG.out ?_; simp only [Act.put, List.setIfInBounds_toArray, List.set_cons_succ, List.set_cons_zero]; go_big_quiet_on)
      | go_big_quiet_step ((first | (go_at_call 8; with_reducible exact Later.call (HF.out _ (up_trans HB.out (Later.up _)))) | (go_at_call 28; with_reducible exact Later.call (HM.out _)))))
    refine wpQuiet_nil ?_
    rintro _ ⟨x2, rfl⟩
    have d15 := j15 x2
    have BB := Lib.hid x2.up
    clear e1 e0
    go_wp2
    go_loopw [19] (fun i wr => ∃ j : Nat, j ≤ k ∧ i = .int .i64 (j : Int) ∧ Hid ((ls.take j).all E = true) ∧ ∃ y : Later w1, wr = y.now) (fun i _ => k - (intOf i).toNat)
    case atStart => exact ⟨0, by omega, by go_num, Lib.hid rfl, x2, rfl⟩
    case round =>
      obtain ⟨j, hj, rfl, HS, y, rfl⟩ := hrel
      by_cases hlt : j < k
      · obtain ⟨z, hx⟩ : ∃ x, ls[j]? = some x := ⟨ls[j]'(by rw [HN.out]; exact hlt), List.getElem?_eq_getElem _⟩
        obtain ⟨g, o, rfl, hc, -, -⟩ := HA.out.resolve_left (by rintro rfl; cases hx)
        have hcx := y.cell (hc j z hx)
        have HXy := Lib.hid (HX.out.later (by rw [HL.out]; decide) y.up)
        have z0 : (0 : Int) ≤ (j : Int) := by omega
        have z3 : (j : Int) < (k : Int) := by omega
        have htk := Lib.hid (take_next hx)
        have KZ := HE.out z
        have HZ := Lib.hid (List.mem_of_getElem? hx)
        clear hx hc
        generalize hez : E z = ez at *
        generalize tx z = Z at *
        have HEZ := Lib.hid hez; have HKZ := Lib.hid KZ
        clear hez KZ
        go_wp2_with (refine wpList_load_job rfl _ rfl w.heap.size rfl cs HXy.out HL.out ?_; simp only [Act.put, List.setIfInBounds_toArray, List.set_cons_succ, List.set_cons_zero])
        refine (HKZ.out _ (up_trans HB.out y.up)).mono ?_
        rintro e w3 ⟨rfl, hb⟩
        obtain ⟨y2, rfl⟩ := Later.next hb
        clear hb
        cases ez
        · go_wp2
          go_ret
          exact ⟨by rw [all_not HZ.out HEZ.out]; rfl, up_trans HB.out y2.up⟩
        · go_wp2
          go_roundw
          case rel => exact ⟨j + 1, by omega, by go_num, Lib.hid (by rw [htk.out]; exact all_snoc HS.out HEZ.out), y2, rfl⟩
          case measure => simp [intOf]; omega
      · obtain rfl : j = k := by omega
        have hall : ls.take j = ls := List.take_of_length_le (by rw [HN.out]; omega)
        have HH := Lib.hid (hall ▸ HS.out)
        clear hall
        go_wp2
        go_ret
        exact ⟨by rw [HH.out]; rfl, up_trans HB.out y.up⟩
  · refine later_start (w := w1) ?_
    intro x
    refine wp_region_later (by kernel_rfl) (by kernel_rfl) ?_
    repeat (first
      | (go_big_quiet_want; refine quiet_load_job _ rfl w.heap.size rfl cs HL.out HRG.out ?_; simp only [Act.put, List.setIfInBounds_toArray, List.set_cons_succ, List.set_cons_zero]; go_big_quiet_on)
      | go_big_quiet_step ((first | (go_at_call 8; with_reducible exact Later.call (HF.out _ (up_trans HB.out (Later.up _)))) | (go_at_call 28; with_reducible exact Later.call (HM.out _)))))
    refine wpQuiet_nil ?_
    rintro _ ⟨x2, rfl⟩
    have BB := Lib.hid (up_trans HB.out x2.up)
    go_wp2
    go_ret
    exact ⟨rfl, BB.out⟩

theorem TxA.small {w : World} {a : Option Addr} {c : Nat} {ls : List (List UInt8)} (h : TxA w a c ls) : ls.length ≤ maxLen := by
  rcases h with rfl | ⟨g, o, e, h, h1, h2⟩
  · simp [maxLen]
  · omega
theorem spLast_any (cs : List Value) (j : Jb) (w : World) (h : JobA w cs j) (hf : WfF j) (hg : GoodM w) :
    Calls Tryz.prog 10 #[.agg cs.toArray] w fun e w' => e = .returned (.bool (lastM j)) ∧ Below w.heap.size w w' := by
  obtain ⟨a, c, a', c', h12, h13, h14, h15, hI, hT⟩ := h.cells
  have K := spLast_core cs a' j.ls.length c' j.ls _ _ _ (endB (j.n 10) (panS j.f)) w h.length h15 rfl hT hT.small rfl (by rw [Bool.eq_iff_iff]; simp)
    (fun w1 hb => spFolds_any cs j w1 (h.up hb) hf) (fun w1 => spMost_any cs (j.n 10) w1 (h.num (k := 10) (by decide))) (fun x w1 hb => spMay_any cs j x w1 (h.up hb) (hg.below hb))
  have e : (!(decide (((mostM (j.n 10) : Nat) : Int) < (j.ls.length : Int)))) = decide (j.ls.length ≤ mostM (j.n 10)) := by rw [Bool.eq_iff_iff]; simp
  rw [e] at K
  exact K
end Go.Proofs.YtomakbnbokaigaaGreatDoor
/- Steps that lie in a block of which something is known. -/
namespace Go.Proofs.YtomakbnbokaigaaGreatDoor
open Go.RowKit
set_option linter.unusedVariables false

/-- The steps lie where the slice says, in a block of which G is true. -/
def LiG (G : Nat → Prop) (w : World) (a : Option Addr) (l : List Sp) : Prop := l = [] ∨ ∃ b off, a = some ⟨b, off, none⟩ ∧ G b ∧ InS w b off l
section
variable {G G' : Nat → Prop} {w w' : World} {a : Option Addr} {c : Nat} {l : List Sp} {base : Nat}
theorem LiG.inL (h : LiG G w a l) : InL w a l := h.imp id fun ⟨b, off, e, _, h⟩ => ⟨b, off, e, h⟩
theorem LiG.mono (h : LiG G w a l) (hG : ∀ b, G b → G' b) : LiG G' w a l := h.imp id fun ⟨b, off, e, g, h⟩ => ⟨b, off, e, hG _ g, h⟩
theorem LiG.up (h : LiG G w a l) (hb : Below w.heap.size w w') : LiG G w' a l := h.imp id fun ⟨b, off, e, g, h⟩ => ⟨b, off, e, g, h.up hb⟩
theorem LiG.old (h : LiG G w a l) : LiG (fun b => G b ∧ b < w.heap.size) w a l := by
  rcases h with h | ⟨b, off, e, g, h⟩
  · exact .inl h
  · cases l with
    | nil => exact .inl rfl
    | cons p r => exact .inr ⟨b, off, e, ⟨g, World.block_lt_of_cell? w _ (h 0 p rfl).1⟩, h⟩
theorem LiG.keep {B : Nat} (h : LiG G w a l) (hB : ¬ G B) (hk : ∀ p : Addr, p.block ≠ B → ∀ v, w.cell? p = some v → w'.cell? p = some v) : LiG G w' a l :=
  h.imp id fun ⟨b, off, e, g, h⟩ => ⟨b, off, e, g, fun i q hq => by
    have hne : b ≠ B := fun e => hB (e ▸ g)
    obtain ⟨c0, c1, c2⟩ := h i q hq
    exact ⟨hk _ hne _ c0, hk _ hne _ c1, hk _ hne _ c2⟩⟩
theorem LiG.set (h : LiG G w a l) {p : Addr} (hp : ¬ G p.block) (x : Value) : LiG G (w.setCell p x) a l :=
  h.keep hp fun q hq v hv => (World.cell?_setCell_far _ _ _ _ (Ne.symm hq)).trans hv
theorem InF.liG (h : InF base w a l) : LiG (base ≤ ·) w a l := h
theorem InL.liG (h : InL w a l) : LiG (· < w.heap.size) w a l := (show LiG (fun _ => True) w a l from h.imp id fun ⟨b, off, e, h⟩ => ⟨b, off, e, trivial, h⟩).old.mono fun _ h => h.2
end
end Go.Proofs.YtomakbnbokaigaaGreatDoor
/- What split.end answers. -/
namespace Go.Proofs.YtomakbnbokaigaaGreatDoor
open Go.RowKit
set_option linter.unusedVariables false
set_option linter.unusedSimpArgs false

theorem less_no (p : Int) (b s : Sc) (nm : List UInt8) (h : (findM nm).getD zeroSc = s) (u v : Bool) (e1 : decide (p ≤ 2 * panM s.c s.r) = u) (e2 : decide (2 * panM s.c s.r < 2 * panM b.c b.r) = v) (hn : (u && v) = false) : lessM p b nm = b := by
  unfold lessM
  rw [h]
  refine if_neg fun ⟨h1, h2⟩ => ?_
  rw [← e1, ← e2] at hn
  unfold panS at h1 h2
  rw [decide_eq_true h1, decide_eq_true (by omega)] at hn
  cases hn
theorem less_yes (p : Int) (b s : Sc) (nm : List UInt8) (h : (findM nm).getD zeroSc = s) (e1 : decide (p ≤ 2 * panM s.c s.r) = true) (e2 : decide (2 * panM s.c s.r < 2 * panM b.c b.r) = true) : lessM p b nm = s := by
  unfold lessM
  rw [h]
  rw [decide_eq_true_eq] at e1 e2
  exact if_pos ⟨e1, by unfold panS; omega⟩

def EndRel (G : Nat → Prop) (p : Int) (f : Sc) (ls : List (List UInt8)) (k B : Nat) (w : World) (i : Value) (wr : World) : Prop :=
  ∃ (j : Nat) (s : Sc) (a1 : Option Addr) (c1 : Nat), j ≤ k ∧ i = .int .i64 (j : Int) ∧ Hid ((ls.take j).foldl (lessM p) f = s) ∧ Hid (Bx wr (B + 1) [.int .i64 0, .int .i64 0, .slice none 0 0]) ∧ Hid (Bx wr (B + 2) [.int .i64 s.c, .int .i64 s.r, .slice a1 s.l.length c1]) ∧ Hid (LiG (fun b => (b ≠ B + 1 ∧ b ≠ B + 2) ∧ G b) wr a1 s.l) ∧ Hid (Below w.heap.size w wr)

set_option maxHeartbeats 2000000 in
theorem spEnd_core (cs : List Value) (c r : Int) (l : List Sp) (a a' : Option Addr) (n cap k cap' : Nat) (ls : List (List UInt8)) (p : Int) (w : World) (h12 : cs[12]? = some (.int .i64 c)) (h13 : cs[13]? = some (.int .i64 r)) (h14 : cs[14]? = some (.slice a n cap)) (h15 : cs[15]? = some (.slice a' k cap'))
    (hn : l.length = n) (G : Nat → Prop) (hGn : ∀ b, w.heap.size ≤ b → G b) (hI : LiG G w a l) (hk : ls.length = k) (hT : TxA w a' cap' ls) (hk2 : k ≤ maxLen) (hg : GoodM w) (R : Sc) (hR : ls.foldl (lessM p) ⟨c, r, l⟩ = R) :
    Calls Tryz.prog 45 #[.agg cs.toArray, .int .i64 p] w fun e w' => ∃ a1 c1, e = .returned (.agg #[.int .i64 R.c, .int .i64 R.r, .slice a1 R.l.length c1]) ∧ LiG G w' a1 R.l ∧ Below w.heap.size w w' := by
  have HRS := Lib.hid hR
  clear hR
  unfold maxLen at hk2
  have X1 := Bx.new w 29 cs
  have U1 := up_alloc (Below.refl w.heap.size w) (.cells cs.toArray 29)
  have V1 := up_alloc (Below.refl _ (w.alloc (.cells cs.toArray 29))) (.cells #[.int .i64 0, .int .i64 0, .slice none 0 0] 26)
  have V2 := up_alloc V1 (.cells #[.int .i64 c, .int .i64 r, .slice a n cap] 26)
  have c12 := bl_cell V1 (X1.cell 12 h12); have c13 := bl_cell V1 (X1.cell 13 h13); have c14 := bl_cell V1 (X1.cell 14 h14)
  have c15 := bl_cell V2 (X1.cell 15 h15)
  have B1 := up_trans U1 V2
  have R1 := (Bx.new (w.alloc (.cells cs.toArray 29)) 26 [.int .i64 0, .int .i64 0, .slice none 0 0]).alloc (.cells #[.int .i64 c, .int .i64 r, .slice a n cap] 26)
  have L1 := Bx.new ((w.alloc (.cells cs.toArray 29)).alloc (.cells #[.int .i64 0, .int .i64 0, .slice none 0 0] 26)) 26 [.int .i64 c, .int .i64 r, .slice a n cap]
  have HI := Lib.hid (hI.old.mono (G' := fun b => (b ≠ w.heap.size + 1 ∧ b ≠ w.heap.size + 2) ∧ G b) (fun b hb => ⟨by omega, hb.1⟩))
  have HT := Lib.hid hT; have HG := Lib.hid hg; have HK := Lib.hid hk; have HN := Lib.hid hn
  simp only [World.size_alloc] at c12 c13 c14 c15 R1 L1
  clear X1 U1 V1 V2 hT hI hg hk hn h12 h13 h14 h15
  generalize cs.toArray = ca at *
  have HR1 := Lib.hid R1; have HL1 := Lib.hid L1; have HB1 := Lib.hid B1
  clear R1 L1 B1
  go_enter Tryz.func45, Tryz.ntmps45
  go_wp2
  obtain ⟨w1, hw1⟩ : ∃ w1, ((w.alloc (.cells ca 29)).alloc (.cells #[.int .i64 0, .int .i64 0, .slice none 0 0] 26)).alloc (.cells #[.int .i64 c, .int .i64 r, .slice a n cap] 26) = w1 := ⟨_, rfl⟩
  rw [hw1] at HR1 HL1 HB1 ⊢
  clear hw1 c12 c13 c14 c15
  go_loopw [15] (EndRel G p ⟨c, r, l⟩ ls k w.heap.size w) (fun i _ => k - (intOf i).toNat)
  case atStart => exact ⟨0, ⟨c, r, l⟩, a, cap, by omega, by go_num, Lib.hid rfl, HR1, by rw [HN.out]; exact HL1, Lib.hid (HI.out.up HB1.out), HB1⟩
  case round =>
    obtain ⟨j, s, a1, c1, hj, rfl, HS, HR, HL, HI1, HB⟩ := hrel
    by_cases hlt : j < k
    · obtain ⟨z, hx⟩ : ∃ x, ls[j]? = some x := ⟨ls[j]'(by rw [HK.out]; exact hlt), List.getElem?_eq_getElem _⟩
      obtain ⟨g, o, rfl, hc, -, -⟩ := HT.out.resolve_left (by rintro rfl; cases hx)
      have hcx := bl_cell HB.out (hc j z hx)
      have z0 : (0 : Int) ≤ (j : Int) := by omega
      have z3 : (j : Int) < (k : Int) := by omega
      have htk := Lib.hid (take_next hx)
      have HF := Lib.hid (schFind_any z wr (HG.out.below HB.out))
      obtain ⟨t, ht⟩ : ∃ t, (findM z).getD zeroSc = t := ⟨_, rfl⟩
      unfold GivesS at HF
      rw [ht] at HF
      have HTS := Lib.hid ht
      generalize (findM z).isSome = fb at *
      generalize tx z = Z at *
      clear hx hc ht
      go_wp2_with fail
      refine (HF.out).mono ?_
      rintro e w3 ⟨a3, c3, rfl, hF, hb⟩
      have S := Bx.new w3 26 [.int .i64 t.c, .int .i64 t.r, .slice a3 t.l.length c3]
      have U := up_alloc (Below.refl w3.heap.size w3) (.cells #[.int .i64 t.c, .int .i64 t.r, .slice a3 t.l.length c3] 26)
      have B4 := Lib.hid (up_trans HB.out (up_trans hb U))
      have HR4 := Lib.hid ((HR.out.up hb).up U)
      have HL4 := Lib.hid ((HL.out.up hb).up U)
      have HI4 := Lib.hid ((HI1.out.up hb).up U)
      have hlow := HL.out.lt
      have HF4 := Lib.hid ((hF.liG.mono (G' := fun b => (b ≠ w.heap.size + 1 ∧ b ≠ w.heap.size + 2) ∧ G b) (fun b hb => ⟨by omega, hGn b (by have := HB.out.size; omega)⟩)).up U)
      have hne : w.heap.size + 2 ≠ w3.heap.size := by have := hb.size; omega
      clear hb U hF
      go_wp2_with fail
      obtain ⟨w4, hw4⟩ : ∃ w4, w3.alloc (.cells #[.int .i64 t.c, .int .i64 t.r, .slice a3 t.l.length c3] 26) = w4 := ⟨_, rfl⟩
      rw [hw4] at S B4 HR4 HL4 HI4 HF4 ⊢
      clear hw4
      have j0 := fun x : Later w4 => x.cell (S.cell 0 rfl)
      have j1 := fun x : Later w4 => x.cell (S.cell 1 rfl)
      have j2 := fun x : Later w4 => x.cell (S.cell 2 rfl)
      have i0 := fun x : Later w4 => x.cell (HL4.out.cell 0 rfl)
      have i1 := fun x : Later w4 => x.cell (HL4.out.cell 1 rfl)
      have i2 := fun x : Later w4 => x.cell (HL4.out.cell 2 rfl)
      have K1 := fun w1 => spTakes_any t.c t.r a3 t.l.length c3 w1
      have K2 := fun w1 => spTakes_any s.c s.r a1 s.l.length c1 w1
      have hno := less_no p s t z HTS.out
      have hye := less_yes p s t z HTS.out
      obtain ⟨q3, hq3⟩ : ∃ q3, 2 * panM t.c t.r = q3 := ⟨_, rfl⟩
      obtain ⟨qs, hqs⟩ : ∃ qs, 2 * panM s.c s.r = qs := ⟨_, rfl⟩
      rw [hq3] at K1 hno hye
      rw [hqs] at K2 hno hye
      obtain ⟨u, hu⟩ : ∃ u, decide (p ≤ q3) = u := ⟨_, rfl⟩
      obtain ⟨v, hv⟩ : ∃ v, decide (q3 < qs) = v := ⟨_, rfl⟩
      have HN := Lib.hid (hno u v hu hv)
      rw [hu, hv] at hye
      have HY := Lib.hid hye
      have HK1 := Lib.hid K1; have HK2 := Lib.hid K2
      have HSb := Lib.hid S
      clear K1 K2 hno hye hq3 hqs S
      cases u
      · clear hv i0 i1 i2
        refine later_start (w := w4) ?_
        intro x
        refine wp_region_later (by kernel_rfl) (by kernel_rfl) ?_
        repeat (go_big_quiet_step ((go_at_call 44; with_reducible exact Later.call (HK1.out _))))
        refine wpQuiet_nil ?_
        rintro _ ⟨x2, rfl⟩
        clear j0 j1 j2
        go_wp2
        go_roundw
        case rel => exact ⟨j + 1, s, a1, c1, by omega, by go_num, Lib.hid (by rw [htk.out, List.foldl_append, HS.out]; exact HN.out rfl), Lib.hid (HR4.out.up x2.up), Lib.hid (HL4.out.up x2.up), Lib.hid (HI4.out.up x2.up), Lib.hid (up_trans B4.out x2.up)⟩
        case measure => simp [intOf]; omega
      cases v
      · refine later_start (w := w4) ?_
        intro x
        refine wp_region_later (by kernel_rfl) (by kernel_rfl) ?_
        repeat (go_big_quiet_step ((go_at_call 44; first | with_reducible exact Later.call (HK1.out _) | with_reducible exact Later.call (HK2.out _))))
        refine wpQuiet_nil ?_
        rintro _ ⟨x2, rfl⟩
        clear j0 j1 j2 i0 i1 i2
        go_wp2
        go_roundw
        case rel => exact ⟨j + 1, s, a1, c1, by omega, by go_num, Lib.hid (by rw [htk.out, List.foldl_append, HS.out]; exact HN.out rfl), Lib.hid (HR4.out.up x2.up), Lib.hid (HL4.out.up x2.up), Lib.hid (HI4.out.up x2.up), Lib.hid (up_trans B4.out x2.up)⟩
        case measure => simp [intOf]; omega
      · refine later_start (w := w4) ?_
        intro x
        refine wp_region_later (by kernel_rfl) (by kernel_rfl) ?_
        repeat (go_big_quiet_step ((go_at_call 44; first | with_reducible exact Later.call (HK1.out _) | with_reducible exact Later.call (HK2.out _))))
        refine wpQuiet_nil ?_
        rintro _ ⟨x2, rfl⟩
        have L5 := HL4.out.up x2.up
        have R5 := HR4.out.up x2.up
        have BB := up_trans B4.out x2.up
        have F5 := HF4.out.up x2.up
        have d0 := j0 x2; have d1 := j1 x2; have d2 := j2 x2
        have lf := L5.free
        have l0 := L5.cell 0 rfl; have l1 := L5.cell 1 rfl; have l2 := L5.cell 2 rfl
        clear j0 j1 j2 i0 i1 i2
        go_wp2
        go_roundw
        case rel =>
          refine ⟨j + 1, t, a3, c3, by omega, by go_num, Lib.hid (by rw [htk.out, List.foldl_append, HS.out]; exact HY.out rfl rfl), Lib.hid ?_, Lib.hid (L5.set3 _ _ _), Lib.hid ?_, Lib.hid ?_⟩
          · exact ((R5.far (p := ⟨w.heap.size + 2, 0, none⟩) (by simp only; omega) _).far (p := ⟨w.heap.size + 2, 1, none⟩) (by simp only; omega) _).far (p := ⟨w.heap.size + 2, 2, none⟩) (by simp only; omega) _
          · exact ((F5.set (p := ⟨w.heap.size + 2, 0, none⟩) (by simp only; omega) _).set (p := ⟨w.heap.size + 2, 1, none⟩) (by simp only; omega) _).set (p := ⟨w.heap.size + 2, 2, none⟩) (by simp only; omega) _
          · exact up_set (up_set (up_set BB (by simp only; omega) _) (by simp only; omega) _) (by simp only; omega) _
        case measure => simp [intOf]; omega
    · obtain rfl : j = k := by omega
      have hall : ls.take j = ls := List.take_of_length_le (by rw [HK.out]; omega)
      have hs := HS.out
      rw [hall, HRS.out] at hs
      subst hs
      have l0 := HL.out.cell 0 rfl; have l1 := HL.out.cell 1 rfl; have l2 := HL.out.cell 2 rfl
      have r0 := HR.out.cell 0 rfl; have r1 := HR.out.cell 1 rfl; have r2 := HR.out.cell 2 rfl; have rf := HR.out.free
      clear hall
      go_wp2
      have R6 := HR.out.set3 (.int .i64 R.c) (.int .i64 R.r) (.slice a1 R.l.length c1)
      have p0 := R6.cell 0 rfl; have p1 := R6.cell 1 rfl; have p2 := R6.cell 2 rfl
      refine bodyPost_ret (v := .agg #[.int .i64 R.c, .int .i64 R.r, .slice a1 R.l.length c1]) (by simp [results, Tryz.results45, go_sem, p0, p1, p2]) rfl ⟨a1, c1, rfl, ?_, ?_⟩
      · exact (((HI1.out.set (p := ⟨w.heap.size + 1, 0, none⟩) (by simp only; omega) _).set (p := ⟨w.heap.size + 1, 1, none⟩) (by simp only; omega) _).set (p := ⟨w.heap.size + 1, 2, none⟩) (by simp only; omega) _).mono fun b hb => hb.2
      · exact up_set (up_set (up_set HB.out (by simp only; omega) _) (by simp only; omega) _) (by simp only; omega) _
theorem spEnd_any (cs : List Value) (j : Jb) (p : Int) (w : World) (h : JobA w cs j) (hg : GoodM w) (G : Nat → Prop) (hGn : ∀ b, w.heap.size ≤ b → G b) (hG : ∀ a c, cs[14]? = some (.slice a j.f.l.length c) → LiG G w a j.f.l) :
    Calls Tryz.prog 45 #[.agg cs.toArray, .int .i64 p] w fun e w' => ∃ a1 c1, e = .returned (.agg #[.int .i64 (endM j p).c, .int .i64 (endM j p).r, .slice a1 (endM j p).l.length c1]) ∧ LiG G w' a1 (endM j p).l ∧ Below w.heap.size w w' := by
  obtain ⟨a, c, a', c', h12, h13, h14, h15, hI, hT⟩ := h.cells
  exact spEnd_core cs _ _ j.f.l a a' _ c _ c' j.ls p w h12 h13 h14 h15 rfl G hGn (hG a c h14) rfl hT (by rcases hT with e | ⟨g, o, e, h, h1, h2⟩; simp [e, maxLen]; omega) hg _ rfl
end Go.Proofs.YtomakbnbokaigaaGreatDoor
