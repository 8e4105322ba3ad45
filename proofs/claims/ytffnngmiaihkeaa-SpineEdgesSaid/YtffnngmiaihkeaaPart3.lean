/- Part 3 of the texts that the proofs of this seat share: SheetPart, RangeSmall, UnfoldDecks, SheetMirror, SheetMath, NumIn, StepCode, StepSp. -/
import Derived.Test.YtffnngmiaihkeaaPart2
import Derived.RangeFuncNested
import Derived.RangeFuncBound
import Derived.RangeFuncCalls
import Derived.RangeFuncLeaves
import Derived.WalkKit
import Derived.Test.YtffnngmiaihkeaaPart1
import Derived.Test.YtffnngmiaihkeaaProg
import Derived.RowKit3
import Derived.Lib.Hide
import Derived.OwnWalk
/- What grid.Part answers: a grid of its own with what stands there, or nil. -/
namespace Go.Proofs.Ytffnngmiaihkeaa
open Go.RowKit Go.Shelf
set_option linter.unusedVariables false
attribute [local go_sem] Oper.semAt_some

theorem gs_own {β : Type} (G A : Nat) (c r : Int) (f : β → List Ptr) : Own (fun s W => Gs W G A c r (f s)) := by
  rintro s X Y row h hg hr
  have k1 : some G ≠ row := fun e => by
    obtain ⟨o, ho, hc⟩ := hr G e.symm
    obtain ⟨o', ho', hc'⟩ := cells_of_cell (h.box.cell 0 rfl)
    rw [show X.heap[G]? = some o' from ho'] at ho; cases ho; rw [hc'] at hc; cases hc
  have k2 : some A ≠ row := fun e => by
    obtain ⟨o, ho, hc⟩ := hr A e.symm
    obtain ⟨x, hx⟩ : ∃ x, (f s)[0]? = some x := ⟨(f s)[0]'h.pos, List.getElem?_eq_getElem _⟩
    obtain ⟨o', ho', hc'⟩ := cells_of_cell (h.cell 0 x hx)
    rw [show X.heap[A]? = some o' from ho'] at ho; cases ho; rw [hc'] at hc; cases hc
  exact h.kept hg k1 k2

theorem Gs.put {W : World} {G A : Nat} {c r : Int} {l : List Ptr} (h : Gs W G A c r l) {D : Nat} {o o' : Obj} (hD : W.heap[D]? = some o) (ho : o.isCells = false) : Gs (W.putObj D o') G A c r l :=
  gs_own G A c r (fun _ : Unit => l) () W _ (some D) h (grownBy_putObj' W D o') (fun r e => by cases e; exact ⟨o, hD, ho⟩)
theorem Gs.isCells {W : World} {G A : Nat} {c r : Int} {l : List Ptr} (h : Gs W G A c r l) {o : Obj} (ho : W.heap[A]? = some o) : o.isCells = true := by
  obtain ⟨x, hx⟩ : ∃ x, l[0]? = some x := ⟨l[0]'h.pos, List.getElem?_eq_getElem _⟩
  obtain ⟨o', ho', hc'⟩ := cells_of_cell (h.cell 0 x hx)
  rw [show W.heap[A]? = some o' from ho'] at ho
  cases ho
  exact hc'

/-- The body's own list: one block. -/
def OneS (A : Nat) (_ : World) (b : Nat) : Prop := b = A
theorem oneS_up (A : Nat) (V V' : World) (h : Below V.heap.size V V') : KeepS (OneS A) V V' := ⟨h.size, fun b _ ho => ho, fun b cur fr _ hc => (h.block b (Array.getElem?_eq_some_iff.1 hc).1).trans hc⟩
theorem oneS_put (A : Nat) (W : World) (l : Nat) (o o' : Obj) (hl : W.heap[l]? = some o) (hc : o.isCells = false) : KeepS (OneS A) W (W.putObj l o') :=
  ⟨by simp, fun b _ ho => ho, fun b cur fr _ hb => by
    have hne : b ≠ l := fun e => by rw [e, hl] at hb; cases hb; cases hc
    exact ((grownBy_putObj' W l o').block b (Array.getElem?_eq_some_iff.1 hb).1 (fun e => hne (by injection e))).trans hb⟩
theorem oneS_grown (A : Nat) {W W' : World} (h : W.grownBy W' (some A)) : KeepS (OneS A) W W' :=
  ⟨h.size, fun b _ ho => ho, fun b cur fr hn hb => (h.block b (Array.getElem?_eq_some_iff.1 hb).1 (fun e => hn (by injection e))).trans hb⟩

/-- A thing is laid where it stands in the part. -/
def stepPs (pc pr col row : Int) (L : List Ptr) (x : (Int × Int) × Ptr) : List Ptr := setS pc pr L (wrap64 (x.1.1 - col)) (wrap64 (x.1.2 - row)) x.2
def foldPs (pc pr col row : Int) (xs : List ((Int × Int) × Ptr)) : List Ptr := xs.foldl (stepPs pc pr col row) (List.replicate (pc * pr).toNat none)
theorem foldPs_snoc (pc pr col row : Int) (xs : List ((Int × Int) × Ptr)) (x : (Int × Int) × Ptr) : foldPs pc pr col row (xs ++ [x]) = setS pc pr (foldPs pc pr col row xs) (wrap64 (x.1.1 - col)) (wrap64 (x.1.2 - row)) x.2 := by simp [foldPs, stepPs]

set_option maxRecDepth 100000 in
set_option maxHeartbeats 4000000 in
theorem shPart_yes {w : World} {G A : Nat} {c r : Int} {l : List Ptr} (h : Gs w G A c r l) (col row pc pr : Int) (h1 : fitB col pc c = true) (h2 : fitB row pr r = true) :
    Calls Try.prog 58 #[.pointer (some ⟨G, 0, none⟩), .int .i64 col, .int .i64 row, .int .i64 pc, .int .i64 pr] w fun e w' => ∃ P PA, e = .returned (.pointer (some ⟨P, 0, none⟩)) ∧ Gs w' P PA pc pr (foldPs pc pr col row (ptS c l l.length)) ∧ w.heap.size ≤ P ∧ w.heap.size ≤ PA ∧ Below w.heap.size w w' := by
  obtain ⟨i1, f0, f1⟩ := fit_in h1 h.c64
  obtain ⟨i2, g0, g1⟩ := fit_in h2 h.r64
  have b1 : pc ≤ 64 := by have := h.c64; omega
  have b2 : pr ≤ 64 := by have := h.r64; omega
  have KF1 := fun w => calls_b (fits_any col pc c (by have := h.c1; omega) h.c64 (by omega) w)
  have KF2 := fun w => calls_b (fits_any row pr r (by have := h.r1; omega) h.r64 (by omega) w)
  rw [h1] at KF1
  rw [h2] at KF2
  have KN := fun w => shNew_yes pc pr i1 i2 w
  have KC := fun (w' : World) (hb : Below w.heap.size w w') => calls_b (shCols_any (h.up hb))
  have KR := fun (w' : World) (hb : Below w.heap.size w w') => calls_b (shRows_any (h.up hb))
  have HF1 := Lib.hid KF1; have HF2 := Lib.hid KF2; have HN := Lib.hid KN; have HC := Lib.hid KC; have HR := Lib.hid KR; have HG := Lib.hid h
  clear KF1 KF2 KN KC KR h i1 i2 h1 h2
  refine (callsIn_wide (n := 3)).1 ?_
  refine callsIn_of_wp_marks Try.func58 rfl trivial ?_ rfl
  simp only [Try.ntmps58, List.size_toArray, List.length_cons, List.length_nil, Nat.reduceAdd, Nat.reduceSub, Array.replicate_succ, Array.replicate_zero, List.push_toArray, List.append_toArray, List.nil_append, List.cons_append]
  gi_wp2
  have x0 := ((Bx.new w 3 [.int .i64 col]).alloc (.cells #[.int .i64 row] 3)).cell 0 rfl
  have x1 := (Bx.new (w.alloc (.cells #[.int .i64 col] 3)) 3 [.int .i64 row]).cell 0 rfl
  have hb1 : Below w.heap.size w ((w.alloc (.cells #[.int .i64 col] 3)).alloc (.cells #[.int .i64 row] 3)) := up_alloc (up_alloc (Below.refl _ _) _) _
  simp only [World.size_alloc] at x1
  have y0 := Boxed.alloc (Boxed.new w 3 (.int .i64 col)) (.cells #[.int .i64 row] 3)
  have y1 := Boxed.new (w.alloc (.cells #[.int .i64 col] 3)) 3 (.int .i64 row)
  simp only [World.size_alloc] at y1
  have hsz : ((w.alloc (.cells #[.int .i64 col] 3)).alloc (.cells #[.int .i64 row] 3)).heap.size = w.heap.size + 2 := by simp
  generalize ((w.alloc (.cells #[.int .i64 col] 3)).alloc (.cells #[.int .i64 row] 3)) = w1 at *
  have Y0 := Lib.hid y0; have Y1 := Lib.hid y1; have HB1 := Lib.hid hb1; have HZ := Lib.hid hsz
  clear y0 y1 hb1 hsz
  have j0 := fun u : Later w1 => u.cell x0
  have j1 := fun u : Later w1 => u.cell x1
  clear x0 x1
  refine wpIn_wide.2 ?_
  refine later_start (w := w1) ?_
  intro u
  refine wp_region_later (by kernel_rfl) (by kernel_rfl) ?_
  repeat (go_big_quiet_step ((first
    | (go_at_call 56; with_reducible exact Later.call (HC.out _ (up_trans HB1.out (Later.up _))))
    | (go_at_call 57; with_reducible exact Later.call (HR.out _ (up_trans HB1.out (Later.up _))))
    | (go_at_call 62; first | with_reducible exact Later.call (HF1.out _) | with_reducible exact Later.call (HF2.out _)))))
  refine wpQuiet_nil ?_
  rintro _ ⟨u2, rfl⟩
  rename_i hK
  refine hK _ _ ?_
  have y0 : Boxed u2.now w.heap.size 3 (.int .i64 col) := (u2.up.block _ Y0.out.lt).trans Y0.out
  have y1 : Boxed u2.now (w.heap.size + 1) 3 (.int .i64 row) := (u2.up.block _ Y1.out.lt).trans Y1.out
  have hb2 : Below w.heap.size w u2.now := up_trans HB1.out u2.up
  have hs2 : w.heap.size + 2 ≤ u2.now.heap.size := by have := u2.up.size; rw [HZ.out] at this; exact this
  clear hK j0 j1 Y0 Y1 HB1 HZ HC HR HF1 HF2
  generalize u2.now = w2 at *
  have Y0 := Lib.hid y0; have Y1 := Lib.hid y1; have HB2 := Lib.hid hb2
  clear y0 y1 hb2
  gi_wp2_with (first
    | (refine ⟨trivial, ?_⟩; gi_at_call 38; refine (callsIn_wide.2 (HN.out _)).mono ?_; rintro e w3 ⟨rfl, hP, hb3⟩; have HP := Lib.hid hP; have HB3 := Lib.hid hb3; clear hP hb3)
    | (refine ⟨trivial, ?_⟩; gi_at_call 39; refine (callsIn_wide.2 (shAll_any _ _)).mono ?_; rintro e w4 ⟨rfl, rfl⟩))
  have hs3 : w2.heap.size + 2 ≤ w3.heap.size := by have := HP.out.ltG; omega
  obtain ⟨W0, hW0⟩ : ∃ W0, ((w3.alloc (.cells #[.pointer (some ⟨w2.heap.size + 1, 0, none⟩)] 64)).alloc (.cells #[.pointer (some ⟨G, 0, none⟩)] 64)) = W0 := ⟨_, rfl⟩
  have up3 : Below w3.heap.size w3 W0 := by rw [← hW0]; exact up_alloc (up_alloc (Below.refl _ _) _) _
  have up2 : Below w2.heap.size w2 W0 := up_trans HB3.out up3
  have upw : Below w.heap.size w W0 := up_trans HB2.out up2
  have y0 : Boxed W0 w.heap.size 3 (.int .i64 col) := (up2.block _ Y0.out.lt).trans Y0.out
  have y1 : Boxed W0 (w.heap.size + 1) 3 (.int .i64 row) := (up2.block _ Y1.out.lt).trans Y1.out
  have yP : Boxed W0 w3.heap.size 64 (.pointer (some ⟨w2.heap.size + 1, 0, none⟩)) := by rw [← hW0]; exact (Boxed.new w3 _ _).alloc _
  have yG : W0.cell? ⟨w3.heap.size + 1, 0, none⟩ = some (.pointer (some ⟨G, 0, none⟩)) := by rw [← hW0]; simp [go_sem]
  have gP : Gs W0 (w2.heap.size + 1) w2.heap.size pc pr (foldPs pc pr col row []) := HP.out.up up3
  have gG : Gs W0 G A c r l := HG.out.up upw
  have hsz : W0.heap.size = w3.heap.size + 2 := by rw [← hW0]; simp
  rw [hW0]
  clear hW0 Y0 Y1 HB2 HB3 HP HN up3 up2
  refine wpIn_rangeFunc_ownH rfl (by decide) (gf := 54) (lb := #[.pointer (some ⟨w3.heap.size + 1, 0, none⟩)]) rfl trivial (enters_of Try.func54 (by kernel_rfl) rfl)
    (shAll_stops 2 (OneS w2.heap.size) (w3.heap.size + 1) G A c r l W0 yG gG (fun W' hb b ho => by unfold OneS at ho; omega) (fun V V' _ h => oneS_up _ V V' h)) KeepS.trans (fun W l o o' _ h1 h2 _ => oneS_put _ W l o o' h1 h2) (Below.refl _ _) (fun _ => rfl)
    (fun pre W => (Gs W (w2.heap.size + 1) w2.heap.size pc pr (foldPs pc pr col row pre) ∧ (Boxed W w.heap.size 3 (.int .i64 col) ∧ (Boxed W (w.heap.size + 1) 3 (.int .i64 row) ∧ Boxed W w3.heap.size 64 (.pointer (some ⟨w2.heap.size + 1, 0, none⟩))))) ∧ Below w.heap.size w W)
    (fun c pre W => False)
    (OwnFrom.and (OwnFrom.and (Own.from (gs_own _ _ _ _ _) _) (OwnFrom.and (Own.from (boxed_own _ _ _) _) (OwnFrom.and (Own.from (boxed_own _ _ _) _) (Own.from (boxed_own _ _ _) _)))) (ownFrom_below (Nat.le_refl _) (by omega)))
    (fun c => ownFrom_pure _ (fun _ => False))
    ⟨⟨gP, y0, y1, yP⟩, upw⟩
    (fun x a' W => ∃ Bq, w3.heap.size < Bq ∧ W.cell? ⟨Bq, 0, none⟩ = some (.int .i64 x.1.1) ∧ W.cell? ⟨Bq, 1, none⟩ = some (.int .i64 x.1.2) ∧
      a' = { tmps := #[.pointer (some ⟨G, 0, none⟩), .int .i64 col, .int .i64 row, .int .i64 pc, .int .i64 pr, undef, .pointer (some ⟨w.heap.size, 0, none⟩), .pointer (some ⟨w.heap.size + 1, 0, none⟩), undef, undef, .pointer none, .pointer (some ⟨w3.heap.size, 0, none⟩), .pointer (some ⟨Bq, 0, none⟩), .pointer x.2, .int .i64 col, .int .i64 pc, .pointer (some ⟨G, 0, none⟩), .int .i64 c, .bool true, .bool false, .bool false, .int .i64 row, .int .i64 pr, .pointer (some ⟨G, 0, none⟩), .int .i64 r, .bool true, .bool false, .bool false, .int .i64 pc, .int .i64 pr, .pointer (some ⟨w2.heap.size + 1, 0, none⟩), .pointer (some ⟨G, 0, none⟩), .func (.func 54) #[] #[.pointer (some ⟨w3.heap.size + 1, 0, none⟩)], .agg #[.int .i64 x.1.1, .int .i64 x.1.2], .pointer x.2, undef, undef, undef, undef, undef, undef, undef, undef, undef, undef, undef, undef], defers := [] })
    (fun x a' _ X Y row hs hg hr => by obtain ⟨Bx, h1, h2, h3, h4⟩ := hs; exact ⟨Bx, h1, cell_kept h2 hg (fun r e => (hr r e).2), cell_kept h3 hg (fun r e => (hr r e).2), h4⟩)
    ?assign ?body ?done ?stop
  case assign =>
    rintro l pre x W K ⟨⟨hg, k0, k1, kP⟩, hB1⟩ hK
    unfold encV
    gi_wp2
    exact hK _ _ ((KeepsOthers.alloc _ _).from _) (oneS_up _ _ _ (up_alloc (Below.refl _ _) _)) ⟨⟨hg.up (up_alloc (Below.refl _ _) _), k0.alloc _, k1.alloc _, kP.alloc _⟩, hB1.alloc hB1.size _⟩ ⟨W.heap.size, kP.lt, by simp [go_sem], by simp [go_sem], rfl⟩
  case body =>
    rintro l0 pre x a' W hl _ ⟨⟨hg, k0, k1, kP⟩, hB1⟩ ⟨Bq, hBq, x0, x1, rfl⟩ hlen
    have e0 := k0.cell
    have e1 := k1.cell
    have eP := kP.cell
    obtain ⟨⟨px, py⟩, v⟩ := x
    simp only at x0 x1
    obtain ⟨dx, hdx⟩ : ∃ d, wrap64 (px - col) = d := ⟨_, rfl⟩
    obtain ⟨dy, hdy⟩ : ∃ d, wrap64 (py - row) = d := ⟨_, rfl⟩
    have HG2 := Lib.hid hg
    clear hg
    gi_wp2_with (refine ⟨trivial, ?_⟩; gi_at_call 40; refine (CallsIn.inRound l0 (callsIn_wide.2 (shSet_any HG2.out _ _ _))).mono ?_; rintro e W1 ⟨rfl, hg1, hgr⟩)
    refine ⟨(KeepsOthers.of_grownBy hgr fun j o ej hj => ?_).from _, oneS_grown _ hgr, ⟨⟨?_, k0.kept hgr (by simp; omega), k1.kept hgr (by simp; omega), kP.kept hgr (by simp; omega)⟩, hB1.grown hgr hB1.size (fun k e => by cases e; omega)⟩⟩
    · cases ej
      exact HG2.out.isCells hj
    · rw [foldPs_snoc, hdx, hdy]
      exact hg1
  case done =>
    rintro D ys W hD rfl ⟨⟨hg, k0, k1, kP⟩, hB1⟩ hK
    have hc := kP.cell
    gi_wp2
    refine ⟨by simp, .inl ⟨_, _, rfl, run_takeDeferred hK, ?_⟩⟩
    exact ⟨_, results_tmp rfl _ _ _, _, w2.heap.size, rfl, hg.put hK rfl, by omega, by omega, hB1.trans (belowK_b (w := w) (Nat.le_refl _) W D _ _ (by omega) hK rfl rfl)⟩
  case stop =>
    rintro D c pre W hD hpre h hK
    exact h.elim

end Go.Proofs.Ytffnngmiaihkeaa
/- Ranges over functions: a block of two cells, a wider post. -/
namespace Go.Proofs.Ytffnngmiaihkeaa
open Go.RowKit
set_option linter.unusedVariables false

/-- A block of two cells. -/
def Boxed2 (W : World) (B : Nat) (t : TypeId) (a b : Value) : Prop := W.heap[B]? = some (.cells #[a, b] t (0, 0))
theorem Boxed2.c0 {W : World} {B : Nat} {t : TypeId} {a b : Value} (h : Boxed2 W B t a b) : W.cell? ⟨B, 0, none⟩ = some a := by unfold Boxed2 at h; simp [World.cell?, h]
theorem Boxed2.c1 {W : World} {B : Nat} {t : TypeId} {a b : Value} (h : Boxed2 W B t a b) : W.cell? ⟨B, 1, none⟩ = some b := by unfold Boxed2 at h; simp [World.cell?, h]
theorem Boxed2.free {W : World} {B : Nat} {t : TypeId} {a b : Value} (h : Boxed2 W B t a b) (j : Nat) : W.frozen? ⟨B, j, none⟩ = false := by unfold Boxed2 at h; simp [World.frozen?, h]
theorem boxed2_own {β : Type} (B : Nat) (t : TypeId) (a b : Value) : Own (fun (_ : β) W => Boxed2 W B t a b) := by
  rintro s X Y row h hg hr
  refine (hg.block B (Array.getElem?_eq_some_iff.1 h).1 (fun e => ?_)).trans h
  obtain ⟨o, ho, hc⟩ := hr B e.symm
  rw [show X.heap[B]? = _ from h] at ho
  cases ho
  cases hc
/-- A block of these cells. -/
def BoxN (W : World) (B : Nat) (t : TypeId) (cs : Array Value) : Prop := W.heap[B]? = some (.cells cs t (0, 0))
theorem BoxN.cell {W : World} {B : Nat} {t : TypeId} {cs : Array Value} (h : BoxN W B t cs) (j : Nat) {v : Value} (hv : cs[j]? = some v) : W.cell? ⟨B, j, none⟩ = some v := by unfold BoxN at h; simp [World.cell?, h, hv]
theorem BoxN.free {W : World} {B : Nat} {t : TypeId} {cs : Array Value} (h : BoxN W B t cs) (j : Nat) : W.frozen? ⟨B, j, none⟩ = false := by unfold BoxN at h; simp [World.frozen?, h]
theorem boxN_own {β : Type} (B : Nat) (t : TypeId) (cs : Array Value) : Own (fun (_ : β) W => BoxN W B t cs) := by
  rintro s X Y row h hg hr
  refine (hg.block B (Array.getElem?_eq_some_iff.1 h).1 (fun e => ?_)).trans h
  obtain ⟨o, ho, hc⟩ := hr B e.symm
  rw [show X.heap[B]? = _ from h] at ho
  cases ho
  cases hc
theorem wp_weak {P : Program} {c : Code} {Q Q' : Exit → Act → World → Prop} {a : Act} {w : World} (h : c.wp P Q a w) (hq : ∀ e a w, Q e a w → Q' e a w) : c.wp P Q' a w :=
  fun b k cs => let ⟨e, a', w', q, r⟩ := h b k cs; ⟨e, a', w', hq _ _ _ q, r⟩
end Go.Proofs.Ytffnngmiaihkeaa
/- Many decks of pieces, each in memory of its own: what a call makes of one leaves the others. -/
namespace Go.Proofs.Ytffnngmiaihkeaa
open Go.RowKit
set_option linter.unusedVariables false

/-- The decks at the blocks that M tells: R D is where the things of D lie, S D what they are. -/
structure Decks (w : World) (base : Nat) (M : Nat → Prop) (R : Nat → Nat) (S : Nat → List Pc) : Prop where
  dk : ∀ D, M D → Dp w base D (R D) (S D)
  ne : ∀ D, M D → 0 < (S D).length
  far : ∀ D E, M D → M E → D ≠ E → R D ≠ R E

theorem Dp.cross {w : World} {base D R E R' : Nat} {l l' : List Pc} (h : Dp w base D R l) (k : Dp w base E R' l') : R ≠ E := by
  obtain ⟨cap, _, h2⟩ := h.row
  obtain ⟨cur, h3, _⟩ := h2.block
  obtain ⟨cap', k1, _⟩ := k.row
  rintro rfl
  have := (show w.heap[R]? = _ from k1).symm.trans h3
  simp at this
theorem Dp.cellsD {w : World} {base D R : Nat} {l : List Pc} (h : Dp w base D R l) : ∃ v, w.heap[D]? = some (.cells #[v] 71 (0, 0)) := by
  obtain ⟨cap, h1, _⟩ := h.row
  exact ⟨_, h1⟩
theorem Dp.cellsR {w : World} {base D R : Nat} {l : List Pc} (h : Dp w base D R l) : ∃ cur, w.heap[R]? = some (.cells cur 59 (0, 0)) := by
  obtain ⟨cap, _, h2⟩ := h.row
  obtain ⟨cur, h3, _⟩ := h2.block
  exact ⟨cur, h3⟩

theorem Decks.up {w w' : World} {base : Nat} {M : Nat → Prop} {R : Nat → Nat} {S : Nat → List Pc} (h : Decks w base M R S) (hb : Below w.heap.size w w') : Decks w' base M R S := ⟨fun D hD => (h.dk D hD).up hb, h.ne, h.far⟩
theorem Decks.sub {w : World} {base : Nat} {M M' : Nat → Prop} {R : Nat → Nat} {S : Nat → List Pc} (h : Decks w base M R S) (hs : ∀ D, M' D → M D) : Decks w base M' R S := ⟨fun D hD => h.dk D (hs D hD), fun D hD => h.ne D (hs D hD), fun D E hD hE => h.far D E (hs D hD) (hs E hE)⟩
theorem Decks.kept {w w' : World} {base : Nat} {M : Nat → Prop} {R : Nat → Nat} {S : Nat → List Pc} (h : Decks w base M R S) {row : Option Nat} (hg : w.grownBy w' row) (hr : ∀ r, row = some r → ∃ o : Obj, w.heap[r]? = some o ∧ o.isCells = false) : Decks w' base M R S := by
  refine ⟨fun D hD => ?_, h.ne, h.far⟩
  have k := h.dk D hD
  have ne : ∀ b cur t, w.heap[b]? = some (.cells cur t (0, 0)) → some b ≠ row := fun b cur t hb e => by
    obtain ⟨o, ho, hc⟩ := hr b e.symm
    rw [hb] at ho
    cases ho
    cases hc
  obtain ⟨v, hv⟩ := k.cellsD
  obtain ⟨cur, hc⟩ := k.cellsR
  exact k.kept (hg.block D k.ltD (ne _ _ _ hv)) (hg.block _ k.ltR.2 (ne _ _ _ hc))

/-- S, but for D, where l is. -/
def putS (S : Nat → List Pc) (D : Nat) (l : List Pc) : Nat → List Pc := fun E => if E = D then l else S E
theorem putS_at (S : Nat → List Pc) (D : Nat) (l : List Pc) : putS S D l D = l := by simp [putS]
theorem putS_ne {S : Nat → List Pc} {D E : Nat} {l : List Pc} (h : E ≠ D) : putS S D l E = S E := by simp [putS, h]

theorem Decks.made {w w' : World} {base : Nat} {M : Nat → Prop} {R : Nat → Nat} {S : Nat → List Pc} (h : Decks w base M R S) {D : Nat} (hD : M D) {l : List Pc} (hm : MadeP base w D (R D) l w') (hl : 0 < l.length) :
    ∃ R', Decks w' base M R' (putS S D l) ∧ (∀ E, M E → R' E = R E ∨ w.heap.size ≤ R' E) ∧ But D (R D) w w' := by
  obtain ⟨r, h1, h2, h3⟩ := hm
  refine ⟨fun E => if E = D then r else R E, ⟨fun E hE => ?_, fun E hE => ?_, fun E E' hE hE' hne => ?_⟩, fun E hE => ?_, h3⟩
  · by_cases e : E = D
    · subst e
      simpa [putS] using h1
    · have k := h.dk E hE
      have kD := h.dk D hD
      simp only [if_neg e, putS_ne e]
      exact k.but h3 e (fun h => (kD.cross k) h.symm) (k.cross kD) (h.far E D hE hD e)
  · by_cases e : E = D
    · subst e; rw [putS_at]; exact hl
    · rw [putS_ne e]; exact h.ne E hE
  · have lt := fun X (hX : M X) => (h.dk X hX).ltR.2
    by_cases e : E = D
    · subst e
      have e' : E' ≠ E := fun h => hne h.symm
      simp only [if_neg e', if_true]
      rcases h2 with rfl | h2
      · exact h.far E E' hE hE' hne
      · have := lt E' hE'; omega
    · simp only [if_neg e]
      by_cases e' : E' = D
      · subst e'
        simp only [if_true]
        rcases h2 with rfl | h2
        · exact h.far E E' hE hE' hne
        · have := lt E hE; omega
      · simp only [if_neg e']
        exact h.far E E' hE hE' hne
  · by_cases e : E = D
    · subst e; simp only [if_true]; exact h2
    · exact .inl (if_neg e)

/-- What is no cells lies as it lay; so do lists of pointers to piles. -/
theorem But.others {w w' : World} {D R : Nat} (h : But D R w w') (hD : ∃ v t, w.heap[D]? = some (.cells v t (0, 0))) (hR : ∃ v t, w.heap[R]? = some (.cells v t (0, 0))) : KeepsOthers w w' := by
  refine ⟨h.size, fun k o hk ho => (h.block k (Array.getElem?_eq_some_iff.1 hk).1 ?_ ?_).trans hk⟩
  · rintro rfl
    obtain ⟨v, t, e⟩ := hD
    rw [e] at hk; cases hk; cases ho
  · rintro rfl
    obtain ⟨v, t, e⟩ := hR
    rw [e] at hk; cases hk; cases ho
theorem others_below {w w' : World} (h : Below w.heap.size w w') : KeepsOthers w w' := KeepsOthers.of_grownBy (row := none) ⟨h.os, h.tape, h.output, h.size, fun k hk _ => h.block k hk⟩ (fun j o e => by cases e)
def NoS (_ : World) (_ : Nat) : Prop := False
theorem noS_up (V V' : World) (h : Below V.heap.size V V') : KeepS NoS V V' := ⟨h.size, fun b _ ho => ho, fun b cur fr _ hc => (h.block b (Array.getElem?_eq_some_iff.1 hc).1).trans hc⟩
theorem noS_put (W : World) (l : Nat) (o o' : Obj) (hl : W.heap[l]? = some o) (hc : o.isCells = false) : KeepS NoS W (W.putObj l o') :=
  ⟨by simp, fun b _ ho => ho, fun b cur fr _ hb => by
    have hne : b ≠ l := fun e => by rw [e, hl] at hb; cases hb; cases hc
    exact ((grownBy_putObj' W l o').block b (Array.getElem?_eq_some_iff.1 hb).1 (fun e => hne (by injection e))).trans hb⟩
theorem But.keepS {w w' : World} {base D R : Nat} {l : List Pc} (h : But D R w w') (hd : Dp w base D R l) : KeepS NoS w w' := by
  refine ⟨h.size, fun b _ ho => ho, fun b cur fr _ hc => (h.block b (Array.getElem?_eq_some_iff.1 hc).1 ?_ ?_).trans hc⟩
  · rintro rfl
    obtain ⟨v, e⟩ := hd.cellsD
    rw [e] at hc
    injection hc with h1
    injection h1 with _ h2
    exact absurd h2 (by decide)
  · rintro rfl
    obtain ⟨v, e⟩ := hd.cellsR
    rw [e] at hc
    injection hc with h1
    injection h1 with _ h2
    exact absurd h2 (by decide)

theorem Bx.same {w w' : World} {B : Nat} {vs : List Value} (h : Bx w B vs) (e : w'.heap[B]? = w.heap[B]?) : Bx w' B vs :=
  ⟨fun j v hj => (World.cell?_of_block (a := ⟨B, j, none⟩) e).trans (h.1 j v hj), fun j => (World.frozen?_of_block (a := ⟨B, j, none⟩) e).trans (h.2 j)⟩
theorem Gs.same {w w' : World} {G A : Nat} {c r : Int} {l : List Ptr} (h : Gs w G A c r l) (e1 : w'.heap[G]? = w.heap[G]?) (e2 : w'.heap[A]? = w.heap[A]?) : Gs w' G A c r l := ⟨h.box.same e1, h.row.same e2, h.c1, h.c64, h.r1, h.r64, h.len, h.ne⟩
end Go.Proofs.Ytffnngmiaihkeaa
/- What grid.Mirror answers: a grid of its own, left and right, or below and above, changed about; nil of nil. -/
namespace Go.Proofs.Ytffnngmiaihkeaa
open Go.RowKit Go.Shelf
set_option linter.unusedVariables false
attribute [local go_sem] Oper.semAt_some

/-- A thing is laid where it stands in the mirrored grid. -/
def stepMs (up : Bool) (c r : Int) (L : List Ptr) (x : (Int × Int) × Ptr) : List Ptr := if up = true then setS c r L (wrap64 (c - 1 - x.1.1)) x.1.2 x.2 else setS c r L x.1.1 (wrap64 (r - 1 - x.1.2)) x.2
def foldMs (up : Bool) (c r : Int) (xs : List ((Int × Int) × Ptr)) : List Ptr := xs.foldl (stepMs up c r) (List.replicate (c * r).toNat none)
theorem foldMs_snoc (up : Bool) (c r : Int) (xs : List ((Int × Int) × Ptr)) (x : (Int × Int) × Ptr) : foldMs up c r (xs ++ [x]) = stepMs up c r (foldMs up c r xs) x := by simp [foldMs]

/-- What lies there behind the first statement. -/
structure MadeS (w1 : World) (q : Option Addr) (B : Nat) (w' : World) : Prop where
  box : Boxed w' B 64 (.pointer q)
  up : Below w1.heap.size w1 w'
  new : w1.heap.size ≤ B

theorem madeS_after {w1 w3 : World} {c r : Int} {L : List Ptr} (hb3 : Below w1.heap.size w1 w3) (hP : Gs w3 (w1.heap.size + 1) w1.heap.size c r L) :
    MadeS w1 (some ⟨w1.heap.size + 1, 0, none⟩) w3.heap.size (w3.alloc (.cells #[.pointer (some ⟨w1.heap.size + 1, 0, none⟩)] 64)) ∧ Gs (w3.alloc (.cells #[.pointer (some ⟨w1.heap.size + 1, 0, none⟩)] 64)) (w1.heap.size + 1) w1.heap.size c r L ∧
    w1.heap.size ≤ w1.heap.size + 1 ∧ w1.heap.size ≤ w1.heap.size ∧ w3.heap.size ≠ w1.heap.size + 1 ∧ w3.heap.size ≠ w1.heap.size :=
  ⟨⟨Boxed.new w3 _ _, up_alloc hb3 _, hb3.size⟩, hP.up (up_alloc (Below.refl _ _) _), by omega, by omega, by have := hP.ltG; omega, by have := hP.ltG; omega⟩
theorem madeS_before {w1 w3 : World} {c r : Int} {L : List Ptr} {v : Value} (hb3 : Below (w1.alloc (.cells #[v] 64)).heap.size (w1.alloc (.cells #[v] 64)) w3) (hP : Gs w3 ((w1.alloc (.cells #[v] 64)).heap.size + 1) (w1.alloc (.cells #[v] 64)).heap.size c r L) :
    MadeS w1 (some ⟨w1.heap.size + 1 + 1, 0, none⟩) w1.heap.size (w3.setCell ⟨w1.heap.size, 0, none⟩ (.pointer (some ⟨w1.heap.size + 1 + 1, 0, none⟩))) ∧ Gs (w3.setCell ⟨w1.heap.size, 0, none⟩ (.pointer (some ⟨w1.heap.size + 1 + 1, 0, none⟩))) (w1.heap.size + 1 + 1) (w1.heap.size + 1) c r L ∧
    w1.heap.size ≤ w1.heap.size + 1 + 1 ∧ w1.heap.size ≤ w1.heap.size + 1 ∧ w1.heap.size ≠ w1.heap.size + 1 + 1 ∧ w1.heap.size ≠ w1.heap.size + 1 := by
  rw [World.size_alloc] at hP
  have hbx : Boxed w3 w1.heap.size 64 v := (hb3.block w1.heap.size (by simp)).trans (Boxed.new w1 _ _)
  exact ⟨⟨hbx.set _, up_set (up_trans (up_alloc (Below.refl _ _) _) hb3) (Nat.le_refl _) _, Nat.le_refl _⟩, hP.kept (grownBy_setCell' w3 w1.heap.size _) (by simp; omega) (by simp), by omega, by omega, by omega, by omega⟩

theorem keepS_other {A Bq : Nat} {t : TypeId} (ht : t ≠ 55) {W W1 : World} {a b : Value} (hB : Boxed2 W Bq t a b) (hg : W.grownBy W1 (some Bq)) : KeepS (OneS A) W W1 :=
  ⟨hg.size, fun b _ ho => ho, fun b' cur fr hn hb => by
    refine (hg.block b' (Array.getElem?_eq_some_iff.1 hb).1 (fun e => ?_)).trans hb
    obtain rfl : b' = Bq := by injection e
    rw [show W.heap[b']? = _ from hB] at hb
    injection hb with h1
    injection h1 with _ h2
    exact ht h2⟩

set_option maxRecDepth 100000 in
set_option maxHeartbeats 4000000 in
theorem shMirror_yes {w : World} {G A : Nat} {c r : Int} {l : List Ptr} (h : Gs w G A c r l) (up : Bool) :
    Calls Try.prog 44 #[.pointer (some ⟨G, 0, none⟩), .bool up] w fun e w' => ∃ P PA, e = .returned (.pointer (some ⟨P, 0, none⟩)) ∧ Gs w' P PA c r (foldMs up c r (ptS c l l.length)) ∧ w.heap.size ≤ P ∧ w.heap.size ≤ PA ∧ Below w.heap.size w w' := by
  have i1 : inB c 1 64 = true := by have := h.c1; have := h.c64; simp [inB]; omega
  have i2 : inB r 1 64 = true := by have := h.r1; have := h.r64; simp [inB]; omega
  have c1 := h.c1; have c64 := h.c64; have r1 := h.r1; have r64 := h.r64
  have KN := fun w => shNew_yes c r i1 i2 w
  have KC := fun (w' : World) (hb : Below w.heap.size w w') => shCols_any (h.up hb)
  have KR := fun (w' : World) (hb : Below w.heap.size w w') => shRows_any (h.up hb)
  have HN := Lib.hid KN; have HC := Lib.hid KC; have HR := Lib.hid KR; have HG := Lib.hid h
  clear KN KC KR h i1 i2
  refine (callsIn_wide (n := 3)).1 ?_
  refine callsIn_of_wp_marks Try.func44 rfl trivial ?_ rfl
  simp only [Try.ntmps44, List.size_toArray, List.length_cons, List.length_nil, Nat.reduceAdd, Nat.reduceSub, Array.replicate_succ, Array.replicate_zero, List.push_toArray, List.append_toArray, List.nil_append, List.cons_append]
  gi_wp2
  have y0 := Boxed.alloc (Boxed.new w 64 (.pointer (some ⟨G, 0, none⟩))) (.cells #[.bool up] 4)
  have y1 := Boxed.new (w.alloc (.cells #[.pointer (some ⟨G, 0, none⟩)] 64)) 4 (.bool up)
  have hb1 : Below w.heap.size w ((w.alloc (.cells #[.pointer (some ⟨G, 0, none⟩)] 64)).alloc (.cells #[.bool up] 4)) := up_alloc (up_alloc (Below.refl _ _) _) _
  simp only [World.size_alloc] at y1
  have hsz : ((w.alloc (.cells #[.pointer (some ⟨G, 0, none⟩)] 64)).alloc (.cells #[.bool up] 4)).heap.size = w.heap.size + 2 := by simp
  generalize ((w.alloc (.cells #[.pointer (some ⟨G, 0, none⟩)] 64)).alloc (.cells #[.bool up] 4)) = w1 at *
  have Y0 := Lib.hid y0; have Y1 := Lib.hid y1; have HB1 := Lib.hid hb1; have HZ := Lib.hid hsz
  have x0 := y0.cell
  have X0 := Lib.hid x0
  clear y0 y1 hb1 hsz
  refine wpIn_wide.2 ?_
  refine wp_weak (Q := fun e a' w' => e = .normal ∧ ∃ B P PA, MadeS w1 (some ⟨P, 0, none⟩) B w' ∧ Gs w' P PA c r (List.replicate (c * r).toNat none) ∧ w1.heap.size ≤ P ∧ w1.heap.size ≤ PA ∧ B ≠ P ∧ B ≠ PA ∧ a' = { tmps := #[.pointer (some ⟨G, 0, none⟩), .bool up, .pointer (some ⟨w.heap.size, 0, none⟩), .pointer (some ⟨w.heap.size + 1, 0, none⟩), .pointer none, .pointer (some ⟨B, 0, none⟩), undef, undef, .pointer (some ⟨G, 0, none⟩), .int .i64 c, .pointer (some ⟨G, 0, none⟩), .int .i64 r, .pointer (some ⟨P, 0, none⟩), undef, undef, undef, undef, undef, undef, undef, undef, undef, undef, undef, undef, undef, undef, undef, undef, undef, undef, undef, undef, undef, undef, undef, undef, undef, undef, undef, undef, undef, undef, undef], defers := [] }) ?_ ?_
  · go_region_held3 (fun w' => w'.cell? ⟨w.heap.size, 0, none⟩ = some (.pointer (some ⟨G, 0, none⟩)))
      ((refine bl_cell (w := w1) ?_ X0.out; repeat (first | exact Below.refl _ _ | apply up_drew | apply up_alloc | (refine up_trans ?_ hb3) | (refine up_set ?_ (by simp) _))))
      (first
        | (go_at_call 56; (refine Calls.mono (HC.out _ (up_trans HB1.out (by repeat (first | exact Below.refl _ _ | apply up_drew | apply up_alloc)))) ?_); rintro e w2 ⟨rfl, rfl⟩)
        | (go_at_call 57; (refine Calls.mono (HR.out _ (up_trans HB1.out (by repeat (first | exact Below.refl _ _ | apply up_drew | apply up_alloc)))) ?_); rintro e w2 ⟨rfl, rfl⟩)
        | (go_at_call 38; refine (HN.out _).mono ?_; rintro e w3 ⟨rfl, hP, hb3⟩; have hcm := kept_cells hb3; have hfm := kept_marks hb3; have zm := hb3.size; (try simp at zm); (try (have q1 : w1.heap.size < w3.heap.size := by omega)); (try (have q2 : w1.heap.size + 1 < w3.heap.size := by omega))))
    all_goals
      clear hcm hfm
      first
        | (obtain ⟨m1, m2, m3, m4, m5, m6⟩ := madeS_after (w1 := w1) (up_trans (up_drew (Below.refl _ _)) hb3) hP; exact ⟨rfl, _, _, _, m1, m2, m3, m4, m5, m6, rfl⟩)
        | (obtain ⟨m1, m2, m3, m4, m5, m6⟩ := madeS_before (w1 := w1) (v := .pointer none) (up_trans (up_drew (Below.refl _ _)) hb3) hP; exact ⟨rfl, _, _, _, m1, m2, m3, m4, m5, m6, rfl⟩)
  · rintro _ _ w2 ⟨rfl, B, P, PA, hM, hP, hlP, hlA, hn1, hn2, rfl⟩
    rename_i hK
    refine hK _ _ ?_
    clear hK x0 X0
    have y0 : Boxed w2 w.heap.size 64 (.pointer (some ⟨G, 0, none⟩)) := (hM.up.block _ Y0.out.lt).trans Y0.out
    have y1 : Boxed w2 (w.heap.size + 1) 4 (.bool up) := (hM.up.block _ Y1.out.lt).trans Y1.out
    have hb2 : Below w.heap.size w w2 := up_trans HB1.out hM.up
    have hsB : w.heap.size + 2 ≤ B := by have := hM.new; rw [HZ.out] at this; exact this
    have hsP : w.heap.size + 2 ≤ P := by rw [HZ.out] at hlP; exact hlP
    have hsA : w.heap.size + 2 ≤ PA := by rw [HZ.out] at hlA; exact hlA
    have yB := hM.box
    clear Y0 Y1 HB1 HZ HC HR HN hM hlP hlA
    have x0 := y0.cell
    have Y0 := Lib.hid y0; have Y1 := Lib.hid y1; have YB := Lib.hid yB; have HB2 := Lib.hid hb2; have HP := Lib.hid hP
    clear y0 y1 yB hb2 hP
    gi_wp2_with (refine ⟨trivial, ?_⟩; gi_at_call 39; refine (callsIn_wide.2 (shAll_any _ _)).mono ?_; rintro e w4 ⟨rfl, rfl⟩)
    obtain ⟨W0, hW0⟩ : ∃ W0, (w2.alloc (.cells #[.pointer (some ⟨G, 0, none⟩)] 64)) = W0 := ⟨_, rfl⟩
    have up2 : Below w2.heap.size w2 W0 := by rw [← hW0]; exact up_alloc (Below.refl _ _) _
    have upw : Below w.heap.size w W0 := up_trans HB2.out up2
    have y0 : Boxed W0 w.heap.size 64 (.pointer (some ⟨G, 0, none⟩)) := (up2.block _ Y0.out.lt).trans Y0.out
    have y1 : Boxed W0 (w.heap.size + 1) 4 (.bool up) := (up2.block _ Y1.out.lt).trans Y1.out
    have yB : Boxed W0 B 64 (.pointer (some ⟨P, 0, none⟩)) := (up2.block _ YB.out.lt).trans YB.out
    have yG : Boxed W0 w2.heap.size 64 (.pointer (some ⟨G, 0, none⟩)) := by rw [← hW0]; exact Boxed.new w2 _ _
    have gP : Gs W0 P PA c r (foldMs up c r []) := HP.out.up up2
    have gG : Gs W0 G A c r l := HG.out.up upw
    have hsz : W0.heap.size = w2.heap.size + 1 := by rw [← hW0]; simp
    have ltB := YB.out.lt
    have ltP := HP.out.ltG
    have ltA := HP.out.ltA
    have ltG := HG.out.ltG
    rw [hW0]
    clear hW0 x0 Y0 Y1 YB HB2 HP up2
    refine wpIn_rangeFunc_ownH rfl (by decide) (gf := 54) (lb := #[.pointer (some ⟨w2.heap.size, 0, none⟩)]) rfl trivial (enters_of Try.func54 (by kernel_rfl) rfl)
      (shAll_stops 2 (OneS PA) w2.heap.size G A c r l W0 yG.cell gG (fun W' hb b ho => by unfold OneS at ho; omega) (fun V V' _ h => oneS_up _ V V' h)) KeepS.trans (fun W l o o' _ h1 h2 _ => oneS_put _ W l o o' h1 h2) (Below.refl _ _) (fun _ => rfl)
      (fun pre W => (Gs W P PA c r (foldMs up c r pre) ∧ (Boxed W w.heap.size 64 (.pointer (some ⟨G, 0, none⟩)) ∧ (Boxed W (w.heap.size + 1) 4 (.bool up) ∧ (Boxed W B 64 (.pointer (some ⟨P, 0, none⟩)) ∧ Boxed W w2.heap.size 64 (.pointer (some ⟨G, 0, none⟩)))))) ∧ Below w.heap.size w W)
      (fun c pre W => False)
      (OwnFrom.and (OwnFrom.and (Own.from (gs_own _ _ _ _ _) _) (OwnFrom.and (Own.from (boxed_own _ _ _) _) (OwnFrom.and (Own.from (boxed_own _ _ _) _) (OwnFrom.and (Own.from (boxed_own _ _ _) _) (Own.from (boxed_own _ _ _) _))))) (ownFrom_below (Nat.le_refl _) (by omega)))
      (fun c => ownFrom_pure _ (fun _ => False))
      ⟨⟨gP, y0, y1, yB, yG⟩, upw⟩
      (fun x a' W => ∃ Bq, w2.heap.size < Bq ∧ Boxed2 W Bq 78 (.int .i64 x.1.1) (.int .i64 x.1.2) ∧
        a' = { tmps := #[.pointer (some ⟨G, 0, none⟩), .bool up, .pointer (some ⟨w.heap.size, 0, none⟩), .pointer (some ⟨w.heap.size + 1, 0, none⟩), .pointer none, .pointer (some ⟨B, 0, none⟩), .pointer (some ⟨Bq, 0, none⟩), .pointer x.2, .pointer (some ⟨G, 0, none⟩), .int .i64 c, .pointer (some ⟨G, 0, none⟩), .int .i64 r, .pointer (some ⟨P, 0, none⟩), .pointer (some ⟨G, 0, none⟩), .func (.func 54) #[] #[.pointer (some ⟨w2.heap.size, 0, none⟩)], .agg #[.int .i64 x.1.1, .int .i64 x.1.2], .pointer x.2, undef, undef, undef, undef, undef, undef, undef, undef, undef, undef, undef, undef, undef, undef, undef, undef, undef, undef, undef, undef, undef, undef, undef, undef, undef, undef, undef], defers := [] })
      (fun x a' _ X Y row hs hg hr => by obtain ⟨Bx, h1, h2, h4⟩ := hs; exact ⟨Bx, h1, boxed2_own Bx _ _ _ () X Y row h2 hg (fun r e => (hr r e).2), h4⟩)
      ?assign ?body ?done ?stop
    case assign =>
      rintro l0 pre x W K ⟨⟨hg, k0, k1, kB, kG⟩, hB1⟩ hK
      unfold encV
      gi_wp2
      exact hK _ _ ((KeepsOthers.alloc _ _).from _) (oneS_up _ _ _ (up_alloc (Below.refl _ _) _)) ⟨⟨hg.up (up_alloc (Below.refl _ _) _), k0.alloc _, k1.alloc _, kB.alloc _, kG.alloc _⟩, hB1.alloc hB1.size _⟩ ⟨W.heap.size, kG.lt, World.alloc_heap_new W _, rfl⟩
    case body =>
      rintro l0 pre x a' W hl _ ⟨⟨hg, k0, k1, kB, kG⟩, hB1⟩ ⟨Bq, hBq, kQ, rfl⟩ hlen
      obtain ⟨⟨px, py⟩, v⟩ := x
      have gW := HG.out.up hB1
      have e0 := fun u : Later W => u.cell k0.cell
      have e1 := k1.cell
      have g0 := fun u : Later W => u.cell (gW.box.cell 0 rfl)
      have g1 := fun u : Later W => u.cell (gW.box.cell 1 rfl)
      have q0 := fun u : Later W => u.cell kQ.c0
      have q1 := fun u : Later W => u.cell kQ.c1
      have qf := fun (u : Later W) (j : Nat) => (kept_marks u.up Bq j (Array.getElem?_eq_some_iff.1 kQ).1).trans (kQ.free j)
      clear gW
      simp only at q0 q1
      have HS := Lib.hid (foldMs_snoc up c r pre ((px, py), v))
      cases up
      · obtain ⟨d, hd⟩ : ∃ d, wrap64 (r - 1 - py) = d := ⟨_, rfl⟩
        have hs : foldMs false c r (pre ++ [((px, py), v)]) = setS c r (foldMs false c r pre) px d v := by rw [HS.out, ← hd]; rfl
        have HT := Lib.hid hs; have HG2 := Lib.hid hg; have HQ := Lib.hid qf
        clear hs hg HS
        gi_wp2
        refine later_start (w := W) ?_
        intro u
        refine round_tail 9 (by kernel_rfl) (by kernel_rfl) (by kernel_rfl) ?_ ?_
        · rintro ⟨a, w, h⟩
          exact h
        · simp only [List.take_succ_cons, List.take_zero, List.drop_succ_cons, List.drop_zero]
          repeat (go_big_quiet_step (fail))
          refine wpQuiet_nil ?_
          rintro _ ⟨u2, rfl⟩
          rw [hd]
          have f0 := qf u2 1; have z0 := q1 u2
          have hgr : W.grownBy (u2.now.setCell ⟨Bq, 1, none⟩ (.int .i64 d)) (some Bq) := grown_of_below u2.up Bq 1 _
          have c0 : (u2.now.setCell ⟨Bq, 1, none⟩ (.int .i64 d)).cell? ⟨Bq, 1, none⟩ = some (.int .i64 d) := World.cell?_setCell_same _ _ _ (q1 u2)
          have c1 : (u2.now.setCell ⟨Bq, 1, none⟩ (.int .i64 d)).cell? ⟨Bq, 0, none⟩ = some (.int .i64 px) := (World.cell?_setCell_other _ _ _ _ (by simp)).trans (q0 u2)
          clear e0 g0 g1 q0 q1 qf e1
          go_wp2
          clear z0 f0
          generalize u2.now.setCell ⟨Bq, 1, none⟩ (.int .i64 d) = W1 at *
          have hg1 := HG2.out.kept hgr (by simp; omega) (by simp; omega)
          have kB1 := kB.kept hgr (by simp; omega)
          have cB := kB1.cell
          have HG3 := Lib.hid hg1; have HR1 := Lib.hid hgr
          clear hg1 hgr
          gi_wp2_with (refine ⟨trivial, ?_⟩; gi_at_call 40; refine (CallsIn.inRound l0 (callsIn_wide.2 (shSet_any HG3.out _ _ _))).mono ?_; rintro e W2 ⟨rfl, hg2, hgr2⟩)
          have hgr := HR1.out
          refine ⟨((KeepsOthers.of_grownBy hgr fun j o ej hj => ?_).trans (KeepsOthers.of_grownBy hgr2 fun j o ej hj => ?_)).from _, (keepS_other (by decide) kQ hgr).trans (oneS_grown _ hgr2), ⟨⟨?_, (k0.kept hgr (by simp; omega)).kept hgr2 (by simp; omega), (k1.kept hgr (by simp; omega)).kept hgr2 (by simp; omega), kB1.kept hgr2 (by simp; omega), (kG.kept hgr (by simp; omega)).kept hgr2 (by simp; omega)⟩, (hB1.grown hgr hB1.size (fun k e => by cases e; omega)).grown hgr2 (by have := hB1.size; have := hgr.size; omega) (fun k e => by cases e; omega)⟩⟩
          · cases ej
            rw [show W.heap[Bq]? = _ from kQ] at hj
            cases hj
            rfl
          · cases ej
            exact HG3.out.isCells hj
          · rw [HT.out]
            exact hg2
      · obtain ⟨d, hd⟩ : ∃ d, wrap64 (c - 1 - px) = d := ⟨_, rfl⟩
        have hs : foldMs true c r (pre ++ [((px, py), v)]) = setS c r (foldMs true c r pre) d py v := by rw [HS.out, ← hd]; rfl
        have HT := Lib.hid hs; have HG2 := Lib.hid hg; have HQ := Lib.hid qf
        clear hs hg HS
        gi_wp2
        refine later_start (w := W) ?_
        intro u
        refine round_tail 9 (by kernel_rfl) (by kernel_rfl) (by kernel_rfl) ?_ ?_
        · rintro ⟨a, w, h⟩
          exact h
        · simp only [List.take_succ_cons, List.take_zero, List.drop_succ_cons, List.drop_zero]
          repeat (go_big_quiet_step (fail))
          refine wpQuiet_nil ?_
          rintro _ ⟨u2, rfl⟩
          rw [hd]
          have f0 := qf u2 0; have z0 := q0 u2
          have hgr : W.grownBy (u2.now.setCell ⟨Bq, 0, none⟩ (.int .i64 d)) (some Bq) := grown_of_below u2.up Bq 0 _
          have c0 : (u2.now.setCell ⟨Bq, 0, none⟩ (.int .i64 d)).cell? ⟨Bq, 0, none⟩ = some (.int .i64 d) := World.cell?_setCell_same _ _ _ (q0 u2)
          have c1 : (u2.now.setCell ⟨Bq, 0, none⟩ (.int .i64 d)).cell? ⟨Bq, 1, none⟩ = some (.int .i64 py) := (World.cell?_setCell_other _ _ _ _ (by simp)).trans (q1 u2)
          clear e0 g0 g1 q0 q1 qf e1
          go_wp2
          clear z0 f0
          generalize u2.now.setCell ⟨Bq, 0, none⟩ (.int .i64 d) = W1 at *
          have hg1 := HG2.out.kept hgr (by simp; omega) (by simp; omega)
          have kB1 := kB.kept hgr (by simp; omega)
          have cB := kB1.cell
          have HG3 := Lib.hid hg1; have HR1 := Lib.hid hgr
          clear hg1 hgr
          gi_wp2_with (refine ⟨trivial, ?_⟩; gi_at_call 40; refine (CallsIn.inRound l0 (callsIn_wide.2 (shSet_any HG3.out _ _ _))).mono ?_; rintro e W2 ⟨rfl, hg2, hgr2⟩)
          have hgr := HR1.out
          refine ⟨((KeepsOthers.of_grownBy hgr fun j o ej hj => ?_).trans (KeepsOthers.of_grownBy hgr2 fun j o ej hj => ?_)).from _, (keepS_other (by decide) kQ hgr).trans (oneS_grown _ hgr2), ⟨⟨?_, (k0.kept hgr (by simp; omega)).kept hgr2 (by simp; omega), (k1.kept hgr (by simp; omega)).kept hgr2 (by simp; omega), kB1.kept hgr2 (by simp; omega), (kG.kept hgr (by simp; omega)).kept hgr2 (by simp; omega)⟩, (hB1.grown hgr hB1.size (fun k e => by cases e; omega)).grown hgr2 (by have := hB1.size; have := hgr.size; omega) (fun k e => by cases e; omega)⟩⟩
          · cases ej
            rw [show W.heap[Bq]? = _ from kQ] at hj
            cases hj
            rfl
          · cases ej
            exact HG3.out.isCells hj
          · rw [HT.out]
            exact hg2
    case done =>
      rintro D ys W hD rfl ⟨⟨hg, k0, k1, kB, kG⟩, hB1⟩ hK
      have hc := kB.cell
      gi_wp2
      refine ⟨by simp, .inl ⟨_, _, rfl, run_takeDeferred hK, ?_⟩⟩
      exact ⟨_, results_tmp rfl _ _ _, _, PA, rfl, hg.put hK rfl, by omega, by omega, hB1.trans (belowK_b (w := w) (Nat.le_refl _) W D _ _ (by omega) hK rfl rfl)⟩
    case stop =>
      rintro D c pre W hD hpre h hK
      exact h.elim

end Go.Proofs.Ytffnngmiaihkeaa
/- Plain facts of lists: what is laid place by place into a part, or into a mirrored grid, stands where the document says. -/
namespace Go.Proofs.Ytffnngmiaihkeaa
open Go.RowKit
set_option linter.unusedVariables false

def wantPs (c col row pc pr : Int) (l : List Ptr) : List Ptr := (List.range (pc * pr).toNat).map fun k => l[(srcP c col row pc k).toNat]?.getD none
theorem part_eqS (c r col row pc pr : Int) (l : List Ptr) (hl : (l.length : Int) = c * r) (hc : 1 ≤ c) (hc64 : c ≤ 64) (hr64 : r ≤ 64) (h0 : 0 ≤ col) (h1 : col + pc ≤ c) (h2 : 0 ≤ row) (h3 : row + pr ≤ r) (hp : 1 ≤ pc) (hq : 1 ≤ pr) :
    foldPs pc pr col row (ptS c l l.length) = wantPs c col row pc pr l := by
  have hm : 0 ≤ pc * pr := Int.mul_nonneg (by omega) (by omega)
  unfold foldPs ptS wantPs
  rw [List.foldl_map]
  refine fold_sets none l l.length (pc * pr).toNat _ (fun k => if hasB pc pr (wrap64 ((k : Int).tmod c - col)) (wrap64 ((k : Int).tdiv c - row)) = true then some (at1 pc (wrap64 ((k : Int).tmod c - col)) (wrap64 ((k : Int).tdiv c - row))) else none) (fun k => (srcP c col row pc k).toNat) ?_ ?_ ?_
  · intro L k
    simp only [stepPs, setS]
    split <;> rfl
  · intro k j hk hj
    obtain ⟨x, y, e1, e2, b0, b1, b2, b3, b4⟩ := split_place k c r hc (by omega)
    obtain ⟨x', y', f1, f2, d0, d1, d2, d3, d4⟩ := split_place j pc pr hp (by omega)
    have hsr := srcP_lt (c := c) (r := r) (col := col) (row := row) (pc := pc) (pr := pr) hc h0 h1 h2 h3 hp j (by omega)
    rw [e1, e2, IntWalk.wrap64_in (x - col) (by omega), IntWalk.wrap64_in (y - row) (by omega)]
    have hsv : srcP c col row pc j = (row + y') * c + (col + x') := by unfold srcP; rw [f1, f2, Int.add_assoc]
    constructor
    · intro h
      split at h
      · rename_i hh
        have hat := at1_lt hh
        simp [hasB] at hh
        obtain ⟨⟨g1, g2⟩, g3, g4⟩ := hh
        injection h with h
        unfold at1 at h
        have hj2 : (j : Int) = (y - row) * pc + (x - col) := by omega
        obtain ⟨t1, t2⟩ := td (y - row) (x - col) pc (by omega) (by omega) (by omega)
        rw [← hj2, f1] at t2
        rw [← hj2, f2] at t1
        have : srcP c col row pc j = k := by
          rw [hsv, t1, t2, ← b4]
          congr 1
          · congr 1; omega
          · omega
        omega
      · cases h
    · intro h
      have hk2 : (row + y') * c + (col + x') = (k : Int) := by rw [← hsv]; omega
      obtain ⟨t1, t2⟩ := td (row + y') (col + x') c (by omega) (by omega) (by omega)
      rw [hk2, e2] at t1
      rw [hk2, e1] at t2
      have e3 : x - col = x' := by omega
      have e4 : y - row = y' := by omega
      rw [e3, e4, if_pos (by simp [hasB]; omega)]
      unfold at1
      rw [d4]
      simp
  · intro j hj
    have hsr := srcP_lt (c := c) (r := r) (col := col) (row := row) (pc := pc) (pr := pr) hc h0 h1 h2 h3 hp j (by omega)
    omega

def wantMs (up : Bool) (c r : Int) (l : List Ptr) : List Ptr := (List.range (c * r).toNat).map fun k => l[(srcM up c r k).toNat]?.getD none
theorem mirror_eqS (up : Bool) (c r : Int) (l : List Ptr) (hl : (l.length : Int) = c * r) (hc : 1 ≤ c) (hc64 : c ≤ 64) (hr64 : r ≤ 64) (hr : 1 ≤ r) :
    foldMs up c r (ptS c l l.length) = wantMs up c r l := by
  have hm : 0 ≤ c * r := Int.mul_nonneg (by omega) (by omega)
  have hlm : l.length = (c * r).toNat := by omega
  unfold foldMs ptS wantMs
  rw [List.foldl_map]
  have hk : ∀ k : Nat, k < l.length → (if up = true then (if hasB c r (wrap64 (c - 1 - (k : Int).tmod c)) ((k : Int).tdiv c) = true then some (at1 c (wrap64 (c - 1 - (k : Int).tmod c)) ((k : Int).tdiv c)) else none) else (if hasB c r ((k : Int).tmod c) (wrap64 (r - 1 - (k : Int).tdiv c)) = true then some (at1 c ((k : Int).tmod c) (wrap64 (r - 1 - (k : Int).tdiv c))) else none)) = some (srcM up c r k).toNat := by
    intro k hk
    obtain ⟨x, y, e1, e2, b0, b1, b2, b3, b4⟩ := split_place k c r hc (by omega)
    rw [e1, e2, IntWalk.wrap64_in (c - 1 - x) (by omega), IntWalk.wrap64_in (r - 1 - y) (by omega)]
    cases up
    · rw [if_neg (by simp), if_pos (by simp [hasB]; omega)]
      simp [srcM, at1, e1, e2]
    · rw [if_pos rfl, if_pos (by simp [hasB]; omega)]
      simp [srcM, at1, e1, e2]
  refine fold_sets none l l.length (c * r).toNat _ (fun k => if up = true then (if hasB c r (wrap64 (c - 1 - (k : Int).tmod c)) ((k : Int).tdiv c) = true then some (at1 c (wrap64 (c - 1 - (k : Int).tmod c)) ((k : Int).tdiv c)) else none) else (if hasB c r ((k : Int).tmod c) (wrap64 (r - 1 - (k : Int).tdiv c)) = true then some (at1 c ((k : Int).tmod c) (wrap64 (r - 1 - (k : Int).tdiv c))) else none)) (fun k => (srcM up c r k).toNat) ?_ ?_ ?_
  · intro L k
    cases up
    · simp only [stepMs, setS, Bool.false_eq_true, if_false]
      split <;> rfl
    · simp only [stepMs, setS, if_true]
      split <;> rfl
  · intro k j hkl hj
    have e := hk k hkl
    constructor
    · intro h
      rw [e] at h
      injection h with h
      rw [← h]
      exact srcM_twice up hc k (by omega)
    · intro h
      rw [e, ← h]
      rw [srcM_twice up hc j (by omega)]
  · intro j hj
    have := srcM_lt up (c := c) (r := r) hc j (by omega)
    omega

theorem wantMs_length (up : Bool) (c r : Int) (l : List Ptr) : (wantMs up c r l).length = (c * r).toNat := by simp [wantMs]
theorem wantPs_length (c col row pc pr : Int) (l : List Ptr) : (wantPs c col row pc pr l).length = (pc * pr).toNat := by simp [wantPs]
end Go.Proofs.Ytffnngmiaihkeaa
/- What num.In answers, for every three ints. -/
namespace Go.Proofs.Ytffnngmiaihkeaa
open Go.RowKit

theorem in_any (n lo hi : Int) (w : World) :
    Calls Try.prog 17 #[.int .i64 n, .int .i64 lo, .int .i64 hi] w fun e w' => e = .returned (.bool (decide (lo ≤ n) && decide (n ≤ hi))) ∧ w = w' := by
  by_cases h1 : lo ≤ n <;> by_cases h2 : n ≤ hi
  all_goals
    go_enter Try.func17, Try.ntmps17
    go_wp2
    go_ret
    exact ⟨by simp [h1, h2], rfl⟩
end Go.Proofs.Ytffnngmiaihkeaa
/- What the small calls of package step answer, and After: for every step and every number of columns and rows. -/
namespace Go.Proofs.Ytffnngmiaihkeaa
open Go.RowKit
set_option linter.unusedVariables false

/-- May the step of this side and this number be? -/
def rightB (d n : Int) : Bool := (decide (1 ≤ d) && decide (d ≤ 4)) && (decide (1 ≤ n) && decide (n ≤ 64))
theorem rightB_true {d n : Int} (h : rightB d n = true) : (1 ≤ d ∧ d ≤ 4) ∧ 1 ≤ n ∧ n ≤ 64 := by simpa [rightB] using h

theorem stepRight_any (d n : Int) (u : Bool) (w : World) :
    Calls Try.prog 61 #[.agg #[.int .i64 d, .int .i64 n, .bool u]] w fun e w' => e = .returned (.bool (rightB d n)) ∧ Below w.heap.size w w' := by
  have K1 := fun w => in_any d 1 4 w
  have K2 := fun w => in_any n 1 64 w
  unfold rightB
  generalize (decide (1 ≤ d) && decide (d ≤ 4)) = a at *
  generalize (decide (1 ≤ n) && decide (n ≤ 64)) = b at *
  have H1 := Lib.hid K1; have H2 := Lib.hid K2
  clear K1 K2
  cases a
  all_goals
    go_enter Try.func61, Try.ntmps61
    go_wp2_with (first
      | (go_at_call 17; with_reducible refine (H1.out _).mono ?_; rintro e w' ⟨rfl, rfl⟩)
      | (go_at_call 17; with_reducible refine (H2.out _).mono ?_; rintro e w' ⟨rfl, rfl⟩))
    go_ret
    exact ⟨by simp, up_alloc (Below.refl _ _) _⟩

theorem refRight_any (d n : Int) (u : Bool) (w : World) :
    Calls Try.prog 29 #[.agg #[.int .i64 d, .int .i64 n, .bool u]] w fun e w' => e = .returned (.bool (rightB d n)) ∧ Below w.heap.size w w' := by
  have K1 := fun w => refIn_any d 1 4 w
  have K2 := fun w => refIn_any n 1 64 w
  unfold inB at K1 K2
  unfold rightB
  generalize (decide (1 ≤ d) && decide (d ≤ 4)) = a at *
  generalize (decide (1 ≤ n) && decide (n ≤ 64)) = b at *
  have H1 := Lib.hid K1; have H2 := Lib.hid K2
  clear K1 K2
  cases a
  all_goals
    go_enter Try.func29, Try.ntmps29
    go_wp2_with (first
      | (go_at_call 14; with_reducible refine (H1.out _).mono ?_; rintro e w' ⟨rfl, rfl⟩)
      | (go_at_call 14; with_reducible refine (H2.out _).mono ?_; rintro e w' ⟨rfl, rfl⟩))
    go_ret
    exact ⟨by simp, up_alloc (Below.refl _ _) _⟩

theorem stepThere_any (c r : Int) (w : World) :
    Calls Try.prog 51 #[.int .i64 c, .int .i64 r] w fun e w' => e = .returned (.bool (decide (1 ≤ c) && decide (1 ≤ r))) ∧ w' = w := by
  by_cases h1 : 1 ≤ c <;> by_cases h2 : 1 ≤ r
  all_goals
    go_enter Try.func51, Try.ntmps51
    go_wp2
    go_ret
    exact ⟨by simp [h1, h2], rfl⟩

/-- How many columns and rows there are behind a step, and whether it can be done. -/
def aft (c r d n : Int) : Int × Int × Bool :=
  if (1 ≤ c ∧ 1 ≤ r) ∧ rightB d n = true then
    if d ≤ 2 then (if 2 * n ≤ c then (c - n, r, true) else (0, 0, false))
    else (if 2 * n ≤ r then (c, r - n, true) else (0, 0, false))
  else (0, 0, false)
theorem aft_yes {c r d n : Int} (h : (aft c r d n).2.2 = true) : ((1 ≤ c ∧ 1 ≤ r) ∧ (1 ≤ d ∧ d ≤ 4) ∧ 1 ≤ n ∧ n ≤ 64) ∧ ((d ≤ 2 ∧ 2 * n ≤ c ∧ aft c r d n = (c - n, r, true)) ∨ (2 < d ∧ 2 * n ≤ r ∧ aft c r d n = (c, r - n, true))) := by
  unfold aft at h ⊢
  split at h
  · rename_i hr
    refine ⟨⟨hr.1, rightB_true hr.2⟩, ?_⟩
    rw [if_pos hr]
    split at h
    · rename_i hd
      rw [if_pos hd]
      split at h
      · rename_i hn; left; exact ⟨hd, hn, if_pos hn⟩
      · cases h
    · rename_i hd
      rw [if_neg hd]
      split at h
      · rename_i hn; right; exact ⟨by omega, hn, if_pos hn⟩
      · cases h
  · cases h
theorem aft_no {c r d n : Int} (h : (aft c r d n).2.2 = false) : aft c r d n = (0, 0, false) := by
  unfold aft at h ⊢
  split at h
  · rename_i hr
    rw [if_pos hr]
    split at h
    · rename_i hd
      rw [if_pos hd]
      split at h
      · cases h
      · rename_i hn; rw [if_neg hn]
    · rename_i hd
      rw [if_neg hd]
      split at h
      · cases h
      · rename_i hn; rw [if_neg hn]
  · rename_i hr; rw [if_neg hr]

theorem ret3 {p : Int × Int × Bool} {a b : Int} {c : Bool} (h : p = (a, b, c)) : Ending.returned (.tuple #[.int .i64 a, .int .i64 b, .bool c]) = .returned (.tuple #[.int .i64 p.1, .int .i64 p.2.1, .bool p.2.2]) := by rw [h]

/-- There are no panels, or the step is not right. -/
theorem stepAfter_bad (c r d n : Int) (u t g : Bool) (w : World) (htg : t = false ∨ g = false)
    (KT : ∀ w, Calls Try.prog 51 #[.int .i64 c, .int .i64 r] w fun e w' => e = .returned (.bool t) ∧ w' = w)
    (KR : ∀ w, Calls Try.prog 61 #[.agg #[.int .i64 d, .int .i64 n, .bool u]] w fun e w' => e = .returned (.bool g) ∧ Below w.heap.size w w') :
    Calls Try.prog 52 #[.int .i64 c, .int .i64 r, .agg #[.int .i64 d, .int .i64 n, .bool u]] w fun e w' => e = .returned (.tuple #[.int .i64 0, .int .i64 0, .bool false]) ∧ Below w.heap.size w w' := by
  have HT := Lib.hid KT; have HR := Lib.hid KR
  clear KT KR
  cases t
  · clear htg
    go_enter Try.func52, Try.ntmps52
    go_wp2_with fail
    refine (HT.out _).mono ?_
    rintro e w1 ⟨rfl, rfl⟩
    go_wp2
    refine bodyPost_ret (v := .tuple #[.int .i64 0, .int .i64 0, .bool false]) (by simp [results, Try.results52, go_sem]) rfl ⟨rfl, up_alloc (Below.refl _ _) _⟩
  · obtain rfl : g = false := by simpa using htg
    clear htg
    go_enter Try.func52, Try.ntmps52
    go_wp2_with fail
    refine (HT.out _).mono ?_
    rintro e w1 ⟨rfl, rfl⟩
    go_wp2_with fail
    refine (HR.out _).mono ?_
    rintro e w2 ⟨rfl, hb⟩
    go_wp2
    refine bodyPost_ret (v := .tuple #[.int .i64 0, .int .i64 0, .bool false]) (by simp [results, Try.results52, go_sem]) rfl ⟨rfl, up_trans (up_alloc (Below.refl _ _) _) hb⟩

set_option maxHeartbeats 1000000 in
theorem stepAfter_side (c r d n : Int) (u : Bool) (w : World) (c0 : 1 ≤ c) (c1 : c ≤ 9223372036854775807) (r0 : 1 ≤ r) (r1 : r ≤ 9223372036854775807) (n0 : 1 ≤ n) (n1 : n ≤ 64) (hd : d = 1 ∨ d = 2)
    (KT : ∀ w, Calls Try.prog 51 #[.int .i64 c, .int .i64 r] w fun e w' => e = .returned (.bool true) ∧ w' = w)
    (KR : ∀ w, Calls Try.prog 61 #[.agg #[.int .i64 d, .int .i64 n, .bool u]] w fun e w' => e = .returned (.bool true) ∧ Below w.heap.size w w') (F : Int × Int × Bool) (hF : (if 2 * n ≤ c then (c - n, r, true) else (0, 0, false)) = F) :
    Calls Try.prog 52 #[.int .i64 c, .int .i64 r, .agg #[.int .i64 d, .int .i64 n, .bool u]] w fun e w' => e = .returned (.tuple #[.int .i64 F.1, .int .i64 F.2.1, .bool F.2.2]) ∧ Below w.heap.size w w' := by
  have HT := Lib.hid KT; have HR := Lib.hid KR; have HF := Lib.hid hF
  clear KT KR hF
  rcases hd with rfl | rfl
  all_goals
    go_enter Try.func52, Try.ntmps52
    go_wp2_with fail
    refine (HT.out _).mono ?_
    rintro e w1 ⟨rfl, rfl⟩
    go_wp2_with fail
    refine (HR.out _).mono ?_
    rintro e w2 ⟨rfl, hb⟩
    have A := (Bx.new w 35 [_, .int .i64 n, .bool u]).up hb
    have a0 := A.cell 0 rfl; have a1 := A.cell 1 rfl
    have B1 := Lib.hid (up_trans (up_alloc (Below.refl _ w) _) hb)
    clear hb A
    by_cases h : 2 * n ≤ c
    · go_wp2
      exact bodyPost_ret (v := .tuple #[.int .i64 (c - n), .int .i64 r, .bool true]) (by simp [results, Try.results52, go_sem]) rfl ⟨ret3 (by rw [← HF.out, if_pos (by omega)]), B1.out⟩
    · go_wp2
      exact bodyPost_ret (v := .tuple #[.int .i64 0, .int .i64 0, .bool false]) (by simp [results, Try.results52, go_sem]) rfl ⟨ret3 (by rw [← HF.out, if_neg (by omega)]), B1.out⟩

set_option maxHeartbeats 1000000 in
theorem stepAfter_foot (c r d n : Int) (u : Bool) (w : World) (c0 : 1 ≤ c) (c1 : c ≤ 9223372036854775807) (r0 : 1 ≤ r) (r1 : r ≤ 9223372036854775807) (n0 : 1 ≤ n) (n1 : n ≤ 64) (hd : d = 3 ∨ d = 4)
    (KT : ∀ w, Calls Try.prog 51 #[.int .i64 c, .int .i64 r] w fun e w' => e = .returned (.bool true) ∧ w' = w)
    (KR : ∀ w, Calls Try.prog 61 #[.agg #[.int .i64 d, .int .i64 n, .bool u]] w fun e w' => e = .returned (.bool true) ∧ Below w.heap.size w w') (F : Int × Int × Bool) (hF : (if 2 * n ≤ r then (c, r - n, true) else (0, 0, false)) = F) :
    Calls Try.prog 52 #[.int .i64 c, .int .i64 r, .agg #[.int .i64 d, .int .i64 n, .bool u]] w fun e w' => e = .returned (.tuple #[.int .i64 F.1, .int .i64 F.2.1, .bool F.2.2]) ∧ Below w.heap.size w w' := by
  have HT := Lib.hid KT; have HR := Lib.hid KR; have HF := Lib.hid hF
  clear KT KR hF
  rcases hd with rfl | rfl
  all_goals
    go_enter Try.func52, Try.ntmps52
    go_wp2_with fail
    refine (HT.out _).mono ?_
    rintro e w1 ⟨rfl, rfl⟩
    go_wp2_with fail
    refine (HR.out _).mono ?_
    rintro e w2 ⟨rfl, hb⟩
    have A := (Bx.new w 35 [_, .int .i64 n, .bool u]).up hb
    have a0 := A.cell 0 rfl; have a1 := A.cell 1 rfl
    have B1 := Lib.hid (up_trans (up_alloc (Below.refl _ w) _) hb)
    clear hb A
    by_cases h : 2 * n ≤ r
    · go_wp2
      go_region
      all_goals
        go_wp2
        go_ret3
        exact ⟨ret3 (by rw [← HF.out, if_pos (by omega)]), by have := B1.out; repeat (first | (with_reducible exact this) | (with_reducible apply up_drew))⟩
    · go_wp2
      exact bodyPost_ret (v := .tuple #[.int .i64 0, .int .i64 0, .bool false]) (by simp [results, Try.results52, go_sem]) rfl ⟨ret3 (by rw [← HF.out, if_neg (by omega)]), B1.out⟩

theorem stepAfter_any (c r d n : Int) (u : Bool) (w : World) (c1 : c ≤ 9223372036854775807) (r1 : r ≤ 9223372036854775807) :
    Calls Try.prog 52 #[.int .i64 c, .int .i64 r, .agg #[.int .i64 d, .int .i64 n, .bool u]] w fun e w' => e = .returned (.tuple #[.int .i64 (aft c r d n).1, .int .i64 (aft c r d n).2.1, .bool (aft c r d n).2.2]) ∧ Below w.heap.size w w' := by
  have KT := fun w => stepThere_any c r w
  have KR := fun w => stepRight_any d n u w
  by_cases h : (1 ≤ c ∧ 1 ≤ r) ∧ rightB d n = true
  · have hr := rightB_true h.2
    rw [show (decide (1 ≤ c) && decide (1 ≤ r)) = true by simp [h.1]] at KT
    rw [h.2] at KR
    by_cases hd : d ≤ 2
    · exact stepAfter_side c r d n u w h.1.1 c1 h.1.2 r1 hr.2.1 hr.2.2 (by omega) KT KR _ (by unfold aft; rw [if_pos h, if_pos hd])
    · exact stepAfter_foot c r d n u w h.1.1 c1 h.1.2 r1 hr.2.1 hr.2.2 (by omega) KT KR _ (by unfold aft; rw [if_pos h, if_neg hd])
  · rw [show aft c r d n = (0, 0, false) by unfold aft; rw [if_neg h]]
    refine stepAfter_bad c r d n u _ _ w ?_ KT KR
    by_cases hg : rightB d n = true
    · left
      have h2 : ¬ (1 ≤ c ∧ 1 ≤ r) := fun h2 => h ⟨h2, hg⟩
      simp; omega
    · right; simpa using hg
end Go.Proofs.Ytffnngmiaihkeaa
/- A step, as plain data. -/
namespace Go.Proofs.Ytffnngmiaihkeaa
/-- A step. -/
structure Sp where
  d : Int
  n : Int
  u : Bool
deriving DecidableEq
end Go.Proofs.Ytffnngmiaihkeaa
