/- What grid.Part answers: a grid of its own with what stands there, or nil. -/
import Derived.Test.YtnofncibplgmpaaSheetSeq
namespace Go.Proofs.Ytnofncibplgmpaa
open Go.RowKit Go.Shelf
set_option linter.unusedVariables false
attribute [local go_sem] Oper.semAt_some

theorem gs_own {β : Type} (G A : Nat) (c r : Int) (f : β → List Ptr) : Own (fun s W => Gs W G A c r (f s)) := by
  rintro s X Y row h hg hr
  have k1 : some G ≠ row := fun e => by
    obtain ⟨o, ho, hc⟩ := hr G e.symm
    obtain ⟨o', ho', hc'⟩ := cells_of_cell (h.box.cell 0 rfl)
    rw [show X.heap[G]? = some o' from ho'] at ho; cases ho; rw [hc'] at hc; cases hc
  have k2 : some A ≠ row := fun e => by
    obtain ⟨o, ho, hc⟩ := hr A e.symm
    obtain ⟨x, hx⟩ : ∃ x, (f s)[0]? = some x := ⟨(f s)[0]'h.pos, List.getElem?_eq_getElem _⟩
    obtain ⟨o', ho', hc'⟩ := cells_of_cell (h.cell 0 x hx)
    rw [show X.heap[A]? = some o' from ho'] at ho; cases ho; rw [hc'] at hc; cases hc
  exact h.kept hg k1 k2

theorem Gs.put {W : World} {G A : Nat} {c r : Int} {l : List Ptr} (h : Gs W G A c r l) {D : Nat} {o o' : Obj} (hD : W.heap[D]? = some o) (ho : o.isCells = false) : Gs (W.putObj D o') G A c r l :=
  gs_own G A c r (fun _ : Unit => l) () W _ (some D) h (grownBy_putObj' W D o') (fun r e => by cases e; exact ⟨o, hD, ho⟩)
theorem Gs.isCells {W : World} {G A : Nat} {c r : Int} {l : List Ptr} (h : Gs W G A c r l) {o : Obj} (ho : W.heap[A]? = some o) : o.isCells = true := by
  obtain ⟨x, hx⟩ : ∃ x, l[0]? = some x := ⟨l[0]'h.pos, List.getElem?_eq_getElem _⟩
  obtain ⟨o', ho', hc'⟩ := cells_of_cell (h.cell 0 x hx)
  rw [show W.heap[A]? = some o' from ho'] at ho
  cases ho
  exact hc'

/-- The body's own list: one block. -/
def OneS (A : Nat) (_ : World) (b : Nat) : Prop := b = A
theorem oneS_up (A : Nat) (V V' : World) (h : Below V.heap.size V V') : KeepS (OneS A) V V' := ⟨h.size, fun b _ ho => ho, fun b cur fr _ hc => (h.block b (Array.getElem?_eq_some_iff.1 hc).1).trans hc⟩
theorem oneS_put (A : Nat) (W : World) (l : Nat) (o o' : Obj) (hl : W.heap[l]? = some o) (hc : o.isCells = false) : KeepS (OneS A) W (W.putObj l o') :=
  ⟨by simp, fun b _ ho => ho, fun b cur fr _ hb => by
    have hne : b ≠ l := fun e => by rw [e, hl] at hb; cases hb; cases hc
    exact ((grownBy_putObj' W l o').block b (Array.getElem?_eq_some_iff.1 hb).1 (fun e => hne (by injection e))).trans hb⟩
theorem oneS_grown (A : Nat) {W W' : World} (h : W.grownBy W' (some A)) : KeepS (OneS A) W W' :=
  ⟨h.size, fun b _ ho => ho, fun b cur fr hn hb => (h.block b (Array.getElem?_eq_some_iff.1 hb).1 (fun e => hn (by injection e))).trans hb⟩

/-- A thing is laid where it stands in the part. -/
def stepPs (pc pr col row : Int) (L : List Ptr) (x : (Int × Int) × Ptr) : List Ptr := setS pc pr L (wrap64 (x.1.1 - col)) (wrap64 (x.1.2 - row)) x.2
def foldPs (pc pr col row : Int) (xs : List ((Int × Int) × Ptr)) : List Ptr := xs.foldl (stepPs pc pr col row) (List.replicate (pc * pr).toNat none)
theorem foldPs_snoc (pc pr col row : Int) (xs : List ((Int × Int) × Ptr)) (x : (Int × Int) × Ptr) : foldPs pc pr col row (xs ++ [x]) = setS pc pr (foldPs pc pr col row xs) (wrap64 (x.1.1 - col)) (wrap64 (x.1.2 - row)) x.2 := by simp [foldPs, stepPs]

set_option maxRecDepth 100000 in
set_option maxHeartbeats 4000000 in
theorem shPart_yes {w : World} {G A : Nat} {c r : Int} {l : List Ptr} (h : Gs w G A c r l) (col row pc pr : Int) (h1 : fitB col pc c = true) (h2 : fitB row pr r = true) :
    Calls Try.prog 53 #[.pointer (some ⟨G, 0, none⟩), .int .i64 col, .int .i64 row, .int .i64 pc, .int .i64 pr] w fun e w' => ∃ P PA, e = .returned (.pointer (some ⟨P, 0, none⟩)) ∧ Gs w' P PA pc pr (foldPs pc pr col row (ptS c l l.length)) ∧ w.heap.size ≤ P ∧ w.heap.size ≤ PA ∧ Below w.heap.size w w' := by
  obtain ⟨i1, f0, f1⟩ := fit_in h1 h.c64
  obtain ⟨i2, g0, g1⟩ := fit_in h2 h.r64
  have b1 : pc ≤ 64 := by have := h.c64; omega
  have b2 : pr ≤ 64 := by have := h.r64; omega
  have KF1 := fun w => calls_b (fits_any col pc c (by have := h.c1; omega) h.c64 (by omega) w)
  have KF2 := fun w => calls_b (fits_any row pr r (by have := h.r1; omega) h.r64 (by omega) w)
  rw [h1] at KF1
  rw [h2] at KF2
  have KN := fun w => shNew_yes pc pr i1 i2 w
  have KC := fun (w' : World) (hb : Below w.heap.size w w') => calls_b (shCols_any (h.up hb))
  have KR := fun (w' : World) (hb : Below w.heap.size w w') => calls_b (shRows_any (h.up hb))
  have HF1 := Lib.hid KF1; have HF2 := Lib.hid KF2; have HN := Lib.hid KN; have HC := Lib.hid KC; have HR := Lib.hid KR; have HG := Lib.hid h
  clear KF1 KF2 KN KC KR h i1 i2 h1 h2
  refine (callsIn_wide (n := 3)).1 ?_
  refine callsIn_of_wp_marks Try.func53 rfl trivial ?_ rfl
  simp only [Try.ntmps53, List.size_toArray, List.length_cons, List.length_nil, Nat.reduceAdd, Nat.reduceSub, Array.replicate_succ, Array.replicate_zero, List.push_toArray, List.append_toArray, List.nil_append, List.cons_append]
  gi_wp2
  have x0 := ((Bx.new w 3 [.int .i64 col]).alloc (.cells #[.int .i64 row] 3)).cell 0 rfl
  have x1 := (Bx.new (w.alloc (.cells #[.int .i64 col] 3)) 3 [.int .i64 row]).cell 0 rfl
  have hb1 : Below w.heap.size w ((w.alloc (.cells #[.int .i64 col] 3)).alloc (.cells #[.int .i64 row] 3)) := up_alloc (up_alloc (Below.refl _ _) _) _
  simp only [World.size_alloc] at x1
  have y0 := Boxed.alloc (Boxed.new w 3 (.int .i64 col)) (.cells #[.int .i64 row] 3)
  have y1 := Boxed.new (w.alloc (.cells #[.int .i64 col] 3)) 3 (.int .i64 row)
  simp only [World.size_alloc] at y1
  have hsz : ((w.alloc (.cells #[.int .i64 col] 3)).alloc (.cells #[.int .i64 row] 3)).heap.size = w.heap.size + 2 := by simp
  generalize ((w.alloc (.cells #[.int .i64 col] 3)).alloc (.cells #[.int .i64 row] 3)) = w1 at *
  have Y0 := Lib.hid y0; have Y1 := Lib.hid y1; have HB1 := Lib.hid hb1; have HZ := Lib.hid hsz
  clear y0 y1 hb1 hsz
  have j0 := fun u : Later w1 => u.cell x0
  have j1 := fun u : Later w1 => u.cell x1
  clear x0 x1
  refine wpIn_wide.2 ?_
  refine later_start (w := w1) ?_
  intro u
  refine wp_region_later (by kernel_rfl) (by kernel_rfl) ?_
  repeat (go_big_quiet_step ((first
    | (go_at_call 51; with_reducible exact Later.call (HC.out _ (up_trans HB1.out (Later.up _))))
    | (go_at_call 52; with_reducible exact Later.call (HR.out _ (up_trans HB1.out (Later.up _))))
    | (go_at_call 57; first | with_reducible exact Later.call (HF1.out _) | with_reducible exact Later.call (HF2.out _)))))
  refine wpQuiet_nil ?_
  rintro _ ⟨u2, rfl⟩
  rename_i hK
  refine hK _ _ ?_
  have y0 : Boxed u2.now w.heap.size 3 (.int .i64 col) := (u2.up.block _ Y0.out.lt).trans Y0.out
  have y1 : Boxed u2.now (w.heap.size + 1) 3 (.int .i64 row) := (u2.up.block _ Y1.out.lt).trans Y1.out
  have hb2 : Below w.heap.size w u2.now := up_trans HB1.out u2.up
  have hs2 : w.heap.size + 2 ≤ u2.now.heap.size := by have := u2.up.size; rw [HZ.out] at this; exact this
  clear hK j0 j1 Y0 Y1 HB1 HZ HC HR HF1 HF2
  generalize u2.now = w2 at *
  have Y0 := Lib.hid y0; have Y1 := Lib.hid y1; have HB2 := Lib.hid hb2
  clear y0 y1 hb2
  gi_wp2_with (first
    | (refine ⟨trivial, ?_⟩; gi_at_call 31; refine (callsIn_wide.2 (HN.out _)).mono ?_; rintro e w3 ⟨rfl, hP, hb3⟩; have HP := Lib.hid hP; have HB3 := Lib.hid hb3; clear hP hb3)
    | (refine ⟨trivial, ?_⟩; gi_at_call 32; refine (callsIn_wide.2 (shAll_any _ _)).mono ?_; rintro e w4 ⟨rfl, rfl⟩))
  have hs3 : w2.heap.size + 2 ≤ w3.heap.size := by have := HP.out.ltG; omega
  obtain ⟨W0, hW0⟩ : ∃ W0, ((w3.alloc (.cells #[.pointer (some ⟨w2.heap.size + 1, 0, none⟩)] 54)).alloc (.cells #[.pointer (some ⟨G, 0, none⟩)] 54)) = W0 := ⟨_, rfl⟩
  have up3 : Below w3.heap.size w3 W0 := by rw [← hW0]; exact up_alloc (up_alloc (Below.refl _ _) _) _
  have up2 : Below w2.heap.size w2 W0 := up_trans HB3.out up3
  have upw : Below w.heap.size w W0 := up_trans HB2.out up2
  have y0 : Boxed W0 w.heap.size 3 (.int .i64 col) := (up2.block _ Y0.out.lt).trans Y0.out
  have y1 : Boxed W0 (w.heap.size + 1) 3 (.int .i64 row) := (up2.block _ Y1.out.lt).trans Y1.out
  have yP : Boxed W0 w3.heap.size 54 (.pointer (some ⟨w2.heap.size + 1, 0, none⟩)) := by rw [← hW0]; exact (Boxed.new w3 _ _).alloc _
  have yG : W0.cell? ⟨w3.heap.size + 1, 0, none⟩ = some (.pointer (some ⟨G, 0, none⟩)) := by rw [← hW0]; simp [go_sem]
  have gP : Gs W0 (w2.heap.size + 1) w2.heap.size pc pr (foldPs pc pr col row []) := HP.out.up up3
  have gG : Gs W0 G A c r l := HG.out.up upw
  have hsz : W0.heap.size = w3.heap.size + 2 := by rw [← hW0]; simp
  rw [hW0]
  clear hW0 Y0 Y1 HB2 HB3 HP HN up3 up2
  refine wpIn_rangeFunc_ownH rfl (by decide) (gf := 49) (lb := #[.pointer (some ⟨w3.heap.size + 1, 0, none⟩)]) rfl trivial (enters_of Try.func49 (by kernel_rfl) rfl)
    (shAll_stops 2 (OneS w2.heap.size) (w3.heap.size + 1) G A c r l W0 yG gG (fun W' hb b ho => by unfold OneS at ho; omega) (fun V V' _ h => oneS_up _ V V' h)) KeepS.trans (fun W l o o' _ h1 h2 _ => oneS_put _ W l o o' h1 h2) (Below.refl _ _) (fun _ => rfl)
    (fun pre W => (Gs W (w2.heap.size + 1) w2.heap.size pc pr (foldPs pc pr col row pre) ∧ (Boxed W w.heap.size 3 (.int .i64 col) ∧ (Boxed W (w.heap.size + 1) 3 (.int .i64 row) ∧ Boxed W w3.heap.size 54 (.pointer (some ⟨w2.heap.size + 1, 0, none⟩))))) ∧ Below w.heap.size w W)
    (fun c pre W => False)
    (OwnFrom.and (OwnFrom.and (Own.from (gs_own _ _ _ _ _) _) (OwnFrom.and (Own.from (boxed_own _ _ _) _) (OwnFrom.and (Own.from (boxed_own _ _ _) _) (Own.from (boxed_own _ _ _) _)))) (ownFrom_below (Nat.le_refl _) (by omega)))
    (fun c => ownFrom_pure _ (fun _ => False))
    ⟨⟨gP, y0, y1, yP⟩, upw⟩
    (fun x a' W => ∃ Bq, w3.heap.size < Bq ∧ W.cell? ⟨Bq, 0, none⟩ = some (.int .i64 x.1.1) ∧ W.cell? ⟨Bq, 1, none⟩ = some (.int .i64 x.1.2) ∧
      a' = { tmps := #[.pointer (some ⟨G, 0, none⟩), .int .i64 col, .int .i64 row, .int .i64 pc, .int .i64 pr, undef, .pointer (some ⟨w.heap.size, 0, none⟩), .pointer (some ⟨w.heap.size + 1, 0, none⟩), undef, undef, .pointer none, .pointer (some ⟨w3.heap.size, 0, none⟩), .pointer (some ⟨Bq, 0, none⟩), .pointer x.2, .int .i64 col, .int .i64 pc, .pointer (some ⟨G, 0, none⟩), .int .i64 c, .bool true, .bool false, .bool false, .int .i64 row, .int .i64 pr, .pointer (some ⟨G, 0, none⟩), .int .i64 r, .bool true, .bool false, .bool false, .int .i64 pc, .int .i64 pr, .pointer (some ⟨w2.heap.size + 1, 0, none⟩), .pointer (some ⟨G, 0, none⟩), .func (.func 49) #[] #[.pointer (some ⟨w3.heap.size + 1, 0, none⟩)], .agg #[.int .i64 x.1.1, .int .i64 x.1.2], .pointer x.2, undef, undef, undef, undef, undef, undef, undef, undef, undef, undef, undef, undef], defers := [] })
    (fun x a' _ X Y row hs hg hr => by obtain ⟨Bx, h1, h2, h3, h4⟩ := hs; exact ⟨Bx, h1, cell_kept h2 hg (fun r e => (hr r e).2), cell_kept h3 hg (fun r e => (hr r e).2), h4⟩)
    ?assign ?body ?done ?stop
  case assign =>
    rintro l pre x W K ⟨⟨hg, k0, k1, kP⟩, hB1⟩ hK
    unfold encV
    gi_wp2
    exact hK _ _ ((KeepsOthers.alloc _ _).from _) (oneS_up _ _ _ (up_alloc (Below.refl _ _) _)) ⟨⟨hg.up (up_alloc (Below.refl _ _) _), k0.alloc _, k1.alloc _, kP.alloc _⟩, hB1.alloc hB1.size _⟩ ⟨W.heap.size, kP.lt, by simp [go_sem], by simp [go_sem], rfl⟩
  case body =>
    rintro l0 pre x a' W hl _ ⟨⟨hg, k0, k1, kP⟩, hB1⟩ ⟨Bq, hBq, x0, x1, rfl⟩ hlen
    have e0 := k0.cell
    have e1 := k1.cell
    have eP := kP.cell
    obtain ⟨⟨px, py⟩, v⟩ := x
    simp only at x0 x1
    obtain ⟨dx, hdx⟩ : ∃ d, wrap64 (px - col) = d := ⟨_, rfl⟩
    obtain ⟨dy, hdy⟩ : ∃ d, wrap64 (py - row) = d := ⟨_, rfl⟩
    have HG2 := Lib.hid hg
    clear hg
    gi_wp2_with (refine ⟨trivial, ?_⟩; gi_at_call 33; refine (CallsIn.inRound l0 (callsIn_wide.2 (shSet_any HG2.out _ _ _))).mono ?_; rintro e W1 ⟨rfl, hg1, hgr⟩)
    refine ⟨(KeepsOthers.of_grownBy hgr fun j o ej hj => ?_).from _, oneS_grown _ hgr, ⟨⟨?_, k0.kept hgr (by simp; omega), k1.kept hgr (by simp; omega), kP.kept hgr (by simp; omega)⟩, hB1.grown hgr hB1.size (fun k e => by cases e; omega)⟩⟩
    · cases ej
      exact HG2.out.isCells hj
    · rw [foldPs_snoc, hdx, hdy]
      exact hg1
  case done =>
    rintro D ys W hD rfl ⟨⟨hg, k0, k1, kP⟩, hB1⟩ hK
    have hc := kP.cell
    gi_wp2
    refine ⟨by simp, .inl ⟨_, _, rfl, run_takeDeferred hK, ?_⟩⟩
    exact ⟨_, results_tmp rfl _ _ _, _, w2.heap.size, rfl, hg.put hK rfl, by omega, by omega, hB1.trans (belowK_b (w := w) (Nat.le_refl _) W D _ _ (by omega) hK rfl rfl)⟩
  case stop =>
    rintro D c pre W hD hpre h hK
    exact h.elim

end Go.Proofs.Ytnofncibplgmpaa
