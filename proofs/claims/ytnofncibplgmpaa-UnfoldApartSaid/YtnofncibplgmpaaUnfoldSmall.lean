/- What unfold's small calls answer: Up, Tumble, parted. -/
import Derived.Test.YtnofncibplgmpaaSheetMath
import Derived.Test.YtnofncibplgmpaaStepSp
import Derived.Deep.RegionHeld3
import Derived.BigRegion
namespace Go.Proofs.Ytnofncibplgmpaa
open Go.RowKit
set_option linter.unusedVariables false

theorem unfUp_any (a : Int) (x y : Bool) (w : World) :
    Calls Try.prog 10 #[.agg #[.int .i64 a, .bool x, .bool y]] w fun e w' => e = .returned (.bool (x == y)) ∧ Below w.heap.size w w' := by
  go_enter Try.func10, Try.ntmps10
  go_wp2
  go_ret
  refine ⟨?_, up_alloc (Below.refl _ _) _⟩
  cases x <;> cases y <;> rfl

def tumW (n a : Int) : Int := wrap64 (wrap64 (n - 1) - a)
theorem unfTumble_any (a n : Int) (x y : Bool) (w : World) :
    Calls Try.prog 12 #[.agg #[.int .i64 a, .bool x, .bool y], .int .i64 n] w fun e w' => e = .returned (.agg #[.int .i64 (tumW n a), .bool x, .bool (!y)]) ∧ Below w.heap.size w w' := by
  go_enter Try.func12, Try.ntmps12
  go_wp2
  refine bodyPost_ret (v := .agg _) (by simp [results, Try.results12, go_sem]; rfl) rfl ⟨by simp [tumW], ?_⟩
  repeat (first | with_reducible exact Below.refl _ _ | apply up_alloc | refine up_set ?_ (by simp) _)

/-- How a fold of n parts c by r panels: the flap (from fx, fy on), the rest (from rx, ry on), and where in the rest the flap comes, once it is mirrored. -/
structure Cut where
  fx : Int
  fy : Int
  fc : Int
  fr : Int
  rx : Int
  ry : Int
  rc : Int
  rr : Int
  x : Int
  y : Int
def cutOf (d n c r : Int) : Cut :=
  if d = 1 then ⟨0, 0, n, r, n, 0, c - n, r, 0, 0⟩
  else if d = 2 then ⟨c - n, 0, n, r, 0, 0, c - n, r, c - 2 * n, 0⟩
  else if d = 3 then ⟨0, 0, c, n, 0, n, c, r - n, 0, 0⟩
  else ⟨0, r - n, c, n, 0, 0, c, r - n, 0, r - 2 * n⟩
def PartedP (w : World) (c : Int) (L : List Ptr) (k : Cut) (e : Ending) (w' : World) : Prop :=
  ∃ F FA Q QA, e = .returned (.tuple #[.pointer (some ⟨F, 0, none⟩), .pointer (some ⟨Q, 0, none⟩), .agg #[.int .i64 k.x, .int .i64 k.y]]) ∧ Gs w' F FA k.fc k.fr (wantPs c k.fx k.fy k.fc k.fr L) ∧ Gs w' Q QA k.rc k.rr (wantPs c k.rx k.ry k.rc k.rr L) ∧
    (w.heap.size ≤ F ∧ w.heap.size ≤ FA ∧ w.heap.size ≤ Q ∧ w.heap.size ≤ QA) ∧ Below w.heap.size w w'

/-- Part, where all is there. -/
theorem shPart_there {w : World} {G A : Nat} {c r : Int} {l : List Ptr} (h : Gs w G A c r l) (col row pc pr : Int) (h1 : 0 ≤ col ∧ 1 ≤ pc ∧ col + pc ≤ c) (h2 : 0 ≤ row ∧ 1 ≤ pr ∧ row + pr ≤ r) :
    Calls Try.prog 53 #[.pointer (some ⟨G, 0, none⟩), .int .i64 col, .int .i64 row, .int .i64 pc, .int .i64 pr] w fun e w' => ∃ P PA, e = .returned (.pointer (some ⟨P, 0, none⟩)) ∧ Gs w' P PA pc pr (wantPs c col row pc pr l) ∧ w.heap.size ≤ P ∧ w.heap.size ≤ PA ∧ Below w.heap.size w w' := by
  have K := shPart_yes h col row pc pr (by simp [fitB]; omega) (by simp [fitB]; omega)
  rwa [part_eqS c r col row pc pr l h.len h.c1 h.c64 h.r64 h1.1 h1.2.2 h2.1 h2.2.2 h1.2.1 h2.2.1] at K

theorem parted_fin {w w3 : World} {c : Int} {L : List Ptr} {k : Cut} {F FA Q QA B : Nat} (a b : Value) (hF : Gs w3 F FA k.fc k.fr (wantPs c k.fx k.fy k.fc k.fr L)) (hQ : Gs w3 Q QA k.rc k.rr (wantPs c k.rx k.ry k.rc k.rr L)) (hB : w.heap.size ≤ B) (h1 : B < F) (h2 : B < FA) (h3 : B < Q) (h4 : B < QA) (hb : Below w.heap.size w w3) :
    PartedP w c L k (.returned (.tuple #[.pointer (some ⟨F, 0, none⟩), .pointer (some ⟨Q, 0, none⟩), .agg #[.int .i64 k.x, .int .i64 k.y]])) (((w3.setCell ⟨B, 0, none⟩ a).setCell ⟨B, 1, none⟩ b).drew) := by
  have hg1 : w3.grownBy (w3.setCell ⟨B, 0, none⟩ a) (some B) := grown_of_below (Below.refl _ _) B 0 a
  have hg2 : (w3.setCell ⟨B, 0, none⟩ a).grownBy (((w3.setCell ⟨B, 0, none⟩ a).setCell ⟨B, 1, none⟩ b).drew) (some B) :=
    have h := grown_of_below (Below.refl (w3.setCell ⟨B, 0, none⟩ a).heap.size (w3.setCell ⟨B, 0, none⟩ a)) B 1 b
    ⟨h.os, h.tape, h.output, h.size, h.block⟩
  have ne : ∀ x, B < x → some x ≠ some B := fun x hx e => by cases e; omega
  exact ⟨F, FA, Q, QA, rfl, (hF.kept hg1 (ne _ h1) (ne _ h2)).kept hg2 (ne _ h1) (ne _ h2), (hQ.kept hg1 (ne _ h3) (ne _ h4)).kept hg2 (ne _ h3) (ne _ h4), by omega,
    (hb.grown hg1 hb.size (fun k e => by cases e; exact hB)).grown hg2 (Nat.le_trans hb.size hg1.size) (fun k e => by cases e; exact hB)⟩

set_option maxRecDepth 100000 in
set_option maxHeartbeats 4000000 in
theorem parted_left {w : World} {G A : Nat} {c r : Int} {L : List Ptr} (h : Gs w G A c r L) (n : Int) (u : Bool) (hn : 1 ≤ n) (h2 : 2 * n ≤ c) :
    Calls Try.prog 36 #[.pointer (some ⟨G, 0, none⟩), .agg #[.int .i64 1, .int .i64 n, .bool u]] w (PartedP w c L (cutOf 1 n c r)) := by
  have hc := h.c64; have hc1 := h.c1
  have hr := h.r1; have hr1 := h.r64
  have KC := fun (w' : World) (hb : Below w.heap.size w w') => shCols_any (h.up hb)
  have KR := fun (w' : World) (hb : Below w.heap.size w w') => shRows_any (h.up hb)
  have KF := fun (w' : World) (hb : Below w.heap.size w w') => shPart_there (h.up hb) (0) (0) (n) (r) (by omega) (by omega)
  have KQ := fun (w' : World) (hb : Below w.heap.size w w') => shPart_there (h.up hb) (n) (0) (c - n) (r) (by omega) (by omega)
  have hcut : cutOf 1 n c r = ⟨0, 0, n, r, n, 0, c - n, r, 0, 0⟩ := by simp [cutOf]
  rw [hcut]
  have HC := Lib.hid KC; have HR := Lib.hid KR; have HF := Lib.hid KF; have HQ := Lib.hid KQ
  have x0 := (Bx.new w 37 [.int .i64 1, .int .i64 n, .bool u]).alloc (.cells #[.int .i64 0, .int .i64 0] 70)
  have y0 := Bx.new (w.alloc (.cells #[.int .i64 1, .int .i64 n, .bool u] 37)) 70 [.int .i64 0, .int .i64 0]
  have hb1 : Below w.heap.size w ((w.alloc (.cells #[.int .i64 1, .int .i64 n, .bool u] 37)).alloc (.cells #[.int .i64 0, .int .i64 0] 70)) := up_alloc (up_alloc (Below.refl _ _) _) _
  simp only [World.size_alloc] at y0
  have wn : IntKind.i64.wrap (c - n) = c - n := IntWalk.i64_in _ (by omega)
  have wm : IntKind.i64.wrap (r - n) = r - n := IntWalk.i64_in _ (by omega)
  have wk : IntKind.i64.wrap (2 * n) = 2 * n := IntWalk.i64_in _ (by omega)
  have wc : IntKind.i64.wrap (c - 2 * n) = c - 2 * n := IntWalk.i64_in _ (by omega)
  have wr : IntKind.i64.wrap (r - 2 * n) = r - 2 * n := IntWalk.i64_in _ (by omega)
  clear KC KR KF KQ h hcut
  go_enter Try.func36, Try.ntmps36
  go_wp2_with (first
    | (go_at_call 51; refine (HC.out _ hb1).mono ?_; rintro e w' ⟨rfl, rfl⟩)
    | (go_at_call 52; refine (HR.out _ hb1).mono ?_; rintro e w' ⟨rfl, rfl⟩))
  generalize ((w.alloc (.cells #[.int .i64 1, .int .i64 n, .bool u] 37)).alloc (.cells #[.int .i64 0, .int .i64 0] 70)) = w1 at *
  have X0 := Lib.hid x0; have Y0 := Lib.hid y0; have HB1 := Lib.hid hb1
  have k1 := x0.cell 1 rfl
  clear x0 y0 hb1 HC HR
  go_region_held3 (fun w' => w'.cell? ⟨w.heap.size, 1, none⟩ = some (.int .i64 n))
    (first | exact bl_cell hb3 (bl_cell hb2 k1) | exact bl_cell hb2 k1 | exact k1)
    (first
      | (go_at_call 53; with_reducible refine (HF.out _ (up_trans HB1.out (up_drew (Below.refl _ _)))).mono ?_; rintro e w2 ⟨F, FA, rfl, hF, hF1, hF2, hb2⟩)
      | (go_at_call 53; with_reducible refine (HQ.out _ (up_trans HB1.out (up_trans (up_drew (Below.refl _ _)) hb2))).mono ?_; rintro e w3 ⟨Q, QA, rfl, hQ, hQ1, hQ2, hb3⟩))
  have hb13 : Below w1.heap.size w1 w3 := up_trans (up_trans (up_drew (Below.refl _ _)) hb2) hb3
  have hy := Y0.out.up hb13
  have hx := X0.out.up hb13
  have y0 := hy.cell 0 rfl; have y1 := hy.cell 1 rfl; have f0 := hy.free 0; have f1 := hy.free 1; have x1 := hx.cell 1 rfl
  have HB3 := Lib.hid (up_trans HB1.out hb13)
  have hs1 := HB1.out.size
  have hs2 : w1.heap.size ≤ w2.heap.size := hb2.size
  have HFF := Lib.hid (hF.up hb3); have HQQ := Lib.hid hQ
  have hYl := Y0.out.lt
  simp only [show w1.drew.heap.size = w1.heap.size from rfl] at hF1 hF2
  clear hb2 hb3 hb13 hF hQ hx k1 HF HQ
  clear hy
  go_wp2
  go_region
  all_goals
    go_wp2
    exact bodyPost_ret (v := .tuple #[.pointer (some ⟨F, 0, none⟩), .pointer (some ⟨Q, 0, none⟩), .agg #[.int .i64 0, .int .i64 0]]) (by simp [results, Try.results36, go_sem, y0, y1]) rfl
      (parted_fin (k := ⟨0, 0, n, r, n, 0, c - n, r, 0, 0⟩) _ _ HFF.out HQQ.out (by omega) (by omega) (by omega) (by omega) (by omega) HB3.out)

set_option maxRecDepth 100000 in
set_option maxHeartbeats 4000000 in
theorem parted_right {w : World} {G A : Nat} {c r : Int} {L : List Ptr} (h : Gs w G A c r L) (n : Int) (u : Bool) (hn : 1 ≤ n) (h2 : 2 * n ≤ c) :
    Calls Try.prog 36 #[.pointer (some ⟨G, 0, none⟩), .agg #[.int .i64 2, .int .i64 n, .bool u]] w (PartedP w c L (cutOf 2 n c r)) := by
  have hc := h.c64; have hc1 := h.c1
  have hr := h.r1; have hr1 := h.r64
  have KC := fun (w' : World) (hb : Below w.heap.size w w') => shCols_any (h.up hb)
  have KR := fun (w' : World) (hb : Below w.heap.size w w') => shRows_any (h.up hb)
  have KF := fun (w' : World) (hb : Below w.heap.size w w') => shPart_there (h.up hb) (c - n) (0) (n) (r) (by omega) (by omega)
  have KQ := fun (w' : World) (hb : Below w.heap.size w w') => shPart_there (h.up hb) (0) (0) (c - n) (r) (by omega) (by omega)
  have hcut : cutOf 2 n c r = ⟨c - n, 0, n, r, 0, 0, c - n, r, c - 2 * n, 0⟩ := by simp [cutOf]
  rw [hcut]
  have HC := Lib.hid KC; have HR := Lib.hid KR; have HF := Lib.hid KF; have HQ := Lib.hid KQ
  have x0 := (Bx.new w 37 [.int .i64 2, .int .i64 n, .bool u]).alloc (.cells #[.int .i64 0, .int .i64 0] 70)
  have y0 := Bx.new (w.alloc (.cells #[.int .i64 2, .int .i64 n, .bool u] 37)) 70 [.int .i64 0, .int .i64 0]
  have hb1 : Below w.heap.size w ((w.alloc (.cells #[.int .i64 2, .int .i64 n, .bool u] 37)).alloc (.cells #[.int .i64 0, .int .i64 0] 70)) := up_alloc (up_alloc (Below.refl _ _) _) _
  simp only [World.size_alloc] at y0
  have wn : IntKind.i64.wrap (c - n) = c - n := IntWalk.i64_in _ (by omega)
  have wm : IntKind.i64.wrap (r - n) = r - n := IntWalk.i64_in _ (by omega)
  have wk : IntKind.i64.wrap (2 * n) = 2 * n := IntWalk.i64_in _ (by omega)
  have wc : IntKind.i64.wrap (c - 2 * n) = c - 2 * n := IntWalk.i64_in _ (by omega)
  have wr : IntKind.i64.wrap (r - 2 * n) = r - 2 * n := IntWalk.i64_in _ (by omega)
  clear KC KR KF KQ h hcut
  go_enter Try.func36, Try.ntmps36
  go_wp2_with (first
    | (go_at_call 51; refine (HC.out _ hb1).mono ?_; rintro e w' ⟨rfl, rfl⟩)
    | (go_at_call 52; refine (HR.out _ hb1).mono ?_; rintro e w' ⟨rfl, rfl⟩))
  generalize ((w.alloc (.cells #[.int .i64 2, .int .i64 n, .bool u] 37)).alloc (.cells #[.int .i64 0, .int .i64 0] 70)) = w1 at *
  have X0 := Lib.hid x0; have Y0 := Lib.hid y0; have HB1 := Lib.hid hb1
  have k1 := x0.cell 1 rfl
  clear x0 y0 hb1 HC HR
  go_region_held3 (fun w' => w'.cell? ⟨w.heap.size, 1, none⟩ = some (.int .i64 n))
    (first | exact bl_cell hb3 (bl_cell hb2 k1) | exact bl_cell hb2 k1 | exact k1)
    (first
      | (go_at_call 53; with_reducible refine (HF.out _ (up_trans HB1.out (up_drew (Below.refl _ _)))).mono ?_; rintro e w2 ⟨F, FA, rfl, hF, hF1, hF2, hb2⟩)
      | (go_at_call 53; with_reducible refine (HQ.out _ (up_trans HB1.out (up_trans (up_drew (Below.refl _ _)) hb2))).mono ?_; rintro e w3 ⟨Q, QA, rfl, hQ, hQ1, hQ2, hb3⟩))
  have hb13 : Below w1.heap.size w1 w3 := up_trans (up_trans (up_drew (Below.refl _ _)) hb2) hb3
  have hy := Y0.out.up hb13
  have hx := X0.out.up hb13
  have y0 := hy.cell 0 rfl; have y1 := hy.cell 1 rfl; have f0 := hy.free 0; have f1 := hy.free 1; have x1 := hx.cell 1 rfl
  have HB3 := Lib.hid (up_trans HB1.out hb13)
  have hs1 := HB1.out.size
  have hs2 : w1.heap.size ≤ w2.heap.size := hb2.size
  have HFF := Lib.hid (hF.up hb3); have HQQ := Lib.hid hQ
  have hYl := Y0.out.lt
  simp only [show w1.drew.heap.size = w1.heap.size from rfl] at hF1 hF2
  clear hb2 hb3 hb13 hF hQ hx k1 HF HQ
  go_wp2
  have hz := hy.set 0 (.int .i64 (c - 2 * n))
  simp only [List.set_cons_zero] at hz
  have hsz : (w3.setCell ⟨w.heap.size + 1, 0, none⟩ (.int .i64 (c - 2 * n))).heap.size = w3.heap.size := by simp [World.setCell]
  have hg1 : w3.grownBy (w3.setCell ⟨w.heap.size + 1, 0, none⟩ (.int .i64 (c - 2 * n))) (some (w.heap.size + 1)) := grown_of_below (Below.refl _ _) _ 0 _
  have ne : ∀ x, w.heap.size + 1 < x → some x ≠ some (w.heap.size + 1) := fun x hx e => by cases e; omega
  have hF4 := Lib.hid (HFF.out.kept hg1 (ne _ (by omega)) (ne _ (by omega)))
  have hQ4 := Lib.hid (HQQ.out.kept hg1 (ne _ (by omega)) (ne _ (by omega)))
  have HB4 := Lib.hid (HB3.out.grown hg1 HB3.out.size (fun k e => by cases e; omega))
  clear y0 y1 f0 f1 x1 hy hg1 ne HFF HQQ HB3 hsz
  generalize w3.setCell ⟨w.heap.size + 1, 0, none⟩ (.int .i64 (c - 2 * n)) = w4 at *
  have y0 := hz.cell 0 rfl; have y1 := hz.cell 1 rfl; have f0 := hz.free 0; have f1 := hz.free 1
  clear hz
  go_region
  all_goals
    go_wp2
    exact bodyPost_ret (v := .tuple #[.pointer (some ⟨F, 0, none⟩), .pointer (some ⟨Q, 0, none⟩), .agg #[.int .i64 (c - 2 * n), .int .i64 (0)]]) (by simp [results, Try.results36, go_sem, y0, y1]) rfl
      (parted_fin (k := ⟨c - n, 0, n, r, 0, 0, c - n, r, c - 2 * n, 0⟩) _ _ hF4.out hQ4.out (by omega) (by omega) (by omega) (by omega) (by omega) HB4.out)

set_option maxRecDepth 100000 in
set_option maxHeartbeats 4000000 in
theorem parted_foot {w : World} {G A : Nat} {c r : Int} {L : List Ptr} (h : Gs w G A c r L) (n : Int) (u : Bool) (hn : 1 ≤ n) (h2 : 2 * n ≤ r) :
    Calls Try.prog 36 #[.pointer (some ⟨G, 0, none⟩), .agg #[.int .i64 3, .int .i64 n, .bool u]] w (PartedP w c L (cutOf 3 n c r)) := by
  have hc := h.c64; have hc1 := h.c1
  have hr := h.r1; have hr1 := h.r64
  have KC := fun (w' : World) (hb : Below w.heap.size w w') => shCols_any (h.up hb)
  have KR := fun (w' : World) (hb : Below w.heap.size w w') => shRows_any (h.up hb)
  have KF := fun (w' : World) (hb : Below w.heap.size w w') => shPart_there (h.up hb) (0) (0) (c) (n) (by omega) (by omega)
  have KQ := fun (w' : World) (hb : Below w.heap.size w w') => shPart_there (h.up hb) (0) (n) (c) (r - n) (by omega) (by omega)
  have hcut : cutOf 3 n c r = ⟨0, 0, c, n, 0, n, c, r - n, 0, 0⟩ := by simp [cutOf]
  rw [hcut]
  have HC := Lib.hid KC; have HR := Lib.hid KR; have HF := Lib.hid KF; have HQ := Lib.hid KQ
  have x0 := (Bx.new w 37 [.int .i64 3, .int .i64 n, .bool u]).alloc (.cells #[.int .i64 0, .int .i64 0] 70)
  have y0 := Bx.new (w.alloc (.cells #[.int .i64 3, .int .i64 n, .bool u] 37)) 70 [.int .i64 0, .int .i64 0]
  have hb1 : Below w.heap.size w ((w.alloc (.cells #[.int .i64 3, .int .i64 n, .bool u] 37)).alloc (.cells #[.int .i64 0, .int .i64 0] 70)) := up_alloc (up_alloc (Below.refl _ _) _) _
  simp only [World.size_alloc] at y0
  have wn : IntKind.i64.wrap (c - n) = c - n := IntWalk.i64_in _ (by omega)
  have wm : IntKind.i64.wrap (r - n) = r - n := IntWalk.i64_in _ (by omega)
  have wk : IntKind.i64.wrap (2 * n) = 2 * n := IntWalk.i64_in _ (by omega)
  have wc : IntKind.i64.wrap (c - 2 * n) = c - 2 * n := IntWalk.i64_in _ (by omega)
  have wr : IntKind.i64.wrap (r - 2 * n) = r - 2 * n := IntWalk.i64_in _ (by omega)
  clear KC KR KF KQ h hcut
  go_enter Try.func36, Try.ntmps36
  go_wp2_with (first
    | (go_at_call 51; refine (HC.out _ hb1).mono ?_; rintro e w' ⟨rfl, rfl⟩)
    | (go_at_call 52; refine (HR.out _ hb1).mono ?_; rintro e w' ⟨rfl, rfl⟩))
  generalize ((w.alloc (.cells #[.int .i64 3, .int .i64 n, .bool u] 37)).alloc (.cells #[.int .i64 0, .int .i64 0] 70)) = w1 at *
  have X0 := Lib.hid x0; have Y0 := Lib.hid y0; have HB1 := Lib.hid hb1
  have k1 := x0.cell 1 rfl
  clear x0 y0 hb1 HC HR
  go_region_held3 (fun w' => w'.cell? ⟨w.heap.size, 1, none⟩ = some (.int .i64 n))
    (first | exact bl_cell hb3 (bl_cell hb2 k1) | exact bl_cell hb2 k1 | exact k1)
    (first
      | (go_at_call 53; with_reducible refine (HF.out _ (up_trans HB1.out (up_drew (Below.refl _ _)))).mono ?_; rintro e w2 ⟨F, FA, rfl, hF, hF1, hF2, hb2⟩)
      | (go_at_call 53; with_reducible refine (HQ.out _ (up_trans HB1.out (up_trans (up_drew (Below.refl _ _)) hb2))).mono ?_; rintro e w3 ⟨Q, QA, rfl, hQ, hQ1, hQ2, hb3⟩))
  have hb13 : Below w1.heap.size w1 w3 := up_trans (up_trans (up_drew (Below.refl _ _)) hb2) hb3
  have hy := Y0.out.up hb13
  have hx := X0.out.up hb13
  have y0 := hy.cell 0 rfl; have y1 := hy.cell 1 rfl; have f0 := hy.free 0; have f1 := hy.free 1; have x1 := hx.cell 1 rfl
  have HB3 := Lib.hid (up_trans HB1.out hb13)
  have hs1 := HB1.out.size
  have hs2 : w1.heap.size ≤ w2.heap.size := hb2.size
  have HFF := Lib.hid (hF.up hb3); have HQQ := Lib.hid hQ
  have hYl := Y0.out.lt
  simp only [show w1.drew.heap.size = w1.heap.size from rfl] at hF1 hF2
  clear hb2 hb3 hb13 hF hQ hx k1 HF HQ
  clear hy
  go_wp2
  go_region
  all_goals
    go_wp2
    exact bodyPost_ret (v := .tuple #[.pointer (some ⟨F, 0, none⟩), .pointer (some ⟨Q, 0, none⟩), .agg #[.int .i64 0, .int .i64 0]]) (by simp [results, Try.results36, go_sem, y0, y1]) rfl
      (parted_fin (k := ⟨0, 0, c, n, 0, n, c, r - n, 0, 0⟩) _ _ HFF.out HQQ.out (by omega) (by omega) (by omega) (by omega) (by omega) HB3.out)

set_option maxRecDepth 100000 in
set_option maxHeartbeats 4000000 in
theorem parted_head {w : World} {G A : Nat} {c r : Int} {L : List Ptr} (h : Gs w G A c r L) (n : Int) (u : Bool) (hn : 1 ≤ n) (h2 : 2 * n ≤ r) :
    Calls Try.prog 36 #[.pointer (some ⟨G, 0, none⟩), .agg #[.int .i64 4, .int .i64 n, .bool u]] w (PartedP w c L (cutOf 4 n c r)) := by
  have hc := h.c64; have hc1 := h.c1
  have hr := h.r1; have hr1 := h.r64
  have KC := fun (w' : World) (hb : Below w.heap.size w w') => shCols_any (h.up hb)
  have KR := fun (w' : World) (hb : Below w.heap.size w w') => shRows_any (h.up hb)
  have KF := fun (w' : World) (hb : Below w.heap.size w w') => shPart_there (h.up hb) (0) (r - n) (c) (n) (by omega) (by omega)
  have KQ := fun (w' : World) (hb : Below w.heap.size w w') => shPart_there (h.up hb) (0) (0) (c) (r - n) (by omega) (by omega)
  have hcut : cutOf 4 n c r = ⟨0, r - n, c, n, 0, 0, c, r - n, 0, r - 2 * n⟩ := by simp [cutOf]
  rw [hcut]
  have HC := Lib.hid KC; have HR := Lib.hid KR; have HF := Lib.hid KF; have HQ := Lib.hid KQ
  have x0 := (Bx.new w 37 [.int .i64 4, .int .i64 n, .bool u]).alloc (.cells #[.int .i64 0, .int .i64 0] 70)
  have y0 := Bx.new (w.alloc (.cells #[.int .i64 4, .int .i64 n, .bool u] 37)) 70 [.int .i64 0, .int .i64 0]
  have hb1 : Below w.heap.size w ((w.alloc (.cells #[.int .i64 4, .int .i64 n, .bool u] 37)).alloc (.cells #[.int .i64 0, .int .i64 0] 70)) := up_alloc (up_alloc (Below.refl _ _) _) _
  simp only [World.size_alloc] at y0
  have wn : IntKind.i64.wrap (c - n) = c - n := IntWalk.i64_in _ (by omega)
  have wm : IntKind.i64.wrap (r - n) = r - n := IntWalk.i64_in _ (by omega)
  have wk : IntKind.i64.wrap (2 * n) = 2 * n := IntWalk.i64_in _ (by omega)
  have wc : IntKind.i64.wrap (c - 2 * n) = c - 2 * n := IntWalk.i64_in _ (by omega)
  have wr : IntKind.i64.wrap (r - 2 * n) = r - 2 * n := IntWalk.i64_in _ (by omega)
  clear KC KR KF KQ h hcut
  go_enter Try.func36, Try.ntmps36
  go_wp2_with (first
    | (go_at_call 51; refine (HC.out _ hb1).mono ?_; rintro e w' ⟨rfl, rfl⟩)
    | (go_at_call 52; refine (HR.out _ hb1).mono ?_; rintro e w' ⟨rfl, rfl⟩))
  generalize ((w.alloc (.cells #[.int .i64 4, .int .i64 n, .bool u] 37)).alloc (.cells #[.int .i64 0, .int .i64 0] 70)) = w1 at *
  have X0 := Lib.hid x0; have Y0 := Lib.hid y0; have HB1 := Lib.hid hb1
  have k1 := x0.cell 1 rfl
  clear x0 y0 hb1 HC HR
  go_region_held3 (fun w' => w'.cell? ⟨w.heap.size, 1, none⟩ = some (.int .i64 n))
    (first | exact bl_cell hb3 (bl_cell hb2 k1) | exact bl_cell hb2 k1 | exact k1)
    (first
      | (go_at_call 53; with_reducible refine (HF.out _ (up_trans HB1.out (up_drew (Below.refl _ _)))).mono ?_; rintro e w2 ⟨F, FA, rfl, hF, hF1, hF2, hb2⟩)
      | (go_at_call 53; with_reducible refine (HQ.out _ (up_trans HB1.out (up_trans (up_drew (Below.refl _ _)) hb2))).mono ?_; rintro e w3 ⟨Q, QA, rfl, hQ, hQ1, hQ2, hb3⟩))
  have hb13 : Below w1.heap.size w1 w3 := up_trans (up_trans (up_drew (Below.refl _ _)) hb2) hb3
  have hy := Y0.out.up hb13
  have hx := X0.out.up hb13
  have y0 := hy.cell 0 rfl; have y1 := hy.cell 1 rfl; have f0 := hy.free 0; have f1 := hy.free 1; have x1 := hx.cell 1 rfl
  have HB3 := Lib.hid (up_trans HB1.out hb13)
  have hs1 := HB1.out.size
  have hs2 : w1.heap.size ≤ w2.heap.size := hb2.size
  have HFF := Lib.hid (hF.up hb3); have HQQ := Lib.hid hQ
  have hYl := Y0.out.lt
  simp only [show w1.drew.heap.size = w1.heap.size from rfl] at hF1 hF2
  clear hb2 hb3 hb13 hF hQ hx k1 HF HQ
  go_wp2
  have hz := hy.set 1 (.int .i64 (r - 2 * n))
  simp only [List.set_cons_zero, List.set_cons_succ] at hz
  have hsz : (w3.setCell ⟨w.heap.size + 1, 1, none⟩ (.int .i64 (r - 2 * n))).heap.size = w3.heap.size := by simp [World.setCell]
  have hg1 : w3.grownBy (w3.setCell ⟨w.heap.size + 1, 1, none⟩ (.int .i64 (r - 2 * n))) (some (w.heap.size + 1)) := grown_of_below (Below.refl _ _) _ 1 _
  have ne : ∀ x, w.heap.size + 1 < x → some x ≠ some (w.heap.size + 1) := fun x hx e => by cases e; omega
  have hF4 := Lib.hid (HFF.out.kept hg1 (ne _ (by omega)) (ne _ (by omega)))
  have hQ4 := Lib.hid (HQQ.out.kept hg1 (ne _ (by omega)) (ne _ (by omega)))
  have HB4 := Lib.hid (HB3.out.grown hg1 HB3.out.size (fun k e => by cases e; omega))
  clear y0 y1 f0 f1 x1 hy hg1 ne HFF HQQ HB3 hsz
  generalize w3.setCell ⟨w.heap.size + 1, 1, none⟩ (.int .i64 (r - 2 * n)) = w4 at *
  have y0 := hz.cell 0 rfl; have y1 := hz.cell 1 rfl; have f0 := hz.free 0; have f1 := hz.free 1
  clear hz
  go_region
  all_goals
    go_wp2
    exact bodyPost_ret (v := .tuple #[.pointer (some ⟨F, 0, none⟩), .pointer (some ⟨Q, 0, none⟩), .agg #[.int .i64 (0), .int .i64 (r - 2 * n)]]) (by simp [results, Try.results36, go_sem, y0, y1]) rfl
      (parted_fin (k := ⟨0, r - n, c, n, 0, 0, c, r - n, 0, r - 2 * n⟩) _ _ hF4.out hQ4.out (by omega) (by omega) (by omega) (by omega) (by omega) HB4.out)

end Go.Proofs.Ytnofncibplgmpaa
