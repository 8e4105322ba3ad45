/- Part 7 of the texts that the proofs of this seat share: SheetMirror, SheetMath, UnfoldSmall, RoundHeld. -/
import Derived.Test.YtbfigaadbfggcaaGreatDoorPart6
import Derived.Test.YtbfigaadbfggcaaGreatDoorPart1
import Derived.Deep.RegionHeld3
import Derived.BigRegion
/- What grid.Mirror answers: a grid of its own, left and right, or below and above, changed about; nil of nil. -/
namespace Go.Proofs.YtbfigaadbfggcaaGreatDoor
open Go.RowKit Go.Shelf
set_option linter.unusedVariables false
attribute [local go_sem] Oper.semAt_some

/-- A thing is laid where it stands in the mirrored grid. -/
def stepMs (up : Bool) (c r : Int) (L : List Ptr) (x : (Int × Int) × Ptr) : List Ptr := if up = true then setS c r L (wrap64 (c - 1 - x.1.1)) x.1.2 x.2 else setS c r L x.1.1 (wrap64 (r - 1 - x.1.2)) x.2
def foldMs (up : Bool) (c r : Int) (xs : List ((Int × Int) × Ptr)) : List Ptr := xs.foldl (stepMs up c r) (List.replicate (c * r).toNat none)
theorem foldMs_snoc (up : Bool) (c r : Int) (xs : List ((Int × Int) × Ptr)) (x : (Int × Int) × Ptr) : foldMs up c r (xs ++ [x]) = stepMs up c r (foldMs up c r xs) x := by simp [foldMs]

/-- What lies there behind the first statement. -/
structure MadeS (w1 : World) (q : Option Addr) (B : Nat) (w' : World) : Prop where
  box : Boxed w' B 120 (.pointer q)
  up : Below w1.heap.size w1 w'
  new : w1.heap.size ≤ B

theorem madeS_after {w1 w3 : World} {c r : Int} {L : List Ptr} (hb3 : Below w1.heap.size w1 w3) (hP : Gs w3 (w1.heap.size + 1) w1.heap.size c r L) :
    MadeS w1 (some ⟨w1.heap.size + 1, 0, none⟩) w3.heap.size (w3.alloc (.cells #[.pointer (some ⟨w1.heap.size + 1, 0, none⟩)] 120)) ∧ Gs (w3.alloc (.cells #[.pointer (some ⟨w1.heap.size + 1, 0, none⟩)] 120)) (w1.heap.size + 1) w1.heap.size c r L ∧
    w1.heap.size ≤ w1.heap.size + 1 ∧ w1.heap.size ≤ w1.heap.size ∧ w3.heap.size ≠ w1.heap.size + 1 ∧ w3.heap.size ≠ w1.heap.size :=
  ⟨⟨Boxed.new w3 _ _, up_alloc hb3 _, hb3.size⟩, hP.up (up_alloc (Below.refl _ _) _), by omega, by omega, by have := hP.ltG; omega, by have := hP.ltG; omega⟩
theorem madeS_before {w1 w3 : World} {c r : Int} {L : List Ptr} {v : Value} (hb3 : Below (w1.alloc (.cells #[v] 120)).heap.size (w1.alloc (.cells #[v] 120)) w3) (hP : Gs w3 ((w1.alloc (.cells #[v] 120)).heap.size + 1) (w1.alloc (.cells #[v] 120)).heap.size c r L) :
    MadeS w1 (some ⟨w1.heap.size + 1 + 1, 0, none⟩) w1.heap.size (w3.setCell ⟨w1.heap.size, 0, none⟩ (.pointer (some ⟨w1.heap.size + 1 + 1, 0, none⟩))) ∧ Gs (w3.setCell ⟨w1.heap.size, 0, none⟩ (.pointer (some ⟨w1.heap.size + 1 + 1, 0, none⟩))) (w1.heap.size + 1 + 1) (w1.heap.size + 1) c r L ∧
    w1.heap.size ≤ w1.heap.size + 1 + 1 ∧ w1.heap.size ≤ w1.heap.size + 1 ∧ w1.heap.size ≠ w1.heap.size + 1 + 1 ∧ w1.heap.size ≠ w1.heap.size + 1 := by
  rw [World.size_alloc] at hP
  have hbx : Boxed w3 w1.heap.size 120 v := (hb3.block w1.heap.size (by simp)).trans (Boxed.new w1 _ _)
  exact ⟨⟨hbx.set _, up_set (up_trans (up_alloc (Below.refl _ _) _) hb3) (Nat.le_refl _) _, Nat.le_refl _⟩, hP.kept (grownBy_setCell' w3 w1.heap.size _) (by simp; omega) (by simp), by omega, by omega, by omega, by omega⟩

theorem keepS_other {A Bq : Nat} {t : TypeId} (ht : t ≠ 106) {W W1 : World} {a b : Value} (hB : Boxed2 W Bq t a b) (hg : W.grownBy W1 (some Bq)) : KeepS (OneS A) W W1 :=
  ⟨hg.size, fun b _ ho => ho, fun b' cur fr hn hb => by
    refine (hg.block b' (Array.getElem?_eq_some_iff.1 hb).1 (fun e => ?_)).trans hb
    obtain rfl : b' = Bq := by injection e
    rw [show W.heap[b']? = _ from hB] at hb
    injection hb with h1
    injection h1 with _ h2
    exact ht h2⟩

set_option maxRecDepth 100000 in
set_option maxHeartbeats 4000000 in
theorem shMirror_yes {w : World} {G A : Nat} {c r : Int} {l : List Ptr} (h : Gs w G A c r l) (up : Bool) :
    Calls Tryz.prog 107 #[.pointer (some ⟨G, 0, none⟩), .bool up] w fun e w' => ∃ P PA, e = .returned (.pointer (some ⟨P, 0, none⟩)) ∧ Gs w' P PA c r (foldMs up c r (ptS c l l.length)) ∧ w.heap.size ≤ P ∧ w.heap.size ≤ PA ∧ Below w.heap.size w w' := by
  have i1 : inB c 1 64 = true := by have := h.c1; have := h.c64; simp [inB]; omega
  have i2 : inB r 1 64 = true := by have := h.r1; have := h.r64; simp [inB]; omega
  have c1 := h.c1; have c64 := h.c64; have r1 := h.r1; have r64 := h.r64
  have KN := fun w => shNew_yes c r i1 i2 w
  have KC := fun (w' : World) (hb : Below w.heap.size w w') => shCols_any (h.up hb)
  have KR := fun (w' : World) (hb : Below w.heap.size w w') => shRows_any (h.up hb)
  have HN := Lib.hid KN; have HC := Lib.hid KC; have HR := Lib.hid KR; have HG := Lib.hid h
  clear KN KC KR h i1 i2
  refine (callsIn_wide (n := 3)).1 ?_
  refine callsIn_of_wp_marks Tryz.func107 rfl trivial ?_ rfl
  simp only [Tryz.ntmps107, List.size_toArray, List.length_cons, List.length_nil, Nat.reduceAdd, Nat.reduceSub, Array.replicate_succ, Array.replicate_zero, List.push_toArray, List.append_toArray, List.nil_append, List.cons_append]
  gi_wp2
  have y0 := Boxed.alloc (Boxed.new w 120 (.pointer (some ⟨G, 0, none⟩))) (.cells #[.bool up] 4)
  have y1 := Boxed.new (w.alloc (.cells #[.pointer (some ⟨G, 0, none⟩)] 120)) 4 (.bool up)
  have hb1 : Below w.heap.size w ((w.alloc (.cells #[.pointer (some ⟨G, 0, none⟩)] 120)).alloc (.cells #[.bool up] 4)) := up_alloc (up_alloc (Below.refl _ _) _) _
  simp only [World.size_alloc] at y1
  have hsz : ((w.alloc (.cells #[.pointer (some ⟨G, 0, none⟩)] 120)).alloc (.cells #[.bool up] 4)).heap.size = w.heap.size + 2 := by simp
  generalize ((w.alloc (.cells #[.pointer (some ⟨G, 0, none⟩)] 120)).alloc (.cells #[.bool up] 4)) = w1 at *
  have Y0 := Lib.hid y0; have Y1 := Lib.hid y1; have HB1 := Lib.hid hb1; have HZ := Lib.hid hsz
  have x0 := y0.cell
  have X0 := Lib.hid x0
  clear y0 y1 hb1 hsz
  refine wpIn_wide.2 ?_
  refine wp_weak (Q := fun e a' w' => e = .normal ∧ ∃ B P PA, MadeS w1 (some ⟨P, 0, none⟩) B w' ∧ Gs w' P PA c r (List.replicate (c * r).toNat none) ∧ w1.heap.size ≤ P ∧ w1.heap.size ≤ PA ∧ B ≠ P ∧ B ≠ PA ∧ a' = { tmps := #[.pointer (some ⟨G, 0, none⟩), .bool up, .pointer (some ⟨w.heap.size, 0, none⟩), .pointer (some ⟨w.heap.size + 1, 0, none⟩), .pointer none, .pointer (some ⟨B, 0, none⟩), undef, undef, .pointer (some ⟨G, 0, none⟩), .int .i64 c, .pointer (some ⟨G, 0, none⟩), .int .i64 r, .pointer (some ⟨P, 0, none⟩), undef, undef, undef, undef, undef, undef, undef, undef, undef, undef, undef, undef, undef, undef, undef, undef, undef, undef, undef, undef, undef, undef, undef, undef, undef, undef, undef, undef, undef, undef, undef], defers := [] }) ?_ ?_
  · go_region_held3 (fun w' => w'.cell? ⟨w.heap.size, 0, none⟩ = some (.pointer (some ⟨G, 0, none⟩)))
      ((refine bl_cell (w := w1) ?_ X0.out; repeat (first | exact Below.refl _ _ | apply up_drew | apply up_alloc | (refine up_trans ?_ hb3) | (refine up_set ?_ (by simp) _))))
      (first
        | (go_at_call 125; (refine Calls.mono (HC.out _ (up_trans HB1.out (by repeat (first | exact Below.refl _ _ | apply up_drew | apply up_alloc)))) ?_); rintro e w2 ⟨rfl, rfl⟩)
        | (go_at_call 126; (refine Calls.mono (HR.out _ (up_trans HB1.out (by repeat (first | exact Below.refl _ _ | apply up_drew | apply up_alloc)))) ?_); rintro e w2 ⟨rfl, rfl⟩)
        | (go_at_call 101; refine (HN.out _).mono ?_; rintro e w3 ⟨rfl, hP, hb3⟩; have hcm := kept_cells hb3; have hfm := kept_marks hb3; have zm := hb3.size; (try simp at zm); (try (have q1 : w1.heap.size < w3.heap.size := by omega)); (try (have q2 : w1.heap.size + 1 < w3.heap.size := by omega))))
    all_goals
      clear hcm hfm
      first
        | (obtain ⟨m1, m2, m3, m4, m5, m6⟩ := madeS_after (w1 := w1) (up_trans (up_drew (Below.refl _ _)) hb3) hP; exact ⟨rfl, _, _, _, m1, m2, m3, m4, m5, m6, rfl⟩)
        | (obtain ⟨m1, m2, m3, m4, m5, m6⟩ := madeS_before (w1 := w1) (v := .pointer none) (up_trans (up_drew (Below.refl _ _)) hb3) hP; exact ⟨rfl, _, _, _, m1, m2, m3, m4, m5, m6, rfl⟩)
  · rintro _ _ w2 ⟨rfl, B, P, PA, hM, hP, hlP, hlA, hn1, hn2, rfl⟩
    rename_i hK
    refine hK _ _ ?_
    clear hK x0 X0
    have y0 : Boxed w2 w.heap.size 120 (.pointer (some ⟨G, 0, none⟩)) := (hM.up.block _ Y0.out.lt).trans Y0.out
    have y1 : Boxed w2 (w.heap.size + 1) 4 (.bool up) := (hM.up.block _ Y1.out.lt).trans Y1.out
    have hb2 : Below w.heap.size w w2 := up_trans HB1.out hM.up
    have hsB : w.heap.size + 2 ≤ B := by have := hM.new; rw [HZ.out] at this; exact this
    have hsP : w.heap.size + 2 ≤ P := by rw [HZ.out] at hlP; exact hlP
    have hsA : w.heap.size + 2 ≤ PA := by rw [HZ.out] at hlA; exact hlA
    have yB := hM.box
    clear Y0 Y1 HB1 HZ HC HR HN hM hlP hlA
    have x0 := y0.cell
    have Y0 := Lib.hid y0; have Y1 := Lib.hid y1; have YB := Lib.hid yB; have HB2 := Lib.hid hb2; have HP := Lib.hid hP
    clear y0 y1 yB hb2 hP
    gi_wp2_with (refine ⟨trivial, ?_⟩; gi_at_call 102; refine (callsIn_wide.2 (shAll_any _ _)).mono ?_; rintro e w4 ⟨rfl, rfl⟩)
    obtain ⟨W0, hW0⟩ : ∃ W0, (w2.alloc (.cells #[.pointer (some ⟨G, 0, none⟩)] 120)) = W0 := ⟨_, rfl⟩
    have up2 : Below w2.heap.size w2 W0 := by rw [← hW0]; exact up_alloc (Below.refl _ _) _
    have upw : Below w.heap.size w W0 := up_trans HB2.out up2
    have y0 : Boxed W0 w.heap.size 120 (.pointer (some ⟨G, 0, none⟩)) := (up2.block _ Y0.out.lt).trans Y0.out
    have y1 : Boxed W0 (w.heap.size + 1) 4 (.bool up) := (up2.block _ Y1.out.lt).trans Y1.out
    have yB : Boxed W0 B 120 (.pointer (some ⟨P, 0, none⟩)) := (up2.block _ YB.out.lt).trans YB.out
    have yG : Boxed W0 w2.heap.size 120 (.pointer (some ⟨G, 0, none⟩)) := by rw [← hW0]; exact Boxed.new w2 _ _
    have gP : Gs W0 P PA c r (foldMs up c r []) := HP.out.up up2
    have gG : Gs W0 G A c r l := HG.out.up upw
    have hsz : W0.heap.size = w2.heap.size + 1 := by rw [← hW0]; simp
    have ltB := YB.out.lt
    have ltP := HP.out.ltG
    have ltA := HP.out.ltA
    have ltG := HG.out.ltG
    rw [hW0]
    clear hW0 x0 Y0 Y1 YB HB2 HP up2
    refine wpIn_rangeFunc_ownH rfl (by decide) (gf := 123) (lb := #[.pointer (some ⟨w2.heap.size, 0, none⟩)]) rfl trivial (enters_of Tryz.func123 (by kernel_rfl) rfl)
      (shAll_stops 2 (OneS PA) w2.heap.size G A c r l W0 yG.cell gG (fun W' hb b ho => by unfold OneS at ho; omega) (fun V V' _ h => oneS_up _ V V' h)) KeepS.trans (fun W l o o' _ h1 h2 _ => oneS_put _ W l o o' h1 h2) (Below.refl _ _) (fun _ => rfl)
      (fun pre W => (Gs W P PA c r (foldMs up c r pre) ∧ (Boxed W w.heap.size 120 (.pointer (some ⟨G, 0, none⟩)) ∧ (Boxed W (w.heap.size + 1) 4 (.bool up) ∧ (Boxed W B 120 (.pointer (some ⟨P, 0, none⟩)) ∧ Boxed W w2.heap.size 120 (.pointer (some ⟨G, 0, none⟩)))))) ∧ Below w.heap.size w W)
      (fun c pre W => False)
      (OwnFrom.and (OwnFrom.and (Own.from (gs_own _ _ _ _ _) _) (OwnFrom.and (Own.from (boxed_own _ _ _) _) (OwnFrom.and (Own.from (boxed_own _ _ _) _) (OwnFrom.and (Own.from (boxed_own _ _ _) _) (Own.from (boxed_own _ _ _) _))))) (ownFrom_below (Nat.le_refl _) (by omega)))
      (fun c => ownFrom_pure _ (fun _ => False))
      ⟨⟨gP, y0, y1, yB, yG⟩, upw⟩
      (fun x a' W => ∃ Bq, w2.heap.size < Bq ∧ Boxed2 W Bq 23 (.int .i64 x.1.1) (.int .i64 x.1.2) ∧
        a' = { tmps := #[.pointer (some ⟨G, 0, none⟩), .bool up, .pointer (some ⟨w.heap.size, 0, none⟩), .pointer (some ⟨w.heap.size + 1, 0, none⟩), .pointer none, .pointer (some ⟨B, 0, none⟩), .pointer (some ⟨Bq, 0, none⟩), .pointer x.2, .pointer (some ⟨G, 0, none⟩), .int .i64 c, .pointer (some ⟨G, 0, none⟩), .int .i64 r, .pointer (some ⟨P, 0, none⟩), .pointer (some ⟨G, 0, none⟩), .func (.func 123) #[] #[.pointer (some ⟨w2.heap.size, 0, none⟩)], .agg #[.int .i64 x.1.1, .int .i64 x.1.2], .pointer x.2, undef, undef, undef, undef, undef, undef, undef, undef, undef, undef, undef, undef, undef, undef, undef, undef, undef, undef, undef, undef, undef, undef, undef, undef, undef, undef, undef], defers := [] })
      (fun x a' _ X Y row hs hg hr => by obtain ⟨Bx, h1, h2, h4⟩ := hs; exact ⟨Bx, h1, boxed2_own Bx _ _ _ () X Y row h2 hg (fun r e => (hr r e).2), h4⟩)
      ?assign ?body ?done ?stop
    case assign =>
      rintro l0 pre x W K ⟨⟨hg, k0, k1, kB, kG⟩, hB1⟩ hK
      unfold encV
      gi_wp2
      exact hK _ _ ((KeepsOthers.alloc _ _).from _) (oneS_up _ _ _ (up_alloc (Below.refl _ _) _)) ⟨⟨hg.up (up_alloc (Below.refl _ _) _), k0.alloc _, k1.alloc _, kB.alloc _, kG.alloc _⟩, hB1.alloc hB1.size _⟩ ⟨W.heap.size, kG.lt, World.alloc_heap_new W _, rfl⟩
    case body =>
      rintro l0 pre x a' W hl _ ⟨⟨hg, k0, k1, kB, kG⟩, hB1⟩ ⟨Bq, hBq, kQ, rfl⟩ hlen
      obtain ⟨⟨px, py⟩, v⟩ := x
      have gW := HG.out.up hB1
      have e0 := fun u : Later W => u.cell k0.cell
      have e1 := k1.cell
      have g0 := fun u : Later W => u.cell (gW.box.cell 0 rfl)
      have g1 := fun u : Later W => u.cell (gW.box.cell 1 rfl)
      have q0 := fun u : Later W => u.cell kQ.c0
      have q1 := fun u : Later W => u.cell kQ.c1
      have qf := fun (u : Later W) (j : Nat) => (kept_marks u.up Bq j (Array.getElem?_eq_some_iff.1 kQ).1).trans (kQ.free j)
      clear gW
      simp only at q0 q1
      have HS := Lib.hid (foldMs_snoc up c r pre ((px, py), v))
      cases up
      · obtain ⟨d, hd⟩ : ∃ d, wrap64 (r - 1 - py) = d := ⟨_, rfl⟩
        have hs : foldMs false c r (pre ++ [((px, py), v)]) = setS c r (foldMs false c r pre) px d v := by rw [HS.out, ← hd]; rfl
        have HT := Lib.hid hs; have HG2 := Lib.hid hg; have HQ := Lib.hid qf
        clear hs hg HS
        gi_wp2
        refine later_start (w := W) ?_
        intro u
        refine round_tail 9 (by kernel_rfl) (by kernel_rfl) (by kernel_rfl) ?_ ?_
        · rintro ⟨a, w, h⟩
          exact h
        · simp only [List.take_succ_cons, List.take_zero, List.drop_succ_cons, List.drop_zero]
          repeat (go_big_quiet_step (fail))
          refine wpQuiet_nil ?_
          rintro _ ⟨u2, rfl⟩
          rw [hd]
          have f0 := qf u2 1; have z0 := q1 u2
          have hgr : W.grownBy (u2.now.setCell ⟨Bq, 1, none⟩ (.int .i64 d)) (some Bq) := grown_of_below u2.up Bq 1 _
          have c0 : (u2.now.setCell ⟨Bq, 1, none⟩ (.int .i64 d)).cell? ⟨Bq, 1, none⟩ = some (.int .i64 d) := World.cell?_setCell_same _ _ _ (q1 u2)
          have c1 : (u2.now.setCell ⟨Bq, 1, none⟩ (.int .i64 d)).cell? ⟨Bq, 0, none⟩ = some (.int .i64 px) := (World.cell?_setCell_other _ _ _ _ (by simp)).trans (q0 u2)
          clear e0 g0 g1 q0 q1 qf e1
          go_wp2
          clear z0 f0
          generalize u2.now.setCell ⟨Bq, 1, none⟩ (.int .i64 d) = W1 at *
          have hg1 := HG2.out.kept hgr (by simp; omega) (by simp; omega)
          have kB1 := kB.kept hgr (by simp; omega)
          have cB := kB1.cell
          have HG3 := Lib.hid hg1; have HR1 := Lib.hid hgr
          clear hg1 hgr
          gi_wp2_with (refine ⟨trivial, ?_⟩; gi_at_call 103; refine (CallsIn.inRound l0 (callsIn_wide.2 (shSet_any HG3.out _ _ _))).mono ?_; rintro e W2 ⟨rfl, hg2, hgr2⟩)
          have hgr := HR1.out
          refine ⟨((KeepsOthers.of_grownBy hgr fun j o ej hj => ?_).trans (KeepsOthers.of_grownBy hgr2 fun j o ej hj => ?_)).from _, (keepS_other (by decide) kQ hgr).trans (oneS_grown _ hgr2), ⟨⟨?_, (k0.kept hgr (by simp; omega)).kept hgr2 (by simp; omega), (k1.kept hgr (by simp; omega)).kept hgr2 (by simp; omega), kB1.kept hgr2 (by simp; omega), (kG.kept hgr (by simp; omega)).kept hgr2 (by simp; omega)⟩, (hB1.grown hgr hB1.size (fun k e => by cases e; omega)).grown hgr2 (by have := hB1.size; have := hgr.size; omega) (fun k e => by cases e; omega)⟩⟩
          · cases ej
            rw [show W.heap[Bq]? = _ from kQ] at hj
            cases hj
            rfl
          · cases ej
            exact HG3.out.isCells hj
          · rw [HT.out]
            exact hg2
      · obtain ⟨d, hd⟩ : ∃ d, wrap64 (c - 1 - px) = d := ⟨_, rfl⟩
        have hs : foldMs true c r (pre ++ [((px, py), v)]) = setS c r (foldMs true c r pre) d py v := by rw [HS.out, ← hd]; rfl
        have HT := Lib.hid hs; have HG2 := Lib.hid hg; have HQ := Lib.hid qf
        clear hs hg HS
        gi_wp2
        refine later_start (w := W) ?_
        intro u
        refine round_tail 9 (by kernel_rfl) (by kernel_rfl) (by kernel_rfl) ?_ ?_
        · rintro ⟨a, w, h⟩
          exact h
        · simp only [List.take_succ_cons, List.take_zero, List.drop_succ_cons, List.drop_zero]
          repeat (go_big_quiet_step (fail))
          refine wpQuiet_nil ?_
          rintro _ ⟨u2, rfl⟩
          rw [hd]
          have f0 := qf u2 0; have z0 := q0 u2
          have hgr : W.grownBy (u2.now.setCell ⟨Bq, 0, none⟩ (.int .i64 d)) (some Bq) := grown_of_below u2.up Bq 0 _
          have c0 : (u2.now.setCell ⟨Bq, 0, none⟩ (.int .i64 d)).cell? ⟨Bq, 0, none⟩ = some (.int .i64 d) := World.cell?_setCell_same _ _ _ (q0 u2)
          have c1 : (u2.now.setCell ⟨Bq, 0, none⟩ (.int .i64 d)).cell? ⟨Bq, 1, none⟩ = some (.int .i64 py) := (World.cell?_setCell_other _ _ _ _ (by simp)).trans (q1 u2)
          clear e0 g0 g1 q0 q1 qf e1
          go_wp2
          clear z0 f0
          generalize u2.now.setCell ⟨Bq, 0, none⟩ (.int .i64 d) = W1 at *
          have hg1 := HG2.out.kept hgr (by simp; omega) (by simp; omega)
          have kB1 := kB.kept hgr (by simp; omega)
          have cB := kB1.cell
          have HG3 := Lib.hid hg1; have HR1 := Lib.hid hgr
          clear hg1 hgr
          gi_wp2_with (refine ⟨trivial, ?_⟩; gi_at_call 103; refine (CallsIn.inRound l0 (callsIn_wide.2 (shSet_any HG3.out _ _ _))).mono ?_; rintro e W2 ⟨rfl, hg2, hgr2⟩)
          have hgr := HR1.out
          refine ⟨((KeepsOthers.of_grownBy hgr fun j o ej hj => ?_).trans (KeepsOthers.of_grownBy hgr2 fun j o ej hj => ?_)).from _, (keepS_other (by decide) kQ hgr).trans (oneS_grown _ hgr2), ⟨⟨?_, (k0.kept hgr (by simp; omega)).kept hgr2 (by simp; omega), (k1.kept hgr (by simp; omega)).kept hgr2 (by simp; omega), kB1.kept hgr2 (by simp; omega), (kG.kept hgr (by simp; omega)).kept hgr2 (by simp; omega)⟩, (hB1.grown hgr hB1.size (fun k e => by cases e; omega)).grown hgr2 (by have := hB1.size; have := hgr.size; omega) (fun k e => by cases e; omega)⟩⟩
          · cases ej
            rw [show W.heap[Bq]? = _ from kQ] at hj
            cases hj
            rfl
          · cases ej
            exact HG3.out.isCells hj
          · rw [HT.out]
            exact hg2
    case done =>
      rintro D ys W hD rfl ⟨⟨hg, k0, k1, kB, kG⟩, hB1⟩ hK
      have hc := kB.cell
      gi_wp2
      refine ⟨by simp, .inl ⟨_, _, rfl, run_takeDeferred hK, ?_⟩⟩
      exact ⟨_, results_tmp rfl _ _ _, _, PA, rfl, hg.put hK rfl, by omega, by omega, hB1.trans (belowK_b (w := w) (Nat.le_refl _) W D _ _ (by omega) hK rfl rfl)⟩
    case stop =>
      rintro D c pre W hD hpre h hK
      exact h.elim

end Go.Proofs.YtbfigaadbfggcaaGreatDoor
/- Plain facts of lists: what is laid place by place into a part, or into a mirrored grid, stands where the document says. -/
namespace Go.Proofs.YtbfigaadbfggcaaGreatDoor
open Go.RowKit
set_option linter.unusedVariables false

def wantPs (c col row pc pr : Int) (l : List Ptr) : List Ptr := (List.range (pc * pr).toNat).map fun k => l[(srcP c col row pc k).toNat]?.getD none
theorem part_eqS (c r col row pc pr : Int) (l : List Ptr) (hl : (l.length : Int) = c * r) (hc : 1 ≤ c) (hc64 : c ≤ 64) (hr64 : r ≤ 64) (h0 : 0 ≤ col) (h1 : col + pc ≤ c) (h2 : 0 ≤ row) (h3 : row + pr ≤ r) (hp : 1 ≤ pc) (hq : 1 ≤ pr) :
    foldPs pc pr col row (ptS c l l.length) = wantPs c col row pc pr l := by
  have hm : 0 ≤ pc * pr := Int.mul_nonneg (by omega) (by omega)
  unfold foldPs ptS wantPs
  rw [List.foldl_map]
  refine fold_sets none l l.length (pc * pr).toNat _ (fun k => if hasB pc pr (wrap64 ((k : Int).tmod c - col)) (wrap64 ((k : Int).tdiv c - row)) = true then some (at1 pc (wrap64 ((k : Int).tmod c - col)) (wrap64 ((k : Int).tdiv c - row))) else none) (fun k => (srcP c col row pc k).toNat) ?_ ?_ ?_
  · intro L k
    simp only [stepPs, setS]
    split <;> rfl
  · intro k j hk hj
    obtain ⟨x, y, e1, e2, b0, b1, b2, b3, b4⟩ := split_place k c r hc (by omega)
    obtain ⟨x', y', f1, f2, d0, d1, d2, d3, d4⟩ := split_place j pc pr hp (by omega)
    have hsr := srcP_lt (c := c) (r := r) (col := col) (row := row) (pc := pc) (pr := pr) hc h0 h1 h2 h3 hp j (by omega)
    rw [e1, e2, IntWalk.wrap64_in (x - col) (by omega), IntWalk.wrap64_in (y - row) (by omega)]
    have hsv : srcP c col row pc j = (row + y') * c + (col + x') := by unfold srcP; rw [f1, f2, Int.add_assoc]
    constructor
    · intro h
      split at h
      · rename_i hh
        have hat := at1_lt hh
        simp [hasB] at hh
        obtain ⟨⟨g1, g2⟩, g3, g4⟩ := hh
        injection h with h
        unfold at1 at h
        have hj2 : (j : Int) = (y - row) * pc + (x - col) := by omega
        obtain ⟨t1, t2⟩ := td (y - row) (x - col) pc (by omega) (by omega) (by omega)
        rw [← hj2, f1] at t2
        rw [← hj2, f2] at t1
        have : srcP c col row pc j = k := by
          rw [hsv, t1, t2, ← b4]
          congr 1
          · congr 1; omega
          · omega
        omega
      · cases h
    · intro h
      have hk2 : (row + y') * c + (col + x') = (k : Int) := by rw [← hsv]; omega
      obtain ⟨t1, t2⟩ := td (row + y') (col + x') c (by omega) (by omega) (by omega)
      rw [hk2, e2] at t1
      rw [hk2, e1] at t2
      have e3 : x - col = x' := by omega
      have e4 : y - row = y' := by omega
      rw [e3, e4, if_pos (by simp [hasB]; omega)]
      unfold at1
      rw [d4]
      simp
  · intro j hj
    have hsr := srcP_lt (c := c) (r := r) (col := col) (row := row) (pc := pc) (pr := pr) hc h0 h1 h2 h3 hp j (by omega)
    omega

def wantMs (up : Bool) (c r : Int) (l : List Ptr) : List Ptr := (List.range (c * r).toNat).map fun k => l[(srcM up c r k).toNat]?.getD none
theorem mirror_eqS (up : Bool) (c r : Int) (l : List Ptr) (hl : (l.length : Int) = c * r) (hc : 1 ≤ c) (hc64 : c ≤ 64) (hr64 : r ≤ 64) (hr : 1 ≤ r) :
    foldMs up c r (ptS c l l.length) = wantMs up c r l := by
  have hm : 0 ≤ c * r := Int.mul_nonneg (by omega) (by omega)
  have hlm : l.length = (c * r).toNat := by omega
  unfold foldMs ptS wantMs
  rw [List.foldl_map]
  have hk : ∀ k : Nat, k < l.length → (if up = true then (if hasB c r (wrap64 (c - 1 - (k : Int).tmod c)) ((k : Int).tdiv c) = true then some (at1 c (wrap64 (c - 1 - (k : Int).tmod c)) ((k : Int).tdiv c)) else none) else (if hasB c r ((k : Int).tmod c) (wrap64 (r - 1 - (k : Int).tdiv c)) = true then some (at1 c ((k : Int).tmod c) (wrap64 (r - 1 - (k : Int).tdiv c))) else none)) = some (srcM up c r k).toNat := by
    intro k hk
    obtain ⟨x, y, e1, e2, b0, b1, b2, b3, b4⟩ := split_place k c r hc (by omega)
    rw [e1, e2, IntWalk.wrap64_in (c - 1 - x) (by omega), IntWalk.wrap64_in (r - 1 - y) (by omega)]
    cases up
    · rw [if_neg (by simp), if_pos (by simp [hasB]; omega)]
      simp [srcM, at1, e1, e2]
    · rw [if_pos rfl, if_pos (by simp [hasB]; omega)]
      simp [srcM, at1, e1, e2]
  refine fold_sets none l l.length (c * r).toNat _ (fun k => if up = true then (if hasB c r (wrap64 (c - 1 - (k : Int).tmod c)) ((k : Int).tdiv c) = true then some (at1 c (wrap64 (c - 1 - (k : Int).tmod c)) ((k : Int).tdiv c)) else none) else (if hasB c r ((k : Int).tmod c) (wrap64 (r - 1 - (k : Int).tdiv c)) = true then some (at1 c ((k : Int).tmod c) (wrap64 (r - 1 - (k : Int).tdiv c))) else none)) (fun k => (srcM up c r k).toNat) ?_ ?_ ?_
  · intro L k
    cases up
    · simp only [stepMs, setS, Bool.false_eq_true, if_false]
      split <;> rfl
    · simp only [stepMs, setS, if_true]
      split <;> rfl
  · intro k j hkl hj
    have e := hk k hkl
    constructor
    · intro h
      rw [e] at h
      injection h with h
      rw [← h]
      exact srcM_twice up hc k (by omega)
    · intro h
      rw [e, ← h]
      rw [srcM_twice up hc j (by omega)]
  · intro j hj
    have := srcM_lt up (c := c) (r := r) hc j (by omega)
    omega

theorem wantMs_length (up : Bool) (c r : Int) (l : List Ptr) : (wantMs up c r l).length = (c * r).toNat := by simp [wantMs]
theorem wantPs_length (c col row pc pr : Int) (l : List Ptr) : (wantPs c col row pc pr l).length = (pc * pr).toNat := by simp [wantPs]
end Go.Proofs.YtbfigaadbfggcaaGreatDoor
/- What unfold's small calls answer: Up, Tumble, parted. -/
namespace Go.Proofs.YtbfigaadbfggcaaGreatDoor
open Go.RowKit
set_option linter.unusedVariables false

def tumW (n a : Int) : Int := wrap64 (wrap64 (n - 1) - a)
/-- How a fold of n parts c by r panels: the flap (from fx, fy on), the rest (from rx, ry on), and where in the rest the flap comes, once it is mirrored. -/
structure Cut where
  fx : Int
  fy : Int
  fc : Int
  fr : Int
  rx : Int
  ry : Int
  rc : Int
  rr : Int
  x : Int
  y : Int
def cutOf (d n c r : Int) : Cut :=
  if d = 1 then ⟨0, 0, n, r, n, 0, c - n, r, 0, 0⟩
  else if d = 2 then ⟨c - n, 0, n, r, 0, 0, c - n, r, c - 2 * n, 0⟩
  else if d = 3 then ⟨0, 0, c, n, 0, n, c, r - n, 0, 0⟩
  else ⟨0, r - n, c, n, 0, 0, c, r - n, 0, r - 2 * n⟩
def PartedP (w : World) (c : Int) (L : List Ptr) (k : Cut) (e : Ending) (w' : World) : Prop :=
  ∃ F FA Q QA, e = .returned (.tuple #[.pointer (some ⟨F, 0, none⟩), .pointer (some ⟨Q, 0, none⟩), .agg #[.int .i64 k.x, .int .i64 k.y]]) ∧ Gs w' F FA k.fc k.fr (wantPs c k.fx k.fy k.fc k.fr L) ∧ Gs w' Q QA k.rc k.rr (wantPs c k.rx k.ry k.rc k.rr L) ∧
    (w.heap.size ≤ F ∧ w.heap.size ≤ FA ∧ w.heap.size ≤ Q ∧ w.heap.size ≤ QA) ∧ Below w.heap.size w w'

/-- Part, where all is there. -/
theorem shPart_there {w : World} {G A : Nat} {c r : Int} {l : List Ptr} (h : Gs w G A c r l) (col row pc pr : Int) (h1 : 0 ≤ col ∧ 1 ≤ pc ∧ col + pc ≤ c) (h2 : 0 ≤ row ∧ 1 ≤ pr ∧ row + pr ≤ r) :
    Calls Tryz.prog 127 #[.pointer (some ⟨G, 0, none⟩), .int .i64 col, .int .i64 row, .int .i64 pc, .int .i64 pr] w fun e w' => ∃ P PA, e = .returned (.pointer (some ⟨P, 0, none⟩)) ∧ Gs w' P PA pc pr (wantPs c col row pc pr l) ∧ w.heap.size ≤ P ∧ w.heap.size ≤ PA ∧ Below w.heap.size w w' := by
  have K := shPart_yes h col row pc pr (by simp [fitB]; omega) (by simp [fitB]; omega)
  rwa [part_eqS c r col row pc pr l h.len h.c1 h.c64 h.r64 h1.1 h1.2.2 h2.1 h2.2.2 h1.2.1 h2.2.1] at K

theorem parted_fin {w w3 : World} {c : Int} {L : List Ptr} {k : Cut} {F FA Q QA B : Nat} (a b : Value) (hF : Gs w3 F FA k.fc k.fr (wantPs c k.fx k.fy k.fc k.fr L)) (hQ : Gs w3 Q QA k.rc k.rr (wantPs c k.rx k.ry k.rc k.rr L)) (hB : w.heap.size ≤ B) (h1 : B < F) (h2 : B < FA) (h3 : B < Q) (h4 : B < QA) (hb : Below w.heap.size w w3) :
    PartedP w c L k (.returned (.tuple #[.pointer (some ⟨F, 0, none⟩), .pointer (some ⟨Q, 0, none⟩), .agg #[.int .i64 k.x, .int .i64 k.y]])) (((w3.setCell ⟨B, 0, none⟩ a).setCell ⟨B, 1, none⟩ b).drew) := by
  have hg1 : w3.grownBy (w3.setCell ⟨B, 0, none⟩ a) (some B) := grown_of_below (Below.refl _ _) B 0 a
  have hg2 : (w3.setCell ⟨B, 0, none⟩ a).grownBy (((w3.setCell ⟨B, 0, none⟩ a).setCell ⟨B, 1, none⟩ b).drew) (some B) :=
    have h := grown_of_below (Below.refl (w3.setCell ⟨B, 0, none⟩ a).heap.size (w3.setCell ⟨B, 0, none⟩ a)) B 1 b
    ⟨h.os, h.tape, h.output, h.size, h.block⟩
  have ne : ∀ x, B < x → some x ≠ some B := fun x hx e => by cases e; omega
  exact ⟨F, FA, Q, QA, rfl, (hF.kept hg1 (ne _ h1) (ne _ h2)).kept hg2 (ne _ h1) (ne _ h2), (hQ.kept hg1 (ne _ h3) (ne _ h4)).kept hg2 (ne _ h3) (ne _ h4), by omega,
    (hb.grown hg1 hb.size (fun k e => by cases e; exact hB)).grown hg2 (Nat.le_trans hb.size hg1.size) (fun k e => by cases e; exact hB)⟩

set_option maxRecDepth 100000 in
set_option maxHeartbeats 4000000 in
theorem parted_left {w : World} {G A : Nat} {c r : Int} {L : List Ptr} (h : Gs w G A c r L) (n : Int) (u : Bool) (hn : 1 ≤ n) (h2 : 2 * n ≤ c) :
    Calls Tryz.prog 106 #[.pointer (some ⟨G, 0, none⟩), .agg #[.int .i64 1, .int .i64 n, .bool u]] w (PartedP w c L (cutOf 1 n c r)) := by
  have hc := h.c64; have hc1 := h.c1
  have hr := h.r1; have hr1 := h.r64
  have KC := fun (w' : World) (hb : Below w.heap.size w w') => shCols_any (h.up hb)
  have KR := fun (w' : World) (hb : Below w.heap.size w w') => shRows_any (h.up hb)
  have KF := fun (w' : World) (hb : Below w.heap.size w w') => shPart_there (h.up hb) (0) (0) (n) (r) (by omega) (by omega)
  have KQ := fun (w' : World) (hb : Below w.heap.size w w') => shPart_there (h.up hb) (n) (0) (c - n) (r) (by omega) (by omega)
  have hcut : cutOf 1 n c r = ⟨0, 0, n, r, n, 0, c - n, r, 0, 0⟩ := by simp [cutOf]
  rw [hcut]
  have HC := Lib.hid KC; have HR := Lib.hid KR; have HF := Lib.hid KF; have HQ := Lib.hid KQ
  have x0 := (Bx.new w 50 [.int .i64 1, .int .i64 n, .bool u]).alloc (.cells #[.int .i64 0, .int .i64 0] 23)
  have y0 := Bx.new (w.alloc (.cells #[.int .i64 1, .int .i64 n, .bool u] 50)) 23 [.int .i64 0, .int .i64 0]
  have hb1 : Below w.heap.size w ((w.alloc (.cells #[.int .i64 1, .int .i64 n, .bool u] 50)).alloc (.cells #[.int .i64 0, .int .i64 0] 23)) := up_alloc (up_alloc (Below.refl _ _) _) _
  simp only [World.size_alloc] at y0
  have wn : IntKind.i64.wrap (c - n) = c - n := IntWalk.i64_in _ (by omega)
  have wm : IntKind.i64.wrap (r - n) = r - n := IntWalk.i64_in _ (by omega)
  have wk : IntKind.i64.wrap (2 * n) = 2 * n := IntWalk.i64_in _ (by omega)
  have wc : IntKind.i64.wrap (c - 2 * n) = c - 2 * n := IntWalk.i64_in _ (by omega)
  have wr : IntKind.i64.wrap (r - 2 * n) = r - 2 * n := IntWalk.i64_in _ (by omega)
  clear KC KR KF KQ h hcut
  go_enter Tryz.func106, Tryz.ntmps106
  go_wp2_with (first
    | (go_at_call 125; refine (HC.out _ hb1).mono ?_; rintro e w' ⟨rfl, rfl⟩)
    | (go_at_call 126; refine (HR.out _ hb1).mono ?_; rintro e w' ⟨rfl, rfl⟩))
  generalize ((w.alloc (.cells #[.int .i64 1, .int .i64 n, .bool u] 50)).alloc (.cells #[.int .i64 0, .int .i64 0] 23)) = w1 at *
  have X0 := Lib.hid x0; have Y0 := Lib.hid y0; have HB1 := Lib.hid hb1
  have k1 := x0.cell 1 rfl
  clear x0 y0 hb1 HC HR
  go_region_held3 (fun w' => w'.cell? ⟨w.heap.size, 1, none⟩ = some (.int .i64 n))
    (first | exact bl_cell hb3 (bl_cell hb2 k1) | exact bl_cell hb2 k1 | exact k1)
    (first
      | (go_at_call 127; with_reducible refine (HF.out _ (up_trans HB1.out (up_drew (Below.refl _ _)))).mono ?_; rintro e w2 ⟨F, FA, rfl, hF, hF1, hF2, hb2⟩)
      | (go_at_call 127; with_reducible refine (HQ.out _ (up_trans HB1.out (up_trans (up_drew (Below.refl _ _)) hb2))).mono ?_; rintro e w3 ⟨Q, QA, rfl, hQ, hQ1, hQ2, hb3⟩))
  have hb13 : Below w1.heap.size w1 w3 := up_trans (up_trans (up_drew (Below.refl _ _)) hb2) hb3
  have hy := Y0.out.up hb13
  have hx := X0.out.up hb13
  have y0 := hy.cell 0 rfl; have y1 := hy.cell 1 rfl; have f0 := hy.free 0; have f1 := hy.free 1; have x1 := hx.cell 1 rfl
  have HB3 := Lib.hid (up_trans HB1.out hb13)
  have hs1 := HB1.out.size
  have hs2 : w1.heap.size ≤ w2.heap.size := hb2.size
  have HFF := Lib.hid (hF.up hb3); have HQQ := Lib.hid hQ
  have hYl := Y0.out.lt
  simp only [show w1.drew.heap.size = w1.heap.size from rfl] at hF1 hF2
  clear hb2 hb3 hb13 hF hQ hx k1 HF HQ
  clear hy
  go_wp2
  go_region
  all_goals
    go_wp2
    exact bodyPost_ret (v := .tuple #[.pointer (some ⟨F, 0, none⟩), .pointer (some ⟨Q, 0, none⟩), .agg #[.int .i64 0, .int .i64 0]]) (by simp [results, Tryz.results106, go_sem, y0, y1]) rfl
      (parted_fin (k := ⟨0, 0, n, r, n, 0, c - n, r, 0, 0⟩) _ _ HFF.out HQQ.out (by omega) (by omega) (by omega) (by omega) (by omega) HB3.out)

set_option maxRecDepth 100000 in
set_option maxHeartbeats 4000000 in
theorem parted_right {w : World} {G A : Nat} {c r : Int} {L : List Ptr} (h : Gs w G A c r L) (n : Int) (u : Bool) (hn : 1 ≤ n) (h2 : 2 * n ≤ c) :
    Calls Tryz.prog 106 #[.pointer (some ⟨G, 0, none⟩), .agg #[.int .i64 2, .int .i64 n, .bool u]] w (PartedP w c L (cutOf 2 n c r)) := by
  have hc := h.c64; have hc1 := h.c1
  have hr := h.r1; have hr1 := h.r64
  have KC := fun (w' : World) (hb : Below w.heap.size w w') => shCols_any (h.up hb)
  have KR := fun (w' : World) (hb : Below w.heap.size w w') => shRows_any (h.up hb)
  have KF := fun (w' : World) (hb : Below w.heap.size w w') => shPart_there (h.up hb) (c - n) (0) (n) (r) (by omega) (by omega)
  have KQ := fun (w' : World) (hb : Below w.heap.size w w') => shPart_there (h.up hb) (0) (0) (c - n) (r) (by omega) (by omega)
  have hcut : cutOf 2 n c r = ⟨c - n, 0, n, r, 0, 0, c - n, r, c - 2 * n, 0⟩ := by simp [cutOf]
  rw [hcut]
  have HC := Lib.hid KC; have HR := Lib.hid KR; have HF := Lib.hid KF; have HQ := Lib.hid KQ
  have x0 := (Bx.new w 50 [.int .i64 2, .int .i64 n, .bool u]).alloc (.cells #[.int .i64 0, .int .i64 0] 23)
  have y0 := Bx.new (w.alloc (.cells #[.int .i64 2, .int .i64 n, .bool u] 50)) 23 [.int .i64 0, .int .i64 0]
  have hb1 : Below w.heap.size w ((w.alloc (.cells #[.int .i64 2, .int .i64 n, .bool u] 50)).alloc (.cells #[.int .i64 0, .int .i64 0] 23)) := up_alloc (up_alloc (Below.refl _ _) _) _
  simp only [World.size_alloc] at y0
  have wn : IntKind.i64.wrap (c - n) = c - n := IntWalk.i64_in _ (by omega)
  have wm : IntKind.i64.wrap (r - n) = r - n := IntWalk.i64_in _ (by omega)
  have wk : IntKind.i64.wrap (2 * n) = 2 * n := IntWalk.i64_in _ (by omega)
  have wc : IntKind.i64.wrap (c - 2 * n) = c - 2 * n := IntWalk.i64_in _ (by omega)
  have wr : IntKind.i64.wrap (r - 2 * n) = r - 2 * n := IntWalk.i64_in _ (by omega)
  clear KC KR KF KQ h hcut
  go_enter Tryz.func106, Tryz.ntmps106
  go_wp2_with (first
    | (go_at_call 125; refine (HC.out _ hb1).mono ?_; rintro e w' ⟨rfl, rfl⟩)
    | (go_at_call 126; refine (HR.out _ hb1).mono ?_; rintro e w' ⟨rfl, rfl⟩))
  generalize ((w.alloc (.cells #[.int .i64 2, .int .i64 n, .bool u] 50)).alloc (.cells #[.int .i64 0, .int .i64 0] 23)) = w1 at *
  have X0 := Lib.hid x0; have Y0 := Lib.hid y0; have HB1 := Lib.hid hb1
  have k1 := x0.cell 1 rfl
  clear x0 y0 hb1 HC HR
  go_region_held3 (fun w' => w'.cell? ⟨w.heap.size, 1, none⟩ = some (.int .i64 n))
    (first | exact bl_cell hb3 (bl_cell hb2 k1) | exact bl_cell hb2 k1 | exact k1)
    (first
      | (go_at_call 127; with_reducible refine (HF.out _ (up_trans HB1.out (up_drew (Below.refl _ _)))).mono ?_; rintro e w2 ⟨F, FA, rfl, hF, hF1, hF2, hb2⟩)
      | (go_at_call 127; with_reducible refine (HQ.out _ (up_trans HB1.out (up_trans (up_drew (Below.refl _ _)) hb2))).mono ?_; rintro e w3 ⟨Q, QA, rfl, hQ, hQ1, hQ2, hb3⟩))
  have hb13 : Below w1.heap.size w1 w3 := up_trans (up_trans (up_drew (Below.refl _ _)) hb2) hb3
  have hy := Y0.out.up hb13
  have hx := X0.out.up hb13
  have y0 := hy.cell 0 rfl; have y1 := hy.cell 1 rfl; have f0 := hy.free 0; have f1 := hy.free 1; have x1 := hx.cell 1 rfl
  have HB3 := Lib.hid (up_trans HB1.out hb13)
  have hs1 := HB1.out.size
  have hs2 : w1.heap.size ≤ w2.heap.size := hb2.size
  have HFF := Lib.hid (hF.up hb3); have HQQ := Lib.hid hQ
  have hYl := Y0.out.lt
  simp only [show w1.drew.heap.size = w1.heap.size from rfl] at hF1 hF2
  clear hb2 hb3 hb13 hF hQ hx k1 HF HQ
  go_wp2
  have hz := hy.set 0 (.int .i64 (c - 2 * n))
  simp only [List.set_cons_zero] at hz
  have hsz : (w3.setCell ⟨w.heap.size + 1, 0, none⟩ (.int .i64 (c - 2 * n))).heap.size = w3.heap.size := by simp [World.setCell]
  have hg1 : w3.grownBy (w3.setCell ⟨w.heap.size + 1, 0, none⟩ (.int .i64 (c - 2 * n))) (some (w.heap.size + 1)) := grown_of_below (Below.refl _ _) _ 0 _
  have ne : ∀ x, w.heap.size + 1 < x → some x ≠ some (w.heap.size + 1) := fun x hx e => by cases e; omega
  have hF4 := Lib.hid (HFF.out.kept hg1 (ne _ (by omega)) (ne _ (by omega)))
  have hQ4 := Lib.hid (HQQ.out.kept hg1 (ne _ (by omega)) (ne _ (by omega)))
  have HB4 := Lib.hid (HB3.out.grown hg1 HB3.out.size (fun k e => by cases e; omega))
  clear y0 y1 f0 f1 x1 hy hg1 ne HFF HQQ HB3 hsz
  generalize w3.setCell ⟨w.heap.size + 1, 0, none⟩ (.int .i64 (c - 2 * n)) = w4 at *
  have y0 := hz.cell 0 rfl; have y1 := hz.cell 1 rfl; have f0 := hz.free 0; have f1 := hz.free 1
  clear hz
  go_region
  all_goals
    go_wp2
    exact bodyPost_ret (v := .tuple #[.pointer (some ⟨F, 0, none⟩), .pointer (some ⟨Q, 0, none⟩), .agg #[.int .i64 (c - 2 * n), .int .i64 (0)]]) (by simp [results, Tryz.results106, go_sem, y0, y1]) rfl
      (parted_fin (k := ⟨c - n, 0, n, r, 0, 0, c - n, r, c - 2 * n, 0⟩) _ _ hF4.out hQ4.out (by omega) (by omega) (by omega) (by omega) (by omega) HB4.out)

set_option maxRecDepth 100000 in
set_option maxHeartbeats 4000000 in
theorem parted_foot {w : World} {G A : Nat} {c r : Int} {L : List Ptr} (h : Gs w G A c r L) (n : Int) (u : Bool) (hn : 1 ≤ n) (h2 : 2 * n ≤ r) :
    Calls Tryz.prog 106 #[.pointer (some ⟨G, 0, none⟩), .agg #[.int .i64 3, .int .i64 n, .bool u]] w (PartedP w c L (cutOf 3 n c r)) := by
  have hc := h.c64; have hc1 := h.c1
  have hr := h.r1; have hr1 := h.r64
  have KC := fun (w' : World) (hb : Below w.heap.size w w') => shCols_any (h.up hb)
  have KR := fun (w' : World) (hb : Below w.heap.size w w') => shRows_any (h.up hb)
  have KF := fun (w' : World) (hb : Below w.heap.size w w') => shPart_there (h.up hb) (0) (0) (c) (n) (by omega) (by omega)
  have KQ := fun (w' : World) (hb : Below w.heap.size w w') => shPart_there (h.up hb) (0) (n) (c) (r - n) (by omega) (by omega)
  have hcut : cutOf 3 n c r = ⟨0, 0, c, n, 0, n, c, r - n, 0, 0⟩ := by simp [cutOf]
  rw [hcut]
  have HC := Lib.hid KC; have HR := Lib.hid KR; have HF := Lib.hid KF; have HQ := Lib.hid KQ
  have x0 := (Bx.new w 50 [.int .i64 3, .int .i64 n, .bool u]).alloc (.cells #[.int .i64 0, .int .i64 0] 23)
  have y0 := Bx.new (w.alloc (.cells #[.int .i64 3, .int .i64 n, .bool u] 50)) 23 [.int .i64 0, .int .i64 0]
  have hb1 : Below w.heap.size w ((w.alloc (.cells #[.int .i64 3, .int .i64 n, .bool u] 50)).alloc (.cells #[.int .i64 0, .int .i64 0] 23)) := up_alloc (up_alloc (Below.refl _ _) _) _
  simp only [World.size_alloc] at y0
  have wn : IntKind.i64.wrap (c - n) = c - n := IntWalk.i64_in _ (by omega)
  have wm : IntKind.i64.wrap (r - n) = r - n := IntWalk.i64_in _ (by omega)
  have wk : IntKind.i64.wrap (2 * n) = 2 * n := IntWalk.i64_in _ (by omega)
  have wc : IntKind.i64.wrap (c - 2 * n) = c - 2 * n := IntWalk.i64_in _ (by omega)
  have wr : IntKind.i64.wrap (r - 2 * n) = r - 2 * n := IntWalk.i64_in _ (by omega)
  clear KC KR KF KQ h hcut
  go_enter Tryz.func106, Tryz.ntmps106
  go_wp2_with (first
    | (go_at_call 125; refine (HC.out _ hb1).mono ?_; rintro e w' ⟨rfl, rfl⟩)
    | (go_at_call 126; refine (HR.out _ hb1).mono ?_; rintro e w' ⟨rfl, rfl⟩))
  generalize ((w.alloc (.cells #[.int .i64 3, .int .i64 n, .bool u] 50)).alloc (.cells #[.int .i64 0, .int .i64 0] 23)) = w1 at *
  have X0 := Lib.hid x0; have Y0 := Lib.hid y0; have HB1 := Lib.hid hb1
  have k1 := x0.cell 1 rfl
  clear x0 y0 hb1 HC HR
  go_region_held3 (fun w' => w'.cell? ⟨w.heap.size, 1, none⟩ = some (.int .i64 n))
    (first | exact bl_cell hb3 (bl_cell hb2 k1) | exact bl_cell hb2 k1 | exact k1)
    (first
      | (go_at_call 127; with_reducible refine (HF.out _ (up_trans HB1.out (up_drew (Below.refl _ _)))).mono ?_; rintro e w2 ⟨F, FA, rfl, hF, hF1, hF2, hb2⟩)
      | (go_at_call 127; with_reducible refine (HQ.out _ (up_trans HB1.out (up_trans (up_drew (Below.refl _ _)) hb2))).mono ?_; rintro e w3 ⟨Q, QA, rfl, hQ, hQ1, hQ2, hb3⟩))
  have hb13 : Below w1.heap.size w1 w3 := up_trans (up_trans (up_drew (Below.refl _ _)) hb2) hb3
  have hy := Y0.out.up hb13
  have hx := X0.out.up hb13
  have y0 := hy.cell 0 rfl; have y1 := hy.cell 1 rfl; have f0 := hy.free 0; have f1 := hy.free 1; have x1 := hx.cell 1 rfl
  have HB3 := Lib.hid (up_trans HB1.out hb13)
  have hs1 := HB1.out.size
  have hs2 : w1.heap.size ≤ w2.heap.size := hb2.size
  have HFF := Lib.hid (hF.up hb3); have HQQ := Lib.hid hQ
  have hYl := Y0.out.lt
  simp only [show w1.drew.heap.size = w1.heap.size from rfl] at hF1 hF2
  clear hb2 hb3 hb13 hF hQ hx k1 HF HQ
  clear hy
  go_wp2
  go_region
  all_goals
    go_wp2
    exact bodyPost_ret (v := .tuple #[.pointer (some ⟨F, 0, none⟩), .pointer (some ⟨Q, 0, none⟩), .agg #[.int .i64 0, .int .i64 0]]) (by simp [results, Tryz.results106, go_sem, y0, y1]) rfl
      (parted_fin (k := ⟨0, 0, c, n, 0, n, c, r - n, 0, 0⟩) _ _ HFF.out HQQ.out (by omega) (by omega) (by omega) (by omega) (by omega) HB3.out)

set_option maxRecDepth 100000 in
set_option maxHeartbeats 4000000 in
theorem parted_head {w : World} {G A : Nat} {c r : Int} {L : List Ptr} (h : Gs w G A c r L) (n : Int) (u : Bool) (hn : 1 ≤ n) (h2 : 2 * n ≤ r) :
    Calls Tryz.prog 106 #[.pointer (some ⟨G, 0, none⟩), .agg #[.int .i64 4, .int .i64 n, .bool u]] w (PartedP w c L (cutOf 4 n c r)) := by
  have hc := h.c64; have hc1 := h.c1
  have hr := h.r1; have hr1 := h.r64
  have KC := fun (w' : World) (hb : Below w.heap.size w w') => shCols_any (h.up hb)
  have KR := fun (w' : World) (hb : Below w.heap.size w w') => shRows_any (h.up hb)
  have KF := fun (w' : World) (hb : Below w.heap.size w w') => shPart_there (h.up hb) (0) (r - n) (c) (n) (by omega) (by omega)
  have KQ := fun (w' : World) (hb : Below w.heap.size w w') => shPart_there (h.up hb) (0) (0) (c) (r - n) (by omega) (by omega)
  have hcut : cutOf 4 n c r = ⟨0, r - n, c, n, 0, 0, c, r - n, 0, r - 2 * n⟩ := by simp [cutOf]
  rw [hcut]
  have HC := Lib.hid KC; have HR := Lib.hid KR; have HF := Lib.hid KF; have HQ := Lib.hid KQ
  have x0 := (Bx.new w 50 [.int .i64 4, .int .i64 n, .bool u]).alloc (.cells #[.int .i64 0, .int .i64 0] 23)
  have y0 := Bx.new (w.alloc (.cells #[.int .i64 4, .int .i64 n, .bool u] 50)) 23 [.int .i64 0, .int .i64 0]
  have hb1 : Below w.heap.size w ((w.alloc (.cells #[.int .i64 4, .int .i64 n, .bool u] 50)).alloc (.cells #[.int .i64 0, .int .i64 0] 23)) := up_alloc (up_alloc (Below.refl _ _) _) _
  simp only [World.size_alloc] at y0
  have wn : IntKind.i64.wrap (c - n) = c - n := IntWalk.i64_in _ (by omega)
  have wm : IntKind.i64.wrap (r - n) = r - n := IntWalk.i64_in _ (by omega)
  have wk : IntKind.i64.wrap (2 * n) = 2 * n := IntWalk.i64_in _ (by omega)
  have wc : IntKind.i64.wrap (c - 2 * n) = c - 2 * n := IntWalk.i64_in _ (by omega)
  have wr : IntKind.i64.wrap (r - 2 * n) = r - 2 * n := IntWalk.i64_in _ (by omega)
  clear KC KR KF KQ h hcut
  go_enter Tryz.func106, Tryz.ntmps106
  go_wp2_with (first
    | (go_at_call 125; refine (HC.out _ hb1).mono ?_; rintro e w' ⟨rfl, rfl⟩)
    | (go_at_call 126; refine (HR.out _ hb1).mono ?_; rintro e w' ⟨rfl, rfl⟩))
  generalize ((w.alloc (.cells #[.int .i64 4, .int .i64 n, .bool u] 50)).alloc (.cells #[.int .i64 0, .int .i64 0] 23)) = w1 at *
  have X0 := Lib.hid x0; have Y0 := Lib.hid y0; have HB1 := Lib.hid hb1
  have k1 := x0.cell 1 rfl
  clear x0 y0 hb1 HC HR
  go_region_held3 (fun w' => w'.cell? ⟨w.heap.size, 1, none⟩ = some (.int .i64 n))
    (first | exact bl_cell hb3 (bl_cell hb2 k1) | exact bl_cell hb2 k1 | exact k1)
    (first
      | (go_at_call 127; with_reducible refine (HF.out _ (up_trans HB1.out (up_drew (Below.refl _ _)))).mono ?_; rintro e w2 ⟨F, FA, rfl, hF, hF1, hF2, hb2⟩)
      | (go_at_call 127; with_reducible refine (HQ.out _ (up_trans HB1.out (up_trans (up_drew (Below.refl _ _)) hb2))).mono ?_; rintro e w3 ⟨Q, QA, rfl, hQ, hQ1, hQ2, hb3⟩))
  have hb13 : Below w1.heap.size w1 w3 := up_trans (up_trans (up_drew (Below.refl _ _)) hb2) hb3
  have hy := Y0.out.up hb13
  have hx := X0.out.up hb13
  have y0 := hy.cell 0 rfl; have y1 := hy.cell 1 rfl; have f0 := hy.free 0; have f1 := hy.free 1; have x1 := hx.cell 1 rfl
  have HB3 := Lib.hid (up_trans HB1.out hb13)
  have hs1 := HB1.out.size
  have hs2 : w1.heap.size ≤ w2.heap.size := hb2.size
  have HFF := Lib.hid (hF.up hb3); have HQQ := Lib.hid hQ
  have hYl := Y0.out.lt
  simp only [show w1.drew.heap.size = w1.heap.size from rfl] at hF1 hF2
  clear hb2 hb3 hb13 hF hQ hx k1 HF HQ
  go_wp2
  have hz := hy.set 1 (.int .i64 (r - 2 * n))
  simp only [List.set_cons_zero, List.set_cons_succ] at hz
  have hsz : (w3.setCell ⟨w.heap.size + 1, 1, none⟩ (.int .i64 (r - 2 * n))).heap.size = w3.heap.size := by simp [World.setCell]
  have hg1 : w3.grownBy (w3.setCell ⟨w.heap.size + 1, 1, none⟩ (.int .i64 (r - 2 * n))) (some (w.heap.size + 1)) := grown_of_below (Below.refl _ _) _ 1 _
  have ne : ∀ x, w.heap.size + 1 < x → some x ≠ some (w.heap.size + 1) := fun x hx e => by cases e; omega
  have hF4 := Lib.hid (HFF.out.kept hg1 (ne _ (by omega)) (ne _ (by omega)))
  have hQ4 := Lib.hid (HQQ.out.kept hg1 (ne _ (by omega)) (ne _ (by omega)))
  have HB4 := Lib.hid (HB3.out.grown hg1 HB3.out.size (fun k e => by cases e; omega))
  clear y0 y1 f0 f1 x1 hy hg1 ne HFF HQQ HB3 hsz
  generalize w3.setCell ⟨w.heap.size + 1, 1, none⟩ (.int .i64 (r - 2 * n)) = w4 at *
  have y0 := hz.cell 0 rfl; have y1 := hz.cell 1 rfl; have f0 := hz.free 0; have f1 := hz.free 1
  clear hz
  go_region
  all_goals
    go_wp2
    exact bodyPost_ret (v := .tuple #[.pointer (some ⟨F, 0, none⟩), .pointer (some ⟨Q, 0, none⟩), .agg #[.int .i64 (0), .int .i64 (r - 2 * n)]]) (by simp [results, Tryz.results106, go_sem, y0, y1]) rfl
      (parted_fin (k := ⟨0, r - n, c, n, 0, 0, c, r - n, 0, r - 2 * n⟩) _ _ hF4.out hQ4.out (by omega) (by omega) (by omega) (by omega) (by omega) HB4.out)

end Go.Proofs.YtbfigaadbfggcaaGreatDoor
/- A region that draws its order and makes memory, in the body of a range over a function: the laws of such a region elsewhere serve here too, as long as it defers nothing. -/
namespace Go.Proofs.YtbfigaadbfggcaaGreatDoor
open Go.RowKit
set_option linter.unusedVariables false

theorem round_held {m n : Nat} {P : Program} {id : Nat} {Q : Exit → Act → World → Prop} {a : Act} {w : World} {l : List Oper} (S : World → Prop) (hm : P.follows .mixedOrders = true) (hnd : noDefer l = true) (hL : ¬ LetsOut Q) (hS : S w.drew)
    (h : S w.drew → wpAnyH P .any l.toArray Q S l.toArray.size (Array.replicate l.toArray.size false) a w.drew) : (Code.region id l.toArray true).wpIn (Fence.wide.inRound m) n P Q a w :=
  wpIn_region_any hm (wpAnyIn_of_any (noDefer_spec hnd) hL _ _ _ _ (wpAny_of_held _ _ _ _ (h hS)))
/-- An operation that yields v in every world that meets S is taken first; d: the slot that it writes. -/
theorem held_take {P : Program} {md : Region.Mode} {ops : Array Oper} {Q : Exit → Act → World → Prop} {S : World → Prop} (i : Nat) (d : Option Tmp) (v : Value) {oi : Oper} {fuel : Nat} {listed : Array Bool} {a : Act} {w : World} (hi : ops[i]? = some oi) (hd : oi.dst = d)
    (hs : Region.noSelect ops = true) (hf : Region.free md ops listed i = true) (hr : (Region.ready md ops listed).contains i = true)
    (hQ : ∀ c a w, Q (.panic c) (a.put d v) w → Q (.panic c) a w) (hy : YieldsIf P ops S oi v a) (hS : S w)
    (h : wpAnyH P md ops Q S fuel (listed.setIfInBounds i true) (a.put d v) w) : wpAnyH P md ops Q S (fuel + 1) listed a w := by
  subst hd
  exact wpAnyH_take hi hs hf hr hQ hy hS h
/-- An operation that must come next. -/
theorem held_next {P : Program} {md : Region.Mode} {ops : Array Oper} {Q : Exit → Act → World → Prop} {S : World → Prop} (i : Nat) {o : Oper} {fuel : Nat} {listed : Array Bool} {a : Act} {w : World} (hr : Region.ready md ops listed = [i]) (ho : ops[i]? = some o)
    (h : ∀ K' : Act → World → Prop, Shut (∀ a w, S w → (S w → wpAnyH P md ops Q S fuel (listed.setIfInBounds i true) a w) → K' a w) → if Region.wanted o (yielded ops a.tmps) = true then Oper.wp P o a w K' Q else K' (a.put o.dst undef) w) : wpAnyH P md ops Q S (fuel + 1) listed a w :=
  wpAnyH_ready hr (by simp) (AllReadyH.cons ho h AllReadyH.nil)
end Go.Proofs.YtbfigaadbfggcaaGreatDoor
