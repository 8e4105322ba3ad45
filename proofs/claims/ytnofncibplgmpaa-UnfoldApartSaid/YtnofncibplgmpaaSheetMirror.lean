/- What grid.Mirror answers: a grid of its own, left and right, or below and above, changed about; nil of nil. -/
import Derived.Test.YtnofncibplgmpaaSheetPart
import Derived.Test.YtnofncibplgmpaaRangeSmall
namespace Go.Proofs.Ytnofncibplgmpaa
open Go.RowKit Go.Shelf
set_option linter.unusedVariables false
attribute [local go_sem] Oper.semAt_some

/-- A thing is laid where it stands in the mirrored grid. -/
def stepMs (up : Bool) (c r : Int) (L : List Ptr) (x : (Int × Int) × Ptr) : List Ptr := if up = true then setS c r L (wrap64 (c - 1 - x.1.1)) x.1.2 x.2 else setS c r L x.1.1 (wrap64 (r - 1 - x.1.2)) x.2
def foldMs (up : Bool) (c r : Int) (xs : List ((Int × Int) × Ptr)) : List Ptr := xs.foldl (stepMs up c r) (List.replicate (c * r).toNat none)
theorem foldMs_snoc (up : Bool) (c r : Int) (xs : List ((Int × Int) × Ptr)) (x : (Int × Int) × Ptr) : foldMs up c r (xs ++ [x]) = stepMs up c r (foldMs up c r xs) x := by simp [foldMs]

/-- What lies there behind the first statement. -/
structure MadeS (w1 : World) (q : Option Addr) (B : Nat) (w' : World) : Prop where
  box : Boxed w' B 54 (.pointer q)
  up : Below w1.heap.size w1 w'
  new : w1.heap.size ≤ B

theorem madeS_after {w1 w3 : World} {c r : Int} {L : List Ptr} (hb3 : Below w1.heap.size w1 w3) (hP : Gs w3 (w1.heap.size + 1) w1.heap.size c r L) :
    MadeS w1 (some ⟨w1.heap.size + 1, 0, none⟩) w3.heap.size (w3.alloc (.cells #[.pointer (some ⟨w1.heap.size + 1, 0, none⟩)] 54)) ∧ Gs (w3.alloc (.cells #[.pointer (some ⟨w1.heap.size + 1, 0, none⟩)] 54)) (w1.heap.size + 1) w1.heap.size c r L ∧
    w1.heap.size ≤ w1.heap.size + 1 ∧ w1.heap.size ≤ w1.heap.size ∧ w3.heap.size ≠ w1.heap.size + 1 ∧ w3.heap.size ≠ w1.heap.size :=
  ⟨⟨Boxed.new w3 _ _, up_alloc hb3 _, hb3.size⟩, hP.up (up_alloc (Below.refl _ _) _), by omega, by omega, by have := hP.ltG; omega, by have := hP.ltG; omega⟩
theorem madeS_before {w1 w3 : World} {c r : Int} {L : List Ptr} {v : Value} (hb3 : Below (w1.alloc (.cells #[v] 54)).heap.size (w1.alloc (.cells #[v] 54)) w3) (hP : Gs w3 ((w1.alloc (.cells #[v] 54)).heap.size + 1) (w1.alloc (.cells #[v] 54)).heap.size c r L) :
    MadeS w1 (some ⟨w1.heap.size + 1 + 1, 0, none⟩) w1.heap.size (w3.setCell ⟨w1.heap.size, 0, none⟩ (.pointer (some ⟨w1.heap.size + 1 + 1, 0, none⟩))) ∧ Gs (w3.setCell ⟨w1.heap.size, 0, none⟩ (.pointer (some ⟨w1.heap.size + 1 + 1, 0, none⟩))) (w1.heap.size + 1 + 1) (w1.heap.size + 1) c r L ∧
    w1.heap.size ≤ w1.heap.size + 1 + 1 ∧ w1.heap.size ≤ w1.heap.size + 1 ∧ w1.heap.size ≠ w1.heap.size + 1 + 1 ∧ w1.heap.size ≠ w1.heap.size + 1 := by
  rw [World.size_alloc] at hP
  have hbx : Boxed w3 w1.heap.size 54 v := (hb3.block w1.heap.size (by simp)).trans (Boxed.new w1 _ _)
  exact ⟨⟨hbx.set _, up_set (up_trans (up_alloc (Below.refl _ _) _) hb3) (Nat.le_refl _) _, Nat.le_refl _⟩, hP.kept (grownBy_setCell' w3 w1.heap.size _) (by simp; omega) (by simp), by omega, by omega, by omega, by omega⟩

theorem keepS_other {A Bq : Nat} {t : TypeId} (ht : t ≠ 38) {W W1 : World} {a b : Value} (hB : Boxed2 W Bq t a b) (hg : W.grownBy W1 (some Bq)) : KeepS (OneS A) W W1 :=
  ⟨hg.size, fun b _ ho => ho, fun b' cur fr hn hb => by
    refine (hg.block b' (Array.getElem?_eq_some_iff.1 hb).1 (fun e => ?_)).trans hb
    obtain rfl : b' = Bq := by injection e
    rw [show W.heap[b']? = _ from hB] at hb
    injection hb with h1
    injection h1 with _ h2
    exact ht h2⟩

set_option maxRecDepth 100000 in
set_option maxHeartbeats 4000000 in
theorem shMirror_yes {w : World} {G A : Nat} {c r : Int} {l : List Ptr} (h : Gs w G A c r l) (up : Bool) :
    Calls Try.prog 37 #[.pointer (some ⟨G, 0, none⟩), .bool up] w fun e w' => ∃ P PA, e = .returned (.pointer (some ⟨P, 0, none⟩)) ∧ Gs w' P PA c r (foldMs up c r (ptS c l l.length)) ∧ w.heap.size ≤ P ∧ w.heap.size ≤ PA ∧ Below w.heap.size w w' := by
  have i1 : inB c 1 64 = true := by have := h.c1; have := h.c64; simp [inB]; omega
  have i2 : inB r 1 64 = true := by have := h.r1; have := h.r64; simp [inB]; omega
  have c1 := h.c1; have c64 := h.c64; have r1 := h.r1; have r64 := h.r64
  have KN := fun w => shNew_yes c r i1 i2 w
  have KC := fun (w' : World) (hb : Below w.heap.size w w') => shCols_any (h.up hb)
  have KR := fun (w' : World) (hb : Below w.heap.size w w') => shRows_any (h.up hb)
  have HN := Lib.hid KN; have HC := Lib.hid KC; have HR := Lib.hid KR; have HG := Lib.hid h
  clear KN KC KR h i1 i2
  refine (callsIn_wide (n := 3)).1 ?_
  refine callsIn_of_wp_marks Try.func37 rfl trivial ?_ rfl
  simp only [Try.ntmps37, List.size_toArray, List.length_cons, List.length_nil, Nat.reduceAdd, Nat.reduceSub, Array.replicate_succ, Array.replicate_zero, List.push_toArray, List.append_toArray, List.nil_append, List.cons_append]
  gi_wp2
  have y0 := Boxed.alloc (Boxed.new w 54 (.pointer (some ⟨G, 0, none⟩))) (.cells #[.bool up] 4)
  have y1 := Boxed.new (w.alloc (.cells #[.pointer (some ⟨G, 0, none⟩)] 54)) 4 (.bool up)
  have hb1 : Below w.heap.size w ((w.alloc (.cells #[.pointer (some ⟨G, 0, none⟩)] 54)).alloc (.cells #[.bool up] 4)) := up_alloc (up_alloc (Below.refl _ _) _) _
  simp only [World.size_alloc] at y1
  have hsz : ((w.alloc (.cells #[.pointer (some ⟨G, 0, none⟩)] 54)).alloc (.cells #[.bool up] 4)).heap.size = w.heap.size + 2 := by simp
  generalize ((w.alloc (.cells #[.pointer (some ⟨G, 0, none⟩)] 54)).alloc (.cells #[.bool up] 4)) = w1 at *
  have Y0 := Lib.hid y0; have Y1 := Lib.hid y1; have HB1 := Lib.hid hb1; have HZ := Lib.hid hsz
  have x0 := y0.cell
  have X0 := Lib.hid x0
  clear y0 y1 hb1 hsz
  refine wpIn_wide.2 ?_
  refine wp_weak (Q := fun e a' w' => e = .normal ∧ ∃ B P PA, MadeS w1 (some ⟨P, 0, none⟩) B w' ∧ Gs w' P PA c r (List.replicate (c * r).toNat none) ∧ w1.heap.size ≤ P ∧ w1.heap.size ≤ PA ∧ B ≠ P ∧ B ≠ PA ∧ a' = { tmps := #[.pointer (some ⟨G, 0, none⟩), .bool up, .pointer (some ⟨w.heap.size, 0, none⟩), .pointer (some ⟨w.heap.size + 1, 0, none⟩), .pointer none, .pointer (some ⟨B, 0, none⟩), undef, undef, .pointer (some ⟨G, 0, none⟩), .int .i64 c, .pointer (some ⟨G, 0, none⟩), .int .i64 r, .pointer (some ⟨P, 0, none⟩), undef, undef, undef, undef, undef, undef, undef, undef, undef, undef, undef, undef, undef, undef, undef, undef, undef, undef, undef, undef, undef, undef, undef, undef, undef, undef, undef, undef, undef, undef, undef], defers := [] }) ?_ ?_
  · go_region_held3 (fun w' => w'.cell? ⟨w.heap.size, 0, none⟩ = some (.pointer (some ⟨G, 0, none⟩)))
      ((refine bl_cell (w := w1) ?_ X0.out; repeat (first | exact Below.refl _ _ | apply up_drew | apply up_alloc | (refine up_trans ?_ hb3) | (refine up_set ?_ (by simp) _))))
      (first
        | (go_at_call 51; (refine Calls.mono (HC.out _ (up_trans HB1.out (by repeat (first | exact Below.refl _ _ | apply up_drew | apply up_alloc)))) ?_); rintro e w2 ⟨rfl, rfl⟩)
        | (go_at_call 52; (refine Calls.mono (HR.out _ (up_trans HB1.out (by repeat (first | exact Below.refl _ _ | apply up_drew | apply up_alloc)))) ?_); rintro e w2 ⟨rfl, rfl⟩)
        | (go_at_call 31; refine (HN.out _).mono ?_; rintro e w3 ⟨rfl, hP, hb3⟩; have hcm := kept_cells hb3; have hfm := kept_marks hb3; have zm := hb3.size; (try simp at zm); (try (have q1 : w1.heap.size < w3.heap.size := by omega)); (try (have q2 : w1.heap.size + 1 < w3.heap.size := by omega))))
    all_goals
      clear hcm hfm
      first
        | (obtain ⟨m1, m2, m3, m4, m5, m6⟩ := madeS_after (w1 := w1) (up_trans (up_drew (Below.refl _ _)) hb3) hP; exact ⟨rfl, _, _, _, m1, m2, m3, m4, m5, m6, rfl⟩)
        | (obtain ⟨m1, m2, m3, m4, m5, m6⟩ := madeS_before (w1 := w1) (v := .pointer none) (up_trans (up_drew (Below.refl _ _)) hb3) hP; exact ⟨rfl, _, _, _, m1, m2, m3, m4, m5, m6, rfl⟩)
  · rintro _ _ w2 ⟨rfl, B, P, PA, hM, hP, hlP, hlA, hn1, hn2, rfl⟩
    rename_i hK
    refine hK _ _ ?_
    clear hK x0 X0
    have y0 : Boxed w2 w.heap.size 54 (.pointer (some ⟨G, 0, none⟩)) := (hM.up.block _ Y0.out.lt).trans Y0.out
    have y1 : Boxed w2 (w.heap.size + 1) 4 (.bool up) := (hM.up.block _ Y1.out.lt).trans Y1.out
    have hb2 : Below w.heap.size w w2 := up_trans HB1.out hM.up
    have hsB : w.heap.size + 2 ≤ B := by have := hM.new; rw [HZ.out] at this; exact this
    have hsP : w.heap.size + 2 ≤ P := by rw [HZ.out] at hlP; exact hlP
    have hsA : w.heap.size + 2 ≤ PA := by rw [HZ.out] at hlA; exact hlA
    have yB := hM.box
    clear Y0 Y1 HB1 HZ HC HR HN hM hlP hlA
    have x0 := y0.cell
    have Y0 := Lib.hid y0; have Y1 := Lib.hid y1; have YB := Lib.hid yB; have HB2 := Lib.hid hb2; have HP := Lib.hid hP
    clear y0 y1 yB hb2 hP
    gi_wp2_with (refine ⟨trivial, ?_⟩; gi_at_call 32; refine (callsIn_wide.2 (shAll_any _ _)).mono ?_; rintro e w4 ⟨rfl, rfl⟩)
    obtain ⟨W0, hW0⟩ : ∃ W0, (w2.alloc (.cells #[.pointer (some ⟨G, 0, none⟩)] 54)) = W0 := ⟨_, rfl⟩
    have up2 : Below w2.heap.size w2 W0 := by rw [← hW0]; exact up_alloc (Below.refl _ _) _
    have upw : Below w.heap.size w W0 := up_trans HB2.out up2
    have y0 : Boxed W0 w.heap.size 54 (.pointer (some ⟨G, 0, none⟩)) := (up2.block _ Y0.out.lt).trans Y0.out
    have y1 : Boxed W0 (w.heap.size + 1) 4 (.bool up) := (up2.block _ Y1.out.lt).trans Y1.out
    have yB : Boxed W0 B 54 (.pointer (some ⟨P, 0, none⟩)) := (up2.block _ YB.out.lt).trans YB.out
    have yG : Boxed W0 w2.heap.size 54 (.pointer (some ⟨G, 0, none⟩)) := by rw [← hW0]; exact Boxed.new w2 _ _
    have gP : Gs W0 P PA c r (foldMs up c r []) := HP.out.up up2
    have gG : Gs W0 G A c r l := HG.out.up upw
    have hsz : W0.heap.size = w2.heap.size + 1 := by rw [← hW0]; simp
    have ltB := YB.out.lt
    have ltP := HP.out.ltG
    have ltA := HP.out.ltA
    have ltG := HG.out.ltG
    rw [hW0]
    clear hW0 x0 Y0 Y1 YB HB2 HP up2
    refine wpIn_rangeFunc_ownH rfl (by decide) (gf := 49) (lb := #[.pointer (some ⟨w2.heap.size, 0, none⟩)]) rfl trivial (enters_of Try.func49 (by kernel_rfl) rfl)
      (shAll_stops 2 (OneS PA) w2.heap.size G A c r l W0 yG.cell gG (fun W' hb b ho => by unfold OneS at ho; omega) (fun V V' _ h => oneS_up _ V V' h)) KeepS.trans (fun W l o o' _ h1 h2 _ => oneS_put _ W l o o' h1 h2) (Below.refl _ _) (fun _ => rfl)
      (fun pre W => (Gs W P PA c r (foldMs up c r pre) ∧ (Boxed W w.heap.size 54 (.pointer (some ⟨G, 0, none⟩)) ∧ (Boxed W (w.heap.size + 1) 4 (.bool up) ∧ (Boxed W B 54 (.pointer (some ⟨P, 0, none⟩)) ∧ Boxed W w2.heap.size 54 (.pointer (some ⟨G, 0, none⟩)))))) ∧ Below w.heap.size w W)
      (fun c pre W => False)
      (OwnFrom.and (OwnFrom.and (Own.from (gs_own _ _ _ _ _) _) (OwnFrom.and (Own.from (boxed_own _ _ _) _) (OwnFrom.and (Own.from (boxed_own _ _ _) _) (OwnFrom.and (Own.from (boxed_own _ _ _) _) (Own.from (boxed_own _ _ _) _))))) (ownFrom_below (Nat.le_refl _) (by omega)))
      (fun c => ownFrom_pure _ (fun _ => False))
      ⟨⟨gP, y0, y1, yB, yG⟩, upw⟩
      (fun x a' W => ∃ Bq, w2.heap.size < Bq ∧ Boxed2 W Bq 70 (.int .i64 x.1.1) (.int .i64 x.1.2) ∧
        a' = { tmps := #[.pointer (some ⟨G, 0, none⟩), .bool up, .pointer (some ⟨w.heap.size, 0, none⟩), .pointer (some ⟨w.heap.size + 1, 0, none⟩), .pointer none, .pointer (some ⟨B, 0, none⟩), .pointer (some ⟨Bq, 0, none⟩), .pointer x.2, .pointer (some ⟨G, 0, none⟩), .int .i64 c, .pointer (some ⟨G, 0, none⟩), .int .i64 r, .pointer (some ⟨P, 0, none⟩), .pointer (some ⟨G, 0, none⟩), .func (.func 49) #[] #[.pointer (some ⟨w2.heap.size, 0, none⟩)], .agg #[.int .i64 x.1.1, .int .i64 x.1.2], .pointer x.2, undef, undef, undef, undef, undef, undef, undef, undef, undef, undef, undef, undef, undef, undef, undef, undef, undef, undef, undef, undef, undef, undef, undef, undef, undef, undef, undef], defers := [] })
      (fun x a' _ X Y row hs hg hr => by obtain ⟨Bx, h1, h2, h4⟩ := hs; exact ⟨Bx, h1, boxed2_own Bx _ _ _ () X Y row h2 hg (fun r e => (hr r e).2), h4⟩)
      ?assign ?body ?done ?stop
    case assign =>
      rintro l0 pre x W K ⟨⟨hg, k0, k1, kB, kG⟩, hB1⟩ hK
      unfold encV
      gi_wp2
      exact hK _ _ ((KeepsOthers.alloc _ _).from _) (oneS_up _ _ _ (up_alloc (Below.refl _ _) _)) ⟨⟨hg.up (up_alloc (Below.refl _ _) _), k0.alloc _, k1.alloc _, kB.alloc _, kG.alloc _⟩, hB1.alloc hB1.size _⟩ ⟨W.heap.size, kG.lt, World.alloc_heap_new W _, rfl⟩
    case body =>
      rintro l0 pre x a' W hl _ ⟨⟨hg, k0, k1, kB, kG⟩, hB1⟩ ⟨Bq, hBq, kQ, rfl⟩ hlen
      obtain ⟨⟨px, py⟩, v⟩ := x
      have gW := HG.out.up hB1
      have e0 := fun u : Later W => u.cell k0.cell
      have e1 := k1.cell
      have g0 := fun u : Later W => u.cell (gW.box.cell 0 rfl)
      have g1 := fun u : Later W => u.cell (gW.box.cell 1 rfl)
      have q0 := fun u : Later W => u.cell kQ.c0
      have q1 := fun u : Later W => u.cell kQ.c1
      have qf := fun (u : Later W) (j : Nat) => (kept_marks u.up Bq j (Array.getElem?_eq_some_iff.1 kQ).1).trans (kQ.free j)
      clear gW
      simp only at q0 q1
      have HS := Lib.hid (foldMs_snoc up c r pre ((px, py), v))
      cases up
      · obtain ⟨d, hd⟩ : ∃ d, wrap64 (r - 1 - py) = d := ⟨_, rfl⟩
        have hs : foldMs false c r (pre ++ [((px, py), v)]) = setS c r (foldMs false c r pre) px d v := by rw [HS.out, ← hd]; rfl
        have HT := Lib.hid hs; have HG2 := Lib.hid hg; have HQ := Lib.hid qf
        clear hs hg HS
        gi_wp2
        refine later_start (w := W) ?_
        intro u
        refine round_tail 9 (by kernel_rfl) (by kernel_rfl) (by kernel_rfl) ?_ ?_
        · rintro ⟨a, w, h⟩
          exact h
        · simp only [List.take_succ_cons, List.take_zero, List.drop_succ_cons, List.drop_zero]
          repeat (go_big_quiet_step (fail))
          refine wpQuiet_nil ?_
          rintro _ ⟨u2, rfl⟩
          rw [hd]
          have f0 := qf u2 1; have z0 := q1 u2
          have hgr : W.grownBy (u2.now.setCell ⟨Bq, 1, none⟩ (.int .i64 d)) (some Bq) := grown_of_below u2.up Bq 1 _
          have c0 : (u2.now.setCell ⟨Bq, 1, none⟩ (.int .i64 d)).cell? ⟨Bq, 1, none⟩ = some (.int .i64 d) := World.cell?_setCell_same _ _ _ (q1 u2)
          have c1 : (u2.now.setCell ⟨Bq, 1, none⟩ (.int .i64 d)).cell? ⟨Bq, 0, none⟩ = some (.int .i64 px) := (World.cell?_setCell_other _ _ _ _ (by simp)).trans (q0 u2)
          clear e0 g0 g1 q0 q1 qf e1
          go_wp2
          clear z0 f0
          generalize u2.now.setCell ⟨Bq, 1, none⟩ (.int .i64 d) = W1 at *
          have hg1 := HG2.out.kept hgr (by simp; omega) (by simp; omega)
          have kB1 := kB.kept hgr (by simp; omega)
          have cB := kB1.cell
          have HG3 := Lib.hid hg1; have HR1 := Lib.hid hgr
          clear hg1 hgr
          gi_wp2_with (refine ⟨trivial, ?_⟩; gi_at_call 33; refine (CallsIn.inRound l0 (callsIn_wide.2 (shSet_any HG3.out _ _ _))).mono ?_; rintro e W2 ⟨rfl, hg2, hgr2⟩)
          have hgr := HR1.out
          refine ⟨((KeepsOthers.of_grownBy hgr fun j o ej hj => ?_).trans (KeepsOthers.of_grownBy hgr2 fun j o ej hj => ?_)).from _, (keepS_other (by decide) kQ hgr).trans (oneS_grown _ hgr2), ⟨⟨?_, (k0.kept hgr (by simp; omega)).kept hgr2 (by simp; omega), (k1.kept hgr (by simp; omega)).kept hgr2 (by simp; omega), kB1.kept hgr2 (by simp; omega), (kG.kept hgr (by simp; omega)).kept hgr2 (by simp; omega)⟩, (hB1.grown hgr hB1.size (fun k e => by cases e; omega)).grown hgr2 (by have := hB1.size; have := hgr.size; omega) (fun k e => by cases e; omega)⟩⟩
          · cases ej
            rw [show W.heap[Bq]? = _ from kQ] at hj
            cases hj
            rfl
          · cases ej
            exact HG3.out.isCells hj
          · rw [HT.out]
            exact hg2
      · obtain ⟨d, hd⟩ : ∃ d, wrap64 (c - 1 - px) = d := ⟨_, rfl⟩
        have hs : foldMs true c r (pre ++ [((px, py), v)]) = setS c r (foldMs true c r pre) d py v := by rw [HS.out, ← hd]; rfl
        have HT := Lib.hid hs; have HG2 := Lib.hid hg; have HQ := Lib.hid qf
        clear hs hg HS
        gi_wp2
        refine later_start (w := W) ?_
        intro u
        refine round_tail 9 (by kernel_rfl) (by kernel_rfl) (by kernel_rfl) ?_ ?_
        · rintro ⟨a, w, h⟩
          exact h
        · simp only [List.take_succ_cons, List.take_zero, List.drop_succ_cons, List.drop_zero]
          repeat (go_big_quiet_step (fail))
          refine wpQuiet_nil ?_
          rintro _ ⟨u2, rfl⟩
          rw [hd]
          have f0 := qf u2 0; have z0 := q0 u2
          have hgr : W.grownBy (u2.now.setCell ⟨Bq, 0, none⟩ (.int .i64 d)) (some Bq) := grown_of_below u2.up Bq 0 _
          have c0 : (u2.now.setCell ⟨Bq, 0, none⟩ (.int .i64 d)).cell? ⟨Bq, 0, none⟩ = some (.int .i64 d) := World.cell?_setCell_same _ _ _ (q0 u2)
          have c1 : (u2.now.setCell ⟨Bq, 0, none⟩ (.int .i64 d)).cell? ⟨Bq, 1, none⟩ = some (.int .i64 py) := (World.cell?_setCell_other _ _ _ _ (by simp)).trans (q1 u2)
          clear e0 g0 g1 q0 q1 qf e1
          go_wp2
          clear z0 f0
          generalize u2.now.setCell ⟨Bq, 0, none⟩ (.int .i64 d) = W1 at *
          have hg1 := HG2.out.kept hgr (by simp; omega) (by simp; omega)
          have kB1 := kB.kept hgr (by simp; omega)
          have cB := kB1.cell
          have HG3 := Lib.hid hg1; have HR1 := Lib.hid hgr
          clear hg1 hgr
          gi_wp2_with (refine ⟨trivial, ?_⟩; gi_at_call 33; refine (CallsIn.inRound l0 (callsIn_wide.2 (shSet_any HG3.out _ _ _))).mono ?_; rintro e W2 ⟨rfl, hg2, hgr2⟩)
          have hgr := HR1.out
          refine ⟨((KeepsOthers.of_grownBy hgr fun j o ej hj => ?_).trans (KeepsOthers.of_grownBy hgr2 fun j o ej hj => ?_)).from _, (keepS_other (by decide) kQ hgr).trans (oneS_grown _ hgr2), ⟨⟨?_, (k0.kept hgr (by simp; omega)).kept hgr2 (by simp; omega), (k1.kept hgr (by simp; omega)).kept hgr2 (by simp; omega), kB1.kept hgr2 (by simp; omega), (kG.kept hgr (by simp; omega)).kept hgr2 (by simp; omega)⟩, (hB1.grown hgr hB1.size (fun k e => by cases e; omega)).grown hgr2 (by have := hB1.size; have := hgr.size; omega) (fun k e => by cases e; omega)⟩⟩
          · cases ej
            rw [show W.heap[Bq]? = _ from kQ] at hj
            cases hj
            rfl
          · cases ej
            exact HG3.out.isCells hj
          · rw [HT.out]
            exact hg2
    case done =>
      rintro D ys W hD rfl ⟨⟨hg, k0, k1, kB, kG⟩, hB1⟩ hK
      have hc := kB.cell
      gi_wp2
      refine ⟨by simp, .inl ⟨_, _, rfl, run_takeDeferred hK, ?_⟩⟩
      exact ⟨_, results_tmp rfl _ _ _, _, PA, rfl, hg.put hK rfl, by omega, by omega, hB1.trans (belowK_b (w := w) (Nat.le_refl _) W D _ _ (by omega) hK rfl rfl)⟩
    case stop =>
      rintro D c pre W hD hpre h hK
      exact h.elim

end Go.Proofs.Ytnofncibplgmpaa
