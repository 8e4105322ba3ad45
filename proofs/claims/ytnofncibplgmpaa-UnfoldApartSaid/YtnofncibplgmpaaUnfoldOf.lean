/- What unfold.Of answers: of each panel of a right scheme its leaf, and how it is flipped; nothing of any other one. -/
import Derived.Test.YtnofncibplgmpaaUnfoldFolded
import Derived.Test.YtnofncibplgmpaaUnfoldPerm
import Derived.Test.YtnofncibplgmpaaPanels
import Derived.Test.YtnofncibplgmpaaPileSeq
namespace Go.Proofs.Ytnofncibplgmpaa
open Go.RowKit Go.Shelf
set_option linter.unusedVariables false
attribute [local go_sem] Oper.semAt_some

theorem folded_no (s : Sc) (a : Option Addr) (cap : Nat) (w : World) (hc : s.c ≤ 9223372036854775807) (hr : s.r ≤ 9223372036854775807) (hl : s.l.length ≤ 1000000) (hI : InL w a s.l) (hn : rightM s = false) :
    Calls Try.prog 13 #[.agg #[.int .i64 s.c, .int .i64 s.r, .slice a s.l.length cap]] w fun e w' => e = .returned (.pointer none) ∧ Below w.heap.size w w' := by
  have KR := fun w1 (h : Below w.heap.size w w1) => schRight_any s a cap w1 hc hr hl (hI.up h)
  rw [hn] at KR
  have HR := Lib.hid KR
  have HB0 := Lib.hid (up_alloc (Below.refl _ w) (.cells #[.int .i64 s.c, .int .i64 s.r, .slice a s.l.length cap] 24))
  generalize s.l.length = n at *
  clear KR hI hn
  go_enter Try.func13, Try.ntmps13
  go_wp2_with fail
  refine (HR.out _ HB0.out).mono ?_
  rintro e w1 ⟨rfl, hb⟩
  have B1 := Lib.hid (up_trans HB0.out hb)
  clear hb
  go_wp2
  go_ret
  exact ⟨rfl, B1.out⟩
theorem unfOf_no (s : Sc) (a : Option Addr) (cap : Nat) (w : World) (hc : s.c ≤ 9223372036854775807) (hr : s.r ≤ 9223372036854775807) (hl : s.l.length ≤ 1000000) (hI : InL w a s.l) (hn : rightM s = false) :
    Calls Try.prog 7 #[.agg #[.int .i64 s.c, .int .i64 s.r, .slice a s.l.length cap]] w fun e w' => e = .returned (.slice none 0 0) ∧ Below w.heap.size w w' := by
  have KF := fun w1 (h : Below w.heap.size w w1) => folded_no s a cap w1 hc hr hl (hI.up h) hn
  have HF := Lib.hid KF
  have HB0 := Lib.hid (up_alloc (Below.refl _ w) (.cells #[.int .i64 s.c, .int .i64 s.r, .slice a s.l.length cap] 24))
  generalize s.l.length = n at *
  clear KF hI hn
  go_enter Try.func7, Try.ntmps7
  go_wp2_with fail
  refine (HF.out _ HB0.out).mono ?_
  rintro e w1 ⟨rfl, hb⟩
  have B1 := Lib.hid (up_trans HB0.out hb)
  clear hb
  go_wp2
  go_ret
  exact ⟨rfl, B1.out⟩

/-- What has been laid so far. -/
def setsP (l : List Pc) (pre : List (Ix l.length)) : List Pn := pre.foldl (fun acc k => ofStep l acc k.1) (List.replicate l.length default)
theorem setsP_snoc (l : List Pc) (pre : List (Ix l.length)) (k : Ix l.length) : setsP l (pre ++ [k]) = ofStep l (setsP l pre) k.1 := by simp [setsP]
theorem setsP_length (l : List Pc) (pre : List (Ix l.length)) : (setsP l pre).length = l.length := by
  unfold setsP
  generalize hr : List.replicate l.length (default : Pn) = acc
  have ha : acc.length = l.length := by rw [← hr]; simp
  clear hr
  induction pre generalizing acc with
  | nil => exact ha
  | cons k pre ih => exact ih _ (by unfold ofStep; rw [List.length_set]; exact ha)
theorem setsP_all (l : List Pc) : ∀ n, n ≤ l.length → setsP l (ixs l.length n) = ofL l n
  | 0, _ => rfl
  | n + 1, h => by rw [ixs_succ (by omega), setsP_snoc, setsP_all l n (by omega), ofL_succ]
theorem pnRow_own {β : Type} (g : Nat) (f : β → List Pn) : Own (fun s W => PnRow W g (f s)) := by
  rintro s X Y row h hg hr
  obtain ⟨cur, h1, h2⟩ := h
  refine ⟨cur, (hg.block g (Array.getElem?_eq_some_iff.1 h1).1 (fun e => ?_)).trans h1, h2⟩
  obtain ⟨o, ho, hc⟩ := hr g e.symm
  rw [h1] at ho
  cases ho
  cases hc

theorem keepP_set (W : World) (a : Addr) (v : Value) (hB : ∀ cur fr, W.heap[a.block]? = some (.cells cur 42 fr) → cur.size < 8) : KeepP W (W.setCell a v) :=
  ⟨by simp [World.setCell], fun b cur fr hn hc => by
    by_cases e : b = a.block
    · subst e
      have := hB cur fr hc
      omega
    · exact (Below.heap_setCell _ _ _ _ e).trans hc⟩
theorem keepP_setCells (W : World) (g o : Nat) (vs : List Value) (hB : ∀ cur fr, W.heap[g]? = some (.cells cur 42 fr) → cur.size < 8) : KeepP W (W.setCells g o vs) :=
  ⟨(setCells_but g g o vs W).size, fun b cur fr hn hc => by
    by_cases e : b = g
    · subst e
      have := hB cur fr hc
      omega
    · exact (World.heap_setCells_other _ _ _ _ (Array.getElem?_eq_some_iff.1 hc).1 e).trans hc⟩

set_option maxRecDepth 100000 in
set_option maxHeartbeats 4000000 in
theorem unfOf_core (c r : Int) (a : Option Addr) (n cap : Nat) (w : World) (l : List Pc) (hl0 : 0 < l.length) (hl64 : l.length ≤ 4096) (hn : ∀ k : Ix l.length, ∃ j : Nat, j < l.length ∧ (l[k.1]'k.2).n = (j : Int))
    (KF : ∀ w1, Below w.heap.size w w1 → Calls Try.prog 13 #[.agg #[.int .i64 c, .int .i64 r, .slice a n cap]] w1 fun e w' => ∃ D R, e = .returned (.pointer (some ⟨D, 0, none⟩)) ∧ Dp w' w1.heap.size D R l ∧ Below w1.heap.size w1 w') :
    Calls Try.prog 7 #[.agg #[.int .i64 c, .int .i64 r, .slice a n cap]] w fun e w' => ∃ g, e = .returned (.slice (some ⟨g, 0, none⟩) l.length l.length) ∧ PnRow w' g (ofL l l.length) ∧ w.heap.size ≤ g ∧ Below w.heap.size w w' := by
  have HF := Lib.hid KF; have HN := Lib.hid hn
  have HB0 := Lib.hid (up_alloc (Below.refl _ w) (.cells #[.int .i64 c, .int .i64 r, .slice a n cap] 24))
  have mk := run_make_pns l.length (by omega)
  clear KF hn
  refine (callsIn_wide (n := 3)).1 ?_
  refine callsIn_of_wp_marks Try.func7 rfl trivial ?_ rfl
  simp only [Try.ntmps7, List.size_toArray, List.length_cons, List.length_nil, Nat.reduceAdd, Nat.reduceSub, Array.replicate_succ, Array.replicate_zero, List.push_toArray, List.append_toArray, List.nil_append, List.cons_append]
  gi_wp2_with (first
    | (refine ⟨trivial, ?_⟩; gi_at_call 13; refine (callsIn_wide.2 (HF.out _ HB0.out)).mono ?_; rintro e w1 ⟨D, R, rfl, hD, hb1⟩; have HD := Lib.hid hD; have HB1 := Lib.hid (up_trans HB0.out hb1); clear hD hb1)
    | (refine ⟨trivial, ?_⟩; gi_at_call 14; refine (callsIn_wide.2 (pcLen_any HD.out)).mono ?_; rintro e w2 ⟨rfl, rfl⟩)
    | (refine ⟨trivial, ?_⟩; gi_at_call 15; refine (callsIn_wide.2 (pcAll_any _ _)).mono ?_; rintro e w4 ⟨rfl, rfl⟩))
  obtain ⟨W0, hW0⟩ : ∃ W0, (((w2.alloc (.cells (madeCells #[.int .i64 0, .bool false, .bool false] (l.length * 3)) 31)).alloc (.cells #[.slice (some ⟨w2.heap.size, 0, none⟩) l.length l.length] 26)).alloc (.cells #[.pointer (some ⟨D, 0, none⟩)] 38)) = W0 := ⟨_, rfl⟩
  have up2 : Below w2.heap.size w2 W0 := by rw [← hW0]; exact up_alloc (up_alloc (up_alloc (Below.refl _ _) _) _) _
  have upw : Below w.heap.size w W0 := up_trans HB1.out up2
  have y4 : Boxed W0 (w2.heap.size + 1) 26 (.slice (some ⟨w2.heap.size, 0, none⟩) l.length l.length) := by
    rw [← hW0]
    have := (Boxed.new (w2.alloc (.cells (madeCells #[.int .i64 0, .bool false, .bool false] (l.length * 3)) 31)) 26 (.slice (some ⟨w2.heap.size, 0, none⟩) l.length l.length)).alloc (.cells #[.pointer (some ⟨D, 0, none⟩)] 38)
    simpa only [World.size_alloc] using this
  have yR : PnRow W0 w2.heap.size (setsP l []) := by
    rw [← hW0]
    exact ((PnRow.made w2 l.length).up (up_alloc (Below.refl _ _) _)).up (up_alloc (Below.refl _ _) _)
  have yG : W0.cell? ⟨w2.heap.size + 1 + 1, 0, none⟩ = some (.pointer (some ⟨D, 0, none⟩)) := by rw [← hW0]; simp [go_sem]
  have hD := HD.out.up up2
  have hsz : W0.heap.size = w2.heap.size + 3 := by rw [← hW0]; simp
  have hsw := HB1.out.size
  rw [hW0]
  clear hW0 HB1 HD HF up2 mk
  refine wpIn_rangeFunc_ownH rfl (by decide) (gf := 24) (lb := #[.pointer (some ⟨w2.heap.size + 1 + 1, 0, none⟩)]) rfl trivial (enters_of Try.func24 (by kernel_rfl) rfl)
    (pcAll_stops 2 (w2.heap.size + 1 + 1) _ D R l hl0 (by omega) W0 yG hD) KeepP.trans (fun W l o o' _ h1 h2 _ => keepP_put W l o o' h1 h2) (Below.refl _ _) (fun _ => rfl)
    (fun pre W => (Boxed W (w2.heap.size + 1) 26 (.slice (some ⟨w2.heap.size, 0, none⟩) l.length l.length) ∧ PnRow W w2.heap.size (setsP l pre)) ∧ Below w.heap.size w W)
    (fun c pre W => False)
    (OwnFrom.and (OwnFrom.and (Own.from (boxed_own _ _ _) _) (Own.from (pnRow_own _ (fun pre => setsP l pre)) _)) (ownFrom_below (Nat.le_refl _) (by omega)))
    (fun c => ownFrom_pure _ (fun _ => False))
    ⟨⟨y4, yR⟩, upw⟩
    (fun k a' W => ∃ Bq, w2.heap.size + 1 < Bq ∧ BoxN W Bq 42 #[.int .i64 (l[k.1]'k.2).n, .int .i64 0, .bool (l[k.1]'k.2).fx, .bool (l[k.1]'k.2).fy] ∧
      a' = { tmps := #[.agg #[.int .i64 c, .int .i64 r, .slice a n cap], .pointer (some ⟨w.heap.size, 0, none⟩), .slice none 0 0, .pointer (some ⟨D, 0, none⟩), .pointer (some ⟨w2.heap.size + 1, 0, none⟩), .int .i64 (k.1 : Int), .pointer (some ⟨Bq, 0, none⟩), .agg #[.int .i64 c, .int .i64 r, .slice a n cap], .pointer (some ⟨D, 0, none⟩), .pointer (some ⟨D, 0, none⟩), .bool false, .pointer (some ⟨D, 0, none⟩), .int .i64 (l.length : Int), .slice (some ⟨w2.heap.size, 0, none⟩) l.length l.length, .pointer (some ⟨D, 0, none⟩), .func (.func 24) #[] #[.pointer (some ⟨w2.heap.size + 1 + 1, 0, none⟩)], .int .i64 (k.1 : Int), .agg #[.int .i64 (l[k.1]'k.2).n, .int .i64 0, .bool (l[k.1]'k.2).fx, .bool (l[k.1]'k.2).fy], undef, undef, undef, undef, undef, undef, undef, undef, undef, undef], defers := [] })
    (fun k a' _ X Y row hs hg hr => by obtain ⟨Bx, h1, h2, h4⟩ := hs; exact ⟨Bx, h1, boxN_own Bx _ _ () X Y row h2 hg (fun r e => (hr r e).2), h4⟩)
    ?assign ?body ?done ?stop
  case assign =>
    rintro l0 pre k W K ⟨⟨k4, kR⟩, hB1⟩ hK
    have hsW := hB1.size
    unfold encJ encQ Pc.val
    dsimp only
    obtain ⟨p, hp⟩ : ∃ p, l[k.1]'k.2 = p := ⟨_, rfl⟩
    rw [hp] at hK ⊢
    gi_wp2
    have h4 := (Array.getElem?_eq_some_iff.1 k4).1
    exact hK _ _ ((KeepsOthers.alloc _ _).from _) (keepP_below (up_alloc (Below.refl _ _) _)) ⟨⟨k4.alloc _, kR.up (up_alloc (Below.refl _ _) _)⟩, hB1.alloc hsW _⟩ ⟨W.heap.size, h4, World.alloc_heap_new W _, rfl⟩
  case body =>
    rintro l0 pre k a' W hl _ ⟨⟨k4, kR⟩, hB1⟩ ⟨Bq, hBq, kQ, rfl⟩ hlen
    obtain ⟨p, hp⟩ : ∃ p, l[k.1]'k.2 = p := ⟨_, rfl⟩
    obtain ⟨j, hj, hpj⟩ := HN.out k
    rw [hp] at kQ hpj ⊢
    have q0 := kQ.cell 0 rfl; have q1 := kQ.cell 1 rfl; have q2 := kQ.cell 2 rfl; have q3 := kQ.cell 3 rfl
    have c4 := k4.cell
    obtain ⟨Z, hZ⟩ : ∃ Z, W.setCell ⟨Bq, 1, none⟩ (.int .i64 (k.1 : Int)) = Z := ⟨_, rfl⟩
    have zR : PnRow Z w2.heap.size (setsP l pre) := by rw [← hZ]; exact kR.same (Below.heap_setCell _ _ _ _ (by simp only; omega))
    have z4 : Boxed Z (w2.heap.size + 1) 26 (.slice (some ⟨w2.heap.size, 0, none⟩) l.length l.length) := by rw [← hZ]; exact (Below.heap_setCell _ _ _ _ (by simp only; omega)).trans k4
    have zQ : BoxN Z Bq 42 #[.int .i64 (j : Int), .int .i64 (k.1 : Int), .bool p.fx, .bool p.fy] := by
      rw [← hZ]
      rw [hpj] at kQ
      unfold BoxN at kQ ⊢
      simp only [World.setCell, Array.getElem?_modify, if_true, kQ, Option.map_some]
      rfl
    have y0 := zQ.cell 0 rfl; have y1 := zQ.cell 1 rfl; have y2 := zQ.cell 2 rfl; have y3 := zQ.cell 3 rfl; have y4 := z4.cell
    have q1f := kQ.free 1
    have hjs : j < (setsP l pre).length := by rw [setsP_length]; exact hj
    obtain ⟨f0, f1, f2⟩ := zR.cells (List.getElem?_eq_getElem hjs)
    have g0 := zR.free (j * 3); have g1 := zR.free (j * 3 + 1); have g2 := zR.free (j * 3 + 2)
    have kp1 : KeepP W Z := by
      rw [← hZ]
      refine keepP_set _ _ _ (fun cur fr e => ?_)
      rw [show W.heap[Bq]? = _ from kQ] at e
      cases e
      show 4 < 8
      omega
    have ko1 : KeepsOthers W Z := by rw [← hZ]; exact KeepsOthers.setCell _ _ _
    have bl1 : Below w.heap.size w Z := by rw [← hZ]; exact hB1.setCell (by simp only; omega) _
    have zR2 := zR.stored hjs ⟨(k.1 : Int), p.fx, p.fy⟩
    have z42 : Boxed (Z.setCells w2.heap.size (j * 3) (Pn.cells ⟨(k.1 : Int), p.fx, p.fy⟩)) (w2.heap.size + 1) 26 (.slice (some ⟨w2.heap.size, 0, none⟩) l.length l.length) := (World.heap_setCells_other _ _ _ _ (Array.getElem?_eq_some_iff.1 z4).1 (by omega)).trans z4
    have kp2 : KeepP Z (Z.setCells w2.heap.size (j * 3) (Pn.cells ⟨(k.1 : Int), p.fx, p.fy⟩)) := by
      obtain ⟨cur, e1, _⟩ := zR
      refine keepP_setCells _ _ _ _ (fun cur fr e => ?_)
      rw [e1] at e
      cases e
    have KP := Lib.hid (kp1.trans kp2); have KO := Lib.hid ko1; have BL := Lib.hid bl1; have ZR := Lib.hid zR2; have Z4 := Lib.hid z42
    clear kp1 kp2 ko1 bl1 zR2 z42
    gi_wp2
    refine ⟨(((KO.out.trans (KeepsOthers.setCell _ _ _)).trans (KeepsOthers.setCell _ _ _)).trans (KeepsOthers.setCell _ _ _)).from _, KP.out, ⟨Z4.out, ?_⟩, ((BL.out.setCell (by simp only; omega) _).setCell (by simp only; omega) _).setCell (by simp only; omega) _⟩
    rw [setsP_snoc]
    unfold ofStep
    rw [List.getElem?_eq_getElem k.2, hp]
    simp only [Option.getD_some, hpj, Int.toNat_natCast]
    exact ZR.out
  case done =>
    rintro E ys W hE rfl ⟨⟨k4, kR⟩, hB1⟩ hK
    have c4 := k4.cell
    rw [setsP_all l _ (Nat.le_refl _)] at kR
    gi_wp2
    refine ⟨by simp, .inl ⟨_, _, rfl, run_takeDeferred hK, ?_⟩⟩
    exact ⟨_, results_tmp rfl _ _ _, w2.heap.size, rfl, pnRow_own _ (fun _ : Unit => _) () W _ _ kR (grownBy_putObj' W E (.deferred none)) (fun r e => by cases e; exact ⟨_, hK, rfl⟩), by omega, hB1.trans (belowK_b (w := w) (Nat.le_refl _) W E _ _ (by omega) hK rfl rfl)⟩
  case stop =>
    rintro D c pre W hD hpre h hK
    exact h.elim

theorem unfOf_yes (s : Sc) (a : Option Addr) (cap : Nat) (w : World) (hI : InL w a s.l) (hr : rightM s = true) :
    Calls Try.prog 7 #[.agg #[.int .i64 s.c, .int .i64 s.r, .slice a s.l.length cap]] w fun e w' => ∃ g, e = .returned (.slice (some ⟨g, 0, none⟩) (pcL s).length (pcL s).length) ∧ PnRow w' g (panL s) ∧ w.heap.size ≤ g ∧ Below w.heap.size w w' := by
  obtain ⟨hc, hrr, hm, hl6, hall⟩ := right_bounds hr
  have hp : 1 ≤ s.c * s.r := Int.le_trans (by omega) (Int.mul_le_mul hc.1 hrr.1 (by omega) (by omega) : 1 * 1 ≤ s.c * s.r)
  have hlen := pcL_length s
  exact unfOf_core s.c s.r a s.l.length cap w (pcL s) (by omega) (by omega) (fun k => pcL_num s k.1 k.2) (fun w1 h => folded_yes s a cap w1 (hI.up h) hr)
end Go.Proofs.Ytnofncibplgmpaa
