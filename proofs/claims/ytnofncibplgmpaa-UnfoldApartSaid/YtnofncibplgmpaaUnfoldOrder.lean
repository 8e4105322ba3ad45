/- What unfold.Order answers: of a right scheme the numbers of all panels, by leaves; nothing of any other one. -/
import Derived.Maps.OwnIn
import Derived.Test.YtnofncibplgmpaaUnfoldOf
import Derived.Test.YtnofncibplgmpaaRowI
namespace Go.Proofs.Ytnofncibplgmpaa
open Go.RowKit Go.Shelf
set_option linter.unusedVariables false
attribute [local go_sem] Oper.semAt_some

theorem Try.infoNum : (Try.prog.info? 3).map (fun i => (i.zero, i.size, i.bytes)) = some (some (.int .i64 0), 1, 8) := by kernel_rfl
/-- The numbers that have come. -/
def numsV (l : List Pc) (pre : List (Ix l.length)) : List Value := pre.map fun k => .int .i64 (l[k.1]'k.2).n
theorem numsV_snoc (l : List Pc) (pre : List (Ix l.length)) (k : Ix l.length) : numsV l (pre ++ [k]) = numsV l pre ++ [.int .i64 (l[k.1]'k.2).n] := by simp [numsV]
theorem numsV_all (l : List Pc) : numsV l (ixs l.length l.length) = (l.map Pc.n).map (Value.int .i64) := by
  apply List.ext_getElem?
  intro j
  unfold numsV
  rw [List.getElem?_map, List.map_map, List.getElem?_map]
  by_cases h : j < l.length
  · obtain ⟨h1, e⟩ := ixs_at _ (Nat.le_refl l.length) j h
    rw [e, List.getElem?_eq_getElem h]
    rfl
  · rw [List.getElem?_eq_none (by rw [ixs_length _ (Nat.le_refl _)]; omega), List.getElem?_eq_none (by omega)]
    rfl
theorem cell_a (w : World) (x : Value) (t : TypeId) : ∀ j u, [x][j]? = some u → (w.alloc (.cells #[x] t)).cell? ((⟨w.heap.size, 0, none⟩ : Addr).add j) = some u := by
  intro j u hj
  match j, hj with
  | 0, hj => simp at hj; subst hj; simp [Addr.add]
  | j + 1, hj => simp at hj
/-- A list of numbers grew: no list of pieces was written. -/
theorem keepP_append {W w1 : World} {B base : Nat} {tmp : Obj} {v v' : Value} {k m : Nat} {xs ys : List Value} (hv : Boxed W B 28 v) (hrow : W.ownsRow base 3 1 v k xs) (hown' : w1.ownsRow base 3 1 v' m ys) (hgrow : (W.alloc tmp).grownBy w1 v.ownBlock) (hv1 : Boxed w1 B 28 v) : KeepP W (w1.setCell ⟨B, 0, none⟩ v') := by
  have h1 : KeepP W (W.alloc tmp) := keepP_below (up_alloc (Below.refl _ _) _)
  have h2 : KeepP (W.alloc tmp) w1 := by
    refine ⟨hgrow.size, fun b cur fr hn hb => (hgrow.block b (Array.getElem?_eq_some_iff.1 hb).1 (fun e => ?_)).trans hb⟩
    rcases (hrow.alloc tmp).2 with ⟨rfl, _⟩ | ⟨g, cap, cur2, rfl, _, hgb, _⟩
    · simp [Value.ownBlock] at e
    · obtain rfl : g = b := by simpa [Value.ownBlock] using e.symm
      rw [hgb] at hb
      cases hb
  refine (h1.trans h2).trans (keepP_set _ _ _ (fun cur fr e => ?_))
  rw [show w1.heap[B]? = _ from hv1] at e
  cases e

theorem unfOrder_no (s : Sc) (a : Option Addr) (cap : Nat) (w : World) (hc : s.c ≤ 9223372036854775807) (hr : s.r ≤ 9223372036854775807) (hl : s.l.length ≤ 1000000) (hI : InL w a s.l) (hn : rightM s = false) :
    Calls Try.prog 9 #[.agg #[.int .i64 s.c, .int .i64 s.r, .slice a s.l.length cap]] w fun e w' => e = .returned (.slice none 0 0) ∧ Below w.heap.size w w' := by
  have KF := fun w1 (h : Below w.heap.size w w1) => folded_no s a cap w1 hc hr hl (hI.up h) hn
  have HF := Lib.hid KF
  generalize s.l.length = n at *
  clear KF hI hn
  have HB0 := Lib.hid (up_alloc (up_alloc (Below.refl _ w) (.cells #[.int .i64 s.c, .int .i64 s.r, .slice a n cap] 24)) (.cells #[.slice none 0 0] 28))
  refine (callsIn_wide (n := 3)).1 ?_
  refine callsIn_of_wp_marks Try.func9 rfl trivial ?_ rfl
  simp only [Try.ntmps9, List.size_toArray, List.length_cons, List.length_nil, Nat.reduceAdd, Nat.reduceSub, Array.replicate_succ, Array.replicate_zero, List.push_toArray, List.append_toArray, List.nil_append, List.cons_append]
  gi_wp2_with (first
    | (refine ⟨trivial, ?_⟩; gi_at_call 13; refine (callsIn_wide.2 (HF.out _ HB0.out)).mono ?_; rintro e w1 ⟨rfl, hb1⟩; have HB1 := Lib.hid (up_trans HB0.out hb1); have HN1 := Lib.hid hb1; clear hb1)
    | (refine ⟨trivial, ?_⟩; gi_at_call 15; refine (callsIn_wide.2 (pcAll_any _ _)).mono ?_; rintro e w4 ⟨rfl, rfl⟩))
  obtain ⟨W0, hW0⟩ : ∃ W0, w1.alloc (.cells #[.pointer none] 38) = W0 := ⟨_, rfl⟩
  have upw : Below w.heap.size w W0 := by rw [← hW0]; exact up_alloc HB1.out _
  have x0 : Boxed W0 (w.heap.size + 1) 28 (.slice none 0 0) := by
    have := (Boxed.new (w.alloc (.cells #[.int .i64 s.c, .int .i64 s.r, .slice a n cap] 24)) 28 (.slice none 0 0))
    simp only [World.size_alloc] at this
    have h2 := HN1.out
    rw [← hW0]
    have h3 : Boxed w1 (w.heap.size + 1) 28 (.slice none 0 0) := (h2.block _ (by simp)).trans this
    exact h3.alloc _
  have yG : W0.cell? ⟨w1.heap.size, 0, none⟩ = some (.pointer none) := by rw [← hW0]; simp [go_sem]
  have hsz : W0.heap.size = w1.heap.size + 1 := by rw [← hW0]; simp
  have hsw := HN1.out.size
  simp only [World.size_alloc] at hsw
  rw [hW0]
  clear hW0
  refine wpIn_rangeFunc_ownH rfl (by decide) (gf := 24) (lb := #[.pointer (some ⟨w1.heap.size, 0, none⟩)]) rfl trivial (enters_of Try.func24 (by kernel_rfl) rfl)
    (pcNil_stops 2 w1.heap.size W0 yG) KeepP.trans (fun W l o o' _ h1 h2 _ => keepP_put W l o o' h1 h2) (Below.refl _ _) (fun _ => rfl)
    (fun pre W => Boxed W (w.heap.size + 1) 28 (.slice none 0 0) ∧ Below w.heap.size w W)
    (fun c pre W => False)
    (OwnFrom.and (Own.from (boxed_own _ _ _) _) (ownFrom_below (Nat.le_refl _) (by omega)))
    (fun c => ownFrom_pure _ (fun _ => False))
    ⟨x0, upw⟩
    (fun x a' W => True)
    (fun x a' _ X Y row hs hg hr => trivial)
    ?assign ?body ?done ?stop
  case assign =>
    rintro l0 pre ⟨k, p⟩ W K ⟨k4, hB1⟩ hK
    have hsW := hB1.size
    unfold encQ Pc.val
    dsimp only
    gi_wp2
    exact hK _ _ ((KeepsOthers.alloc _ _).from _) (keepP_below (up_alloc (Below.refl _ _) _)) ⟨k4.alloc _, hB1.alloc hsW _⟩ trivial
  case body =>
    rintro l0 pre k a' W hl _ ⟨k4, hB1⟩ _ hlen
    exact absurd hlen (Nat.not_lt_zero _)
  case done =>
    rintro E ys W hE rfl ⟨k4, hB1⟩ hK
    have c4 := k4.cell
    gi_wp2
    refine ⟨by simp, .inl ⟨_, _, rfl, run_takeDeferred hK, ?_⟩⟩
    exact ⟨_, results_tmp rfl _ _ _, rfl, hB1.trans (belowK_b (w := w) (Nat.le_refl _) W E _ _ (by omega) hK rfl rfl)⟩
  case stop =>
    rintro D c pre W hD hpre h hK
    exact h.elim
set_option maxRecDepth 100000 in
set_option maxHeartbeats 4000000 in
theorem unfOrder_core (c r : Int) (a : Option Addr) (n cap : Nat) (w : World) (l : List Pc) (hl0 : 0 < l.length) (hl64 : l.length ≤ 4096)
    (KF : ∀ w1, Below w.heap.size w w1 → Calls Try.prog 13 #[.agg #[.int .i64 c, .int .i64 r, .slice a n cap]] w1 fun e w' => ∃ D R, e = .returned (.pointer (some ⟨D, 0, none⟩)) ∧ Dp w' w1.heap.size D R l ∧ Below w1.heap.size w1 w') :
    Calls Try.prog 9 #[.agg #[.int .i64 c, .int .i64 r, .slice a n cap]] w fun e w' => ∃ v, e = .returned v ∧ rowI w' w.heap.size v (l.map Pc.n) ∧ Below w.heap.size w w' := by
  obtain ⟨i0, hi, hz0, hz1, hz2⟩ := info_parts Try.infoNum
  have HF := Lib.hid KF
  have HB0 := Lib.hid (up_alloc (up_alloc (Below.refl _ w) (.cells #[.int .i64 c, .int .i64 r, .slice a n cap] 24)) (.cells #[.slice none 0 0] 28))
  clear KF
  refine (callsIn_wide (n := 3)).1 ?_
  refine callsIn_of_wp_marks Try.func9 rfl trivial ?_ rfl
  simp only [Try.ntmps9, List.size_toArray, List.length_cons, List.length_nil, Nat.reduceAdd, Nat.reduceSub, Array.replicate_succ, Array.replicate_zero, List.push_toArray, List.append_toArray, List.nil_append, List.cons_append]
  gi_wp2_with (first
    | (refine ⟨trivial, ?_⟩; gi_at_call 13; refine (callsIn_wide.2 (HF.out _ HB0.out)).mono ?_; rintro e w1 ⟨D, R, rfl, hD, hb1⟩; have HD := Lib.hid hD; have HB1 := Lib.hid (up_trans HB0.out hb1); have HN1 := Lib.hid hb1; clear hb1 hD)
    | (refine ⟨trivial, ?_⟩; gi_at_call 15; refine (callsIn_wide.2 (pcAll_any _ _)).mono ?_; rintro e w4 ⟨rfl, rfl⟩))
  obtain ⟨W0, hW0⟩ : ∃ W0, w1.alloc (.cells #[.pointer (some ⟨D, 0, none⟩)] 38) = W0 := ⟨_, rfl⟩
  have upw : Below w.heap.size w W0 := by rw [← hW0]; exact up_alloc HB1.out _
  have x0 : Boxed W0 (w.heap.size + 1) 28 (.slice none 0 0) := by
    have := (Boxed.new (w.alloc (.cells #[.int .i64 c, .int .i64 r, .slice a n cap] 24)) 28 (.slice none 0 0))
    simp only [World.size_alloc] at this
    have h2 := HN1.out
    rw [← hW0]
    have h3 : Boxed w1 (w.heap.size + 1) 28 (.slice none 0 0) := (h2.block _ (by simp)).trans this
    exact h3.alloc _
  have yG : W0.cell? ⟨w1.heap.size, 0, none⟩ = some (.pointer (some ⟨D, 0, none⟩)) := by rw [← hW0]; simp [go_sem]
  have hsz : W0.heap.size = w1.heap.size + 1 := by rw [← hW0]; simp
  have hsw := HN1.out.size
  simp only [World.size_alloc] at hsw
  have hD := HD.out.up (show Below w1.heap.size w1 W0 by rw [← hW0]; exact up_alloc (Below.refl _ _) _)
  rw [hW0]
  clear hW0 HD HF HN1
  refine wpIn_rangeFunc_ownH rfl (by decide) (gf := 24) (lb := #[.pointer (some ⟨w1.heap.size, 0, none⟩)]) rfl trivial (enters_of Try.func24 (by kernel_rfl) rfl)
    (pcAll_stops 2 w1.heap.size _ D R l hl0 (by omega) W0 yG hD) KeepP.trans (fun W l o o' _ h1 h2 _ => keepP_put W l o o' h1 h2) (Below.refl _ _) (fun _ => rfl)
    (fun pre W => (∃ v, Boxed W (w.heap.size + 1) 28 v ∧ W.ownsRow w.heap.size 3 1 v pre.length (numsV l pre) ∧ True) ∧ Below w.heap.size w W)
    (fun c pre W => False)
    (OwnFrom.and (Own.from (holdsRow_own w.heap.size (w.heap.size + 1) 28 3 1 (fun pre : List (Ix l.length) => pre.length) (fun pre => numsV l pre) (fun pre _ => True)) _) (ownFrom_below (Nat.le_refl _) (by omega)))
    (fun c => ownFrom_pure _ (fun _ => False))
    ⟨⟨_, x0, World.ownsRow_nil _ _ _ _, trivial⟩, upw⟩
    (fun k a' W => ∃ Bq, w.heap.size + 1 < Bq ∧ BoxN W Bq 42 #[.int .i64 (l[k.1]'k.2).n, .int .i64 0, .bool (l[k.1]'k.2).fx, .bool (l[k.1]'k.2).fy] ∧
      a' = { tmps := #[.agg #[.int .i64 c, .int .i64 r, .slice a n cap], .pointer (some ⟨w.heap.size, 0, none⟩), .slice none 0 0, .pointer (some ⟨w.heap.size + 1, 0, none⟩), undef, .pointer (some ⟨Bq, 0, none⟩), .agg #[.int .i64 c, .int .i64 r, .slice a n cap], .pointer (some ⟨D, 0, none⟩), .func (.func 24) #[] #[.pointer (some ⟨w1.heap.size, 0, none⟩)], .int .i64 (k.1 : Int), .agg #[.int .i64 (l[k.1]'k.2).n, .int .i64 0, .bool (l[k.1]'k.2).fx, .bool (l[k.1]'k.2).fy], undef, undef, undef, undef, undef, undef], defers := [] })
    (fun k a' _ X Y row hs hg hr => by obtain ⟨Bx, h1, h2, h4⟩ := hs; exact ⟨Bx, h1, boxN_own Bx _ _ () X Y row h2 hg (fun r e => (hr r e).2), h4⟩)
    ?assign ?body ?done ?stop
  case assign =>
    rintro l0 pre k W K ⟨⟨v, hv, hrow, -⟩, hB1⟩ hK
    have hsW := hB1.size
    unfold encJ encQ Pc.val
    dsimp only
    obtain ⟨p, hp⟩ : ∃ p, l[k.1]'k.2 = p := ⟨_, rfl⟩
    rw [hp] at hK ⊢
    gi_wp2
    exact hK _ _ ((KeepsOthers.alloc _ _).from _) (keepP_below (up_alloc (Below.refl _ _) _)) ⟨⟨v, hv.alloc _, hrow.alloc _, trivial⟩, hB1.alloc hsW _⟩ ⟨W.heap.size, hv.lt, World.alloc_heap_new W _, rfl⟩
  case body =>
    rintro l0 pre k a' W hl _ ⟨⟨v, hv, hrow, -⟩, hB1⟩ ⟨Bq, hBq, kQ, rfl⟩ hlen
    have hns := numsV_snoc l pre k
    obtain ⟨p, hp⟩ : ∃ p, l[k.1]'k.2 = p := ⟨_, rfl⟩
    rw [hp] at kQ hns ⊢
    have q0 := kQ.cell 0 rfl
    have hc := hv.cell
    have hle : w.heap.size ≤ w.heap.size + 1 := Nat.le_succ _
    have HQ := Lib.hid kQ
    clear kQ
    gi_wp2_with (gi_at_builtin; refine wpListIn_append_own _ rfl _ _ 28 rfl w.heap.size 3 i0 (.int .i64 0) 1 8 Try.underlying28 hi hz0 hz1 hz2 rfl (by decide) _ _ _ rfl (hrow.alloc _) ⟨W.heap.size, 0, none⟩ 1 1 [.int .i64 p.n] rfl rfl (cell_a _ _ _) (by simp [Value.oneCell']) (by unfold maxLen; omega) (by omega) (by have := hB1.size; simp; omega) ?_; intro v' w5 hown' hgrow _; obtain ⟨g', cap', rfl⟩ := ownsRow_succ hown'; obtain ⟨hv1, hv2, hr2, hk2, hb2⟩ := hv.appended (by decide) hrow hB1.size hle hown' hgrow; have hkp := keepP_append hv hrow hown' hgrow hv1; have hc1 := hv1.cell; have hf1 := hv1.frozen)
    exact ⟨hk2.from _, hkp, ⟨_, hv2, by rw [hns, List.length_append]; exact hr2, trivial⟩, hB1.trans hb2⟩
  case done =>
    rintro E ys W hE rfl ⟨⟨v, hv, hrow, -⟩, hB1⟩ hK
    have c4 := hv.cell
    gi_wp2
    refine ⟨by simp, .inl ⟨_, _, rfl, run_takeDeferred hK, ?_⟩⟩
    have h := ownsRow_putObj hrow (.deferred none) hK rfl
    rw [numsV_all, ixs_length _ (Nat.le_refl _)] at h
    exact ⟨_, results_tmp rfl _ _ _, v, rfl, (by unfold rowI; rw [List.length_map]; exact h), hB1.trans (belowK_b (w := w) (Nat.le_refl _) W E _ _ (by omega) hK rfl rfl)⟩
  case stop =>
    rintro D c pre W hD hpre h hK
    exact h.elim

theorem unfOrder_yes (s : Sc) (a : Option Addr) (cap : Nat) (w : World) (hI : InL w a s.l) (hr : rightM s = true) :
    Calls Try.prog 9 #[.agg #[.int .i64 s.c, .int .i64 s.r, .slice a s.l.length cap]] w fun e w' => ∃ v, e = .returned v ∧ rowI w' w.heap.size v ((pcL s).map Pc.n) ∧ Below w.heap.size w w' := by
  obtain ⟨hc, hrr, hm, hl6, hall⟩ := right_bounds hr
  have hp : 1 ≤ s.c * s.r := Int.le_trans (by omega) (Int.mul_le_mul hc.1 hrr.1 (by omega) (by omega) : 1 * 1 ≤ s.c * s.r)
  have hlen := pcL_length s
  exact unfOrder_core s.c s.r a s.l.length cap w (pcL s) (by omega) (by omega) (fun w1 h => folded_yes s a cap w1 (hI.up h) hr)
end Go.Proofs.Ytnofncibplgmpaa
