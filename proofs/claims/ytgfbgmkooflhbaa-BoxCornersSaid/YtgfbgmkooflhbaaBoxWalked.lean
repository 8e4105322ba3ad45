/- What the laws' own walked answers: the first corners, as many as are wanted; a new list, written out. -/
import Derived.Test.YtgfbgmkooflhbaaBoxCorners
namespace Go.Proofs.Ytgfbgmkooflhbaa
open Go.RowKit Go.Shelf
set_option linter.unusedVariables false
attribute [local go_sem] Oper.semAt_some

theorem Try.infoPoint : (Try.prog.info? 42).map (fun i => (i.zero, i.size, i.bytes)) = some (some (.agg #[.int .i64 0, .int .i64 0]), 2, 16) := by kernel_rfl
/-- The cells of a list of points. -/
def flatP : List (Int × Int) → List Value
  | [] => []
  | p :: l => .int .i64 p.1 :: .int .i64 p.2 :: flatP l
theorem flatP_snoc (l : List (Int × Int)) (p : Int × Int) : flatP (l ++ [p]) = flatP l ++ [.int .i64 p.1, .int .i64 p.2] := by
  induction l with
  | nil => rfl
  | cons q l ih => simp [flatP, ih]
theorem cell_two_new (w : World) (x y : Value) (t : TypeId) : ∀ j u, [x, y][j]? = some u → (w.alloc (.cells #[x, y] t)).cell? ((⟨w.heap.size, 0, none⟩ : Addr).add j) = some u := by
  intro j u hj
  match j, hj with
  | 0, hj => simp at hj; subst hj; simp [Addr.add]
  | 1, hj => simp at hj; subst hj; simp [Addr.add]
  | j + 2, hj => simp at hj

theorem run_func_nil (b : Nat) (w : World) : (binOp .eql 48 (.func (.func 29) #[] #[.pointer (some ⟨b, 0, none⟩)]) .nilFunc).run Try.prog w = .ok (.bool false) w := by kernel_rfl

set_option maxRecDepth 100000 in
set_option maxHeartbeats 4000000 in
theorem walked_in (F : Fence) (n : Nat) (h24 : F.fn 24) (h28 : F.fn 28) (h29 : F.fn 29) (hro : F.round = none) (hn : 3 ≤ n) (a0 a1 a2 a3 m : Int) (hm : 1 ≤ m) (w : World) :
    CallsIn F n Try.prog 24 #[.agg #[.int .i64 a0, .int .i64 a1, .int .i64 a2, .int .i64 a3], .int .i64 m] w fun e W' => ∃ v, e = .returned v ∧
      (∃ l, W'.ownsRow w.heap.size 42 2 v l.length (flatP l) ∧ l <+: corners a0 a1 a2 a3 ∧ ((l.length : Int) = m ∨ (l = corners a0 a1 a2 a3 ∧ (l.length : Int) < m))) ∧ Below w.heap.size w W' := by
  have h1 : 1 ≤ n := by omega
  have hd : decide (m < 1) = false := by simp; omega
  obtain ⟨i0, hi, hz0, hz1, hz2⟩ := info_parts Try.infoPoint
  refine callsIn_of_wp_marks Try.func24 rfl h24 ?_ hro
  simp only [Try.ntmps24, List.size_toArray, List.length_cons, List.length_nil, Nat.reduceAdd, Nat.reduceSub, Array.replicate_succ, Array.replicate_zero, List.push_toArray, List.append_toArray, List.nil_append, List.cons_append]
  have fq := fun w' : World => run_func_nil (w.heap.size + 1 + 1 + 1) w'
  gi_wp2_with (gi_at_call 28; refine (corners_call F (n - 1) h28 hro _ _ _ _ _).mono ?_; rintro e w' ⟨rfl, rfl⟩)
  have bM := ((Boxed.new (w.alloc (.cells #[.int .i64 a0, .int .i64 a1, .int .i64 a2, .int .i64 a3] 23)) 3 (.int .i64 m)).alloc (.cells #[.slice none 0 0] 43)).alloc (.cells #[.int .i64 a0, .int .i64 a1, .int .i64 a2, .int .i64 a3] 23)
  have bO := (Boxed.new ((w.alloc (.cells #[.int .i64 a0, .int .i64 a1, .int .i64 a2, .int .i64 a3] 23)).alloc (.cells #[.int .i64 m] 3)) 43 (.slice none 0 0)).alloc (.cells #[.int .i64 a0, .int .i64 a1, .int .i64 a2, .int .i64 a3] 23)
  have cR := C4.new (((w.alloc (.cells #[.int .i64 a0, .int .i64 a1, .int .i64 a2, .int .i64 a3] 23)).alloc (.cells #[.int .i64 m] 3)).alloc (.cells #[.slice none 0 0] 43)) 23 a0 a1 a2 a3
  simp only [World.size_alloc] at bM bO cR
  have hB0 : Below w.heap.size w ((((w.alloc (.cells #[.int .i64 a0, .int .i64 a1, .int .i64 a2, .int .i64 a3] 23)).alloc (.cells #[.int .i64 m] 3)).alloc (.cells #[.slice none 0 0] 43)).alloc (.cells #[.int .i64 a0, .int .i64 a1, .int .i64 a2, .int .i64 a3] 23)) := up_alloc (up_alloc (up_alloc (up_alloc (Below.refl _ _) _) _) _) _
  have hsz : ((((w.alloc (.cells #[.int .i64 a0, .int .i64 a1, .int .i64 a2, .int .i64 a3] 23)).alloc (.cells #[.int .i64 m] 3)).alloc (.cells #[.slice none 0 0] 43)).alloc (.cells #[.int .i64 a0, .int .i64 a1, .int .i64 a2, .int .i64 a3] 23)).heap.size = w.heap.size + 4 := by simp
  obtain ⟨W0, hW0⟩ : ∃ W0, ((((w.alloc (.cells #[.int .i64 a0, .int .i64 a1, .int .i64 a2, .int .i64 a3] 23)).alloc (.cells #[.int .i64 m] 3)).alloc (.cells #[.slice none 0 0] 43)).alloc (.cells #[.int .i64 a0, .int .i64 a1, .int .i64 a2, .int .i64 a3] 23)) = W0 := ⟨_, rfl⟩
  rw [hW0] at bM bO cR hB0 hsz ⊢
  clear hW0 fq hd
  refine wpIn_rangeFunc_ownH hro h1 (gf := 29) (lb := #[.pointer (some ⟨w.heap.size + 1 + 1 + 1, 0, none⟩)]) rfl h29 (enters_of Try.func29 (by kernel_rfl) rfl)
    (corners_stops F (n - 1) h29 hro (by omega) (w.heap.size + 1 + 1 + 1) w.heap.size a0 a1 a2 a3 W0 cR) belowK_t (belowK_b (by omega)) (Below.refl _ _) (fun _ => rfl)
    (fun pre W => ((∃ v, Boxed W (w.heap.size + 1 + 1) 43 v ∧ W.ownsRow w.heap.size 42 2 v pre.length (flatP pre) ∧ (pre.length : Int) < m) ∧ Boxed W (w.heap.size + 1) 3 (.int .i64 m)) ∧ Below w.heap.size w W)
    (fun c pre W => c = .exit 0 ∧ (∃ v, Boxed W (w.heap.size + 1 + 1) 43 v ∧ W.ownsRow w.heap.size 42 2 v pre.length (flatP pre) ∧ (pre.length : Int) = m) ∧ Below w.heap.size w W)
    (OwnFrom.and (OwnFrom.and (Own.from (holdsRow_own w.heap.size (w.heap.size + 1 + 1) 43 42 2 (fun pre : List (Int × Int) => pre.length) (fun pre => flatP pre) (fun pre _ => (pre.length : Int) < m)) _) (Own.from (boxed_own _ _ _) _)) (ownFrom_below (Nat.le_refl _) (by omega)))
    (fun c => OwnFrom.and (ownFrom_pure _ (fun _ => c = .exit 0)) (OwnFrom.and (Own.from (holdsRow_own w.heap.size (w.heap.size + 1 + 1) 43 42 2 (fun pre : List (Int × Int) => pre.length) (fun pre => flatP pre) (fun pre _ => (pre.length : Int) = m)) _) (ownFrom_below (Nat.le_refl _) (by omega))))
    ⟨⟨⟨_, bO, World.ownsRow_nil _ _ _ _, by simp; omega⟩, bM⟩, hB0⟩
    (fun x a' W => ∃ Bx, w.heap.size + 1 + 1 < Bx ∧ W.cell? ⟨Bx, 0, none⟩ = some (.int .i64 x.1) ∧ W.cell? ⟨Bx, 1, none⟩ = some (.int .i64 x.2) ∧
      a' = { tmps := #[.agg #[.int .i64 a0, .int .i64 a1, .int .i64 a2, .int .i64 a3], .int .i64 m, .pointer (some ⟨w.heap.size, 0, none⟩), .pointer (some ⟨w.heap.size + 1, 0, none⟩), .slice none 0 0, .pointer (some ⟨w.heap.size + 1 + 1, 0, none⟩), .func (.func 29) #[] #[.pointer (some ⟨w.heap.size + 1 + 1 + 1, 0, none⟩)], .pointer (some ⟨Bx, 0, none⟩), .agg #[.int .i64 a0, .int .i64 a1, .int .i64 a2, .int .i64 a3], .func (.func 29) #[] #[.pointer (some ⟨w.heap.size + 1 + 1 + 1, 0, none⟩)], .func (.func 29) #[] #[.pointer (some ⟨w.heap.size + 1 + 1 + 1, 0, none⟩)], .bool false, .bool false, .int .i64 m, .bool false, .bool false, .func (.func 29) #[] #[.pointer (some ⟨w.heap.size + 1 + 1 + 1, 0, none⟩)], .agg #[.int .i64 x.1, .int .i64 x.2], undef, undef, undef, undef, undef, undef, undef, undef, undef], defers := [] })
    (fun x a' _ X Y row hs hg hr => by obtain ⟨Bx, h1, h2, h3, h4⟩ := hs; exact ⟨Bx, h1, cell_kept h2 hg (fun r e => (hr r e).2), cell_kept h3 hg (fun r e => (hr r e).2), h4⟩)
    ?assign ?body ?done ?stop
  case assign =>
    rintro l pre x W K ⟨⟨⟨v, hv, hrow, hlt⟩, bM1⟩, hB1⟩ hK
    gi_wp2
    exact hK _ _ ((KeepsOthers.alloc _ _).from _) ((Below.refl _ W).alloc hB1.size _) ⟨⟨⟨v, hv.alloc _, hrow.alloc _, hlt⟩, bM1.alloc _⟩, hB1.alloc hB1.size _⟩ ⟨W.heap.size, hv.lt, by simp [go_sem], by simp [go_sem], rfl⟩
  case body =>
    rintro l pre x a' W hl _ ⟨⟨⟨v, hv, hrow, hlt⟩, bM1⟩, hB1⟩ ⟨Bx, hBx, x0, x1, rfl⟩ hlen
    have hc := hv.cell
    have hle : w.heap.size ≤ w.heap.size + 1 + 1 := by omega
    obtain ⟨px, py⟩ := x
    simp only at x0 x1
    by_cases hge : m ≤ (pre.length : Int) + 1
    all_goals
      gi_wp2_with (gi_at_builtin; refine wpListIn_append_own _ rfl _ _ 43 rfl w.heap.size 42 i0 (.agg #[.int .i64 0, .int .i64 0]) 2 16 Try.underlying43 hi hz0 hz1 hz2 rfl (by decide) _ _ _ rfl (hrow.alloc _) ⟨W.heap.size, 0, none⟩ 1 1 [.int .i64 px, .int .i64 py] rfl rfl (cell_two_new _ _ _ _) (by simp [Value.oneCell']) (by unfold maxLen; omega) (by omega) (by have := hB1.size; simp; omega) ?_; intro v' w1 hown' hgrow _; obtain ⟨g', cap', rfl⟩ := ownsRow_succ hown'; obtain ⟨hv1, hv2, hr2, hk2, hb2⟩ := hv.appended (by decide) hrow hB1.size hle hown' hgrow; have bM2 := ((bM1.alloc _).kept hgrow (bM1.not_row (by decide) hrow)).other (B' := w.heap.size + 1 + 1) (by omega) (.slice (some ⟨g', 0, none⟩) (pre.length + 1) cap'); have hc1 := hv1.cell; have hf1 := hv1.frozen; have hc2 := hv2.cell; have hm2 := bM2.cell)
      have hrow2 : (w1.setCell ⟨w.heap.size + 1 + 1, 0, none⟩ (.slice (some ⟨g', 0, none⟩) (pre.length + 1) cap')).ownsRow w.heap.size 42 2 (.slice (some ⟨g', 0, none⟩) (pre.length + 1) cap') (pre ++ [(px, py)]).length (flatP (pre ++ [(px, py)])) := by
        rw [flatP_snoc, List.length_append]
        exact hr2
      first
        | exact ⟨hk2.from _, hb2, ⟨⟨_, hv2, hrow2, by simp; omega⟩, bM2⟩, hB1.trans hb2⟩
        | exact ⟨hk2.from _, rfl, ⟨_, hv2, hrow2, by simp; omega⟩, hB1.trans hb2⟩
  case done =>
    rintro D ys W hD rfl ⟨⟨⟨v, hv, hrow, hlt⟩, bM1⟩, hB1⟩ hK
    have hc := hv.cell
    gi_wp2
    refine ⟨by simp, .inl ⟨_, _, rfl, run_takeDeferred hK, ?_⟩⟩
    exact ⟨_, results_tmp rfl _ _ _, v, rfl, ⟨_, ownsRow_putObj hrow _ hK rfl, List.prefix_refl _, .inr ⟨rfl, hlt⟩⟩, hB1.trans (belowK_b (w := w) (Nat.le_refl _) W D _ _ (by omega) hK rfl rfl)⟩
  case stop =>
    rintro D c pre W hD hpre ⟨rfl, ⟨v, hv, hrow, hlt⟩, hB1⟩ hK
    have hc := hv.cell
    gi_wp2
    refine ⟨by simp, .inl ⟨_, _, rfl, run_takeDeferred hK, ?_⟩⟩
    exact ⟨_, results_tmp rfl _ _ _, v, rfl, ⟨_, ownsRow_putObj hrow _ hK rfl, hpre, .inl hlt⟩, hB1.trans (belowK_b (w := w) (Nat.le_refl _) W D _ _ (by omega) hK rfl rfl)⟩

/-- The first corners, as many as are wanted. -/
theorem walked_any (a0 a1 a2 a3 m : Int) (hm : 1 ≤ m) (w : World) :
    Calls Try.prog 24 #[.agg #[.int .i64 a0, .int .i64 a1, .int .i64 a2, .int .i64 a3], .int .i64 m] w fun e W' => ∃ v, e = .returned v ∧
      W'.ownsRow w.heap.size 42 2 v ((corners a0 a1 a2 a3).take m.toNat).length (flatP ((corners a0 a1 a2 a3).take m.toNat)) ∧ Below w.heap.size w W' := by
  refine (callsIn_wide (n := 3)).1 ?_
  refine (walked_in Fence.wide 3 trivial trivial trivial rfl (by omega) a0 a1 a2 a3 m hm w).mono ?_
  rintro e W' ⟨v, rfl, ⟨l, hrow, hp, hl⟩, hb⟩
  have e : l = (corners a0 a1 a2 a3).take m.toNat := by
    rcases hl with hl | ⟨rfl, hl⟩
    · rw [List.prefix_iff_eq_take.1 hp]
      congr 1
      omega
    · rw [List.take_of_length_le (by omega)]
  rw [← e]
  exact ⟨v, rfl, hrow, hb⟩
end Go.Proofs.Ytgfbgmkooflhbaa
