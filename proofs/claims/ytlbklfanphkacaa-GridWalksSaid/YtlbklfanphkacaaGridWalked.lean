/- What the laws' own walked answers of a grid: its first things, as many as are wanted, and true; a new list. -/
import Derived.Test.YtlbklfanphkacaaGridPart
import Derived.Maps.OwnIn
namespace Go.Proofs.Ytlbklfanphkacaa
open Go.RowKit Go.Shelf
set_option linter.unusedVariables false
attribute [local go_sem] Oper.semAt_some

/-- The body's own list: that which the box B holds. -/
def OutB (B : Nat) (W : World) (b : Nat) : Prop := ∃ n cap, W.cell? ⟨B, 0, none⟩ = some (.slice (some ⟨b, 0, none⟩) n cap)
theorem outB_up (B : Nat) (V V' : World) (hB : B < V.heap.size) (h : Below V.heap.size V V') : KeepI (OutB B) V V' :=
  ⟨h.size, fun b _ ⟨n, cap, ho⟩ => ⟨n, cap, (h.cell (p := ⟨B, 0, none⟩) hB).symm.trans ho⟩, fun b cur fr _ hc => (h.block b (Array.getElem?_eq_some_iff.1 hc).1).trans hc⟩
theorem outB_put (B : Nat) (W : World) (l : Nat) (o o' : Obj) (hB : B < l) (hl : W.heap[l]? = some o) (hc : o.isCells = false) : KeepI (OutB B) W (W.putObj l o') :=
  ⟨by simp, fun b _ ⟨n, cap, ho⟩ => ⟨n, cap, by
    have e := (grownBy_putObj' W l o').block B (by have := (Array.getElem?_eq_some_iff.1 hl).1; omega) (fun e => by injection e; omega)
    rw [World.cell?_of_block (a := ⟨B, 0, none⟩) e] at ho
    exact ho⟩, fun b cur fr _ hb => by
    have hne : b ≠ l := fun e => by rw [e, hl] at hb; cases hb; cases hc
    exact ((grownBy_putObj' W l o').block b (Array.getElem?_eq_some_iff.1 hb).1 (fun e => hne (by injection e))).trans hb⟩
/-- The body appends to its own list. -/
theorem outB_append {B : Nat} {W w1 : World} {tmp : Obj} {v : Value} {g n cap : Nat} (hv : Boxed W B 31 v) (hg : (W.alloc tmp).grownBy w1 v.ownBlock) (hat : some g = v.ownBlock ∨ some g = some (W.alloc tmp).heap.size) (hown : ∀ b, v.ownBlock = some b → OutB B W b) (hB : some B ≠ v.ownBlock) :
    KeepI (OutB B) W (w1.setCell ⟨B, 0, none⟩ (.slice (some ⟨g, 0, none⟩) n cap)) := by
  have hs : (W.alloc tmp).heap.size = W.heap.size + 1 := by simp
  have h1 := hg.size
  have hv1 : Boxed w1 B 31 v := (hv.alloc tmp).kept hg hB
  refine ⟨by simp [World.setCell]; omega, fun b hb ⟨n', cap', ho⟩ => ?_, fun b cur fr hn hb => ?_⟩
  · rw [World.cell?_setCell_same _ _ _ hv1.cell] at ho
    injection ho with ho
    injection ho with ho
    injection ho with ho
    injection ho with ho
    subst ho
    rcases hat with h | h
    · exact hown g h.symm
    · injection h with h
      omega
  · have hbl := (Array.getElem?_eq_some_iff.1 hb).1
    have hne : b ≠ B := fun e => by
      subst e
      rw [show W.heap[b]? = _ from hv] at hb
      injection hb with h1
      injection h1 with _ h2
      exact absurd h2 (by decide)
    rw [Below.heap_setCell _ _ _ _ (by exact hne)]
    rw [hg.block b (by omega) (fun e => hn (hown b e.symm)), Below.heap_alloc _ _ _ hbl]
    exact hb

/-- All places came in order. -/
def good (c : Int) (pre : List ((Int × Int) × Int)) : Prop := ∀ (i : Nat) x, pre[i]? = some x → x.1 = ((i : Int).tmod c, (i : Int).tdiv c)
theorem good_pts (c : Int) (l : List Int) (k : Nat) : good c (pts c l k) := by
  intro i x hx
  have hi : i < k := by
    have := (List.getElem?_eq_some_iff.1 hx).1
    rwa [pts_length] at this
  unfold pts at hx
  rw [List.getElem?_map, List.getElem?_range hi] at hx
  rw [← Option.some.inj hx]
theorem good_snoc {c : Int} {pre : List ((Int × Int) × Int)} (h : good c pre) (v : Int) : good c (pre ++ [(((pre.length : Int).tmod c, (pre.length : Int).tdiv c), v)]) := by
  intro i x hx
  by_cases hi : i < pre.length
  · rw [List.getElem?_append_left hi] at hx
    exact h i x hx
  · have hi2 : i = pre.length := by
      have := (List.getElem?_eq_some_iff.1 hx).1
      simp at this
      omega
    subst hi2
    rw [List.getElem?_append_right (Nat.le_refl _), Nat.sub_self] at hx
    rw [← Option.some.inj hx]
theorem not_good {c : Int} {pre : List ((Int × Int) × Int)} {x : (Int × Int) × Int} (h : x.1 ≠ ((pre.length : Int).tmod c, (pre.length : Int).tdiv c)) : ¬ good c (pre ++ [x]) := fun hg => h (hg pre.length x (by simp))
def vals (pre : List ((Int × Int) × Int)) : List Value := pre.map fun x => Value.int .i64 x.2
theorem vals_snoc (pre : List ((Int × Int) × Int)) (x : (Int × Int) × Int) : vals (pre ++ [x]) = vals pre ++ [.int .i64 x.2] := by simp [vals]
theorem vals_pts (c : Int) (l : List Int) (k : Nat) (hk : k ≤ l.length) : vals (pts c l k) = (l.take k).map (Value.int .i64) := by
  unfold vals pts
  rw [List.map_map]
  apply List.ext_getElem?
  intro i
  by_cases hi : i < k
  · rw [List.getElem?_map, List.getElem?_range hi, List.getElem?_map, List.getElem?_take_of_lt hi, List.getElem?_eq_getElem (by omega)]
    simp [List.getElem?_eq_getElem (show i < l.length by omega)]
  · rw [List.getElem?_eq_none (by simp; omega), List.getElem?_eq_none (by simp; omega)]
theorem OwnFrom.either {β : Type} {B : Nat} {I I' : β → World → Prop} (h : OwnFrom B I) (h' : OwnFrom B I') : OwnFrom B (fun s W => I s W ∨ I' s W) := fun s W W' row hs hg hr => hs.elim (fun k => .inl (h s W W' row k hg hr)) (fun k => .inr (h' s W W' row k hg hr))
theorem run_func_nil (b : Nat) (w : World) : (binOp .eql 51 (.func (.func 26) #[] #[.pointer (some ⟨b, 0, none⟩)]) .nilFunc).run Try.prog w = .ok (.bool false) w := by kernel_rfl
theorem row_mono {w : World} {base base' : Nat} {e : TypeId} {size : Nat} {v : Value} {n : Nat} {xs : List Value} (h : w.ownsRow base e size v n xs) (hb : base' ≤ base) : w.ownsRow base' e size v n xs := by
  refine ⟨h.1, ?_⟩
  rcases h.2 with h2 | ⟨g, cap, cur, hv, hg, rest⟩
  · exact .inl h2
  · exact .inr ⟨g, cap, cur, hv, Nat.le_trans hb hg, rest⟩
theorem row_up {w w' : World} {base : Nat} {e : TypeId} {size : Nat} {v : Value} {n : Nat} {xs : List Value} (h : w.ownsRow base e size v n xs) (hb : Below w.heap.size w w') : w'.ownsRow base e size v n xs := by
  refine World.ownsRow.kept h (row := none) ⟨hb.os, hb.tape, hb.output, hb.size, fun k hk _ => hb.block k hk⟩ ?_
  rcases h.2 with ⟨rfl, _⟩ | ⟨g, cap, cur, rfl, _⟩
  · exact .inl rfl
  · exact .inr (by simp [Value.ownBlock])
theorem keeps_of_below {W W' : World} (h : Below W.heap.size W W') : KeepsOthers W W' := ⟨h.size, fun k o hk _ => (h.block k (Array.getElem?_eq_some_iff.1 hk).1).trans hk⟩
/-- A block below the row's base is not the row. -/
theorem row_far {w : World} {base : Nat} {e : TypeId} {size : Nat} {v : Value} {n : Nat} {xs : List Value} (h : w.ownsRow base e size v n xs) {B : Nat} (hB : B < base) : some B ≠ v.ownBlock := by
  rcases h.2 with ⟨rfl, _⟩ | ⟨g, cap, _, rfl, hg, _⟩
  · simp [Value.ownBlock]
  · intro e'
    obtain rfl : B = g := by simpa [Value.ownBlock] using e'
    omega
theorem row_cells {w : World} {base : Nat} {e : TypeId} {size : Nat} {v : Value} {n : Nat} {xs : List Value} (h : w.ownsRow base e size v n xs) {j : Nat} {o : Obj} (hj : some j = v.ownBlock) (ho : w.heap[j]? = some o) : o.isCells = true := by
  rcases h.2 with ⟨rfl, _⟩ | ⟨g, cap, cur, rfl, _, hg, _⟩
  · simp [Value.ownBlock] at hj
  · obtain rfl : j = g := by simpa [Value.ownBlock] using hj
    rw [hg] at ho
    cases ho
    rfl
theorem row_outB {w : World} {base B : Nat} {e t : TypeId} {v : Value} {n : Nat} {xs : List Value} (h : w.ownsRow base e 1 v n xs) (hB : Boxed w B t v) {b : Nat} (hb : v.ownBlock = some b) : OutB B w b := by
  rcases h.2 with ⟨rfl, _⟩ | ⟨g, cap, cur, rfl, _⟩
  · simp [Value.ownBlock] at hb
  · obtain rfl : g = b := by simpa [Value.ownBlock] using hb
    exact ⟨_, _, hB.cell⟩
theorem own_slice {W : World} {base : Nat} {e : TypeId} {v : Value} {n : Nat} {xs : List Value} (h : W.ownsRow base e 1 v n xs) : ∃ a cap, v = .slice a n cap := by
  rcases h.2 with ⟨rfl, rfl⟩ | ⟨g, cap, _, rfl, _⟩
  · exact ⟨_, _, rfl⟩
  · exact ⟨_, _, rfl⟩

set_option maxRecDepth 100000 in
set_option maxHeartbeats 4000000 in
theorem walked_any {w : World} {G A : Nat} {c r : Int} {l : List Int} (h : Gd w G A c r l) (m : Nat) (hm : 1 ≤ m) (hml : m ≤ l.length) :
    Calls Try.prog 14 #[.pointer (some ⟨G, 0, none⟩), .int .i64 (m : Int)] w fun e w' => ∃ v, e = .returned (.tuple #[v, .bool true]) ∧ w'.ownsRow w.heap.size 3 1 v m ((l.take m).map (Value.int .i64)) ∧ Below w.heap.size w w' := by
  have KC := fun (w' : World) (hb : Below w.heap.size w w') => cols_any (h.up hb)
  have HC := Lib.hid KC; have HG := Lib.hid h
  have c1 := h.c1
  have hle := h.le
  clear KC h
  obtain ⟨i0, hi, hz0, hz1, hz2⟩ := info_parts Try.infoInt
  refine (callsIn_wide (n := 3)).1 ?_
  refine callsIn_of_wp_marks Try.func14 rfl trivial ?_ rfl
  simp only [Try.ntmps14, List.size_toArray, List.length_cons, List.length_nil, Nat.reduceAdd, Nat.reduceSub, Array.replicate_succ, Array.replicate_zero, List.push_toArray, List.append_toArray, List.nil_append, List.cons_append]
  have fq := fun w' : World => run_func_nil (w.heap.size + 1 + 1 + 1 + 1) w'
  gi_wp2_with (first
    | (refine ⟨trivial, ?_⟩; gi_at_call 23; refine (callsIn_wide.2 (all_any _ _)).mono ?_; rintro e w4 ⟨rfl, rfl⟩)
    | (refine ⟨trivial, ?_⟩; gi_at_call 19; refine (callsIn_wide.2 (HC.out _ ?_)).mono ?_; (repeat (first | exact Below.refl _ _ | apply up_alloc)); rintro e w4 ⟨rfl, rfl⟩))
  obtain ⟨W0, hW0⟩ : ∃ W0, ((((((w.alloc (.cells #[.int .i64 (m : Int)] 3)).alloc (.cells #[.slice none 0 0] 31)).alloc (.cells #[.bool false] 4)).alloc (.cells #[.slice none 0 0] 31)).alloc (.cells #[.pointer (some ⟨G, 0, none⟩)] 25)).alloc (.cells #[.int .i64 c] 3)) = W0 := ⟨_, rfl⟩
  have upw : Below w.heap.size w W0 := by rw [← hW0]; exact up_alloc (up_alloc (up_alloc (up_alloc (up_alloc (up_alloc (Below.refl _ _) _) _) _) _) _) _
  have hsz : W0.heap.size = w.heap.size + 6 := by rw [← hW0]; simp
  have yM : Boxed W0 w.heap.size 3 (.int .i64 (m : Int)) := by rw [← hW0]; exact (((((Boxed.new w _ _).alloc _).alloc _).alloc _).alloc _).alloc _
  have y0 : Boxed W0 (w.heap.size + 1) 31 (.slice none 0 0) := by
    rw [← hW0]
    have h := ((((Boxed.new (w.alloc (.cells #[.int .i64 (m : Int)] 3)) 31 (.slice none 0 0)).alloc (.cells #[.bool false] 4)).alloc (.cells #[.slice none 0 0] 31)).alloc (.cells #[.pointer (some ⟨G, 0, none⟩)] 25)).alloc (.cells #[.int .i64 c] 3)
    simpa only [World.size_alloc] using h
  have y1 : Boxed W0 (w.heap.size + 2) 4 (.bool false) := by
    rw [← hW0]
    have h := (((Boxed.new ((w.alloc (.cells #[.int .i64 (m : Int)] 3)).alloc (.cells #[.slice none 0 0] 31)) 4 (.bool false)).alloc (.cells #[.slice none 0 0] 31)).alloc (.cells #[.pointer (some ⟨G, 0, none⟩)] 25)).alloc (.cells #[.int .i64 c] 3)
    simpa only [World.size_alloc] using h
  have yO : Boxed W0 (w.heap.size + 3) 31 (.slice none 0 0) := by
    rw [← hW0]
    have h := ((Boxed.new (((w.alloc (.cells #[.int .i64 (m : Int)] 3)).alloc (.cells #[.slice none 0 0] 31)).alloc (.cells #[.bool false] 4)) 31 (.slice none 0 0)).alloc (.cells #[.pointer (some ⟨G, 0, none⟩)] 25)).alloc (.cells #[.int .i64 c] 3)
    simpa only [World.size_alloc] using h
  have yG : Boxed W0 (w.heap.size + 4) 25 (.pointer (some ⟨G, 0, none⟩)) := by
    rw [← hW0]
    have h := (Boxed.new ((((w.alloc (.cells #[.int .i64 (m : Int)] 3)).alloc (.cells #[.slice none 0 0] 31)).alloc (.cells #[.bool false] 4)).alloc (.cells #[.slice none 0 0] 31)) 25 (.pointer (some ⟨G, 0, none⟩))).alloc (.cells #[.int .i64 c] 3)
    simpa only [World.size_alloc] using h
  have yC : Boxed W0 (w.heap.size + 5) 3 (.int .i64 c) := by
    rw [← hW0]
    have h := Boxed.new (((((w.alloc (.cells #[.int .i64 (m : Int)] 3)).alloc (.cells #[.slice none 0 0] 31)).alloc (.cells #[.bool false] 4)).alloc (.cells #[.slice none 0 0] 31)).alloc (.cells #[.pointer (some ⟨G, 0, none⟩)] 25)) 3 (.int .i64 c)
    simpa only [World.size_alloc] using h
  have gG : Gd W0 G A c r l := HG.out.up upw
  rw [hW0]
  clear hW0 fq HC
  refine wpIn_rangeFunc_ownH rfl (by decide) (gf := 26) (lb := #[.pointer (some ⟨w.heap.size + 4, 0, none⟩)]) rfl trivial (enters_of Try.func26 (by kernel_rfl) rfl)
    (all_stops 2 (OutB (w.heap.size + 3)) (w.heap.size + 4) G A c r l W0 yG.cell gG (fun W' hb b ⟨n, cap, ho⟩ => by rw [bl_cell hb yO.cell] at ho; cases ho) (fun V V' hV h => outB_up _ V V' (by omega) h)) KeepI.trans (fun W l o o' hl h1 h2 _ => outB_put _ W l o o' (by omega) h1 h2) (Below.refl _ _) (fun _ => rfl)
    (fun pre W => ((∃ v, Boxed W (w.heap.size + 3) 31 v ∧ W.ownsRow (w.heap.size + 6) 3 1 v pre.length (vals pre) ∧ pre.length < m) ∧ (Boxed W w.heap.size 3 (.int .i64 (m : Int)) ∧ (Boxed W (w.heap.size + 1) 31 (.slice none 0 0) ∧ (Boxed W (w.heap.size + 2) 4 (.bool false) ∧ Boxed W (w.heap.size + 5) 3 (.int .i64 c))))) ∧ (good c pre ∧ Below w.heap.size w W))
    (fun c' pre W => (c' = .exit 0 ∧ ((∃ v, Boxed W (w.heap.size + 3) 31 v ∧ W.ownsRow (w.heap.size + 6) 3 1 v pre.length (vals pre) ∧ pre.length = m) ∧ ((Boxed W (w.heap.size + 1) 31 (.slice none 0 0) ∧ Boxed W (w.heap.size + 2) 4 (.bool false)) ∧ Below w.heap.size w W))) ∨ ¬ good c pre)
    (OwnFrom.and (OwnFrom.and (Own.from (holdsRow_own (w.heap.size + 6) (w.heap.size + 3) 31 3 1 (fun pre : List ((Int × Int) × Int) => pre.length) (fun pre => vals pre) (fun pre _ => pre.length < m)) _) (OwnFrom.and (Own.from (boxed_own _ _ _) _) (OwnFrom.and (Own.from (boxed_own _ _ _) _) (OwnFrom.and (Own.from (boxed_own _ _ _) _) (Own.from (boxed_own _ _ _) _))))) (OwnFrom.and (ownFrom_pure _ (fun pre => good c pre)) (ownFrom_below (Nat.le_refl _) (by omega))))
    (fun c' => OwnFrom.either (OwnFrom.and (ownFrom_pure _ (fun _ => c' = .exit 0)) (OwnFrom.and (Own.from (holdsRow_own (w.heap.size + 6) (w.heap.size + 3) 31 3 1 (fun pre : List ((Int × Int) × Int) => pre.length) (fun pre => vals pre) (fun pre _ => pre.length = m)) _) (OwnFrom.and (OwnFrom.and (Own.from (boxed_own _ _ _) _) (Own.from (boxed_own _ _ _) _)) (ownFrom_below (Nat.le_refl _) (by omega))))) (ownFrom_pure _ (fun pre => ¬ good c pre)))
    ⟨⟨⟨_, yO, World.ownsRow_nil _ _ _ _, by simp; omega⟩, yM, y0, y1, yC⟩, fun i x hx => by simp at hx, upw⟩
    (fun x a' W => ∃ Bq, w.heap.size + 5 < Bq ∧ W.cell? ⟨Bq, 0, none⟩ = some (.int .i64 x.1.1) ∧ W.cell? ⟨Bq, 1, none⟩ = some (.int .i64 x.1.2) ∧
      a' = { tmps := #[.pointer (some ⟨G, 0, none⟩), .int .i64 (m : Int), undef, .pointer (some ⟨w.heap.size, 0, none⟩), .pointer (some ⟨w.heap.size + 1, 0, none⟩), .pointer (some ⟨w.heap.size + 2, 0, none⟩), .pointer (some ⟨w.heap.size + 3, 0, none⟩), .func (.func 26) #[] #[.pointer (some ⟨w.heap.size + 4, 0, none⟩)], .pointer (some ⟨w.heap.size + 5, 0, none⟩), .pointer (some ⟨Bq, 0, none⟩), .int .i64 x.2, .pointer (some ⟨G, 0, none⟩), .func (.func 26) #[] #[.pointer (some ⟨w.heap.size + 4, 0, none⟩)], .func (.func 26) #[] #[.pointer (some ⟨w.heap.size + 4, 0, none⟩)], .bool false, .pointer (some ⟨G, 0, none⟩), .int .i64 c, .func (.func 26) #[] #[.pointer (some ⟨w.heap.size + 4, 0, none⟩)], .agg #[.int .i64 x.1.1, .int .i64 x.1.2], .int .i64 x.2, undef, undef, undef, undef, undef, undef, undef, undef, undef, undef, undef, undef, undef, undef, undef, undef, undef, undef, undef, undef, undef, undef, undef, undef, undef, undef, undef, undef, undef, undef, undef, undef, undef, undef, undef], defers := [] })
    (fun x a' _ X Y row hs hg hr => by obtain ⟨Bx, h1, h2, h3, h4⟩ := hs; exact ⟨Bx, h1, cell_kept h2 hg (fun r e => (hr r e).2), cell_kept h3 hg (fun r e => (hr r e).2), h4⟩)
    ?assign ?body ?done ?stop
  case assign =>
    rintro l0 pre x W K ⟨⟨⟨v, hv, hrow, hlt⟩, kM, k0, k1, kC⟩, hgood, hB1⟩ hK
    unfold encP
    gi_wp2
    exact hK _ _ ((KeepsOthers.alloc _ _).from _) (outB_up _ _ _ (by have := hv.lt; omega) (up_alloc (Below.refl _ _) _)) ⟨⟨⟨v, hv.alloc _, hrow.alloc _, hlt⟩, kM.alloc _, k0.alloc _, k1.alloc _, kC.alloc _⟩, hgood, hB1.alloc hB1.size _⟩ ⟨W.heap.size, kC.lt, by simp [go_sem], by simp [go_sem], rfl⟩
  case body =>
    rintro l0 pre x a' W hl _ ⟨⟨⟨v, hv, hrow, hlt⟩, kM, k0, k1, kC⟩, hgood, hB1⟩ ⟨Bq, hBq, x0, x1, rfl⟩ hlen
    obtain ⟨⟨px, py⟩, xv⟩ := x
    simp only at x0 x1
    obtain ⟨ao, co, rfl⟩ := own_slice hrow
    have hgs := good_snoc hgood xv
    have hng := @not_good c pre ((px, py), xv)
    have jO := fun u : Later W => u.cell hv.cell; have jM := fun u : Later W => u.cell kM.cell; have jC := fun u : Later W => u.cell kC.cell; have jx := fun u : Later W => u.cell x0; have jy := fun u : Later W => u.cell x1
    clear x0 x1
    obtain ⟨n, hn⟩ : ∃ n, pre.length = n := ⟨_, rfl⟩
    rw [hn] at hlt hlen hgs hng jO
    obtain ⟨q1, hq1⟩ : ∃ q, (n : Int).tmod c = q := ⟨_, rfl⟩
    obtain ⟨q2, hq2⟩ : ∃ q, (n : Int).tdiv c = q := ⟨_, rfl⟩
    rw [hq1, hq2] at hgs hng
    have hw2 : wrap64 q2 = q2 := by
      have h1 : 0 ≤ q2 := by rw [← hq2]; exact Int.tdiv_nonneg (by omega) (by omega)
      have h2 : q2 ≤ n := by rw [← hq2]; exact Int.tdiv_le_self _ (by omega)
      exact IntWalk.wrap64_in q2 (by omega)
    have d1 : decide ((m : Int) ≤ (n : Int)) = false := by simp; omega
    have d1' : decide (m ≤ n) = false := by simp; omega
    have d2 : decide (c < 1) = false := by simp; omega
    have c0 : c ≠ 0 := by omega
    have HN := Lib.hid hn; have HGs := Lib.hid hgs; have HNg := Lib.hid hng; have HRow := Lib.hid hrow; have HV := Lib.hid hv; have HGo := Lib.hid hgood
    clear hn hgs hng hrow hgood
    by_cases hX : px = q1
    · by_cases hY : py = q2
      · subst hX hY
        gi_wp2
        refine later_start (w := W) ?_
        intro u
        refine round_later (by kernel_rfl) (by kernel_rfl) (by kernel_rfl) ?_ ?_
        · rintro ⟨a, w, h⟩
          exact h
        · repeat (go_big_quiet_step (fail))
          refine wpQuiet_nil ?_
          rintro _ ⟨u2, rfl⟩
          rename_i hK
          refine hK _ _ ?_
          clear hK jO jM jC jx jy
          have v5 : Boxed u2.now (w.heap.size + 3) 31 (.slice ao pre.length co) := (u2.up.block _ HV.out.lt).trans HV.out
          have m5 := (u2.up.block _ kM.lt).trans kM; have r5 := (u2.up.block _ k0.lt).trans k0; have s5 := (u2.up.block _ k1.lt).trans k1; have t5 := (u2.up.block _ kC.lt).trans kC
          have row5 := row_up HRow.out u2.up
          have hB5 : Below w.heap.size w u2.now := hB1.trans (u2.up.mono hB1.size)
          have ko5 := keeps_of_below u2.up
          have ki5 := outB_up (w.heap.size + 3) W u2.now (by have := HV.out.lt; omega) u2.up
          have hsz5 : w.heap.size + 6 ≤ u2.now.heap.size := by have := kC.lt; have := u2.up.size; omega
          rw [HN.out] at v5 row5
          clear kM k0 k1 kC hB1 HRow hv
          generalize u2.now = w5 at *
          have M5 := Lib.hid (show Boxed w5 w.heap.size 3 (.int .i64 (m : Int)) from m5); have R5 := Lib.hid (show Boxed w5 (w.heap.size + 1) 31 (.slice none 0 0) from r5); have S5 := Lib.hid (show Boxed w5 (w.heap.size + 2) 4 (.bool false) from s5); have T5 := Lib.hid (show Boxed w5 (w.heap.size + 5) 3 (.int .i64 c) from t5)
          have V5 := Lib.hid v5; have Row5 := Lib.hid row5; have KO5 := Lib.hid ko5; have KI5 := Lib.hid ki5; have HB5 := Lib.hid hB5
          have z0 := v5.cell
          clear m5 r5 s5 t5 v5 row5 ko5 ki5 hB5
          have hlast : (n + 1 = m) ∨ (n + 1 < m) := by omega
          have HL := Lib.hid hlast
          clear hlast
          gi_wp2_with (gi_at_builtin; refine wpListIn_append_own_at _ rfl _ _ 31 rfl (w.heap.size + 6) 3 i0 (.int .i64 0) 1 8 Try.underlying31 hi hz0 hz1 hz2 rfl (by decide) (.slice ao n co) n (vals pre) rfl (Row5.out.alloc _) ⟨w5.heap.size, 0, none⟩ 1 1 [.int .i64 xv] rfl rfl (cell_one_new _ _ _) (by simp [Value.oneCell']) (by unfold maxLen; omega) (by omega) (by simp; omega) ?_; intro v' w6 hown' hgrow _ hat; obtain ⟨g', cap', rfl⟩ := ownsRow_succ hown'; have v6 := (V5.out.alloc (.cells #[.int .i64 xv] 3)).kept hgrow (V5.out.not_row (by decide) Row5.out); have c6 := v6.cell; have f6 := v6.frozen; have m7 := (((M5.out.alloc (.cells #[.int .i64 xv] 3)).kept hgrow (row_far Row5.out (by omega))).other (B' := w.heap.size + 3) (by omega) (.slice (some ⟨g', 0, none⟩) (n + 1) cap')).cell; have v7 := (v6.set (.slice (some ⟨g', 0, none⟩) (n + 1) cap')).cell)
          all_goals
            have hv7 := v6.set (.slice (some ⟨g', 0, none⟩) (n + 1) cap')
            have row7 := hown'.kept (grownBy_setCell' w6 (w.heap.size + 3) (.slice (some ⟨g', 0, none⟩) (n + 1) cap')) (.inr (v6.not_row (by decide) hown').symm)
            have M7 := ((M5.out.alloc (.cells #[.int .i64 xv] 3)).kept hgrow (row_far Row5.out (by omega))).other (B' := w.heap.size + 3) (by omega) (.slice (some ⟨g', 0, none⟩) (n + 1) cap')
            have R7 := ((R5.out.alloc (.cells #[.int .i64 xv] 3)).kept hgrow (row_far Row5.out (by omega))).other (B' := w.heap.size + 3) (by omega) (.slice (some ⟨g', 0, none⟩) (n + 1) cap')
            have S7 := ((S5.out.alloc (.cells #[.int .i64 xv] 3)).kept hgrow (row_far Row5.out (by omega))).other (B' := w.heap.size + 3) (by omega) (.slice (some ⟨g', 0, none⟩) (n + 1) cap')
            have T7 := ((T5.out.alloc (.cells #[.int .i64 xv] 3)).kept hgrow (row_far Row5.out (by omega))).other (B' := w.heap.size + 3) (by omega) (.slice (some ⟨g', 0, none⟩) (n + 1) cap')
            have KO7 := KO5.out.trans ((KeepsOthers.alloc w5 (.cells #[.int .i64 xv] 3)).trans ((KeepsOthers.of_grownBy hgrow fun j o ej hj => row_cells (Row5.out.alloc _) ej.symm hj).trans (KeepsOthers.setCell w6 ⟨w.heap.size + 3, 0, none⟩ (.slice (some ⟨g', 0, none⟩) (n + 1) cap'))))
            have KI7 := KI5.out.trans (outB_append (n := n + 1) (cap := cap') V5.out hgrow hat (fun b hb => row_outB Row5.out V5.out hb) (V5.out.not_row (by decide) Row5.out))
            have HB7 := ((HB5.out.alloc HB5.out.size (.cells #[.int .i64 xv] 3)).grown hgrow (by have := HB5.out.size; simp; omega) (fun k hk => by have := (Row5.out.lt k hk).1; omega)).setCell (p := ⟨w.heap.size + 3, 0, none⟩) (by simp) (.slice (some ⟨g', 0, none⟩) (n + 1) cap')
            have e7 : (pre ++ [((px, py), xv)]).length = n + 1 := by rw [List.length_append, HN.out]; rfl
            first
              | exact ⟨KO7.from _, KI7, ⟨⟨_, hv7, by rw [e7, vals_snoc]; exact row7, by rw [e7]; rename_i hne; simp at hne; omega⟩, M7, R7, S7, T7⟩, HGs.out, HB7⟩
              | exact ⟨KO7.from _, .inl ⟨rfl, ⟨_, hv7, by rw [e7, vals_snoc]; exact row7, by rw [e7]; rename_i hne; simp at hne; omega⟩, ⟨R7, S7⟩, HB7⟩⟩
      · have e1 : (px != q1) = false := by simp [hX]
        have e2 : (py != q2) = true := by simp [hY]
        have HX := Lib.hid (HNg.out (by simp [hY]))
        have f0 := k0.frozen; have f1 := k1.frozen
        gi_wp2
        refine later_start (w := W) ?_
        intro u
        refine round_later (by kernel_rfl) (by kernel_rfl) (by kernel_rfl) ?_ ?_
        · rintro ⟨a, w, h⟩
          exact h
        · repeat (go_big_quiet_step (fail))
          refine wpQuiet_nil ?_
          rintro _ ⟨u2, rfl⟩
          rename_i hK
          refine hK _ _ ?_
          have r5 : Boxed u2.now (w.heap.size + 1) 31 (.slice none 0 0) := (u2.up.block _ k0.lt).trans k0
          have s5 : Boxed u2.now (w.heap.size + 2) 4 (.bool false) := (u2.up.block _ k1.lt).trans k1
          have ko5 := keeps_of_below u2.up
          clear hK jO jM jC jx jy f0 f1
          generalize u2.now = w5 at *
          have z0 := r5.cell; have z1 := s5.cell; have f0 := r5.frozen; have f1 := s5.frozen
          have KO5 := Lib.hid ko5
          clear ko5
          gi_wp2
          exact ⟨((KO5.out.trans (KeepsOthers.setCell _ _ _)).trans (KeepsOthers.setCell _ _ _)).from _, .inr HX.out⟩
    · have e1 : (px != q1) = true := by simp [hX]
      have HX := Lib.hid (HNg.out (by simp [hX]))
      gi_wp2
      refine later_start (w := W) ?_
      intro u
      refine round_later (by kernel_rfl) (by kernel_rfl) (by kernel_rfl) ?_ ?_
      · rintro ⟨a, w, h⟩
        exact h
      · repeat (go_big_quiet_step (fail))
        refine wpQuiet_nil ?_
        rintro _ ⟨u2, rfl⟩
        rename_i hK
        refine hK _ _ ?_
        have r5 : Boxed u2.now (w.heap.size + 1) 31 (.slice none 0 0) := (u2.up.block _ k0.lt).trans k0
        have s5 : Boxed u2.now (w.heap.size + 2) 4 (.bool false) := (u2.up.block _ k1.lt).trans k1
        have ko5 := keeps_of_below u2.up
        clear hK jO jM jC jx jy
        generalize u2.now = w5 at *
        have z0 := r5.cell; have z1 := s5.cell; have f0 := r5.frozen; have f1 := s5.frozen
        have KO5 := Lib.hid ko5
        clear ko5
        gi_wp2
        exact ⟨((KO5.out.trans (KeepsOthers.setCell _ _ _)).trans (KeepsOthers.setCell _ _ _)).from _, .inr HX.out⟩
  case done =>
    rintro D ys W hD rfl ⟨⟨⟨v, hv, hrow, hlt⟩, kM, k0, k1, kC⟩, hgood, hB1⟩ hK
    rw [pts_length] at hlt
    omega
  case stop =>
    rintro D c' pre W hD ⟨k, hk, rfl⟩ hx hK
    rcases hx with ⟨rfl, ⟨v, hv, hrow, hlm⟩, ⟨k0, k1⟩, hB1⟩ | hx
    · rw [pts_length] at hlm
      rw [pts_length, vals_pts c l (k + 1) (by omega), hlm] at hrow
      have hc := hv.cell
      have f0 := k0.frozen; have f1 := k1.frozen; have z0 := k0.cell; have z1 := k1.cell
      obtain ⟨av, cv, rfl⟩ := own_slice hrow
      gi_wp2
      have r1 := hrow.kept (grownBy_setCell' W (w.heap.size + 1) (.slice av m cv)) (.inr (k0.not_row (by decide) hrow).symm)
      have b0 := k0.set (.slice av m cv)
      have b1 := k1.other (B' := w.heap.size + 1) (by omega) (.slice av m cv)
      have r2 := r1.kept (grownBy_setCell' _ (w.heap.size + 2) (.bool true)) (.inr (b1.not_row (by decide) r1).symm)
      have b0' := b0.other (B' := w.heap.size + 2) (by omega) (.bool true)
      have b1' := b1.set (.bool true)
      have hK' := ((KeepsOthers.setCell W ⟨w.heap.size + 1, 0, none⟩ (.slice av m cv)).trans (KeepsOthers.setCell _ ⟨w.heap.size + 2, 0, none⟩ (.bool true))).same D _ hK rfl
      have hB2 := (hB1.setCell (p := ⟨w.heap.size + 1, 0, none⟩) (by simp) (.slice av m cv)).setCell (p := ⟨w.heap.size + 2, 0, none⟩) (by simp) (.bool true)
      refine ⟨by simp, .inl ⟨_, _, rfl, run_takeDeferred hK', ?_⟩⟩
      have p0 := (b0'.kept (grownBy_putObj' _ D (.deferred none)) (by simp; omega)).cell
      have p1 := (b1'.kept (grownBy_putObj' _ D (.deferred none)) (by simp; omega)).cell
      refine ⟨.tuple #[.slice av m cv, .bool true], by simp [results, Try.results14, go_sem, p0, p1], _, rfl, row_mono (ownsRow_putObj r2 _ hK' rfl) (by omega), ?_⟩
      exact hB2.trans (belowK_b (w := w) (Nat.le_refl _) _ D _ _ (by omega) hK' rfl rfl)
    · exact absurd (good_pts c l (k + 1)) hx
end Go.Proofs.Ytlbklfanphkacaa
