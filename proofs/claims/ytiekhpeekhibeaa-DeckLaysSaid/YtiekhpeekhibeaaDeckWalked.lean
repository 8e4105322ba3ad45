/- What the laws' own walked answers of a deck: its first things, as many as are wanted (or all), and true; a new list. -/
import Derived.Test.YtiekhpeekhibeaaDeckSeq
import Derived.Maps.OwnIn
namespace Go.Proofs.Ytiekhpeekhibeaa
open Go.RowKit Go.Shelf
set_option linter.unusedVariables false
attribute [local go_sem] Oper.semAt_some

/-- The body's own list: that which the box B holds. -/
def OutB (B : Nat) (W : World) (b : Nat) : Prop := ∃ n cap, W.cell? ⟨B, 0, none⟩ = some (.slice (some ⟨b, 0, none⟩) n cap)
theorem outB_up (B : Nat) (V V' : World) (hB : B < V.heap.size) (h : Below V.heap.size V V') : KeepI (OutB B) V V' :=
  ⟨h.size, fun b _ ⟨n, cap, ho⟩ => ⟨n, cap, (h.cell (p := ⟨B, 0, none⟩) hB).symm.trans ho⟩, fun b cur fr _ hc => (h.block b (Array.getElem?_eq_some_iff.1 hc).1).trans hc⟩
theorem outB_put (B : Nat) (W : World) (l : Nat) (o o' : Obj) (hB : B < l) (hl : W.heap[l]? = some o) (hc : o.isCells = false) : KeepI (OutB B) W (W.putObj l o') :=
  ⟨by simp, fun b _ ⟨n, cap, ho⟩ => ⟨n, cap, by
    have e := (grownBy_putObj' W l o').block B (by have := (Array.getElem?_eq_some_iff.1 hl).1; omega) (fun e => by injection e; omega)
    rw [World.cell?_of_block (a := ⟨B, 0, none⟩) e] at ho
    exact ho⟩, fun b cur fr _ hb => by
    have hne : b ≠ l := fun e => by rw [e, hl] at hb; cases hb; cases hc
    exact ((grownBy_putObj' W l o').block b (Array.getElem?_eq_some_iff.1 hb).1 (fun e => hne (by injection e))).trans hb⟩
/-- The body appends to its own list. -/
theorem outB_append {B : Nat} {W w1 : World} {tmp : Obj} {v : Value} {g n cap : Nat} (hv : Boxed W B 22 v) (hg : (W.alloc tmp).grownBy w1 v.ownBlock) (hat : some g = v.ownBlock ∨ some g = some (W.alloc tmp).heap.size) (hown : ∀ b, v.ownBlock = some b → OutB B W b) (hB : some B ≠ v.ownBlock) :
    KeepI (OutB B) W (w1.setCell ⟨B, 0, none⟩ (.slice (some ⟨g, 0, none⟩) n cap)) := by
  have hs : (W.alloc tmp).heap.size = W.heap.size + 1 := by simp
  have h1 := hg.size
  have hv1 : Boxed w1 B 22 v := (hv.alloc tmp).kept hg hB
  refine ⟨by simp [World.setCell]; omega, fun b hb ⟨n', cap', ho⟩ => ?_, fun b cur fr hn hb => ?_⟩
  · rw [World.cell?_setCell_same _ _ _ hv1.cell] at ho
    injection ho with ho
    injection ho with ho
    injection ho with ho
    injection ho with ho
    subst ho
    rcases hat with h | h
    · exact hown g h.symm
    · injection h with h
      omega
  · have hbl := (Array.getElem?_eq_some_iff.1 hb).1
    have hne : b ≠ B := fun e => by
      subst e
      rw [show W.heap[b]? = _ from hv] at hb
      injection hb with h1
      injection h1 with _ h2
      exact absurd h2 (by decide)
    rw [Below.heap_setCell _ _ _ _ (by exact hne)]
    rw [hg.block b (by omega) (fun e => hn (hown b e.symm)), Below.heap_alloc _ _ _ hbl]
    exact hb

/-- All places came in order. -/
def good (pre : List (Int × Int)) : Prop := ∀ (i : Nat) x, pre[i]? = some x → x.1 = (i : Int)
theorem good_pts (l : List Int) (k : Nat) : good (pts l k) := by
  intro i x hx
  have hi : i < k := by
    have := (List.getElem?_eq_some_iff.1 hx).1
    rwa [pts_length] at this
  unfold pts at hx
  rw [List.getElem?_map, List.getElem?_range hi] at hx
  rw [← Option.some.inj hx]
theorem good_snoc {pre : List (Int × Int)} (h : good pre) (v : Int) : good (pre ++ [((pre.length : Int), v)]) := by
  intro i x hx
  by_cases hi : i < pre.length
  · rw [List.getElem?_append_left hi] at hx
    exact h i x hx
  · have hi2 : i = pre.length := by
      have := (List.getElem?_eq_some_iff.1 hx).1
      simp at this
      omega
    subst hi2
    rw [List.getElem?_append_right (Nat.le_refl _), Nat.sub_self] at hx
    rw [← Option.some.inj hx]
theorem not_good {pre : List (Int × Int)} {x : Int × Int} (h : x.1 ≠ (pre.length : Int)) : ¬ good (pre ++ [x]) := fun hg => h (hg pre.length x (by simp))
def vals (pre : List (Int × Int)) : List Value := pre.map fun x => Value.int .i64 x.2
theorem vals_snoc (pre : List (Int × Int)) (x : Int × Int) : vals (pre ++ [x]) = vals pre ++ [.int .i64 x.2] := by simp [vals]
theorem vals_pts (l : List Int) (k : Nat) (hk : k ≤ l.length) : vals (pts l k) = enc (l.take k) := by
  unfold vals pts enc
  rw [List.map_map]
  apply List.ext_getElem?
  intro i
  by_cases hi : i < k
  · rw [List.getElem?_map, List.getElem?_range hi, List.getElem?_map, List.getElem?_take_of_lt hi, List.getElem?_eq_getElem (by omega)]
    simp [List.getElem?_eq_getElem (show i < l.length by omega)]
  · rw [List.getElem?_eq_none (by simp; omega), List.getElem?_eq_none (by simp; omega)]
theorem run_func_nil (b : Nat) (w : World) : (binOp .eql 47 (.func (.func 26) #[] #[.pointer (some ⟨b, 0, none⟩)]) .nilFunc).run Try.prog w = .ok (.bool false) w := by kernel_rfl
theorem OwnFrom.either {β : Type} {B : Nat} {I I' : β → World → Prop} (h : OwnFrom B I) (h' : OwnFrom B I') : OwnFrom B (fun s W => I s W ∨ I' s W) := fun s W W' row hs hg hr => hs.elim (fun k => .inl (h s W W' row k hg hr)) (fun k => .inr (h' s W W' row k hg hr))
theorem row_mono {w : World} {base base' : Nat} {e : TypeId} {size : Nat} {v : Value} {n : Nat} {xs : List Value} (h : w.ownsRow base e size v n xs) (hb : base' ≤ base) : w.ownsRow base' e size v n xs := by
  refine ⟨h.1, ?_⟩
  rcases h.2 with h2 | ⟨g, cap, cur, hv, hg, rest⟩
  · exact .inl h2
  · exact .inr ⟨g, cap, cur, hv, Nat.le_trans hb hg, rest⟩
theorem row_up {w w' : World} {base : Nat} {e : TypeId} {size : Nat} {v : Value} {n : Nat} {xs : List Value} (h : w.ownsRow base e size v n xs) (hb : Below w.heap.size w w') : w'.ownsRow base e size v n xs := by
  refine World.ownsRow.kept h (row := none) ⟨hb.os, hb.tape, hb.output, hb.size, fun k hk _ => hb.block k hk⟩ ?_
  rcases h.2 with ⟨rfl, _⟩ | ⟨g, cap, cur, rfl, _⟩
  · exact .inl rfl
  · exact .inr (by simp [Value.ownBlock])
theorem keeps_of_below {W W' : World} (h : Below W.heap.size W W') : KeepsOthers W W' := ⟨h.size, fun k o hk _ => (h.block k (Array.getElem?_eq_some_iff.1 hk).1).trans hk⟩
/-- A block below the row's base is not the row. -/
theorem row_far {w : World} {base : Nat} {e : TypeId} {size : Nat} {v : Value} {n : Nat} {xs : List Value} (h : w.ownsRow base e size v n xs) {B : Nat} (hB : B < base) : some B ≠ v.ownBlock := by
  rcases h.2 with ⟨rfl, _⟩ | ⟨g, cap, _, rfl, hg, _⟩
  · simp [Value.ownBlock]
  · intro e'
    obtain rfl : B = g := by simpa [Value.ownBlock] using e'
    omega
theorem row_cells {w : World} {base : Nat} {e : TypeId} {size : Nat} {v : Value} {n : Nat} {xs : List Value} (h : w.ownsRow base e size v n xs) {j : Nat} {o : Obj} (hj : some j = v.ownBlock) (ho : w.heap[j]? = some o) : o.isCells = true := by
  rcases h.2 with ⟨rfl, _⟩ | ⟨g, cap, cur, rfl, _, hg, _⟩
  · simp [Value.ownBlock] at hj
  · obtain rfl : j = g := by simpa [Value.ownBlock] using hj
    rw [hg] at ho
    cases ho
    rfl
theorem row_outB {w : World} {base B : Nat} {e t : TypeId} {v : Value} {n : Nat} {xs : List Value} (h : w.ownsRow base e 1 v n xs) (hB : Boxed w B t v) {b : Nat} (hb : v.ownBlock = some b) : OutB B w b := by
  rcases h.2 with ⟨rfl, _⟩ | ⟨g, cap, cur, rfl, _⟩
  · simp [Value.ownBlock] at hb
  · obtain rfl : g = b := by simpa [Value.ownBlock] using hb
    exact ⟨_, _, hB.cell⟩
theorem own_slice {W : World} {base : Nat} {e : TypeId} {v : Value} {n : Nat} {xs : List Value} (h : W.ownsRow base e 1 v n xs) : ∃ a cap, v = .slice a n cap := by
  rcases h.2 with ⟨rfl, rfl⟩ | ⟨g, cap, _, rfl, _⟩
  · exact ⟨_, _, rfl⟩
  · exact ⟨_, _, rfl⟩

set_option maxRecDepth 100000 in
set_option maxHeartbeats 4000000 in
theorem walked_any {w : World} {G R : Nat} {l : List Int} (h : Dk w G R l) (hle : l.length ≤ 1000) (m : Nat) (hm : 1 ≤ m) (hm2 : m ≤ 1000) :
    Calls Try.prog 19 #[.pointer (some ⟨G, 0, none⟩), .int .i64 (m : Int)] w fun e w' => ∃ v, e = .returned (.tuple #[v, .bool true]) ∧ w'.ownsRow w.heap.size 3 1 v (l.take m).length (enc (l.take m)) ∧ Below w.heap.size w w' := by
  have HG := Lib.hid h
  clear h
  obtain ⟨i0, hi, hz0, hz1, hz2⟩ := info_parts Try.infoInt
  refine (callsIn_wide (n := 3)).1 ?_
  refine callsIn_of_wp_marks Try.func19 rfl trivial ?_ rfl
  simp only [Try.ntmps19, List.size_toArray, List.length_cons, List.length_nil, Nat.reduceAdd, Nat.reduceSub, Array.replicate_succ, Array.replicate_zero, List.push_toArray, List.append_toArray, List.nil_append, List.cons_append]
  have fq := fun w' : World => run_func_nil (w.heap.size + 1 + 1 + 1 + 1) w'
  gi_wp2_with (refine ⟨trivial, ?_⟩; gi_at_call 24; refine (callsIn_wide.2 (all_any _ _)).mono ?_; rintro e w4 ⟨rfl, rfl⟩)
  obtain ⟨W0, hW0⟩ : ∃ W0, (((((w.alloc (.cells #[.int .i64 (m : Int)] 3)).alloc (.cells #[.slice none 0 0] 22)).alloc (.cells #[.bool false] 4)).alloc (.cells #[.slice none 0 0] 22)).alloc (.cells #[.pointer (some ⟨G, 0, none⟩)] 25)) = W0 := ⟨_, rfl⟩
  have upw : Below w.heap.size w W0 := by rw [← hW0]; exact up_alloc (up_alloc (up_alloc (up_alloc (up_alloc (Below.refl _ _) _) _) _) _) _
  have hsz : W0.heap.size = w.heap.size + 5 := by rw [← hW0]; simp
  have yM : Boxed W0 w.heap.size 3 (.int .i64 (m : Int)) := by rw [← hW0]; exact ((((Boxed.new w _ _).alloc _).alloc _).alloc _).alloc _
  have y0 : Boxed W0 (w.heap.size + 1) 22 (.slice none 0 0) := by
    rw [← hW0]
    have h := (((Boxed.new (w.alloc (.cells #[.int .i64 (m : Int)] 3)) 22 (.slice none 0 0)).alloc (.cells #[.bool false] 4)).alloc (.cells #[.slice none 0 0] 22)).alloc (.cells #[.pointer (some ⟨G, 0, none⟩)] 25)
    simpa only [World.size_alloc] using h
  have y1 : Boxed W0 (w.heap.size + 2) 4 (.bool false) := by
    rw [← hW0]
    have h := ((Boxed.new ((w.alloc (.cells #[.int .i64 (m : Int)] 3)).alloc (.cells #[.slice none 0 0] 22)) 4 (.bool false)).alloc (.cells #[.slice none 0 0] 22)).alloc (.cells #[.pointer (some ⟨G, 0, none⟩)] 25)
    simpa only [World.size_alloc] using h
  have yO : Boxed W0 (w.heap.size + 3) 22 (.slice none 0 0) := by
    rw [← hW0]
    have h := (Boxed.new (((w.alloc (.cells #[.int .i64 (m : Int)] 3)).alloc (.cells #[.slice none 0 0] 22)).alloc (.cells #[.bool false] 4)) 22 (.slice none 0 0)).alloc (.cells #[.pointer (some ⟨G, 0, none⟩)] 25)
    simpa only [World.size_alloc] using h
  have yG : Boxed W0 (w.heap.size + 4) 25 (.pointer (some ⟨G, 0, none⟩)) := by
    rw [← hW0]
    have h := Boxed.new ((((w.alloc (.cells #[.int .i64 (m : Int)] 3)).alloc (.cells #[.slice none 0 0] 22)).alloc (.cells #[.bool false] 4)).alloc (.cells #[.slice none 0 0] 22)) 25 (.pointer (some ⟨G, 0, none⟩))
    simpa only [World.size_alloc] using h
  have gG : Has W0 (some ⟨G, 0, none⟩) l := .inr ⟨G, R, rfl, HG.out.up upw⟩
  rw [hW0]
  clear hW0 fq
  refine wpIn_rangeFunc_ownH rfl (by decide) (gf := 26) (lb := #[.pointer (some ⟨w.heap.size + 4, 0, none⟩)]) rfl trivial (enters_of Try.func26 (by kernel_rfl) rfl)
    (all_stops 2 (OutB (w.heap.size + 3)) (w.heap.size + 4) (some ⟨G, 0, none⟩) l (by omega) W0 yG.cell gG (fun W' hb b ⟨n, cap, ho⟩ => by rw [bl_cell hb yO.cell] at ho; cases ho)) KeepI.trans (fun W l o o' hl h1 h2 _ => outB_put _ W l o o' (by omega) h1 h2) (Below.refl _ _) (fun _ => rfl)
    (fun pre W => ((∃ v, Boxed W (w.heap.size + 3) 22 v ∧ W.ownsRow (w.heap.size + 5) 3 1 v pre.length (vals pre) ∧ pre.length < m) ∧ (Boxed W w.heap.size 3 (.int .i64 (m : Int)) ∧ (Boxed W (w.heap.size + 1) 22 (.slice none 0 0) ∧ Boxed W (w.heap.size + 2) 4 (.bool false)))) ∧ (good pre ∧ Below w.heap.size w W))
    (fun c' pre W => (c' = .exit 0 ∧ ((∃ v, Boxed W (w.heap.size + 3) 22 v ∧ W.ownsRow (w.heap.size + 5) 3 1 v pre.length (vals pre) ∧ pre.length = m) ∧ ((Boxed W (w.heap.size + 1) 22 (.slice none 0 0) ∧ Boxed W (w.heap.size + 2) 4 (.bool false)) ∧ Below w.heap.size w W))) ∨ ¬ good pre)
    (OwnFrom.and (OwnFrom.and (Own.from (holdsRow_own (w.heap.size + 5) (w.heap.size + 3) 22 3 1 (fun pre : List (Int × Int) => pre.length) (fun pre => vals pre) (fun pre _ => pre.length < m)) _) (OwnFrom.and (Own.from (boxed_own _ _ _) _) (OwnFrom.and (Own.from (boxed_own _ _ _) _) (Own.from (boxed_own _ _ _) _)))) (OwnFrom.and (ownFrom_pure _ (fun pre => good pre)) (ownFrom_below (Nat.le_refl _) (by omega))))
    (fun c' => OwnFrom.either (OwnFrom.and (ownFrom_pure _ (fun _ => c' = .exit 0)) (OwnFrom.and (Own.from (holdsRow_own (w.heap.size + 5) (w.heap.size + 3) 22 3 1 (fun pre : List (Int × Int) => pre.length) (fun pre => vals pre) (fun pre _ => pre.length = m)) _) (OwnFrom.and (OwnFrom.and (Own.from (boxed_own _ _ _) _) (Own.from (boxed_own _ _ _) _)) (ownFrom_below (Nat.le_refl _) (by omega))))) (ownFrom_pure _ (fun pre => ¬ good pre)))
    ⟨⟨⟨_, yO, World.ownsRow_nil _ _ _ _, by simp; omega⟩, yM, y0, y1⟩, fun i x hx => by simp at hx, upw⟩
    (fun x a' W => a' = { tmps := #[.pointer (some ⟨G, 0, none⟩), .int .i64 (m : Int), undef, .pointer (some ⟨w.heap.size, 0, none⟩), .pointer (some ⟨w.heap.size + 1, 0, none⟩), .pointer (some ⟨w.heap.size + 2, 0, none⟩), .pointer (some ⟨w.heap.size + 3, 0, none⟩), .func (.func 26) #[] #[.pointer (some ⟨w.heap.size + 4, 0, none⟩)], .int .i64 x.1, .int .i64 x.2, .pointer (some ⟨G, 0, none⟩), .func (.func 26) #[] #[.pointer (some ⟨w.heap.size + 4, 0, none⟩)], .func (.func 26) #[] #[.pointer (some ⟨w.heap.size + 4, 0, none⟩)], .bool false, .func (.func 26) #[] #[.pointer (some ⟨w.heap.size + 4, 0, none⟩)], .int .i64 x.1, .int .i64 x.2, undef, undef, undef, undef, undef, undef, undef, undef, undef, undef, undef, undef, undef], defers := [] })
    (fun x a' _ X Y row hs hg hr => hs)
    ?assign ?body ?done ?stop
  case assign =>
    rintro l0 pre x W K ⟨⟨⟨v, hv, hrow, hlt⟩, kM, k0, k1⟩, hgood, hB1⟩ hK
    unfold encP
    gi_wp2
    exact hK _ _ ((keeps_of_below (Below.refl _ _)).from _) (outB_up _ _ _ (by have := hv.lt; omega) (Below.refl _ _)) ⟨⟨⟨v, hv, hrow, hlt⟩, kM, k0, k1⟩, hgood, hB1⟩ rfl
  case body =>
    rintro l0 pre x a' W hl hl2 ⟨⟨⟨v, hv, hrow, hlt⟩, kM, k0, k1⟩, hgood, hB1⟩ rfl hlen
    obtain ⟨px, xv⟩ := x
    obtain ⟨ao, co, rfl⟩ := own_slice hrow
    have hgs := good_snoc hgood xv
    have hng := @not_good pre (px, xv)
    have hsz5 : w.heap.size + 5 ≤ W.heap.size := by
      obtain ⟨r, hr⟩ := hl2
      have := (Array.getElem?_eq_some_iff.1 hr).1
      omega
    obtain ⟨n, hn⟩ : ∃ n, pre.length = n := ⟨_, rfl⟩
    rw [hn] at hlt hlen hgs hng hv hrow
    have z0 := hv.cell
    have M5 := Lib.hid kM; have R5 := Lib.hid k0; have S5 := Lib.hid k1; have V5 := Lib.hid hv; have Row5 := Lib.hid hrow; have HB5 := Lib.hid hB1
    have HN := Lib.hid hn; have HGs := Lib.hid hgs; have HNg := Lib.hid hng; have HGo := Lib.hid hgood
    clear hn hgs hng hrow hgood kM hv hB1
    by_cases hX : px = (n : Int)
    · subst hX
      clear k0 k1
      gi_wp2_with (gi_at_builtin; refine wpListIn_append_own_at _ rfl _ _ 22 rfl (w.heap.size + 5) 3 i0 (.int .i64 0) 1 8 Try.underlying22 hi hz0 hz1 hz2 rfl (by decide) (.slice ao n co) n (vals pre) rfl (Row5.out.alloc _) ⟨W.heap.size, 0, none⟩ 1 1 [.int .i64 xv] rfl rfl (cell_one_new _ _ _) (by simp [Value.oneCell']) (by unfold maxLen; omega) (by omega) (by simp; omega) ?_; intro v' w6 hown' hgrow _ hat; obtain ⟨g', cap', rfl⟩ := ownsRow_succ hown'; have v6 := (V5.out.alloc (.cells #[.int .i64 xv] 3)).kept hgrow (V5.out.not_row (by decide) Row5.out); have c6 := v6.cell; have f6 := v6.frozen; have m7 := (((M5.out.alloc (.cells #[.int .i64 xv] 3)).kept hgrow (row_far Row5.out (by omega))).other (B' := w.heap.size + 3) (by omega) (.slice (some ⟨g', 0, none⟩) (n + 1) cap')).cell; have v7 := (v6.set (.slice (some ⟨g', 0, none⟩) (n + 1) cap')).cell)
      all_goals
        have hv7 := v6.set (.slice (some ⟨g', 0, none⟩) (n + 1) cap')
        have row7 := hown'.kept (grownBy_setCell' w6 (w.heap.size + 3) (.slice (some ⟨g', 0, none⟩) (n + 1) cap')) (.inr (v6.not_row (by decide) hown').symm)
        have M7 := ((M5.out.alloc (.cells #[.int .i64 xv] 3)).kept hgrow (row_far Row5.out (by omega))).other (B' := w.heap.size + 3) (by omega) (.slice (some ⟨g', 0, none⟩) (n + 1) cap')
        have R7 := ((R5.out.alloc (.cells #[.int .i64 xv] 3)).kept hgrow (row_far Row5.out (by omega))).other (B' := w.heap.size + 3) (by omega) (.slice (some ⟨g', 0, none⟩) (n + 1) cap')
        have S7 := ((S5.out.alloc (.cells #[.int .i64 xv] 3)).kept hgrow (row_far Row5.out (by omega))).other (B' := w.heap.size + 3) (by omega) (.slice (some ⟨g', 0, none⟩) (n + 1) cap')
        have KO7 := (KeepsOthers.alloc W (.cells #[.int .i64 xv] 3)).trans ((KeepsOthers.of_grownBy hgrow fun j o ej hj => row_cells (Row5.out.alloc _) ej.symm hj).trans (KeepsOthers.setCell w6 ⟨w.heap.size + 3, 0, none⟩ (.slice (some ⟨g', 0, none⟩) (n + 1) cap')))
        have KI7 := outB_append (n := n + 1) (cap := cap') V5.out hgrow hat (fun b hb => row_outB Row5.out V5.out hb) (V5.out.not_row (by decide) Row5.out)
        have HB7 := ((HB5.out.alloc HB5.out.size (.cells #[.int .i64 xv] 3)).grown hgrow (by have := HB5.out.size; simp; omega) (fun k hk => by have := (Row5.out.lt k hk).1; omega)).setCell (p := ⟨w.heap.size + 3, 0, none⟩) (by simp) (.slice (some ⟨g', 0, none⟩) (n + 1) cap')
        have e7 : (pre ++ [((n : Int), xv)]).length = n + 1 := by rw [List.length_append, HN.out]; rfl
        first
          | exact ⟨KO7.from _, KI7, ⟨⟨_, hv7, by rw [e7, vals_snoc]; exact row7, by rw [e7]; first | omega | (rename_i hne; simp at hne; omega)⟩, M7, R7, S7⟩, HGs.out, HB7⟩
          | exact ⟨KO7.from _, .inl ⟨rfl, ⟨_, hv7, by rw [e7, vals_snoc]; exact row7, by rw [e7]; first | omega | (rename_i hne; simp at hne; omega)⟩, ⟨R7, S7⟩, HB7⟩⟩
    · have e1 : (px != (n : Int)) = true := by simp [hX]
      have HX := Lib.hid (HNg.out (by simpa using hX))
      have q0 := k0.cell; have q1 := k1.cell; have f0 := k0.frozen; have f1 := k1.frozen
      gi_wp2
      exact ⟨((KeepsOthers.setCell _ _ _).trans (KeepsOthers.setCell _ _ _)).from _, .inr HX.out⟩
  case done =>
    rintro D ys W hD rfl ⟨⟨⟨v, hv, hrow, hlt⟩, kM, k0, k1⟩, hgood, hB1⟩ hK
    rw [pts_length] at hlt
    have hlk : l.take m = l := List.take_of_length_le (by omega)
    rw [pts_length, vals_pts l l.length (Nat.le_refl _), List.take_length] at hrow
    obtain ⟨n, hn⟩ : ∃ n, l.length = n := ⟨_, rfl⟩
    rw [hn] at hrow
    have hc := hv.cell
    have f0 := k0.frozen; have f1 := k1.frozen; have z0 := k0.cell; have z1 := k1.cell
    obtain ⟨av, cv, rfl⟩ := own_slice hrow
    gi_wp2
    have r1 := hrow.kept (grownBy_setCell' W (w.heap.size + 1) (.slice av n cv)) (.inr (k0.not_row (by decide) hrow).symm)
    have b0 := k0.set (.slice av n cv)
    have b1 := k1.other (B' := w.heap.size + 1) (by omega) (.slice av n cv)
    have r2 := r1.kept (grownBy_setCell' _ (w.heap.size + 2) (.bool true)) (.inr (b1.not_row (by decide) r1).symm)
    have b0' := b0.other (B' := w.heap.size + 2) (by omega) (.bool true)
    have b1' := b1.set (.bool true)
    have hK' := ((KeepsOthers.setCell W ⟨w.heap.size + 1, 0, none⟩ (.slice av n cv)).trans (KeepsOthers.setCell _ ⟨w.heap.size + 2, 0, none⟩ (.bool true))).same D _ hK rfl
    have hB2 := (hB1.setCell (p := ⟨w.heap.size + 1, 0, none⟩) (by simp) (.slice av n cv)).setCell (p := ⟨w.heap.size + 2, 0, none⟩) (by simp) (.bool true)
    refine ⟨by simp, .inl ⟨_, _, rfl, run_takeDeferred hK', ?_⟩⟩
    have p0 := (b0'.kept (grownBy_putObj' _ D (.deferred none)) (by simp; omega)).cell
    have p1 := (b1'.kept (grownBy_putObj' _ D (.deferred none)) (by simp; omega)).cell
    refine ⟨.tuple #[.slice av n cv, .bool true], by simp [results, Try.results19, go_sem, p0, p1], _, rfl, by rw [hlk, hn]; exact row_mono (ownsRow_putObj r2 _ hK' rfl) (by omega), ?_⟩
    exact hB2.trans (belowK_b (w := w) (Nat.le_refl _) _ D _ _ (by omega) hK' rfl rfl)
  case stop =>
    rintro D c' pre W hD ⟨k, hk, rfl⟩ hx hK
    rcases hx with ⟨rfl, ⟨v, hv, hrow, hlm⟩, ⟨k0, k1⟩, hB1⟩ | hx
    · rw [pts_length] at hlm
      subst hlm
      rw [pts_length, vals_pts l (k + 1) (by omega)] at hrow
      have hlk : (l.take (k + 1)).length = k + 1 := by rw [List.length_take]; omega
      have hc := hv.cell
      have f0 := k0.frozen; have f1 := k1.frozen; have z0 := k0.cell; have z1 := k1.cell
      obtain ⟨av, cv, rfl⟩ := own_slice hrow
      gi_wp2
      have r1 := hrow.kept (grownBy_setCell' W (w.heap.size + 1) (.slice av (k + 1) cv)) (.inr (k0.not_row (by decide) hrow).symm)
      have b0 := k0.set (.slice av (k + 1) cv)
      have b1 := k1.other (B' := w.heap.size + 1) (by omega) (.slice av (k + 1) cv)
      have r2 := r1.kept (grownBy_setCell' _ (w.heap.size + 2) (.bool true)) (.inr (b1.not_row (by decide) r1).symm)
      have b0' := b0.other (B' := w.heap.size + 2) (by omega) (.bool true)
      have b1' := b1.set (.bool true)
      have hK' := ((KeepsOthers.setCell W ⟨w.heap.size + 1, 0, none⟩ (.slice av (k + 1) cv)).trans (KeepsOthers.setCell _ ⟨w.heap.size + 2, 0, none⟩ (.bool true))).same D _ hK rfl
      have hB2 := (hB1.setCell (p := ⟨w.heap.size + 1, 0, none⟩) (by simp) (.slice av (k + 1) cv)).setCell (p := ⟨w.heap.size + 2, 0, none⟩) (by simp) (.bool true)
      refine ⟨by simp, .inl ⟨_, _, rfl, run_takeDeferred hK', ?_⟩⟩
      have p0 := (b0'.kept (grownBy_putObj' _ D (.deferred none)) (by simp; omega)).cell
      have p1 := (b1'.kept (grownBy_putObj' _ D (.deferred none)) (by simp; omega)).cell
      refine ⟨.tuple #[.slice av (k + 1) cv, .bool true], by simp [results, Try.results19, go_sem, p0, p1], _, rfl, by rw [hlk]; exact row_mono (ownsRow_putObj r2 _ hK' rfl) (by omega), ?_⟩
      exact hB2.trans (belowK_b (w := w) (Nat.le_refl _) _ D _ _ (by omega) hK' rfl rfl)
    · exact absurd (good_pts l (k + 1)) hx
end Go.Proofs.Ytiekhpeekhibeaa
