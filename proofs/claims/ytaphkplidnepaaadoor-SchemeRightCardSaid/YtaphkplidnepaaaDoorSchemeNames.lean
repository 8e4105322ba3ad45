/- What scheme.Names and scheme.Name answer: all names, in order; the first name of any scheme. -/
import Derived.Maps.AppendAt
import Derived.Maps.OwnIn
import Derived.Test.YtaphkplidnepaaaDoorSchemeFind
namespace Go.Proofs.YtaphkplidnepaaaDoor
open Go.RowKit Go.Shelf
set_option linter.unusedVariables false
attribute [local go_sem] Oper.semAt_some

/-- The names that have come, as cells. -/
def namesV (pre : List CatE) : List Value := pre.map fun e => .string (tx e.1.1)
theorem namesV_snoc (pre : List CatE) (x : CatE) : namesV (pre ++ [x]) = namesV pre ++ [.string (tx x.1.1)] := by simp [namesV]
def namesL : List (List UInt8) := catS.map Prod.fst
theorem namesV_all : namesV catL = namesL.map fun l => .string (tx l) := by
  unfold namesV namesL catL
  rw [List.map_map]
  have : (fun e : CatE => Value.string (tx e.1.1)) = (fun e : List UInt8 × Sc => Value.string (tx e.1)) ∘ Subtype.val := rfl
  rw [this, ← List.map_map, List.attach_map_subtype_val]
  rfl
theorem cell_one (w : World) (x : Value) (t : TypeId) : ∀ j u, [x][j]? = some u → (w.alloc (.cells #[x] t)).cell? ((⟨w.heap.size, 0, none⟩ : Addr).add j) = some u := by
  intro j u hj
  match j, hj with
  | 0, hj => simp at hj; subst hj; simp [Addr.add]
  | j + 1, hj => simp at hj

set_option maxRecDepth 100000 in
set_option maxHeartbeats 4000000 in
theorem schNames_any (w : World) (hg : Mx w) : Calls Tryd.prog 16 #[] w fun e w' => ∃ v, e = .returned v ∧ TxS w' v namesL ∧ Below w.heap.size w w' := by
  obtain ⟨i0, hi, hz0, hz1, hz2⟩ := info_parts Tryd.infoText
  refine (callsIn_wide (n := 3)).1 ?_
  refine callsIn_of_wp_marks Tryd.func16 rfl trivial ?_ rfl
  simp only [Tryd.ntmps16, List.size_toArray, List.length_nil, Nat.reduceSub, Array.replicate_succ, Array.replicate_zero, List.push_toArray, List.append_toArray, List.nil_append, List.cons_append]
  gi_wp2
  have x0 := Boxed.new w 29 (.slice none 0 0)
  obtain ⟨m, hm⟩ := hg
  have hlt := World.block_lt_of_cell? w _ hm
  have hm' := bl_cell (up_alloc (Below.refl _ w) (.cells #[.slice none 0 0] 29)) hm
  have upw : Below w.heap.size w (w.alloc (.cells #[.slice none 0 0] 29)) := up_alloc (Below.refl _ w) _
  have hsz : (w.alloc (.cells #[.slice none 0 0] 29)).heap.size = w.heap.size + 1 := by simp
  obtain ⟨W0, hW0⟩ : ∃ W0, (w.alloc (.cells #[.slice none 0 0] 29)) = W0 := ⟨_, rfl⟩
  rw [hW0] at x0 hm' upw hsz ⊢
  clear hW0
  refine wpIn_rangeFunc_ownG_of_H rfl (by decide) (gf := 31) (lb := #[]) rfl trivial (enters_of Tryd.func31 (by kernel_rfl) rfl)
    (catalogue_from 2 w.heap.size W0 (by omega) ⟨m, hlt, hm'⟩) belowK_t (belowK_b (by omega)) (Below.refl _ _) (fun _ => rfl)
    (fun pre W => (∃ v, Boxed W w.heap.size 29 v ∧ W.ownsRow w.heap.size 9 1 v pre.length (namesV pre) ∧ True) ∧ Below w.heap.size w W)
    (fun c' pre W => False)
    (OwnFrom.and (Own.from (holdsRow_own w.heap.size w.heap.size 29 9 1 (fun pre : List CatE => pre.length) (fun pre => namesV pre) (fun pre _ => True)) _) (ownFrom_below (Nat.le_refl _) (by omega)))
    (fun c' => ownFrom_pure _ (fun _ => False))
    ⟨⟨_, x0, World.ownsRow_nil _ _ _ _, trivial⟩, upw⟩
    (fun x => { tmps := #[.slice none 0 0, .pointer (some ⟨w.heap.size, 0, none⟩), .string (tx x.1.1), .string (tx x.1.1), .string (tx (textE x)), undef, undef, undef, undef, undef], defers := [] })
    ?assign ?body ?done ?stop (Below.refl _)
  case assign =>
    intro l x W K hK
    unfold encE
    gi_wp2
    exact hK
  case body =>
    rintro l0 pre x W ⟨⟨v, hv, hrow, -⟩, hB⟩ hlen
    have hc := hv.cell
    have hle : w.heap.size ≤ w.heap.size := Nat.le_refl _
    have hns := namesV_snoc pre x
    generalize tx (textE x) = T at *
    generalize tx x.1.1 = Q at *
    gi_wp2_with (gi_at_builtin; refine wpListIn_append_own _ rfl _ _ 29 rfl w.heap.size 9 i0 (.string ⟨#[]⟩) 1 16 Tryd.underlying29 hi hz0 hz1 hz2 rfl (by decide) _ _ _ rfl (hrow.alloc _) ⟨W.heap.size, 0, none⟩ 1 1 [.string Q] rfl rfl (cell_one _ _ _) (by simp [Value.oneCell']) (by unfold maxLen; omega) (by omega) (by have := hB.size; simp; omega) ?_; intro v' w1 hown' hgrow _; obtain ⟨g', cap', rfl⟩ := ownsRow_succ hown'; obtain ⟨hv1, hv2, hr2, hk2, hb2⟩ := hv.appended (by decide) hrow hB.size hle hown' hgrow; have hc1 := hv1.cell; have hf1 := hv1.frozen)
    exact ⟨hk2.from _, hb2, ⟨_, hv2, by rw [hns, List.length_append]; exact hr2⟩, hB.trans hb2⟩
  case done =>
    rintro D ys W hD rfl ⟨⟨v, hv, hrow, -⟩, hB⟩ hK
    have hc := hv.cell
    gi_wp2
    refine ⟨by simp, .inl ⟨_, _, rfl, run_takeDeferred hK, ?_⟩⟩
    refine ⟨_, results_tmp rfl _ _ _, v, rfl, ?_, hB.trans (belowK_b (w := w) (Nat.le_refl _) W D _ _ (by omega) hK rfl rfl)⟩
    have h := ownsRow_putObj hrow (.deferred none) hK rfl
    rw [namesV_all, show catL.length = namesL.length by rw [catL_length]; rfl] at h
    exact rowT.texts (base := w.heap.size) h
  case stop =>
    rintro D c' pre W hD hpre h hK
    exact h.elim

/-- A scheme's first name; empty: it has none. -/
def nameT (s : Sc) : ByteArray := match nameM s with
  | some n => tx n
  | none => ⟨#[]⟩
theorem told_eq (s : Sc) (x : CatE) : ((tx (textE x)).toList == (tellT s).toList) = decide (x.1.2 = s) := by
  have hx := cat_told x.1 x.2
  have ht : textE x = headT x.1.2 ++ tailT x.1.2.l := joinM_parts _
  unfold tellT
  split
  · rename_i hs
    rw [tx_same, ht, Bool.eq_iff_iff, decide_eq_true_eq, decide_eq_true_eq]
    exact ⟨fun e => tell_inj hx hs e, fun e => by rw [e]⟩
  · rename_i hs
    rw [show (⟨#[]⟩ : ByteArray) = tx [] from rfl, tx_same, Bool.eq_iff_iff, decide_eq_true_eq, decide_eq_true_eq, ht]
    constructor
    · intro e; simp [headT] at e
    · intro e; rw [e] at hx; exact absurd hx hs

theorem name_own (c' : Code) (s : Sc) (w : World) (B : Nat) (hB : w.heap.size ≤ B) : OwnFrom B (fun (_ : List CatE) W => c' = .ret ∧ ∃ n : List UInt8, nameM s = some n ∧ W.cell? ⟨w.heap.size + 1, 0, none⟩ = some (.string (tx n)) ∧ W.cell? ⟨w.heap.size + 1 + 1, 0, none⟩ = some (.bool true) ∧ Below w.heap.size w W) := by
  rintro _ W W' row ⟨e, n, h1, h2, h3, h5⟩ hg hr
  have hr' : ∀ r, row = some r → ∃ o : Obj, W.heap[r]? = some o ∧ o.isCells = false := fun r e => (hr r e).2
  exact ⟨e, n, h1, cell_kept h2 hg hr', cell_kept h3 hg hr', h5.grown hg h5.size (fun k e => by have := (hr k e).1; omega)⟩

set_option maxRecDepth 100000 in
set_option maxHeartbeats 4000000 in
theorem schName_any (s : Sc) (a : Option Addr) (cap : Nat) (w : World) (h : InL w a s.l) (hg : GoodM w) :
    Calls Tryd.prog 19 #[.agg #[.int .i64 s.c, .int .i64 s.r, .slice a s.l.length cap]] w fun e w' => e = .returned (.tuple #[.string (nameT s), .bool (nameM s).isSome]) ∧ Below w.heap.size w w' := by
  obtain ⟨c, hc⟩ : ∃ c, s.c = c := ⟨_, rfl⟩
  obtain ⟨r, hr⟩ : ∃ r, s.r = r := ⟨_, rfl⟩
  obtain ⟨n, hn⟩ : ∃ n, s.l.length = n := ⟨_, rfl⟩
  obtain ⟨T, hT⟩ : ∃ T, tellT s = T := ⟨_, rfl⟩
  obtain ⟨b, hb⟩ : ∃ b, toldB s = b := ⟨_, rfl⟩
  have KT := fun w1 (h1 : InL w1 a s.l) (h2 : Tab w1) => schTell_any s a cap w1 h1 h2
  rw [hc, hr, hn, hT, hb] at KT
  rw [hc, hr, hn]
  have HT := Lib.hid hT; have HKT := Lib.hid KT; have HI := Lib.hid h; have HG := Lib.hid hg
  clear hc hr hn hT hb KT h hg
  refine (callsIn_wide (n := 3)).1 ?_
  refine callsIn_of_wp_marks Tryd.func19 rfl trivial ?_ rfl
  simp only [Tryd.ntmps19, List.size_toArray, List.length_cons, List.length_nil, Nat.reduceAdd, Nat.reduceSub, Array.replicate_succ, Array.replicate_zero, List.push_toArray, List.append_toArray, List.nil_append, List.cons_append]
  have x1 := (Bx.new (w.alloc (.cells #[.int .i64 c, .int .i64 r, .slice a n cap] 24)) 9 [.string ⟨#[]⟩]).alloc (.cells #[.bool false] 4)
  have x2 := Bx.new ((w.alloc (.cells #[.int .i64 c, .int .i64 r, .slice a n cap] 24)).alloc (.cells #[.string ⟨#[]⟩] 9)) 4 [.bool false]
  simp only [World.size_alloc] at x1 x2
  have upw : Below w.heap.size w (((w.alloc (.cells #[.int .i64 c, .int .i64 r, .slice a n cap] 24)).alloc (.cells #[.string ⟨#[]⟩] 9)).alloc (.cells #[.bool false] 4)) := up_alloc (up_alloc (up_alloc (Below.refl _ _) _) _) _
  gi_wp2
  refine ⟨trivial, (callsIn_wide.2 (HKT.out _ (HI.out.up upw) (HG.out.below upw).1.1)).mono ?_⟩
  rintro e w1 ⟨rfl, hb1⟩
  have X1 := (x1.up hb1).alloc (.cells #[.string T] 9)
  have X2 := (x2.up hb1).alloc (.cells #[.string T] 9)
  have X4 := Bx.new w1 9 [.string T]
  have hu := up_alloc (up_trans upw hb1) (.cells #[.string T] 9)
  obtain ⟨B, hB⟩ : ∃ B, w1.heap.size = B := ⟨_, rfl⟩
  have hsz : (w1.alloc (.cells #[.string T] 9)).heap.size = B + 1 := by rw [← hB]; simp
  have hlt : w.heap.size + 3 ≤ B := by have := hb1.size; simp at this; omega
  rw [hB] at X4
  gi_wp2
  obtain ⟨W0, hW0⟩ : ∃ W0, w1.alloc (.cells #[.string T] 9) = W0 := ⟨_, rfl⟩
  rw [hW0] at X1 X2 X4 hu hsz ⊢
  have G0 := (HG.out.below hu)
  clear hW0 upw x1 x2 hb1 hB
  have HU := Lib.hid hu; have HX1 := Lib.hid X1; have HX2 := Lib.hid X2; have HX4 := Lib.hid X4
  clear hu X1 X2 X4
  refine wpIn_rangeFunc_ownG_of_H rfl (by decide) (gf := 31) (lb := #[]) rfl trivial (enters_of Tryd.func31 (by kernel_rfl) rfl)
    (catalogue_stops 2 W0 G0.2) belowK_t (belowK_b (Nat.le_refl _)) (Below.refl _ _) (fun _ => rfl)
    (fun pre W => (∀ e ∈ pre, e.1.2 ≠ s) ∧ Below W0.heap.size W0 W)
    (fun c' pre W => c' = .ret ∧ ∃ n : List UInt8, nameM s = some n ∧ W.cell? ⟨w.heap.size + 1, 0, none⟩ = some (.string (tx n)) ∧ W.cell? ⟨w.heap.size + 1 + 1, 0, none⟩ = some (.bool true) ∧ Below w.heap.size w W)
    (OwnFrom.and (ownFrom_pure _ _) (ownFrom_below (Nat.le_refl _) (Nat.le_refl _)))
    (fun c' => name_own c' s w W0.heap.size (by omega))
    ⟨fun e he => (by cases he), Below.refl _ _⟩
    (fun x => { tmps := #[.agg #[.int .i64 c, .int .i64 r, .slice a n cap], .pointer (some ⟨w.heap.size, 0, none⟩), .pointer (some ⟨w.heap.size + 1, 0, none⟩), .pointer (some ⟨w.heap.size + 1 + 1, 0, none⟩), .pointer (some ⟨B, 0, none⟩), .bool b, .string (tx x.1.1), .string (tx (textE x)), .tuple #[.string T, .bool b], .agg #[.int .i64 c, .int .i64 r, .slice a n cap], .tuple #[.string T, .bool b], .string T, .bool b, .string (tx x.1.1), .string (tx (textE x)), undef, undef, undef, undef], defers := [] })
    ?assign ?body ?done ?stop (Below.refl _)
  case assign =>
    intro l x W K hK
    unfold encE
    gi_wp2
    exact hK
  case body =>
    rintro l0 pre x W ⟨hne, hB⟩ hlen
    have y1 := HX1.out.up hB
    have y2 := HX2.out.up hB
    have y4 := HX4.out.up hB
    have a0 := y4.cell 0 rfl
    have r0 := y1.cell 0 rfl; have rf := y1.free; have s0 := y2.cell 0 rfl; have sf := y2.free
    have HB := Lib.hid hB; have HNE := Lib.hid hne
    have e := told_eq s x
    rw [HT.out] at e
    by_cases hx : x.1.2 = s
    · rw [decide_eq_true hx] at e
      have HF := Lib.hid (show nameM s = some x.1.1 by rw [← hx]; exact (find_of_mem x.2).2)
      generalize tx (textE x) = R at *
      generalize x.1.1 = q at *
      obtain ⟨Q, hQ⟩ : ∃ Q, tx q = Q := ⟨_, rfl⟩
      have HQ := Lib.hid hQ
      rw [hQ]
      clear hne hB hx hQ
      gi_wp2
      have ho := (KeepsOthers.setCell W ⟨w.heap.size + 1, 0, none⟩ (.string Q)).trans (KeepsOthers.setCell _ ⟨w.heap.size + 1 + 1, 0, none⟩ (.bool true))
      refine ⟨ho.from _, rfl, q, HF.out, ?_, ?_, ?_⟩
      · rw [HQ.out]
        exact ((y1.set 0 (.string Q)).far (p := ⟨w.heap.size + 1 + 1, 0, none⟩) (by simp only; omega) _).cell 0 rfl
      · exact ((y2.far (p := ⟨w.heap.size + 1, 0, none⟩) (by simp only; omega) (.string Q)).set 0 (.bool true)).cell 0 rfl
      · have B2 := HU.out.trans (HB.out.mono (by omega))
        repeat (first | (with_reducible exact B2) | (with_reducible refine up_set ?_ (by simp only; omega) _))
    · rw [decide_eq_false hx] at e
      generalize tx (textE x) = R at *
      have HX := Lib.hid hx
      generalize tx x.1.1 = Q at *
      clear hne hB hx
      gi_wp2
      exact ⟨KeepsFrom.refl _ _, Below.refl _ _, fun y hy => by
        rcases List.mem_append.1 hy with h | h
        · exact HNE.out y h
        · obtain rfl := List.mem_singleton.1 h; exact HX.out, HB.out⟩
  case done =>
    rintro D ys W hD rfl ⟨hne, hB⟩ hK
    have E := Lib.hid (show nameM s = none from name_none fun e he h => hne ⟨e, he⟩ (List.mem_attach _ _) h)
    have y1 := HX1.out.up hB
    have y2 := HX2.out.up hB
    have r0 := y1.cell 0 rfl; have rf := y1.free; have s0 := y2.cell 0 rfl; have sf := y2.free
    have hB1 := Lib.hid (HU.out.trans (hB.mono (by omega)))
    clear hne hB
    gi_wp2
    have hK' := ((KeepsOthers.setCell W ⟨w.heap.size + 1, 0, none⟩ (.string ⟨#[]⟩)).trans (KeepsOthers.setCell _ ⟨w.heap.size + 1 + 1, 0, none⟩ (.bool false))).same D _ hK rfl
    refine ⟨by simp, .inl ⟨_, _, rfl, run_takeDeferred hK', ?_⟩⟩
    have p0 := cell_kept (((y1.set 0 (.string ⟨#[]⟩)).far (p := ⟨w.heap.size + 1 + 1, 0, none⟩) (by simp only; omega) (.bool false)).cell 0 rfl) (grownBy_putObj' _ D (.deferred none)) (fun r e => by cases e; exact ⟨_, hK', rfl⟩)
    have p1 := cell_kept (((y2.far (p := ⟨w.heap.size + 1, 0, none⟩) (by simp only; omega) (.string ⟨#[]⟩)).set 0 (.bool false)).cell 0 rfl) (grownBy_putObj' _ D (.deferred none)) (fun r e => by cases e; exact ⟨_, hK', rfl⟩)
    refine ⟨.tuple #[.string ⟨#[]⟩, .bool false], by simp [results, Tryd.results19, go_sem, p0, p1], by unfold nameT; rw [E.out]; rfl, ?_⟩
    refine Below.trans ?_ (belowK_b (w := w) (Nat.le_refl _) _ D _ _ (by omega) hK' rfl rfl)
    have B2 := hB1.out
    repeat (first | (with_reducible exact B2) | (with_reducible refine up_set ?_ (by simp only; omega) _))
  case stop =>
    rintro D c' pre W hD hpre ⟨rfl, q, h1, h2, h3, h5⟩ hK
    have H5 := Lib.hid h5; have H1 := Lib.hid h1
    clear h1 h5
    gi_wp2
    refine ⟨by simp, .inl ⟨_, _, rfl, run_takeDeferred hK, ?_⟩⟩
    have p0 := cell_kept h2 (grownBy_putObj' _ D (.deferred none)) (fun r e => by cases e; exact ⟨_, hK, rfl⟩)
    have p1 := cell_kept h3 (grownBy_putObj' _ D (.deferred none)) (fun r e => by cases e; exact ⟨_, hK, rfl⟩)
    refine ⟨.tuple #[.string (tx q), .bool true], by simp [results, Tryd.results19, go_sem, p0, p1], by unfold nameT; rw [H1.out]; rfl, H5.out.trans (belowK_b (w := w) (Nat.le_refl _) _ D _ _ (by omega) hK rfl rfl)⟩
end Go.Proofs.YtaphkplidnepaaaDoor
