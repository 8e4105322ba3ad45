/- What scheme.Find answers: for every text. -/
import Derived.Test.YtaphkplidnepaaaDoorSchemeCat
namespace Go.Proofs.YtaphkplidnepaaaDoor
open Go.RowKit Go.Shelf
set_option linter.unusedVariables false
attribute [local go_sem] Oper.semAt_some

theorem InL.kept {W W' : World} {row : Option Nat} {a : Option Addr} {l : List Sp} (h : InL W a l) (hg : W.grownBy W' row) (hr : ∀ r, row = some r → ∃ o : Obj, W.heap[r]? = some o ∧ o.isCells = false) : InL W' a l := by
  rcases h with h | ⟨b, off, e, h⟩
  · exact .inl h
  · exact .inr ⟨b, off, e, fun j p hp => by
      obtain ⟨h0, h1, h2⟩ := h j p hp
      exact ⟨cell_kept h0 hg hr, cell_kept h1 hg hr, cell_kept h2 hg hr⟩⟩
theorem Cells.kept {W W' : World} {row : Option Nat} {B : Nat} {vs : List Value} (h : ∀ j v, vs[j]? = some v → W.cell? ⟨B, j, none⟩ = some v) (hg : W.grownBy W' row) (hr : ∀ r, row = some r → ∃ o : Obj, W.heap[r]? = some o ∧ o.isCells = false) : ∀ j v, vs[j]? = some v → W'.cell? ⟨B, j, none⟩ = some v := fun j v hj => cell_kept (h j v hj) hg hr

theorem cat_splitText (x : CatE) (w : World) (hm : Mx w) :
    Calls Tryd.prog 33 #[.string (tx (textE x)), .string ⟨#[32]⟩] w fun e w' => ∃ a c, e = .returned (.slice a (partsM x.1.2).length c) ∧ TxA w' a c (partsM x.1.2) ∧ Below w.heap.size w w' := by
  obtain ⟨m, hm⟩ := hm
  have ht : textE x = joinM (partsC x.1.2) := by unfold textE; rw [cat_parts x.1 x.2]
  have hs := cat_split x.1 x.2
  rw [← ht, ← cat_parts x.1 x.2] at hs
  have hz := (cat_short x.1 x.2).2.1
  rw [← ht] at hz
  have hl : (Lib.splitB ⟨#[32]⟩ 0 (Lib.countB (tx (textE x)) ⟨#[32]⟩) (tx (textE x))).map (·.data.toList) = partsM x.1.2 := by
    rw [Lib.splitB_data, data_tx, ← hs]
    unfold Lib.split Lib.countB
    rw [data_tx]
  have hn := Lib.splitB_all ⟨#[32]⟩ (by decide) 0 _ (tx (textE x)) rfl
  generalize hS : Lib.splitB ⟨#[32]⟩ 0 (Lib.countB (tx (textE x)) ⟨#[32]⟩) (tx (textE x)) = S at *
  have hlen : (partsM x.1.2).length = S.length := by rw [← hl]; simp
  refine (Tryd.strings_Split (tx (textE x)) ⟨#[32]⟩ m w (by rw [tx_size]; omega) hm (by decide)).mono ?_
  rintro e w' ⟨rfl, rfl⟩
  rw [hS, ← hn]
  refine ⟨some ⟨w.heap.size, 0, none⟩, S.length, by rw [hlen], .inr ⟨w.heap.size, 0, rfl, fun i l hi => ?_, by omega, ?_⟩, up_alloc (Below.refl _ _) _⟩
  · rw [← hl] at hi
    simp only [List.getElem?_map, Option.map_eq_some_iff] at hi
    obtain ⟨b, hb, rfl⟩ := hi
    rw [tx_data]
    have hlt := (List.getElem?_eq_some_iff.1 hb).1
    have hc : (w.alloc (.cells (S.map Value.string).toArray 9)).heap[w.heap.size]? = some (.cells (S.map Value.string).toArray 9 (0, 0)) := heap_alloc_new w _
    unfold World.cell?
    simp only [hc]
    simp [hb]
  · have : (partsM x.1.2).length ≤ 7 := by
      have := (toldB_true (cat_told x.1 x.2)).2.2.1
      simp [partsM]; omega
    unfold maxLen; omega

theorem InF.kept {W W' : World} {base : Nat} {row : Option Nat} {a : Option Addr} {l : List Sp} (h : InF base W a l) (hg : W.grownBy W' row) (hr : ∀ r, row = some r → ∃ o : Obj, W.heap[r]? = some o ∧ o.isCells = false) : InF base W' a l := by
  rcases h with h | ⟨b, off, e, h0, h⟩
  · exact .inl h
  · exact .inr ⟨b, off, e, h0, fun j p hp => by
      obtain ⟨h0, h1, h2⟩ := h j p hp
      exact ⟨cell_kept h0 hg hr, cell_kept h1 hg hr, cell_kept h2 hg hr⟩⟩
theorem keepsO_below {W W' : World} (h : Below W.heap.size W W') : KeepsOthers W W' := ⟨h.size, fun k o hk _ => (h.block k (Array.getElem?_eq_some_iff.1 hk).1).trans hk⟩
theorem find_own (c' : Code) (nm : List UInt8) (w : World) (B : Nat) (hB : w.heap.size ≤ B) : OwnFrom B (fun (_ : List CatE) W => c' = .ret ∧ ∃ (s : Sc) (a : Option Addr) (cap : Nat), findM nm = some s ∧ (∀ j v, [Value.int .i64 s.c, .int .i64 s.r, .slice a s.l.length cap][j]? = some v → W.cell? ⟨w.heap.size + 1, j, none⟩ = some v) ∧ W.cell? ⟨w.heap.size + 1 + 1, 0, none⟩ = some (.bool true) ∧ InF w.heap.size W a s.l ∧ Below w.heap.size w W) := by
  rintro _ W W' row ⟨e, s, a, cap, h1, h2, h3, h4, h5⟩ hg hr
  have hr' : ∀ r, row = some r → ∃ o : Obj, W.heap[r]? = some o ∧ o.isCells = false := fun r e => (hr r e).2
  exact ⟨e, s, a, cap, h1, Cells.kept h2 hg hr', cell_kept h3 hg hr', h4.kept hg hr', h5.grown hg h5.size (fun k e => by have := (hr k e).1; omega)⟩

set_option maxRecDepth 100000 in
set_option maxHeartbeats 4000000 in
theorem schFind_any (nm : List UInt8) (w : World) (hg : GoodM w) : Calls Tryd.prog 17 #[.string (tx nm)] w (GivesS (findM nm) w) := by
  obtain ⟨N, hN⟩ : ∃ N, tx nm = N := ⟨_, rfl⟩
  have HN := Lib.hid hN
  rw [hN]
  clear hN
  refine (callsIn_wide (n := 3)).1 ?_
  refine callsIn_of_wp_marks Tryd.func17 rfl trivial ?_ rfl
  simp only [Tryd.ntmps17, List.size_toArray, List.length_cons, List.length_nil, Nat.reduceAdd, Nat.reduceSub, Array.replicate_succ, Array.replicate_zero, List.push_toArray, List.append_toArray, List.nil_append, List.cons_append]
  gi_wp2
  have x0 := ((Bx.new w 9 [.string N]).alloc (.cells #[.int .i64 0, .int .i64 0, .slice none 0 0] 24)).alloc (.cells #[.bool false] 4)
  have x1 := (Bx.new (w.alloc (.cells #[.string N] 9)) 24 [.int .i64 0, .int .i64 0, .slice none 0 0]).alloc (.cells #[.bool false] 4)
  have x2 := Bx.new ((w.alloc (.cells #[.string N] 9)).alloc (.cells #[.int .i64 0, .int .i64 0, .slice none 0 0] 24)) 4 [.bool false]
  simp only [World.size_alloc] at x1 x2
  obtain ⟨W0, hW0⟩ : ∃ W0, (((w.alloc (.cells #[.string N] 9)).alloc (.cells #[.int .i64 0, .int .i64 0, .slice none 0 0] 24)).alloc (.cells #[.bool false] 4)) = W0 := ⟨_, rfl⟩
  have upw : Below w.heap.size w W0 := by rw [← hW0]; exact up_alloc (up_alloc (up_alloc (Below.refl _ _) _) _) _
  have hsz : W0.heap.size = w.heap.size + 3 := by rw [← hW0]; simp
  have X0 : Bx W0 w.heap.size [.string N] := by rw [← hW0]; exact x0
  have X1 : Bx W0 (w.heap.size + 1) [.int .i64 0, .int .i64 0, .slice none 0 0] := by rw [← hW0]; exact x1
  have X2 : Bx W0 (w.heap.size + 1 + 1) [.bool false] := by rw [← hW0]; exact x2
  rw [hW0]
  clear hW0 x0 x1 x2
  have G0 := hg.below upw
  have HU := Lib.hid upw; have HSZ := Lib.hid hsz; have HX0 := Lib.hid X0; have HX1 := Lib.hid X1; have HX2 := Lib.hid X2; have HG := Lib.hid G0
  clear upw X0 X1 X2 G0 hg
  refine wpIn_rangeFunc_ownG_of_H rfl (by decide) (gf := 31) (lb := #[]) rfl trivial (enters_of Tryd.func31 (by kernel_rfl) rfl)
    (catalogue_stops 2 W0 HG.out.2) belowK_t (belowK_b (Nat.le_refl _)) (Below.refl _ _) (fun _ => rfl)
    (fun pre W => (∀ e ∈ pre, e.1.1 ≠ nm) ∧ Below W0.heap.size W0 W)
    (fun c' pre W => c' = .ret ∧ ∃ (s : Sc) (a : Option Addr) (cap : Nat), findM nm = some s ∧ (∀ j v, [Value.int .i64 s.c, .int .i64 s.r, .slice a s.l.length cap][j]? = some v → W.cell? ⟨w.heap.size + 1, j, none⟩ = some v) ∧ W.cell? ⟨w.heap.size + 1 + 1, 0, none⟩ = some (.bool true) ∧ InF w.heap.size W a s.l ∧ Below w.heap.size w W)
    (OwnFrom.and (ownFrom_pure _ _) (ownFrom_below (Nat.le_refl _) (Nat.le_refl _)))
    (fun c' => find_own c' nm w W0.heap.size (by omega))
    ⟨fun e he => (by cases he), Below.refl _ _⟩
    (fun x => { tmps := #[.string N, .pointer (some ⟨w.heap.size, 0, none⟩), .pointer (some ⟨w.heap.size + 1, 0, none⟩), .pointer (some ⟨w.heap.size + 1 + 1, 0, none⟩), .string (tx x.1.1), .string (tx (textE x)), .string (tx x.1.1), .string (tx (textE x)), undef, undef, undef, undef, undef, undef, undef, undef, undef], defers := [] })
    ?assign ?body ?done ?stop (Below.refl _)
  case assign =>
    intro l x W K hK
    unfold encE
    gi_wp2
    exact hK
  case body =>
    rintro l0 pre x W ⟨hne, hB⟩ hlen
    have y0 := HX0.out.up hB
    have y1 := HX1.out.up hB
    have y2 := HX2.out.up hB
    have a0 := y0.cell 0 rfl
    have hz := hB.size
    have HB := Lib.hid hB; have HNE := Lib.hid hne
    have GW := Lib.hid (HG.out.below hB)
    have e := tx_same x.1.1 nm
    rw [HN.out] at e
    by_cases hx : x.1.1 = nm
    · rw [decide_eq_true hx] at e
      have HF := Lib.hid (show findM nm = some x.1.2 by rw [← hx]; exact (find_of_mem x.2).1)
      have KS := cat_splitText x W GW.out.2
      have KR := fun a c w1 (h : TxA w1 a c (partsM x.1.2)) (hg : GoodM w1) => schRead_any a c (partsM x.1.2) w1 h (fun p hp => by rw [cat_parts x.1 x.2] at hp; have := (cat_short x.1 x.2).2.2 p hp; omega) hg
      rw [read_parts x.1.2 (cat_told x.1 x.2)] at KR
      have HKS := Lib.hid KS; have HKR := Lib.hid KR
      generalize tx (textE x) = T at *
      generalize tx x.1.1 = Q at *
      generalize partsM x.1.2 = ls at *
      generalize x.1.2 = s at *
      clear KS KR hne hB hx
      gi_wp2_with (first
        | (refine ⟨trivial, ?_⟩; gi_at_call 33; refine (CallsIn.inRound l0 (callsIn_wide.2 HKS.out)).mono ?_; rintro e w1 ⟨a1, c1, rfl, hT, hb1⟩)
        | (refine ⟨trivial, ?_⟩; gi_at_call 32; refine (CallsIn.inRound l0 (callsIn_wide.2 (HKR.out _ _ _ hT (GW.out.below hb1)))).mono ?_; rintro e w2 ⟨a2, c2, rfl, hF, hb2⟩; have q1 := (y1.up hb1).up hb2; have q2 := (y2.up hb1).up hb2; have r0 := q1.cell 0 rfl; have r1 := q1.cell 1 rfl; have r2 := q1.cell 2 rfl; have rf := q1.free; have s0 := q2.cell 0 rfl; have sf := q2.free))
      have ho := (((keepsO_below (up_trans hb1 hb2)).trans (KeepsOthers.setCell w2 ⟨w.heap.size + 1, 0, none⟩ (.int .i64 s.c))).trans (KeepsOthers.setCell _ ⟨w.heap.size + 1, 1, none⟩ (.int .i64 s.r))).trans ((KeepsOthers.setCell _ ⟨w.heap.size + 1, 2, none⟩ (.slice a2 s.l.length c2)).trans (KeepsOthers.setCell _ ⟨w.heap.size + 1 + 1, 0, none⟩ (.bool true)))
      refine ⟨ho.from _, rfl, s, a2, c2, HF.out, ((q1.set3 _ _ _).far (p := ⟨w.heap.size + 1 + 1, 0, none⟩) (by simp only; omega) _).1, ?_, ?_, ?_⟩
      · exact (((((q2.far (p := ⟨w.heap.size + 1, 0, none⟩) (by simp only; omega) _).far (p := ⟨w.heap.size + 1, 1, none⟩) (by simp only; omega) _).far (p := ⟨w.heap.size + 1, 2, none⟩) (by simp only; omega) _).set 0 (.bool true)).cell 0 rfl)
      · have hs1 := hb1.size
        have hF' : InF (w.heap.size + 3) w2 a2 s.l := InF.mono hF (by omega)
        refine InF.mono (base := w.heap.size + 3) ?_ (by omega)
        repeat (first | (with_reducible exact hF') | (with_reducible refine InF.set ?_ (by simp only; omega) _))
      · have B2 := (HU.out.trans (HB.out.mono (by omega))).trans ((up_trans hb1 hb2).mono (by omega))
        repeat (first | (with_reducible exact B2) | (with_reducible refine up_set ?_ (by simp only; omega) _))
    · rw [decide_eq_false hx] at e
      generalize tx (textE x) = T at *
      have HX := Lib.hid hx
      generalize tx x.1.1 = Q at *
      clear hne hB hx
      gi_wp2
      exact ⟨KeepsFrom.refl _ _, Below.refl _ _, fun y hy => by
        rcases List.mem_append.1 hy with h | h
        · exact HNE.out y h
        · obtain rfl := List.mem_singleton.1 h; exact HX.out, HB.out⟩
  case done =>
    rintro D ys W hD rfl ⟨hne, hB⟩ hK
    have E := Lib.hid (show findM nm = none from find_none fun e he h => hne ⟨e, he⟩ (List.mem_attach _ _) h)
    have y1 := HX1.out.up hB
    have y2 := HX2.out.up hB
    have r0 := y1.cell 0 rfl; have r1 := y1.cell 1 rfl; have r2 := y1.cell 2 rfl; have rf := y1.free; have s0 := y2.cell 0 rfl; have sf := y2.free
    have hB1 := Lib.hid (HU.out.trans (hB.mono (by omega)))
    clear hne hB
    gi_wp2
    have hK' := ((((KeepsOthers.setCell W ⟨w.heap.size + 1, 0, none⟩ (.int .i64 0)).trans (KeepsOthers.setCell _ ⟨w.heap.size + 1, 1, none⟩ (.int .i64 0))).trans (KeepsOthers.setCell _ ⟨w.heap.size + 1, 2, none⟩ (.slice none 0 0))).trans (KeepsOthers.setCell _ ⟨w.heap.size + 1 + 1, 0, none⟩ (.bool false))).same D _ hK rfl
    refine ⟨by simp, .inl ⟨_, _, rfl, run_takeDeferred hK', ?_⟩⟩
    have p0 := Cells.kept ((y1.set3 (.int .i64 0) (.int .i64 0) (.slice none 0 0)).far (p := ⟨w.heap.size + 1 + 1, 0, none⟩) (by simp only; omega) (.bool false)).1 (grownBy_putObj' _ D (.deferred none)) (fun r e => by cases e; exact ⟨_, hK', rfl⟩)
    have p1 := cell_kept (((((y2.far (p := ⟨w.heap.size + 1, 0, none⟩) (by simp only; omega) (.int .i64 0)).far (p := ⟨w.heap.size + 1, 1, none⟩) (by simp only; omega) (.int .i64 0)).far (p := ⟨w.heap.size + 1, 2, none⟩) (by simp only; omega) (.slice none 0 0)).set 0 (.bool false)).cell 0 rfl) (grownBy_putObj' _ D (.deferred none)) (fun r e => by cases e; exact ⟨_, hK', rfl⟩)
    have c0 := p0 0 _ rfl; have c1 := p0 1 _ rfl; have c2 := p0 2 _ rfl
    refine ⟨.tuple #[.agg #[.int .i64 0, .int .i64 0, .slice none 0 0], .bool false], by simp [results, Tryd.results17, go_sem, c0, c1, c2, p1], ?_⟩
    rw [E.out]
    refine gives_none ?_
    refine Below.trans ?_ (belowK_b (w := w) (Nat.le_refl _) _ D _ _ (by omega) hK' rfl rfl)
    have B2 := hB1.out
    repeat (first | (with_reducible exact B2) | (with_reducible refine up_set ?_ (by simp only; omega) _))
  case stop =>
    rintro D c' pre W hD hpre ⟨rfl, s, a, cap, h1, h2, h3, h4, h5⟩ hK
    have H2 := Lib.hid h2; have H4 := Lib.hid h4; have H5 := Lib.hid h5; have H1 := Lib.hid h1
    clear h1 h2 h4 h5
    gi_wp2
    refine ⟨by simp, .inl ⟨_, _, rfl, run_takeDeferred hK, ?_⟩⟩
    have p0 := Cells.kept H2.out (grownBy_putObj' _ D (.deferred none)) (fun r e => by cases e; exact ⟨_, hK, rfl⟩)
    have p1 := cell_kept h3 (grownBy_putObj' _ D (.deferred none)) (fun r e => by cases e; exact ⟨_, hK, rfl⟩)
    have c0 := p0 0 _ rfl; have c1 := p0 1 _ rfl; have c2 := p0 2 _ rfl
    refine ⟨.tuple #[.agg #[.int .i64 s.c, .int .i64 s.r, .slice a s.l.length cap], .bool true], by simp [results, Tryd.results17, go_sem, c0, c1, c2, p1], ?_⟩
    rw [H1.out]
    exact ⟨a, cap, rfl, H4.out.kept (grownBy_putObj' _ D (.deferred none)) (fun r e => by cases e; exact ⟨_, hK, rfl⟩), H5.out.trans (belowK_b (w := w) (Nat.le_refl _) _ D _ _ (by omega) hK rfl rfl)⟩
end Go.Proofs.YtaphkplidnepaaaDoor
