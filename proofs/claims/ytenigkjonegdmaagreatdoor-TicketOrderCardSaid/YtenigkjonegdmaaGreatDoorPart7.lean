/- Part 7 of the texts that the proofs of this seat share: SchemeFind, Usual, TicketJob, TicketTold, LexSmall, TicketNames, LexFields. -/
import Derived.Test.YtenigkjonegdmaaGreatDoorPart6
import Derived.Test.YtenigkjonegdmaaGreatDoorPart5
import Derived.Test.YtenigkjonegdmaaGreatDoorPart2
import Derived.Test.YtenigkjonegdmaaGreatDoorPart3
import Derived.Test.YtenigkjonegdmaaGreatDoorPart1
/- What scheme.Find answers: for every text. -/
namespace Go.Proofs.YtenigkjonegdmaaGreatDoor
open Go.RowKit Go.Shelf
set_option linter.unusedVariables false
attribute [local go_sem] Oper.semAt_some

theorem InL.kept {W W' : World} {row : Option Nat} {a : Option Addr} {l : List Sp} (h : InL W a l) (hg : W.grownBy W' row) (hr : ∀ r, row = some r → ∃ o : Obj, W.heap[r]? = some o ∧ o.isCells = false) : InL W' a l := by
  rcases h with h | ⟨b, off, e, h⟩
  · exact .inl h
  · exact .inr ⟨b, off, e, fun j p hp => by
      obtain ⟨h0, h1, h2⟩ := h j p hp
      exact ⟨cell_kept h0 hg hr, cell_kept h1 hg hr, cell_kept h2 hg hr⟩⟩
theorem Cells.kept {W W' : World} {row : Option Nat} {B : Nat} {vs : List Value} (h : ∀ j v, vs[j]? = some v → W.cell? ⟨B, j, none⟩ = some v) (hg : W.grownBy W' row) (hr : ∀ r, row = some r → ∃ o : Obj, W.heap[r]? = some o ∧ o.isCells = false) : ∀ j v, vs[j]? = some v → W'.cell? ⟨B, j, none⟩ = some v := fun j v hj => cell_kept (h j v hj) hg hr

theorem cat_splitText (x : CatE) (w : World) (hm : Mx w) :
    Calls Tryz.prog 111 #[.string (tx (textE x)), .string ⟨#[32]⟩] w fun e w' => ∃ a c, e = .returned (.slice a (partsM x.1.2).length c) ∧ TxA w' a c (partsM x.1.2) ∧ Below w.heap.size w w' := by
  obtain ⟨m, hm⟩ := hm
  have ht : textE x = joinM (partsC x.1.2) := by unfold textE; rw [cat_parts x.1 x.2]
  have hs := cat_split x.1 x.2
  rw [← ht, ← cat_parts x.1 x.2] at hs
  have hz := (cat_short x.1 x.2).2.1
  rw [← ht] at hz
  have hl : (Lib.splitB ⟨#[32]⟩ 0 (Lib.countB (tx (textE x)) ⟨#[32]⟩) (tx (textE x))).map (·.data.toList) = partsM x.1.2 := by
    rw [Lib.splitB_data, data_tx, ← hs]
    unfold Lib.split Lib.countB
    rw [data_tx]
  have hn := Lib.splitB_all ⟨#[32]⟩ (by decide) 0 _ (tx (textE x)) rfl
  generalize hS : Lib.splitB ⟨#[32]⟩ 0 (Lib.countB (tx (textE x)) ⟨#[32]⟩) (tx (textE x)) = S at *
  have hlen : (partsM x.1.2).length = S.length := by rw [← hl]; simp
  refine (Tryz.strings_Split (tx (textE x)) ⟨#[32]⟩ m w (by rw [tx_size]; omega) hm (by decide)).mono ?_
  rintro e w' ⟨rfl, rfl⟩
  rw [hS, ← hn]
  refine ⟨some ⟨w.heap.size, 0, none⟩, S.length, by rw [hlen], .inr ⟨w.heap.size, 0, rfl, fun i l hi => ?_, by omega, ?_⟩, up_alloc (Below.refl _ _) _⟩
  · rw [← hl] at hi
    simp only [List.getElem?_map, Option.map_eq_some_iff] at hi
    obtain ⟨b, hb, rfl⟩ := hi
    rw [tx_data]
    have hlt := (List.getElem?_eq_some_iff.1 hb).1
    have hc : (w.alloc (.cells (S.map Value.string).toArray 9)).heap[w.heap.size]? = some (.cells (S.map Value.string).toArray 9 (0, 0)) := heap_alloc_new w _
    unfold World.cell?
    simp only [hc]
    simp [hb]
  · have : (partsM x.1.2).length ≤ 7 := by
      have := (toldB_true (cat_told x.1 x.2)).2.2.1
      simp [partsM]; omega
    unfold maxLen; omega

theorem InF.kept {W W' : World} {base : Nat} {row : Option Nat} {a : Option Addr} {l : List Sp} (h : InF base W a l) (hg : W.grownBy W' row) (hr : ∀ r, row = some r → ∃ o : Obj, W.heap[r]? = some o ∧ o.isCells = false) : InF base W' a l := by
  rcases h with h | ⟨b, off, e, h0, h⟩
  · exact .inl h
  · exact .inr ⟨b, off, e, h0, fun j p hp => by
      obtain ⟨h0, h1, h2⟩ := h j p hp
      exact ⟨cell_kept h0 hg hr, cell_kept h1 hg hr, cell_kept h2 hg hr⟩⟩
theorem keepsO_below {W W' : World} (h : Below W.heap.size W W') : KeepsOthers W W' := ⟨h.size, fun k o hk _ => (h.block k (Array.getElem?_eq_some_iff.1 hk).1).trans hk⟩
theorem find_own (c' : Code) (nm : List UInt8) (w : World) (B : Nat) (hB : w.heap.size ≤ B) : OwnFrom B (fun (_ : List CatE) W => c' = .ret ∧ ∃ (s : Sc) (a : Option Addr) (cap : Nat), findM nm = some s ∧ (∀ j v, [Value.int .i64 s.c, .int .i64 s.r, .slice a s.l.length cap][j]? = some v → W.cell? ⟨w.heap.size + 1, j, none⟩ = some v) ∧ W.cell? ⟨w.heap.size + 1 + 1, 0, none⟩ = some (.bool true) ∧ InF w.heap.size W a s.l ∧ Below w.heap.size w W) := by
  rintro _ W W' row ⟨e, s, a, cap, h1, h2, h3, h4, h5⟩ hg hr
  have hr' : ∀ r, row = some r → ∃ o : Obj, W.heap[r]? = some o ∧ o.isCells = false := fun r e => (hr r e).2
  exact ⟨e, s, a, cap, h1, Cells.kept h2 hg hr', cell_kept h3 hg hr', h4.kept hg hr', h5.grown hg h5.size (fun k e => by have := (hr k e).1; omega)⟩

set_option maxRecDepth 100000 in
set_option maxHeartbeats 4000000 in
theorem schFind_any (nm : List UInt8) (w : World) (hg : GoodM w) : Calls Tryz.prog 106 #[.string (tx nm)] w (GivesS (findM nm) w) := by
  obtain ⟨N, hN⟩ : ∃ N, tx nm = N := ⟨_, rfl⟩
  have HN := Lib.hid hN
  rw [hN]
  clear hN
  refine (callsIn_wide (n := 3)).1 ?_
  refine callsIn_of_wp_marks Tryz.func106 rfl trivial ?_ rfl
  simp only [Tryz.ntmps106, List.size_toArray, List.length_cons, List.length_nil, Nat.reduceAdd, Nat.reduceSub, Array.replicate_succ, Array.replicate_zero, List.push_toArray, List.append_toArray, List.nil_append, List.cons_append]
  gi_wp2
  have x0 := ((Bx.new w 9 [.string N]).alloc (.cells #[.int .i64 0, .int .i64 0, .slice none 0 0] 26)).alloc (.cells #[.bool false] 4)
  have x1 := (Bx.new (w.alloc (.cells #[.string N] 9)) 26 [.int .i64 0, .int .i64 0, .slice none 0 0]).alloc (.cells #[.bool false] 4)
  have x2 := Bx.new ((w.alloc (.cells #[.string N] 9)).alloc (.cells #[.int .i64 0, .int .i64 0, .slice none 0 0] 26)) 4 [.bool false]
  simp only [World.size_alloc] at x1 x2
  obtain ⟨W0, hW0⟩ : ∃ W0, (((w.alloc (.cells #[.string N] 9)).alloc (.cells #[.int .i64 0, .int .i64 0, .slice none 0 0] 26)).alloc (.cells #[.bool false] 4)) = W0 := ⟨_, rfl⟩
  have upw : Below w.heap.size w W0 := by rw [← hW0]; exact up_alloc (up_alloc (up_alloc (Below.refl _ _) _) _) _
  have hsz : W0.heap.size = w.heap.size + 3 := by rw [← hW0]; simp
  have X0 : Bx W0 w.heap.size [.string N] := by rw [← hW0]; exact x0
  have X1 : Bx W0 (w.heap.size + 1) [.int .i64 0, .int .i64 0, .slice none 0 0] := by rw [← hW0]; exact x1
  have X2 : Bx W0 (w.heap.size + 1 + 1) [.bool false] := by rw [← hW0]; exact x2
  rw [hW0]
  clear hW0 x0 x1 x2
  have G0 := hg.below upw
  have HU := Lib.hid upw; have HSZ := Lib.hid hsz; have HX0 := Lib.hid X0; have HX1 := Lib.hid X1; have HX2 := Lib.hid X2; have HG := Lib.hid G0
  clear upw X0 X1 X2 G0 hg
  refine wpIn_rangeFunc_ownG_of_H rfl (by decide) (gf := 85) (lb := #[]) rfl trivial (enters_of Tryz.func85 (by kernel_rfl) rfl)
    (catalogue_stops 2 W0 HG.out.2) belowK_t (belowK_b (Nat.le_refl _)) (Below.refl _ _) (fun _ => rfl)
    (fun pre W => (∀ e ∈ pre, e.1.1 ≠ nm) ∧ Below W0.heap.size W0 W)
    (fun c' pre W => c' = .ret ∧ ∃ (s : Sc) (a : Option Addr) (cap : Nat), findM nm = some s ∧ (∀ j v, [Value.int .i64 s.c, .int .i64 s.r, .slice a s.l.length cap][j]? = some v → W.cell? ⟨w.heap.size + 1, j, none⟩ = some v) ∧ W.cell? ⟨w.heap.size + 1 + 1, 0, none⟩ = some (.bool true) ∧ InF w.heap.size W a s.l ∧ Below w.heap.size w W)
    (OwnFrom.and (ownFrom_pure _ _) (ownFrom_below (Nat.le_refl _) (Nat.le_refl _)))
    (fun c' => find_own c' nm w W0.heap.size (by omega))
    ⟨fun e he => (by cases he), Below.refl _ _⟩
    (fun x => { tmps := #[.string N, .pointer (some ⟨w.heap.size, 0, none⟩), .pointer (some ⟨w.heap.size + 1, 0, none⟩), .pointer (some ⟨w.heap.size + 1 + 1, 0, none⟩), .string (tx x.1.1), .string (tx (textE x)), .string (tx x.1.1), .string (tx (textE x)), undef, undef, undef, undef, undef, undef, undef, undef, undef], defers := [] })
    ?assign ?body ?done ?stop (Below.refl _)
  case assign =>
    intro l x W K hK
    unfold encE
    gi_wp2
    exact hK
  case body =>
    rintro l0 pre x W ⟨hne, hB⟩ hlen
    have y0 := HX0.out.up hB
    have y1 := HX1.out.up hB
    have y2 := HX2.out.up hB
    have a0 := y0.cell 0 rfl
    have hz := hB.size
    have HB := Lib.hid hB; have HNE := Lib.hid hne
    have GW := Lib.hid (HG.out.below hB)
    have e := tx_same x.1.1 nm
    rw [HN.out] at e
    by_cases hx : x.1.1 = nm
    · rw [decide_eq_true hx] at e
      have HF := Lib.hid (show findM nm = some x.1.2 by rw [← hx]; exact (find_of_mem x.2).1)
      have KS := cat_splitText x W GW.out.2
      have KR := fun a c w1 (h : TxA w1 a c (partsM x.1.2)) (hg : GoodM w1) => schRead_any a c (partsM x.1.2) w1 h (fun p hp => by rw [cat_parts x.1 x.2] at hp; have := (cat_short x.1 x.2).2.2 p hp; omega) hg
      rw [read_parts x.1.2 (cat_told x.1 x.2)] at KR
      have HKS := Lib.hid KS; have HKR := Lib.hid KR
      generalize tx (textE x) = T at *
      generalize tx x.1.1 = Q at *
      generalize partsM x.1.2 = ls at *
      generalize x.1.2 = s at *
      clear KS KR hne hB hx
      gi_wp2_with (first
        | (refine ⟨trivial, ?_⟩; gi_at_call 111; refine (CallsIn.inRound l0 (callsIn_wide.2 HKS.out)).mono ?_; rintro e w1 ⟨a1, c1, rfl, hT, hb1⟩)
        | (refine ⟨trivial, ?_⟩; gi_at_call 107; refine (CallsIn.inRound l0 (callsIn_wide.2 (HKR.out _ _ _ hT (GW.out.below hb1)))).mono ?_; rintro e w2 ⟨a2, c2, rfl, hF, hb2⟩; have q1 := (y1.up hb1).up hb2; have q2 := (y2.up hb1).up hb2; have r0 := q1.cell 0 rfl; have r1 := q1.cell 1 rfl; have r2 := q1.cell 2 rfl; have rf := q1.free; have s0 := q2.cell 0 rfl; have sf := q2.free))
      have ho := (((keepsO_below (up_trans hb1 hb2)).trans (KeepsOthers.setCell w2 ⟨w.heap.size + 1, 0, none⟩ (.int .i64 s.c))).trans (KeepsOthers.setCell _ ⟨w.heap.size + 1, 1, none⟩ (.int .i64 s.r))).trans ((KeepsOthers.setCell _ ⟨w.heap.size + 1, 2, none⟩ (.slice a2 s.l.length c2)).trans (KeepsOthers.setCell _ ⟨w.heap.size + 1 + 1, 0, none⟩ (.bool true)))
      refine ⟨ho.from _, rfl, s, a2, c2, HF.out, ((q1.set3 _ _ _).far (p := ⟨w.heap.size + 1 + 1, 0, none⟩) (by simp only; omega) _).1, ?_, ?_, ?_⟩
      · exact (((((q2.far (p := ⟨w.heap.size + 1, 0, none⟩) (by simp only; omega) _).far (p := ⟨w.heap.size + 1, 1, none⟩) (by simp only; omega) _).far (p := ⟨w.heap.size + 1, 2, none⟩) (by simp only; omega) _).set 0 (.bool true)).cell 0 rfl)
      · have hs1 := hb1.size
        have hF' : InF (w.heap.size + 3) w2 a2 s.l := InF.mono hF (by omega)
        refine InF.mono (base := w.heap.size + 3) ?_ (by omega)
        repeat (first | (with_reducible exact hF') | (with_reducible refine InF.set ?_ (by simp only; omega) _))
      · have B2 := (HU.out.trans (HB.out.mono (by omega))).trans ((up_trans hb1 hb2).mono (by omega))
        repeat (first | (with_reducible exact B2) | (with_reducible refine up_set ?_ (by simp only; omega) _))
    · rw [decide_eq_false hx] at e
      generalize tx (textE x) = T at *
      have HX := Lib.hid hx
      generalize tx x.1.1 = Q at *
      clear hne hB hx
      gi_wp2
      exact ⟨KeepsFrom.refl _ _, Below.refl _ _, fun y hy => by
        rcases List.mem_append.1 hy with h | h
        · exact HNE.out y h
        · obtain rfl := List.mem_singleton.1 h; exact HX.out, HB.out⟩
  case done =>
    rintro D ys W hD rfl ⟨hne, hB⟩ hK
    have E := Lib.hid (show findM nm = none from find_none fun e he h => hne ⟨e, he⟩ (List.mem_attach _ _) h)
    have y1 := HX1.out.up hB
    have y2 := HX2.out.up hB
    have r0 := y1.cell 0 rfl; have r1 := y1.cell 1 rfl; have r2 := y1.cell 2 rfl; have rf := y1.free; have s0 := y2.cell 0 rfl; have sf := y2.free
    have hB1 := Lib.hid (HU.out.trans (hB.mono (by omega)))
    clear hne hB
    gi_wp2
    have hK' := ((((KeepsOthers.setCell W ⟨w.heap.size + 1, 0, none⟩ (.int .i64 0)).trans (KeepsOthers.setCell _ ⟨w.heap.size + 1, 1, none⟩ (.int .i64 0))).trans (KeepsOthers.setCell _ ⟨w.heap.size + 1, 2, none⟩ (.slice none 0 0))).trans (KeepsOthers.setCell _ ⟨w.heap.size + 1 + 1, 0, none⟩ (.bool false))).same D _ hK rfl
    refine ⟨by simp, .inl ⟨_, _, rfl, run_takeDeferred hK', ?_⟩⟩
    have p0 := Cells.kept ((y1.set3 (.int .i64 0) (.int .i64 0) (.slice none 0 0)).far (p := ⟨w.heap.size + 1 + 1, 0, none⟩) (by simp only; omega) (.bool false)).1 (grownBy_putObj' _ D (.deferred none)) (fun r e => by cases e; exact ⟨_, hK', rfl⟩)
    have p1 := cell_kept (((((y2.far (p := ⟨w.heap.size + 1, 0, none⟩) (by simp only; omega) (.int .i64 0)).far (p := ⟨w.heap.size + 1, 1, none⟩) (by simp only; omega) (.int .i64 0)).far (p := ⟨w.heap.size + 1, 2, none⟩) (by simp only; omega) (.slice none 0 0)).set 0 (.bool false)).cell 0 rfl) (grownBy_putObj' _ D (.deferred none)) (fun r e => by cases e; exact ⟨_, hK', rfl⟩)
    have c0 := p0 0 _ rfl; have c1 := p0 1 _ rfl; have c2 := p0 2 _ rfl
    refine ⟨.tuple #[.agg #[.int .i64 0, .int .i64 0, .slice none 0 0], .bool false], by simp [results, Tryz.results106, go_sem, c0, c1, c2, p1], ?_⟩
    rw [E.out]
    refine gives_none ?_
    refine Below.trans ?_ (belowK_b (w := w) (Nat.le_refl _) _ D _ _ (by omega) hK' rfl rfl)
    have B2 := hB1.out
    repeat (first | (with_reducible exact B2) | (with_reducible refine up_set ?_ (by simp only; omega) _))
  case stop =>
    rintro D c' pre W hD hpre ⟨rfl, s, a, cap, h1, h2, h3, h4, h5⟩ hK
    have H2 := Lib.hid h2; have H4 := Lib.hid h4; have H5 := Lib.hid h5; have H1 := Lib.hid h1
    clear h1 h2 h4 h5
    gi_wp2
    refine ⟨by simp, .inl ⟨_, _, rfl, run_takeDeferred hK, ?_⟩⟩
    have p0 := Cells.kept H2.out (grownBy_putObj' _ D (.deferred none)) (fun r e => by cases e; exact ⟨_, hK, rfl⟩)
    have p1 := cell_kept h3 (grownBy_putObj' _ D (.deferred none)) (fun r e => by cases e; exact ⟨_, hK, rfl⟩)
    have c0 := p0 0 _ rfl; have c1 := p0 1 _ rfl; have c2 := p0 2 _ rfl
    refine ⟨.tuple #[.agg #[.int .i64 s.c, .int .i64 s.r, .slice a s.l.length cap], .bool true], by simp [results, Tryz.results106, go_sem, c0, c1, c2, p1], ?_⟩
    rw [H1.out]
    exact ⟨a, cap, rfl, H4.out.kept (grownBy_putObj' _ D (.deferred none)) (fun r e => by cases e; exact ⟨_, hK, rfl⟩), H5.out.trans (belowK_b (w := w) (Nat.le_refl _) _ D _ _ (by omega) hK rfl rfl)⟩
end Go.Proofs.YtenigkjonegdmaaGreatDoor
/- The usual job, as the program and the reference tell it. -/
namespace Go.Proofs.YtenigkjonegdmaaGreatDoor
open Go.RowKit
set_option linter.unusedVariables false
set_option linter.unusedSimpArgs false

def usualL : List Int := [16, 0, 0, 148000, 210000, 3000, 5000, 5000, 5000, 0, 1, 1, 640000, 900000, 10000, 12000, 8000, 100, 1, 1, 0, 5000, 3000, 100, 20000, 5000, 10, 0]
def usualN (i : Nat) : Int := usualL.getD i 0
def usualF : Sc := ⟨2, 2, [⟨3, 1, false⟩, ⟨1, 1, false⟩]⟩
/-- The usual job. -/
def usualJ : Jb := ⟨[98, 111, 111, 107], usualN, usualF, []⟩
theorem keep_sets (w : World) (B o : Nat) (ws : List Value) : ∀ p : Addr, p.block ≠ B → ∀ v, w.cell? p = some v → (w.setCells B o ws).cell? p = some v := fun p hp v hv => by
  rw [World.cell?_setCells_out B ws o w p (fun e _ => absurd e hp)]
  exact hv
theorem find_usual : findM [70, 56, 45, 49] = some usualF := by decide +kernel
theorem usual_first : firstJ usualN = -1 := by decide +kernel

/-- A job is built out of its parts, in a region that does not draw its order. -/
theorem wpList_build_job {ops : Array Oper} {rest : List Oper} {o : Oper} {a : Act} {w : World} {Q : Exit → Act → World → Prop} (hg : o.guard = none) (parts : Array (Nat × Operand)) (ho : o.op = .build 29 parts) (cells : Array Value)
    (hc : Tryz.prog.built 29 (parts.map fun (i, x) => (i, a.eval x)).toList = some cells) (h : wpList Tryz.prog ops Q rest (a.put o.dst (.agg cells)) w) : wpList Tryz.prog ops Q (o :: rest) a w :=
  wpList_build_to hg _ parts ho cells hc h

set_option maxRecDepth 100000 in
theorem refUsual_any (w : World) : Calls Tryz.prog 15 #[] w fun e w' => ∃ cs, e = .returned (.agg cs.toArray) ∧ JobF w.heap.size w' cs usualJ ∧ Below w.heap.size w w' := by
  have HR := Bx.new w 29 zeroL
  have HB := up_alloc (Below.refl w.heap.size w) (.cells zeroL.toArray 29)
  have HZ := World.size_alloc w (.cells zeroL.toArray 29)
  obtain ⟨w1, hw1⟩ : ∃ w1, w.alloc (.cells zeroL.toArray 29) = w1 := ⟨_, rfl⟩
  have R2 := HR.later (by decide) (up_alloc (Below.refl _ _) (.cells #[.int .i64 3, .int .i64 1, .bool false, .int .i64 1, .int .i64 1, .bool false] 78))
  have B2 := up_alloc HB (.cells #[.int .i64 3, .int .i64 1, .bool false, .int .i64 1, .int .i64 1, .bool false] 78)
  have S2 := Bx.new (w.alloc (.cells zeroL.toArray 29)) 78 [.int .i64 3, .int .i64 1, .bool false, .int .i64 1, .int .i64 1, .bool false]
  rw [hw1] at R2 B2 S2 HZ
  have HR2 := Lib.hid R2; have HB2 := Lib.hid B2; have HS2 := Lib.hid S2; have HZ2 := Lib.hid HZ; have HW := Lib.hid hw1
  clear R2 B2 S2 HR HB HZ hw1
  go_enter Tryz.func15, Tryz.ntmps15
  go_wp2_with (first
    | (refine wpList_alloc_to rfl 29 rfl _ _ (job_alloc _) ?_; simp only [Act.put, HW.out, List.setIfInBounds_toArray, List.set_cons_succ, List.set_cons_zero])
    | (refine wpList_build_job rfl _ rfl (jobL (tx usualJ.t) usualN 2 2 (.slice (some ⟨w1.heap.size, 0, none⟩) 2 2) (.slice none 0 0)).toArray ?_ ?_; kernel_rfl; simp only [Act.put, List.setIfInBounds_toArray, List.set_cons_succ, List.set_cons_zero])
    | (refine wpList_store_job rfl _ _ rfl w.heap.size rfl zeroL (jobL (tx usualJ.t) usualN 2 2 (.slice (some ⟨w1.heap.size, 0, none⟩) 2 2) (.slice none 0 0)) rfl HR2.out rfl rfl (job_one _ _ _ _ _ _ _ _ _ _) ?_; simp only [Act.put]))
  have hz := HZ2.out
  have R3 := HR2.out.sets (ws := jobL (tx usualJ.t) usualN 2 2 (.slice (some ⟨w1.heap.size, 0, none⟩) 2 2) (.slice none 0 0)) rfl
  have B3 := below_setCells (Nat.le_refl w.heap.size) (jobL (tx usualJ.t) usualN 2 2 (.slice (some ⟨w1.heap.size, 0, none⟩) 2 2) (.slice none 0 0)) 0 _ HB2.out
  have S3 := sets_far HS2.out (show w1.heap.size ≠ w.heap.size by omega) 0 (jobL (tx usualJ.t) usualN 2 2 (.slice (some ⟨w1.heap.size, 0, none⟩) 2 2) (.slice none 0 0))
  refine bodyPost_ret (v := .agg (jobL (tx usualJ.t) usualN 2 2 (.slice (some ⟨w1.heap.size, 0, none⟩) 2 2) (.slice none 0 0)).toArray) (results_wide Tryz.results15 w.heap.size rfl _ _ R3.range Tryz.underlying29 rfl infoJob) rfl
    ⟨_, rfl, ⟨some ⟨w1.heap.size, 0, none⟩, 2, none, 0, rfl, .inr ⟨w1.heap.size, 0, rfl, by omega, fun j p hp => ?_⟩, .inl rfl⟩, B3⟩
  match j, hp with
  | 0, hp => cases hp; exact ⟨S3.cell 0 rfl, S3.cell 1 rfl, S3.cell 2 rfl⟩
  | 1, hp => cases hp; exact ⟨S3.cell 3 rfl, S3.cell 4 rfl, S3.cell 5 rfl⟩
  | j + 2, hp => simp [usualJ, usualF] at hp
end Go.Proofs.YtenigkjonegdmaaGreatDoor
/- A job whose lists lie in blocks of which something is known; jobs of nothing; a job among several results. -/
namespace Go.Proofs.YtenigkjonegdmaaGreatDoor
open Go.RowKit
set_option linter.unusedVariables false
set_option linter.unusedSimpArgs false

/-- The steps, the texts, lie where the slice says, in a block of which G is true. -/
def LiG (G : Nat → Prop) (w : World) (a : Option Addr) (l : List Sp) : Prop := l = [] ∨ ∃ b off, a = some ⟨b, off, none⟩ ∧ G b ∧ InS w b off l
def TxG (G : Nat → Prop) (w : World) (a : Option Addr) (c : Nat) (ls : List (List UInt8)) : Prop :=
  ls = [] ∨ ∃ g o, a = some ⟨g, o, none⟩ ∧ G g ∧ (∀ i l, ls[i]? = some l → w.cell? ⟨g, o + i, none⟩ = some (.string (tx l))) ∧ ls.length ≤ c ∧ c ≤ maxLen
def JobG (G : Nat → Prop) (w : World) (cs : List Value) (j : Jb) : Prop :=
  ∃ a c a' c', cs = jobL (tx j.t) j.n j.f.c j.f.r (.slice a j.f.l.length c) (.slice a' j.ls.length c') ∧ LiG G w a j.f.l ∧ TxG G w a' c' j.ls
section
variable {G G' : Nat → Prop} {w w' : World} {a : Option Addr} {c : Nat} {l : List Sp} {ls : List (List UInt8)} {cs : List Value} {j : Jb} {base : Nat}
theorem LiG.inL (h : LiG G w a l) : InL w a l := h.imp id fun ⟨b, off, e, _, h⟩ => ⟨b, off, e, h⟩
theorem TxG.arg (h : TxG G w a c ls) : TxA w a c ls := h.imp id fun ⟨g, o, e, _, h⟩ => ⟨g, o, e, h⟩
theorem JobG.jobA (h : JobG G w cs j) : JobA w cs j := by
  obtain ⟨a, c, a', c', e, h1, h2⟩ := h
  exact ⟨a, c, a', c', e, h1.inL, h2.arg⟩
theorem LiG.mono (h : LiG G w a l) (hG : ∀ b, G b → G' b) : LiG G' w a l := h.imp id fun ⟨b, off, e, g, h⟩ => ⟨b, off, e, hG _ g, h⟩
theorem TxG.mono (h : TxG G w a c ls) (hG : ∀ b, G b → G' b) : TxG G' w a c ls := h.imp id fun ⟨b, off, e, g, h⟩ => ⟨b, off, e, hG _ g, h⟩
theorem JobG.mono (h : JobG G w cs j) (hG : ∀ b, G b → G' b) : JobG G' w cs j := by
  obtain ⟨a, c, a', c', e, h1, h2⟩ := h
  exact ⟨a, c, a', c', e, h1.mono hG, h2.mono hG⟩
theorem LiG.up (h : LiG G w a l) (hb : Below w.heap.size w w') : LiG G w' a l := h.imp id fun ⟨b, off, e, g, h⟩ => ⟨b, off, e, g, h.up hb⟩
theorem TxG.up (h : TxG G w a c ls) (hb : Below w.heap.size w w') : TxG G w' a c ls := h.imp id fun ⟨g, o, e, g0, h, h2⟩ => ⟨g, o, e, g0, fun i l hi => bl_cell hb (h i l hi), h2⟩
theorem JobG.up (h : JobG G w cs j) (hb : Below w.heap.size w w') : JobG G w' cs j := by
  obtain ⟨a, c, a', c', e, h1, h2⟩ := h
  exact ⟨a, c, a', c', e, h1.up hb, h2.up hb⟩
/-- Lists stand in blocks that there are. -/
theorem LiG.old (h : LiG G w a l) : LiG (fun b => G b ∧ b < w.heap.size) w a l := by
  rcases h with h | ⟨b, off, e, g, h⟩
  · exact .inl h
  · cases l with
    | nil => exact .inl rfl
    | cons p r => exact .inr ⟨b, off, e, ⟨g, World.block_lt_of_cell? w _ (h 0 p rfl).1⟩, h⟩
theorem TxG.old (h : TxG G w a c ls) : TxG (fun b => G b ∧ b < w.heap.size) w a c ls := by
  rcases h with h | ⟨b, off, e, g, h, h2⟩
  · exact .inl h
  · cases ls with
    | nil => exact .inl rfl
    | cons p r => exact .inr ⟨b, off, e, ⟨g, World.block_lt_of_cell? w _ (h 0 p rfl)⟩, h, h2⟩
theorem JobG.old (h : JobG G w cs j) : JobG (fun b => G b ∧ b < w.heap.size) w cs j := by
  obtain ⟨a, c, a', c', e, h1, h2⟩ := h
  exact ⟨a, c, a', c', e, h1.old, h2.old⟩
/-- All but one block, in which no list lies, is as it was. -/
theorem LiG.keep {B : Nat} (h : LiG G w a l) (hB : ¬ G B) (hk : ∀ p : Addr, p.block ≠ B → ∀ v, w.cell? p = some v → w'.cell? p = some v) : LiG G w' a l :=
  h.imp id fun ⟨b, off, e, g, h⟩ => ⟨b, off, e, g, fun i q hq => by
    have hne : b ≠ B := fun e => hB (e ▸ g)
    obtain ⟨c0, c1, c2⟩ := h i q hq
    exact ⟨hk _ hne _ c0, hk _ hne _ c1, hk _ hne _ c2⟩⟩
theorem TxG.keep {B : Nat} (h : TxG G w a c ls) (hB : ¬ G B) (hk : ∀ p : Addr, p.block ≠ B → ∀ v, w.cell? p = some v → w'.cell? p = some v) : TxG G w' a c ls :=
  h.imp id fun ⟨b, off, e, g, h, h2⟩ => ⟨b, off, e, g, fun i q hq => hk _ (fun e => hB (e ▸ g)) _ (h i q hq), h2⟩
theorem JobG.keep {B : Nat} (h : JobG G w cs j) (hB : ¬ G B) (hk : ∀ p : Addr, p.block ≠ B → ∀ v, w.cell? p = some v → w'.cell? p = some v) : JobG G w' cs j := by
  obtain ⟨a, c, a', c', e, h1, h2⟩ := h
  exact ⟨a, c, a', c', e, h1.keep hB hk, h2.keep hB hk⟩
theorem JobF.jobG (h : JobF base w cs j) : JobG (base ≤ ·) w cs j := h
theorem JobA.jobG (h : JobA w cs j) : JobG (fun _ => True) w cs j := by
  obtain ⟨a, c, a', c', e, h1, h2⟩ := h
  exact ⟨a, c, a', c', e, h1.imp id fun ⟨b, off, e, h⟩ => ⟨b, off, e, trivial, h⟩, h2.imp id fun ⟨g, o, e, h⟩ => ⟨g, o, e, trivial, h⟩⟩
theorem JobG.length (h : JobG G w cs j) : cs.length = 33 := h.jobA.length
theorem JobG.one (h : JobG G w cs j) : cs.toArray.all (·.oneCell') = true := h.jobA.one
theorem zeroL_job : JobG G w zeroL zeroJ := ⟨none, 0, none, 0, rfl, .inl rfl, .inl rfl⟩
end
/-- Another title, another scheme, other names. -/
theorem JobG.title {G : Nat → Prop} {w : World} {cs : List Value} {j : Jb} (h : JobG G w cs j) (s : List UInt8) : JobG G w (cs.set 0 (.string (tx s))) { j with t := s } := by
  obtain ⟨a, c, a', c', rfl, h1, h2⟩ := h
  exact ⟨a, c, a', c', rfl, h1, h2⟩
theorem JobG.folds {G : Nat → Prop} {w : World} {cs : List Value} {j : Jb} (h : JobG G w cs j) (s : Sc) (a : Option Addr) (c : Nat) (hs : LiG G w a s.l) : JobG G w (((cs.set 12 (.int .i64 s.c)).set 13 (.int .i64 s.r)).set 14 (.slice a s.l.length c)) { j with f := s } := by
  obtain ⟨a0, c0, a', c', rfl, h1, h2⟩ := h
  exact ⟨a, c, a', c', rfl, hs, h2⟩
theorem JobG.last {G : Nat → Prop} {w : World} {cs : List Value} {j : Jb} (h : JobG G w cs j) (ls : List (List UInt8)) (a : Option Addr) (c : Nat) (hs : TxG G w a c ls) : JobG G w (cs.set 15 (.slice a ls.length c)) { j with ls := ls } := by
  obtain ⟨a0, c0, a', c', rfl, h1, h2⟩ := h
  exact ⟨a0, c0, a, c, rfl, h1, hs⟩
theorem zeroL_one : zeroL.toArray.all (·.oneCell') = true := (zeroL_job (G := fun _ => True) (w := default)).one
/-- What answers a job and an error's number: lists are old ones, or new. -/
def GivesJ (G : Nat → Prop) (r : Int × Jb) (w : World) (e : Ending) (w' : World) : Prop :=
  ∃ cs, e = .returned (.tuple #[.agg cs.toArray, .int .i64 r.1]) ∧ JobG (fun b => G b ∨ w.heap.size ≤ b) w' cs r.2 ∧ Below w.heap.size w w'

section
variable {ops : Array Oper} {rest : List Oper} {o : Oper} {a : Act} {w : World} {Q : Exit → Act → World → Prop}
/-- A job of nothing is made. -/
theorem wpList_zero_job (hg : o.guard = none) (ho : o.op = .build 29 #[]) (h : wpList Tryz.prog ops Q rest (a.put o.dst (.agg zeroL.toArray)) w) : wpList Tryz.prog ops Q (o :: rest) a w :=
  wpList_build_to hg _ #[] ho _ (by kernel_rfl) h
end
theorem results_wide2 {P : Program} {fn : Func} {tmps : Array Value} {w : World} {s s2 : Nat} {t : TypeId} (hr : fn.results = #[.cell s t, .tmp s2]) (b : Nat) (ht : tmps.getD s undef = .pointer (some ⟨b, 0, none⟩)) (cs : List Value) (d : TypeDesc) (v : Value) (hv : tmps.getD s2 undef = v)
    (hc : w.rangeAt b 0 cs) (hu : P.underlying t = some d) (hd : d.isRow = true) (hi : (P.info? t).map (·.size) = some cs.length) : (results fn tmps).run P w = .ok (.tuple #[.agg cs.toArray, v]) w := by
  unfold results
  rw [hr]
  have ht' : tmps[s]?.getD undef = .pointer (some ⟨b, 0, none⟩) := by simpa using ht
  have hv' : tmps[s2]?.getD undef = v := by simpa using hv
  simp [ht', hv', asAddr, run_loadVar_mid w b 0 t cs d hc hu hd hi]
theorem results_wide3 {P : Program} {fn : Func} {tmps : Array Value} {w : World} {s s2 s3 : Nat} {t : TypeId} (hr : fn.results = #[.cell s t, .tmp s2, .tmp s3]) (b : Nat) (ht : tmps.getD s undef = .pointer (some ⟨b, 0, none⟩)) (cs : List Value) (d : TypeDesc) (v u : Value) (hv : tmps.getD s2 undef = v) (hu' : tmps.getD s3 undef = u)
    (hc : w.rangeAt b 0 cs) (hu : P.underlying t = some d) (hd : d.isRow = true) (hi : (P.info? t).map (·.size) = some cs.length) : (results fn tmps).run P w = .ok (.tuple #[.agg cs.toArray, v, u]) w := by
  unfold results
  rw [hr]
  have ht' : tmps[s]?.getD undef = .pointer (some ⟨b, 0, none⟩) := by simpa using ht
  have hv' : tmps[s2]?.getD undef = v := by simpa using hv
  have hu2 : tmps[s3]?.getD undef = u := by simpa using hu'
  simp [ht', hv', hu2, asAddr, run_loadVar_mid w b 0 t cs d hc hu hd hi]
end Go.Proofs.YtenigkjonegdmaaGreatDoor
/- Tickets as plain data: what one key's line says of a job comes back from it; what is read of a line can be told. -/
namespace Go.Proofs.YtenigkjonegdmaaGreatDoor
open Go.RowKit DecMath
set_option linter.unusedVariables false
set_option linter.unusedSimpArgs false

theorem plain_seen {c : UInt8} (h : plainO c = true) : seenB c = true := by
  simp only [plainO, Bool.and_eq_true] at h
  exact h.1.1.1
theorem all_seen {p : List UInt8} (h : p.all plainO = true) : p.all seenB = true := by
  rw [List.all_eq_true] at h ⊢
  exact fun c hc => plain_seen (h c hc)
theorem plain_good {p : List UInt8} (h0 : p ≠ []) (h : p.all plainO = true) : GoodF p := ⟨h0, fun rest out cur => plain_field p rest out cur h⟩
theorem seen_feed {p : List UInt8} (h : p.all seenB = true) : (10 : UInt8) ∉ p := by
  intro hm
  have := List.all_eq_true.1 h 10 hm
  revert this
  decide
theorem nameB_some {s : List UInt8} (h : nameB s = true) : s ≠ [] ∧ s.all plainO = true := by
  unfold nameB at h
  simp only [Bool.and_eq_true, Bool.not_eq_true', List.isEmpty_eq_false_iff] at h
  exact h
theorem digits_plain (u : Nat) : (Lib.decDigits u).all plainO = true := by
  rw [List.all_eq_true]
  exact fun c hc => plain_digit (digits_each u c hc)
theorem itoa_plain_any (n : Int) : Lib.itoa n ≠ [] ∧ (Lib.itoa n).all plainO = true := by
  unfold Lib.itoa
  split
  · refine ⟨by simp, ?_⟩
    rw [List.all_cons, digits_plain]
    decide
  · exact ⟨digits_ne _, digits_plain _⟩
theorem esc_seen {l : List UInt8} (h : l.all seenB = true) : (l.flatMap escO).all seenB = true := by
  rw [List.all_eq_true]
  intro c hc
  obtain ⟨d, hd, hc⟩ := List.mem_flatMap.1 hc
  have := List.all_eq_true.1 h d hd
  unfold escO at hc
  split at hc
  · simp only [List.mem_cons, List.not_mem_nil, or_false] at hc
    rcases hc with rfl | rfl
    · decide
    · exact this
  · simp only [List.mem_cons, List.not_mem_nil, or_false] at hc
    subst hc
    exact this
theorem quote_seen {t q : List UInt8} (h : quoteO t = some q) : q.all seenB = true := by
  obtain ⟨h1, rfl⟩ := quote_some h
  unfold quoteT
  rw [List.all_cons, List.all_append, esc_seen h1]
  decide
theorem quote_good {t q : List UInt8} (h : quoteO t = some q) : GoodF q := fieldsL_good (fields_quote h) q (by simp)

/-- The parts of a scheme's text. -/
def schL (s : Sc) : List (List UInt8) := match nameM s with
  | some n => [n]
  | none => partsM s
theorem sch_parts {s : Sc} {t : List UInt8} (h : putM s = some t) : t = joinM (schL s) ∧ schL s ≠ [] ∧ (schL s).length ≤ 7 ∧ getM (schL s) = some s ∧ ∀ q ∈ schL s, q ≠ [] ∧ q.all plainO = true := by
  unfold putM at h
  unfold schL
  cases hn : nameM s with
  | some n =>
    rw [hn] at h
    obtain rfl := Option.some.inj h
    have hm := Go.Proofs.YtenigkjonegdmaaGreatDoor.name_some hn
    have hp := cat_plain _ hm
    exact ⟨rfl, by simp, by simp, get_name (find_of_mem hm).1, by simpa using ⟨hp.1, fun x hx => List.all_eq_true.1 hp.2.1 x hx⟩⟩
  | none =>
    rw [hn] at h
    obtain ⟨ht, rfl⟩ := tell_some h
    refine ⟨rfl, by simp [partsM], ?_, get_read (fun n e => by unfold partsM at e; injection e with e1 e2; rw [← e1]; exact find_head s) (read_parts s ht) hn, parts_plain s ht⟩
    have := (toldB_true ht).2.2.1
    simp [partsM]; omega
/-- The fields of a key's line, behind its word. -/
def fldM (k : Ky) (j : Jb) : List (List UInt8) := if k.d = 4 then schL j.f else (prtM k j).1

theorem word_ways {t : Int} (ht : t = 1 ∨ t = 2) {n : Int} (h : word (tab t) n ≠ ⟨#[]⟩) : ∃ m : Nat, m < 4 ∧ n = (m : Int) + 1 ∧ (tab t)[m]? = some (word (tab t) n) := by
  have hl : (tab t).length = 4 := by rcases ht with rfl | rfl <;> rfl
  have h1 : 1 ≤ n := by
    by_cases h1 : 1 ≤ n
    · exact h1
    · exact absurd (word_low (by omega)) h
  have h2 : n ≤ 4 := by
    by_cases h2 : n ≤ 4
    · exact h2
    · exact absurd (word_high (by rw [hl]; omega)) h
  refine ⟨(n - 1).toNat, by omega, by omega, ?_⟩
  unfold word
  rw [if_pos h1, List.getElem?_eq_getElem (by rw [hl]; omega)]
  rfl
theorem tabL_nodup (t : Int) (ht : t = 1 ∨ t = 2) : (tabL t).Nodup ∧ (tabL t).length = 4 ∧ ∀ p ∈ tabL t, p ≠ [] ∧ p.all plainO = true ∧ p.length ≤ 10 := by
  rcases ht with rfl | rfl
  · decide +kernel
  · decide +kernel
theorem tabL_at {t : Int} {m : Nat} {b : ByteArray} (h : (tab t)[m]? = some b) : (tabL t)[m]? = some b.data.toList := by
  unfold tabL
  rw [List.getElem?_map, h]
  rfl
theorem wordN_at {t : Int} (ht : t = 1 ∨ t = 2) {m : Nat} {p : List UInt8} (h : (tabL t)[m]? = some p) : wordN t p = some m := by
  obtain ⟨hn, hl, -⟩ := tabL_nodup t ht
  have hm : m < 4 := by
    have := (List.getElem?_eq_some_iff.1 h).1
    omega
  unfold wordN
  rw [List.find?_range_eq_some]
  refine ⟨by simp [h], List.mem_range.2 hm, fun i hi => ?_⟩
  simp only [Bool.not_eq_true', decide_eq_false_iff_not]
  intro e
  have h1 := List.getElem?_eq_some_iff.1 h
  have h2 := List.getElem?_eq_some_iff.1 e
  obtain ⟨x1, x2⟩ := h1
  obtain ⟨y1, y2⟩ := h2
  have := (List.getElem_inj hn).1 (y2.trans x2.symm)
  omega
theorem wordN_some {t : Int} {m : Nat} {p : List UInt8} (h : wordN t p = some m) : m < 4 ∧ (tabL t)[m]? = some p := by
  unfold wordN at h
  rw [List.find?_range_eq_some] at h
  exact ⟨List.mem_range.1 h.2.1, by simpa using h.1⟩
theorem wordN_none {t : Int} (ht : t = 1 ∨ t = 2) {p : List UInt8} (h : wordN t p = none) : tx p ∉ tab t := by
  intro hm
  obtain ⟨m, hm⟩ := List.getElem?_of_mem hm
  have := tabL_at hm
  rw [data_tx] at this
  rw [wordN_at ht this] at h
  cases h
theorem wordN_yes {t : Int} {m : Nat} {p : List UInt8} (h : wordN t p = some m) : (tab t)[m]? = some (tx p) ∧ word (tab t) ((m : Int) + 1) = tx p := by
  have h1 := (wordN_some h).2
  unfold tabL at h1
  rw [List.getElem?_map, Option.map_eq_some_iff] at h1
  obtain ⟨b, hb, rfl⟩ := h1
  rw [tx_data]
  exact ⟨hb, word_at hb⟩

theorem numsM_put (m : Nat → Int) (hm : ∀ i, -9223372036854775808 ≤ m i ∧ m i ≤ 9223372036854775807) : ∀ (h f : Nat) (n : Nat → Int), ∃ n', numsM f ((List.range' f h).map fun i => Lib.itoa (m i)) n = some n' ∧ (∀ i, f ≤ i → i < f + h → n' i = m i) ∧ ∀ i, ¬ (f ≤ i ∧ i < f + h) → n' i = n i := by
  intro h
  induction h with
  | zero => intro f n; exact ⟨n, rfl, fun i h1 h2 => by omega, fun i _ => rfl⟩
  | succ h ih =>
    intro f n
    obtain ⟨n', e, h1, h2⟩ := ih (f + 1) (setN n f (m f))
    refine ⟨n', ?_, fun i a b => ?_, fun i a => ?_⟩
    · rw [List.range'_succ, List.map_cons, numsM, numOf_itoa _ (hm f).1 (hm f).2, if_pos rfl]
      exact e
    · by_cases hi : i = f
      · subst hi
        rw [h2 i (by omega)]
        simp [setN]
      · exact h1 i (by omega) (by omega)
    · rw [h2 i (by omega)]
      have : i ≠ f := by omega
      simp [setN, this]
theorem numsM_some : ∀ (l : List (List UInt8)) (f : Nat) (n n' : Nat → Int), numsM f l n = some n' → (∀ i, ¬ (f ≤ i ∧ i < f + l.length) → n' i = n i) ∧ ((∀ i, -9223372036854775808 ≤ n i ∧ n i ≤ 9223372036854775807) → ∀ i, -9223372036854775808 ≤ n' i ∧ n' i ≤ 9223372036854775807)
  | [], f, n, n', h => by
    obtain rfl := Option.some.inj h
    exact ⟨fun _ _ => rfl, fun h => h⟩
  | p :: r, f, n, n', h => by
    rw [numsM] at h
    split at h
    · rename_i hp
      obtain ⟨h1, h2⟩ := numsM_some r (f + 1) _ n' h
      refine ⟨fun i hi => ?_, fun hn => h2 fun i => ?_⟩
      · simp only [List.length_cons] at hi
        rw [h1 i (by omega)]
        have : i ≠ f := by omega
        simp [setN, this]
      · unfold setN
        split
        · rcases numOf_cases p with ⟨v, hv, _, e⟩ | ⟨_, e⟩
          · rw [e]; exact hv
          · rw [e]; simp
        · exact hn i
    · cases h

/-- What is told of a key comes back; all else stays. -/
theorem take_put {j : Jb} (hj : WfJ j) {k : Ky} (hk : k ∈ keyL) (ht : (prtM k j).2 = true) (h5 : k.d = 5 → j.ls ≠ []) (c : Jb) : ∃ c', takeM k (fldM k j) c = (0, c') ∧ AgrK k c' j ∧ ∀ k' ∈ keyL, k' ≠ k → AgrK k' c' c := by
  have key4 : ∀ k' ∈ keyL, k' ≠ k → k.d ≠ 1 → k'.d ≠ k.d := fun k' hk' hne h1 e => hne (key_only k' hk' k hk e (by rw [e]; exact h1))
  have hone := key_one k hk
  unfold takeM fldM
  rcases key_kind k hk with hd | hd | hd | hd | hd | hd
  · -- title
    have hpr : prtM k j = if 60 < j.t.length then ([], false) else ([(quoteO j.t).getD []], (quoteO j.t).isSome) := by unfold prtM; rw [if_pos hd]
    rw [hpr] at ht ⊢
    split at ht
    · cases ht
    · rename_i hl
      rw [if_neg hl]
      obtain ⟨q, hq⟩ := Option.isSome_iff_exists.1 ht
      obtain ⟨o1, o2⟩ := hone (by omega) (by omega) (by omega)
      refine ⟨{ c with t := j.t }, ?_, ?_, fun k' hk' hne => ?_⟩
      · rw [if_neg (show ¬ k.d = 4 by omega), if_neg (by simp [o1, o2]), if_pos hd, hq]
        simp only [Option.getD_some, List.headD_cons, titleM]
        rw [unq_quote hq]
        simp only
        rw [if_neg hl]
      · unfold AgrK; rw [if_pos hd]
      · have := key4 k' hk' hne (by omega)
        unfold AgrK
        rw [if_neg (by omega)]
        (repeat' split) <;> simp
  · -- numbers
    have hpr : prtM k j = ((List.range' k.f k.hi).map fun i => Lib.itoa (j.n i), true) := by
      unfold prtM
      rw [if_neg (by omega), if_neg (by omega), if_neg (by omega), if_neg (by omega), if_neg (by omega)]
    rw [hpr]
    have he := key_exact k hk (by omega) (by omega)
    obtain ⟨n', e, h1, h2⟩ := numsM_put j.n hj k.hi k.f c.n
    refine ⟨{ c with n := n' }, ?_, ?_, fun k' hk' hne => ?_⟩
    · rw [if_neg (show ¬ k.d = 4 by omega), if_neg (by simp [he]), if_neg (by omega), if_neg (by omega), if_neg (by omega), if_neg (by omega), if_neg (by omega)]
      simp only [numbersM]
      rw [e]
    · unfold AgrK
      rw [if_neg (by omega), if_neg (by omega), if_neg (by omega)]
      exact h1
    · unfold AgrK
      split
      · rfl
      · split
        · rfl
        · split
          · rfl
          · intro i a b
            have := key_apart k hk k' hk' (Ne.symm hne) (by omega) (by omega) (by omega) (by assumption) (by assumption) (by assumption)
            exact h2 i (by omega)
  · -- binding
    have hpr : prtM k j = wprM 1 (j.n k.f) := by unfold prtM; rw [if_neg (by omega), if_pos hd]
    rw [hpr] at ht ⊢
    obtain ⟨m, hm, hn, hw⟩ := word_ways (.inl rfl) (of_decide_eq_true ht)
    obtain ⟨o1, o2⟩ := hone (by omega) (by omega) (by omega)
    refine ⟨{ c with n := setN c.n k.f ((m : Int) + 1) }, ?_, ?_, fun k' hk' hne => ?_⟩
    · rw [if_neg (show ¬ k.d = 4 by omega), if_neg (by simp [o1, o2, wprM]), if_neg (by omega), if_pos hd]
      simp only [wprM, List.headD_cons, wordM]
      rw [wordN_at (.inl rfl) (tabL_at hw)]
    · unfold AgrK
      rw [if_neg (by omega), if_neg (by omega), if_neg (by omega)]
      intro i a b
      obtain rfl : i = k.f := by omega
      simp [setN, hn]
    · have h2 := key4 k' hk' hne (by omega)
      unfold AgrK
      split
      · rfl
      · split
        · rfl
        · split
          · rfl
          · intro i a b
            have := key_apart k hk k' hk' (Ne.symm hne) (by omega) (by omega) (by omega) (by assumption) (by assumption) (by assumption)
            have : i ≠ k.f := by omega
            simp [setN, this]
  · -- style
    have hpr : prtM k j = wprM 2 (j.n k.f) := by unfold prtM; rw [if_neg (by omega), if_neg (by omega), if_pos hd]
    rw [hpr] at ht ⊢
    obtain ⟨m, hm, hn, hw⟩ := word_ways (.inr rfl) (of_decide_eq_true ht)
    obtain ⟨o1, o2⟩ := hone (by omega) (by omega) (by omega)
    refine ⟨{ c with n := setN c.n k.f ((m : Int) + 1) }, ?_, ?_, fun k' hk' hne => ?_⟩
    · rw [if_neg (show ¬ k.d = 4 by omega), if_neg (by simp [o1, o2, wprM]), if_neg (by omega), if_neg (by omega), if_pos hd]
      simp only [wprM, List.headD_cons, wordM]
      rw [wordN_at (.inr rfl) (tabL_at hw)]
    · unfold AgrK
      rw [if_neg (by omega), if_neg (by omega), if_neg (by omega)]
      intro i a b
      obtain rfl : i = k.f := by omega
      simp [setN, hn]
    · have h2 := key4 k' hk' hne (by omega)
      unfold AgrK
      split
      · rfl
      · split
        · rfl
        · split
          · rfl
          · intro i a b
            have := key_apart k hk k' hk' (Ne.symm hne) (by omega) (by omega) (by omega) (by assumption) (by assumption) (by assumption)
            have : i ≠ k.f := by omega
            simp [setN, this]
  · -- folds
    have hpr : prtM k j = ([(putM j.f).getD []], (putM j.f).isSome) := by unfold prtM; rw [if_neg (by omega), if_neg (by omega), if_neg (by omega), if_pos hd]
    rw [hpr] at ht
    obtain ⟨t, hq⟩ := Option.isSome_iff_exists.1 ht
    obtain ⟨-, h0, h7, hg, -⟩ := sch_parts hq
    obtain ⟨o1, o2⟩ := key_folds k hk hd
    have h1 : 1 ≤ (schL j.f).length := List.length_pos_iff.2 h0
    refine ⟨{ c with f := j.f }, ?_, ?_, fun k' hk' hne => ?_⟩
    · rw [if_pos hd, if_neg (by omega), if_neg (by omega), if_neg (by omega), if_neg (by omega), if_pos hd]
      simp only [schemeM]
      rw [hg]
    · unfold AgrK; rw [if_neg (by omega), if_pos hd]
    · have := key4 k' hk' hne (by omega)
      unfold AgrK
      split
      · rfl
      · rw [if_neg (by omega)]
        split <;> simp
  · -- last
    have hpr : prtM k j = (j.ls, decide (j.ls.length ≤ k.hi) && namesB j.ls) := by unfold prtM; rw [if_neg (by omega), if_neg (by omega), if_neg (by omega), if_neg (by omega), if_pos hd]
    rw [hpr] at ht ⊢
    simp only [Bool.and_eq_true, decide_eq_true_eq] at ht
    obtain ⟨o1, o2⟩ := key_last k hk hd
    have h1 : 1 ≤ j.ls.length := List.length_pos_iff.2 (h5 hd)
    refine ⟨{ c with ls := j.ls }, ?_, ?_, fun k' hk' hne => ?_⟩
    · rw [if_neg (show ¬ k.d = 4 by omega), if_neg (by simp only; omega), if_neg (by omega), if_neg (by omega), if_neg (by omega), if_neg (by omega), if_pos hd]
      simp only [lastM]
      rw [if_pos ht.2]
    · unfold AgrK; rw [if_neg (by omega), if_neg (by omega), if_pos hd]
    · have := key4 k' hk' hne (by omega)
      unfold AgrK
      split
      · rfl
      · split
        · rfl
        · rw [if_neg (by omega)]
          simp
end Go.Proofs.YtenigkjonegdmaaGreatDoor
/- What the small calls of package lex, the library's Clone and the document's own seen and Same answer. -/
namespace Go.Proofs.YtenigkjonegdmaaGreatDoor
open Go.RowKit
set_option linter.unusedVariables false

theorem lexBlank_any (c : UInt8) (w : World) : Calls Tryz.prog 74 #[.int .u8 (c.toNat : Int)] w fun e w' => e = .returned (.bool (blankB c)) ∧ w = w' := by
  have e1 := oct_eq c 32
  have e2 := oct_eq c 9
  rw [show (((32 : UInt8).toNat : Nat) : Int) = 32 from rfl] at e1
  rw [show (((9 : UInt8).toNat : Nat) : Int) = 9 from rfl] at e2
  unfold blankB
  generalize (c == 32) = b1 at *
  generalize (c == 9) = b2 at *
  generalize (c.toNat : Int) = x at *
  cases b1 <;> cases b2
  all_goals
    go_enter Tryz.func74, Tryz.ntmps74
    go_wp2
    go_ret
    exact ⟨rfl, rfl⟩
theorem seen_eq (c : UInt8) : seenB c = (decide ((32 : Int) ≤ (c.toNat : Int)) && decide ((c.toNat : Int) ≤ 126)) := by
  unfold seenB
  rw [Bool.eq_iff_iff]
  simp
  omega
theorem lexPrinted_any (c : UInt8) (w : World) : Calls Tryz.prog 58 #[.int .u8 (c.toNat : Int)] w fun e w' => e = .returned (.bool (seenB c)) ∧ w = w' := by
  rw [seen_eq]
  generalize (c.toNat : Int) = x at *
  obtain ⟨b1, h1⟩ : ∃ b, decide ((32 : Int) ≤ x) = b := ⟨_, rfl⟩
  obtain ⟨b2, h2⟩ : ∃ b, decide (x ≤ (126 : Int)) = b := ⟨_, rfl⟩
  rw [h1, h2]
  cases b1 <;> cases b2
  all_goals
    go_enter Tryz.func58, Tryz.ntmps58
    go_wp2
    go_ret
    exact ⟨rfl, rfl⟩
theorem refSeen_any (c : UInt8) (w : World) : Calls Tryz.prog 44 #[.int .u8 (c.toNat : Int)] w fun e w' => e = .returned (.bool (seenB c)) ∧ w = w' := by
  rw [seen_eq]
  generalize (c.toNat : Int) = x at *
  obtain ⟨b1, h1⟩ : ∃ b, decide ((32 : Int) ≤ x) = b := ⟨_, rfl⟩
  obtain ⟨b2, h2⟩ : ∃ b, decide (x ≤ (126 : Int)) = b := ⟨_, rfl⟩
  rw [h1, h2]
  cases b1 <;> cases b2
  all_goals
    go_enter Tryz.func44, Tryz.ntmps44
    go_wp2
    go_ret
    exact ⟨rfl, rfl⟩
theorem clone_text (s : ByteArray) (w : World) (hs : s.size ≤ 1000000000) : Calls Tryz.prog 52 #[.string s] w fun e w' => e = .returned (.string s) ∧ Below w.heap.size w w' := by
  have K := Lib.hid (AnyPu.stringslite_Clone Tryz.laysMp25 s w (by omega))
  go_enter Tryz.func52, Tryz.ntmps52
  go_wp2_with fail
  refine K.out.mono ?_
  rintro e w1 ⟨rfl, hb⟩
  go_wp2
  go_ret
  exact ⟨rfl, hb⟩

/-- A text of no octet, or one. -/
theorem toList_none (l : List UInt8) : ((tx l).toList == []) = decide (l = []) := by rw [tx_toList, Bool.eq_iff_iff]; simp

/-- What a call answers that makes a list of texts. -/
def GivesT (base : Nat) (ls : List (List UInt8)) (w : World) (e : Ending) (w' : World) : Prop := ∃ v, e = .returned v ∧ rowT w' base v ls ∧ Below base w w'
theorem lexAdd_any {w : World} {base : Nat} {v : Value} {ls : List (List UInt8)} (hown : rowT w base v ls) (hbase : base ≤ w.heap.size) (l : List UInt8) (hl : l.length ≤ 1000000000) (hn : ls.length ≤ 1000000) :
    Calls Tryz.prog 75 #[v, .string (tx l)] w (GivesT base (addF ls l) w) := by
  have HO := Lib.hid hown
  clear hown
  have e := toList_none l
  have hz := tx_size l
  have HT := Lib.hid (rfl : tx l = tx l)
  by_cases h : l = []
  · rw [decide_eq_true h] at e
    have E := Lib.hid (show addF ls l = ls by rw [h, addF_nil])
    generalize tx l = p at *
    clear h hz
    go_enter Tryz.func75, Tryz.ntmps75
    go_wp2
    go_ret
    exact ⟨v, rfl, by rw [E.out]; exact HO.out, Below.refl _ _⟩
  · rw [decide_eq_false h] at e
    have E := Lib.hid (addF_some (out := ls) h)
    obtain ⟨p, hp⟩ : ∃ p, p = tx l := ⟨_, rfl⟩
    rw [← hp] at e hz ⊢
    have HP := Lib.hid hp
    have K := Lib.hid (clone_text p w (by omega))
    clear h hz hp
    go_enter Tryz.func75, Tryz.ntmps75
    go_wp2_with fail
    refine K.out.mono ?_
    rintro e w1 ⟨rfl, hb⟩
    have HB := Lib.hid hb
    clear hb
    go_wp2_with (at_builtin; refine wpList_append_text rfl _ _ rfl base v ls rfl (HO.out.up HB.out) ?c1 p l HP.out rfl hn ?_)
    case c1 => have := HB.out.size; omega
    intro v1 w2 h1 hb1
    have H1 := Lib.hid h1; have HB1 := Lib.hid hb1
    clear h1 hb1
    go_wp2
    go_ret
    exact ⟨v1, rfl, by rw [E.out]; exact H1.out, (HB.out.mono hbase).trans HB1.out⟩
end Go.Proofs.YtenigkjonegdmaaGreatDoor
/- What ticket's isName and areNames answer, and the reference's name and names. -/
namespace Go.Proofs.YtenigkjonegdmaaGreatDoor
open Go.RowKit
set_option linter.unusedVariables false
set_option linter.unusedSimpArgs false

theorem plain_eq (c : UInt8) : plainO c = !(decide ((c.toNat : Int) ≤ 32) || decide ((126 : Int) < (c.toNat : Int)) || ((c.toNat : Int) == 35) || ((c.toNat : Int) == 34)) := by
  have h1 := oct_eq c 35
  have h2 := oct_eq c 34
  rw [show (((35 : UInt8).toNat : Nat) : Int) = 35 from rfl] at h1
  rw [show (((34 : UInt8).toNat : Nat) : Int) = 34 from rfl] at h2
  rw [h1, h2]
  have key : ∀ n : Fin 256, plainO (UInt8.ofNat n.val) = !(decide (((n.val : Nat) : Int) ≤ 32) || decide ((126 : Int) < ((n.val : Nat) : Int)) || (UInt8.ofNat n.val == 35) || (UInt8.ofNat n.val == 34)) := by decide +kernel
  have := key ⟨c.toNat, c.toNat_lt⟩
  simpa using this
theorem name_bad {s : ByteArray} {k : Nat} (h : k < s.size) (hp : plainO s[k] = false) : nameB s.data.toList = false := by
  unfold nameB
  rw [Bool.and_eq_false_iff]
  right
  rw [List.all_eq_false]
  exact ⟨s[k], by rw [← Array.mem_def]; exact Array.getElem_mem _, by simp [hp]⟩
theorem plain_next {s : ByteArray} {k : Nat} (h : k < s.size) (ha : (s.data.toList.take k).all plainO = true) (hp : plainO s[k] = true) : (s.data.toList.take (k + 1)).all plainO = true := by
  rw [take_octet h, List.all_append, ha]
  simp [hp]
def NameRel (s : ByteArray) (w : World) (i : Value) (wr : World) : Prop := wr = w ∧ ∃ k : Nat, k ≤ s.size ∧ i = .int .i64 (k : Int) ∧ (s.data.toList.take k).all plainO = true
theorem name_end {s : ByteArray} (h : (s.data.toList.take s.size).all plainO = true) : nameB s.data.toList = !(s.toList == []) := by
  rw [List.take_of_length_le (by rw [size_data]; exact Nat.le_refl _)] at h
  unfold nameB
  rw [h, Bool.and_true, ByteArray.toList_eq]
  cases s.data.toList <;> rfl

set_option maxHeartbeats 1000000 in
theorem isName_core (s : ByteArray) (w : World) (hs : s.size ≤ 1000000000) : Calls Tryz.prog 66 #[.string s] w fun e w' => e = .returned (.bool (nameB s.data.toList)) ∧ w' = w := by
  obtain ⟨F, hF⟩ : ∃ F, nameB s.data.toList = F := ⟨_, rfl⟩
  have HF := Lib.hid hF
  rw [hF]
  clear hF
  go_enter Tryz.func66, Tryz.ntmps66
  go_wp2
  go_loopw [7] (fun i wr => NameRel s w i wr) (fun i _ => s.size - (intOf i).toNat)
  case atStart => exact ⟨rfl, 0, Nat.zero_le _, by go_num, rfl⟩
  case round =>
    obtain ⟨hw, k, hk, rfl, ha⟩ := hrel
    obtain rfl : w = wr := hw.symm
    have HA := Lib.hid ha
    clear ha hw
    by_cases hlt : k < s.size
    · have z1 : (k : Int) < (s.size : Int) := by omega
      have hpe := plain_eq s[k]
      have HB := Lib.hid (fun h => name_bad hlt h)
      have HN := Lib.hid (fun h => plain_next hlt HA.out h)
      obtain ⟨x, hx⟩ : ∃ x, ((s[k].toNat : Nat) : Int) = x := ⟨_, rfl⟩
      rw [hx] at hpe
      obtain ⟨b1, e1⟩ : ∃ b, decide (x ≤ (32 : Int)) = b := ⟨_, rfl⟩
      obtain ⟨b2, e2⟩ : ∃ b, decide ((126 : Int) < x) = b := ⟨_, rfl⟩
      obtain ⟨b3, e3⟩ : ∃ b, (x == 35) = b := ⟨_, rfl⟩
      obtain ⟨b4, e4⟩ : ∃ b, (x == 34) = b := ⟨_, rfl⟩
      rw [e1, e2, e3, e4] at hpe
      have HP := Lib.hid hpe
      clear hpe
      cases b1 <;> cases b2 <;> cases b3 <;> cases b4
      · go_wp2
        go_roundw
        case rel => exact ⟨rfl, k + 1, by omega, by go_num, HN.out HP.out⟩
        case measure => simp [intOf]; omega
      all_goals
        have E := Lib.hid (HB.out HP.out)
        rw [HF.out] at E
        go_wp2
        go_ret
        exact ⟨by rw [E.out]; rfl, rfl⟩
    · obtain rfl : k = s.size := by omega
      have E := Lib.hid (name_end HA.out)
      rw [HF.out] at E
      obtain ⟨b, hb⟩ : ∃ b, (s.toList == []) = b := ⟨_, rfl⟩
      rw [hb] at E
      go_wp2
      go_ret
      exact ⟨by rw [E.out]; rfl, rfl⟩
theorem isName_any (l : List UInt8) (w : World) (hs : l.length ≤ 1000000000) : Calls Tryz.prog 66 #[.string (tx l)] w fun e w' => e = .returned (.bool (nameB l)) ∧ w' = w := by
  have := isName_core (tx l) w (by rw [tx_size]; exact hs)
  rwa [data_tx] at this
theorem notName_any (l : List UInt8) (w : World) (hs : l.length ≤ 1000000000) : Calls Tryz.prog 65 #[.string (tx l)] w fun e w' => e = .returned (.bool (!nameB l)) ∧ w' = w := by
  have K := Lib.hid (isName_any l w hs)
  generalize tx l = p at *
  generalize nameB l = b at *
  go_enter Tryz.func65, Tryz.ntmps65
  go_wp2_with fail
  refine K.out.mono ?_
  rintro e w1 ⟨rfl, rfl⟩
  go_wp2
  go_ret
  exact ⟨rfl, rfl⟩

/-- A text that isn't too long. -/
structure Tx9 where
  val : List UInt8
  short : val.length ≤ 1000000000
instance : Inhabited Tx9 := ⟨⟨[], by simp⟩⟩
theorem any_not (ls : List (List UInt8)) : (ls.any fun l => !nameB l) = !namesB ls := by
  unfold namesB
  rw [← List.not_all_eq_any_not]
theorem pmap_any {ls : List (List UInt8)} (h : ∀ l ∈ ls, l.length ≤ 1000000000) : ((ls.pmap (fun l h => (⟨l, h⟩ : Tx9)) h).any fun x => !nameB x.val) = !namesB ls := by
  rw [← any_not]
  induction ls with
  | nil => rfl
  | cons l ls ih => rw [List.pmap_cons, List.any_cons, List.any_cons, ih]
theorem areNames_core (a : Option Addr) (n c : Nat) (b : Bool) (w : World) (hn : n ≤ 1000000000)
    (K : Calls Tryz.prog 64 #[.slice a n c, .func (.func 65) #[] #[]] w fun e w' => e = .returned (.bool (!b)) ∧ Below w.heap.size w w') :
    Calls Tryz.prog 40 #[.slice a n c] w fun e w' => e = .returned (.bool b) ∧ Below w.heap.size w w' := by
  have HK := Lib.hid K
  clear K
  go_enter Tryz.func40, Tryz.ntmps40
  go_wp2_with fail
  refine HK.out.mono ?_
  rintro e w1 ⟨rfl, hb⟩
  go_wp2
  go_ret
  exact ⟨by simp, hb⟩
theorem areNames_any (a : Option Addr) (c : Nat) (ls : List (List UInt8)) (w : World) (h : TxA w a c ls) (hz : ∀ l ∈ ls, l.length ≤ 1000000000) (hl : ls.length ≤ 1000000) :
    Calls Tryz.prog 40 #[.slice a ls.length c] w fun e w' => e = .returned (.bool (namesB ls)) ∧ Below w.heap.size w w' := by
  have eg : ∀ args w, (callFunc 65 args).run Tryz.prog w = .ok (.enter 65 args) w := enters_of Tryz.func65 (by kernel_rfl) rfl
  refine areNames_core a ls.length c (namesB ls) w (by omega) ?_
  rcases h with rfl | ⟨g, o, rfl, hc, hcap, hmax⟩
  · exact (AnyE.slices_ContainsFunc_empty Tryz.laysSlgf8T a c _ w).mono fun e w' ⟨he, hw⟩ => ⟨he, hw ▸ Below.refl _ _⟩
  · have hlen : (ls.pmap (fun l h => (⟨l, h⟩ : Tx9)) hz).length = ls.length := List.length_pmap
    have K := AnyE.slices_ContainsFunc (α := Tx9) Tryz.laysSlgf8T (fun x => .string (tx x.val)) (fun x => !nameB x.val) 65 #[] eg g o ls.length c (ls.pmap (fun l h => (⟨l, h⟩ : Tx9)) hz) w
      (fun W x hW => (notName_any x.val W x.short).mono fun _ _ ⟨h1, h2⟩ => ⟨h1, 0, h2⟩) (by rw [hlen]; exact Nat.le_refl _) (by omega) (fun j hj => by
        rw [hlen] at hj
        have := hc j _ (List.getElem?_eq_getElem hj)
        rw [this]
        have e : (ls.pmap (fun l h => (⟨l, h⟩ : Tx9)) hz)[j]! = (⟨ls[j], hz _ (List.getElem_mem hj)⟩ : Tx9) := by
          rw [List.getElem!_eq_getElem?_getD, List.getElem?_eq_getElem (by rw [hlen]; exact hj), List.getElem_pmap]
          rfl
        rw [e])
    rw [List.take_of_length_le (by rw [hlen]; exact Nat.le_refl _), pmap_any] at K
    exact K.mono fun e w' ⟨he, q, hw⟩ => ⟨he, hw ▸ Go.Proofs.below_drewN' (Below.refl _ _) q⟩
end Go.Proofs.YtenigkjonegdmaaGreatDoor
/- What lex's take and Fields answer. -/
namespace Go.Proofs.YtenigkjonegdmaaGreatDoor
open Go.RowKit
set_option linter.unusedVariables false

theorem Bx.kept {w w' : World} {B : Nat} {vs : List Value} (h : Bx w B vs) (hb : w'.heap[B]? = w.heap[B]?) : Bx w' B vs :=
  ⟨fun j v hj => (World.cell?_of_block (a := ⟨B, j, none⟩) hb).trans (h.1 j v hj), fun j => by
    have := h.2 j
    unfold World.frozen? at this ⊢
    rw [hb]
    exact this⟩
/-- But for the block B, all is as it was. -/
def Only (B : Nat) (w w' : World) : Prop := Below B w w' ∧ w'.heap.size = w.heap.size ∧ ∀ k, k ≠ B → w'.heap[k]? = w.heap[k]?
theorem only_refl (B : Nat) (w : World) : Only B w w := ⟨Below.refl _ _, rfl, fun _ _ => rfl⟩
theorem only_set (B o : Nat) (w : World) (v : Value) : Only B w (w.setCell ⟨B, o, none⟩ v) := ⟨(Below.refl B w).setCell (p := ⟨B, o, none⟩) (Nat.le_refl _) v, by simp [World.setCell], fun k hk => Below.heap_setCell _ _ _ _ hk⟩

/-- What take makes of the two truths. -/
def TookQ (B : Nat) (wi fr : Bool) (w : World) (e : Ending) (w' : World) : Prop := e = .returned (.tuple #[]) ∧ Bx w' B [.bool wi, .bool fr] ∧ Only B w w'
theorem take_core {w : World} {B : Nat} {wi fr b92 b34 : Bool} {x : Int} (h : Bx w B [.bool wi, .bool fr]) (hw : wi = false → fr = false) (e1 : (x == 92) = b92) (e2 : (x == 34) = b34) (hn : ¬ (b92 = true ∧ b34 = true)) :
    Calls Tryz.prog 76 #[.pointer (some ⟨B, 0, none⟩), .int .u8 x] w (TookQ B (if wi then fr || !b34 else b34) (if wi then !fr && b92 else false) w) := by
  have c0 := h.cell 0 rfl
  have c1 := h.cell 1 rfl
  have f0 := h.free 0
  have f1 := h.free 1
  have HB := Lib.hid h
  clear h
  cases wi
  · obtain rfl := hw rfl
    clear hw
    cases b92 <;> cases b34
    · go_enter Tryz.func76, Tryz.ntmps76
      go_wp2
      refine bodyPost_ret (v := .tuple #[]) (by simp [results, Tryz.results76, go_sem]) rfl ?_
      exact ⟨rfl, HB.out, only_refl _ _⟩
    · go_enter Tryz.func76, Tryz.ntmps76
      go_wp2
      refine bodyPost_ret (v := .tuple #[]) (by simp [results, Tryz.results76, go_sem]) rfl ?_
      exact ⟨rfl, HB.out.set 0 _, only_set _ _ _ _⟩
    · go_enter Tryz.func76, Tryz.ntmps76
      go_wp2
      refine bodyPost_ret (v := .tuple #[]) (by simp [results, Tryz.results76, go_sem]) rfl ?_
      exact ⟨rfl, HB.out, only_refl _ _⟩
    · exact absurd ⟨rfl, rfl⟩ hn
  · clear hw
    cases fr
    · cases b92 <;> cases b34
      · go_enter Tryz.func76, Tryz.ntmps76
        go_wp2
        refine bodyPost_ret (v := .tuple #[]) (by simp [results, Tryz.results76, go_sem]) rfl ?_
        exact ⟨rfl, HB.out, only_refl _ _⟩
      · go_enter Tryz.func76, Tryz.ntmps76
        go_wp2
        refine bodyPost_ret (v := .tuple #[]) (by simp [results, Tryz.results76, go_sem]) rfl ?_
        exact ⟨rfl, HB.out.set 0 _, only_set _ _ _ _⟩
      · go_enter Tryz.func76, Tryz.ntmps76
        go_wp2
        refine bodyPost_ret (v := .tuple #[]) (by simp [results, Tryz.results76, go_sem]) rfl ?_
        exact ⟨rfl, HB.out.set 1 _, only_set _ _ _ _⟩
      · exact absurd ⟨rfl, rfl⟩ hn
    · clear e1 e2
      go_enter Tryz.func76, Tryz.ntmps76
      go_wp2
      refine bodyPost_ret (v := .tuple #[]) (by simp [results, Tryz.results76, go_sem]) rfl ?_
      exact ⟨rfl, HB.out.set 1 _, only_set _ _ _ _⟩
theorem oct92 (c : UInt8) : ((c.toNat : Int) == 92) = (c == 92) := oct_eq c 92
theorem oct34 (c : UInt8) : ((c.toNat : Int) == 34) = (c == 34) := oct_eq c 34
theorem oct35 (c : UInt8) : ((c.toNat : Int) == 35) = (c == 35) := oct_eq c 35
theorem oct_apart (c : UInt8) : ¬ ((c == 92) = true ∧ (c == 34) = true) := by
  rintro ⟨h1, h2⟩
  simp at h1 h2
  rw [h1] at h2
  exact absurd h2 (by decide)
theorem take_in {w : World} {B : Nat} {fr : Bool} (c : UInt8) (h : Bx w B [.bool true, .bool fr]) :
    Calls Tryz.prog 76 #[.pointer (some ⟨B, 0, none⟩), .int .u8 (c.toNat : Int)] w (TookQ B (fr || c != 34) (!fr && c == 92) w) :=
  take_core h (fun h => by cases h) (oct92 c) (oct34 c) (oct_apart c)
theorem take_out {w : World} {B : Nat} (c : UInt8) (h : Bx w B [.bool false, .bool false]) :
    Calls Tryz.prog 76 #[.pointer (some ⟨B, 0, none⟩), .int .u8 (c.toNat : Int)] w (TookQ B (c == 34) false w) :=
  take_core h (fun _ => rfl) (oct92 c) (oct34 c) (oct_apart c)

/-- What a call answers that tells fields apart. -/
def GivesF (F : Option (List (List UInt8))) (w : World) (e : Ending) (w' : World) : Prop := ∃ v, e = .returned (.tuple #[v, .bool F.isSome]) ∧ TxS w' v (F.getD []) ∧ Below w.heap.size w w'

/-- The same; the list is the call's own. -/
def GivesFR (F : Option (List (List UInt8))) (w : World) (e : Ending) (w' : World) : Prop := ∃ v, e = .returned (.tuple #[v, .bool F.isSome]) ∧ rowT w' (w.heap.size + 1) v (F.getD []) ∧ Below w.heap.size w w'

def FieldsRel (s : ByteArray) (w : World) (F : Option (List (List UInt8))) (l f n i : Value) (wr : World) : Prop :=
  n = .int .i64 (s.size : Int) ∧ ∃ (k from_ : Nat) (out : List (List UInt8)) (wi fr : Bool), k ≤ s.size ∧ from_ ≤ k ∧ out.length ≤ k ∧ i = .int .i64 (k : Int) ∧ f = .int .i64 (from_ : Int) ∧ rowT wr (w.heap.size + 1) l out ∧ Bx wr w.heap.size [.bool wi, .bool fr] ∧ Below w.heap.size w wr ∧ w.heap.size + 1 ≤ wr.heap.size ∧
    (wi = false → fr = false) ∧ fieldsM (s.data.toList.drop k) out ((s.data.toList.take k).drop from_) wi fr = F

theorem ret_fields {v : Value} {F G : Option (List (List UInt8))} {b : Bool} (h : F = G) (hb : F.isSome = b) : Ending.returned (.tuple #[v, .bool b]) = .returned (.tuple #[v, .bool G.isSome]) := by rw [← h, hb]

set_option maxHeartbeats 2000000 in
theorem lexFields_row (s : ByteArray) (w : World) (hs : s.size ≤ 999999) :
    Calls Tryz.prog 53 #[.string s] w (GivesFR (fieldsL s.data.toList) w) := by
  obtain ⟨F, hF0⟩ : ∃ F, fieldsL s.data.toList = F := ⟨_, rfl⟩
  have HF0 := Lib.hid hF0
  rw [hF0]
  clear hF0
  have hn : ((s.size : Nat) : Int) ≤ 999999 := by omega
  go_enter Tryz.func53, Tryz.ntmps53
  go_wp2
  go_loopw [4, 6, 7, 14] (fun l f n i wr => FieldsRel s w F l f n i wr) (fun _ _ _ i _ => s.size - (intOf i).toNat)
  case atStart =>
    refine ⟨rfl, 0, 0, [], false, false, Nat.zero_le _, Nat.le_refl _, Nat.le_refl _, rfl, rfl, rowT_nil _ _, Bx.new w _ [.bool false, .bool false], (Below.refl _ _).alloc (Nat.le_refl _) _, by simp, fun _ => rfl, ?_⟩
    rw [← HF0.out]
    rfl
  case round =>
    obtain ⟨rfl, k, f, out, wi, fr, hk, hf, ho, rfl, rfl, hrow, hbx, hb, hsz, hwf, hF⟩ := hrel
    have HR := Lib.hid hrow; have HB := Lib.hid hb; have HF := Lib.hid hF; have HX := Lib.hid hbx; have HW := Lib.hid hwf
    clear hrow hb hF hbx hwf
    have hcl : ((s.data.toList.take k).drop f).length ≤ 1000000000 := by rw [List.length_drop, List.length_take, size_data]; omega
    have c0 := HX.out.cell 0 rfl
    by_cases hlt : k < s.size
    · have z1 : (k : Int) < (s.size : Int) := by omega
      have DO := Lib.hid (drop_octet hlt)
      have CO := Lib.hid (cur_octet hf hlt)
      obtain ⟨c, hc⟩ : ∃ c, s[k] = c := ⟨_, rfl⟩
      rw [hc] at DO CO
      have hx : ((s[k].toNat : Nat) : Int) = (c.toNat : Int) := by rw [hc]
      clear hc
      have KB := fun w => lexBlank_any c w
      have KP := fun w => lexPrinted_any c w
      have KI := fun fr h => take_in (w := wr) (B := w.heap.size) (fr := fr) c h
      have KO := fun h => take_out (w := wr) (B := w.heap.size) c h
      have e35 := oct35 c
      generalize (c.toNat : Int) = x at *
      cases wi
      · obtain rfl := HW.out rfl
        by_cases h35 : c = 35
        · subst h35
          have e1 : (x == 35) = true := by rw [e35]; rfl
          have HH := Lib.hid HF.out
          rw [DO.out, f_stop] at HH
          obtain ⟨p, hp⟩ : ∃ p, s.extract f k = p := ⟨_, rfl⟩
          have HP := Lib.hid ((hp.symm).trans (tx_extract s f k))
          have KA := lexAdd_any HR.out hsz ((s.data.toList.take k).drop f) hcl (by omega)
          rw [← HP.out] at KA
          have HKA := Lib.hid KA
          clear KA KB KP KI KO e35
          go_wp2_with fail
          refine HKA.out.mono ?_
          rintro e w1 ⟨v, rfl, hv, hb1⟩
          have HV := Lib.hid hv; have HB1 := Lib.hid hb1
          clear hv hb1
          go_wp2
          go_ret2
          refine ⟨v, ret_fields HH.out rfl, ?_, HB.out.trans (HB1.out.mono (by omega))⟩
          rw [← HH.out]
          exact HV.out
        · have e1 : (x == 35) = false := by rw [e35]; simpa using h35
          cases hbl : blankB c
          · rw [hbl] at KB
            have HKB := Lib.hid KB
            cases hse : seenB c
            · rw [hse] at KP
              have HKP := Lib.hid KP
              have HH := Lib.hid HF.out
              rw [DO.out, f_out_bad _ _ _ _ hbl h35 hse] at HH
              clear KB KP KI KO e35 hbl hse
              go_wp2_with (first
                | (go_at_call 74; refine (HKB.out _).mono ?_; rintro e w' ⟨rfl, rfl⟩)
                | (go_at_call 58; refine (HKP.out _).mono ?_; rintro e w' ⟨rfl, rfl⟩))
              go_ret2
              refine ⟨_, ret_fields HH.out rfl, ?_, HB.out⟩
              rw [← HH.out]
              exact rowT_nil _ _
            · rw [hse] at KP
              have HKP := Lib.hid KP
              have HH := Lib.hid HF.out
              rw [DO.out, f_out _ _ _ _ hbl h35 hse] at HH
              have HKT := Lib.hid (KO HX.out)
              clear KB KP KI KO e35 hbl hse
              go_wp2_with (first
                | (go_at_call 74; refine (HKB.out _).mono ?_; rintro e w' ⟨rfl, rfl⟩)
                | (go_at_call 58; refine (HKP.out _).mono ?_; rintro e w' ⟨rfl, rfl⟩)
                | (go_at_call 76; refine HKT.out.mono ?_; rintro e w1 ⟨rfl, hx1, hy1⟩; have HX1 := Lib.hid hx1; have HY1 := Lib.hid hy1; clear hx1 hy1))
              go_roundw
              case rel =>
                refine ⟨rfl, k + 1, f, out, _, _, by omega, by omega, by omega, by go_num, rfl, HR.out.kept (fun j hj _ => HY1.out.2.2 j (by omega)), HX1.out, HB.out.trans HY1.out.1, by rw [HY1.out.2.1]; exact hsz, fun _ => rfl, ?_⟩
                rw [CO.out]
                exact HH.out
              case measure => simp [intOf]; omega
          · rw [hbl] at KB
            have HKB := Lib.hid KB
            have HH := Lib.hid HF.out
            rw [DO.out, f_blank _ _ _ _ hbl] at HH
            obtain ⟨p, hp⟩ : ∃ p, s.extract f k = p := ⟨_, rfl⟩
            have HP := Lib.hid ((hp.symm).trans (tx_extract s f k))
            have KA := lexAdd_any HR.out hsz ((s.data.toList.take k).drop f) hcl (by omega)
            rw [← HP.out] at KA
            have HKA := Lib.hid KA
            clear KA KB KP KI KO e35 hbl
            go_wp2_with (first
              | (go_at_call 74; refine (HKB.out _).mono ?_; rintro e w' ⟨rfl, rfl⟩)
              | (go_at_call 75; refine HKA.out.mono ?_; rintro e w1 ⟨v, rfl, hv, hb1⟩; have HV := Lib.hid hv; have HB1 := Lib.hid hb1; clear hv hb1))
            go_roundw
            case rel =>
              refine ⟨rfl, k + 1, k + 1, _, _, _, by omega, by omega, ?_, by go_num, by go_num, HV.out, HX.out.kept (HB1.out.block _ (by omega)), HB.out.trans (HB1.out.mono (by omega)), Nat.le_trans hsz HB1.out.size, fun _ => rfl, ?_⟩
              · have := addF_length out ((s.data.toList.take k).drop f); omega
              · rw [cur_none]; exact HH.out
            case measure => simp [intOf]; omega
      · cases hse : seenB c
        · rw [hse] at KP
          have HKP := Lib.hid KP
          have HH := Lib.hid HF.out
          rw [DO.out, f_in_bad _ _ _ _ hse] at HH
          clear KB KP KI KO e35 hse
          go_wp2_with (first
            | (go_at_call 58; refine (HKP.out _).mono ?_; rintro e w' ⟨rfl, rfl⟩))
          go_ret2
          refine ⟨_, ret_fields HH.out rfl, ?_, HB.out⟩
          rw [← HH.out]
          exact rowT_nil _ _
        · rw [hse] at KP
          have HKP := Lib.hid KP
          have HH := Lib.hid HF.out
          rw [DO.out, f_in _ _ _ _ hse] at HH
          have HKT := Lib.hid (KI fr HX.out)
          clear KB KP KI KO e35 hse
          go_wp2_with (first
            | (go_at_call 58; refine (HKP.out _).mono ?_; rintro e w' ⟨rfl, rfl⟩)
            | (go_at_call 76; refine HKT.out.mono ?_; rintro e w1 ⟨rfl, hx1, hy1⟩; have HX1 := Lib.hid hx1; have HY1 := Lib.hid hy1; clear hx1 hy1))
          go_roundw
          case rel =>
            refine ⟨rfl, k + 1, f, out, _, _, by omega, by omega, by omega, by go_num, rfl, HR.out.kept (fun j hj _ => HY1.out.2.2 j (by omega)), HX1.out, HB.out.trans HY1.out.1, by rw [HY1.out.2.1]; exact hsz, ?_, ?_⟩
            · intro e
              simp only [Bool.or_eq_false_iff, bne_eq_false_iff_eq] at e
              rw [e.2]
              simp
            · rw [CO.out]
              exact HH.out
          case measure => simp [intOf]; omega
    · obtain rfl : k = s.size := by omega
      have HH := Lib.hid HF.out
      rw [List.drop_of_length_le (by rw [size_data]; exact Nat.le_refl _)] at HH
      cases wi
      · rw [f_end] at HH
        obtain ⟨p, hp⟩ : ∃ p, s.extract f s.size = p := ⟨_, rfl⟩
        have HP := Lib.hid ((hp.symm).trans (tx_extract s f s.size))
        have KA := lexAdd_any HR.out hsz ((s.data.toList.take s.size).drop f) hcl (by omega)
        rw [← HP.out] at KA
        have HKA := Lib.hid KA
        clear KA
        go_wp2_with fail
        refine HKA.out.mono ?_
        rintro e w1 ⟨v, rfl, hv, hb1⟩
        have HV := Lib.hid hv; have HB1 := Lib.hid hb1
        clear hv hb1
        go_wp2
        go_ret2
        refine ⟨v, ret_fields HH.out rfl, ?_, HB.out.trans (HB1.out.mono (by omega))⟩
        rw [← HH.out]
        exact HV.out
      · rw [f_open] at HH
        go_wp2
        go_ret2
        refine ⟨_, ret_fields HH.out rfl, ?_, HB.out⟩
        rw [← HH.out]
        exact rowT_nil _ _
theorem lexFields_any (s : ByteArray) (w : World) (hs : s.size ≤ 999999) :
    Calls Tryz.prog 53 #[.string s] w (GivesF (fieldsL s.data.toList) w) := (lexFields_row s w hs).mono fun _ _ ⟨v, h1, h2, h3⟩ => ⟨v, h1, h2.texts, h3⟩
end Go.Proofs.YtenigkjonegdmaaGreatDoor
