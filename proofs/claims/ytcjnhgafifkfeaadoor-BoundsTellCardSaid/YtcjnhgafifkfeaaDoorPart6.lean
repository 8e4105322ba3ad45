/- Part 6 of the texts that the proofs of this seat share: SchemeFind, Usual, BoundsSet, JobWant, BoundsAlive, RefFirst, Laid, DecLaid, SchemeLaid, OpenCells, StepArg, OpenJob. -/
import Derived.Test.YtcjnhgafifkfeaaDoorPart5
import Derived.Test.YtcjnhgafifkfeaaDoorPart1
import Derived.Test.YtcjnhgafifkfeaaDoorPart4
import Derived.Test.YtcjnhgafifkfeaaDoorPart2
import Derived.Lib.LaidTab
import Derived.Stop.LaidErr
import Derived.MakeChecks
import Derived.Shelf.Vars
import Derived.Deep.Slices
import Derived.Deep.Fields
import Derived.OpenShut
import Derived.Lib.SmallJoins
import Derived.SliceStrings
/- What scheme.Find answers: for every text. -/
namespace Go.Proofs.YtcjnhgafifkfeaaDoor
open Go.RowKit Go.Shelf
set_option linter.unusedVariables false
attribute [local go_sem] Oper.semAt_some

theorem InL.kept {W W' : World} {row : Option Nat} {a : Option Addr} {l : List Sp} (h : InL W a l) (hg : W.grownBy W' row) (hr : ∀ r, row = some r → ∃ o : Obj, W.heap[r]? = some o ∧ o.isCells = false) : InL W' a l := by
  rcases h with h | ⟨b, off, e, h⟩
  · exact .inl h
  · exact .inr ⟨b, off, e, fun j p hp => by
      obtain ⟨h0, h1, h2⟩ := h j p hp
      exact ⟨cell_kept h0 hg hr, cell_kept h1 hg hr, cell_kept h2 hg hr⟩⟩
theorem Cells.kept {W W' : World} {row : Option Nat} {B : Nat} {vs : List Value} (h : ∀ j v, vs[j]? = some v → W.cell? ⟨B, j, none⟩ = some v) (hg : W.grownBy W' row) (hr : ∀ r, row = some r → ∃ o : Obj, W.heap[r]? = some o ∧ o.isCells = false) : ∀ j v, vs[j]? = some v → W'.cell? ⟨B, j, none⟩ = some v := fun j v hj => cell_kept (h j v hj) hg hr

theorem cat_splitText (x : CatE) (w : World) (hm : Mx w) :
    Calls Tryd.prog 33 #[.string (tx (textE x)), .string ⟨#[32]⟩] w fun e w' => ∃ a c, e = .returned (.slice a (partsM x.1.2).length c) ∧ TxA w' a c (partsM x.1.2) ∧ Below w.heap.size w w' := by
  obtain ⟨m, hm⟩ := hm
  have ht : textE x = joinM (partsC x.1.2) := by unfold textE; rw [cat_parts x.1 x.2]
  have hs := cat_split x.1 x.2
  rw [← ht, ← cat_parts x.1 x.2] at hs
  have hz := (cat_short x.1 x.2).2.1
  rw [← ht] at hz
  have hl : (Lib.splitB ⟨#[32]⟩ 0 (Lib.countB (tx (textE x)) ⟨#[32]⟩) (tx (textE x))).map (·.data.toList) = partsM x.1.2 := by
    rw [Lib.splitB_data, data_tx, ← hs]
    unfold Lib.split Lib.countB
    rw [data_tx]
  have hn := Lib.splitB_all ⟨#[32]⟩ (by decide) 0 _ (tx (textE x)) rfl
  generalize hS : Lib.splitB ⟨#[32]⟩ 0 (Lib.countB (tx (textE x)) ⟨#[32]⟩) (tx (textE x)) = S at *
  have hlen : (partsM x.1.2).length = S.length := by rw [← hl]; simp
  refine (Tryd.strings_Split (tx (textE x)) ⟨#[32]⟩ m w (by rw [tx_size]; omega) hm (by decide)).mono ?_
  rintro e w' ⟨rfl, rfl⟩
  rw [hS, ← hn]
  refine ⟨some ⟨w.heap.size, 0, none⟩, S.length, by rw [hlen], .inr ⟨w.heap.size, 0, rfl, fun i l hi => ?_, by omega, ?_⟩, up_alloc (Below.refl _ _) _⟩
  · rw [← hl] at hi
    simp only [List.getElem?_map, Option.map_eq_some_iff] at hi
    obtain ⟨b, hb, rfl⟩ := hi
    rw [tx_data]
    have hlt := (List.getElem?_eq_some_iff.1 hb).1
    have hc : (w.alloc (.cells (S.map Value.string).toArray 9)).heap[w.heap.size]? = some (.cells (S.map Value.string).toArray 9 (0, 0)) := heap_alloc_new w _
    unfold World.cell?
    simp only [hc]
    simp [hb]
  · have : (partsM x.1.2).length ≤ 7 := by
      have := (toldB_true (cat_told x.1 x.2)).2.2.1
      simp [partsM]; omega
    unfold maxLen; omega

theorem InF.kept {W W' : World} {base : Nat} {row : Option Nat} {a : Option Addr} {l : List Sp} (h : InF base W a l) (hg : W.grownBy W' row) (hr : ∀ r, row = some r → ∃ o : Obj, W.heap[r]? = some o ∧ o.isCells = false) : InF base W' a l := by
  rcases h with h | ⟨b, off, e, h0, h⟩
  · exact .inl h
  · exact .inr ⟨b, off, e, h0, fun j p hp => by
      obtain ⟨h0, h1, h2⟩ := h j p hp
      exact ⟨cell_kept h0 hg hr, cell_kept h1 hg hr, cell_kept h2 hg hr⟩⟩
theorem keepsO_below {W W' : World} (h : Below W.heap.size W W') : KeepsOthers W W' := ⟨h.size, fun k o hk _ => (h.block k (Array.getElem?_eq_some_iff.1 hk).1).trans hk⟩
theorem find_own (c' : Code) (nm : List UInt8) (w : World) (B : Nat) (hB : w.heap.size ≤ B) : OwnFrom B (fun (_ : List CatE) W => c' = .ret ∧ ∃ (s : Sc) (a : Option Addr) (cap : Nat), findM nm = some s ∧ (∀ j v, [Value.int .i64 s.c, .int .i64 s.r, .slice a s.l.length cap][j]? = some v → W.cell? ⟨w.heap.size + 1, j, none⟩ = some v) ∧ W.cell? ⟨w.heap.size + 1 + 1, 0, none⟩ = some (.bool true) ∧ InF w.heap.size W a s.l ∧ Below w.heap.size w W) := by
  rintro _ W W' row ⟨e, s, a, cap, h1, h2, h3, h4, h5⟩ hg hr
  have hr' : ∀ r, row = some r → ∃ o : Obj, W.heap[r]? = some o ∧ o.isCells = false := fun r e => (hr r e).2
  exact ⟨e, s, a, cap, h1, Cells.kept h2 hg hr', cell_kept h3 hg hr', h4.kept hg hr', h5.grown hg h5.size (fun k e => by have := (hr k e).1; omega)⟩

set_option maxRecDepth 100000 in
set_option maxHeartbeats 4000000 in
theorem schFind_any (nm : List UInt8) (w : World) (hg : GoodM w) : Calls Tryd.prog 30 #[.string (tx nm)] w (GivesS (findM nm) w) := by
  obtain ⟨N, hN⟩ : ∃ N, tx nm = N := ⟨_, rfl⟩
  have HN := Lib.hid hN
  rw [hN]
  clear hN
  refine (callsIn_wide (n := 3)).1 ?_
  refine callsIn_of_wp_marks Tryd.func30 rfl trivial ?_ rfl
  simp only [Tryd.ntmps30, List.size_toArray, List.length_cons, List.length_nil, Nat.reduceAdd, Nat.reduceSub, Array.replicate_succ, Array.replicate_zero, List.push_toArray, List.append_toArray, List.nil_append, List.cons_append]
  gi_wp2
  have x0 := ((Bx.new w 9 [.string N]).alloc (.cells #[.int .i64 0, .int .i64 0, .slice none 0 0] 26)).alloc (.cells #[.bool false] 4)
  have x1 := (Bx.new (w.alloc (.cells #[.string N] 9)) 26 [.int .i64 0, .int .i64 0, .slice none 0 0]).alloc (.cells #[.bool false] 4)
  have x2 := Bx.new ((w.alloc (.cells #[.string N] 9)).alloc (.cells #[.int .i64 0, .int .i64 0, .slice none 0 0] 26)) 4 [.bool false]
  simp only [World.size_alloc] at x1 x2
  obtain ⟨W0, hW0⟩ : ∃ W0, (((w.alloc (.cells #[.string N] 9)).alloc (.cells #[.int .i64 0, .int .i64 0, .slice none 0 0] 26)).alloc (.cells #[.bool false] 4)) = W0 := ⟨_, rfl⟩
  have upw : Below w.heap.size w W0 := by rw [← hW0]; exact up_alloc (up_alloc (up_alloc (Below.refl _ _) _) _) _
  have hsz : W0.heap.size = w.heap.size + 3 := by rw [← hW0]; simp
  have X0 : Bx W0 w.heap.size [.string N] := by rw [← hW0]; exact x0
  have X1 : Bx W0 (w.heap.size + 1) [.int .i64 0, .int .i64 0, .slice none 0 0] := by rw [← hW0]; exact x1
  have X2 : Bx W0 (w.heap.size + 1 + 1) [.bool false] := by rw [← hW0]; exact x2
  rw [hW0]
  clear hW0 x0 x1 x2
  have G0 := hg.below upw
  have HU := Lib.hid upw; have HSZ := Lib.hid hsz; have HX0 := Lib.hid X0; have HX1 := Lib.hid X1; have HX2 := Lib.hid X2; have HG := Lib.hid G0
  clear upw X0 X1 X2 G0 hg
  refine wpIn_rangeFunc_ownG_of_H rfl (by decide) (gf := 31) (lb := #[]) rfl trivial (enters_of Tryd.func31 (by kernel_rfl) rfl)
    (catalogue_stops 2 W0 HG.out.2) belowK_t (belowK_b (Nat.le_refl _)) (Below.refl _ _) (fun _ => rfl)
    (fun pre W => (∀ e ∈ pre, e.1.1 ≠ nm) ∧ Below W0.heap.size W0 W)
    (fun c' pre W => c' = .ret ∧ ∃ (s : Sc) (a : Option Addr) (cap : Nat), findM nm = some s ∧ (∀ j v, [Value.int .i64 s.c, .int .i64 s.r, .slice a s.l.length cap][j]? = some v → W.cell? ⟨w.heap.size + 1, j, none⟩ = some v) ∧ W.cell? ⟨w.heap.size + 1 + 1, 0, none⟩ = some (.bool true) ∧ InF w.heap.size W a s.l ∧ Below w.heap.size w W)
    (OwnFrom.and (ownFrom_pure _ _) (ownFrom_below (Nat.le_refl _) (Nat.le_refl _)))
    (fun c' => find_own c' nm w W0.heap.size (by omega))
    ⟨fun e he => (by cases he), Below.refl _ _⟩
    (fun x => { tmps := #[.string N, .pointer (some ⟨w.heap.size, 0, none⟩), .pointer (some ⟨w.heap.size + 1, 0, none⟩), .pointer (some ⟨w.heap.size + 1 + 1, 0, none⟩), .string (tx x.1.1), .string (tx (textE x)), .string (tx x.1.1), .string (tx (textE x)), undef, undef, undef, undef, undef, undef, undef, undef, undef], defers := [] })
    ?assign ?body ?done ?stop (Below.refl _)
  case assign =>
    intro l x W K hK
    unfold encE
    gi_wp2
    exact hK
  case body =>
    rintro l0 pre x W ⟨hne, hB⟩ hlen
    have y0 := HX0.out.up hB
    have y1 := HX1.out.up hB
    have y2 := HX2.out.up hB
    have a0 := y0.cell 0 rfl
    have hz := hB.size
    have HB := Lib.hid hB; have HNE := Lib.hid hne
    have GW := Lib.hid (HG.out.below hB)
    have e := tx_same x.1.1 nm
    rw [HN.out] at e
    by_cases hx : x.1.1 = nm
    · rw [decide_eq_true hx] at e
      have HF := Lib.hid (show findM nm = some x.1.2 by rw [← hx]; exact (find_of_mem x.2).1)
      have KS := cat_splitText x W GW.out.2
      have KR := fun a c w1 (h : TxA w1 a c (partsM x.1.2)) (hg : GoodM w1) => schRead_any a c (partsM x.1.2) w1 h (fun p hp => by rw [cat_parts x.1 x.2] at hp; have := (cat_short x.1 x.2).2.2 p hp; omega) hg
      rw [read_parts x.1.2 (cat_told x.1 x.2)] at KR
      have HKS := Lib.hid KS; have HKR := Lib.hid KR
      generalize tx (textE x) = T at *
      generalize tx x.1.1 = Q at *
      generalize partsM x.1.2 = ls at *
      generalize x.1.2 = s at *
      clear KS KR hne hB hx
      gi_wp2_with (first
        | (refine ⟨trivial, ?_⟩; gi_at_call 33; refine (CallsIn.inRound l0 (callsIn_wide.2 HKS.out)).mono ?_; rintro e w1 ⟨a1, c1, rfl, hT, hb1⟩)
        | (refine ⟨trivial, ?_⟩; gi_at_call 32; refine (CallsIn.inRound l0 (callsIn_wide.2 (HKR.out _ _ _ hT (GW.out.below hb1)))).mono ?_; rintro e w2 ⟨a2, c2, rfl, hF, hb2⟩; have q1 := (y1.up hb1).up hb2; have q2 := (y2.up hb1).up hb2; have r0 := q1.cell 0 rfl; have r1 := q1.cell 1 rfl; have r2 := q1.cell 2 rfl; have rf := q1.free; have s0 := q2.cell 0 rfl; have sf := q2.free))
      have ho := (((keepsO_below (up_trans hb1 hb2)).trans (KeepsOthers.setCell w2 ⟨w.heap.size + 1, 0, none⟩ (.int .i64 s.c))).trans (KeepsOthers.setCell _ ⟨w.heap.size + 1, 1, none⟩ (.int .i64 s.r))).trans ((KeepsOthers.setCell _ ⟨w.heap.size + 1, 2, none⟩ (.slice a2 s.l.length c2)).trans (KeepsOthers.setCell _ ⟨w.heap.size + 1 + 1, 0, none⟩ (.bool true)))
      refine ⟨ho.from _, rfl, s, a2, c2, HF.out, ((q1.set3 _ _ _).far (p := ⟨w.heap.size + 1 + 1, 0, none⟩) (by simp only; omega) _).1, ?_, ?_, ?_⟩
      · exact (((((q2.far (p := ⟨w.heap.size + 1, 0, none⟩) (by simp only; omega) _).far (p := ⟨w.heap.size + 1, 1, none⟩) (by simp only; omega) _).far (p := ⟨w.heap.size + 1, 2, none⟩) (by simp only; omega) _).set 0 (.bool true)).cell 0 rfl)
      · have hs1 := hb1.size
        have hF' : InF (w.heap.size + 3) w2 a2 s.l := InF.mono hF (by omega)
        refine InF.mono (base := w.heap.size + 3) ?_ (by omega)
        repeat (first | (with_reducible exact hF') | (with_reducible refine InF.set ?_ (by simp only; omega) _))
      · have B2 := (HU.out.trans (HB.out.mono (by omega))).trans ((up_trans hb1 hb2).mono (by omega))
        repeat (first | (with_reducible exact B2) | (with_reducible refine up_set ?_ (by simp only; omega) _))
    · rw [decide_eq_false hx] at e
      generalize tx (textE x) = T at *
      have HX := Lib.hid hx
      generalize tx x.1.1 = Q at *
      clear hne hB hx
      gi_wp2
      exact ⟨KeepsFrom.refl _ _, Below.refl _ _, fun y hy => by
        rcases List.mem_append.1 hy with h | h
        · exact HNE.out y h
        · obtain rfl := List.mem_singleton.1 h; exact HX.out, HB.out⟩
  case done =>
    rintro D ys W hD rfl ⟨hne, hB⟩ hK
    have E := Lib.hid (show findM nm = none from find_none fun e he h => hne ⟨e, he⟩ (List.mem_attach _ _) h)
    have y1 := HX1.out.up hB
    have y2 := HX2.out.up hB
    have r0 := y1.cell 0 rfl; have r1 := y1.cell 1 rfl; have r2 := y1.cell 2 rfl; have rf := y1.free; have s0 := y2.cell 0 rfl; have sf := y2.free
    have hB1 := Lib.hid (HU.out.trans (hB.mono (by omega)))
    clear hne hB
    gi_wp2
    have hK' := ((((KeepsOthers.setCell W ⟨w.heap.size + 1, 0, none⟩ (.int .i64 0)).trans (KeepsOthers.setCell _ ⟨w.heap.size + 1, 1, none⟩ (.int .i64 0))).trans (KeepsOthers.setCell _ ⟨w.heap.size + 1, 2, none⟩ (.slice none 0 0))).trans (KeepsOthers.setCell _ ⟨w.heap.size + 1 + 1, 0, none⟩ (.bool false))).same D _ hK rfl
    refine ⟨by simp, .inl ⟨_, _, rfl, run_takeDeferred hK', ?_⟩⟩
    have p0 := Cells.kept ((y1.set3 (.int .i64 0) (.int .i64 0) (.slice none 0 0)).far (p := ⟨w.heap.size + 1 + 1, 0, none⟩) (by simp only; omega) (.bool false)).1 (grownBy_putObj' _ D (.deferred none)) (fun r e => by cases e; exact ⟨_, hK', rfl⟩)
    have p1 := cell_kept (((((y2.far (p := ⟨w.heap.size + 1, 0, none⟩) (by simp only; omega) (.int .i64 0)).far (p := ⟨w.heap.size + 1, 1, none⟩) (by simp only; omega) (.int .i64 0)).far (p := ⟨w.heap.size + 1, 2, none⟩) (by simp only; omega) (.slice none 0 0)).set 0 (.bool false)).cell 0 rfl) (grownBy_putObj' _ D (.deferred none)) (fun r e => by cases e; exact ⟨_, hK', rfl⟩)
    have c0 := p0 0 _ rfl; have c1 := p0 1 _ rfl; have c2 := p0 2 _ rfl
    refine ⟨.tuple #[.agg #[.int .i64 0, .int .i64 0, .slice none 0 0], .bool false], by simp [results, Tryd.results30, go_sem, c0, c1, c2, p1], ?_⟩
    rw [E.out]
    refine gives_none ?_
    refine Below.trans ?_ (belowK_b (w := w) (Nat.le_refl _) _ D _ _ (by omega) hK' rfl rfl)
    have B2 := hB1.out
    repeat (first | (with_reducible exact B2) | (with_reducible refine up_set ?_ (by simp only; omega) _))
  case stop =>
    rintro D c' pre W hD hpre ⟨rfl, s, a, cap, h1, h2, h3, h4, h5⟩ hK
    have H2 := Lib.hid h2; have H4 := Lib.hid h4; have H5 := Lib.hid h5; have H1 := Lib.hid h1
    clear h1 h2 h4 h5
    gi_wp2
    refine ⟨by simp, .inl ⟨_, _, rfl, run_takeDeferred hK, ?_⟩⟩
    have p0 := Cells.kept H2.out (grownBy_putObj' _ D (.deferred none)) (fun r e => by cases e; exact ⟨_, hK, rfl⟩)
    have p1 := cell_kept h3 (grownBy_putObj' _ D (.deferred none)) (fun r e => by cases e; exact ⟨_, hK, rfl⟩)
    have c0 := p0 0 _ rfl; have c1 := p0 1 _ rfl; have c2 := p0 2 _ rfl
    refine ⟨.tuple #[.agg #[.int .i64 s.c, .int .i64 s.r, .slice a s.l.length cap], .bool true], by simp [results, Tryd.results30, go_sem, c0, c1, c2, p1], ?_⟩
    rw [H1.out]
    exact ⟨a, cap, rfl, H4.out.kept (grownBy_putObj' _ D (.deferred none)) (fun r e => by cases e; exact ⟨_, hK, rfl⟩), H5.out.trans (belowK_b (w := w) (Nat.le_refl _) _ D _ _ (by omega) hK rfl rfl)⟩
end Go.Proofs.YtcjnhgafifkfeaaDoor
/- The usual job, as the program and the reference tell it. -/
namespace Go.Proofs.YtcjnhgafifkfeaaDoor
open Go.RowKit
set_option linter.unusedVariables false
set_option linter.unusedSimpArgs false

def usualL : List Int := [16, 0, 0, 148000, 210000, 3000, 5000, 5000, 5000, 0, 1, 1, 640000, 900000, 10000, 12000, 8000, 100, 1, 1, 0, 5000, 3000, 100, 20000, 5000, 10, 0]
def usualN (i : Nat) : Int := usualL.getD i 0
def usualF : Sc := ⟨2, 2, [⟨3, 1, false⟩, ⟨1, 1, false⟩]⟩
/-- The usual job. -/
def usualJ : Jb := ⟨[98, 111, 111, 107], usualN, usualF, []⟩
theorem keep_sets (w : World) (B o : Nat) (ws : List Value) : ∀ p : Addr, p.block ≠ B → ∀ v, w.cell? p = some v → (w.setCells B o ws).cell? p = some v := fun p hp v hv => by
  rw [World.cell?_setCells_out B ws o w p (fun e _ => absurd e hp)]
  exact hv
theorem find_usual : findM [70, 56, 45, 49] = some usualF := by decide +kernel
theorem usual_first : firstJ usualN = -1 := by decide +kernel

/-- A job is built out of its parts, in a region that does not draw its order. -/
theorem wpList_build_job {ops : Array Oper} {rest : List Oper} {o : Oper} {a : Act} {w : World} {Q : Exit → Act → World → Prop} (hg : o.guard = none) (parts : Array (Nat × Operand)) (ho : o.op = .build 29 parts) (cells : Array Value)
    (hc : Tryd.prog.built 29 (parts.map fun (i, x) => (i, a.eval x)).toList = some cells) (h : wpList Tryd.prog ops Q rest (a.put o.dst (.agg cells)) w) : wpList Tryd.prog ops Q (o :: rest) a w :=
  wpList_build_to hg _ parts ho cells hc h

set_option maxRecDepth 100000 in
theorem bUsual_any (w : World) (hg : GoodM w) : Calls Tryd.prog 15 #[] w fun e w' => ∃ cs, e = .returned (.agg cs.toArray) ∧ JobF w.heap.size w' cs usualJ ∧ Below w.heap.size w w' := by
  have HG := Lib.hid hg
  have HR := Lib.hid (Bx.new w 29 zeroL)
  have HB := Lib.hid (up_alloc (Below.refl w.heap.size w) (.cells zeroL.toArray 29))
  have KF := schFind_any [70, 56, 45, 49] (w.alloc (.cells zeroL.toArray 29)) (hg.below HB.out)
  rw [find_usual] at KF
  unfold GivesS at KF
  rw [show tx [70, 56, 45, 49] = ⟨#[70, 56, 45, 49]⟩ from rfl] at KF
  have HF := Lib.hid KF
  clear KF hg
  go_enter Tryd.func15, Tryd.ntmps15
  go_wp2_with (refine wpList_alloc_to rfl 29 rfl _ _ (job_alloc _) ?_; simp only [Act.put, World.size_alloc, List.setIfInBounds_toArray, List.set_cons_succ, List.set_cons_zero])
  refine HF.out.mono ?_
  rintro e w1 ⟨a, cap, rfl, hF, hb⟩
  simp only [Option.getD_some, Option.isSome_some] at hF ⊢
  have R1 := HR.out.later (by decide) hb
  rw [World.size_alloc] at hF
  have B1 := Lib.hid (up_trans HB.out hb)
  have hlow := R1.lowE (by decide)
  have S1 := Lib.hid (Bx.new w1 26 [.int .i64 2, .int .i64 2, .slice a 2 cap])
  have R2 := Lib.hid (R1.later (by decide) (up_alloc (Below.refl _ _) (.cells #[.int .i64 2, .int .i64 2, .slice a 2 cap] 26)))
  have F2 := Lib.hid (hF.up (up_alloc (Below.refl _ _) (.cells #[.int .i64 2, .int .i64 2, .slice a 2 cap] 26)))
  have B2 := Lib.hid (up_alloc B1.out (.cells #[.int .i64 2, .int .i64 2, .slice a 2 cap] 26))
  have hne : w.heap.size ≠ w1.heap.size := by omega
  clear hF hb R1 hlow
  go_wp2_with (first
    | (refine wpList_build_job rfl _ rfl (jobL (tx usualJ.t) usualN 2 2 (.slice a 2 cap) (.slice none 0 0)).toArray ?_ ?_; kernel_rfl; simp only [Act.put, List.setIfInBounds_toArray, List.set_cons_succ, List.set_cons_zero])
    | (refine wpList_store_job rfl _ _ rfl w.heap.size rfl zeroL (jobL (tx usualJ.t) usualN 2 2 (.slice a 2 cap) (.slice none 0 0)) rfl R2.out rfl rfl (job_one _ _ _ _ _ _ _ _ _ _) ?_; simp only [Act.put]))
  have F3 := F2.out.keep (B := w.heap.size) (by omega) (keep_sets _ w.heap.size 0 (jobL (tx usualJ.t) usualN 2 2 (.slice a 2 cap) (.slice none 0 0)))
  have R3 := R2.out.sets (ws := jobL (tx usualJ.t) usualN 2 2 (.slice a 2 cap) (.slice none 0 0)) rfl
  have B3 := below_setCells (Nat.le_refl w.heap.size) (jobL (tx usualJ.t) usualN 2 2 (.slice a 2 cap) (.slice none 0 0)) 0 _ B2.out
  exact bodyPost_ret (v := .agg (jobL (tx usualJ.t) usualN 2 2 (.slice a 2 cap) (.slice none 0 0)).toArray) (results_wide Tryd.results15 w.heap.size rfl _ _ R3.range Tryd.underlying29 rfl infoJob) rfl
    ⟨_, rfl, ⟨a, cap, none, 0, rfl, F3.mono (by omega), .inl rfl⟩, B3⟩

set_option maxRecDepth 100000 in
theorem refUsual_any (w : World) : Calls Tryd.prog 18 #[] w fun e w' => ∃ cs, e = .returned (.agg cs.toArray) ∧ JobF w.heap.size w' cs usualJ ∧ Below w.heap.size w w' := by
  have HR := Bx.new w 29 zeroL
  have HB := up_alloc (Below.refl w.heap.size w) (.cells zeroL.toArray 29)
  have HZ := World.size_alloc w (.cells zeroL.toArray 29)
  obtain ⟨w1, hw1⟩ : ∃ w1, w.alloc (.cells zeroL.toArray 29) = w1 := ⟨_, rfl⟩
  have R2 := HR.later (by decide) (up_alloc (Below.refl _ _) (.cells #[.int .i64 3, .int .i64 1, .bool false, .int .i64 1, .int .i64 1, .bool false] 57))
  have B2 := up_alloc HB (.cells #[.int .i64 3, .int .i64 1, .bool false, .int .i64 1, .int .i64 1, .bool false] 57)
  have S2 := Bx.new (w.alloc (.cells zeroL.toArray 29)) 57 [.int .i64 3, .int .i64 1, .bool false, .int .i64 1, .int .i64 1, .bool false]
  rw [hw1] at R2 B2 S2 HZ
  have HR2 := Lib.hid R2; have HB2 := Lib.hid B2; have HS2 := Lib.hid S2; have HZ2 := Lib.hid HZ; have HW := Lib.hid hw1
  clear R2 B2 S2 HR HB HZ hw1
  go_enter Tryd.func18, Tryd.ntmps18
  go_wp2_with (first
    | (refine wpList_alloc_to rfl 29 rfl _ _ (job_alloc _) ?_; simp only [Act.put, HW.out, List.setIfInBounds_toArray, List.set_cons_succ, List.set_cons_zero])
    | (refine wpList_build_job rfl _ rfl (jobL (tx usualJ.t) usualN 2 2 (.slice (some ⟨w1.heap.size, 0, none⟩) 2 2) (.slice none 0 0)).toArray ?_ ?_; kernel_rfl; simp only [Act.put, List.setIfInBounds_toArray, List.set_cons_succ, List.set_cons_zero])
    | (refine wpList_store_job rfl _ _ rfl w.heap.size rfl zeroL (jobL (tx usualJ.t) usualN 2 2 (.slice (some ⟨w1.heap.size, 0, none⟩) 2 2) (.slice none 0 0)) rfl HR2.out rfl rfl (job_one _ _ _ _ _ _ _ _ _ _) ?_; simp only [Act.put]))
  have hz := HZ2.out
  have R3 := HR2.out.sets (ws := jobL (tx usualJ.t) usualN 2 2 (.slice (some ⟨w1.heap.size, 0, none⟩) 2 2) (.slice none 0 0)) rfl
  have B3 := below_setCells (Nat.le_refl w.heap.size) (jobL (tx usualJ.t) usualN 2 2 (.slice (some ⟨w1.heap.size, 0, none⟩) 2 2) (.slice none 0 0)) 0 _ HB2.out
  have S3 := sets_far HS2.out (show w1.heap.size ≠ w.heap.size by omega) 0 (jobL (tx usualJ.t) usualN 2 2 (.slice (some ⟨w1.heap.size, 0, none⟩) 2 2) (.slice none 0 0))
  refine bodyPost_ret (v := .agg (jobL (tx usualJ.t) usualN 2 2 (.slice (some ⟨w1.heap.size, 0, none⟩) 2 2) (.slice none 0 0)).toArray) (results_wide Tryd.results18 w.heap.size rfl _ _ R3.range Tryd.underlying29 rfl infoJob) rfl
    ⟨_, rfl, ⟨some ⟨w1.heap.size, 0, none⟩, 2, none, 0, rfl, .inr ⟨w1.heap.size, 0, rfl, by omega, fun j p hp => ?_⟩, .inl rfl⟩, B3⟩
  match j, hp with
  | 0, hp => cases hp; exact ⟨S3.cell 0 rfl, S3.cell 1 rfl, S3.cell 2 rfl⟩
  | 1, hp => cases hp; exact ⟨S3.cell 3 rfl, S3.cell 4 rfl, S3.cell 5 rfl⟩
  | j + 2, hp => simp [usualJ, usualF] at hp
end Go.Proofs.YtcjnhgafifkfeaaDoor
/- What bounds.Set answers, for every job, place and number: a job of new lists. -/
namespace Go.Proofs.YtcjnhgafifkfeaaDoor
open Go.RowKit
set_option linter.unusedVariables false
set_option linter.unusedSimpArgs false

theorem job_lists (t : ByteArray) (n : Nat → Int) (c r : Int) (fv lv fv' lv' : Value) : ((jobL t n c r fv lv).set 14 fv').set 15 lv' = jobL t n c r fv' lv' := rfl
theorem keep_cell {w : World} {B : Nat} (o : Nat) (x : Value) : ∀ p : Addr, p.block ≠ B → ∀ v, w.cell? p = some v → (w.setCell ⟨B, o, none⟩ x).cell? p = some v := fun p hp v hv => (World.cell?_setCell_far _ _ _ _ (by simp only; omega)).trans hv

set_option maxRecDepth 100000 in
set_option maxHeartbeats 1000000 in
theorem bSet_core (t : ByteArray) (n m : Nat → Int) (c r i z : Int) (l : List Sp) (ls : List (List UInt8)) (a a' : Option Addr) (d d' x y : Nat) (b : Bool) (w : World) (hx : l.length = x) (hy : ls.length = y) (hl : x ≤ 1000000) (hls : y ≤ 1000000) (hI : InL w a l) (hT : TxA w a' d' ls)
    (hb : (decide (0 ≤ i) && decide (i ≤ 27)) = b) (hm : (b = false ∧ m = n) ∨ (b = true ∧ ∃ k : Nat, k < 28 ∧ i = (k : Int) ∧ m = setN n k z)) :
    Calls Tryd.prog 13 #[.agg (jobL t n c r (.slice a x d) (.slice a' y d')).toArray, .int .i64 i, .int .i64 z] w fun e w' => ∃ a2 d2 a3 d3, e = .returned (.agg (jobL t m c r (.slice a2 x d2) (.slice a3 y d3)).toArray) ∧ InF w.heap.size w' a2 l ∧ TxF w.heap.size w' a3 d3 ls ∧ Below w.heap.size w w' := by
  obtain ⟨cs, hcs⟩ : ∃ cs, jobL t n c r (.slice a x d) (.slice a' y d') = cs := ⟨_, rfl⟩
  have hlc : cs.length = 33 := by rw [← hcs]; rfl
  have X0 := (Bx.new w 29 cs).later (by rw [hlc]; decide) (up_alloc (Below.refl _ _) (.cells zeroL.toArray 29))
  have R0 := Bx.new (w.alloc (.cells cs.toArray 29)) 29 zeroL
  have B0 := up_alloc (up_alloc (Below.refl w.heap.size w) (.cells cs.toArray 29)) (.cells zeroL.toArray 29)
  have Z0 : ((w.alloc (.cells cs.toArray 29)).alloc (.cells zeroL.toArray 29)).heap.size = w.heap.size + 2 := by rw [World.size_alloc, World.size_alloc]
  rw [World.size_alloc] at R0
  have HW := Lib.hid (show ∃ w0, (w.alloc (.cells cs.toArray 29)).alloc (.cells zeroL.toArray 29) = w0 from ⟨_, rfl⟩)
  obtain ⟨w0, hw0⟩ := HW.out
  rw [hw0] at X0 R0 B0 Z0
  have KI := fun w => isPlace_any i w
  rw [hb] at KI
  have HP := Lib.hid KI
  have HM := Lib.hid hm
  have HI := Lib.hid hI; have HT := Lib.hid hT
  have KS := fun w1 h => stepsClone_any a l d w1 (by omega) h
  have KT := fun w1 h => textsClone_any a' ls d' w1 (by omega) h
  rw [hx] at KS
  rw [hy] at KT
  have HS := Lib.hid KS; have HTT := Lib.hid KT
  rw [hcs]
  have g14 := X0.cell 14 (v := .slice a x d) (by rw [← hcs]; rfl)
  have HX := Lib.hid X0; have HR := Lib.hid R0; have HB := Lib.hid B0; have HZ := Lib.hid Z0; have HC := Lib.hid hcs; have HW0 := Lib.hid hw0; have HLC := Lib.hid hlc
  clear X0 R0 B0 Z0 hcs hlc KI KS KT hI hT hm hb hw0 hl hls hx hy HW
  go_enter Tryd.func13, Tryd.ntmps13
  go_wp2_with (refine wpList_alloc_to rfl 29 rfl _ _ (job_alloc _) ?_; simp only [Act.put, HW0.out, World.size_alloc, List.setIfInBounds_toArray, List.set_cons_succ, List.set_cons_zero])
  refine (HS.out _ (HI.out.up HB.out)).mono ?_
  rintro e w1 ⟨a2, d2, rfl, hF, hb1⟩
  rw [HZ.out] at hF
  have X1 := HX.out.later (by rw [HLC.out]; decide) hb1
  have R1 := HR.out.later (by decide) hb1
  have f14 := X1.cell 14 (v := .slice a x d) (by rw [← HC.out]; rfl)
  have fr := X1.free
  have X2 := X1.set 14 (.slice a2 x d2)
  have g15 := X2.cell 15 (v := .slice a' y d') (by rw [← HC.out]; rfl)
  have R2 := R1.far (p := ⟨w.heap.size, 14, none⟩) (by simp only; omega) (.slice a2 x d2)
  have B2 := up_set (up_trans HB.out hb1) (p := ⟨w.heap.size, 14, none⟩) (Nat.le_refl _) (.slice a2 x d2)
  have F2 := hF.keep (B := w.heap.size) (by omega) (keep_cell 14 (.slice a2 x d2))
  have HX2 := Lib.hid X2; have HR2 := Lib.hid R2; have HB2 := Lib.hid B2; have HF2 := Lib.hid F2
  clear X1 R1 X2 R2 B2 F2 hF hb1 g14
  go_wp2_with fail
  clear f14 fr
  generalize w1.setCell ⟨w.heap.size, 14, none⟩ (.slice a2 x d2) = w2 at *
  refine (HTT.out _ (HT.out.up HB2.out)).mono ?_
  rintro e w3 ⟨a3, d3, rfl, hT3, hb3⟩
  have hw2 : w.heap.size + 1 < w2.heap.size := HR2.out.lowE (by decide)
  have X3 := HX2.out.later (by rw [List.length_set, HLC.out]; decide) hb3
  have R3 := HR2.out.later (by decide) hb3
  have f15 := X3.cell 15 (v := .slice a' y d') (by rw [← HC.out]; rfl)
  have fr := X3.free
  have X4 := X3.set 15 (.slice a3 y d3)
  rw [← HC.out, job_lists] at X4
  have R4 := R3.far (p := ⟨w.heap.size, 15, none⟩) (by simp only; omega) (.slice a3 y d3)
  have B4 := up_set (up_trans HB2.out hb3) (p := ⟨w.heap.size, 15, none⟩) (Nat.le_refl _) (.slice a3 y d3)
  have F4 := (HF2.out.up hb3).keep (B := w.heap.size) (by omega) (keep_cell 15 (.slice a3 y d3))
  have T4 := (hT3.mono (base' := w.heap.size + 2) (by omega)).keep (B := w.heap.size) (by omega) (keep_cell 15 (.slice a3 y d3))
  have HX4 := Lib.hid X4; have HR4 := Lib.hid R4; have HB4 := Lib.hid B4; have HF4 := Lib.hid F4; have HT4 := Lib.hid T4
  clear X3 R3 X4 R4 B4 F4 T4 hT3 hb3 g15
  go_wp2_with fail
  clear f15 fr
  generalize w3.setCell ⟨w.heap.size, 15, none⟩ (.slice a3 y d3) = w4 at *
  refine (HP.out _).mono ?_
  rintro e w5 ⟨rfl, hb5⟩
  have X5 := Lib.hid (HX4.out.later (by rw [jobL_length]; decide) hb5)
  have R5 := Lib.hid (HR4.out.later (by decide) hb5)
  have B5 := Lib.hid (up_trans HB4.out hb5)
  have F5 := Lib.hid (HF4.out.up hb5)
  have T5 := Lib.hid (HT4.out.up hb5)
  clear hb5
  rcases HM.out with ⟨rfl, rfl⟩ | ⟨rfl, k, hk, rfl, rfl⟩
  · have B6 := below_setCells (show w.heap.size ≤ w.heap.size + 1 by omega) (jobL t m c r (.slice a2 x d2) (.slice a3 y d3)) 0 _ B5.out
    have R6 := R5.out.sets (ws := jobL t m c r (.slice a2 x d2) (.slice a3 y d3)) rfl
    have F6 := F5.out.keep (B := w.heap.size + 1) (by omega) (keep_sets _ (w.heap.size + 1) 0 (jobL t m c r (.slice a2 x d2) (.slice a3 y d3)))
    have T6 := T5.out.keep (B := w.heap.size + 1) (by omega) (keep_sets _ (w.heap.size + 1) 0 (jobL t m c r (.slice a2 x d2) (.slice a3 y d3)))
    have HB6 := Lib.hid B6; have HR6 := Lib.hid R6; have HF6 := Lib.hid F6; have HT6 := Lib.hid T6
    clear B6 R6 F6 T6
    go_wp2_with (first
      | (refine wpList_load_job rfl _ rfl w.heap.size rfl (jobL t m c r (.slice a2 x d2) (.slice a3 y d3)) X5.out rfl ?_; simp only [Act.put, List.setIfInBounds_toArray, List.set_cons_succ, List.set_cons_zero])
      | (refine wpList_store_job rfl _ _ rfl (w.heap.size + 1) rfl zeroL (jobL t m c r (.slice a2 x d2) (.slice a3 y d3)) rfl R5.out rfl rfl (job_one _ _ _ _ _ _ _ _ _ _) ?_; simp only [Act.put]))
    exact bodyPost_ret (v := .agg (jobL t m c r (.slice a2 x d2) (.slice a3 y d3)).toArray) (results_wide Tryd.results13 (w.heap.size + 1) rfl _ _ HR6.out.range Tryd.underlying29 rfl infoJob) rfl
      ⟨a2, d2, a3, d3, rfl, HF6.out.mono (by omega), HT6.out.mono (by omega), HB6.out⟩
  · have HN := Lib.hid (fun w1 => numbers_any w.heap.size w1)
    have h1 := nums_one w.heap.size hk
    have h2 := fun w1 => congrFun (show (Instr.field 46 (.agg (numC w.heap.size k).toArray) 0).run Tryd.prog = fun w1 => .ok (.pointer (some ⟨w.heap.size, cellJ k, none⟩)) w1 from by funext w1; kernel_rfl) w1
    have HJ := Lib.hid (show ∀ fv lv, (jobL t n c r fv lv)[cellJ k]? = some (.int .i64 (n k)) from fun fv lv => job_at t n c r fv lv hk)
    have HJS := Lib.hid (show ∀ fv lv, (jobL t n c r fv lv).set (cellJ k) (.int .i64 z) = jobL t (setN n k z) c r fv lv from fun fv lv => job_set t n c r fv lv hk z)
    generalize (numC w.heap.size k).toArray = nk at *
    generalize cellJ k = j at *
    generalize (numL w.heap.size).toArray = nl at *
    obtain ⟨m, hmm⟩ : ∃ m, setN n k z = m := ⟨_, rfl⟩
    rw [hmm] at HJS
    have HMM := Lib.hid hmm
    clear hmm
    have z0 : (0 : Int) ≤ (k : Int) := by omega
    have z1 : (k : Int) < 28 := by omega
    go_wp2_with fail
    refine (HN.out _).mono ?_
    rintro e w6 ⟨rfl, hb6⟩
    have X6 := X5.out.later (by rw [jobL_length]; decide) hb6
    have R6 := R5.out.later (by decide) hb6
    have hc := X6.cell j (HJ.out _ _)
    have fr := X6.free
    have X7 := X6.set j (.int .i64 z)
    rw [HJS.out] at X7
    have R7 := R6.far (p := ⟨w.heap.size, j, none⟩) (by simp only; omega) (.int .i64 z)
    have B7 := up_set (up_trans B5.out hb6) (p := ⟨w.heap.size, j, none⟩) (Nat.le_refl _) (.int .i64 z)
    have F7 := (F5.out.up hb6).keep (B := w.heap.size) (by omega) (keep_cell j (.int .i64 z))
    have T7 := (T5.out.up hb6).keep (B := w.heap.size) (by omega) (keep_cell j (.int .i64 z))
    have B8 := below_setCells (show w.heap.size ≤ w.heap.size + 1 by omega) (jobL t m c r (.slice a2 x d2) (.slice a3 y d3)) 0 _ B7
    have R8 := R7.sets (ws := jobL t m c r (.slice a2 x d2) (.slice a3 y d3)) rfl
    have F8 := F7.keep (B := w.heap.size + 1) (by omega) (keep_sets _ (w.heap.size + 1) 0 (jobL t m c r (.slice a2 x d2) (.slice a3 y d3)))
    have T8 := T7.keep (B := w.heap.size + 1) (by omega) (keep_sets _ (w.heap.size + 1) 0 (jobL t m c r (.slice a2 x d2) (.slice a3 y d3)))
    have HB8 := Lib.hid B8; have HR8 := Lib.hid R8; have HF8 := Lib.hid F8; have HT8 := Lib.hid T8; have HX7 := Lib.hid X7; have HR7 := Lib.hid R7
    clear X6 R6 X7 R7 B7 F7 T7 B8 R8 F8 T8 hb6
    go_wp2_with (first
      | (refine wpList_load_job rfl _ rfl w.heap.size rfl (jobL t m c r (.slice a2 x d2) (.slice a3 y d3)) HX7.out rfl ?_; simp only [Act.put, List.setIfInBounds_toArray, List.set_cons_succ, List.set_cons_zero])
      | (refine wpList_store_job rfl _ _ rfl (w.heap.size + 1) rfl zeroL (jobL t m c r (.slice a2 x d2) (.slice a3 y d3)) rfl HR7.out rfl rfl (job_one _ _ _ _ _ _ _ _ _ _) ?_; simp only [Act.put]))
    exact bodyPost_ret (v := .agg (jobL t m c r (.slice a2 x d2) (.slice a3 y d3)).toArray) (results_wide Tryd.results13 (w.heap.size + 1) rfl _ _ HR8.out.range Tryd.underlying29 rfl infoJob) rfl
      ⟨a2, d2, a3, d3, by rw [HMM.out], HF8.out.mono (by omega), HT8.out.mono (by omega), HB8.out⟩

theorem bSet_any (cs : List Value) (j : Jb) (i z : Int) (w : World) (h : JobA w cs j) (hl : j.f.l.length ≤ 1000000) (hls : j.ls.length ≤ 1000000) :
    Calls Tryd.prog 13 #[.agg cs.toArray, .int .i64 i, .int .i64 z] w fun e w' => ∃ es, e = .returned (.agg es.toArray) ∧ JobF w.heap.size w' es { j with n := setJ j.n i z } ∧ Below w.heap.size w w' := by
  obtain ⟨a, d, a', d', rfl, h1, h2⟩ := h
  refine (bSet_core (tx j.t) j.n (setJ j.n i z) j.f.c j.f.r i z j.f.l j.ls a a' d d' _ _ _ w rfl rfl hl hls h1 h2 rfl ?_).mono ?_
  · cases hb : (decide (0 ≤ i) && decide (i ≤ 27))
    · exact .inl ⟨rfl, setJ_out hb z⟩
    · obtain ⟨k, hk, rfl⟩ := place_of hb
      exact .inr ⟨rfl, k, hk, rfl, setJ_in hk z⟩
  · rintro e w' ⟨a2, d2, a3, d3, rfl, hF, hT, hb⟩
    exact ⟨_, rfl, ⟨a2, d2, a3, d3, rfl, hF, hT⟩, hb⟩
end Go.Proofs.YtcjnhgafifkfeaaDoor
/- A load of a job by an operation that bears a guard. -/
namespace Go.Proofs.YtcjnhgafifkfeaaDoor
open Go.RowKit
set_option linter.unusedVariables false
section
variable {ops : Array Oper} {rest : List Oper} {o : Oper} {a : Act} {w : World} {Q : Exit → Act → World → Prop} {C : World → Prop} {K : Act → Prop}
/-- A job is loaded by an operation that bears a guard, and is wanted. -/
theorem wpList_load_job_want (x : Operand) (ho : o.op = .load 29 x) (hw : Region.wanted o (yielded ops a.tmps) = true) (b : Nat) (hx : a.eval x = .pointer (some ⟨b, 0, none⟩)) (cs : List Value) (hb : Bx w b cs) (hl : cs.length = 33)
    (h : wpList Tryd.prog ops Q rest (a.put o.dst (.agg cs.toArray)) w) : wpList Tryd.prog ops Q (o :: rest) a w := by
  unfold wpList
  rw [if_pos hw]
  refine .inl ?_
  unfold Oper.wp execOp
  simp only [ho, hx, Instr.loadAt, Instr.sureAddr, Sem.run_bind, Sem.run_pure, Result.andThen_ok, run_loadVar_mid w b 0 29 cs _ hb.range Tryd.underlying29 rfl (by rw [hl]; exact infoJob)]
  exact h
end
end Go.Proofs.YtcjnhgafifkfeaaDoor
/- The chapter's example of bounds holds. -/
namespace Go.Proofs.YtcjnhgafifkfeaaDoor
open Go.RowKit
set_option linter.unusedVariables false
set_option linter.unusedSimpArgs false

set_option maxRecDepth 100000 in
set_option maxHeartbeats 1000000 in
theorem bAlive_any (w : World) (hg : GoodM w) : Calls Tryd.prog 6 #[] w fun e w' => e = .returned (.bool true) ∧ Below w.heap.size w w' := by
  have HU := Lib.hid (bUsual_any w hg)
  clear hg
  go_enter Tryd.func6, Tryd.ntmps6
  go_wp2_with fail
  refine HU.out.mono ?_
  rintro e w1 ⟨cs, rfl, hJ, hb⟩
  have hJA := hJ.jobA
  have hl := hJA.length
  have HL := Lib.hid hl
  have H1 := Lib.hid hJA.one
  have hz := Bx.new w1 29 zeroL
  have HZ := Lib.hid hz
  have X2 := hz.sets (ws := cs) (by rw [hl]; rfl)
  have B2 := below_setCells (show w.heap.size ≤ w1.heap.size from hb.size) cs 0 _ (up_alloc hb (.cells zeroL.toArray 29))
  have KF := fun w2 => bFirst_any cs usualN w2 hl (fun k hk => hJA.num hk)
  rw [usual_first] at KF
  have KG := fun w2 => bGet_in cs 16 0 w2 (by decide) hl (hJA.num (by decide))
  have ht := hJA.title
  rw [show tx usualJ.t = ⟨#[98, 111, 111, 107]⟩ from rfl] at ht
  have HX2 := Lib.hid X2; have HB2 := Lib.hid B2; have HF := Lib.hid KF; have HG := Lib.hid KG; have HT := Lib.hid ht
  clear hJ hJA hl hz X2 B2 KF KG ht hb
  go_wp2_with (first
    | (refine wpList_alloc_to rfl 29 rfl _ _ (job_alloc _) ?_; simp only [Act.put, List.setIfInBounds_toArray, List.set_cons_succ, List.set_cons_zero])
    | (refine wpList_store_job rfl _ _ rfl w1.heap.size rfl zeroL cs rfl HZ.out rfl HL.out H1.out ?_; simp only [Act.put])
    | (refine wpList_load_job rfl _ rfl w1.heap.size rfl cs HX2.out HL.out ?_; simp only [Act.put, List.setIfInBounds_toArray, List.set_cons_succ, List.set_cons_zero]))
  generalize (w1.alloc (.cells zeroL.toArray 29)).setCells w1.heap.size 0 cs = w2 at *
  refine (HF.out _).mono ?_
  rintro e w3 ⟨rfl, hb3⟩
  have HX3 := Lib.hid (HX2.out.later (by rw [HL.out]; decide) hb3)
  have HB3 := Lib.hid (up_trans HB2.out hb3)
  clear hb3
  go_wp2_with fail
  refine (count_any _).mono ?_
  rintro e w4 ⟨rfl, hb4⟩
  have HX4 := Lib.hid (HX3.out.later (by rw [HL.out]; decide) hb4)
  have HB4 := Lib.hid (up_trans HB3.out hb4)
  clear hb4
  go_wp2_with (refine wpList_load_job_want _ rfl rfl w1.heap.size rfl cs HX4.out HL.out ?_; simp only [Act.put, List.setIfInBounds_toArray, List.set_cons_succ, List.set_cons_zero])
  refine (HG.out _).mono ?_
  rintro e w5 ⟨rfl, hb5⟩
  have HX5 := HX4.out.later (by rw [HL.out]; decide) hb5
  have HB5 := Lib.hid (up_trans HB4.out hb5)
  have c0 := HX5.cell 0 HT.out
  clear hb5 HX5
  go_wp2
  go_ret
  exact ⟨rfl, HB5.out⟩
end Go.Proofs.YtcjnhgafifkfeaaDoor
/- What the reference's Get and First answer, for every job. -/
namespace Go.Proofs.YtcjnhgafifkfeaaDoor
open Go.RowKit
set_option linter.unusedVariables false

theorem enc_nums (n : Nat → Int) {k : Nat} (hk : k < 28) : (enc (numsL n))[k]? = some (.int .i64 (n k)) := by
  unfold enc
  rw [List.getElem?_map, numsL_at n hk]; rfl
theorem enc_from {k : Nat} (hk : k < 28) : (enc fromL)[k]? = some (.int .i64 (lowJ k)) := by
  unfold enc
  rw [List.getElem?_map, low_at hk]; rfl
theorem enc_to {k : Nat} (hk : k < 28) : (enc toL)[k]? = some (.int .i64 (topJ k)) := by
  unfold enc
  rw [List.getElem?_map, top_at hk]; rfl

theorem refJobGet_core (cs : List Value) (n : Nat → Int) (i v : Int) (b1 b2 : Bool) (w : World) (hl : cs.length = 33) (hv : ∀ k, k < 28 → cs[cellJ k]? = some (.int .i64 (n k))) (h1 : decide (i < 0) = b1) (h2 : decide (28 ≤ i) = b2)
    (h : (b1 = true ∧ v = 0) ∨ (b1 = false ∧ b2 = true ∧ v = 0) ∨ (b1 = false ∧ b2 = false ∧ ∃ k : Nat, k < 28 ∧ i = (k : Int) ∧ v = n k)) :
    Calls Tryd.prog 8 #[.agg cs.toArray, .int .i64 i] w fun e w' => e = .returned (.int .i64 v) ∧ Below w.heap.size w w' := by
  have HB := Lib.hid (up_alloc (Below.refl w.heap.size w) (.cells cs.toArray 29))
  have HX := Lib.hid (Bx.new w 29 cs)
  have HL := Lib.hid hl
  have HA := Lib.hid (fun w1 => refAll_any cs n w1 hv)
  have HH := Lib.hid h
  clear hv hl h
  go_enter Tryd.func8, Tryd.ntmps8
  go_wp2_with (refine wpList_load_job rfl _ rfl w.heap.size rfl cs HX.out HL.out ?_; simp only [Act.put, List.setIfInBounds_toArray, List.set_cons_succ, List.set_cons_zero])
  refine (HA.out _).mono ?_
  rintro e w1 ⟨g, rfl, hg, hL, hb⟩
  have HB1 := Lib.hid (up_trans HB.out hb)
  clear hb
  rcases HH.out with ⟨rfl, rfl⟩ | ⟨rfl, rfl, rfl⟩ | ⟨rfl, rfl, k, hk, rfl, rfl⟩
  · go_wp2
    go_ret
    exact ⟨rfl, HB1.out⟩
  · go_wp2
    go_ret
    exact ⟨rfl, HB1.out⟩
  · have hc := hL.cell k (enc_nums n hk)
    have z0 : (0 : Int) ≤ (k : Int) := by omega
    have z1 : (k : Int) < 28 := by omega
    clear hL
    go_wp2
    go_ret
    exact ⟨rfl, HB1.out⟩
theorem refJobGet_any (cs : List Value) (n : Nat → Int) (i : Int) (w : World) (hl : cs.length = 33) (hv : ∀ k, k < 28 → cs[cellJ k]? = some (.int .i64 (n k))) :
    Calls Tryd.prog 8 #[.agg cs.toArray, .int .i64 i] w fun e w' => e = .returned (.int .i64 (getJ n i)) ∧ Below w.heap.size w w' := by
  refine refJobGet_core cs n i _ _ _ w hl hv rfl rfl ?_
  by_cases h1 : i < 0
  · exact .inl ⟨decide_eq_true h1, getJ_out (by rw [decide_eq_false (by omega)]; rfl)⟩
  · by_cases h2 : 28 ≤ i
    · exact .inr (.inl ⟨decide_eq_false h1, decide_eq_true h2, getJ_out (by rw [decide_eq_false (show ¬ i ≤ 27 by omega), Bool.and_false])⟩)
    · refine .inr (.inr ⟨decide_eq_false h1, decide_eq_false h2, i.toNat, by omega, by omega, ?_⟩)
      unfold getJ
      rw [if_pos ⟨by omega, by omega⟩]

/-- As far as the k-th number, all may be; the three lists stand. -/
def RefFirstRel (w : World) (n : Nat → Int) (i : Value) (wr : World) : Prop := ∃ k : Nat, k ≤ 28 ∧ i = .int .i64 (k : Int) ∧ Hid (∀ j, j < k → okJ n j = true) ∧ ∃ u : Later w, wr = u.now
set_option maxHeartbeats 1000000 in
theorem refFirst_any (cs : List Value) (n : Nat → Int) (w : World) (hl : cs.length = 33) (hv : ∀ k, k < 28 → cs[cellJ k]? = some (.int .i64 (n k))) :
    Calls Tryd.prog 10 #[.agg cs.toArray] w fun e w' => e = .returned (.int .i64 (firstJ n)) ∧ Below w.heap.size w w' := by
  have HB := Lib.hid (up_alloc (Below.refl w.heap.size w) (.cells cs.toArray 29))
  have HX := Lib.hid (Bx.new w 29 cs)
  have HL := Lib.hid hl
  have HA := Lib.hid (fun w1 => refAll_any cs n w1 hv)
  have HF := Lib.hid (fun (k : Nat) (hk : k < 28) (h : ∀ j, j < k → okJ n j = true) (h0 : okJ n k = false) => firstJ_at hk h h0)
  have HZ := Lib.hid (fun h => firstJ_none (n := n) h)
  generalize firstJ n = F at *
  clear hv hl
  go_enter Tryd.func10, Tryd.ntmps10
  go_wp2_with (refine wpList_load_job rfl _ rfl w.heap.size rfl cs HX.out HL.out ?_; simp only [Act.put, List.setIfInBounds_toArray, List.set_cons_succ, List.set_cons_zero])
  refine (HA.out _).mono ?_
  rintro e w1 ⟨g1, rfl, -, L1, hb⟩
  have HB1 := Lib.hid (up_trans HB.out hb)
  clear hb
  go_wp2_with fail
  refine (refFrom_any _).mono ?_
  rintro e w2 ⟨g2, rfl, -, L2, hb⟩
  have HB2 := Lib.hid (up_trans HB1.out hb)
  have M1 := Bx.up L1 hb
  clear hb L1
  go_wp2_with fail
  refine (refTo_any _).mono ?_
  rintro e w3 ⟨g3, rfl, -, L3, hb⟩
  have HB3 := Lib.hid (up_trans HB2.out hb)
  have N1 := Lib.hid (Bx.up M1 hb)
  have N2 := Lib.hid (Bx.up L2 hb)
  have N3 := Lib.hid L3
  clear hb M1 L2 L3
  go_wp2
  go_loopw [6] (fun i wr => RefFirstRel w3 n i wr) (fun i _ => 28 - (intOf i).toNat)
  case atStart => exact ⟨0, by omega, by go_num, Lib.hid (fun j hj => absurd hj (Nat.not_lt_zero _)), ⟨w3, Below.refl _ _⟩, rfl⟩
  case round =>
    obtain ⟨k, hk, rfl, HA, u, rfl⟩ := hrel
    by_cases hlt : k < 28
    · have c1 := fun u : Later w3 => u.cell (N1.out.cell k (enc_nums n hlt))
      have c2 := fun u : Later w3 => u.cell (N2.out.cell k (enc_from hlt))
      have c3 := fun u : Later w3 => u.cell (N3.out.cell k (enc_to hlt))
      have z0 : (0 : Int) ≤ (k : Int) := by omega
      have z1 : (k : Int) < 28 := by omega
      have HOk : okJ n k = (decide (lowJ k ≤ n k) && decide (n k ≤ topJ k)) := rfl
      obtain ⟨v, hvv⟩ : ∃ v, n k = v := ⟨_, rfl⟩
      obtain ⟨lo, hlo⟩ : ∃ v, lowJ k = v := ⟨_, rfl⟩
      obtain ⟨hi, hhi⟩ : ∃ v, topJ k = v := ⟨_, rfl⟩
      rw [hvv, hlo, hhi] at HOk
      rw [hvv] at c1
      rw [hlo] at c2
      rw [hhi] at c3
      have HO := Lib.hid HOk
      clear HOk hvv hlo hhi
      go_wp2_with fail
      by_cases h1 : v < lo
      · have q1 : decide (v < lo) = true := decide_eq_true h1
        refine wp_region_later (by kernel_rfl) (by kernel_rfl) ?_
        repeat (go_big_quiet_step (fail))
        refine wpQuiet_nil ?_
        rintro _ ⟨u2, rfl⟩
        clear c1 c2 c3
        go_wp2
        go_ret
        exact ⟨by rw [HF.out k hlt HA.out (by rw [HO.out, decide_eq_false (by omega)]; rfl)]; rfl, up_trans HB3.out u2.up⟩
      · have q1 : decide (v < lo) = false := decide_eq_false h1
        by_cases h2 : hi < v
        · have q2 : decide (hi < v) = true := decide_eq_true h2
          refine wp_region_later (by kernel_rfl) (by kernel_rfl) ?_
          repeat (go_big_quiet_step (fail))
          refine wpQuiet_nil ?_
          rintro _ ⟨u2, rfl⟩
          clear c1 c2 c3
          go_wp2
          go_ret
          exact ⟨by rw [HF.out k hlt HA.out (by rw [HO.out, decide_eq_false (show ¬ v ≤ hi by omega), Bool.and_false])]; rfl, up_trans HB3.out u2.up⟩
        · have q2 : decide (hi < v) = false := decide_eq_false h2
          refine wp_region_later (by kernel_rfl) (by kernel_rfl) ?_
          repeat (go_big_quiet_step (fail))
          refine wpQuiet_nil ?_
          rintro _ ⟨u2, rfl⟩
          clear c1 c2 c3
          have HA2 := Lib.hid (okJ_snoc HA.out (by rw [HO.out, decide_eq_true (show lo ≤ v by omega), decide_eq_true (show v ≤ hi by omega)]; rfl))
          go_wp2
          go_roundw
          case rel => exact ⟨k + 1, by omega, by go_num, HA2, u2, rfl⟩
          case measure => simp [intOf]; omega
    · have hk2 : k = 28 := by omega
      subst hk2
      go_wp2
      go_ret
      exact ⟨by rw [HZ.out HA.out]; rfl, up_trans HB3.out u.up⟩
end Go.Proofs.YtcjnhgafifkfeaaDoor
/- What a row's list of variables gives dec.Put: the library's table of powers. -/
namespace Go.Proofs.YtcjnhgafifkfeaaDoor
open Go.RowKit

theorem laid_drop {P : Program} {W : World} : ∀ (i : Nat) {l : List (String × DataW Unit)}, laidMet P l W → laidMet P (l.drop i) W
  | 0, _, h => h
  | _ + 1, [], h => h
  | i + 1, _ :: _, h => laid_drop i h.tail
theorem gPow : Tryd.prog.globalNamed "internal/strconv.uint64pow10" = some 5 := by kernel_rfl
theorem tPow : (Tryd.prog.globals[5]?).map (·.type) = some 126 := by kernel_rfl
theorem cU64 : Tryd.prog.cellsOf 106 = 1 := by kernel_rfl
theorem cPow : Tryd.prog.cellsOf 126 = 20 := by kernel_rfl
/-- i: where the table stands in the list. -/
theorem tab_of {l : List (String × DataW Unit)} {W : World} (h : laidMet Tryd.prog l W) (i : Nat)
    (e1 : l.drop i = ("internal/strconv.uint64pow10", Lib.tabData .u64 Lib.pow10Tab) :: l.drop (i + 1)) : Tab W := by
  have h1 := laid_drop i h
  rw [e1] at h1
  exact Lib.tabIs_of_head gPow tPow Tryd.underlying126 Tryd.underlying106 cU64 cPow h1
end Go.Proofs.YtcjnhgafifkfeaaDoor
/- What a row's list of variables gives dec's calls: the library's table of powers and its two errors. -/
namespace Go.Proofs.YtcjnhgafifkfeaaDoor
open Go.RowKit DecMath

theorem gSyn : Tryd.prog.globalNamed "strconv.ErrSyntax" = some 3 := by kernel_rfl
theorem gRng : Tryd.prog.globalNamed "strconv.ErrRange" = some 4 := by kernel_rfl
theorem tSyn : (Tryd.prog.globals[3]?).map (·.type) = some 80 := by kernel_rfl
theorem tRng : (Tryd.prog.globals[4]?).map (·.type) = some 80 := by kernel_rfl
theorem cErr : Tryd.prog.cellsOf 119 = 1 := by kernel_rfl
theorem cStr : Tryd.prog.cellsOf 9 = 1 := by kernel_rfl
theorem star : "*" ++ "errors.errorString" = "*errors.errorString" := by decide
theorem rowErr (u : TypeId) (h : Tryd.prog.typeName? 3 u = some "*errors.errorString") : u = 117 :=
  typeName_ptr_named (nm := "errors.errorString") (by rw [star]; kernel_rfl) (by kernel_rfl) (by decide) u (by rw [star]; exact h)

/-- i, j, k: where the table, the range's error and the syntax's error stand in the list. -/
theorem good_of {l : List (String × DataW Unit)} {W : World} (h : laidMet Tryd.prog l W) (i j k : Nat)
    (e1 : l.drop i = ("internal/strconv.uint64pow10", Lib.tabData .u64 Lib.pow10Tab) :: l.drop (i + 1))
    (e2 : l.drop j = ("strconv.ErrRange", .iface "*errors.errorString" (.ptr (.agg [.lit (.string [118, 97, 108, 117, 101, 32, 111, 117, 116, 32, 111, 102, 32, 114, 97, 110, 103, 101])]))) :: l.drop (j + 1))
    (e3 : l.drop k = ("strconv.ErrSyntax", .iface "*errors.errorString" (.ptr (.agg [.lit (.string [105, 110, 118, 97, 108, 105, 100, 32, 115, 121, 110, 116, 97, 120])]))) :: l.drop (k + 1)) : Good W := by
  have h1 := laid_drop i h
  have h2 := laid_drop j h
  have h3 := laid_drop k h
  rw [e1] at h1
  rw [e2] at h2
  rw [e3] at h3
  obtain ⟨a2, s2, v2, -, -, -⟩ := laid_sentinel h2 gRng tRng Tryd.underlying80 rowErr Tryd.underlying117 Tryd.underlying119 rfl rfl Tryd.underlying9 cErr cStr
  obtain ⟨a3, s3, v3, -, -, -⟩ := laid_sentinel h3 gSyn tSyn Tryd.underlying80 rowErr Tryd.underlying117 Tryd.underlying119 rfl rfl Tryd.underlying9 cErr cStr
  exact ⟨Lib.tabIs_of_head gPow tPow Tryd.underlying126 Tryd.underlying106 cU64 cPow h1, ⟨_, _, v3⟩, _, _, v2⟩
end Go.Proofs.YtcjnhgafifkfeaaDoor
/- What a row's list of variables and the world's shape give scheme's calls. -/
namespace Go.Proofs.YtcjnhgafifkfeaaDoor
open Go.RowKit DecMath

/-- In every world of the program's shape the variable that Cut and Split read holds some number. -/
theorem mx_of {W : World} (h : W.ShapedOpen Tryd.prog) : Mx W :=
  cell_of_shapedOpen_int (g := 0) (t := 3) (zero := #[.int .i64 0]) h (of_decide_eq_true (by kernel_rfl)) (by kernel_rfl) rfl (by kernel_rfl) (by kernel_rfl) Tryd.underlying3
end Go.Proofs.YtcjnhgafifkfeaaDoor
/- A slice of structs whose fields are ints, bools or strings that came in, read cell by cell. -/
namespace Go.Proofs.YtcjnhgafifkfeaaDoor
open Go.Deep Go.ChangeShapes Go.WideShapes
set_option linter.unusedVariables false

/-- What is known of a cell of this type. -/
def FitV (u : Option TypeDesc) (v : Value) : Prop := match u with
  | some (.int k) => ∃ z, v = .int k z ∧ (Lit.int k z).wf = true
  | some .bool => ∃ b, v = .bool b
  | some .string => ∃ s : ByteArray, v = .string s ∧ s.size ≤ maxLen
  | _ => True

/-- Of each number below n there is one: a list of them. -/
theorem list_of {α : Type} {Q : Nat → α → Prop} : ∀ (n : Nat), (∀ i, i < n → ∃ x, Q i x) → ∃ l : List α, l.length = n ∧ ∀ i x, l[i]? = some x → Q i x
  | 0, _ => ⟨[], rfl, fun i x h => by simp at h⟩
  | n + 1, h => by
    obtain ⟨l, hl, hq⟩ := list_of n (fun i hi => h i (by omega))
    obtain ⟨x, hx⟩ := h n (by omega)
    refine ⟨l ++ [x], by simp [hl], fun i y hy => ?_⟩
    rcases Nat.lt_or_ge i n with hi | hi
    · rw [List.getElem?_append_left (by omega)] at hy
      exact hq i y hy
    · rw [List.getElem?_append_right (by omega), List.getElem?_singleton] at hy
      split at hy
      · cases hy
        obtain rfl : i = n := by omega
        exact hx
      · cases hy

section
variable {H : Type} {enc : TypeId × Value → H} {P : Program} {w : World} {base : Nat} {spare : Nat → Bool} {held : Bool}

theorem trod_fit {t : TypeId} {fuel : Nat} {cs : List Value} {x : DataW H × List MemPlace} (hc : cs.length = 1) (h : DataW.trod enc P w base spare held fuel t cs = some x) : ∃ v, cs = [v] ∧ FitV (P.underlying t) v := by
  obtain ⟨v, rfl⟩ := List.length_eq_one_iff.1 hc
  refine ⟨v, rfl, ?_⟩
  unfold FitV
  split
  · rename_i k hk
    obtain ⟨z, hz, _, hw⟩ := DataW.trod_int hk h
    exact ⟨z, by simpa using hz, hw⟩
  · rename_i hk
    obtain ⟨b, hb, _⟩ := DataW.trod_bool hk h
    exact ⟨b, by simpa using hb⟩
  · rename_i hk
    obtain ⟨s, hs, _, hw⟩ := DataW.trod_string hk h
    exact ⟨s, by simpa using hs, hw⟩
  · trivial

theorem fit_int {t : TypeId} {k : IntKind} {p : Addr} (ht : P.underlying t = some (.int k)) (h : ∃ v, w.cell? p = some v ∧ FitV (P.underlying t) v) : ∃ z, w.cell? p = some (.int k z) ∧ (Lit.int k z).wf = true := by
  obtain ⟨v, hc, hv⟩ := h
  rw [ht] at hv
  obtain ⟨z, rfl, hz⟩ := hv
  exact ⟨z, hc, hz⟩
theorem fit_bool {t : TypeId} {p : Addr} (ht : P.underlying t = some .bool) (h : ∃ v, w.cell? p = some v ∧ FitV (P.underlying t) v) : ∃ z, w.cell? p = some (.bool z) := by
  obtain ⟨v, hc, hv⟩ := h
  rw [ht] at hv
  obtain ⟨z, rfl⟩ := hv
  exact ⟨z, hc⟩
theorem fit_text {t : TypeId} {p : Addr} (ht : P.underlying t = some .string) (h : ∃ v, w.cell? p = some v ∧ FitV (P.underlying t) v) : ∃ z : ByteArray, w.cell? p = some (.string z) ∧ z.size ≤ maxLen := by
  obtain ⟨v, hc, hv⟩ := h
  rw [ht] at hv
  obtain ⟨z, rfl, hz⟩ := hv
  exact ⟨z, hc, hz⟩

/-- Every field of every element holds what its type says. -/
theorem open_cell_structs {t e : TypeId} {fs : Array Field} {fuel : Nat} {cs : List Value} {x : DataW H × List MemPlace} (ht : P.underlying t = some (.slice e)) (he : P.underlying e = some (.struct fs))
    (hone : oneCellFields P fs = true) (ce : P.cellsOf e = fs.size) (h : DataW.trod enc P w base spare held fuel t cs = some x) :
    cs = [.slice none 0 0] ∨ ∃ (a : Addr) (len cap : Nat), cs = [.slice (some a) len cap] ∧ len ≤ cap ∧ cap ≤ maxLen ∧
      ∀ i, i < len → ∀ j f, fs[j]? = some f → ∃ v, w.cell? (a.add (i * fs.size + j)) = some v ∧ FitV (P.underlying f.type) v := by
  rcases open_slice ht h with ⟨h0, _⟩ | ⟨a, len, cap, m, n, D, Pl, rfl, hb, hl, hm, hmm, rfl, hx⟩
  · exact .inl h0
  right
  have hlm : len ≤ m := by rw [hmm]; split <;> omega
  refine ⟨a, len, cap, rfl, hl, hm, fun i hi j f hfj => ?_⟩
  have hj : j < fs.size := (Array.getElem?_eq_some_iff.1 hfj).1
  obtain ⟨cs', h1, h2⟩ := hx i (by omega)
  rw [ce] at h1
  obtain ⟨_, hlen, hcell⟩ := World.cells?_some h1
  obtain ⟨xs, k, _, _, _, hxl, hf⟩ := DataW.trod_struct he h2
  obtain ⟨o, c⟩ := hone_of hone j _ hfj
  have g := hf j _ hfj
  rw [o, c, List.getElem?_eq_getElem (by omega)] at g
  obtain ⟨v, hv, hw⟩ := trod_fit (by rw [List.length_take, List.length_drop]; omega) g
  have e1 := hcell j hj
  rw [Go.Deep.add_add] at e1
  have e2 : cs'[j]? = some v := by
    have : ((cs'.drop j).take 1)[0]? = some v := by rw [hv]; rfl
    simpa using this
  exact ⟨v, e1.trans e2, hw⟩
end
end Go.Proofs.YtcjnhgafifkfeaaDoor
/- Steps that came in, as a list. -/
namespace Go.Proofs.YtcjnhgafifkfeaaDoor
open Go.RowKit
set_option linter.unusedVariables false

/-- The steps that came in, as a list. -/
theorem steps_of (a : Option Addr) (len cap : Nat) (w : World)
    (h : (a = none ∧ len = 0 ∧ cap = 0) ∨ ∃ x, a = some x ∧ len ≤ cap ∧ cap ≤ maxLen ∧ ∀ i, i < len → (∃ z, w.cell? (x.add (i * 3 + 0)) = some (.int .i64 z) ∧ (Lit.int .i64 z).wf = true) ∧ (∃ z, w.cell? (x.add (i * 3 + 1)) = some (.int .i64 z) ∧ (Lit.int .i64 z).wf = true) ∧ (∃ z, w.cell? (x.add (i * 3 + 2)) = some (.bool z))) :
    ∃ l : List Sp, l.length = len ∧ (l = [] ∨ ∃ b off, a = some ⟨b, off, none⟩ ∧ InS w b off l) := by
  rcases h with ⟨rfl, rfl, rfl⟩ | ⟨x, rfl, hl, hm, hc⟩
  · exact ⟨[], rfl, .inl rfl⟩
  · by_cases h0 : len = 0
    · subst h0; exact ⟨[], rfl, .inl rfl⟩
    obtain ⟨b, off, spot⟩ := x
    have hspot : spot = none := by
      obtain ⟨⟨z, hz, _⟩, _⟩ := hc 0 (by omega)
      simpa [Addr.add] using World.cell?_spot hz
    subst hspot
    obtain ⟨l, e, hq⟩ := list_of (Q := fun i (p : Sp) => w.cell? ⟨b, off + i * 3, none⟩ = some (.int .i64 p.d) ∧ w.cell? ⟨b, off + i * 3 + 1, none⟩ = some (.int .i64 p.n) ∧ w.cell? ⟨b, off + i * 3 + 2, none⟩ = some (.bool p.u)) len (fun i hi => by
      obtain ⟨⟨d, h1, _⟩, ⟨n, h2, _⟩, u, h3⟩ := hc i hi
      rw [Go.WideShapes.add_plain] at h1 h2 h3
      exact ⟨⟨d, n, u⟩, by simpa using h1, by rw [Nat.add_assoc]; exact h2, by rw [Nat.add_assoc]; exact h3⟩)
    exact ⟨l, e, .inr ⟨b, off, rfl, hq⟩⟩
end Go.Proofs.YtcjnhgafifkfeaaDoor
/- A job that came in, read cell by cell. -/
namespace Go.Proofs.YtcjnhgafifkfeaaDoor
open Go.RowKit Go.Deep Go.ChangeShapes Go.WideShapes
set_option linter.unusedVariables false
set_option linter.unusedSimpArgs false
set_option maxRecDepth 100000

section
variable {H : Type} {enc : TypeId × Value → H} {w : World} {base : Nat} {spare : Nat → Bool} {held : Bool}

/-- The texts that came in, as a list. -/
theorem textsA_of (a : Option Addr) (len cap : Nat) (w : World)
    (h : (a = none ∧ len = 0 ∧ cap = 0) ∨ ∃ x, a = some x ∧ len ≤ cap ∧ cap ≤ maxLen ∧ ∀ i, i < len → ∃ z : ByteArray, w.cell? (x.add i) = some (.string z) ∧ z.size ≤ maxLen) :
    ∃ ls : List (List UInt8), ls.length = len ∧ TxA w a cap ls ∧ ∀ x ∈ ls, x.length ≤ maxLen := by
  rcases h with ⟨rfl, rfl, rfl⟩ | ⟨x, rfl, hl, hm, hc⟩
  · exact ⟨[], rfl, .inl rfl, by simp⟩
  · by_cases h0 : len = 0
    · subst h0; exact ⟨[], rfl, .inl rfl, by simp⟩
    obtain ⟨b, off, spot⟩ := x
    have hspot : spot = none := by
      obtain ⟨z, hz, _⟩ := hc 0 (by omega)
      simpa [Addr.add] using World.cell?_spot hz
    subst hspot
    obtain ⟨l, e, hq⟩ := list_of (Q := fun i (p : List UInt8) => w.cell? ⟨b, off + i, none⟩ = some (.string (tx p)) ∧ p.length ≤ maxLen) len (fun i hi => by
      obtain ⟨z, h1, h2⟩ := hc i hi
      rw [Go.WideShapes.add_plain] at h1
      exact ⟨z.data.toList, by rw [tx_data]; exact h1, by rw [size_data]; exact h2⟩)
    refine ⟨l, e, .inr ⟨b, off, rfl, fun i p hp => (hq i p hp).1, by omega, hm⟩, fun p hp => ?_⟩
    obtain ⟨i, hi⟩ := List.getElem?_of_mem hp
    exact (hq i p hi).2

/-- An int among the cells. -/
theorem trod_int_at {fuel o : Nat} {cs : List Value} {y : DataW H × List MemPlace} (ho : o < cs.length) (h : DataW.trod enc Tryd.prog w base spare held fuel 3 ((cs.drop o).take 1) = some y) : ∃ z, cs[o]? = some (.int .i64 z) := by
  obtain ⟨v, hv, hw⟩ := trod_fit (by rw [List.length_take, List.length_drop]; omega) h
  rw [Tryd.underlying3] at hw
  obtain ⟨z, rfl, -⟩ := hw
  refine ⟨z, ?_⟩
  have : ((cs.drop o).take 1)[0]? = some (.int .i64 z) := by rw [hv]; rfl
  simpa [ho] using this
theorem take_take_drop {cs : List Value} {o k i : Nat} (h : i < k) : (((cs.drop o).take k).drop i).take 1 = (cs.drop (o + i)).take 1 := by
  rw [List.drop_take, List.take_take, List.drop_drop, Nat.min_eq_left (by omega)]

/-- A field of a struct, as it is read. -/
theorem trod_at {t ft : TypeId} {i o fuel : Nat} {cs : List Value} {x : DataW H × List MemPlace} (hs : (match Tryd.prog.underlying t with | some (.struct fs) => (fs[i]?).map fun f => (f.type, f.offset) | _ => none) = some (ft, o))
    (h : DataW.trod enc Tryd.prog w base spare held fuel t cs = some x) : ∃ m y, DataW.trod enc Tryd.prog w base spare held m ft ((cs.drop o).take (Tryd.prog.cellsOf ft)) = some y := by
  cases hu : Tryd.prog.underlying t with
  | none => rw [hu] at hs; cases hs
  | some d =>
    rw [hu] at hs
    cases d
    case struct fs =>
      simp only [Option.map_eq_some_iff, Prod.mk.injEq] at hs
      obtain ⟨f, hf0, rfl, rfl⟩ := hs
      obtain ⟨xs, m, _, _, _, hxl, hf⟩ := DataW.trod_struct hu h
      have g := hf i f hf0
      have hi : i < xs.length := by rw [hxl]; exact (Array.getElem?_eq_some_iff.1 hf0).1
      rw [List.getElem?_eq_getElem hi] at g
      exact ⟨m, _, g⟩
    all_goals cases hs
theorem trod_int_field {t : TypeId} {i o fuel : Nat} {cs : List Value} {x : DataW H × List MemPlace} (hs : (match Tryd.prog.underlying t with | some (.struct fs) => (fs[i]?).map fun f => (f.type, f.offset) | _ => none) = some (3, o)) (ho : o < cs.length)
    (h : DataW.trod enc Tryd.prog w base spare held fuel t cs = some x) : ∃ z, cs[o]? = some (.int .i64 z) := by
  obtain ⟨m, y, g⟩ := trod_at hs h
  rw [show Tryd.prog.cellsOf 3 = 1 by kernel_rfl] at g
  exact trod_int_at ho g

/-- Its job. -/
theorem open_job {fuel : Nat} {cs : List Value} {x : DataW H × List MemPlace} (hl : cs.length = 33) (h : DataW.trod enc Tryd.prog w base spare held fuel 29 cs = some x) :
    ∃ j : Jb, JobA w cs j ∧ j.t.length ≤ maxLen ∧ ∀ p ∈ j.ls, p.length ≤ maxLen := by
  obtain ⟨z0, h0⟩ := trod_int_field (i := 1) (o := 1) (by kernel_rfl) (by omega) h
  obtain ⟨z3, h3⟩ := trod_int_field (i := 3) (o := 4) (by kernel_rfl) (by omega) h
  obtain ⟨z4, h4⟩ := trod_int_field (i := 4) (o := 5) (by kernel_rfl) (by omega) h
  obtain ⟨z5, h5⟩ := trod_int_field (i := 5) (o := 6) (by kernel_rfl) (by omega) h
  obtain ⟨z6, h6⟩ := trod_int_field (i := 6) (o := 7) (by kernel_rfl) (by omega) h
  obtain ⟨z7, h7⟩ := trod_int_field (i := 7) (o := 8) (by kernel_rfl) (by omega) h
  obtain ⟨z8, h8⟩ := trod_int_field (i := 8) (o := 9) (by kernel_rfl) (by omega) h
  obtain ⟨z9, h9⟩ := trod_int_field (i := 9) (o := 10) (by kernel_rfl) (by omega) h
  obtain ⟨z10, h10⟩ := trod_int_field (i := 10) (o := 11) (by kernel_rfl) (by omega) h
  obtain ⟨z11, h11⟩ := trod_int_field (i := 13) (o := 16) (by kernel_rfl) (by omega) h
  obtain ⟨z12, h12⟩ := trod_int_field (i := 14) (o := 17) (by kernel_rfl) (by omega) h
  obtain ⟨z13, h13⟩ := trod_int_field (i := 15) (o := 18) (by kernel_rfl) (by omega) h
  obtain ⟨z14, h14⟩ := trod_int_field (i := 16) (o := 19) (by kernel_rfl) (by omega) h
  obtain ⟨z15, h15⟩ := trod_int_field (i := 17) (o := 20) (by kernel_rfl) (by omega) h
  obtain ⟨z16, h16⟩ := trod_int_field (i := 18) (o := 21) (by kernel_rfl) (by omega) h
  obtain ⟨z17, h17⟩ := trod_int_field (i := 19) (o := 22) (by kernel_rfl) (by omega) h
  obtain ⟨z18, h18⟩ := trod_int_field (i := 20) (o := 23) (by kernel_rfl) (by omega) h
  obtain ⟨z19, h19⟩ := trod_int_field (i := 21) (o := 24) (by kernel_rfl) (by omega) h
  obtain ⟨z20, h20⟩ := trod_int_field (i := 22) (o := 25) (by kernel_rfl) (by omega) h
  obtain ⟨z21, h21⟩ := trod_int_field (i := 23) (o := 26) (by kernel_rfl) (by omega) h
  obtain ⟨z22, h22⟩ := trod_int_field (i := 24) (o := 27) (by kernel_rfl) (by omega) h
  obtain ⟨z23, h23⟩ := trod_int_field (i := 25) (o := 28) (by kernel_rfl) (by omega) h
  obtain ⟨z24, h24⟩ := trod_int_field (i := 26) (o := 29) (by kernel_rfl) (by omega) h
  obtain ⟨z25, h25⟩ := trod_int_field (i := 27) (o := 30) (by kernel_rfl) (by omega) h
  obtain ⟨z26, h26⟩ := trod_int_field (i := 28) (o := 31) (by kernel_rfl) (by omega) h
  obtain ⟨z27, h27⟩ := trod_int_field (i := 29) (o := 32) (by kernel_rfl) (by omega) h
  obtain ⟨mb, yb, gb⟩ := trod_at (i := 2) (o := 2) (ft := 23) (by kernel_rfl) h
  rw [show Tryd.prog.cellsOf 23 = 2 by kernel_rfl] at gb
  obtain ⟨z1, h1⟩ := trod_int_field (i := 0) (o := 0) (by kernel_rfl) (by rw [List.length_take, List.length_drop]; omega) gb
  obtain ⟨z2, h2⟩ := trod_int_field (i := 1) (o := 1) (by kernel_rfl) (by rw [List.length_take, List.length_drop]; omega) gb
  obtain ⟨mf, yf, gf⟩ := trod_at (i := 11) (o := 12) (ft := 26) (by kernel_rfl) h
  rw [show Tryd.prog.cellsOf 26 = 3 by kernel_rfl] at gf
  obtain ⟨c, hc⟩ := trod_int_field (i := 0) (o := 0) (by kernel_rfl) (by rw [List.length_take, List.length_drop]; omega) gf
  obtain ⟨r, hr⟩ := trod_int_field (i := 1) (o := 1) (by kernel_rfl) (by rw [List.length_take, List.length_drop]; omega) gf
  obtain ⟨ms, ys, gs⟩ := trod_at (i := 2) (o := 2) (ft := 24) (by kernel_rfl) gf
  rw [show Tryd.prog.cellsOf 24 = 1 by kernel_rfl, take_take_drop (by omega)] at gs
  obtain ⟨ml, yl, gl⟩ := trod_at (i := 12) (o := 15) (ft := 27) (by kernel_rfl) h
  rw [show Tryd.prog.cellsOf 27 = 1 by kernel_rfl] at gl
  obtain ⟨mt, yt, gt⟩ := trod_at (i := 0) (o := 0) (ft := 9) (by kernel_rfl) h
  rw [show Tryd.prog.cellsOf 9 = 1 by kernel_rfl] at gt
  obtain ⟨T, hT, _, hTz⟩ := DataW.trod_string Tryd.underlying9 gt
  have hT0 : cs[0]? = some (.string T) := by
    have : ((cs.drop 0).take 1)[0]? = some (.string T) := by rw [hT]; rfl
    simpa using this
  obtain ⟨a, len, cap, es, ws⟩ : ∃ (a : Option Addr) (len cap : Nat), (cs.drop 14).take 1 = [Value.slice a len cap] ∧ ((a = none ∧ len = 0 ∧ cap = 0) ∨ ∃ x, a = some x ∧ len ≤ cap ∧ cap ≤ maxLen ∧ ∀ i, i < len → (∃ z, w.cell? (x.add (i * 3 + 0)) = some (.int .i64 z) ∧ (Lit.int .i64 z).wf = true) ∧ (∃ z, w.cell? (x.add (i * 3 + 1)) = some (.int .i64 z) ∧ (Lit.int .i64 z).wf = true) ∧ (∃ z, w.cell? (x.add (i * 3 + 2)) = some (.bool z))) := by
    rcases open_cell_structs Tryd.underlying24 Tryd.underlying57 (by kernel_rfl) (by kernel_rfl) gs with hcs | ⟨x, l, c, hcs, hl, hm, hV⟩
    · exact ⟨none, 0, 0, hcs, .inl ⟨rfl, rfl, rfl⟩⟩
    · exact ⟨some x, l, c, hcs, .inr ⟨x, rfl, hl, hm, fun i hi => ⟨fit_int Tryd.underlying3 (hV i hi 0 _ rfl), fit_int Tryd.underlying3 (hV i hi 1 _ rfl), fit_bool Tryd.underlying4 (hV i hi 2 _ rfl)⟩⟩⟩
  obtain ⟨a', len', cap', el, wl⟩ : ∃ (a : Option Addr) (len cap : Nat), (cs.drop 15).take 1 = [Value.slice a len cap] ∧ ((a = none ∧ len = 0 ∧ cap = 0) ∨ ∃ x, a = some x ∧ len ≤ cap ∧ cap ≤ maxLen ∧ ∀ i, i < len → ∃ z : ByteArray, w.cell? (x.add i) = some (.string z) ∧ z.size ≤ maxLen) := by
    rcases open_strings Tryd.underlying27 Tryd.underlying9 (by kernel_rfl) gl with ⟨hcs, _⟩ | ⟨x, l, c, ss, hcs, _, hl, hm, hz, _, hcell, hwz⟩
    · exact ⟨none, 0, 0, hcs, .inl ⟨rfl, rfl, rfl⟩⟩
    · refine ⟨some x, l, c, hcs, .inr ⟨x, rfl, hl, hm, fun i hi => ?_⟩⟩
      have hlen : i < ss.length := by rw [hz]; split <;> omega
      exact ⟨_, hcell i hlen, hwz _ (by simp [List.getD_eq_getElem?_getD, List.getElem?_eq_getElem hlen])⟩
  have e14 : cs[14]? = some (.slice a len cap) := by
    have : ((cs.drop 14).take 1)[0]? = some (.slice a len cap) := by rw [es]; rfl
    simpa using this
  have e15 : cs[15]? = some (.slice a' len' cap') := by
    have : ((cs.drop 15).take 1)[0]? = some (.slice a' len' cap') := by rw [el]; rfl
    simpa using this
  have e2 : cs[2]? = some (.int .i64 z1) := by simpa using h1
  have e3 : cs[3]? = some (.int .i64 z2) := by simpa using h2
  have e12 : cs[12]? = some (.int .i64 c) := by simpa using hc
  have e13 : cs[13]? = some (.int .i64 r) := by simpa using hr
  obtain ⟨l, hll, hI⟩ := steps_of a len cap w ws
  obtain ⟨ls, hls, hA, hz⟩ := textsA_of a' len' cap' w wl
  subst hll hls
  obtain ⟨n, hn⟩ : ∃ n : Nat → Int, n = fun i => ([z0, z1, z2, z3, z4, z5, z6, z7, z8, z9, z10, z11, z12, z13, z14, z15, z16, z17, z18, z19, z20, z21, z22, z23, z24, z25, z26, z27] : List Int).getD i 0 := ⟨_, rfl⟩
  refine ⟨⟨T.data.toList, n, ⟨c, r, l⟩, ls⟩, ⟨a, cap, a', cap', ?_, hI, hA⟩, by simp only; rw [size_data]; exact hTz, hz⟩
  rw [tx_data]
  subst hn
  apply List.ext_getElem?
  intro k
  by_cases hk : k < 33
  · have hw : k = 0 ∨ k = 1 ∨ k = 2 ∨ k = 3 ∨ k = 4 ∨ k = 5 ∨ k = 6 ∨ k = 7 ∨ k = 8 ∨ k = 9 ∨ k = 10 ∨ k = 11 ∨ k = 12 ∨ k = 13 ∨ k = 14 ∨ k = 15 ∨ k = 16 ∨ k = 17 ∨ k = 18 ∨ k = 19 ∨ k = 20 ∨ k = 21 ∨ k = 22 ∨ k = 23 ∨ k = 24 ∨ k = 25 ∨ k = 26 ∨ k = 27 ∨ k = 28 ∨ k = 29 ∨ k = 30 ∨ k = 31 ∨ k = 32 := by omega
    rcases hw with rfl | rfl | rfl | rfl | rfl | rfl | rfl | rfl | rfl | rfl | rfl | rfl | rfl | rfl | rfl | rfl | rfl | rfl | rfl | rfl | rfl | rfl | rfl | rfl | rfl | rfl | rfl | rfl | rfl | rfl | rfl | rfl | rfl
    all_goals first
      | exact hT0
      | exact e2
      | exact e3
      | exact e12
      | exact e13
      | exact e14
      | exact e15
      | exact h0
      | exact h3
      | exact h4
      | exact h5
      | exact h6
      | exact h7
      | exact h8
      | exact h9
      | exact h10
      | exact h11
      | exact h12
      | exact h13
      | exact h14
      | exact h15
      | exact h16
      | exact h17
      | exact h18
      | exact h19
      | exact h20
      | exact h21
      | exact h22
      | exact h23
      | exact h24
      | exact h25
      | exact h26
      | exact h27
  · rw [List.getElem?_eq_none (by omega), List.getElem?_eq_none (by rw [jobL_length]; omega)]
end
end Go.Proofs.YtcjnhgafifkfeaaDoor
