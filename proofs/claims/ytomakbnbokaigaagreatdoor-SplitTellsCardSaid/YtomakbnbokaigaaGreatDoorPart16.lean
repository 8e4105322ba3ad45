/- Part 16 of the texts that the proofs of this seat share: SplitList, SplitAlive, SchemeNames, LexSmall, LexFields, LexRefFields, StepRef. -/
import Derived.Test.YtomakbnbokaigaaGreatDoorPart15
import Derived.Test.YtomakbnbokaigaaGreatDoorPart12
import Derived.Maps.AppendAt
import Derived.Maps.OwnIn
import Derived.Test.YtomakbnbokaigaaGreatDoorPart13
import Derived.Test.YtomakbnbokaigaaGreatDoorPart2
import Derived.Test.YtomakbnbokaigaaGreatDoorPart3
import Derived.Test.YtomakbnbokaigaaGreatDoorPart1
import Derived.LoopN
/- What split.Of answers. -/
namespace Go.Proofs.YtomakbnbokaigaaGreatDoor
open Go.RowKit
set_option linter.unusedVariables false
set_option linter.unusedSimpArgs false

def OfRel (l : List Sc) (N base : Nat) (w2 : World) (v i : Value) (wr : World) : Prop :=
  ∃ k : Nat, k ≤ N ∧ i = .int .i64 (k : Int) ∧ Hid (OwnL wr base v (l.take k)) ∧ Hid (Below w2.heap.size w2 wr)

set_option maxRecDepth 100000 in
set_option maxHeartbeats 1000000 in
theorem spOf_core (cs : List Value) (n : Int) (N : Nat) (f g : Sc) (l : List Sc) (w : World) (n1 : (N : Int) = n) (n2 : N ≤ 50000) (hl : l.length = N) (hL : cs.length = 33)
    (KP : ∀ w1, Below w.heap.size w w1 → Calls Tryz.prog 31 #[.agg cs.toArray] w1 fun e w' => ∃ a1 c1 a2 c2, e = .returned (.agg #[.int .i64 n, .int .i64 f.c, .int .i64 f.r, .slice a1 f.l.length c1, .int .i64 g.c, .int .i64 g.r, .slice a2 g.l.length c2])
      ∧ InL w' a1 f.l ∧ InL w' a2 g.l ∧ Below w1.heap.size w1 w')
    (KA : ∀ (k : Nat) s a1 a2 c1 c2 w1, l[k]? = some s → InL w1 a1 f.l → InL w1 a2 g.l → Calls Tryz.prog 32 #[.agg #[.int .i64 n, .int .i64 f.c, .int .i64 f.r, .slice a1 f.l.length c1, .int .i64 g.c, .int .i64 g.r, .slice a2 g.l.length c2], .int .i64 (k : Int)] w1
      fun e w' => ∃ a c, e = .returned (.agg #[.int .i64 s.c, .int .i64 s.r, .slice a s.l.length c]) ∧ InF w1.heap.size w' a s.l ∧ Below w1.heap.size w1 w') :
    Calls Tryz.prog 12 #[.agg cs.toArray] w fun e w' => ∃ a cap, e = .returned (.slice a l.length cap) ∧ ScsA w' a l ∧ Below w.heap.size w w' := by
  have HX := Lib.hid (Bx.new w 29 cs)
  have HB := Lib.hid (up_alloc (Below.refl w.heap.size w) (.cells cs.toArray 29))
  have HL := Lib.hid hL; have HP := Lib.hid KP; have HA := Lib.hid KA; have HN := Lib.hid hl
  clear hL KP KA hl
  go_enter Tryz.func12, Tryz.ntmps12
  go_wp2_with (refine wpList_load_job rfl _ rfl w.heap.size rfl cs HX.out HL.out ?_; simp only [Act.put, List.setIfInBounds_toArray, List.set_cons_succ, List.set_cons_zero])
  refine (HP.out _ HB.out).mono ?_
  rintro e w1 ⟨a1, c1, a2, c2, rfl, hF, hE, hb⟩
  have S := Bx.new w1 47 [.int .i64 n, .int .i64 f.c, .int .i64 f.r, .slice a1 f.l.length c1, .int .i64 g.c, .int .i64 g.r, .slice a2 g.l.length c2]
  have U := up_alloc (Below.refl w1.heap.size w1) (.cells #[.int .i64 n, .int .i64 f.c, .int .i64 f.r, .slice a1 f.l.length c1, .int .i64 g.c, .int .i64 g.r, .slice a2 g.l.length c2] 47)
  have B1 := Lib.hid (up_trans (up_trans HB.out hb) U)
  have F2 := Lib.hid (hF.up U); have E2 := Lib.hid (hE.up U)
  have s0 := S.cell 0 rfl
  clear hb U hF hE
  go_wp2
  obtain ⟨w2, hw2⟩ : ∃ w2, w1.alloc (.cells #[.int .i64 n, .int .i64 f.c, .int .i64 f.r, .slice a1 f.l.length c1, .int .i64 g.c, .int .i64 g.r, .slice a2 g.l.length c2] 47) = w2 := ⟨_, rfl⟩
  rw [hw2] at S s0 B1 F2 E2 ⊢
  clear hw2 s0
  have HS := Lib.hid S
  clear S
  go_loopw [3, 10] (OfRel l N w2.heap.size w2) (fun _ i _ => N - (intOf i).toNat)
  case atStart => exact ⟨0, by omega, by go_num, Lib.hid (OwnL.nil _ _), Lib.hid (Below.refl _ _)⟩
  case round =>
    obtain ⟨k, hk, rfl, HO, HW⟩ := hrel
    by_cases hlt : k < N
    · obtain ⟨s, hs⟩ : ∃ x, l[k]? = some x := ⟨l[k]'(by rw [HN.out]; exact hlt), List.getElem?_eq_getElem _⟩
      have z0 : (0 : Int) ≤ (k : Int) := by omega
      have z1 : (k : Int) < n := by omega
      obtain ⟨av, cv, rfl, -⟩ := HO.out.tells
      have hlk : (l.take k).length = k := by rw [List.length_take, HN.out]; omega
      rw [hlk] at HO ⊢
      have htk := Lib.hid (take_next hs)
      have KK := Lib.hid (fun a1 a2 c1 c2 w1 => HA.out k s a1 a2 c1 c2 w1 hs)
      have S := HS.out.up HW.out
      have t0 := S.cell 0 rfl; have t1 := S.cell 1 rfl; have t2 := S.cell 2 rfl; have t3 := S.cell 3 rfl; have t4 := S.cell 4 rfl; have t5 := S.cell 5 rfl; have t6 := S.cell 6 rfl
      clear S hs
      go_wp2_with fail
      refine (KK.out _ _ _ _ _ (F2.out.up HW.out) (E2.out.up HW.out)).mono ?_
      rintro e w3 ⟨a, c, rfl, hFs, hb⟩
      have HO3 := Lib.hid (HO.out.up hb)
      have hbs : w2.heap.size ≤ w3.heap.size := by have := hb.size; have := HW.out.size; omega
      have HIN : Hid (InN (Value.slice av k cv).ownBlock w3 a s.l) := Lib.hid (by
        rcases hFs with h | ⟨b, off, rfl, h0, h1⟩
        · exact .inl h
        · exact .inr ⟨b, off, rfl, fun e => by have := (HO.out.block b e).2; omega, h1⟩)
      have HW3 := Lib.hid (up_trans HW.out hb)
      clear hb hFs t0 t1 t2 t3 t4 t5 t6
      go_wp2_with (at_builtin; refine wpList_append_sc rfl _ _ rfl w2.heap.size (.slice av k cv) (l.take k) rfl HO3.out hbs s a c s.l.length rfl HIN.out w3.heap.size rfl rfl ?ln ?_)
      case ln => rw [hlk]; omega
      intro g2 cap2 w4 hO4 hb4
      have HO4 := Lib.hid hO4
      have HW4 := Lib.hid (show Below w2.heap.size w2 w4 from HW3.out.trans hb4)
      clear hO4 hb4
      go_wp2
      go_roundw
      case rel => exact ⟨k + 1, by omega, by go_num, Lib.hid (by rw [htk.out]; exact HO4.out), HW4⟩
      case measure => simp [intOf]; omega
    · obtain rfl : k = N := by omega
      have hall : l.take k = l := List.take_of_length_le (by rw [HN.out]; omega)
      have h3 := HO.out
      rw [hall] at h3
      have z1 : ¬ (k : Int) < n := by omega
      obtain ⟨av, cv, rfl, hS⟩ := h3.tells
      have HSC := Lib.hid hS
      clear hall h3 hS
      go_wp2
      go_ret
      exact ⟨av, ⟨cv, rfl⟩, HSC.out, up_trans B1.out HW.out⟩
theorem spOf_any (cs : List Value) (j : Jb) (w : World) (h : JobA w cs j) (hf : WfF j) (hg : GoodM w) :
    Calls Tryz.prog 12 #[.agg cs.toArray] w fun e w' => ∃ a cap, e = .returned (.slice a (ofM j).length cap) ∧ ScsA w' a (ofM j) ∧ Below w.heap.size w w' := by
  have hc := cnt_bounds j
  have hl := of_length j
  refine spOf_core cs (cntS j) (ofM j).length (partF j) (partE j) (ofM j) w hl (of_small j) rfl h.length (fun w1 hb => spPart_any cs j w1 (h.up hb) hf (hg.below hb)) (fun k s a1 a2 c1 c2 w1 hs h1 h2 => ?_)
  have hk : k < (ofM j).length := (List.getElem?_eq_some_iff.1 hs).1
  have e := of_sig (j := j) (k := k) (by omega)
  rw [hs] at e
  injection e with e
  subst e
  exact spAtP_any j k a1 a2 c1 c2 w1 h1 h2
end Go.Proofs.YtomakbnbokaigaaGreatDoor
/- The chapter's example of split holds. -/
namespace Go.Proofs.YtomakbnbokaigaaGreatDoor
open Go.RowKit
set_option linter.unusedVariables false
set_option linter.unusedSimpArgs false

/-- The example: the usual job of 20 pages, whose last signature may be an F4-1. -/
def exJ : Jb := ⟨[98, 111, 111, 107], setN usualN 0 20, usualF, [[70, 52, 45, 49]]⟩
theorem ex_count : (ofM exJ).length = 3 := by decide +kernel
theorem ex_leaves : leavesS exJ = 10 := by decide +kernel
theorem ex_blanks : blanksS exJ = 0 := by decide +kernel
theorem ex_folds : foldsM exJ = true := by decide +kernel
theorem ex_last : lastM exJ = true := by decide +kernel

theorem sz_setCells (b : Nat) : ∀ (vs : List Value) (o : Nat) (w : World), (w.setCells b o vs).heap.size = w.heap.size
  | [], _, _ => rfl
  | v :: r, o, w => by rw [World.setCells, sz_setCells b r]; simp
theorem jobA_ex {w w' : World} {B : Nat} {cs : List Value} (h : JobA w cs usualJ) (hB : w.heap.size ≤ B) (hk : ∀ p : Addr, p.block ≠ B → ∀ v, w.cell? p = some v → w'.cell? p = some v) (g : Nat) (hg : w'.cell? ⟨g, 0, none⟩ = some (.string ⟨#[70, 52, 45, 49]⟩)) :
    JobA w' ((cs.set 1 (.int .i64 20)).set 15 (.slice (some ⟨g, 0, none⟩) 1 1)) exJ := by
  obtain ⟨a, c, a', c', rfl, h1, h2⟩ := h
  refine ⟨a, c, some ⟨g, 0, none⟩, 1, rfl, (h1.liG.keep (B := B) (by omega) hk).inL, .inr ⟨g, 0, rfl, ?_, by decide, by decide⟩⟩
  intro i l hi
  match i, hi with
  | 0, hi =>
    cases hi
    exact hg

set_option maxRecDepth 100000 in
set_option maxHeartbeats 1000000 in
theorem spAliveL_any (w : World) (hg : GoodM w) : Calls Tryz.prog 6 #[] w fun e w' => e = .returned (.bool true) ∧ Below w.heap.size w w' := by
  have HU := Lib.hid (refUsual_any w)
  have HG := Lib.hid hg
  clear hg
  go_enter Tryz.func6, Tryz.ntmps6
  go_wp2_with fail
  refine HU.out.mono ?_
  rintro e w1 ⟨cs, rfl, hJ, hb⟩
  have hl := hJ.jobA.length
  have HL := Lib.hid hl
  have H1 := Lib.hid hJ.jobA.one
  have HZ := Lib.hid (Bx.new w1 29 zeroL)
  have HJ := Lib.hid hJ.jobA
  have HB := Lib.hid (up_alloc hb (.cells zeroL.toArray 29))
  have HS := Lib.hid (World.size_alloc w1 (.cells zeroL.toArray 29))
  have HK := Lib.hid (show ∀ p : Addr, p.block ≠ w1.heap.size → ∀ v, w1.cell? p = some v → (w1.alloc (.cells zeroL.toArray 29)).cell? p = some v from fun p _ v hv => bl_cell (up_alloc (Below.refl _ w1) _) hv)
  have hlow := hb.size
  have hC1 := hJ.jobA.num (k := 0) (by decide)
  have hC15 : ∃ v, cs[15]? = some v := by
    obtain ⟨a, c, a', c', h12, h13, h14, h15, -⟩ := hJ.jobA.cells
    exact ⟨_, h15⟩
  obtain ⟨v15, hC15⟩ := hC15
  have HC15 := Lib.hid hC15; have HC1 := Lib.hid hC1
  have hl1 : (cs.set 1 (.int .i64 20)).length = 33 := by rw [List.length_set]; exact hl
  have hl5 : ∀ v, ((cs.set 1 (.int .i64 20)).set 15 v).length = 33 := fun v => by rw [List.length_set]; exact hl1
  have HL1 := Lib.hid hl1; have HL5 := Lib.hid hl5
  clear hJ hl hb hC1 hC15 hl1 hl5
  go_wp2_with (first
    | (refine wpList_alloc_to rfl 29 rfl _ _ (job_alloc _) ?_; simp only [Act.put, List.setIfInBounds_toArray, List.set_cons_succ, List.set_cons_zero]; obtain ⟨w2, hw2⟩ : ∃ w2, w1.alloc (.cells zeroL.toArray 29) = w2 := ⟨_, rfl⟩; rw [hw2] at HZ HB HS HK ⊢; clear hw2)
    | (refine wpList_store_job rfl _ _ rfl w1.heap.size rfl zeroL cs rfl HZ.out rfl HL.out H1.out ?_; simp only [Act.put]; have X3 := HZ.out.sets (ws := cs) (by rw [HL.out]; rfl); have B3 := below_setCells (show w.heap.size ≤ w1.heap.size from hlow) cs 0 _ HB.out; have K3 := (fun (p : Addr) (hp : p.block ≠ w1.heap.size) v hv => keep_sets _ w1.heap.size 0 cs p hp v (HK.out p hp v hv)); have S3 : (w2.setCells w1.heap.size 0 cs).heap.size = w1.heap.size + 1 := by { rw [sz_setCells]; exact HS.out }; obtain ⟨w3, hw3⟩ : ∃ w3, w2.setCells w1.heap.size 0 cs = w3 := ⟨_, rfl⟩; rw [hw3] at X3 B3 K3 S3 ⊢; clear hw3; have c1 := X3.cell 1 HC1.out; have f3 := X3.free; have X4 := (X3.set 1 (.int .i64 20)).later (by rw [HL1.out]; decide) (up_alloc (Below.refl _ _) (.cells #[.string ⟨#[70, 52, 45, 49]⟩] 9)); have c15 := X4.cell 15 (by rw [List.getElem?_set_ne (by decide)]; exact HC15.out); have f4 := X4.free; have HX5 := Lib.hid (X4.set 15 (.slice (some ⟨w3.heap.size, 0, none⟩) 1 1)); have HX3 := Lib.hid X3; have HB3 := Lib.hid B3; have HK3 := Lib.hid K3; have HS3 := Lib.hid S3; clear X3 X4 B3 K3 S3)
    | (refine wpList_load_job rfl _ rfl w1.heap.size rfl _ HX5.out (HL5.out _) ?_; simp only [Act.put, List.setIfInBounds_toArray, List.set_cons_succ, List.set_cons_zero]))
  have hA5 := jobA_ex (w' := ((w3.setCell ⟨w1.heap.size, 1, none⟩ (.int .i64 20)).alloc (.cells #[.string ⟨#[70, 52, 45, 49]⟩] 9)).setCell ⟨w1.heap.size, 15, none⟩ (.slice (some ⟨w3.heap.size, 0, none⟩) 1 1)) (B := w1.heap.size) HJ.out (Nat.le_refl _) (fun p hp v hv => ?k1) w3.heap.size ?k2
  case k1 =>
    rw [World.cell?_setCell_far _ _ _ _ (by simp only; exact Ne.symm hp)]
    exact bl_cell (up_alloc (Below.refl _ _) _) ((World.cell?_setCell_far _ _ _ _ (by simp only; exact Ne.symm hp)).trans (HK3.out p hp v hv))
  case k2 =>
    have hne : w1.heap.size ≠ w3.heap.size := by have := HS3.out; omega
    have N := Bx.new (w3.setCell ⟨w1.heap.size, 1, none⟩ (.int .i64 20)) 9 [.string ⟨#[70, 52, 45, 49]⟩]
    rw [World.size_setCell] at N
    exact (N.far (p := ⟨w1.heap.size, 15, none⟩) hne _).cell 0 rfl
  have hB5 : Below w.heap.size w (((w3.setCell ⟨w1.heap.size, 1, none⟩ (.int .i64 20)).alloc (.cells #[.string ⟨#[70, 52, 45, 49]⟩] 9)).setCell ⟨w1.heap.size, 15, none⟩ (.slice (some ⟨w3.heap.size, 0, none⟩) 1 1)) := up_set (up_alloc (up_set HB3.out (p := ⟨w1.heap.size, 1, none⟩) hlow _) _) (p := ⟨w1.heap.size, 15, none⟩) hlow _
  have hl5 := HL5.out (.slice (some ⟨w3.heap.size, 0, none⟩) 1 1)
  have hX5 := HX5.out
  clear c1 f3 c15 f4 HX5 HX3 HB3 HK3 HL5 HL1
  generalize ((cs.set 1 (.int .i64 20)).set 15 (.slice (some ⟨w3.heap.size, 0, none⟩) 1 1)) = ds at *
  generalize (((w3.setCell ⟨w1.heap.size, 1, none⟩ (.int .i64 20)).alloc (.cells #[.string ⟨#[70, 52, 45, 49]⟩] 9)).setCell ⟨w1.heap.size, 15, none⟩ (.slice (some ⟨w3.heap.size, 0, none⟩) 1 1)) = w5 at *
  have HA5 := Lib.hid hA5; have HB5 := Lib.hid hB5; have HX5 := Lib.hid hX5; have HL5 := Lib.hid hl5
  have hf : WfF exJ := ⟨by decide, by decide⟩
  clear hA5 hB5 hl5 hX5
  refine (spOf_any ds exJ _ HA5.out hf (HG.out.below HB5.out)).mono ?_
  rintro e w6 ⟨a6, c6, rfl, -, hb⟩
  rw [ex_count]
  have HX6 := Lib.hid (HX5.out.later (by rw [HL5.out]; decide) hb)
  have HA6 := Lib.hid (HA5.out.up hb)
  have HB6 := Lib.hid (up_trans HB5.out hb)
  clear hb
  go_wp2_with (refine wpList_load_job_want _ rfl rfl w1.heap.size rfl ds HX6.out HL5.out ?_; simp only [Act.put, List.setIfInBounds_toArray, List.set_cons_succ, List.set_cons_zero])
  refine (spLeaves_any ds exJ _ HA6.out hf (HG.out.below HB6.out)).mono ?_
  rw [ex_leaves]
  rintro e w7 ⟨rfl, hb⟩
  have HX7 := Lib.hid (HX6.out.later (by rw [HL5.out]; decide) hb)
  have HA7 := Lib.hid (HA6.out.up hb)
  have HB7 := Lib.hid (up_trans HB6.out hb)
  clear hb
  go_wp2_with (refine wpList_load_job_want _ rfl rfl w1.heap.size rfl ds HX7.out HL5.out ?_; simp only [Act.put, List.setIfInBounds_toArray, List.set_cons_succ, List.set_cons_zero])
  refine (spBlanks_any ds exJ _ HA7.out hf (HG.out.below HB7.out)).mono ?_
  rw [ex_blanks]
  rintro e w8 ⟨rfl, hb⟩
  have HX8 := Lib.hid (HX7.out.later (by rw [HL5.out]; decide) hb)
  have HA8 := Lib.hid (HA7.out.up hb)
  have HB8 := Lib.hid (up_trans HB7.out hb)
  clear hb
  go_wp2_with (refine wpList_load_job_want _ rfl rfl w1.heap.size rfl ds HX8.out HL5.out ?_; simp only [Act.put, List.setIfInBounds_toArray, List.set_cons_succ, List.set_cons_zero])
  refine (spFolds_any ds exJ _ HA8.out hf).mono ?_
  rw [ex_folds]
  rintro e w9 ⟨rfl, hb⟩
  have HX9 := Lib.hid (HX8.out.later (by rw [HL5.out]; decide) hb)
  have HA9 := Lib.hid (HA8.out.up hb)
  have HB9 := Lib.hid (up_trans HB8.out hb)
  clear hb
  go_wp2_with (refine wpList_load_job_want _ rfl rfl w1.heap.size rfl ds HX9.out HL5.out ?_; simp only [Act.put, List.setIfInBounds_toArray, List.set_cons_succ, List.set_cons_zero])
  refine (spLast_any ds exJ _ HA9.out hf (HG.out.below HB9.out)).mono ?_
  rw [ex_last]
  rintro e w10 ⟨rfl, hb⟩
  have HB10 := Lib.hid (up_trans HB9.out hb)
  clear hb
  go_wp2
  go_ret
  exact ⟨rfl, HB10.out⟩
end Go.Proofs.YtomakbnbokaigaaGreatDoor
/- What scheme.Names and scheme.Name answer: all names, in order; the first name of any scheme. -/
namespace Go.Proofs.YtomakbnbokaigaaGreatDoor
open Go.RowKit Go.Shelf
set_option linter.unusedVariables false
attribute [local go_sem] Oper.semAt_some

/-- The names that have come, as cells. -/
def namesV (pre : List CatE) : List Value := pre.map fun e => .string (tx e.1.1)
theorem namesV_snoc (pre : List CatE) (x : CatE) : namesV (pre ++ [x]) = namesV pre ++ [.string (tx x.1.1)] := by simp [namesV]
def namesL : List (List UInt8) := catS.map Prod.fst
theorem namesV_all : namesV catL = namesL.map fun l => .string (tx l) := by
  unfold namesV namesL catL
  rw [List.map_map]
  have : (fun e : CatE => Value.string (tx e.1.1)) = (fun e : List UInt8 × Sc => Value.string (tx e.1)) ∘ Subtype.val := rfl
  rw [this, ← List.map_map, List.attach_map_subtype_val]
  rfl
theorem cell_one (w : World) (x : Value) (t : TypeId) : ∀ j u, [x][j]? = some u → (w.alloc (.cells #[x] t)).cell? ((⟨w.heap.size, 0, none⟩ : Addr).add j) = some u := by
  intro j u hj
  match j, hj with
  | 0, hj => simp at hj; subst hj; simp [Addr.add]
  | j + 1, hj => simp at hj

/-- A scheme's first name; empty: it has none. -/
def nameT (s : Sc) : ByteArray := match nameM s with
  | some n => tx n
  | none => ⟨#[]⟩
theorem told_eq (s : Sc) (x : CatE) : ((tx (textE x)).toList == (tellT s).toList) = decide (x.1.2 = s) := by
  have hx := cat_told x.1 x.2
  have ht : textE x = headT x.1.2 ++ tailT x.1.2.l := joinM_parts _
  unfold tellT
  split
  · rename_i hs
    rw [tx_same, ht, Bool.eq_iff_iff, decide_eq_true_eq, decide_eq_true_eq]
    exact ⟨fun e => tell_inj hx hs e, fun e => by rw [e]⟩
  · rename_i hs
    rw [show (⟨#[]⟩ : ByteArray) = tx [] from rfl, tx_same, Bool.eq_iff_iff, decide_eq_true_eq, decide_eq_true_eq, ht]
    constructor
    · intro e; simp [headT] at e
    · intro e; rw [e] at hx; exact absurd hx hs

theorem name_own (c' : Code) (s : Sc) (w : World) (B : Nat) (hB : w.heap.size ≤ B) : OwnFrom B (fun (_ : List CatE) W => c' = .ret ∧ ∃ n : List UInt8, nameM s = some n ∧ W.cell? ⟨w.heap.size + 1, 0, none⟩ = some (.string (tx n)) ∧ W.cell? ⟨w.heap.size + 1 + 1, 0, none⟩ = some (.bool true) ∧ Below w.heap.size w W) := by
  rintro _ W W' row ⟨e, n, h1, h2, h3, h5⟩ hg hr
  have hr' : ∀ r, row = some r → ∃ o : Obj, W.heap[r]? = some o ∧ o.isCells = false := fun r e => (hr r e).2
  exact ⟨e, n, h1, cell_kept h2 hg hr', cell_kept h3 hg hr', h5.grown hg h5.size (fun k e => by have := (hr k e).1; omega)⟩

end Go.Proofs.YtomakbnbokaigaaGreatDoor
/- What the small calls of package lex, the library's Clone and the document's own seen and Same answer. -/
namespace Go.Proofs.YtomakbnbokaigaaGreatDoor
open Go.RowKit
set_option linter.unusedVariables false

theorem seen_eq (c : UInt8) : seenB c = (decide ((32 : Int) ≤ (c.toNat : Int)) && decide ((c.toNat : Int) ≤ 126)) := by
  unfold seenB
  rw [Bool.eq_iff_iff]
  simp
  omega
theorem refSeen_any (c : UInt8) (w : World) : Calls Tryz.prog 70 #[.int .u8 (c.toNat : Int)] w fun e w' => e = .returned (.bool (seenB c)) ∧ w = w' := by
  rw [seen_eq]
  generalize (c.toNat : Int) = x at *
  obtain ⟨b1, h1⟩ : ∃ b, decide ((32 : Int) ≤ x) = b := ⟨_, rfl⟩
  obtain ⟨b2, h2⟩ : ∃ b, decide (x ≤ (126 : Int)) = b := ⟨_, rfl⟩
  rw [h1, h2]
  cases b1 <;> cases b2
  all_goals
    go_enter Tryz.func70, Tryz.ntmps70
    go_wp2
    go_ret
    exact ⟨rfl, rfl⟩
/-- A text of no octet, or one. -/
theorem toList_none (l : List UInt8) : ((tx l).toList == []) = decide (l = []) := by rw [tx_toList, Bool.eq_iff_iff]; simp

/-- What a call answers that makes a list of texts. -/
def GivesT (base : Nat) (ls : List (List UInt8)) (w : World) (e : Ending) (w' : World) : Prop := ∃ v, e = .returned v ∧ rowT w' base v ls ∧ Below base w w'
end Go.Proofs.YtomakbnbokaigaaGreatDoor
/- What lex's take and Fields answer. -/
namespace Go.Proofs.YtomakbnbokaigaaGreatDoor
open Go.RowKit
set_option linter.unusedVariables false

theorem Bx.keptB {w w' : World} {B : Nat} {vs : List Value} (h : Bx w B vs) (hb : w'.heap[B]? = w.heap[B]?) : Bx w' B vs :=
  ⟨fun j v hj => (World.cell?_of_block (a := ⟨B, j, none⟩) hb).trans (h.1 j v hj), fun j => by
    have := h.2 j
    unfold World.frozen? at this ⊢
    rw [hb]
    exact this⟩
/-- But for the block B, all is as it was. -/
def Only (B : Nat) (w w' : World) : Prop := Below B w w' ∧ w'.heap.size = w.heap.size ∧ ∀ k, k ≠ B → w'.heap[k]? = w.heap[k]?
theorem only_refl (B : Nat) (w : World) : Only B w w := ⟨Below.refl _ _, rfl, fun _ _ => rfl⟩
theorem only_set (B o : Nat) (w : World) (v : Value) : Only B w (w.setCell ⟨B, o, none⟩ v) := ⟨(Below.refl B w).setCell (p := ⟨B, o, none⟩) (Nat.le_refl _) v, by simp [World.setCell], fun k hk => Below.heap_setCell _ _ _ _ hk⟩

/-- What take makes of the two truths. -/
def TookQ (B : Nat) (wi fr : Bool) (w : World) (e : Ending) (w' : World) : Prop := e = .returned (.tuple #[]) ∧ Bx w' B [.bool wi, .bool fr] ∧ Only B w w'
theorem oct92 (c : UInt8) : ((c.toNat : Int) == 92) = (c == 92) := oct_eq c 92
theorem oct34 (c : UInt8) : ((c.toNat : Int) == 34) = (c == 34) := oct_eq c 34
theorem oct35 (c : UInt8) : ((c.toNat : Int) == 35) = (c == 35) := oct_eq c 35
theorem oct_apart (c : UInt8) : ¬ ((c == 92) = true ∧ (c == 34) = true) := by
  rintro ⟨h1, h2⟩
  simp at h1 h2
  rw [h1] at h2
  exact absurd h2 (by decide)
/-- What a call answers that tells fields apart. -/
def GivesF (F : Option (List (List UInt8))) (w : World) (e : Ending) (w' : World) : Prop := ∃ v, e = .returned (.tuple #[v, .bool F.isSome]) ∧ TxS w' v (F.getD []) ∧ Below w.heap.size w w'

/-- The same; the list is the call's own. -/
def GivesFR (F : Option (List (List UInt8))) (w : World) (e : Ending) (w' : World) : Prop := ∃ v, e = .returned (.tuple #[v, .bool F.isSome]) ∧ rowT w' (w.heap.size + 1) v (F.getD []) ∧ Below w.heap.size w w'

def FieldsRel (s : ByteArray) (w : World) (F : Option (List (List UInt8))) (l f n i : Value) (wr : World) : Prop :=
  n = .int .i64 (s.size : Int) ∧ ∃ (k from_ : Nat) (out : List (List UInt8)) (wi fr : Bool), k ≤ s.size ∧ from_ ≤ k ∧ out.length ≤ k ∧ i = .int .i64 (k : Int) ∧ f = .int .i64 (from_ : Int) ∧ rowT wr (w.heap.size + 1) l out ∧ Bx wr w.heap.size [.bool wi, .bool fr] ∧ Below w.heap.size w wr ∧ w.heap.size + 1 ≤ wr.heap.size ∧
    (wi = false → fr = false) ∧ fieldsM (s.data.toList.drop k) out ((s.data.toList.take k).drop from_) wi fr = F

theorem ret_fields {v : Value} {F G : Option (List (List UInt8))} {b : Bool} (h : F = G) (hb : F.isSome = b) : Ending.returned (.tuple #[v, .bool b]) = .returned (.tuple #[v, .bool G.isSome]) := by rw [← h, hb]

end Go.Proofs.YtomakbnbokaigaaGreatDoor
/- What the document's own Fields answers. -/
namespace Go.Proofs.YtomakbnbokaigaaGreatDoor
open Go.RowKit
set_option linter.unusedVariables false

def RefFieldsRel (s : ByteArray) (w : World) (F : Option (List (List UInt8))) (o p a b i : Value) (wr : World) : Prop :=
  ∃ (k : Nat) (out : List (List UInt8)) (cur : List UInt8) (wi fr : Bool), k ≤ s.size ∧ cur.length ≤ k ∧ out.length ≤ k ∧ i = .int .i64 (k : Int) ∧ p = .string (tx cur) ∧ a = .bool wi ∧ b = .bool fr ∧ rowT wr w.heap.size o out ∧ Below w.heap.size w wr ∧
    (wi = false → fr = false) ∧ fieldsM (s.data.toList.drop k) out cur wi fr = F

theorem one_octet {s : ByteArray} {k : Nat} (h : k < s.size) : s.extract k (k + 1) = tx [s[k]] := by
  rw [tx_extract, cur_octet (Nat.le_refl _) h, cur_none]
  rfl
theorem add_octet (cur : List UInt8) (c : UInt8) : tx cur ++ tx [c] = tx (cur ++ [c]) := tx_append _ _
theorem slice_one {s : ByteArray} {k : Nat} (h : k < s.size) (hs : s.size ≤ 999999) (w : World) : (Instr.slice 9 (.string s) (some (.int .i64 (k : Int))) (some (.int .i64 ((k : Int) + 1))) none).run Tryz.prog w = .ok (.string (tx [s[k]])) w := by
  rw [run_slice_string_if w 9 s .i64 .i64 _ _ Tryz.underlying9, if_pos (by omega), if_pos (by omega), ← one_octet h]
  simp

theorem oct32 (c : UInt8) : ((c.toNat : Int) == 32) = (c == 32) := oct_eq c 32
theorem oct9 (c : UInt8) : ((c.toNat : Int) == 9) = (c == 9) := oct_eq c 9

set_option maxRecDepth 100000 in
set_option maxHeartbeats 2000000 in
theorem refFields_any (s : ByteArray) (w : World) (hs : s.size ≤ 999999) :
    Calls Tryz.prog 58 #[.string s] w (GivesF (fieldsL s.data.toList) w) := by
  obtain ⟨F, hF0⟩ : ∃ F, fieldsL s.data.toList = F := ⟨_, rfl⟩
  have HF0 := Lib.hid hF0
  rw [hF0]
  clear hF0
  go_enter Tryz.func58, Tryz.ntmps58
  go_wp2
  go_loopw [4, 5, 6, 7, 8] (fun o p a b i wr => RefFieldsRel s w F o p a b i wr) (fun _ _ _ _ i _ => s.size - (intOf i).toNat)
  case atStart =>
    refine ⟨0, [], [], false, false, Nat.zero_le _, Nat.le_refl _, Nat.le_refl _, rfl, rfl, rfl, rfl, rowT_nil _ _, Below.refl _ _, fun _ => rfl, ?_⟩
    rw [← HF0.out]
    rfl
  case round =>
    obtain ⟨k, out, cur, wi, fr, hk, hcur, ho, rfl, rfl, rfl, rfl, hrow, hb, hwf, hF⟩ := hrel
    have HR := Lib.hid hrow; have HB := Lib.hid hb; have HF := Lib.hid hF; have HW := Lib.hid hwf
    clear hrow hb hF hwf
    have eP := toList_none cur
    have hPz : (tx cur).size ≤ 999999 := by rw [tx_size]; omega
    by_cases hlt : k < s.size
    · have z1 : (k : Int) < (s.size : Int) := by omega
      have DO := Lib.hid (drop_octet hlt)
      have hsl := slice_one hlt hs
      obtain ⟨c, hc⟩ : ∃ c, s[k] = c := ⟨_, rfl⟩
      rw [hc] at DO hsl
      have hx : ((s[k].toNat : Nat) : Int) = (c.toNat : Int) := by rw [hc]
      clear hc
      have hadd := add_octet cur c
      have hqz : (tx [c]).size ≤ 1 := by rw [tx_size]; exact Nat.le_refl _
      have HX := Lib.hid (rfl : tx (cur ++ [c]) = tx (cur ++ [c]))
      obtain ⟨R, hR⟩ : ∃ R, tx (cur ++ [c]) = R := ⟨_, rfl⟩
      rw [hR] at hadd
      have HRR := Lib.hid hR
      obtain ⟨P, hP⟩ : ∃ P, tx cur = P := ⟨_, rfl⟩
      have HPP := Lib.hid hP
      rw [hP] at hadd hPz eP
      rw [hP]
      clear hP hR HX
      generalize tx [c] = q at *
      have KS := fun w => refSeen_any c w
      have e35 := oct35 c; have e34 := oct34 c; have e92 := oct92 c; have e32 := oct32 c; have e9 := oct9 c
      generalize (c.toNat : Int) = x at *
      cases wi
      · obtain rfl := HW.out rfl
        cases hbl : blankB c
        · have hbl2 := hbl
          unfold blankB at hbl2
          rw [Bool.or_eq_false_iff] at hbl2
          rw [hbl2.1] at e32; rw [hbl2.2] at e9
          by_cases h35 : c = 35
          · have HH := Lib.hid HF.out
            rw [DO.out, h35, f_stop] at HH
            have e1 : (x == 35) = true := by rw [e35, h35]; rfl
            by_cases hcn : cur = []
            · rw [decide_eq_true hcn] at eP
              rw [hcn, addF_nil] at HH
              clear KS e35 e34 e92 hbl hbl2 hcn h35
              go_wp2
              go_ret2
              refine ⟨_, ret_fields HH.out rfl, ?_, HB.out⟩
              rw [← HH.out]
              exact HR.out.texts
            · rw [decide_eq_false hcn] at eP
              rw [addF_some hcn] at HH
              clear KS e35 e34 e92 hbl hbl2 hcn h35
              go_wp2_with (at_builtin; refine wpList_append_text rfl _ _ rfl w.heap.size _ out rfl HR.out ?c1 _ cur HPP.out.symm rfl ?c2 ?_)
              case c1 => exact HB.out.size
              case c2 => omega
              intro v1 w2 h1 hb2
              have H1 := Lib.hid h1; have HB2 := Lib.hid hb2
              clear h1 hb2
              go_wp2
              go_ret2
              refine ⟨_, ret_fields HH.out rfl, ?_, HB.out.trans HB2.out⟩
              rw [← HH.out]
              exact H1.out.texts
          · have e1 : (x == 35) = false := by rw [e35]; simpa using h35
            cases hse : seenB c
            · rw [hse] at KS
              have HKS := Lib.hid KS
              have HH := Lib.hid HF.out
              rw [DO.out, f_out_bad _ _ _ _ hbl h35 hse] at HH
              clear KS e35 e34 e92 hbl hbl2 hse
              go_wp2_with (go_at_call 70; refine (HKS.out _).mono ?_; rintro e w' ⟨rfl, rfl⟩)
              go_ret2
              refine ⟨_, ret_fields HH.out rfl, ?_, HB.out⟩
              rw [← HH.out]
              exact TxS.nil _
            · rw [hse] at KS
              have HKS := Lib.hid KS
              have HH := Lib.hid HF.out
              rw [DO.out, f_out _ _ _ _ hbl h35 hse] at HH
              generalize (c == 34) = b34 at *
              clear KS e35 e92 hbl hbl2 hse
              go_wp2_with (go_at_call 70; refine (HKS.out _).mono ?_; rintro e w' ⟨rfl, rfl⟩)
              go_roundw
              case rel => exact ⟨k + 1, out, cur ++ [c], b34, false, by omega, by simp; omega, by omega, by go_num, by rw [HRR.out], rfl, rfl, HR.out, HB.out, fun _ => rfl, HH.out⟩
              case measure => simp [intOf]; omega
        · have HH := Lib.hid HF.out
          rw [DO.out, f_blank _ _ _ _ hbl] at HH
          unfold blankB at hbl
          generalize (c == 32) = b32 at *
          generalize (c == 9) = b9 at *
          clear KS e35 e34 e92
          by_cases hcn : cur = []
          · rw [decide_eq_true hcn] at eP
            rw [hcn, addF_nil] at HH
            clear hcn
            cases b32 <;> cases b9
            · cases hbl
            all_goals
              go_wp2
              go_roundw
              case rel => exact ⟨k + 1, out, [], false, false, by omega, by simp, by omega, by go_num, rfl, rfl, rfl, HR.out, HB.out, fun _ => rfl, HH.out⟩
              case measure => simp [intOf]; omega
          · rw [decide_eq_false hcn] at eP
            rw [addF_some hcn] at HH
            clear hcn
            cases b32 <;> cases b9
            · cases hbl
            all_goals
              go_wp2_with (at_builtin; refine wpList_append_text rfl _ _ rfl w.heap.size _ out rfl HR.out HB.out.size _ cur HPP.out.symm rfl (by omega) ?_)
              intro v1 w2 h1 hb2
              have H1 := Lib.hid h1; have HB2 := Lib.hid hb2
              clear h1 hb2
              go_wp2
              go_roundw
              case rel => exact ⟨k + 1, out ++ [cur], [], false, false, by omega, by simp, by simp; omega, by go_num, rfl, rfl, rfl, H1.out, HB.out.trans HB2.out, fun _ => rfl, HH.out⟩
              case measure => simp [intOf]; omega
      · cases hse : seenB c
        · rw [hse] at KS
          have HKS := Lib.hid KS
          have HH := Lib.hid HF.out
          rw [DO.out, f_in_bad _ _ _ _ hse] at HH
          clear KS e35 e34 e92 e32 e9 hse
          go_wp2_with (go_at_call 70; refine (HKS.out _).mono ?_; rintro e w' ⟨rfl, rfl⟩)
          go_ret2
          refine ⟨_, ret_fields HH.out rfl, ?_, HB.out⟩
          rw [← HH.out]
          exact TxS.nil _
        · rw [hse] at KS
          have HKS := Lib.hid KS
          have HH := Lib.hid HF.out
          rw [DO.out, f_in _ _ _ _ hse, show (c != 34) = !(c == 34) from rfl] at HH
          have hap := oct_apart c
          generalize (c == 34) = b34 at *
          generalize (c == 92) = b92 at *
          clear KS e35 e32 e9 hse
          have n34 : (x != 34) = !b34 := by rw [← e34]; rfl
          cases fr
          · cases b34 <;> cases b92
            · go_wp2_with (go_at_call 70; refine (HKS.out _).mono ?_; rintro e w' ⟨rfl, rfl⟩)
              go_roundw
              case rel => exact ⟨k + 1, out, cur ++ [c], true, false, by omega, by simp; omega, by omega, by go_num, by rw [HRR.out], rfl, rfl, HR.out, HB.out, fun _ => rfl, HH.out⟩
              case measure => simp [intOf]; omega
            · go_wp2_with (go_at_call 70; refine (HKS.out _).mono ?_; rintro e w' ⟨rfl, rfl⟩)
              go_roundw
              case rel => exact ⟨k + 1, out, cur ++ [c], true, true, by omega, by simp; omega, by omega, by go_num, by rw [HRR.out], rfl, rfl, HR.out, HB.out, (fun h => by cases h), HH.out⟩
              case measure => simp [intOf]; omega
            · go_wp2_with (go_at_call 70; refine (HKS.out _).mono ?_; rintro e w' ⟨rfl, rfl⟩)
              go_roundw
              case rel => exact ⟨k + 1, out, cur ++ [c], false, false, by omega, by simp; omega, by omega, by go_num, by rw [HRR.out], rfl, rfl, HR.out, HB.out, fun _ => rfl, HH.out⟩
              case measure => simp [intOf]; omega
            · exact absurd ⟨rfl, rfl⟩ hap
          · clear e34 e92 hap n34
            go_wp2_with (go_at_call 70; refine (HKS.out _).mono ?_; rintro e w' ⟨rfl, rfl⟩)
            go_roundw
            case rel => exact ⟨k + 1, out, cur ++ [c], true, false, by omega, by simp; omega, by omega, by go_num, by rw [HRR.out], rfl, rfl, HR.out, HB.out, fun _ => rfl, HH.out⟩
            case measure => simp [intOf]; omega
    · obtain rfl : k = s.size := by omega
      have HH := Lib.hid HF.out
      rw [List.drop_of_length_le (by rw [size_data]; exact Nat.le_refl _)] at HH
      by_cases hcn : cur = []
      · rw [decide_eq_true hcn] at eP
        have HC := Lib.hid hcn
        clear hcn
        generalize tx cur = P at *
        cases wi
        · rw [f_end, HC.out, addF_nil] at HH
          go_wp2
          go_ret2
          refine ⟨_, ret_fields HH.out rfl, ?_, HB.out⟩
          rw [← HH.out]
          exact HR.out.texts
        · rw [f_open] at HH
          go_wp2
          go_ret2
          refine ⟨_, ret_fields HH.out rfl, ?_, HB.out⟩
          rw [← HH.out]
          exact TxS.nil _
      · rw [decide_eq_false hcn] at eP
        obtain ⟨P, hP⟩ : ∃ P, tx cur = P := ⟨_, rfl⟩
        have HPP := Lib.hid hP
        have HC := Lib.hid hcn
        rw [hP] at eP hPz
        rw [hP]
        clear hP hcn
        cases wi
        · rw [f_end, addF_some HC.out] at HH
          go_wp2_with (at_builtin; refine wpList_append_text rfl _ _ rfl w.heap.size _ out rfl HR.out HB.out.size _ cur HPP.out.symm rfl (by omega) ?_)
          intro v1 w2 h1 hb2
          have H1 := Lib.hid h1; have HB2 := Lib.hid hb2
          clear h1 hb2
          go_wp2
          go_ret2
          refine ⟨_, ret_fields HH.out rfl, ?_, HB.out.trans HB2.out⟩
          rw [← HH.out]
          exact H1.out.texts
        · rw [f_open] at HH
          go_wp2_with (at_builtin; refine wpList_append_text rfl _ _ rfl w.heap.size _ out rfl HR.out HB.out.size _ cur HPP.out.symm rfl (by omega) ?_)
          intro v1 w2 h1 hb2
          have H1 := Lib.hid h1; have HB2 := Lib.hid hb2
          clear h1 hb2
          go_wp2
          go_ret2
          refine ⟨_, ret_fields HH.out rfl, ?_, HB.out.trans HB2.out⟩
          rw [← HH.out]
          exact TxS.nil _
end Go.Proofs.YtomakbnbokaigaaGreatDoor
/- What the document's own Text and Step answer: of a right step its text; of any text its step. -/
namespace Go.Proofs.YtomakbnbokaigaaGreatDoor
open Go.RowKit DecMath
set_option linter.unusedVariables false

theorem refStep_short (t : ByteArray) (w : World) (h : t.size < 2) :
    Calls Tryz.prog 48 #[.string t] w fun e w' => e = .returned (.tuple #[.agg #[.int .i64 0, .int .i64 0, .bool false], .bool false]) ∧ Below w.heap.size w w' := by
  have z1 : (t.size : Int) < 2 := by omega
  go_enter Tryz.func48, Tryz.ntmps48
  go_wp2
  refine bodyPost_ret (v := .tuple #[.agg #[.int .i64 0, .int .i64 0, .bool false], .bool false]) (by simp [results, Tryz.results48, go_sem]) rfl ⟨rfl, ?_⟩
  repeat (first | (with_reducible exact Below.refl _ _) | (with_reducible apply up_alloc) | (with_reducible refine up_set ?_ (by simp only; omega) _))

theorem lr0 : (((⟨#[76, 82, 66, 84]⟩ : ByteArray)[0].toNat : Nat) : Int) = 76 := rfl
theorem lr1 : (((⟨#[76, 82, 66, 84]⟩ : ByteArray)[1].toNat : Nat) : Int) = 82 := rfl
theorem lr2 : (((⟨#[76, 82, 66, 84]⟩ : ByteArray)[2].toNat : Nat) : Int) = 66 := rfl
theorem lr3 : (((⟨#[76, 82, 66, 84]⟩ : ByteArray)[3].toNat : Nat) : Int) = 84 := rfl

set_option maxRecDepth 100000 in
set_option maxHeartbeats 2000000 in
theorem refStep_core (t r g : ByteArray) (x y s n : Int) (k f u : Bool) (w : World) (t0 : 2 ≤ t.size) (t1 : t.size ≤ 9223372036854775807) (hx : ((t[0].toNat : Nat) : Int) = x)
    (hs : ((x == 76) = true ∧ (x == 82) = false ∧ (x == 66) = false ∧ (x == 84) = false ∧ s = 1) ∨ ((x == 76) = false ∧ (x == 82) = true ∧ (x == 66) = false ∧ (x == 84) = false ∧ s = 2) ∨ ((x == 76) = false ∧ (x == 82) = false ∧ (x == 66) = true ∧ (x == 84) = false ∧ s = 3) ∨ ((x == 76) = false ∧ (x == 82) = false ∧ (x == 66) = false ∧ (x == 84) = true ∧ s = 4) ∨ ((x == 76) = false ∧ (x == 82) = false ∧ (x == 66) = false ∧ (x == 84) = false ∧ s = 0))
    (hr : t.extract 1 t.size = r) (r0 : 1 ≤ r.size) (r1 : r.size ≤ 9223372036854775807) (F : Sp × Bool) (hF : (if k = true ∧ f = true then ((⟨s, n, u⟩ : Sp), true) else (⟨0, 0, false⟩, false)) = F)
    (hu : ((r[r.size - 1].toNat : Nat) : Int) = y) (hy : (y == 117) = u) (hg : (u = true ∧ r.extract 0 (r.size - 1) = g) ∨ (u = false ∧ r = g))
    (KD : ∀ w, Calls Tryz.prog 47 #[.string g] w fun e w' => e = .returned (.tuple #[.int .i64 n, .bool k]) ∧ w = w')
    (KR : ∀ w, Calls Tryz.prog 51 #[.agg #[.int .i64 s, .int .i64 n, .bool u]] w fun e w' => e = .returned (.bool f) ∧ Below w.heap.size w w') :
    Calls Tryz.prog 48 #[.string t] w fun e w' => e = .returned (.tuple #[.agg #[.int .i64 F.1.d, .int .i64 F.1.n, .bool F.1.u], .bool F.2]) ∧ Below w.heap.size w w' := by
  have HD := Lib.hid KD; have HR := Lib.hid KR; have HF := Lib.hid hF
  clear KD KR hF
  have z1 : decide ((t.size : Int) < 2) = false := by simp; omega
  have c0 := lr0; have c1 := lr1; have c2 := lr2; have c3 := lr3
  rcases hg with ⟨rfl, hg⟩ | ⟨rfl, rfl⟩
  all_goals
    rcases hs with ⟨b1, b2, b3, b4, rfl⟩ | ⟨b1, b2, b3, b4, rfl⟩ | ⟨b1, b2, b3, b4, rfl⟩ | ⟨b1, b2, b3, b4, rfl⟩ | ⟨b1, b2, b3, b4, rfl⟩
  all_goals
    as_aux_lemma =>
      go_enter Tryz.func48, Tryz.ntmps48
      go_wp2
      refine wp_loop_rounds 5 ?_
      rw [rounds_succ]; go_wp2; go_region; go_wp2
      rw [rounds_succ]; go_wp2; go_region; go_wp2
      rw [rounds_succ]; go_wp2; go_region; go_wp2
      rw [rounds_succ]; go_wp2; go_region; go_wp2
      rw [rounds_succ]; go_wp2_with fail
      refine (HD.out _).mono ?_
      rintro e w' ⟨rfl, rfl⟩
      cases k
      · go_wp2
        refine bodyPost_ret (v := .tuple #[.agg #[.int .i64 0, .int .i64 0, .bool false], .bool false]) (by simp [results, Tryz.results48, go_sem]) rfl ⟨retS (p := ⟨0, 0, false⟩) (by rw [← HF.out, if_neg (by simp)]), ?_⟩
        repeat (first | (with_reducible exact Below.refl _ _) | (with_reducible apply up_drew) | (with_reducible apply up_alloc) | (with_reducible refine up_set ?_ (by simp only; omega) _))
      · go_wp2_with fail
        refine (HR.out _).mono ?_
        rintro e w2 ⟨rfl, hb⟩
        have A0 := (((((((Bx.new w 52 [.int .i64 0, .int .i64 0, .bool false]).alloc _).drew).drew).drew).drew).up hb)
        have A1 := ((((((Bx.new (w.alloc _) 52 [.int .i64 _, .int .i64 n, .bool _]).drew).drew).drew).drew).up hb)
        simp only [World.size_alloc] at A1
        have B1 := up_trans (up_drew (up_drew (up_drew (up_drew (up_alloc (up_alloc (Below.refl _ w) _) _))))) hb
        have HB := Lib.hid B1
        have m0 := A0.cell 0 rfl; have m1 := A0.cell 1 rfl; have m2 := A0.cell 2 rfl; have mf := A0.free
        have n0 := A1.cell 0 rfl; have n1 := A1.cell 1 rfl; have n2 := A1.cell 2 rfl; have nf := A1.free
        clear hb B1 A0 A1
        cases f
        · go_wp2
          refine bodyPost_ret (v := .tuple #[.agg #[.int .i64 0, .int .i64 0, .bool false], .bool false]) (by simp [results, Tryz.results48, go_sem, m0, m1, m2]) rfl ⟨retS (p := ⟨0, 0, false⟩) (by rw [← HF.out, if_neg (by simp)]), ?_⟩
          have B4 := HB.out
          repeat (first | (with_reducible exact B4) | (with_reducible refine up_set ?_ (by simp only; omega) _))
        · go_wp2
          have e := HF.out
          simp only [and_self, if_true] at e
          subst e
          refine bodyPost_ret ?_ rfl ⟨rfl, ?_⟩
          · simp [results, Tryz.results48, go_sem, m0, m1, m2]
          have B4 := HB.out
          repeat (first | (with_reducible exact B4) | (with_reducible refine up_set ?_ (by simp only; omega) _))

theorem numIn (l : List UInt8) (d : Int) (d0 : 0 ≤ d) (d1 : d ≤ 4) : ((numOf l).2 = true ∧ rightB d (numOf l).1 = true) ↔ (d ≠ 0 ∧ (inOf l 1 64).2 = true) := by
  unfold inOf
  split
  · rename_i h
    constructor
    · rintro ⟨h1, h2⟩
      have := rightB_true h2
      exact ⟨by omega, h1⟩
    · rintro ⟨h1, h2⟩
      exact ⟨h2, by simp [rightB]; omega⟩
  · rename_i h
    constructor
    · rintro ⟨h1, h2⟩
      have := rightB_true h2
      exact absurd ⟨h1, by omega, by omega⟩ h
    · rintro ⟨h1, h2⟩
      cases h2
theorem inOf_num {l : List UInt8} {lo hi : Int} (h : (inOf l lo hi).2 = true) : (inOf l lo hi).1 = (numOf l).1 := by
  unfold inOf at h ⊢
  split at h
  · rename_i h2; rw [if_pos h2]
  · cases h
theorem sideO_cases (c : UInt8) : ((((c.toNat : Nat) : Int) == 76) = true ∧ (((c.toNat : Nat) : Int) == 82) = false ∧ (((c.toNat : Nat) : Int) == 66) = false ∧ (((c.toNat : Nat) : Int) == 84) = false ∧ sideO c = 1) ∨ ((((c.toNat : Nat) : Int) == 76) = false ∧ (((c.toNat : Nat) : Int) == 82) = true ∧ (((c.toNat : Nat) : Int) == 66) = false ∧ (((c.toNat : Nat) : Int) == 84) = false ∧ sideO c = 2) ∨ ((((c.toNat : Nat) : Int) == 76) = false ∧ (((c.toNat : Nat) : Int) == 82) = false ∧ (((c.toNat : Nat) : Int) == 66) = true ∧ (((c.toNat : Nat) : Int) == 84) = false ∧ sideO c = 3) ∨ ((((c.toNat : Nat) : Int) == 76) = false ∧ (((c.toNat : Nat) : Int) == 82) = false ∧ (((c.toNat : Nat) : Int) == 66) = false ∧ (((c.toNat : Nat) : Int) == 84) = true ∧ sideO c = 4) ∨ ((((c.toNat : Nat) : Int) == 76) = false ∧ (((c.toNat : Nat) : Int) == 82) = false ∧ (((c.toNat : Nat) : Int) == 66) = false ∧ (((c.toNat : Nat) : Int) == 84) = false ∧ sideO c = 0) := by
  have e1 := oct_eq c 76; have e2 := oct_eq c 82; have e3 := oct_eq c 66; have e4 := oct_eq c 84
  simp only [show (((76 : UInt8).toNat : Nat) : Int) = 76 from rfl, show (((82 : UInt8).toNat : Nat) : Int) = 82 from rfl, show (((66 : UInt8).toNat : Nat) : Int) = 66 from rfl, show (((84 : UInt8).toNat : Nat) : Int) = 84 from rfl] at e1 e2 e3 e4
  rw [e1, e2, e3, e4]
  by_cases h1 : c = 76
  · subst h1; left; decide
  by_cases h2 : c = 82
  · subst h2; right; left; decide
  by_cases h3 : c = 66
  · subst h3; right; right; left; decide
  by_cases h4 : c = 84
  · subst h4; right; right; right; left; decide
  right; right; right; right
  refine ⟨by simpa using h1, by simpa using h2, by simpa using h3, by simpa using h4, ?_⟩
  unfold sideO
  rw [if_neg h1, if_neg h2, if_neg h3, if_neg h4]
theorem getS_short (l : List UInt8) (h : l.length < 2) : getS l = (⟨0, 0, false⟩, false) := by
  match l, h with
  | [], _ => rfl
  | [c], _ =>
    have : (inOf (stripU []).1 1 64).2 = false := by
      unfold inOf stripU
      simp only [List.getLast?_nil, reduceCtorEq, if_false]
      rw [numOf_len [] (by simp)]
      rfl
    simp [getS, this]
theorem last_octet (r : ByteArray) (h : 1 ≤ r.size) : r.data.toList.getLast? = some (r[r.size - 1]'(by omega)) := by
  rw [List.getLast?_eq_getElem?, size_data, List.getElem?_eq_getElem (by rw [size_data]; omega)]
  rfl
theorem refStepGet_any (t : ByteArray) (w : World) (ht : t.size ≤ 9223372036854775807) :
    Calls Tryz.prog 48 #[.string t] w fun e w' => e = .returned (.tuple #[.agg #[.int .i64 (getS t.data.toList).1.d, .int .i64 (getS t.data.toList).1.n, .bool (getS t.data.toList).1.u], .bool (getS t.data.toList).2]) ∧ Below w.heap.size w w' := by
  by_cases h2 : t.size < 2
  · rw [getS_short _ (by rw [size_data]; exact h2)]
    exact refStep_short t w h2
  · obtain ⟨c, r, hl⟩ : ∃ c r, t.data.toList = c :: r := by
      cases h : t.data.toList with
      | nil => have := size_data t; rw [h] at this; simp at this; omega
      | cons c r => exact ⟨c, r, rfl⟩
    obtain rfl : t = tx (c :: r) := by rw [← hl, tx_data]
    rw [tx_size] at h2 ht
    simp only [List.length_cons] at h2 ht
    have hc : (tx (c :: r))[0]'(by rw [tx_size]; simp) = c := rfl
    have hlast := last_octet (tx r) (by rw [tx_size]; omega)
    rw [data_tx] at hlast
    have hb := sideO_bounds c
    refine refStep_core (tx (c :: r)) (tx r) (tx (stripU r).1) (((tx (c :: r))[0]'(by rw [tx_size]; simp)).toNat : Nat) _ (sideO c) (numOf (stripU r).1).1 (numOf (stripU r).1).2 (rightB (sideO c) (numOf (stripU r).1).1) (stripU r).2 w (by rw [tx_size, List.length_cons]; omega) (by rw [tx_size, List.length_cons]; omega) rfl (by rw [hc]; exact sideO_cases c) (by rw [tx_extract, tx_size, data_tx]; simp) (by rw [tx_size]; omega) (by rw [tx_size]; omega) _ ?_ rfl ?_ ?_ (fun w => ?_) (fun w => refRight_any _ _ _ w)
    · rw [data_tx]
      simp only [getS]
      have hn := numIn (stripU r).1 (sideO c) hb.1 hb.2
      by_cases h : sideO c ≠ 0 ∧ (inOf (stripU r).1 1 64).2 = true
      · rw [if_pos h, if_pos (hn.2 h), inOf_num h.2]
      · rw [if_neg h, if_neg (fun e => h (hn.1 e))]
    · have e := oct_eq ((tx r)[(tx r).size - 1]'(by rw [tx_size]; omega)) 117
      simp only [show (((117 : UInt8).toNat : Nat) : Int) = 117 from rfl] at e
      rw [e]
      unfold stripU
      rw [hlast]
      split
      · rename_i h; simpa using h
      · rename_i h; simpa using h
    · unfold stripU
      split
      · left
        refine ⟨rfl, ?_⟩
        rw [tx_extract, tx_size, data_tx, List.drop_zero, List.dropLast_eq_take]
      · right; exact ⟨rfl, rfl⟩
    · have := refGet_any (tx (stripU r).1) w (by
        have : (stripU r).1.length ≤ r.length := by
          unfold stripU
          split
          · simp
          · exact Nat.le_refl _
        rw [tx_size]; omega)
      rw [data_tx] at this
      exact this
end Go.Proofs.YtomakbnbokaigaaGreatDoor
