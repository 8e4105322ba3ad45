/- Part 19 of the texts that the proofs of this seat share: SplitAt, SplitOf, SplitList, SplitAlive, OrderAlive, Laid, DecLaid, SchemeLaid, OrderOnceK, RefBook. -/
import Derived.Test.YtbfigaadbfggcaaGreatDoorPart18
import Derived.Test.YtbfigaadbfggcaaGreatDoorPart12
import Derived.Test.YtbfigaadbfggcaaGreatDoorPart17
import Derived.Test.YtbfigaadbfggcaaGreatDoorPart1
import Derived.Lib.LaidTab
import Derived.Stop.LaidErr
import Derived.MakeChecks
import Derived.Test.YtbfigaadbfggcaaGreatDoorPart2
import Derived.Test.YtbfigaadbfggcaaGreatDoorPart4
import Derived.Shelf.Vars
import Derived.Test.YtbfigaadbfggcaaGreatDoorPart16
/- What at and leaves of a parting answer; Count, Leaves and Blanks. -/
namespace Go.Proofs.YtbfigaadbfggcaaGreatDoor
open Go.RowKit
set_option linter.unusedVariables false
set_option linter.unusedSimpArgs false

set_option maxHeartbeats 1000000 in
theorem spAt_core (n i fc fr ec er : Int) (l : List Sp) (fn en m : Nat) (fa ea : Option Addr) (fk ek : Nat) (u : Bool) (w : World) (n1 : 0 ≤ n) (n2 : n ≤ 100000) (hu : (i == n - 1) = u) (hl : l.length = m) (hm : m ≤ 1000000) (he : (if u = true then en else fn) = m) (hI : InL w (if u = true then ea else fa) l) :
    Calls Tryz.prog 42 #[.agg #[.int .i64 n, .int .i64 fc, .int .i64 fr, .slice fa fn fk, .int .i64 ec, .int .i64 er, .slice ea en ek], .int .i64 i] w fun e w' => ∃ a c, e = .returned (.agg #[.int .i64 (if u = true then ec else fc), .int .i64 (if u = true then er else fr), .slice a m c]) ∧ InF w.heap.size w' a l ∧ Below w.heap.size w w' := by
  have X1 := Bx.new w 69 [.int .i64 n, .int .i64 fc, .int .i64 fr, .slice fa fn fk, .int .i64 ec, .int .i64 er, .slice ea en ek]
  have U1 := up_alloc (Below.refl w.heap.size w) (.cells #[.int .i64 n, .int .i64 fc, .int .i64 fr, .slice fa fn fk, .int .i64 ec, .int .i64 er, .slice ea en ek] 69)
  obtain ⟨P, hP⟩ : ∃ P, Obj.cells #[.int .i64 n, .int .i64 fc, .int .i64 fr, .slice fa fn fk, .int .i64 ec, .int .i64 er, .slice ea en ek] 69 = P := ⟨_, rfl⟩
  have X2 := X1.alloc (.cells #[.int .i64 0, .int .i64 0, .slice none 0 0] 26)
  have X3 := X2.alloc (.cells #[.int .i64 fc, .int .i64 fr, .slice fa fn fk] 26)
  have b1 := X2.cell 1 rfl; have b2 := X2.cell 2 rfl; have b3 := X2.cell 3 rfl
  have d0 := X3.cell 0 rfl; have d4 := X3.cell 4 rfl; have d5 := X3.cell 5 rfl; have d6 := X3.cell 6 rfl
  have HL := Lib.hid hl; have HI := Lib.hid hI; have HU1 := Lib.hid U1
  clear X1 X2 X3 hl hI hP U1
  rename Hid (Below w.heap.size w _) => U1
  cases u
  · simp only [Bool.false_eq_true, if_false] at he HI ⊢
    subst he
    go_enter Tryz.func42, Tryz.ntmps42
    go_wp2_with (at_builtin; refine wpList_append_steps rfl _ _ rfl rfl l _ _ HL.out _ rfl hm ?inl ?_)
    case inl => exact ((HI.out.up U1.out).up (up_alloc (Below.refl _ _) (.cells #[.int .i64 0, .int .i64 0, .slice none 0 0] 26))).up (up_alloc (Below.refl _ _) (.cells #[.int .i64 fc, .int .i64 fr, .slice fa fn fk] 26))
    intro a2 c2 w4 hF hb0
    have hb : Below (((w.alloc (.cells #[.int .i64 n, .int .i64 fc, .int .i64 fr, .slice fa fn fk, .int .i64 ec, .int .i64 er, .slice ea en ek] 69)).alloc (.cells #[.int .i64 0, .int .i64 0, .slice none 0 0] 26)).alloc (.cells #[.int .i64 fc, .int .i64 fr, .slice fa fn fk] 26)).heap.size (((w.alloc (.cells #[.int .i64 n, .int .i64 fc, .int .i64 fr, .slice fa fn fk, .int .i64 ec, .int .i64 er, .slice ea en ek] 69)).alloc (.cells #[.int .i64 0, .int .i64 0, .slice none 0 0] 26)).alloc (.cells #[.int .i64 fc, .int .i64 fr, .slice fa fn fk] 26)) w4 := by simp only [World.size_alloc]; exact hb0
    have S := (Bx.new ((w.alloc (.cells #[.int .i64 n, .int .i64 fc, .int .i64 fr, .slice fa fn fk, .int .i64 ec, .int .i64 er, .slice ea en ek] 69)).alloc (.cells #[.int .i64 0, .int .i64 0, .slice none 0 0] 26)) 26 [.int .i64 fc, .int .i64 fr, .slice fa fn fk]).up hb
    have R := ((Bx.new (w.alloc (.cells #[.int .i64 n, .int .i64 fc, .int .i64 fr, .slice fa fn fk, .int .i64 ec, .int .i64 er, .slice ea en ek] 69)) 26 [.int .i64 0, .int .i64 0, .slice none 0 0]).alloc (.cells #[.int .i64 fc, .int .i64 fr, .slice fa fn fk] 26)).up hb
    have B4 := Lib.hid (up_trans (up_trans U1.out (up_alloc (up_alloc (Below.refl _ _) (.cells #[.int .i64 0, .int .i64 0, .slice none 0 0] 26)) (.cells #[.int .i64 fc, .int .i64 fr, .slice fa fn fk] 26))) hb)
    simp only [World.size_alloc] at S R hF
    have S5 := S.set 2 (.slice a2 fn c2)
    have R5 := R.far (p := ⟨w.heap.size + 1 + 1, 2, none⟩) (by simp only; omega) (.slice a2 fn c2)
    have R6 := R5.set3 (.int .i64 fc) (.int .i64 fr) (.slice a2 fn c2)
    have sf := S.free
    have s0 := S5.cell 0 rfl; have s1 := S5.cell 1 rfl; have s2 := S5.cell 2 rfl
    have t0 := S.cell 0 rfl; have t1 := S.cell 1 rfl; have t2 := S.cell 2 rfl
    have r0 := R5.cell 0 rfl; have r1 := R5.cell 1 rfl; have r2 := R5.cell 2 rfl; have rf := R5.free
    have p0 := Lib.hid (R6.cell 0 rfl); have p1 := Lib.hid (R6.cell 1 rfl); have p2 := Lib.hid (R6.cell 2 rfl)
    have HF := Lib.hid hF
    clear S R S5 R5 R6 hF hb hb0
    go_wp2
    have q0 := p0.out; have q1 := p1.out; have q2 := p2.out
    refine bodyPost_ret (v := .agg #[.int .i64 fc, .int .i64 fr, .slice a2 fn c2]) (by simp [results, Tryz.results42, go_sem, q0, q1, q2]) rfl ⟨a2, c2, rfl, ?_, ?_⟩
    · have F4 := HF.out
      refine InF.mono (base := w.heap.size + 1 + 1 + 1) ?_ (by omega)
      exact (((F4.set (p := ⟨w.heap.size + 1 + 1, 2, none⟩) (by simp only; omega) _).set (p := ⟨w.heap.size + 1, 0, none⟩) (by simp only; omega) _).set (p := ⟨w.heap.size + 1, 1, none⟩) (by simp only; omega) _).set (p := ⟨w.heap.size + 1, 2, none⟩) (by simp only; omega) _
    · exact up_set (up_set (up_set (up_set B4.out (by simp only; omega) _) (by simp only; omega) _) (by simp only; omega) _) (by simp only; omega) _
  · simp only [if_true] at he HI ⊢
    subst he
    go_enter Tryz.func42, Tryz.ntmps42
    go_wp2_with (at_builtin; refine wpList_append_steps rfl _ _ rfl rfl l _ _ HL.out _ rfl hm ?inl ?_)
    case inl => exact ((HI.out.up U1.out).up (up_alloc (Below.refl _ _) (.cells #[.int .i64 0, .int .i64 0, .slice none 0 0] 26))).up (up_alloc (Below.refl _ _) (.cells #[.int .i64 ec, .int .i64 er, .slice ea en ek] 26))
    intro a2 c2 w4 hF hb0
    have hb : Below (((w.alloc (.cells #[.int .i64 n, .int .i64 fc, .int .i64 fr, .slice fa fn fk, .int .i64 ec, .int .i64 er, .slice ea en ek] 69)).alloc (.cells #[.int .i64 0, .int .i64 0, .slice none 0 0] 26)).alloc (.cells #[.int .i64 ec, .int .i64 er, .slice ea en ek] 26)).heap.size (((w.alloc (.cells #[.int .i64 n, .int .i64 fc, .int .i64 fr, .slice fa fn fk, .int .i64 ec, .int .i64 er, .slice ea en ek] 69)).alloc (.cells #[.int .i64 0, .int .i64 0, .slice none 0 0] 26)).alloc (.cells #[.int .i64 ec, .int .i64 er, .slice ea en ek] 26)) w4 := by simp only [World.size_alloc]; exact hb0
    have S := (Bx.new ((w.alloc (.cells #[.int .i64 n, .int .i64 fc, .int .i64 fr, .slice fa fn fk, .int .i64 ec, .int .i64 er, .slice ea en ek] 69)).alloc (.cells #[.int .i64 0, .int .i64 0, .slice none 0 0] 26)) 26 [.int .i64 ec, .int .i64 er, .slice ea en ek]).up hb
    have R := ((Bx.new (w.alloc (.cells #[.int .i64 n, .int .i64 fc, .int .i64 fr, .slice fa fn fk, .int .i64 ec, .int .i64 er, .slice ea en ek] 69)) 26 [.int .i64 0, .int .i64 0, .slice none 0 0]).alloc (.cells #[.int .i64 ec, .int .i64 er, .slice ea en ek] 26)).up hb
    have B4 := Lib.hid (up_trans (up_trans U1.out (up_alloc (up_alloc (Below.refl _ _) (.cells #[.int .i64 0, .int .i64 0, .slice none 0 0] 26)) (.cells #[.int .i64 ec, .int .i64 er, .slice ea en ek] 26))) hb)
    simp only [World.size_alloc] at S R hF
    have S5 := S.set 2 (.slice a2 en c2)
    have R5 := R.far (p := ⟨w.heap.size + 1 + 1, 2, none⟩) (by simp only; omega) (.slice a2 en c2)
    have R6 := R5.set3 (.int .i64 ec) (.int .i64 er) (.slice a2 en c2)
    have sf := S.free
    have s0 := S5.cell 0 rfl; have s1 := S5.cell 1 rfl; have s2 := S5.cell 2 rfl
    have t0 := S.cell 0 rfl; have t1 := S.cell 1 rfl; have t2 := S.cell 2 rfl
    have r0 := R5.cell 0 rfl; have r1 := R5.cell 1 rfl; have r2 := R5.cell 2 rfl; have rf := R5.free
    have p0 := Lib.hid (R6.cell 0 rfl); have p1 := Lib.hid (R6.cell 1 rfl); have p2 := Lib.hid (R6.cell 2 rfl)
    have HF := Lib.hid hF
    clear S R S5 R5 R6 hF hb hb0
    go_wp2
    have q0 := p0.out; have q1 := p1.out; have q2 := p2.out
    refine bodyPost_ret (v := .agg #[.int .i64 ec, .int .i64 er, .slice a2 en c2]) (by simp [results, Tryz.results42, go_sem, q0, q1, q2]) rfl ⟨a2, c2, rfl, ?_, ?_⟩
    · have F4 := HF.out
      refine InF.mono (base := w.heap.size + 1 + 1 + 1) ?_ (by omega)
      exact (((F4.set (p := ⟨w.heap.size + 1 + 1, 2, none⟩) (by simp only; omega) _).set (p := ⟨w.heap.size + 1, 0, none⟩) (by simp only; omega) _).set (p := ⟨w.heap.size + 1, 1, none⟩) (by simp only; omega) _).set (p := ⟨w.heap.size + 1, 2, none⟩) (by simp only; omega) _
    · exact up_set (up_set (up_set (up_set B4.out (by simp only; omega) _) (by simp only; omega) _) (by simp only; omega) _) (by simp only; omega) _

theorem spLeaves_core (n fc fr ec er k p pe z s : Int) (fa ea : Option Addr) (fn fk en ek : Nat) (w : World) (n1 : 0 ≤ n) (n2 : n ≤ 100000) (hk : n - 1 = k) (hz : k * p = z) (hs : z + pe = s) (z1 : -1000000000 ≤ z) (z2 : z ≤ 1000000000) (p1 : 0 ≤ pe) (p2 : pe ≤ 4096)
    (KF : ∀ w1, Calls Tryz.prog 34 #[.agg #[.int .i64 fc, .int .i64 fr, .slice fa fn fk]] w1 fun e w' => e = .returned (.int .i64 p) ∧ Below w1.heap.size w1 w')
    (KE : ∀ w1, Calls Tryz.prog 34 #[.agg #[.int .i64 ec, .int .i64 er, .slice ea en ek]] w1 fun e w' => e = .returned (.int .i64 pe) ∧ Below w1.heap.size w1 w') :
    Calls Tryz.prog 44 #[.agg #[.int .i64 n, .int .i64 fc, .int .i64 fr, .slice fa fn fk, .int .i64 ec, .int .i64 er, .slice ea en ek]] w fun e w' => e = .returned (.int .i64 s) ∧ Below w.heap.size w w' := by
  have X := Bx.new w 69 [.int .i64 n, .int .i64 fc, .int .i64 fr, .slice fa fn fk, .int .i64 ec, .int .i64 er, .slice ea en ek]
  have B := Lib.hid (up_alloc (Below.refl w.heap.size w) (.cells #[.int .i64 n, .int .i64 fc, .int .i64 fr, .slice fa fn fk, .int .i64 ec, .int .i64 er, .slice ea en ek] 69))
  have HF := Lib.hid KF; have HE := Lib.hid KE
  clear KF KE
  go_enter Tryz.func44, Tryz.ntmps44
  go_wp2_with fail
  obtain ⟨w1, hw1⟩ : ∃ w1, w.alloc (.cells #[.int .i64 n, .int .i64 fc, .int .i64 fr, .slice fa fn fk, .int .i64 ec, .int .i64 er, .slice ea en ek] 69) = w1 := ⟨_, rfl⟩
  rw [hw1] at X B ⊢
  clear hw1
  have j0 := fun x : Later w1 => x.cell (X.cell 0 rfl)
  have j1 := fun x : Later w1 => x.cell (X.cell 1 rfl)
  have j2 := fun x : Later w1 => x.cell (X.cell 2 rfl)
  have j3 := fun x : Later w1 => x.cell (X.cell 3 rfl)
  have j4 := fun x : Later w1 => x.cell (X.cell 4 rfl)
  have j5 := fun x : Later w1 => x.cell (X.cell 5 rfl)
  have j6 := fun x : Later w1 => x.cell (X.cell 6 rfl)
  clear X
  refine later_start (w := w1) ?_
  intro x
  refine wp_region_later (by kernel_rfl) (by kernel_rfl) ?_
  repeat (go_big_quiet_step ((go_at_call 34; first | with_reducible exact Later.call (HF.out _) | with_reducible exact Later.call (HE.out _))))
  refine wpQuiet_nil ?_
  rintro _ ⟨x2, rfl⟩
  have BB := Lib.hid (up_trans B.out x2.up)
  clear j0 j1 j2 j3 j4 j5 j6
  go_wp2
  go_ret
  exact ⟨rfl, BB.out⟩

theorem cnt_bounds (j : Jb) : 0 ≤ cntS j ∧ cntS j ≤ 50000 := by
  have h := of_length j
  have h2 := of_small j
  omega
theorem part_leaves (j : Jb) : (cntS j - 1) * panM (partF j).c (partF j).r + panM (partE j).c (partE j).r = leavesS j ∧ (-1000000000 ≤ (cntS j - 1) * panM (partF j).c (partF j).r ∧ (cntS j - 1) * panM (partF j).c (partF j).r ≤ 1000000000) := by
  unfold cntS partF partE leavesS
  by_cases h : partB j = true
  · simp only [if_pos h]
    obtain ⟨p1, p2, p3, -⟩ := part_facts h
    have hb := others_bounds p3.1 p3.2 p1.1
    rw [Int.add_sub_cancel]
    refine ⟨rfl, ?_⟩
    have e : othersM (j.n 0) (panS j.f) * (2 * panS j.f) = 2 * (othersM (j.n 0) (panS j.f) * panS j.f) := by rw [← Int.mul_assoc, Int.mul_comm _ 2, Int.mul_assoc]
    rw [e] at hb
    show -1000000000 ≤ othersM (j.n 0) (panS j.f) * panS j.f ∧ othersM (j.n 0) (panS j.f) * panS j.f ≤ 1000000000
    omega
  · simp only [if_neg h]
    decide
theorem leaves_bounds (j : Jb) : 0 ≤ leavesS j ∧ leavesS j ≤ 1000000 := by
  unfold leavesS
  split
  next h =>
    obtain ⟨p1, p2, p3, p4, p5, p6, p7, p8⟩ := part_facts h
    have hb := others_bounds p3.1 p3.2 p1.1
    have e : othersM (j.n 0) (panS j.f) * (2 * panS j.f) = 2 * (othersM (j.n 0) (panS j.f) * panS j.f) := by rw [← Int.mul_assoc, Int.mul_comm _ 2, Int.mul_assoc]
    rw [e] at hb
    omega
  next => omega

/-- What part answers, for a core: the schemes by numbers. -/
def PartG (j : Jb) (w : World) (e : Ending) (w' : World) : Prop :=
  ∃ a1 c1 a2 c2, e = .returned (.agg #[.int .i64 (cntS j), .int .i64 (partF j).c, .int .i64 (partF j).r, .slice a1 (partF j).l.length c1, .int .i64 (partE j).c, .int .i64 (partE j).r, .slice a2 (partE j).l.length c2])
      ∧ InL w' a1 (partF j).l ∧ InL w' a2 (partE j).l ∧ Below w.heap.size w w'
theorem spLeavesP_any (j : Jb) (a1 a2 : Option Addr) (c1 c2 : Nat) (w : World) : Calls Tryz.prog 44 #[.agg #[.int .i64 (cntS j), .int .i64 (partF j).c, .int .i64 (partF j).r, .slice a1 (partF j).l.length c1, .int .i64 (partE j).c, .int .i64 (partE j).r, .slice a2 (partE j).l.length c2]] w fun e w' => e = .returned (.int .i64 (leavesS j)) ∧ Below w.heap.size w w' := by
  obtain ⟨h1, h2, h3⟩ := part_leaves j
  have hc := cnt_bounds j
  have hp := pan_ge (partE j)
  exact spLeaves_core _ _ _ _ _ _ _ _ _ _ a1 a2 _ c1 _ c2 w hc.1 (by omega) rfl rfl h1 h2 h3 hp.1 hp.2 (fun w1 => schPanels_any _ _ _ _ _ w1) (fun w1 => schPanels_any _ _ _ _ _ w1)

set_option maxRecDepth 100000 in
theorem spCount_any (cs : List Value) (j : Jb) (w : World) (h : JobA w cs j) (hf : WfF j) (hg : GoodM w) :
    Calls Tryz.prog 29 #[.agg cs.toArray] w fun e w' => e = .returned (.int .i64 (cntS j)) ∧ Below w.heap.size w w' := by
  have HX := Lib.hid (Bx.new w 29 cs)
  have HB := Lib.hid (up_alloc (Below.refl w.heap.size w) (.cells cs.toArray 29))
  have HL := Lib.hid h.length
  have HP := Lib.hid (spPart_any cs j _ (h.up HB.out) hf (hg.below HB.out))
  clear h hf hg
  generalize cntS j = n at *
  generalize partF j = f at *
  generalize partE j = g at *
  go_enter Tryz.func29, Tryz.ntmps29
  go_wp2_with (refine wpList_load_job rfl _ rfl w.heap.size rfl cs HX.out HL.out ?_; simp only [Act.put, List.setIfInBounds_toArray, List.set_cons_succ, List.set_cons_zero])
  refine HP.out.mono ?_
  rintro e w1 ⟨a1, c1, a2, c2, rfl, -, -, hb⟩
  have B1 := Lib.hid (up_trans HB.out hb)
  clear hb
  have q := fun w => (show (Instr.field 69 (.agg #[.int .i64 n, .int .i64 f.c, .int .i64 f.r, .slice a1 f.l.length c1, .int .i64 g.c, .int .i64 g.r, .slice a2 g.l.length c2]) 0).run Tryz.prog w = .ok (.int .i64 n) w from by kernel_rfl)
  go_wp2
  go_ret
  exact ⟨rfl, B1.out⟩
theorem spLeaves_any (cs : List Value) (j : Jb) (w : World) (h : JobA w cs j) (hf : WfF j) (hg : GoodM w) :
    Calls Tryz.prog 33 #[.agg cs.toArray] w fun e w' => e = .returned (.int .i64 (leavesS j)) ∧ Below w.heap.size w w' := by
  have HX := Lib.hid (Bx.new w 29 cs)
  have HB := Lib.hid (up_alloc (Below.refl w.heap.size w) (.cells cs.toArray 29))
  have HL := Lib.hid h.length
  have HP := Lib.hid (spPart_any cs j _ (h.up HB.out) hf (hg.below HB.out))
  have HV := Lib.hid (fun a1 a2 c1 c2 w => spLeavesP_any j a1 a2 c1 c2 w)
  clear h hf hg
  generalize cntS j = n at *
  generalize partF j = f at *
  generalize partE j = g at *
  generalize leavesS j = v at *
  go_enter Tryz.func33, Tryz.ntmps33
  go_wp2_with (refine wpList_load_job rfl _ rfl w.heap.size rfl cs HX.out HL.out ?_; simp only [Act.put, List.setIfInBounds_toArray, List.set_cons_succ, List.set_cons_zero])
  refine HP.out.mono ?_
  rintro e w1 ⟨a1, c1, a2, c2, rfl, -, -, hb⟩
  have B1 := Lib.hid (up_trans HB.out hb)
  clear hb
  go_wp2_with fail
  refine (HV.out _ _ _ _ _).mono ?_
  rintro e w2 ⟨rfl, hb⟩
  have B2 := Lib.hid (up_trans B1.out hb)
  clear hb
  go_wp2
  go_ret
  exact ⟨rfl, B2.out⟩
end Go.Proofs.YtbfigaadbfggcaaGreatDoor
/- What split.At and split.Of answer. -/
namespace Go.Proofs.YtbfigaadbfggcaaGreatDoor
open Go.RowKit
set_option linter.unusedVariables false
set_option linter.unusedSimpArgs false

/-- The scheme of the i-th signature. -/
def sigS (j : Jb) (i : Int) : Sc := if (i == cntS j - 1) = true then partE j else partF j
def atS (j : Jb) (i : Int) : Option Sc := if (decide (0 ≤ i) && decide (i ≤ cntS j - 1)) = true then some (sigS j i) else none
theorem part_small (j : Jb) : (partF j).l.length ≤ 6 ∧ (partE j).l.length ≤ 6 := by
  unfold partF partE
  by_cases h : partB j = true
  · have := part_facts h
    simp only [if_pos h]
    omega
  · simp only [if_neg h]
    decide
theorem cnt_pos {j : Jb} (h : 0 < cntS j) : partB j = true := by
  rw [← Bool.not_eq_false]
  intro hp
  have : cntS j = 0 := by unfold cntS; rw [if_neg (by rw [hp]; simp)]
  omega
theorem of_sig {j : Jb} {k : Nat} (hk : (k : Int) < cntS j) : (ofM j)[k]? = some (sigS j k) := by
  have hp := cnt_pos (j := j) (by omega)
  rw [of_at hp k hk]
  unfold sigS partE partF
  simp only [if_pos hp, beq_iff_eq]
theorem spAtP_any (j : Jb) (i : Int) (a1 a2 : Option Addr) (c1 c2 : Nat) (w : World) (hF : InL w a1 (partF j).l) (hE : InL w a2 (partE j).l) : Calls Tryz.prog 42 #[.agg #[.int .i64 (cntS j), .int .i64 (partF j).c, .int .i64 (partF j).r, .slice a1 (partF j).l.length c1, .int .i64 (partE j).c, .int .i64 (partE j).r, .slice a2 (partE j).l.length c2], .int .i64 i] w
    fun e w' => ∃ a c, e = .returned (.agg #[.int .i64 (sigS j i).c, .int .i64 (sigS j i).r, .slice a (sigS j i).l.length c]) ∧ InF w.heap.size w' a (sigS j i).l ∧ Below w.heap.size w w' := by
  have hc := cnt_bounds j
  obtain ⟨h1, h2⟩ := part_small j
  unfold sigS
  cases hu : (i == cntS j - 1)
  · have := spAt_core (cntS j) i (partF j).c (partF j).r (partE j).c (partE j).r (partF j).l _ (partE j).l.length _ a1 a2 c1 c2 false w hc.1 (by omega) hu rfl (by omega) rfl hF
    exact this
  · have := spAt_core (cntS j) i (partF j).c (partF j).r (partE j).c (partE j).r (partE j).l (partF j).l.length _ _ a1 a2 c1 c2 true w hc.1 (by omega) hu rfl (by omega) rfl hE
    exact this

set_option maxHeartbeats 1000000 in
theorem spAtJ_core (cs : List Value) (n m i : Int) (f g s : Sc) (u : Bool) (w : World) (n1 : 0 ≤ n) (n2 : n ≤ 50000) (hm : n - 1 = m) (hL : cs.length = 33)
    (KP : ∀ w1, Below w.heap.size w w1 → Calls Tryz.prog 41 #[.agg cs.toArray] w1 fun e w' => ∃ a1 c1 a2 c2, e = .returned (.agg #[.int .i64 n, .int .i64 f.c, .int .i64 f.r, .slice a1 f.l.length c1, .int .i64 g.c, .int .i64 g.r, .slice a2 g.l.length c2])
      ∧ InL w' a1 f.l ∧ InL w' a2 g.l ∧ Below w1.heap.size w1 w')
    (KI : ∀ w1, Calls Tryz.prog 40 #[.int .i64 i, .int .i64 0, .int .i64 m] w1 fun e w' => e = .returned (.bool u) ∧ w1 = w')
    (KA : ∀ a1 a2 c1 c2 w1, InL w1 a1 f.l → InL w1 a2 g.l → Calls Tryz.prog 42 #[.agg #[.int .i64 n, .int .i64 f.c, .int .i64 f.r, .slice a1 f.l.length c1, .int .i64 g.c, .int .i64 g.r, .slice a2 g.l.length c2], .int .i64 i] w1
      fun e w' => ∃ a c, e = .returned (.agg #[.int .i64 s.c, .int .i64 s.r, .slice a s.l.length c]) ∧ InF w1.heap.size w' a s.l ∧ Below w1.heap.size w1 w') :
    Calls Tryz.prog 30 #[.agg cs.toArray, .int .i64 i] w (GivesS (if u = true then some s else none) w) := by
  have X1 := (Bx.new w 29 cs)
  have U1 := up_alloc (Below.refl w.heap.size w) (.cells cs.toArray 29)
  have V1 := up_alloc (Below.refl _ (w.alloc (.cells cs.toArray 29))) (.cells #[.int .i64 0, .int .i64 0, .slice none 0 0] 26)
  have HX := Lib.hid (X1.later (by rw [hL]; decide) V1)
  have HB := Lib.hid (up_trans U1 V1)
  have R1 := Bx.new (w.alloc (.cells cs.toArray 29)) 26 [.int .i64 0, .int .i64 0, .slice none 0 0]
  rw [World.size_alloc] at R1
  have HR := Lib.hid R1
  have HL := Lib.hid hL; have HP := Lib.hid KP; have HI := Lib.hid KI; have HA := Lib.hid KA
  clear X1 U1 V1 R1 hL KP KI KA
  cases u
  · go_enter Tryz.func30, Tryz.ntmps30
    go_wp2_with (refine wpList_load_job rfl _ rfl w.heap.size rfl cs HX.out HL.out ?_; simp only [Act.put, List.setIfInBounds_toArray, List.set_cons_succ, List.set_cons_zero])
    refine (HP.out _ HB.out).mono ?_
    rintro e w1 ⟨a1, c1, a2, c2, rfl, hF, hE, hb⟩
    have S := Bx.new w1 69 [.int .i64 n, .int .i64 f.c, .int .i64 f.r, .slice a1 f.l.length c1, .int .i64 g.c, .int .i64 g.r, .slice a2 g.l.length c2]
    have U := up_alloc (Below.refl w1.heap.size w1) (.cells #[.int .i64 n, .int .i64 f.c, .int .i64 f.r, .slice a1 f.l.length c1, .int .i64 g.c, .int .i64 g.r, .slice a2 g.l.length c2] 69)
    have B1 := Lib.hid (up_trans (up_trans HB.out hb) U)
    have R2 := (HR.out.up hb).up U
    have r0 := R2.cell 0 rfl; have r1 := R2.cell 1 rfl; have r2 := R2.cell 2 rfl; have rf := R2.free
    have R3 := R2.set3 (.int .i64 0) (.int .i64 0) (.slice none 0 0)
    have p0 := Lib.hid (R3.cell 0 rfl); have p1 := Lib.hid (R3.cell 1 rfl); have p2 := Lib.hid (R3.cell 2 rfl)
    have s0 := S.cell 0 rfl
    clear hb U S R2 R3 hF hE
    go_wp2_with fail
    refine (HI.out _).mono ?_
    rintro e w2 ⟨rfl, rfl⟩
    go_wp2
    have q0 := p0.out; have q1 := p1.out; have q2 := p2.out
    refine bodyPost_ret (v := .tuple #[.agg #[.int .i64 0, .int .i64 0, .slice none 0 0], .bool false]) (by simp [results, Tryz.results30, go_sem, q0, q1, q2]) rfl (gives_none ?_)
    exact up_set (up_set (up_set B1.out (by simp only; omega) _) (by simp only; omega) _) (by simp only; omega) _
  · go_enter Tryz.func30, Tryz.ntmps30
    go_wp2_with (refine wpList_load_job rfl _ rfl w.heap.size rfl cs HX.out HL.out ?_; simp only [Act.put, List.setIfInBounds_toArray, List.set_cons_succ, List.set_cons_zero])
    refine (HP.out _ HB.out).mono ?_
    rintro e w1 ⟨a1, c1, a2, c2, rfl, hF, hE, hb⟩
    have S := Bx.new w1 69 [.int .i64 n, .int .i64 f.c, .int .i64 f.r, .slice a1 f.l.length c1, .int .i64 g.c, .int .i64 g.r, .slice a2 g.l.length c2]
    have U := up_alloc (Below.refl w1.heap.size w1) (.cells #[.int .i64 n, .int .i64 f.c, .int .i64 f.r, .slice a1 f.l.length c1, .int .i64 g.c, .int .i64 g.r, .slice a2 g.l.length c2] 69)
    have B1 := Lib.hid (up_trans (up_trans HB.out hb) U)
    have R2 := Lib.hid ((HR.out.up hb).up U)
    have F2 := Lib.hid (hF.up U); have E2 := Lib.hid (hE.up U)
    have hlow := (HR.out.up hb).lt
    have s0 := S.cell 0 rfl; have s1 := S.cell 1 rfl; have s2 := S.cell 2 rfl; have s3 := S.cell 3 rfl; have s4 := S.cell 4 rfl; have s5 := S.cell 5 rfl; have s6 := S.cell 6 rfl
    clear hb U S hF hE
    go_wp2_with fail
    refine (HI.out _).mono ?_
    rintro e w2 ⟨rfl, rfl⟩
    go_wp2_with fail
    refine (HA.out _ _ _ _ _ F2.out E2.out).mono ?_
    rintro e w3 ⟨a, c, rfl, hF, hb⟩
    have R3 := R2.out.up hb
    have B3 := Lib.hid (up_trans B1.out hb)
    have r0 := R3.cell 0 rfl; have r1 := R3.cell 1 rfl; have r2 := R3.cell 2 rfl; have rf := R3.free
    have R4 := R3.set3 (.int .i64 s.c) (.int .i64 s.r) (.slice a s.l.length c)
    have p0 := Lib.hid (R4.cell 0 rfl); have p1 := Lib.hid (R4.cell 1 rfl); have p2 := Lib.hid (R4.cell 2 rfl)
    rw [World.size_alloc] at hF
    have HF := Lib.hid hF
    clear hb R3 R4 hF s0 s1 s2 s3 s4 s5 s6
    go_wp2
    have q0 := p0.out; have q1 := p1.out; have q2 := p2.out
    refine bodyPost_ret (v := .tuple #[.agg #[.int .i64 s.c, .int .i64 s.r, .slice a s.l.length c], .bool true]) (by simp [results, Tryz.results30, go_sem, q0, q1, q2]) rfl ⟨a, c, rfl, ?_, ?_⟩
    · have F4 := HF.out
      refine InF.mono (base := w1.heap.size + 1) ?_ (by omega)
      exact ((F4.set (p := ⟨w.heap.size + 1, 0, none⟩) (by simp only; omega) _).set (p := ⟨w.heap.size + 1, 1, none⟩) (by simp only; omega) _).set (p := ⟨w.heap.size + 1, 2, none⟩) (by simp only; omega) _
    · exact up_set (up_set (up_set B3.out (by simp only; omega) _) (by simp only; omega) _) (by simp only; omega) _
theorem spAt_any (cs : List Value) (j : Jb) (i : Int) (w : World) (h : JobA w cs j) (hf : WfF j) (hg : GoodM w) :
    Calls Tryz.prog 30 #[.agg cs.toArray, .int .i64 i] w (GivesS (atS j i) w) := by
  have hc := cnt_bounds j
  exact spAtJ_core cs (cntS j) _ i (partF j) (partE j) (sigS j i) _ w hc.1 hc.2 rfl h.length (fun w1 hb => spPart_any cs j w1 (h.up hb) hf (hg.below hb)) (fun w1 => in_any i 0 _ w1) (fun a1 a2 c1 c2 w1 h1 h2 => spAtP_any j i a1 a2 c1 c2 w1 h1 h2)
end Go.Proofs.YtbfigaadbfggcaaGreatDoor
/- What split.Of answers. -/
namespace Go.Proofs.YtbfigaadbfggcaaGreatDoor
open Go.RowKit
set_option linter.unusedVariables false
set_option linter.unusedSimpArgs false

def OfRel (l : List Sc) (N base : Nat) (w2 : World) (v i : Value) (wr : World) : Prop :=
  ∃ k : Nat, k ≤ N ∧ i = .int .i64 (k : Int) ∧ Hid (OwnL wr base v (l.take k)) ∧ Hid (Below w2.heap.size w2 wr)

end Go.Proofs.YtbfigaadbfggcaaGreatDoor
/- The chapter's example of split holds. -/
namespace Go.Proofs.YtbfigaadbfggcaaGreatDoor
open Go.RowKit
set_option linter.unusedVariables false
set_option linter.unusedSimpArgs false

/-- The example: the usual job of 20 pages, whose last signature may be an F4-1. -/
def exJ : Jb := ⟨[98, 111, 111, 107], setN usualN 0 20, usualF, [[70, 52, 45, 49]]⟩
theorem ex_count : (ofM exJ).length = 3 := by decide +kernel
theorem ex_leaves : leavesS exJ = 10 := by decide +kernel
theorem ex_blanks : blanksS exJ = 0 := by decide +kernel
theorem ex_folds : foldsM exJ = true := by decide +kernel
theorem ex_last : lastM exJ = true := by decide +kernel

theorem sz_setCells (b : Nat) : ∀ (vs : List Value) (o : Nat) (w : World), (w.setCells b o vs).heap.size = w.heap.size
  | [], _, _ => rfl
  | v :: r, o, w => by rw [World.setCells, sz_setCells b r]; simp
theorem jobA_ex {w w' : World} {B : Nat} {cs : List Value} (h : JobA w cs usualJ) (hB : w.heap.size ≤ B) (hk : ∀ p : Addr, p.block ≠ B → ∀ v, w.cell? p = some v → w'.cell? p = some v) (g : Nat) (hg : w'.cell? ⟨g, 0, none⟩ = some (.string ⟨#[70, 52, 45, 49]⟩)) :
    JobA w' ((cs.set 1 (.int .i64 20)).set 15 (.slice (some ⟨g, 0, none⟩) 1 1)) exJ := by
  obtain ⟨a, c, a', c', rfl, h1, h2⟩ := h
  refine ⟨a, c, some ⟨g, 0, none⟩, 1, rfl, (h1.liG.keep (B := B) (by omega) hk).inL, .inr ⟨g, 0, rfl, ?_, by decide, by decide⟩⟩
  intro i l hi
  match i, hi with
  | 0, hi =>
    cases hi
    exact hg

end Go.Proofs.YtbfigaadbfggcaaGreatDoor
/- The chapter's example of order holds, where order's functions answer as they are asked. -/
namespace Go.Proofs.YtbfigaadbfggcaaGreatDoor
open Go.RowKit
set_option linter.unusedVariables false
set_option linter.unusedSimpArgs false

/-- The example: the usual job of 8 pages on sheets that are folded once. -/
def exO : Jb := ⟨[98, 111, 111, 107], setN usualN 0 8, ⟨2, 1, [⟨1, 1, false⟩]⟩, []⟩
theorem exo_copies : copM exO = 1 := by decide +kernel
theorem exo_leaf : leafO exO 0 0 1 = 3 ∧ isLf exO 0 0 1 = true := by decide +kernel
theorem exo_page : pageO exO 3 true = 7 ∧ pageO exO 3 false = 8 := by decide +kernel
theorem jobA_exO {w w' : World} {cs : List Value} (h : JobA w cs usualJ) (g : Nat) (h0 : w'.cell? ⟨g, 0, none⟩ = some (.int .i64 1)) (h1 : w'.cell? ⟨g, 1, none⟩ = some (.int .i64 1)) (h2 : w'.cell? ⟨g, 2, none⟩ = some (.bool false)) :
    JobA w' ((((cs.set 1 (.int .i64 8)).set 12 (.int .i64 2)).set 13 (.int .i64 1)).set 14 (.slice (some ⟨g, 0, none⟩) 1 1)) exO := by
  obtain ⟨a, c, a', c', rfl, -, -⟩ := h
  refine ⟨some ⟨g, 0, none⟩, 1, a', c', rfl, .inr ⟨g, 0, rfl, ?_⟩, .inl rfl⟩
  intro i p hi
  match i, hi with
  | 0, hi =>
    cases hi
    exact ⟨h0, h1, h2⟩

set_option maxRecDepth 100000 in
set_option maxHeartbeats 1000000 in
theorem ordAlive_any (KC : OrdCopies) (KL : OrdLeaf) (KP : OrdPages) (w : World) (hg : GoodM w) : Calls Tryz.prog 7 #[] w fun e w' => e = .returned (.bool true) ∧ Below w.heap.size w w' := by
  have HU := Lib.hid (refUsual_any w)
  have HG := Lib.hid hg
  have HKC := Lib.hid KC; have HKL := Lib.hid KL; have HKP := Lib.hid KP
  clear hg KC KL KP
  go_enter Tryz.func7, Tryz.ntmps7
  go_wp2_with fail
  refine HU.out.mono ?_
  rintro e w1 ⟨cs, rfl, hJ, hb⟩
  have hl := hJ.jobA.length
  have HL := Lib.hid hl
  have H1 := Lib.hid hJ.jobA.one
  have HZ := Lib.hid (Bx.new w1 29 zeroL)
  have HJ := Lib.hid hJ.jobA
  have HB := Lib.hid (up_alloc hb (.cells zeroL.toArray 29))
  have HS := Lib.hid (World.size_alloc w1 (.cells zeroL.toArray 29))
  have hlow := hb.size
  have hC1 := hJ.jobA.num (k := 0) (by decide)
  obtain ⟨a, c, a', c', h12, h13, h14, h15, -⟩ := hJ.jobA.cells
  have HC1 := Lib.hid hC1; have HC12 := Lib.hid h12; have HC13 := Lib.hid h13; have HC14 := Lib.hid h14
  have hl1 : (cs.set 1 (.int .i64 8)).length = 33 := by rw [List.length_set]; exact hl
  have hl5 : ∀ x y v, ((((cs.set 1 (.int .i64 8)).set 12 x).set 13 y).set 14 v).length = 33 := fun x y v => by rw [List.length_set, List.length_set, List.length_set]; exact hl1
  have HL1 := Lib.hid hl1; have HL5 := Lib.hid hl5
  clear hJ hl hb hC1 h12 h13 h14 h15 hl1 hl5
  go_wp2_with (first
    | (refine wpList_alloc_to rfl 29 rfl _ _ (job_alloc _) ?_; simp only [Act.put, List.setIfInBounds_toArray, List.set_cons_succ, List.set_cons_zero]; obtain ⟨w2, hw2⟩ : ∃ w2, w1.alloc (.cells zeroL.toArray 29) = w2 := ⟨_, rfl⟩; rw [hw2] at HZ HB HS ⊢; clear hw2)
    | (refine wpList_store_job rfl _ _ rfl w1.heap.size rfl zeroL cs rfl HZ.out rfl HL.out H1.out ?_; simp only [Act.put]; have X3 := HZ.out.sets (ws := cs) (by rw [HL.out]; rfl); have B3 := below_setCells (show w.heap.size ≤ w1.heap.size from hlow) cs 0 _ HB.out; have S3 : (w2.setCells w1.heap.size 0 cs).heap.size = w1.heap.size + 1 := by { rw [sz_setCells]; exact HS.out }; obtain ⟨w3, hw3⟩ : ∃ w3, w2.setCells w1.heap.size 0 cs = w3 := ⟨_, rfl⟩; rw [hw3] at X3 B3 S3 ⊢; clear hw3; have HX3 := Lib.hid X3; have HB3 := Lib.hid B3; have HS3 := Lib.hid S3; clear X3 B3 S3; refine wpList_nil ?_; rename_i hK; refine hK _ _ ?_; clear hK; refine Hid.out ?_))
  refine Lib.hid ?_
  have c1 := HX3.out.cell 1 HC1.out
  have f3 := HX3.out.free
  go_step
  go_cut [7] (fun _ wx => Bx wx w1.heap.size (cs.set 1 (.int .i64 8)) ∧ Below w.heap.size w wx ∧ wx.heap.size = w1.heap.size + 1)
  case first =>
    go_wp2
    go_meet
    exact ⟨HX3.out.set 1 _, up_set HB3.out (p := ⟨w1.heap.size, 1, none⟩) hlow _, by rw [World.size_setCell]; exact HS3.out⟩
  obtain ⟨X4, B4, S4⟩ := hcut
  generalize wc = w4 at *
  have X5 := X4.later (by rw [HL1.out]; decide) (up_alloc (Below.refl _ _) (.cells #[.int .i64 1, .int .i64 1, .bool false] 50))
  have c12 := X5.cell 12 (by rw [List.getElem?_set_ne (by decide)]; exact HC12.out); have c13 := X5.cell 13 (by rw [List.getElem?_set_ne (by decide)]; exact HC13.out); have c14 := X5.cell 14 (by rw [List.getElem?_set_ne (by decide)]; exact HC14.out)
  have f4 := X5.free
  have HX5 := Lib.hid X5; have HB4 := Lib.hid B4; have HS4 := Lib.hid S4
  clear X4 X5 B4 S4 c1 f3 HX3 HB3 HS3 HZ HB HS
  go_step
  go_step
  go_cut [11] (fun _ wx => ∃ g, Bx wx w1.heap.size ((((cs.set 1 (.int .i64 8)).set 12 (.int .i64 2)).set 13 (.int .i64 1)).set 14 (.slice (some ⟨g, 0, none⟩) 1 1)) ∧ JobA wx ((((cs.set 1 (.int .i64 8)).set 12 (.int .i64 2)).set 13 (.int .i64 1)).set 14 (.slice (some ⟨g, 0, none⟩) 1 1)) exO ∧ Below w.heap.size w wx)
  case first =>
    go_wp2
    go_meet
    refine ⟨w4.heap.size, ((HX5.out.set 12 (.int .i64 2)).set 13 (.int .i64 1)).set 14 (.slice (some ⟨w4.heap.size, 0, none⟩) 1 1), ?_, ?_⟩
    · have N := (((Bx.new w4 50 [.int .i64 1, .int .i64 1, .bool false]).far (p := ⟨w1.heap.size, 12, none⟩) (by simp only; have := HS4.out; omega) (.int .i64 2)).far (p := ⟨w1.heap.size, 13, none⟩) (by simp only; have := HS4.out; omega) (.int .i64 1)).far (p := ⟨w1.heap.size, 14, none⟩) (by simp only; have := HS4.out; omega) (.slice (some ⟨w4.heap.size, 0, none⟩) 1 1)
      exact jobA_exO HJ.out _ (N.cell 0 rfl) (N.cell 1 rfl) (N.cell 2 rfl)
    · exact up_set (up_set (up_set (up_alloc HB4.out _) (p := ⟨w1.heap.size, 12, none⟩) hlow _) (p := ⟨w1.heap.size, 13, none⟩) hlow _) (p := ⟨w1.heap.size, 14, none⟩) hlow _
  obtain ⟨g, X6, J6, B6⟩ := hcut
  generalize wc = w6 at *
  have hl6 := HL5.out (.int .i64 2) (.int .i64 1) (.slice (some ⟨g, 0, none⟩) 1 1)
  generalize ((((cs.set 1 (.int .i64 8)).set 12 (.int .i64 2)).set 13 (.int .i64 1)).set 14 (.slice (some ⟨g, 0, none⟩) 1 1)) = ds at *
  have HX6 := Lib.hid X6; have HJ6 := Lib.hid J6; have HB6 := Lib.hid B6; have HL6 := Lib.hid hl6
  have hf : WfF exO := ⟨by decide, by decide⟩
  clear X6 J6 B6 hl6 HX5 HB4 HS4 c12 c13 c14 f4 HL5 HL1 HC1 HC12 HC13 HC14
  have i0 : Int64 0 := by unfold Int64; omega
  have i1 : Int64 1 := by unfold Int64; omega
  have i3 : Int64 3 := by unfold Int64; omega
  go_wp2_with (refine wpList_load_job rfl _ rfl w1.heap.size rfl ds HX6.out HL6.out ?_; simp only [Act.put, List.setIfInBounds_toArray, List.set_cons_succ, List.set_cons_zero])
  refine (HKL.out ds exO 0 0 1 _ HJ6.out hf (HG.out.below HB6.out) i0 i0 i1).mono ?_
  rw [exo_leaf.1, exo_leaf.2]
  rintro e w7 ⟨rfl, hb⟩
  have HX7 := Lib.hid (HX6.out.later (by rw [HL6.out]; decide) hb)
  have HA7 := Lib.hid (HJ6.out.up hb)
  have HB7 := Lib.hid (up_trans HB6.out hb)
  clear hb
  go_wp2_with (refine wpList_load_job rfl _ rfl w1.heap.size rfl ds HX7.out HL6.out ?_; simp only [Act.put, List.setIfInBounds_toArray, List.set_cons_succ, List.set_cons_zero])
  refine (HKP.out ds exO 3 _ HA7.out hf (HG.out.below HB7.out) i3).mono ?_
  rw [exo_page.1, exo_page.2]
  rintro e w8 ⟨rfl, hb⟩
  have HX8 := Lib.hid (HX7.out.later (by rw [HL6.out]; decide) hb)
  have HA8 := Lib.hid (HA7.out.up hb)
  have HB8 := Lib.hid (up_trans HB7.out hb)
  clear hb
  go_wp2_with (refine wpList_load_job_want _ rfl rfl w1.heap.size rfl ds HX8.out HL6.out ?_; simp only [Act.put, List.setIfInBounds_toArray, List.set_cons_succ, List.set_cons_zero])
  refine (HKC.out ds exO _ HA8.out hf (HG.out.below HB8.out)).mono ?_
  rw [exo_copies]
  rintro e w9 ⟨rfl, hb⟩
  have HB9 := Lib.hid (up_trans HB8.out hb)
  clear hb
  go_wp2
  go_ret
  exact ⟨rfl, HB9.out⟩
end Go.Proofs.YtbfigaadbfggcaaGreatDoor
/- What a row's list of variables gives dec.Put: the library's table of powers. -/
namespace Go.Proofs.YtbfigaadbfggcaaGreatDoor
open Go.RowKit

theorem laid_drop {P : Program} {W : World} : ∀ (i : Nat) {l : List (String × DataW Unit)}, laidMet P l W → laidMet P (l.drop i) W
  | 0, _, h => h
  | _ + 1, [], h => h
  | i + 1, _ :: _, h => laid_drop i h.tail
theorem gPow : Tryz.prog.globalNamed "internal/strconv.uint64pow10" = some 5 := by kernel_rfl
theorem tPow : (Tryz.prog.globals[5]?).map (·.type) = some 204 := by kernel_rfl
theorem cU64 : Tryz.prog.cellsOf 184 = 1 := by kernel_rfl
theorem cPow : Tryz.prog.cellsOf 204 = 20 := by kernel_rfl
/-- i: where the table stands in the list. -/
theorem tab_of {l : List (String × DataW Unit)} {W : World} (h : laidMet Tryz.prog l W) (i : Nat)
    (e1 : l.drop i = ("internal/strconv.uint64pow10", Lib.tabData .u64 Lib.pow10Tab) :: l.drop (i + 1)) : Tab W := by
  have h1 := laid_drop i h
  rw [e1] at h1
  exact Lib.tabIs_of_head gPow tPow Tryz.underlying204 Tryz.underlying184 cU64 cPow h1
end Go.Proofs.YtbfigaadbfggcaaGreatDoor
/- What a row's list of variables gives dec's calls: the library's table of powers and its two errors. -/
namespace Go.Proofs.YtbfigaadbfggcaaGreatDoor
open Go.RowKit DecMath

theorem gSyn : Tryz.prog.globalNamed "strconv.ErrSyntax" = some 3 := by kernel_rfl
theorem gRng : Tryz.prog.globalNamed "strconv.ErrRange" = some 4 := by kernel_rfl
theorem tSyn : (Tryz.prog.globals[3]?).map (·.type) = some 152 := by kernel_rfl
theorem tRng : (Tryz.prog.globals[4]?).map (·.type) = some 152 := by kernel_rfl
theorem cErr : Tryz.prog.cellsOf 197 = 1 := by kernel_rfl
theorem cStr : Tryz.prog.cellsOf 9 = 1 := by kernel_rfl
theorem star : "*" ++ "errors.errorString" = "*errors.errorString" := by decide
theorem rowErr (u : TypeId) (h : Tryz.prog.typeName? 3 u = some "*errors.errorString") : u = 195 :=
  typeName_ptr_named (nm := "errors.errorString") (by rw [star]; kernel_rfl) (by kernel_rfl) (by decide) u (by rw [star]; exact h)

/-- i, j, k: where the table, the range's error and the syntax's error stand in the list. -/
theorem good_of {l : List (String × DataW Unit)} {W : World} (h : laidMet Tryz.prog l W) (i j k : Nat)
    (e1 : l.drop i = ("internal/strconv.uint64pow10", Lib.tabData .u64 Lib.pow10Tab) :: l.drop (i + 1))
    (e2 : l.drop j = ("strconv.ErrRange", .iface "*errors.errorString" (.ptr (.agg [.lit (.string [118, 97, 108, 117, 101, 32, 111, 117, 116, 32, 111, 102, 32, 114, 97, 110, 103, 101])]))) :: l.drop (j + 1))
    (e3 : l.drop k = ("strconv.ErrSyntax", .iface "*errors.errorString" (.ptr (.agg [.lit (.string [105, 110, 118, 97, 108, 105, 100, 32, 115, 121, 110, 116, 97, 120])]))) :: l.drop (k + 1)) : Good W := by
  have h1 := laid_drop i h
  have h2 := laid_drop j h
  have h3 := laid_drop k h
  rw [e1] at h1
  rw [e2] at h2
  rw [e3] at h3
  obtain ⟨a2, s2, v2, -, -, -⟩ := laid_sentinel h2 gRng tRng Tryz.underlying152 rowErr Tryz.underlying195 Tryz.underlying197 rfl rfl Tryz.underlying9 cErr cStr
  obtain ⟨a3, s3, v3, -, -, -⟩ := laid_sentinel h3 gSyn tSyn Tryz.underlying152 rowErr Tryz.underlying195 Tryz.underlying197 rfl rfl Tryz.underlying9 cErr cStr
  exact ⟨Lib.tabIs_of_head gPow tPow Tryz.underlying204 Tryz.underlying184 cU64 cPow h1, ⟨_, _, v3⟩, _, _, v2⟩
end Go.Proofs.YtbfigaadbfggcaaGreatDoor
/- What a row's list of variables and the world's shape give scheme's calls. -/
namespace Go.Proofs.YtbfigaadbfggcaaGreatDoor
open Go.RowKit DecMath

/-- In every world of the program's shape the variable that Cut and Split read holds some number. -/
theorem mx_of {W : World} (h : W.ShapedOpen Tryz.prog) : Mx W :=
  cell_of_shapedOpen_int (g := 0) (t := 3) (zero := #[.int .i64 0]) h (of_decide_eq_true (by kernel_rfl)) (by kernel_rfl) rfl (by kernel_rfl) (by kernel_rfl) Tryz.underlying3
end Go.Proofs.YtbfigaadbfggcaaGreatDoor
/- gatherumlaw18.OrderOnce answers true, where order's functions answer as they are asked. -/
namespace Go.Proofs.YtbfigaadbfggcaaGreatDoor
open Go.RowKit
set_option linter.unusedVariables false
set_option linter.unusedSimpArgs false

set_option maxRecDepth 100000 in
set_option maxHeartbeats 2000000 in
theorem once_core (cs : List Value) (c x s b : Int) (a a' : Option Addr) (n cap k cap' : Nat) (u v ok : Bool) (w : World) (hL : cs.length = 33) (h14 : cs[14]? = some (.slice a n cap)) (h15 : cs[15]? = some (.slice a' k cap')) (hg : GoodM w)
    (e1 : decide (6 < k) = u) (e2 : decide (10 < n) = v) (hno : ok = false → s = 0 ∧ b = 0) (hyes : ok = true → 0 ≤ x)
    (KA : ∀ w1, Below w.heap.size w w1 → Calls Tryz.prog 7 #[] w1 fun e w' => e = .returned (.bool true) ∧ Below w1.heap.size w1 w')
    (KW : ∀ w1, Below w.heap.size w w1 → Calls Tryz.prog 13 #[.agg cs.toArray, .int .i64 c, .int .i64 x] w1 fun e w' => e = .returned (.tuple #[.int .i64 s, .int .i64 b, .bool ok]) ∧ Below w1.heap.size w1 w')
    (KL : ok = true → ∀ w1, Below w.heap.size w w1 → Calls Tryz.prog 12 #[.agg cs.toArray, .int .i64 s, .int .i64 c, .int .i64 b] w1 fun e w' => e = .returned (.tuple #[.int .i64 x, .bool true]) ∧ Below w1.heap.size w1 w') :
    Calls Tryz.prog 6 #[.agg cs.toArray, .int .i64 c, .int .i64 x] w fun e w' => e = .returned (.bool true) ∧ Below w.heap.size w w' := by
  have HX := Lib.hid (Bx.new w 29 cs)
  have HB := Lib.hid (up_alloc (Below.refl w.heap.size w) (.cells cs.toArray 29))
  have HL := Lib.hid hL; have H14 := Lib.hid h14; have H15 := Lib.hid h15
  have HA := Lib.hid KA; have HW := Lib.hid KW; have HK := Lib.hid KL; have HN := Lib.hid hno; have HY := Lib.hid hyes
  have e1' : decide ((6 : Int) < (k : Int)) = u := by rw [← e1, Bool.eq_iff_iff]; simp; omega
  have e2' : decide ((10 : Int) < (n : Int)) = v := by rw [← e2, Bool.eq_iff_iff]; simp; omega
  clear hL h14 h15 hg KA KW KL hno hyes
  go_enter Tryz.func6, Tryz.ntmps6
  go_wp2_with fail
  refine (HA.out _ HB.out).mono ?_
  rintro e w1 ⟨rfl, hb⟩
  have HX1 := Lib.hid (HX.out.later (by rw [HL.out]; decide) hb)
  have HB1 := Lib.hid (up_trans HB.out hb)
  have c14 := HX1.out.cell 14 H14.out; have c15 := HX1.out.cell 15 H15.out
  clear hb
  cases u
  · cases v
    · go_wp2_with (refine wpList_load_job rfl _ rfl w.heap.size rfl cs HX1.out HL.out ?_; simp only [Act.put, List.setIfInBounds_toArray, List.set_cons_succ, List.set_cons_zero])
      refine (HW.out _ HB1.out).mono ?_
      rintro e w2 ⟨rfl, hb⟩
      have HX2 := Lib.hid (HX1.out.later (by rw [HL.out]; decide) hb)
      have HB2 := Lib.hid (up_trans HB1.out hb)
      clear hb c14 c15
      cases ok
      · obtain ⟨rfl, rfl⟩ := HN.out rfl
        go_wp2
        go_ret
        exact ⟨rfl, HB2.out⟩
      · have hx := HY.out rfl
        have d1 : decide (0 ≤ x) = true := decide_eq_true hx
        go_wp2_with (refine wpList_load_job rfl _ rfl w.heap.size rfl cs HX2.out HL.out ?_; simp only [Act.put, List.setIfInBounds_toArray, List.set_cons_succ, List.set_cons_zero])
        refine (HK.out (by trivial) _ HB2.out).mono ?_
        rintro e w3 ⟨rfl, hb⟩
        have HB3 := Lib.hid (up_trans HB2.out hb)
        clear hb
        go_wp2
        go_ret
        exact ⟨rfl, HB3.out⟩
    · go_wp2
      go_ret
      exact ⟨rfl, HB1.out⟩
  · clear e2 e2'
    go_wp2
    go_ret
    exact ⟨rfl, HB1.out⟩
theorem walkOrderOnceK (KC : OrdCopies) (KL : OrdLeaf) (KW : OrdWhere) (KP : OrdPages) (cs : List Value) (j : Jb) (c x : Int) (w : World) (h : (JobA w cs j ∧ j.t.length ≤ maxLen ∧ ∀ p ∈ j.ls, p.length ≤ maxLen) ∧ (∀ i, -9223372036854775808 ≤ j.n i ∧ j.n i ≤ 9223372036854775807) ∧ j.f.c ≤ 9223372036854775807 ∧ j.f.r ≤ 9223372036854775807) (hc : (Lit.int .i64 c).wf = true) (hx : (Lit.int .i64 x).wf = true) (hg : GoodM w) :
    Calls Tryz.prog 6 #[.agg cs.toArray, .int .i64 c, .int .i64 x] w fun e w' => e = .returned (.bool true) ∧ Below w.heap.size w w' := by
  obtain ⟨⟨h, -, -⟩, -, hf⟩ := h
  obtain ⟨a, cp, a', c', h12, h13, h14, h15, hI, hT⟩ := h.cells
  refine once_core cs c x _ _ a a' _ cp _ c' _ _ (atO j c x).isSome w h.length h14 h15 hg rfl rfl (fun hn => ?_) (fun hy => ?_) (fun w1 hb => ordAlive_any KC KL KP w1 (hg.below hb))
    (fun w1 hb => KW cs j c x w1 (h.up hb) hf (hg.below hb) (int64_wf hc) (int64_wf hx)) (fun hy w1 hb => ?_)
  · rw [Option.isSome_eq_false_iff, Option.isNone_iff_eq_none] at hn
    rw [hn]
    exact ⟨rfl, rfl⟩
  · unfold atO at hy
    split at hy
    · cases hy
    · omega
  · unfold atO at hy ⊢
    split at hy
    · cases hy
    next hx0 =>
      obtain ⟨p, hp⟩ := Option.isSome_iff_exists.1 hy
      rw [if_neg hx0, hp]
      obtain ⟨h1, h2⟩ := book_leaf hp
      obtain ⟨-, -, b3, b4, b5⟩ := book_bounds hp
      have := KL cs j p.1 c p.2 w1 (h.up hb) hf (hg.below hb) (int64_nat (by omega)) (int64_wf hc) (int64_nat (by omega))
      rw [h1, h2, show ((x.toNat : Nat) : Int) = x by omega] at this
      exact this
end Go.Proofs.YtbfigaadbfggcaaGreatDoor
/- What gatherumref18.Book answers. -/
namespace Go.Proofs.YtbfigaadbfggcaaGreatDoor
open Go.RowKit
set_option linter.unusedVariables false
set_option linter.unusedSimpArgs false

set_option maxRecDepth 100000 in
theorem refBook_below (cs : List Value) (c : Int) (w : World) (hc : c < 0) :
    Calls Tryz.prog 11 #[.agg cs.toArray, .int .i64 c] w fun e w' => e = .returned (.slice none 0 0) ∧ Below w.heap.size w w' := by
  have HB := Lib.hid (up_alloc (Below.refl w.heap.size w) (.cells cs.toArray 29))
  generalize cs.toArray = ca at *
  go_enter Tryz.func11, Tryz.ntmps11
  go_wp2
  go_ret
  exact ⟨rfl, HB.out⟩
set_option maxRecDepth 100000 in
theorem refBook_above (cs : List Value) (c N : Int) (w : World) (hL : cs.length = 33) (hc : 0 ≤ c) (hN : N ≤ c)
    (KC : ∀ w1, Below w.heap.size w w1 → Calls Tryz.prog 10 #[.agg cs.toArray] w1 fun e w' => e = .returned (.int .i64 N) ∧ Below w1.heap.size w1 w') :
    Calls Tryz.prog 11 #[.agg cs.toArray, .int .i64 c] w fun e w' => e = .returned (.slice none 0 0) ∧ Below w.heap.size w w' := by
  have HX := Lib.hid (Bx.new w 29 cs)
  have HB := Lib.hid (up_alloc (Below.refl w.heap.size w) (.cells cs.toArray 29))
  have HL := Lib.hid hL; have HC := Lib.hid KC
  have z0 : decide (c < 0) = false := decide_eq_false (by omega)
  clear hL KC
  go_enter Tryz.func11, Tryz.ntmps11
  go_wp2_with (refine wpList_load_job_want _ rfl rfl w.heap.size rfl cs HX.out HL.out ?_; simp only [Act.put, List.setIfInBounds_toArray, List.set_cons_succ, List.set_cons_zero])
  refine (HC.out _ HB.out).mono ?_
  rintro e w1 ⟨rfl, hb⟩
  have HB1 := Lib.hid (up_trans HB.out hb)
  clear hb
  go_wp2
  go_ret
  exact ⟨rfl, HB1.out⟩
def BookFRel (b c : Int) (l : List Sc) (K : Nat) (w : World) (v i : Value) (wr : World) : Prop :=
  ∃ k : Nat, k ≤ K ∧ i = .int .i64 (k : Int) ∧ Hid (OwnF wr w.heap.size v (bookB b c l k)) ∧ Hid (Below w.heap.size w wr)
def PilesFRel (K P : Nat) (w : World) (v i : Value) (wr : World) : Prop :=
  ∃ n : Nat, n ≤ P ∧ i = .int .i64 (n : Int) ∧ Hid (OwnF wr w.heap.size v (pilesF K n)) ∧ Hid (Below w.heap.size w wr)
def PileFRel (K n : Nat) (w : World) (v i : Value) (wr : World) : Prop :=
  ∃ k : Nat, k ≤ K ∧ i = .int .i64 (k : Int) ∧ Hid (OwnF wr w.heap.size v (pilesF K n ++ rowF k n)) ∧ Hid (Below w.heap.size w wr)
theorem OwnF.base {w : World} {base : Nat} {v : Value} {l : List (Nat × Nat)} (h : OwnF w base v l) (b : Nat) (hb : b ≤ base) : OwnF w b v l := by
  refine ⟨h.1, ?_⟩
  rcases h.2 with h0 | ⟨g, cap, cur, rfl, h1, h2⟩
  · exact .inl h0
  · exact .inr ⟨g, cap, cur, rfl, by omega, h2⟩
theorem leafN_bound {n : Nat → Nat} (h : ∀ i, n i ≤ 64) : ∀ k, leafN n k ≤ k * 64
  | 0 => by simp [leafN]
  | k + 1 => by
    have := leafN_bound h k
    have := h k
    rw [leafN]
    omega

set_option maxRecDepth 100000 in
set_option maxHeartbeats 4000000 in
theorem refBook_in (cs : List Value) (b c N : Int) (f : Sc) (a : Option Addr) (fn cap : Nat) (l : List Sc) (K P : Nat) (w : World) (hL : cs.length = 33) (h11 : cs[11]? = some (.int .i64 b)) (h12 : cs[12]? = some (.int .i64 f.c)) (h13 : cs[13]? = some (.int .i64 f.r)) (h14 : cs[14]? = some (.slice a fn cap))
    (c0 : 0 ≤ c) (c1 : c < N) (hl : l.length = K) (hK : K ≤ 50000) (hp : ∀ i, panN l i ≤ 64) (hp1 : ∀ s ∈ l, 0 ≤ panS s) (hP : panM f.c f.r = (P : Int)) (hP2 : P ≤ 64) (R : List (Nat × Nat)) (hR1 : b = 3 → pilesF K P = R) (hR2 : b ≠ 3 → bookB b c l K = R)
    (KC : ∀ w1, Below w.heap.size w w1 → Calls Tryz.prog 10 #[.agg cs.toArray] w1 fun e w' => e = .returned (.int .i64 N) ∧ Below w1.heap.size w1 w')
    (KO : ∀ w1, Below w.heap.size w w1 → Calls Tryz.prog 20 #[.agg cs.toArray] w1 fun e w' => (∃ a cap, e = .returned (.slice a K cap) ∧ ScsA w' a l) ∧ Below w1.heap.size w1 w') :
    Calls Tryz.prog 11 #[.agg cs.toArray, .int .i64 c] w fun e w' => ∃ a cap, e = .returned (.slice a R.length cap) ∧ LfA w' a R ∧ Below w.heap.size w w' := by
  have HX := Lib.hid (Bx.new w 29 cs)
  have HB := Lib.hid (up_alloc (Below.refl w.heap.size w) (.cells cs.toArray 29))
  have HL := Lib.hid hL; have HC := Lib.hid KC; have HO := Lib.hid KO
  have H11 := Lib.hid h11; have H12 := Lib.hid h12; have H13 := Lib.hid h13; have H14 := Lib.hid h14
  have HLL := Lib.hid hl; have HP := Lib.hid hp; have HP1 := Lib.hid hp1
  have HLB := Lib.hid (fun k => (leafN_bound hp k))
  have KP := fun w1 => refPanels_any f.c f.r a fn cap w1
  rw [hP] at KP
  have HPF := Lib.hid KP; have HR1 := Lib.hid hR1; have HR2 := Lib.hid hR2
  have z0 : decide (c < 0) = false := decide_eq_false (by omega)
  clear hL KC KO h11 h12 h13 h14 hl hp hp1 KP hP hR1 hR2
  go_enter Tryz.func11, Tryz.ntmps11
  go_wp2_with (refine wpList_load_job_want _ rfl rfl w.heap.size rfl cs HX.out HL.out ?_; simp only [Act.put, List.setIfInBounds_toArray, List.set_cons_succ, List.set_cons_zero])
  refine (HC.out _ HB.out).mono ?_
  rintro e w1 ⟨rfl, hb⟩
  have HX1 := Lib.hid (HX.out.later (by rw [HL.out]; decide) hb)
  have HB1 := Lib.hid (up_trans HB.out hb)
  clear hb
  go_wp2_with (refine wpList_load_job rfl _ rfl w.heap.size rfl cs HX1.out HL.out ?_; simp only [Act.put, List.setIfInBounds_toArray, List.set_cons_succ, List.set_cons_zero])
  refine (HO.out _ HB1.out).mono ?_
  rintro e w2 ⟨⟨a2, cap2, rfl, hS⟩, hb⟩
  have HX2 := Lib.hid (HX1.out.later (by rw [HL.out]; decide) hb)
  have HB2 := Lib.hid (up_trans HB1.out hb)
  have HS := Lib.hid hS
  clear hb hS
  go_wp2
  go_loopw [6, 7] (fun v i wr => BookFRel b c l K w2 v i wr) (fun _ i _ => K - (intOf i).toNat)
  case atStart => exact ⟨0, by omega, by go_num, Lib.hid (OwnF.nil _ _), Lib.hid (Below.refl _ _)⟩
  case round =>
    obtain ⟨k, hk, rfl, HV, HW⟩ := hrel
    obtain ⟨av, cv, rfl, hA, hcv, hcm, ha1, ha2⟩ := HV.out.tells
    by_cases hlt : k < K
    · obtain ⟨s, hx⟩ : ∃ x, l[k]? = some x := ⟨l[k]'(by rw [HLL.out]; exact hlt), List.getElem?_eq_getElem _⟩
      obtain ⟨g, rfl, hc⟩ := HS.out.resolve_left (by rintro rfl; cases hx)
      obtain ⟨a1, c1', h0, h1, h2, -⟩ := hc k s hx
      have d0 := bl_cell HW.out h0; have d1 := bl_cell HW.out h1; have d2 := bl_cell HW.out h2
      have z1 : (0 : Int) ≤ (k : Int) := by omega
      have z3 : (k : Int) < (K : Int) := by omega
      have hpn : panM s.c s.r = ((panN l k : Nat) : Int) := by
        unfold panN
        rw [List.getD_eq_getElem?_getD, hx, Option.getD_some, Int.toNat_of_nonneg (HP1.out s (List.mem_of_getElem? hx))]
        rfl
      have KP1 := fun w1 => refPanels_any s.c s.r a1 s.l.length c1' w1
      rw [hpn] at KP1
      have KL := fun w1 => refLeavesF_any k (panN l k) w1 (by have := HP.out k; omega)
      have hsuc := bookB_succ b c l k
      have hn64 := HP.out k
      have hm := HLB.out k
      rw [← bookB_length b c] at hm
      have hm2 : (bookB b c l k).length ≤ 3200000 := by omega
      obtain ⟨n, hn⟩ : ∃ n, panN l k = n := ⟨_, rfl⟩
      obtain ⟨B, hB⟩ : ∃ B, bookB b c l k = B := ⟨_, rfl⟩
      obtain ⟨m, hml⟩ : ∃ m, B.length = m := ⟨_, rfl⟩
      rw [hn] at KP1 KL hsuc hn64
      rw [hB] at hsuc hm2 HV hA ⊢
      rw [hml] at hsuc hm2 ⊢
      have HK1 := Lib.hid KP1; have HKL := Lib.hid KL; have HSU := Lib.hid hsuc; have HAv := Lib.hid hA; have HML := Lib.hid hml
      rw [hB, hml] at hcv
      have ha1' := Lib.hid ha1; have ha2' := Lib.hid ha2
      clear KP1 KL hsuc hA hml hx hc h0 h1 h2 hpn hm hn hB ha1 ha2
      go_wp2_with fail
      refine (HK1.out _).mono ?_
      rintro e w3 ⟨rfl, hb⟩
      have HAv3 := Lib.hid (HAv.out.up hb)
      have HW3 := Lib.hid (up_trans HW.out hb)
      clear hb d0 d1 d2
      go_wp2_with fail
      refine (HKL.out _).mono ?_
      rintro e V ⟨vo, rfl, hOo, hb⟩
      obtain ⟨ao, co, rfl, hAo, -⟩ := hOo.tells
      rw [ownF_length]
      have HAvV := Lib.hid (HAv3.out.up hb)
      have HAo := Lib.hid hAo
      have HWV := Lib.hid (up_trans HW3.out hb)
      have c11 := (HX2.out.later (by rw [HL.out]; decide) HWV.out).cell 11 H11.out
      clear hb hOo hAo HAv HAv3 HV
      have hVs : w2.heap.size ≤ V.heap.size := HWV.out.size
      have hcv2 : m ≤ cv := hcv
      obtain ⟨t, ht⟩ : ∃ t, atM b c m = t := ⟨_, rfl⟩
      have htm : t ≤ m := by rw [← ht]; exact atM_le b c m
      have HSU2 := HSU.out
      rw [ht] at HSU2
      obtain ⟨r, hr⟩ : ∃ r, m - t = r := ⟨_, rfl⟩
      obtain ⟨cr, hcr⟩ : ∃ cr, cv - t = cr := ⟨_, rfl⟩
      obtain ⟨ad, hs2, hdr⟩ := slice_lft av m cv t htm hcv2 hcm ha1'.out ha2'.out
      have hs1 := fun w => slice_lfs av m cv t htm hcv2 hcm w
      rw [hr, hcr] at hs2
      have KT1 : ∀ x : Int, (t : Int) = x → ∀ w, (Instr.slice 33 (.slice av m cv) none (some (.int .i64 x)) none).run Tryz.prog w = .ok (.slice av t cv) w := by rintro _ rfl; exact hs1
      have KT2 : ∀ x : Int, (t : Int) = x → ∀ w, (Instr.slice 33 (.slice av m cv) (some (.int .i64 x)) none none).run Tryz.prog w = .ok (.slice ad r cr) w := by rintro _ rfl; exact hs2
      have HT1 := Lib.hid (HAvV.out.take t)
      have HT2 := Lib.hid (hdr V B HAvV.out HML.out)
      have hl1 : Hid ((B.take t).length = t) := Lib.hid (by rw [List.length_take, HML.out]; omega)
      have hl2 : Hid ((B.drop t).length = r) := Lib.hid (by rw [List.length_drop, HML.out]; exact hr)
      have HSU3 := Lib.hid HSU2
      have hrm : r ≤ 3200000 := by omega
      have htm2 : t ≤ 3200000 := by omega
      obtain ⟨vb, hvb⟩ : ∃ v, (b == 1) = v := ⟨_, rfl⟩
      obtain ⟨vc, hvc⟩ : ∃ v, (c == 1) = v := ⟨_, rfl⟩
      have hat : (vc = true → (t : Int) = 0) ∧ (vc = false → vb = true → (m : Int) / 2 = (t : Int) ∧ (m : Int).tdiv 2 = (t : Int)) ∧ (vc = false → vb = false → (t : Int) = (m : Int)) := by
        unfold atM at ht
        rw [← hvc, ← hvb]
        simp only [beq_iff_eq, beq_eq_false_iff_ne]
        refine ⟨fun h => by rw [if_pos h] at ht; omega, fun h1 h2 => ?_, fun h1 h2 => by rw [if_neg h1, if_neg h2] at ht; omega⟩
        rw [if_neg h1, if_pos h2] at ht
        exact ⟨by omega, by rw [Int.tdiv_eq_ediv_of_nonneg (by omega)]; omega⟩
      obtain ⟨hat1, hat2, hat3⟩ := hat
      clear hs1 hs2 hdr HSU HSU2 hr hcr ht hcv hcv2 hcm ha1' ha2' HAvV HLB HP HP1 htm
      cases vb <;> cases vc
      · have KS1 := KT1 _ (hat3 rfl rfl); have KS2 := KT2 _ (hat3 rfl rfl)
        clear KT1 KT2 hat1 hat2 hat3
        go_wp2_with (at_builtin; refine wpList_append_lfs rfl _ _ rfl V.heap.size (.slice none 0 0) [] rfl (OwnF.nil _ _) (Nat.le_refl _) av t cv rfl (B.take t) hl1.out HT1.out ?ln1a ?_)
        case ln1a => simp only [List.length_nil]; omega
        intro v1 w5 hO5 hb5
        have HO5 := Lib.hid hO5; have HB5 := Lib.hid hb5
        have HAo5 := Lib.hid (HAo.out.up hb5); have HT5 := Lib.hid (HT2.out.up hb5)
        have hs5 := hb5.size
        clear hO5 hb5
        go_wp2_with (at_builtin; refine wpList_append_lfs rfl _ _ rfl V.heap.size v1 (B.take t) rfl HO5.out hs5 ao n co rfl (ownF k n) (ownF_length k n) HAo5.out ?ln2a ?_)
        case ln2a => rw [hl1.out]; omega
        intro v2 w6 hO6 hb6
        have HO6 := Lib.hid hO6; have HB6 := Lib.hid (HB5.out.trans hb6)
        have HT6 := Lib.hid (HT2.out.up HB6.out)
        have hs6 := HB6.out.size
        clear hO6 hb6 HT5 HAo5 HO5
        go_wp2_with (at_builtin; refine wpList_append_lfs rfl _ _ rfl V.heap.size v2 (B.take t ++ ownF k n) rfl HO6.out hs6 ad r cr rfl (B.drop t) hl2.out HT6.out ?ln3a ?_)
        case ln3a => rw [List.length_append, hl1.out, ownF_length]; omega
        intro v3 w7 hO7 hb7
        rw [← List.append_assoc, ← HSU3.out] at hO7
        have HO7 := Lib.hid (hO7.base w2.heap.size hVs); have HB7 := Lib.hid (show Below w2.heap.size w2 w7 from up_trans HWV.out (HB6.out.trans hb7))
        clear hO7 hb7 HT6 HO6
        go_wp2
        go_roundw
        case rel => exact ⟨k + 1, by omega, by go_num, HO7, HB7⟩
        case measure => simp [intOf]; omega
      · have KS1 := KT1 _ (hat1 rfl); have KS2 := KT2 _ (hat1 rfl)
        clear KT1 KT2 hat1 hat2 hat3
        go_wp2_with (at_builtin; refine wpList_append_lfs rfl _ _ rfl V.heap.size (.slice none 0 0) [] rfl (OwnF.nil _ _) (Nat.le_refl _) av t cv rfl (B.take t) hl1.out HT1.out ?ln1b ?_)
        case ln1b => simp only [List.length_nil]; omega
        intro v1 w5 hO5 hb5
        have HO5 := Lib.hid hO5; have HB5 := Lib.hid hb5
        have HAo5 := Lib.hid (HAo.out.up hb5); have HT5 := Lib.hid (HT2.out.up hb5)
        have hs5 := hb5.size
        clear hO5 hb5
        go_wp2_with (at_builtin; refine wpList_append_lfs rfl _ _ rfl V.heap.size v1 (B.take t) rfl HO5.out hs5 ao n co rfl (ownF k n) (ownF_length k n) HAo5.out ?ln2b ?_)
        case ln2b => rw [hl1.out]; omega
        intro v2 w6 hO6 hb6
        have HO6 := Lib.hid hO6; have HB6 := Lib.hid (HB5.out.trans hb6)
        have HT6 := Lib.hid (HT2.out.up HB6.out)
        have hs6 := HB6.out.size
        clear hO6 hb6 HT5 HAo5 HO5
        go_wp2_with (at_builtin; refine wpList_append_lfs rfl _ _ rfl V.heap.size v2 (B.take t ++ ownF k n) rfl HO6.out hs6 ad r cr rfl (B.drop t) hl2.out HT6.out ?ln3b ?_)
        case ln3b => rw [List.length_append, hl1.out, ownF_length]; omega
        intro v3 w7 hO7 hb7
        rw [← List.append_assoc, ← HSU3.out] at hO7
        have HO7 := Lib.hid (hO7.base w2.heap.size hVs); have HB7 := Lib.hid (show Below w2.heap.size w2 w7 from up_trans HWV.out (HB6.out.trans hb7))
        clear hO7 hb7 HT6 HO6
        go_wp2
        go_roundw
        case rel => exact ⟨k + 1, by omega, by go_num, HO7, HB7⟩
        case measure => simp [intOf]; omega
      · obtain ⟨hq1, hq2⟩ := hat2 rfl rfl
        have KS1 := KT1 _ rfl; have KS2 := KT2 _ rfl
        clear KT1 KT2 hat1 hat2 hat3
        go_wp2_with (at_builtin; refine wpList_append_lfs rfl _ _ rfl V.heap.size (.slice none 0 0) [] rfl (OwnF.nil _ _) (Nat.le_refl _) av t cv rfl (B.take t) hl1.out HT1.out ?ln1c ?_)
        case ln1c => simp only [List.length_nil]; omega
        intro v1 w5 hO5 hb5
        have HO5 := Lib.hid hO5; have HB5 := Lib.hid hb5
        have HAo5 := Lib.hid (HAo.out.up hb5); have HT5 := Lib.hid (HT2.out.up hb5)
        have hs5 := hb5.size
        clear hO5 hb5
        go_wp2_with (at_builtin; refine wpList_append_lfs rfl _ _ rfl V.heap.size v1 (B.take t) rfl HO5.out hs5 ao n co rfl (ownF k n) (ownF_length k n) HAo5.out ?ln2c ?_)
        case ln2c => rw [hl1.out]; omega
        intro v2 w6 hO6 hb6
        have HO6 := Lib.hid hO6; have HB6 := Lib.hid (HB5.out.trans hb6)
        have HT6 := Lib.hid (HT2.out.up HB6.out)
        have hs6 := HB6.out.size
        clear hO6 hb6 HT5 HAo5 HO5
        go_wp2_with (at_builtin; refine wpList_append_lfs rfl _ _ rfl V.heap.size v2 (B.take t ++ ownF k n) rfl HO6.out hs6 ad r cr rfl (B.drop t) hl2.out HT6.out ?ln3c ?_)
        case ln3c => rw [List.length_append, hl1.out, ownF_length]; omega
        intro v3 w7 hO7 hb7
        rw [← List.append_assoc, ← HSU3.out] at hO7
        have HO7 := Lib.hid (hO7.base w2.heap.size hVs); have HB7 := Lib.hid (show Below w2.heap.size w2 w7 from up_trans HWV.out (HB6.out.trans hb7))
        clear hO7 hb7 HT6 HO6
        go_wp2
        go_roundw
        case rel => exact ⟨k + 1, by omega, by go_num, HO7, HB7⟩
        case measure => simp [intOf]; omega
      · have KS1 := KT1 _ (hat1 rfl); have KS2 := KT2 _ (hat1 rfl)
        clear KT1 KT2 hat1 hat2 hat3
        go_wp2_with (at_builtin; refine wpList_append_lfs rfl _ _ rfl V.heap.size (.slice none 0 0) [] rfl (OwnF.nil _ _) (Nat.le_refl _) av t cv rfl (B.take t) hl1.out HT1.out ?ln1d ?_)
        case ln1d => simp only [List.length_nil]; omega
        intro v1 w5 hO5 hb5
        have HO5 := Lib.hid hO5; have HB5 := Lib.hid hb5
        have HAo5 := Lib.hid (HAo.out.up hb5); have HT5 := Lib.hid (HT2.out.up hb5)
        have hs5 := hb5.size
        clear hO5 hb5
        go_wp2_with (at_builtin; refine wpList_append_lfs rfl _ _ rfl V.heap.size v1 (B.take t) rfl HO5.out hs5 ao n co rfl (ownF k n) (ownF_length k n) HAo5.out ?ln2d ?_)
        case ln2d => rw [hl1.out]; omega
        intro v2 w6 hO6 hb6
        have HO6 := Lib.hid hO6; have HB6 := Lib.hid (HB5.out.trans hb6)
        have HT6 := Lib.hid (HT2.out.up HB6.out)
        have hs6 := HB6.out.size
        clear hO6 hb6 HT5 HAo5 HO5
        go_wp2_with (at_builtin; refine wpList_append_lfs rfl _ _ rfl V.heap.size v2 (B.take t ++ ownF k n) rfl HO6.out hs6 ad r cr rfl (B.drop t) hl2.out HT6.out ?ln3d ?_)
        case ln3d => rw [List.length_append, hl1.out, ownF_length]; omega
        intro v3 w7 hO7 hb7
        rw [← List.append_assoc, ← HSU3.out] at hO7
        have HO7 := Lib.hid (hO7.base w2.heap.size hVs); have HB7 := Lib.hid (show Below w2.heap.size w2 w7 from up_trans HWV.out (HB6.out.trans hb7))
        clear hO7 hb7 HT6 HO6
        go_wp2
        go_roundw
        case rel => exact ⟨k + 1, by omega, by go_num, HO7, HB7⟩
        case measure => simp [intOf]; omega
    · obtain rfl : k = K := by omega
      have X := HX2.out.later (by rw [HL.out]; decide) HW.out
      have c11 := X.cell 11 H11.out
      by_cases hb3 : b = 3
      · subst hb3
        have hR := HR1.out rfl
        clear HR2
        obtain ⟨V, hV⟩ : ∃ V, V = wr := ⟨_, rfl⟩
        subst hV
        have HXV := Lib.hid X
        have HBV := Lib.hid (up_trans HB2.out HW.out)
        clear X HV hA HS HLL HP HP1 HLB HX HX1 HX2
        go_wp2
        clear c11
        go_loopw [11, 12] (fun v i wr => PilesFRel k P V v i wr) (fun _ i _ => P - (intOf i).toNat)
        case atStart => exact ⟨0, by omega, by go_num, Lib.hid (OwnF.nil _ _), Lib.hid (Below.refl _ _)⟩
        case round =>
          obtain ⟨n, hn, rfl, HO1, HW1⟩ := hrel
          have X := HXV.out.later (by rw [HL.out]; decide) HW1.out
          have c12 := X.cell 12 H12.out; have c13 := X.cell 13 H13.out; have c14 := X.cell 14 H14.out
          clear X
          by_cases hlt2 : n < P
          · go_wp2_with fail
            refine (HPF.out _).mono ?_
            rintro e w3 ⟨rfl, hb⟩
            have HO3 := Lib.hid (HO1.out.up hb)
            have HW3 := Lib.hid (up_trans HW1.out hb)
            clear hb c12 c13 c14 HO1
            go_wp2
            go_loopw [11, 13] (fun v i wr => PileFRel k n V v i wr) (fun _ i _ => k - (intOf i).toNat)
            case atStart => exact ⟨0, by omega, by go_num, Lib.hid (by simpa [rowF] using HO3.out), HW3⟩
            case round =>
              obtain ⟨q, hq, rfl, HO4, HW4⟩ := hrel
              obtain ⟨aq, cq, rfl, -⟩ := HO4.out.tells
              have hlen : (pilesF k n ++ rowF q n).length ≤ 10000000 := by
                rw [List.length_append, pilesF_length, rowF_length]
                have : n * k ≤ 64 * 50000 := Nat.mul_le_mul (by omega) hK
                omega
              have HLs := Lib.hid (show (pilesF k n ++ rowF q n) ++ [(q, n)] = pilesF k n ++ rowF (q + 1) n by rw [rowF_succ, List.append_assoc])
              have HLk := Lib.hid (show q = k → pilesF k n ++ rowF q n = pilesF k (n + 1) by rintro rfl; rfl)
              obtain ⟨Lq, hLq⟩ : ∃ L, pilesF k n ++ rowF q n = L := ⟨_, rfl⟩
              rw [hLq] at hlen HO4 HLs HLk ⊢
              clear hLq
              by_cases hlt3 : q < k
              · have hbs : V.heap.size ≤ wr.heap.size := HW4.out.size
                go_wp2_with (at_builtin; refine wpList_append_lf rfl _ _ rfl V.heap.size (.slice aq Lq.length cq) Lq rfl HO4.out hbs q n wr.heap.size rfl rfl ?lnp ?_)
                case lnp => exact hlen
                intro g2 cp2 w5 hO5 hb5
                rw [HLs.out] at hO5
                have HO5 := Lib.hid hO5
                have HW5 := Lib.hid (show Below V.heap.size V w5 from HW4.out.trans hb5)
                clear hO5 hb5
                go_wp2
                go_roundw
                case rel => exact ⟨q + 1, by omega, by go_num, HO5, HW5⟩
                case measure => simp [intOf]; omega
              · obtain rfl : q = k := by omega
                have HO5 := Lib.hid (show OwnF wr V.heap.size (.slice aq Lq.length cq) (pilesF q (n + 1)) from HLk.out rfl ▸ HO4.out)
                go_wp2
                go_roundw
                case rel => exact ⟨n + 1, by omega, by go_num, HO5, HW4⟩
                case measure => simp [intOf]; omega
          · obtain rfl : n = P := by omega
            obtain ⟨aq, cq, rfl, hAq, -⟩ := HO1.out.tells
            rw [hR] at hAq ⊢
            have HAq := Lib.hid hAq
            clear hAq HO1
            go_wp2_with fail
            refine (HPF.out _).mono ?_
            rintro e w3 ⟨rfl, hb⟩
            have HA3 := Lib.hid (HAq.out.up hb)
            have HB3 := Lib.hid (up_trans HBV.out (up_trans HW1.out hb))
            clear hb c12 c13 c14
            go_wp2
            exact bodyPost_ret (v := .slice aq R.length cq) (by simp [results, Tryz.results11, go_sem]) rfl ⟨_, _, rfl, HA3.out, HB3.out⟩
      · rw [HR2.out hb3] at hA ⊢
        have z3 : (b != 3) = true := by simpa using hb3
        have HA := Lib.hid hA
        have HBV := Lib.hid (up_trans HB2.out HW.out)
        clear X HV hA HS HLL HP HP1 HLB
        go_wp2
        exact bodyPost_ret (v := .slice av R.length cv) (by simp [results, Tryz.results11, go_sem]) rfl ⟨_, _, rfl, HA.out, HBV.out⟩
theorem refBook_any (cs : List Value) (j : Jb) (c : Int) (w : World) (h : JobA w cs j) (hf : WfF j) (hl : j.f.l.length ≤ 1000000) :
    Calls Tryz.prog 11 #[.agg cs.toArray, .int .i64 c] w fun e w' => ∃ a cap, e = .returned (.slice a (bookM j c).length cap) ∧ LfA w' a (bookM j c) ∧ Below w.heap.size w w' := by
  obtain ⟨a, cp, a', c', h12, h13, h14, h15, hI, hT⟩ := h.cells
  have KC := fun w1 (hb : Below w.heap.size w w1) => refCopies_any cs j w1 (h.up hb) hf hl
  by_cases hc : c < 0
  · rw [bookM_none (.inl hc)]
    exact (refBook_below cs c w hc).mono fun e w' ⟨he, hb⟩ => ⟨none, 0, he, .inl rfl, hb⟩
  by_cases hN : copM j ≤ c
  · rw [bookM_none (.inr hN)]
    exact (refBook_above cs c (copM j) w h.length (by omega) hN KC).mono fun e w' ⟨he, hb⟩ => ⟨none, 0, he, .inl rfl, hb⟩
  have hno : ¬ (c < 0 ∨ copM j ≤ c) := by omega
  obtain ⟨hm, -⟩ := cop_may hno
  obtain ⟨-, hp, -⟩ := may_facts hm
  obtain ⟨p1, -⟩ := part_facts hp
  refine refBook_in cs (j.n 10) c (copM j) j.f a _ cp (ofM j) _ (panJ j) w h.length (h.num (k := 10) (by decide)) h12 h13 h14 (by omega) (by omega) rfl (of_small j) (panN_small j) (fun s hs => by have := of_scheme j s hs; omega)
    (by unfold panJ; rw [Int.toNat_of_nonneg (by omega)]; rfl) (by unfold panJ; omega) (bookM j c) (fun h3 => ?_) (fun h3 => ?_) KC
    (fun w1 hb => (refSpOf_any cs j w1 (h.up hb) hf hl).mono fun e w' ⟨a, cap, he, hs, hb⟩ => ⟨⟨a, cap, he, hs⟩, hb⟩)
  · unfold bookM
    rw [if_neg hno, if_pos h3]
  · unfold bookM
    rw [if_neg hno, if_neg h3]
end Go.Proofs.YtbfigaadbfggcaaGreatDoor
