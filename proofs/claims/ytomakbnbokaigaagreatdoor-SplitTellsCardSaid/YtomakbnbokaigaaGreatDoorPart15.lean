/- Part 15 of the texts that the proofs of this seat share: RefPut, Usual, SplitPart, AppendNone, SplitAt, ScRows, SplitOf. -/
import Derived.Test.YtomakbnbokaigaaGreatDoorPart14
import Derived.Test.YtomakbnbokaigaaGreatDoorPart5
import Derived.Deep.DeepCutAuto
import Derived.Test.YtomakbnbokaigaaGreatDoorPart13
import Derived.Test.YtomakbnbokaigaaGreatDoorPart4
import Derived.Deep.AppendLies
import Derived.Laws.OwnMore
import Derived.Tactics
/- What the reference's Put and Set answer, for every job. -/
namespace Go.Proofs.YtomakbnbokaigaaGreatDoor
open Go.RowKit
set_option linter.unusedVariables false

/-- The zero job's cells. -/
def zeroL : List Value := jobL ⟨#[]⟩ (fun _ => 0) 0 0 (.slice none 0 0) (.slice none 0 0)
theorem job_alloc (w : World) : (Instr.alloc 29 true (.tuple #[])).run Tryz.prog w = .ok (.pointer (some ⟨w.heap.size, 0, none⟩)) (w.alloc (.cells zeroL.toArray 29)) := by
  kernel_rfl
theorem enc_set (n : Nat → Int) {k : Nat} (hk : k < 28) (z : Int) : (enc (numsL n)).set k (.int .i64 z) = enc (numsL (setN n k z)) := by
  rcases num_ways hk with rfl | rfl | rfl | rfl | rfl | rfl | rfl | rfl | rfl | rfl | rfl | rfl | rfl | rfl | rfl | rfl | rfl | rfl | rfl | rfl | rfl | rfl | rfl | rfl | rfl | rfl | rfl | rfl <;> rfl
theorem enc_there (n : Nat → Int) {k : Nat} (hk : k < 28) : (enc (numsL n))[k]? = some (.int .i64 (n k)) := by
  unfold enc
  rw [List.getElem?_map, numsL_at n hk]; rfl
/-- The first k numbers, and zeros. -/
def firstN (k : Nat) (n : Nat → Int) : Nat → Int := fun i => if i < k then n i else 0

/-- What stands while the reference's Put lays one number behind another one: the first i are laid. -/
def PutRel (w : World) (g g2 : Nat) (t : ByteArray) (m : Nat → Int) (c r : Int) (fv lv : Value) (i : Nat) (wx : World) : Prop :=
  Bx wx g2 (jobL t (firstN i m) c r fv lv) ∧ Bx wx g (enc (numsL m)) ∧ Bx wx (w.heap.size + 1) zeroL ∧ Below w.heap.size w wx
theorem firstN_next (i : Nat) (m : Nat → Int) : setN (firstN i m) i (m i) = firstN (i + 1) m := by
  funext j
  unfold setN firstN
  by_cases h : j = i
  · subst h; simp
  · have : (j < i + 1) = (j < i) := by apply propext; omega
    rw [if_neg h]
    simp only [this]
theorem PutRel.put {w : World} {g g2 : Nat} {t : ByteArray} {m : Nat → Int} {c r : Int} {fv lv : Value} {wx : World} {i : Nat} (h : PutRel w g g2 t m c r fv lv i wx) (hn : g ≠ g2 ∧ w.heap.size + 1 ≠ g2 ∧ w.heap.size ≤ g2) (hi : i < 28) : PutRel w g g2 t m c r fv lv (i + 1) (wx.setCell ⟨g2, cellJ i, none⟩ (.int .i64 (m i))) := by
  refine ⟨?_, h.2.1.far (p := ⟨g2, cellJ i, none⟩) (fun e => hn.1 e.symm) _, h.2.2.1.far (p := ⟨g2, cellJ i, none⟩) (fun e => hn.2.1 e.symm) _, h.2.2.2.setCell (p := ⟨g2, cellJ i, none⟩) hn.2.2 _⟩
  have := h.1.set (cellJ i) (.int .i64 (m i))
  rwa [job_set _ _ _ _ _ _ hi, firstN_next] at this
theorem firstN_all (t : ByteArray) (m : Nat → Int) (c r : Int) (fv lv : Value) : jobL t (firstN 28 m) c r fv lv = jobL t m c r fv lv := rfl

end Go.Proofs.YtomakbnbokaigaaGreatDoor
/- The usual job, as the program and the reference tell it. -/
namespace Go.Proofs.YtomakbnbokaigaaGreatDoor
open Go.RowKit
set_option linter.unusedVariables false
set_option linter.unusedSimpArgs false

def usualL : List Int := [16, 0, 0, 148000, 210000, 3000, 5000, 5000, 5000, 0, 1, 1, 640000, 900000, 10000, 12000, 8000, 100, 1, 1, 0, 5000, 3000, 100, 20000, 5000, 10, 0]
def usualN (i : Nat) : Int := usualL.getD i 0
def usualF : Sc := ⟨2, 2, [⟨3, 1, false⟩, ⟨1, 1, false⟩]⟩
/-- The usual job. -/
def usualJ : Jb := ⟨[98, 111, 111, 107], usualN, usualF, []⟩
theorem keep_sets (w : World) (B o : Nat) (ws : List Value) : ∀ p : Addr, p.block ≠ B → ∀ v, w.cell? p = some v → (w.setCells B o ws).cell? p = some v := fun p hp v hv => by
  rw [World.cell?_setCells_out B ws o w p (fun e _ => absurd e hp)]
  exact hv
theorem find_usual : findM [70, 56, 45, 49] = some usualF := by decide +kernel
theorem usual_first : firstJ usualN = -1 := by decide +kernel

/-- A job is built out of its parts, in a region that does not draw its order. -/
theorem wpList_build_job {ops : Array Oper} {rest : List Oper} {o : Oper} {a : Act} {w : World} {Q : Exit → Act → World → Prop} (hg : o.guard = none) (parts : Array (Nat × Operand)) (ho : o.op = .build 29 parts) (cells : Array Value)
    (hc : Tryz.prog.built 29 (parts.map fun (i, x) => (i, a.eval x)).toList = some cells) (h : wpList Tryz.prog ops Q rest (a.put o.dst (.agg cells)) w) : wpList Tryz.prog ops Q (o :: rest) a w :=
  wpList_build_to hg _ parts ho cells hc h

set_option maxRecDepth 100000 in
theorem refUsual_any (w : World) : Calls Tryz.prog 22 #[] w fun e w' => ∃ cs, e = .returned (.agg cs.toArray) ∧ JobF w.heap.size w' cs usualJ ∧ Below w.heap.size w w' := by
  have HR := Bx.new w 29 zeroL
  have HB := up_alloc (Below.refl w.heap.size w) (.cells zeroL.toArray 29)
  have HZ := World.size_alloc w (.cells zeroL.toArray 29)
  obtain ⟨w1, hw1⟩ : ∃ w1, w.alloc (.cells zeroL.toArray 29) = w1 := ⟨_, rfl⟩
  have R2 := HR.later (by decide) (up_alloc (Below.refl _ _) (.cells #[.int .i64 3, .int .i64 1, .bool false, .int .i64 1, .int .i64 1, .bool false] 52))
  have B2 := up_alloc HB (.cells #[.int .i64 3, .int .i64 1, .bool false, .int .i64 1, .int .i64 1, .bool false] 52)
  have S2 := Bx.new (w.alloc (.cells zeroL.toArray 29)) 52 [.int .i64 3, .int .i64 1, .bool false, .int .i64 1, .int .i64 1, .bool false]
  rw [hw1] at R2 B2 S2 HZ
  have HR2 := Lib.hid R2; have HB2 := Lib.hid B2; have HS2 := Lib.hid S2; have HZ2 := Lib.hid HZ; have HW := Lib.hid hw1
  clear R2 B2 S2 HR HB HZ hw1
  go_enter Tryz.func22, Tryz.ntmps22
  go_wp2_with (first
    | (refine wpList_alloc_to rfl 29 rfl _ _ (job_alloc _) ?_; simp only [Act.put, HW.out, List.setIfInBounds_toArray, List.set_cons_succ, List.set_cons_zero])
    | (refine wpList_build_job rfl _ rfl (jobL (tx usualJ.t) usualN 2 2 (.slice (some ⟨w1.heap.size, 0, none⟩) 2 2) (.slice none 0 0)).toArray ?_ ?_; kernel_rfl; simp only [Act.put, List.setIfInBounds_toArray, List.set_cons_succ, List.set_cons_zero])
    | (refine wpList_store_job rfl _ _ rfl w.heap.size rfl zeroL (jobL (tx usualJ.t) usualN 2 2 (.slice (some ⟨w1.heap.size, 0, none⟩) 2 2) (.slice none 0 0)) rfl HR2.out rfl rfl (job_one _ _ _ _ _ _ _ _ _ _) ?_; simp only [Act.put]))
  have hz := HZ2.out
  have R3 := HR2.out.sets (ws := jobL (tx usualJ.t) usualN 2 2 (.slice (some ⟨w1.heap.size, 0, none⟩) 2 2) (.slice none 0 0)) rfl
  have B3 := below_setCells (Nat.le_refl w.heap.size) (jobL (tx usualJ.t) usualN 2 2 (.slice (some ⟨w1.heap.size, 0, none⟩) 2 2) (.slice none 0 0)) 0 _ HB2.out
  have S3 := sets_far HS2.out (show w1.heap.size ≠ w.heap.size by omega) 0 (jobL (tx usualJ.t) usualN 2 2 (.slice (some ⟨w1.heap.size, 0, none⟩) 2 2) (.slice none 0 0))
  refine bodyPost_ret (v := .agg (jobL (tx usualJ.t) usualN 2 2 (.slice (some ⟨w1.heap.size, 0, none⟩) 2 2) (.slice none 0 0)).toArray) (results_wide Tryz.results22 w.heap.size rfl _ _ R3.range Tryz.underlying29 rfl infoJob) rfl
    ⟨_, rfl, ⟨some ⟨w1.heap.size, 0, none⟩, 2, none, 0, rfl, .inr ⟨w1.heap.size, 0, rfl, by omega, fun j p hp => ?_⟩, .inl rfl⟩, B3⟩
  match j, hp with
  | 0, hp => cases hp; exact ⟨S3.cell 0 rfl, S3.cell 1 rfl, S3.cell 2 rfl⟩
  | 1, hp => cases hp; exact ⟨S3.cell 3 rfl, S3.cell 4 rfl, S3.cell 5 rfl⟩
  | j + 2, hp => simp [usualJ, usualF] at hp
end Go.Proofs.YtomakbnbokaigaaGreatDoor
/- What split.part answers. -/
namespace Go.Proofs.YtomakbnbokaigaaGreatDoor
open Go.RowKit
set_option linter.unusedVariables false
set_option linter.unusedSimpArgs false

theorem zero_part : (Tryz.prog.info? 47).map (·.size) = some 7 := by kernel_rfl

set_option maxHeartbeats 1000000 in
theorem spPart_no (cs : List Value) (N : Int) (u v : Bool) (w : World) (h1 : cs[1]? = some (.int .i64 N)) (hL : cs.length = 33) (h : (u && v) = false)
    (KL : ∀ w1, Below w.heap.size w w1 → Calls Tryz.prog 10 #[.agg cs.toArray] w1 fun e w' => e = .returned (.bool u) ∧ Below w1.heap.size w1 w')
    (KI : ∀ w1, Calls Tryz.prog 23 #[.int .i64 N, .int .i64 1, .int .i64 100000] w1 fun e w' => e = .returned (.bool v) ∧ w1 = w') :
    Calls Tryz.prog 31 #[.agg cs.toArray] w fun e w' => e = .returned (.agg #[.int .i64 0, .int .i64 0, .int .i64 0, .slice none 0 0, .int .i64 0, .int .i64 0, .slice none 0 0]) ∧ Below w.heap.size w w' := by
  have X1 := (Bx.new w 29 cs)
  have U1 := up_alloc (Below.refl w.heap.size w) (.cells cs.toArray 29)
  have V1 := up_alloc (Below.refl _ (w.alloc (.cells cs.toArray 29))) (.cells #[.int .i64 0, .int .i64 0, .int .i64 0, .slice none 0 0, .int .i64 0, .int .i64 0, .slice none 0 0] 47)
  have HX := Lib.hid (X1.later (by rw [hL]; decide) V1)
  have HB := Lib.hid (up_trans U1 V1)
  have R1 := Bx.new (w.alloc (.cells cs.toArray 29)) 47 [.int .i64 0, .int .i64 0, .int .i64 0, .slice none 0 0, .int .i64 0, .int .i64 0, .slice none 0 0]
  rw [World.size_alloc] at R1
  have HR := Lib.hid R1
  have HL := Lib.hid hL; have HKL := Lib.hid KL; have HKI := Lib.hid KI
  clear X1 U1 V1 R1 hL KL KI
  go_enter Tryz.func31, Tryz.ntmps31
  go_wp2_with (refine wpList_load_job rfl _ rfl w.heap.size rfl cs HX.out HL.out ?_; simp only [Act.put, List.setIfInBounds_toArray, List.set_cons_succ, List.set_cons_zero])
  refine (HKL.out _ HB.out).mono ?_
  rintro e w1 ⟨rfl, hb⟩
  have b1 := (HX.out.later (by rw [HL.out]; decide) hb).cell 1 h1
  have R2 := HR.out.up hb
  have B1 := Lib.hid (up_trans HB.out hb)
  have p0 := R2.cell 0 rfl; have p1 := R2.cell 1 rfl; have p2 := R2.cell 2 rfl; have p3 := R2.cell 3 rfl; have p4 := R2.cell 4 rfl; have p5 := R2.cell 5 rfl; have p6 := R2.cell 6 rfl
  have pf := R2.free
  clear hb
  have R3 := ((((((R2.set 0 (.int .i64 0)).set 1 (.int .i64 0)).set 2 (.int .i64 0)).set 3 (.slice none 0 0)).set 4 (.int .i64 0)).set 5 (.int .i64 0)).set 6 (.slice none 0 0)
  have q0 := R3.cell 0 rfl; have q1 := R3.cell 1 rfl; have q2 := R3.cell 2 rfl; have q3 := R3.cell 3 rfl; have q4 := R3.cell 4 rfl; have q5 := R3.cell 5 rfl; have q6 := R3.cell 6 rfl
  have B3 := up_set (up_set (up_set (up_set (up_set (up_set (up_set B1.out (p := ⟨w.heap.size + 1, 0, none⟩) (by simp only; omega) (.int .i64 0)) (p := ⟨w.heap.size + 1, 1, none⟩) (by simp only; omega) (.int .i64 0)) (p := ⟨w.heap.size + 1, 2, none⟩) (by simp only; omega) (.int .i64 0)) (p := ⟨w.heap.size + 1, 3, none⟩) (by simp only; omega) (.slice none 0 0)) (p := ⟨w.heap.size + 1, 4, none⟩) (by simp only; omega) (.int .i64 0)) (p := ⟨w.heap.size + 1, 5, none⟩) (by simp only; omega) (.int .i64 0)) (p := ⟨w.heap.size + 1, 6, none⟩) (by simp only; omega) (.slice none 0 0)
  have HQ := Lib.hid (And.intro q0 (And.intro q1 (And.intro q2 (And.intro q3 (And.intro q4 (And.intro q5 q6))))))
  have HB3 := Lib.hid B3
  clear R3 q0 q1 q2 q3 q4 q5 q6 B3 R2
  cases u
  · go_wp2
    obtain ⟨q0, q1, q2, q3, q4, q5, q6⟩ := HQ.out
    exact bodyPost_ret (v := .agg #[.int .i64 0, .int .i64 0, .int .i64 0, .slice none 0 0, .int .i64 0, .int .i64 0, .slice none 0 0]) (by simp [results, Tryz.results31, go_sem, q0, q1, q2, q3, q4, q5, q6]) rfl ⟨rfl, HB3.out⟩
  · obtain rfl : v = false := by simpa using h
    go_wp2_with fail
    refine (HKI.out _).mono ?_
    rintro e w2 ⟨rfl, rfl⟩
    go_wp2
    obtain ⟨q0, q1, q2, q3, q4, q5, q6⟩ := HQ.out
    exact bodyPost_ret (v := .agg #[.int .i64 0, .int .i64 0, .int .i64 0, .slice none 0 0, .int .i64 0, .int .i64 0, .slice none 0 0]) (by simp [results, Tryz.results31, go_sem, q0, q1, q2, q3, q4, q5, q6]) rfl ⟨rfl, HB3.out⟩

set_option maxRecDepth 100000 in
set_option maxHeartbeats 1000000 in
theorem spPart_yes (cs : List Value) (N c r q o z rst m : Int) (a : Option Addr) (n cap : Nat) (E : Sc) (w : World) (h1 : cs[1]? = some (.int .i64 N)) (h12 : cs[12]? = some (.int .i64 c)) (h13 : cs[13]? = some (.int .i64 r)) (h14 : cs[14]? = some (.slice a n cap)) (hL : cs.length = 33)
    (n1 : 1 ≤ N) (n2 : N ≤ 100000) (q1 : 2 ≤ q) (q2 : q ≤ 128) (ho : (N - 1).tdiv q = o) (o1 : 0 ≤ o) (o2 : o < 50000) (hz : o * q = z) (z1 : 0 ≤ z) (z2 : z ≤ 100000) (hr : N - z = rst) (hm : o + 1 = m)
    (KL : ∀ w1, Below w.heap.size w w1 → Calls Tryz.prog 10 #[.agg cs.toArray] w1 fun e w' => e = .returned (.bool true) ∧ Below w1.heap.size w1 w')
    (KI : ∀ w1, Calls Tryz.prog 23 #[.int .i64 N, .int .i64 1, .int .i64 100000] w1 fun e w' => e = .returned (.bool true) ∧ w1 = w')
    (KT : ∀ w1, Calls Tryz.prog 44 #[.agg #[.int .i64 c, .int .i64 r, .slice a n cap]] w1 fun e w' => e = .returned (.int .i64 q) ∧ Below w1.heap.size w1 w')
    (KE : ∀ w1, Below w.heap.size w w1 → w.heap.size + 2 ≤ w1.heap.size → Calls Tryz.prog 45 #[.agg cs.toArray, .int .i64 rst] w1 fun e w' => ∃ a1 c1, e = .returned (.agg #[.int .i64 E.c, .int .i64 E.r, .slice a1 E.l.length c1]) ∧ LiG (fun b => b ≠ w.heap.size + 1) w' a1 E.l ∧ Below w1.heap.size w1 w') :
    Calls Tryz.prog 31 #[.agg cs.toArray] w fun e w' => ∃ a1 c1, e = .returned (.agg #[.int .i64 m, .int .i64 c, .int .i64 r, .slice a n cap, .int .i64 E.c, .int .i64 E.r, .slice a1 E.l.length c1]) ∧ InL w' a1 E.l ∧ Below w.heap.size w w' := by
  have X1 := (Bx.new w 29 cs)
  have U1 := up_alloc (Below.refl w.heap.size w) (.cells cs.toArray 29)
  have V1 := up_alloc (Below.refl _ (w.alloc (.cells cs.toArray 29))) (.cells #[.int .i64 0, .int .i64 0, .int .i64 0, .slice none 0 0, .int .i64 0, .int .i64 0, .slice none 0 0] 47)
  have HX := Lib.hid (X1.later (by rw [hL]; decide) V1)
  have HB := Lib.hid (up_trans U1 V1)
  have R1 := Bx.new (w.alloc (.cells cs.toArray 29)) 47 [.int .i64 0, .int .i64 0, .int .i64 0, .slice none 0 0, .int .i64 0, .int .i64 0, .slice none 0 0]
  rw [World.size_alloc] at R1
  have HR := Lib.hid R1
  have HL := Lib.hid hL; have HKL := Lib.hid KL; have HKI := Lib.hid KI; have HKT := Lib.hid KT; have HKE := Lib.hid KE
  have H12 := Lib.hid h12; have H13 := Lib.hid h13; have H14 := Lib.hid h14; have H1 := Lib.hid h1
  have hq : ¬ q = 0 := by omega
  have hqb : (q == 0) = false := by simp; omega
  clear X1 U1 V1 R1 hL KL KI KT KE h12 h13 h14 h1
  go_enter Tryz.func31, Tryz.ntmps31
  go_wp2_with (refine wpList_load_job rfl _ rfl w.heap.size rfl cs HX.out HL.out ?_; simp only [Act.put, List.setIfInBounds_toArray, List.set_cons_succ, List.set_cons_zero])
  refine (HKL.out _ HB.out).mono ?_
  rintro e w1 ⟨rfl, hb⟩
  have X2 := HX.out.later (by rw [HL.out]; decide) hb
  have b1 := X2.cell 1 H1.out
  have R2 := Lib.hid (HR.out.up hb)
  have B1 := Lib.hid (up_trans HB.out hb)
  clear hb
  go_wp2_with fail
  refine (HKI.out _).mono ?_
  rintro e w2 ⟨rfl, rfl⟩
  have b12 := X2.cell 12 H12.out; have b13 := X2.cell 13 H13.out; have b14 := X2.cell 14 H14.out
  have X2h := Lib.hid X2
  clear X2
  go_wp2_with fail
  have j1 := fun x : Later w1 => x.cell b1
  have j12 := fun x : Later w1 => x.cell b12
  have j13 := fun x : Later w1 => x.cell b13
  have j14 := fun x : Later w1 => x.cell b14
  clear b1 b12 b13 b14
  refine later_start (w := w1) ?_
  intro x
  refine wp_region_later (by kernel_rfl) (by kernel_rfl) ?_
  repeat (go_big_quiet_step ((go_at_call 44; with_reducible exact Later.call (HKT.out _))))
  refine wpQuiet_nil ?_
  rintro _ ⟨x2, rfl⟩
  have X3 := Lib.hid (X2h.out.later (by rw [HL.out]; decide) x2.up)
  have R3 := Lib.hid (R2.out.up x2.up)
  have B3 := Lib.hid (up_trans B1.out x2.up)
  obtain ⟨w3, hw3⟩ : ∃ w3, x2.now = w3 := ⟨_, rfl⟩
  rw [hw3] at X3 R3 B3 ⊢
  clear hw3 j1 j12 j13 j14 x2 x
  have b1 := X3.out.cell 1 H1.out; have b12 := X3.out.cell 12 H12.out; have b13 := X3.out.cell 13 H13.out; have b14 := X3.out.cell 14 H14.out
  have j1 := fun x : Held w.heap.size w3 => x.cell b1
  have j12 := fun x : Held w.heap.size w3 => x.cell b12
  have j13 := fun x : Held w.heap.size w3 => x.cell b13
  have j14 := fun x : Held w.heap.size w3 => x.cell b14
  have HRG := Lib.hid (held_range X3.out)
  have hlow := R3.out.lt
  clear b1 b12 b13 b14
  go_wp2_with fail
  refine wp_region_callsS (fun w' => ∃ u : Held w.heap.size w3, w' = u.now) [([0, 1, 2, 3, 4, 5, 6, 7, 8, 9], 10), ([11, 12], 13), ([14], 15)] [] (by kernel_rfl) (by kernel_rfl) rfl (fun _ _ d _ _ h => by cases d <;> exact h) (held_drew _ _) ?_
  refine walkC_take _ rfl (fun K0 hK0 => ?_)
  simp only [List.map_cons, List.map_nil, List.getD_cons_zero, List.getD_cons_succ]
  repeat (first
    | (go_big_quiet_want; refine quiet_load_job _ rfl w.heap.size rfl cs HL.out HRG.out ?_; simp only [Act.put, List.setIfInBounds_toArray, List.set_cons_succ, List.set_cons_zero]; go_big_quiet_on)
    | go_big_quiet_step (fail))
  refine wpQuiet_nil (hK0.out _ (fun K hK => ?_))
  go_simp
  refine (HKT.out _).mono ?_
  rintro e w4 ⟨rfl, hb⟩
  have C4 := Lib.hid (up_trans (up_drew (Below.refl _ w3)) hb)
  refine hK.out _ _ (held_up C4.out) ?_
  clear hK K hK0 K0 hb
  try simp only [List.setIfInBounds_toArray, List.set_cons_zero, List.set_cons_succ]
  refine walkC_take _ rfl (fun K0 hK0 => ?_)
  simp only [List.map_cons, List.map_nil, List.getD_cons_zero, List.getD_cons_succ]
  repeat (go_big_quiet_step (fail))
  refine wpQuiet_nil (hK0.out _ (fun K hK => ?_))
  go_simp
  refine (HKE.out _ (up_trans B3.out C4.out) (by have := C4.out.size; omega)).mono ?_
  rintro e w5 ⟨a1, c1, rfl, hE, hb⟩
  have C5 := Lib.hid (up_trans C4.out hb)
  have HE := Lib.hid hE
  refine hK.out _ _ (held_up C5.out) ?_
  clear hK K hK0 K0 hb hE
  try simp only [List.setIfInBounds_toArray, List.set_cons_zero, List.set_cons_succ]
  refine walkC_take _ rfl (fun K0 hK0 => ?_)
  simp only [List.map_cons, List.map_nil, List.getD_cons_zero, List.getD_cons_succ]
  repeat (go_big_quiet_step (fail))
  refine wpQuiet_nil (hK0.out _ (fun K hK => ?_))
  refine (if_pos (by kernel_rfl)).mpr ?_
  refine wp_store_mid 47 _ _ rfl (w.heap.size + 1) 0 #[.int .i64 m, .int .i64 c, .int .i64 r, .slice a n cap, .int .i64 E.c, .int .i64 E.r, .slice a1 E.l.length c1] rfl rfl ?there zero_part (by simp; exact ⟨rfl, rfl, rfl, rfl, rfl, rfl, rfl⟩) ?_
  case there => exact (R3.out.up C5.out).present
  have C6 := held_sets (B := w.heap.size) C5.out (B' := w.heap.size + 1) (by omega) 0 [.int .i64 m, .int .i64 c, .int .i64 r, .slice a n cap, .int .i64 E.c, .int .i64 E.r, .slice a1 E.l.length c1]
  refine hK.out _ _ C6 ?_
  clear hK K hK0 K0 C6
  try simp only [List.setIfInBounds_toArray, List.set_cons_zero, List.set_cons_succ]
  refine walkC_last (fun K0 hK0 => ?_)
  simp only [List.map_nil]
  refine wpQuiet_nil (hK0.out _ ?_)
  clear hK0 K0
  have R6 := (R3.out.up C5.out).sets (ws := [.int .i64 m, .int .i64 c, .int .i64 r, .slice a n cap, .int .i64 E.c, .int .i64 E.r, .slice a1 E.l.length c1]) rfl
  have B6 := below_setCells (B := w.heap.size + 1) (show w.heap.size ≤ w.heap.size + 1 by omega) [.int .i64 m, .int .i64 c, .int .i64 r, .slice a n cap, .int .i64 E.c, .int .i64 E.r, .slice a1 E.l.length c1] 0 _ (up_trans B3.out C5.out)
  have E6 := (HE.out.keep (B := w.heap.size + 1) (fun h => h rfl) (keep_sets _ (w.heap.size + 1) 0 [.int .i64 m, .int .i64 c, .int .i64 r, .slice a n cap, .int .i64 E.c, .int .i64 E.r, .slice a1 E.l.length c1])).inL
  have HR6 := Lib.hid R6; have HB6 := Lib.hid B6; have HE6 := Lib.hid E6
  clear R6 B6 E6
  go_wp2
  exact bodyPost_ret (v := .agg #[.int .i64 m, .int .i64 c, .int .i64 r, .slice a n cap, .int .i64 E.c, .int .i64 E.r, .slice a1 E.l.length c1]) (results_wide Tryz.results31 (w.heap.size + 1) rfl _ _ HR6.out.range Tryz.underlying47 rfl zero_part) rfl ⟨a1, c1, rfl, HE6.out, HB6.out⟩

/-- The schemes of all signatures but the last one, and of the last one. -/
def partF (j : Jb) : Sc := if partB j = true then j.f else zeroSc
def partE (j : Jb) : Sc := if partB j = true then lastS j else zeroSc
theorem spPart_any (cs : List Value) (j : Jb) (w : World) (h : JobA w cs j) (hf : WfF j) (hg : GoodM w) :
    Calls Tryz.prog 31 #[.agg cs.toArray] w fun e w' => ∃ a1 c1 a2 c2, e = .returned (.agg #[.int .i64 (cntS j), .int .i64 (partF j).c, .int .i64 (partF j).r, .slice a1 (partF j).l.length c1, .int .i64 (partE j).c, .int .i64 (partE j).r, .slice a2 (partE j).l.length c2])
      ∧ InL w' a1 (partF j).l ∧ InL w' a2 (partE j).l ∧ Below w.heap.size w w' := by
  obtain ⟨a, c, a', c', h12, h13, h14, h15, hI, hT⟩ := h.cells
  have h1 : cs[1]? = some (.int .i64 (j.n 0)) := h.num (k := 0) (by decide)
  have KL := fun w1 (hb : Below w.heap.size w w1) => spLast_any cs j w1 (h.up hb) hf (hg.below hb)
  have KI := fun w1 => in_any (j.n 0) 1 100000 w1
  by_cases hp : partB j = true
  · have hp2 := hp
    unfold partB at hp2
    rw [Bool.and_eq_true] at hp2
    obtain ⟨p1, p2, p3, -⟩ := part_facts hp
    obtain ⟨o1, o2, r1, r2, z2, z1⟩ := others_bounds p3.1 p3.2 p1.1
    simp only [hp2.1] at KL
    simp only [hp2.2] at KI
    have e1 : cntS j = othersM (j.n 0) (panS j.f) + 1 := by unfold cntS; rw [if_pos hp]
    have e2 : partF j = j.f := by unfold partF; rw [if_pos hp]
    have e3 : partE j = lastS j := by unfold partE; rw [if_pos hp]
    rw [e1, e2, e3]
    refine (spPart_yes cs (j.n 0) j.f.c j.f.r (2 * panM j.f.c j.f.r) (othersM (j.n 0) (panS j.f)) _ (restM2 (j.n 0) (panS j.f)) _ a _ c (lastS j) w h1 h12 h13 h14 h.length p3.1 p3.2 (by unfold panS at p1; omega) (by unfold panS at p1; omega) rfl o1 o2 rfl z1 z2 rfl rfl KL KI (fun w1 => spTakes_any _ _ _ _ _ w1) (fun w1 hb hs => ?_)).mono ?_
    · refine spEnd_any cs j _ w1 (h.up hb) (hg.below hb) (fun b => b ≠ w.heap.size + 1) (fun b hb2 => by omega) (fun a0 c0 h0 => ?_)
      rw [h14] at h0
      injection h0 with h0
      injection h0 with h0 h0' h0''
      subst h0
      exact (hI.liG.up hb).mono fun b hb2 => by omega
    · rintro e w' ⟨a1, c1, rfl, hE, hb⟩
      exact ⟨a, c, a1, c1, rfl, hI.up hb, hE, hb⟩
  · have hp2 : (lastM j && (decide (1 ≤ j.n 0) && decide (j.n 0 ≤ 100000))) = false := by
      rw [← Bool.not_eq_true]
      exact hp
    have e1 : cntS j = 0 := by unfold cntS; rw [if_neg hp]
    have e2 : partF j = zeroSc := by unfold partF; rw [if_neg hp]
    have e3 : partE j = zeroSc := by unfold partE; rw [if_neg hp]
    rw [e1, e2, e3]
    exact (spPart_no cs (j.n 0) _ _ w h1 h.length hp2 KL KI).mono fun e w' ⟨he, hb⟩ => ⟨none, 0, none, 0, he, .inl rfl, .inl rfl, hb⟩
end Go.Proofs.YtomakbnbokaigaaGreatDoor
/- append to a nil slice: of a slice without elements; of steps that lie somewhere. -/
namespace Go.Proofs.YtomakbnbokaigaaGreatDoor
open Go.RowKit
set_option linter.unusedVariables false

theorem run_append_zero {P : Program} {w : World} (t ty e : TypeId) (i : TypeInfo) (ht : P.underlying t = some (.slice e)) (hi : P.info? e = some i) (ad : Option Addr) (c : Nat) :
    (Builtin.append_ #[t, t] ty #[.slice none 0 0, .slice ad 0 c]).run P w = .ok (.slice none 0 0) w := by
  cases ad <;> simp [Builtin.append_, run_underlying ht, sizeOf, typeInfo, hi, Builtin.lenOf, Builtin.firstCells, loadCells, loadCellsFrom]
theorem wpList_append_zero {P : Program} {w : World} {ops : Array Oper} {rest : List Oper} {o : Oper} {a : Act} {Q : Exit → Act → World → Prop} (hgd : o.guard = none) (s x : Operand) (t : TypeId)
    (ho : o.op = .call { callee := .builtin .append, args := #[s, x], argTypes := #[t, t] }) (e : TypeId) (i : TypeInfo) (ht : P.underlying t = some (.slice e)) (hi : P.info? e = some i)
    (hs : a.eval s = .slice none 0 0) (ad : Option Addr) (c : Nat) (hx : a.eval x = .slice ad 0 c)
    (h : wpList P ops Q rest (a.put o.dst (.slice none 0 0)) w) : wpList P ops Q (o :: rest) a w := by
  refine wpList_plain hgd fun K hK => ?_
  have hrun := run_append_zero (P := P) (w := w) t o.type e i ht hi ad c
  unfold Oper.wp
  simp [execOp, ho, resolve, invoke, builtin, hs, hx, hrun, Result.andThen]
  exact hK _ _ h
/-- Steps that lie somewhere, appended to a nil slice: a new list. -/
theorem wpList_append_steps {u : World} {ops : Array Oper} {rest : List Oper} {o : Oper} {a : Act} {Q : Exit → Act → World → Prop} (hgd : o.guard = none) (s x : Operand)
    (ho : o.op = .call { callee := .builtin .append, args := #[s, x], argTypes := #[24, 24] })
    (hs : a.eval s = .slice none 0 0) (l : List Sp) (n c : Nat) (hn : l.length = n) (ad : Option Addr) (hx : a.eval x = .slice ad n c) (hl : n ≤ 1000000) (hI : InL u ad l)
    (h : ∀ a2 c2 w', InF u.heap.size w' a2 l → Below u.heap.size u w' → wpList Tryz.prog ops Q rest (a.put o.dst (.slice a2 n c2)) w') : wpList Tryz.prog ops Q (o :: rest) a u := by
  obtain ⟨i0, hi0, hz0, hz1, hz2⟩ := info_parts Tryz.infoStep
  subst hn
  by_cases h0 : l.length = 0
  · rw [h0] at hx
    refine wpList_append_zero hgd s x 24 ho 52 i0 Tryz.underlying24 hi0 hs ad c hx ?_
    have := h none 0 u (.inl (List.eq_nil_of_length_eq_zero h0)) (Below.refl _ _)
    rw [h0] at this
    exact this
  · rcases hI with rfl | ⟨b, off, rfl, hI⟩
    · exact absurd rfl h0
    refine wpList_append_lies _ hgd s x 24 ho u.heap.size 52 i0 _ 3 24 Tryz.underlying24 hi0 hz0 hz1 hz2 rfl (by omega) _ 0 [] hs (World.ownsRow_nil _ _ _ _) ⟨b, off, none⟩ l.length c (flatS l) hx (flatS_length l) ?_ (flatS_one l) (by omega) (by unfold maxLen; omega) (by omega) (Nat.le_refl _) _ rfl ?_
    · intro j v hj
      rw [Addr.add_mid]
      exact flatS_read l b off u hI j v hj
    · intro g cap w1 hown hgrow hat hlt
      simp only [Nat.zero_add, List.nil_append] at hown ⊢
      have hr : rowP w1 u.heap.size (.slice (some ⟨g, 0, none⟩) l.length cap) l := hown
      exact h _ cap w1 hr.inF (Below.grown (Below.refl _ _) hgrow (Nat.le_refl _) (fun k hk => by simp [Value.ownBlock] at hk))
end Go.Proofs.YtomakbnbokaigaaGreatDoor
/- What at and leaves of a parting answer; Count, Leaves and Blanks. -/
namespace Go.Proofs.YtomakbnbokaigaaGreatDoor
open Go.RowKit
set_option linter.unusedVariables false
set_option linter.unusedSimpArgs false

set_option maxHeartbeats 1000000 in
theorem spAt_core (n i fc fr ec er : Int) (l : List Sp) (fn en m : Nat) (fa ea : Option Addr) (fk ek : Nat) (u : Bool) (w : World) (n1 : 0 ≤ n) (n2 : n ≤ 100000) (hu : (i == n - 1) = u) (hl : l.length = m) (hm : m ≤ 1000000) (he : (if u = true then en else fn) = m) (hI : InL w (if u = true then ea else fa) l) :
    Calls Tryz.prog 32 #[.agg #[.int .i64 n, .int .i64 fc, .int .i64 fr, .slice fa fn fk, .int .i64 ec, .int .i64 er, .slice ea en ek], .int .i64 i] w fun e w' => ∃ a c, e = .returned (.agg #[.int .i64 (if u = true then ec else fc), .int .i64 (if u = true then er else fr), .slice a m c]) ∧ InF w.heap.size w' a l ∧ Below w.heap.size w w' := by
  have X1 := Bx.new w 47 [.int .i64 n, .int .i64 fc, .int .i64 fr, .slice fa fn fk, .int .i64 ec, .int .i64 er, .slice ea en ek]
  have U1 := up_alloc (Below.refl w.heap.size w) (.cells #[.int .i64 n, .int .i64 fc, .int .i64 fr, .slice fa fn fk, .int .i64 ec, .int .i64 er, .slice ea en ek] 47)
  obtain ⟨P, hP⟩ : ∃ P, Obj.cells #[.int .i64 n, .int .i64 fc, .int .i64 fr, .slice fa fn fk, .int .i64 ec, .int .i64 er, .slice ea en ek] 47 = P := ⟨_, rfl⟩
  have X2 := X1.alloc (.cells #[.int .i64 0, .int .i64 0, .slice none 0 0] 26)
  have X3 := X2.alloc (.cells #[.int .i64 fc, .int .i64 fr, .slice fa fn fk] 26)
  have b1 := X2.cell 1 rfl; have b2 := X2.cell 2 rfl; have b3 := X2.cell 3 rfl
  have d0 := X3.cell 0 rfl; have d4 := X3.cell 4 rfl; have d5 := X3.cell 5 rfl; have d6 := X3.cell 6 rfl
  have HL := Lib.hid hl; have HI := Lib.hid hI; have HU1 := Lib.hid U1
  clear X1 X2 X3 hl hI hP U1
  rename Hid (Below w.heap.size w _) => U1
  cases u
  · simp only [Bool.false_eq_true, if_false] at he HI ⊢
    subst he
    go_enter Tryz.func32, Tryz.ntmps32
    go_wp2_with (at_builtin; refine wpList_append_steps rfl _ _ rfl rfl l _ _ HL.out _ rfl hm ?inl ?_)
    case inl => exact ((HI.out.up U1.out).up (up_alloc (Below.refl _ _) (.cells #[.int .i64 0, .int .i64 0, .slice none 0 0] 26))).up (up_alloc (Below.refl _ _) (.cells #[.int .i64 fc, .int .i64 fr, .slice fa fn fk] 26))
    intro a2 c2 w4 hF hb0
    have hb : Below (((w.alloc (.cells #[.int .i64 n, .int .i64 fc, .int .i64 fr, .slice fa fn fk, .int .i64 ec, .int .i64 er, .slice ea en ek] 47)).alloc (.cells #[.int .i64 0, .int .i64 0, .slice none 0 0] 26)).alloc (.cells #[.int .i64 fc, .int .i64 fr, .slice fa fn fk] 26)).heap.size (((w.alloc (.cells #[.int .i64 n, .int .i64 fc, .int .i64 fr, .slice fa fn fk, .int .i64 ec, .int .i64 er, .slice ea en ek] 47)).alloc (.cells #[.int .i64 0, .int .i64 0, .slice none 0 0] 26)).alloc (.cells #[.int .i64 fc, .int .i64 fr, .slice fa fn fk] 26)) w4 := by simp only [World.size_alloc]; exact hb0
    have S := (Bx.new ((w.alloc (.cells #[.int .i64 n, .int .i64 fc, .int .i64 fr, .slice fa fn fk, .int .i64 ec, .int .i64 er, .slice ea en ek] 47)).alloc (.cells #[.int .i64 0, .int .i64 0, .slice none 0 0] 26)) 26 [.int .i64 fc, .int .i64 fr, .slice fa fn fk]).up hb
    have R := ((Bx.new (w.alloc (.cells #[.int .i64 n, .int .i64 fc, .int .i64 fr, .slice fa fn fk, .int .i64 ec, .int .i64 er, .slice ea en ek] 47)) 26 [.int .i64 0, .int .i64 0, .slice none 0 0]).alloc (.cells #[.int .i64 fc, .int .i64 fr, .slice fa fn fk] 26)).up hb
    have B4 := Lib.hid (up_trans (up_trans U1.out (up_alloc (up_alloc (Below.refl _ _) (.cells #[.int .i64 0, .int .i64 0, .slice none 0 0] 26)) (.cells #[.int .i64 fc, .int .i64 fr, .slice fa fn fk] 26))) hb)
    simp only [World.size_alloc] at S R hF
    have S5 := S.set 2 (.slice a2 fn c2)
    have R5 := R.far (p := ⟨w.heap.size + 1 + 1, 2, none⟩) (by simp only; omega) (.slice a2 fn c2)
    have R6 := R5.set3 (.int .i64 fc) (.int .i64 fr) (.slice a2 fn c2)
    have sf := S.free
    have s0 := S5.cell 0 rfl; have s1 := S5.cell 1 rfl; have s2 := S5.cell 2 rfl
    have t0 := S.cell 0 rfl; have t1 := S.cell 1 rfl; have t2 := S.cell 2 rfl
    have r0 := R5.cell 0 rfl; have r1 := R5.cell 1 rfl; have r2 := R5.cell 2 rfl; have rf := R5.free
    have p0 := Lib.hid (R6.cell 0 rfl); have p1 := Lib.hid (R6.cell 1 rfl); have p2 := Lib.hid (R6.cell 2 rfl)
    have HF := Lib.hid hF
    clear S R S5 R5 R6 hF hb hb0
    go_wp2
    have q0 := p0.out; have q1 := p1.out; have q2 := p2.out
    refine bodyPost_ret (v := .agg #[.int .i64 fc, .int .i64 fr, .slice a2 fn c2]) (by simp [results, Tryz.results32, go_sem, q0, q1, q2]) rfl ⟨a2, c2, rfl, ?_, ?_⟩
    · have F4 := HF.out
      refine InF.mono (base := w.heap.size + 1 + 1 + 1) ?_ (by omega)
      exact (((F4.set (p := ⟨w.heap.size + 1 + 1, 2, none⟩) (by simp only; omega) _).set (p := ⟨w.heap.size + 1, 0, none⟩) (by simp only; omega) _).set (p := ⟨w.heap.size + 1, 1, none⟩) (by simp only; omega) _).set (p := ⟨w.heap.size + 1, 2, none⟩) (by simp only; omega) _
    · exact up_set (up_set (up_set (up_set B4.out (by simp only; omega) _) (by simp only; omega) _) (by simp only; omega) _) (by simp only; omega) _
  · simp only [if_true] at he HI ⊢
    subst he
    go_enter Tryz.func32, Tryz.ntmps32
    go_wp2_with (at_builtin; refine wpList_append_steps rfl _ _ rfl rfl l _ _ HL.out _ rfl hm ?inl ?_)
    case inl => exact ((HI.out.up U1.out).up (up_alloc (Below.refl _ _) (.cells #[.int .i64 0, .int .i64 0, .slice none 0 0] 26))).up (up_alloc (Below.refl _ _) (.cells #[.int .i64 ec, .int .i64 er, .slice ea en ek] 26))
    intro a2 c2 w4 hF hb0
    have hb : Below (((w.alloc (.cells #[.int .i64 n, .int .i64 fc, .int .i64 fr, .slice fa fn fk, .int .i64 ec, .int .i64 er, .slice ea en ek] 47)).alloc (.cells #[.int .i64 0, .int .i64 0, .slice none 0 0] 26)).alloc (.cells #[.int .i64 ec, .int .i64 er, .slice ea en ek] 26)).heap.size (((w.alloc (.cells #[.int .i64 n, .int .i64 fc, .int .i64 fr, .slice fa fn fk, .int .i64 ec, .int .i64 er, .slice ea en ek] 47)).alloc (.cells #[.int .i64 0, .int .i64 0, .slice none 0 0] 26)).alloc (.cells #[.int .i64 ec, .int .i64 er, .slice ea en ek] 26)) w4 := by simp only [World.size_alloc]; exact hb0
    have S := (Bx.new ((w.alloc (.cells #[.int .i64 n, .int .i64 fc, .int .i64 fr, .slice fa fn fk, .int .i64 ec, .int .i64 er, .slice ea en ek] 47)).alloc (.cells #[.int .i64 0, .int .i64 0, .slice none 0 0] 26)) 26 [.int .i64 ec, .int .i64 er, .slice ea en ek]).up hb
    have R := ((Bx.new (w.alloc (.cells #[.int .i64 n, .int .i64 fc, .int .i64 fr, .slice fa fn fk, .int .i64 ec, .int .i64 er, .slice ea en ek] 47)) 26 [.int .i64 0, .int .i64 0, .slice none 0 0]).alloc (.cells #[.int .i64 ec, .int .i64 er, .slice ea en ek] 26)).up hb
    have B4 := Lib.hid (up_trans (up_trans U1.out (up_alloc (up_alloc (Below.refl _ _) (.cells #[.int .i64 0, .int .i64 0, .slice none 0 0] 26)) (.cells #[.int .i64 ec, .int .i64 er, .slice ea en ek] 26))) hb)
    simp only [World.size_alloc] at S R hF
    have S5 := S.set 2 (.slice a2 en c2)
    have R5 := R.far (p := ⟨w.heap.size + 1 + 1, 2, none⟩) (by simp only; omega) (.slice a2 en c2)
    have R6 := R5.set3 (.int .i64 ec) (.int .i64 er) (.slice a2 en c2)
    have sf := S.free
    have s0 := S5.cell 0 rfl; have s1 := S5.cell 1 rfl; have s2 := S5.cell 2 rfl
    have t0 := S.cell 0 rfl; have t1 := S.cell 1 rfl; have t2 := S.cell 2 rfl
    have r0 := R5.cell 0 rfl; have r1 := R5.cell 1 rfl; have r2 := R5.cell 2 rfl; have rf := R5.free
    have p0 := Lib.hid (R6.cell 0 rfl); have p1 := Lib.hid (R6.cell 1 rfl); have p2 := Lib.hid (R6.cell 2 rfl)
    have HF := Lib.hid hF
    clear S R S5 R5 R6 hF hb hb0
    go_wp2
    have q0 := p0.out; have q1 := p1.out; have q2 := p2.out
    refine bodyPost_ret (v := .agg #[.int .i64 ec, .int .i64 er, .slice a2 en c2]) (by simp [results, Tryz.results32, go_sem, q0, q1, q2]) rfl ⟨a2, c2, rfl, ?_, ?_⟩
    · have F4 := HF.out
      refine InF.mono (base := w.heap.size + 1 + 1 + 1) ?_ (by omega)
      exact (((F4.set (p := ⟨w.heap.size + 1 + 1, 2, none⟩) (by simp only; omega) _).set (p := ⟨w.heap.size + 1, 0, none⟩) (by simp only; omega) _).set (p := ⟨w.heap.size + 1, 1, none⟩) (by simp only; omega) _).set (p := ⟨w.heap.size + 1, 2, none⟩) (by simp only; omega) _
    · exact up_set (up_set (up_set (up_set B4.out (by simp only; omega) _) (by simp only; omega) _) (by simp only; omega) _) (by simp only; omega) _

theorem spLeaves_core (n fc fr ec er k p pe z s : Int) (fa ea : Option Addr) (fn fk en ek : Nat) (w : World) (n1 : 0 ≤ n) (n2 : n ≤ 100000) (hk : n - 1 = k) (hz : k * p = z) (hs : z + pe = s) (z1 : -1000000000 ≤ z) (z2 : z ≤ 1000000000) (p1 : 0 ≤ pe) (p2 : pe ≤ 4096)
    (KF : ∀ w1, Calls Tryz.prog 24 #[.agg #[.int .i64 fc, .int .i64 fr, .slice fa fn fk]] w1 fun e w' => e = .returned (.int .i64 p) ∧ Below w1.heap.size w1 w')
    (KE : ∀ w1, Calls Tryz.prog 24 #[.agg #[.int .i64 ec, .int .i64 er, .slice ea en ek]] w1 fun e w' => e = .returned (.int .i64 pe) ∧ Below w1.heap.size w1 w') :
    Calls Tryz.prog 33 #[.agg #[.int .i64 n, .int .i64 fc, .int .i64 fr, .slice fa fn fk, .int .i64 ec, .int .i64 er, .slice ea en ek]] w fun e w' => e = .returned (.int .i64 s) ∧ Below w.heap.size w w' := by
  have X := Bx.new w 47 [.int .i64 n, .int .i64 fc, .int .i64 fr, .slice fa fn fk, .int .i64 ec, .int .i64 er, .slice ea en ek]
  have B := Lib.hid (up_alloc (Below.refl w.heap.size w) (.cells #[.int .i64 n, .int .i64 fc, .int .i64 fr, .slice fa fn fk, .int .i64 ec, .int .i64 er, .slice ea en ek] 47))
  have HF := Lib.hid KF; have HE := Lib.hid KE
  clear KF KE
  go_enter Tryz.func33, Tryz.ntmps33
  go_wp2_with fail
  obtain ⟨w1, hw1⟩ : ∃ w1, w.alloc (.cells #[.int .i64 n, .int .i64 fc, .int .i64 fr, .slice fa fn fk, .int .i64 ec, .int .i64 er, .slice ea en ek] 47) = w1 := ⟨_, rfl⟩
  rw [hw1] at X B ⊢
  clear hw1
  have j0 := fun x : Later w1 => x.cell (X.cell 0 rfl)
  have j1 := fun x : Later w1 => x.cell (X.cell 1 rfl)
  have j2 := fun x : Later w1 => x.cell (X.cell 2 rfl)
  have j3 := fun x : Later w1 => x.cell (X.cell 3 rfl)
  have j4 := fun x : Later w1 => x.cell (X.cell 4 rfl)
  have j5 := fun x : Later w1 => x.cell (X.cell 5 rfl)
  have j6 := fun x : Later w1 => x.cell (X.cell 6 rfl)
  clear X
  refine later_start (w := w1) ?_
  intro x
  refine wp_region_later (by kernel_rfl) (by kernel_rfl) ?_
  repeat (go_big_quiet_step ((go_at_call 24; first | with_reducible exact Later.call (HF.out _) | with_reducible exact Later.call (HE.out _))))
  refine wpQuiet_nil ?_
  rintro _ ⟨x2, rfl⟩
  have BB := Lib.hid (up_trans B.out x2.up)
  clear j0 j1 j2 j3 j4 j5 j6
  go_wp2
  go_ret
  exact ⟨rfl, BB.out⟩

theorem cnt_bounds (j : Jb) : 0 ≤ cntS j ∧ cntS j ≤ 50000 := by
  have h := of_length j
  have h2 := of_small j
  omega
theorem part_leaves (j : Jb) : (cntS j - 1) * panM (partF j).c (partF j).r + panM (partE j).c (partE j).r = leavesS j ∧ (-1000000000 ≤ (cntS j - 1) * panM (partF j).c (partF j).r ∧ (cntS j - 1) * panM (partF j).c (partF j).r ≤ 1000000000) := by
  unfold cntS partF partE leavesS
  by_cases h : partB j = true
  · simp only [if_pos h]
    obtain ⟨p1, p2, p3, -⟩ := part_facts h
    have hb := others_bounds p3.1 p3.2 p1.1
    rw [Int.add_sub_cancel]
    refine ⟨rfl, ?_⟩
    have e : othersM (j.n 0) (panS j.f) * (2 * panS j.f) = 2 * (othersM (j.n 0) (panS j.f) * panS j.f) := by rw [← Int.mul_assoc, Int.mul_comm _ 2, Int.mul_assoc]
    rw [e] at hb
    show -1000000000 ≤ othersM (j.n 0) (panS j.f) * panS j.f ∧ othersM (j.n 0) (panS j.f) * panS j.f ≤ 1000000000
    omega
  · simp only [if_neg h]
    decide
theorem leaves_bounds (j : Jb) : 0 ≤ leavesS j ∧ leavesS j ≤ 1000000 := by
  unfold leavesS
  split
  next h =>
    obtain ⟨p1, p2, p3, p4, p5, p6, p7, p8⟩ := part_facts h
    have hb := others_bounds p3.1 p3.2 p1.1
    have e : othersM (j.n 0) (panS j.f) * (2 * panS j.f) = 2 * (othersM (j.n 0) (panS j.f) * panS j.f) := by rw [← Int.mul_assoc, Int.mul_comm _ 2, Int.mul_assoc]
    rw [e] at hb
    omega
  next => omega

/-- What part answers, for a core: the schemes by numbers. -/
def PartG (j : Jb) (w : World) (e : Ending) (w' : World) : Prop :=
  ∃ a1 c1 a2 c2, e = .returned (.agg #[.int .i64 (cntS j), .int .i64 (partF j).c, .int .i64 (partF j).r, .slice a1 (partF j).l.length c1, .int .i64 (partE j).c, .int .i64 (partE j).r, .slice a2 (partE j).l.length c2])
      ∧ InL w' a1 (partF j).l ∧ InL w' a2 (partE j).l ∧ Below w.heap.size w w'
theorem spLeavesP_any (j : Jb) (a1 a2 : Option Addr) (c1 c2 : Nat) (w : World) : Calls Tryz.prog 33 #[.agg #[.int .i64 (cntS j), .int .i64 (partF j).c, .int .i64 (partF j).r, .slice a1 (partF j).l.length c1, .int .i64 (partE j).c, .int .i64 (partE j).r, .slice a2 (partE j).l.length c2]] w fun e w' => e = .returned (.int .i64 (leavesS j)) ∧ Below w.heap.size w w' := by
  obtain ⟨h1, h2, h3⟩ := part_leaves j
  have hc := cnt_bounds j
  have hp := pan_ge (partE j)
  exact spLeaves_core _ _ _ _ _ _ _ _ _ _ a1 a2 _ c1 _ c2 w hc.1 (by omega) rfl rfl h1 h2 h3 hp.1 hp.2 (fun w1 => schPanels_any _ _ _ _ _ w1) (fun w1 => schPanels_any _ _ _ _ _ w1)

set_option maxRecDepth 100000 in
theorem spCount_any (cs : List Value) (j : Jb) (w : World) (h : JobA w cs j) (hf : WfF j) (hg : GoodM w) :
    Calls Tryz.prog 14 #[.agg cs.toArray] w fun e w' => e = .returned (.int .i64 (cntS j)) ∧ Below w.heap.size w w' := by
  have HX := Lib.hid (Bx.new w 29 cs)
  have HB := Lib.hid (up_alloc (Below.refl w.heap.size w) (.cells cs.toArray 29))
  have HL := Lib.hid h.length
  have HP := Lib.hid (spPart_any cs j _ (h.up HB.out) hf (hg.below HB.out))
  clear h hf hg
  generalize cntS j = n at *
  generalize partF j = f at *
  generalize partE j = g at *
  go_enter Tryz.func14, Tryz.ntmps14
  go_wp2_with (refine wpList_load_job rfl _ rfl w.heap.size rfl cs HX.out HL.out ?_; simp only [Act.put, List.setIfInBounds_toArray, List.set_cons_succ, List.set_cons_zero])
  refine HP.out.mono ?_
  rintro e w1 ⟨a1, c1, a2, c2, rfl, -, -, hb⟩
  have B1 := Lib.hid (up_trans HB.out hb)
  clear hb
  have q := fun w => (show (Instr.field 47 (.agg #[.int .i64 n, .int .i64 f.c, .int .i64 f.r, .slice a1 f.l.length c1, .int .i64 g.c, .int .i64 g.r, .slice a2 g.l.length c2]) 0).run Tryz.prog w = .ok (.int .i64 n) w from by kernel_rfl)
  go_wp2
  go_ret
  exact ⟨rfl, B1.out⟩
theorem spLeaves_any (cs : List Value) (j : Jb) (w : World) (h : JobA w cs j) (hf : WfF j) (hg : GoodM w) :
    Calls Tryz.prog 15 #[.agg cs.toArray] w fun e w' => e = .returned (.int .i64 (leavesS j)) ∧ Below w.heap.size w w' := by
  have HX := Lib.hid (Bx.new w 29 cs)
  have HB := Lib.hid (up_alloc (Below.refl w.heap.size w) (.cells cs.toArray 29))
  have HL := Lib.hid h.length
  have HP := Lib.hid (spPart_any cs j _ (h.up HB.out) hf (hg.below HB.out))
  have HV := Lib.hid (fun a1 a2 c1 c2 w => spLeavesP_any j a1 a2 c1 c2 w)
  clear h hf hg
  generalize cntS j = n at *
  generalize partF j = f at *
  generalize partE j = g at *
  generalize leavesS j = v at *
  go_enter Tryz.func15, Tryz.ntmps15
  go_wp2_with (refine wpList_load_job rfl _ rfl w.heap.size rfl cs HX.out HL.out ?_; simp only [Act.put, List.setIfInBounds_toArray, List.set_cons_succ, List.set_cons_zero])
  refine HP.out.mono ?_
  rintro e w1 ⟨a1, c1, a2, c2, rfl, -, -, hb⟩
  have B1 := Lib.hid (up_trans HB.out hb)
  clear hb
  go_wp2_with fail
  refine (HV.out _ _ _ _ _).mono ?_
  rintro e w2 ⟨rfl, hb⟩
  have B2 := Lib.hid (up_trans B1.out hb)
  clear hb
  go_wp2
  go_ret
  exact ⟨rfl, B2.out⟩
theorem spBlanks_any (cs : List Value) (j : Jb) (w : World) (h : JobA w cs j) (hf : WfF j) (hg : GoodM w) :
    Calls Tryz.prog 19 #[.agg cs.toArray] w fun e w' => e = .returned (.int .i64 (blanksS j)) ∧ Below w.heap.size w w' := by
  have HX := Lib.hid (Bx.new w 29 cs)
  have HB := Lib.hid (up_alloc (Below.refl w.heap.size w) (.cells cs.toArray 29))
  have HL := Lib.hid h.length
  have H1 := Lib.hid (h.num (k := 0) (by decide))
  have HP := Lib.hid (spPart_any cs j _ (h.up HB.out) hf (hg.below HB.out))
  have HV := Lib.hid (fun a1 a2 c1 c2 w => spLeavesP_any j a1 a2 c1 c2 w)
  have hv := leaves_bounds j
  obtain ⟨t, ht⟩ : ∃ t, 2 * leavesS j = t := ⟨_, rfl⟩
  obtain ⟨u, hu⟩ : ∃ u, (cntS j == 0) = u := ⟨_, rfl⟩
  obtain ⟨b, hbl⟩ : ∃ b, blanksS j = b := ⟨_, rfl⟩
  have hn : u = false → (1 ≤ j.n 0 ∧ j.n 0 ≤ 100000) ∧ t - j.n 0 = b := by
    intro h
    rw [← hu] at h
    have hp : partB j = true := by
      rw [← Bool.not_eq_false]
      intro hp
      have : cntS j = 0 := by unfold cntS; rw [if_neg (by rw [hp]; simp)]
      rw [this] at h
      cases h
    obtain ⟨p1, p2, p3, -⟩ := part_facts hp
    refine ⟨p3, ?_⟩
    rw [← hbl, ← ht]
    unfold blanksS
    rw [if_pos hp]
  have hz : u = true → b = 0 := by
    intro h
    rw [← hu] at h
    rw [← hbl]
    unfold blanksS
    refine if_neg fun hp => ?_
    have := part_facts hp
    have hb := others_bounds this.2.2.1.1 this.2.2.1.2 this.1.1
    have : cntS j = othersM (j.n 0) (panS j.f) + 1 := by unfold cntS; rw [if_pos hp]
    simp at h
    omega
  rw [hbl]
  clear h hf hg hbl
  generalize cntS j = n at *
  generalize partF j = f at *
  generalize partE j = g at *
  generalize leavesS j = v at *
  generalize j.n 0 = N at *
  have HN := Lib.hid hn
  obtain ⟨v1, v2⟩ := hv
  clear hn
  cases u
  · obtain ⟨⟨n1, n2⟩, n3⟩ := HN.out rfl
    go_enter Tryz.func19, Tryz.ntmps19
    go_wp2_with (refine wpList_load_job rfl _ rfl w.heap.size rfl cs HX.out HL.out ?_; simp only [Act.put, List.setIfInBounds_toArray, List.set_cons_succ, List.set_cons_zero])
    refine HP.out.mono ?_
    rintro e w1 ⟨a1, c1, a2, c2, rfl, -, -, hb⟩
    have S := Bx.new w1 47 [.int .i64 n, .int .i64 f.c, .int .i64 f.r, .slice a1 f.l.length c1, .int .i64 g.c, .int .i64 g.r, .slice a2 g.l.length c2]
    have U := up_alloc (Below.refl w1.heap.size w1) (.cells #[.int .i64 n, .int .i64 f.c, .int .i64 f.r, .slice a1 f.l.length c1, .int .i64 g.c, .int .i64 g.r, .slice a2 g.l.length c2] 47)
    have B1 := Lib.hid (up_trans (up_trans HB.out hb) U)
    have b1 := bl_cell U (bl_cell hb (HX.out.cell 1 H1.out))
    have s0 := S.cell 0 rfl
    clear hb U
    go_wp2_with fail
    obtain ⟨w2, hw2⟩ : ∃ w2, w1.alloc (.cells #[.int .i64 n, .int .i64 f.c, .int .i64 f.r, .slice a1 f.l.length c1, .int .i64 g.c, .int .i64 g.r, .slice a2 g.l.length c2] 47) = w2 := ⟨_, rfl⟩
    rw [hw2] at S b1 s0 B1 ⊢
    clear hw2
    have j0 := fun x : Later w2 => x.cell s0
    have j1 := fun x : Later w2 => x.cell (S.cell 1 rfl)
    have j2 := fun x : Later w2 => x.cell (S.cell 2 rfl)
    have j3 := fun x : Later w2 => x.cell (S.cell 3 rfl)
    have j4 := fun x : Later w2 => x.cell (S.cell 4 rfl)
    have j5 := fun x : Later w2 => x.cell (S.cell 5 rfl)
    have j6 := fun x : Later w2 => x.cell (S.cell 6 rfl)
    have k1 := fun x : Later w2 => x.cell b1
    clear S b1 s0
    refine later_start (w := w2) ?_
    intro x
    refine wp_region_later (by kernel_rfl) (by kernel_rfl) ?_
    repeat (go_big_quiet_step ((go_at_call 33; with_reducible exact Later.call (HV.out _ _ _ _ _))))
    refine wpQuiet_nil ?_
    rintro _ ⟨x2, rfl⟩
    have BB := Lib.hid (up_trans B1.out x2.up)
    clear j0 j1 j2 j3 j4 j5 j6 k1
    go_wp2
    go_ret
    exact ⟨rfl, BB.out⟩
  · obtain rfl := hz rfl
    go_enter Tryz.func19, Tryz.ntmps19
    go_wp2_with (refine wpList_load_job rfl _ rfl w.heap.size rfl cs HX.out HL.out ?_; simp only [Act.put, List.setIfInBounds_toArray, List.set_cons_succ, List.set_cons_zero])
    refine HP.out.mono ?_
    rintro e w1 ⟨a1, c1, a2, c2, rfl, -, -, hb⟩
    have S := Bx.new w1 47 [.int .i64 n, .int .i64 f.c, .int .i64 f.r, .slice a1 f.l.length c1, .int .i64 g.c, .int .i64 g.r, .slice a2 g.l.length c2]
    have U := up_alloc (Below.refl w1.heap.size w1) (.cells #[.int .i64 n, .int .i64 f.c, .int .i64 f.r, .slice a1 f.l.length c1, .int .i64 g.c, .int .i64 g.r, .slice a2 g.l.length c2] 47)
    have B1 := Lib.hid (up_trans (up_trans HB.out hb) U)
    have b1 := bl_cell U (bl_cell hb (HX.out.cell 1 H1.out))
    have s0 := S.cell 0 rfl
    clear hb U
    clear S b1
    go_wp2
    go_ret
    exact ⟨rfl, B1.out⟩
end Go.Proofs.YtomakbnbokaigaaGreatDoor
/- Lists of schemes in memory: rows of the call's own, that grow by append, and lists that a slice tells. -/
namespace Go.Proofs.YtomakbnbokaigaaGreatDoor
open Go.RowKit
set_option linter.unusedVariables false

theorem Tryz.infoScheme : (Tryz.prog.info? 26).map (fun i => (i.zero, i.size, i.bytes)) = some (some (.agg #[.int .i64 0, .int .i64 0, .slice none 0 0]), 3, 40) := by kernel_rfl
/-- A scheme in a list: the slice of its steps. -/
structure En where
  s : Sc
  a : Option Addr
  c : Nat
def En.cells (e : En) : List Value := [.int .i64 e.s.c, .int .i64 e.s.r, .slice e.a e.s.l.length e.c]
def ens (l : List En) : List Value := l.flatMap En.cells
theorem ens_cons (e : En) (l : List En) : ens (e :: l) = e.cells ++ ens l := rfl
theorem ens_append (l m : List En) : ens (l ++ m) = ens l ++ ens m := by simp [ens]
theorem ens_length (l : List En) : (ens l).length = l.length * 3 := by
  induction l with
  | nil => rfl
  | cons p l ih => rw [ens_cons, List.length_append, ih, List.length_cons]; simp [En.cells]; omega
theorem ens_one {l : List En} : ∀ u ∈ ens l, u.oneCell' = true := by
  intro u hu
  obtain ⟨p, _, hp⟩ := List.mem_flatMap.1 hu
  simp [En.cells] at hp
  rcases hp with rfl | rfl | rfl <;> rfl
theorem ens_at {l : List En} {j : Nat} {e : En} (h : l[j]? = some e) (i : Nat) (hi : i < 3) : (ens l)[j * 3 + i]? = e.cells[i]? := by
  induction l generalizing j with
  | nil => simp at h
  | cons q l ih =>
    rw [ens_cons]
    cases j with
    | zero =>
      simp only [List.getElem?_cons_zero, Option.some.injEq] at h
      subst h
      rw [List.getElem?_append_left (by simp [En.cells]; omega)]
      simp
    | succ j =>
      rw [List.getElem?_cons_succ] at h
      rw [List.getElem?_append_right (by simp [En.cells]; omega), ← ih h]
      congr 1
      simp [En.cells]
      omega
/-- The steps lie where the slice says, and not in block own. -/
def InN (own : Option Nat) (w : World) (a : Option Addr) (l : List Sp) : Prop := l = [] ∨ ∃ b off, a = some ⟨b, off, none⟩ ∧ own ≠ some b ∧ InS w b off l
theorem InN.inL {own : Option Nat} {w : World} {a : Option Addr} {l : List Sp} (h : InN own w a l) : InL w a l := h.imp id fun ⟨b, off, e, _, h⟩ => ⟨b, off, e, h⟩
theorem InN.up {own : Option Nat} {w w' : World} {a : Option Addr} {l : List Sp} (h : InN own w a l) (hb : Below w.heap.size w w') : InN own w' a l := h.imp id fun ⟨b, off, e, h0, h⟩ => ⟨b, off, e, h0, h.up hb⟩
theorem InS.far {w w' : World} {b off : Nat} {l : List Sp} (h : InS w b off l) (hk : ∀ p : Addr, p.block = b → ∀ v, w.cell? p = some v → w'.cell? p = some v) : InS w' b off l := fun j p hp => by
  obtain ⟨c0, c1, c2⟩ := h j p hp
  exact ⟨hk _ rfl _ c0, hk _ rfl _ c1, hk _ rfl _ c2⟩
theorem InS.lt {w : World} {b off : Nat} {l : List Sp} (h : InS w b off l) (hl : l ≠ []) : b < w.heap.size := by
  cases l with
  | nil => exact absurd rfl hl
  | cons p l => exact World.block_lt_of_cell? w _ (h 0 p rfl).1
/-- What lies outside the row that grew stays, and lies outside the grown row. -/
theorem InN.grown {own own' : Option Nat} {u w' : World} {o : Obj} {a : Option Addr} {l : List Sp} (h : InN own u a l) (hg : (u.alloc o).grownBy w' own) (hat : own' = own ∨ ∃ g, own' = some g ∧ (own = some g ∨ u.heap.size ≤ g)) : InN own' w' a l := by
  by_cases hl : l = []
  · exact .inl hl
  rcases h with h | ⟨b, off, e, h0, h⟩
  · exact absurd h hl
  · have hb := h.lt hl
    refine .inr ⟨b, off, e, ?_, h.far fun p hp v hv => ?_⟩
    · rcases hat with rfl | ⟨g, rfl, h1 | h1⟩
      · exact h0
      · intro e
        injection e with e
        subst e
        exact h0 h1
      · intro e
        injection e with e
        omega
    · have hv2 : (u.alloc o).cell? p = some v := Lib.cell?_alloc_some _ hv
      exact (World.grownBy.cell_far hg p (by rw [World.size_alloc, hp]; omega) (by rw [hp]; exact fun e => h0 e.symm)).trans hv2
/-- v is a slice of the call's own (from block base on) that holds the schemes L. -/
def OwnL (w : World) (base : Nat) (v : Value) (L : List Sc) : Prop :=
  ∃ E : List En, E.map En.s = L ∧ w.ownsRow base 26 3 v L.length (ens E) ∧ ∀ e ∈ E, InN v.ownBlock w e.a e.s.l
theorem OwnL.nil (w : World) (base : Nat) : OwnL w base (.slice none 0 0) [] := ⟨[], rfl, World.ownsRow_nil _ _ _ _, fun e h => by cases h⟩
theorem OwnL.up {w w' : World} {base : Nat} {v : Value} {L : List Sc} (h : OwnL w base v L) (hb : Below w.heap.size w w') : OwnL w' base v L := by
  obtain ⟨E, h1, h2, h3⟩ := h
  exact ⟨E, h1, own_kept h2 fun k _ hk => hb.block k hk, fun e he => (h3 e he).up hb⟩
theorem OwnL.block {w : World} {base : Nat} {v : Value} {L : List Sc} (h : OwnL w base v L) : ∀ b, v.ownBlock = some b → base ≤ b ∧ b < w.heap.size := by
  obtain ⟨E, h1, h2, h3⟩ := h
  exact fun b hb => World.ownsRow.lt h2 b hb
/-- The list of schemes that the slice at a tells. -/
def ScsA (w : World) (a : Option Addr) (L : List Sc) : Prop :=
  L = [] ∨ ∃ g, a = some ⟨g, 0, none⟩ ∧ ∀ k s, L[k]? = some s → ∃ a' c', w.cell? ⟨g, k * 3, none⟩ = some (.int .i64 s.c) ∧ w.cell? ⟨g, k * 3 + 1, none⟩ = some (.int .i64 s.r) ∧ w.cell? ⟨g, k * 3 + 2, none⟩ = some (.slice a' s.l.length c') ∧ InL w a' s.l
theorem ScsA.up {w w' : World} {a : Option Addr} {L : List Sc} (h : ScsA w a L) (hb : Below w.heap.size w w') : ScsA w' a L :=
  h.imp id fun ⟨g, e, h⟩ => ⟨g, e, fun k s hs => by
    obtain ⟨a', c', h0, h1, h2, h3⟩ := h k s hs
    exact ⟨a', c', bl_cell hb h0, bl_cell hb h1, bl_cell hb h2, h3.up hb⟩⟩
theorem OwnL.tells {w : World} {base : Nat} {v : Value} {L : List Sc} (h : OwnL w base v L) : ∃ a cap, v = .slice a L.length cap ∧ ScsA w a L := by
  obtain ⟨E, h1, h2, h3⟩ := h
  have h2' := h2
  rcases h2.2 with ⟨rfl, h0⟩ | ⟨g, cap, cur, rfl, hb, hg, hcap, hmax, hsz, htk⟩
  · exact ⟨none, 0, by rw [h0], .inl (List.eq_nil_of_length_eq_zero h0)⟩
  · refine ⟨some ⟨g, 0, none⟩, cap, rfl, .inr ⟨g, rfl, fun k s hs => ?_⟩⟩
    rw [← h1, List.getElem?_map, Option.map_eq_some_iff] at hs
    obtain ⟨e, he, rfl⟩ := hs
    have hc : ∀ j u, (ens E)[j]? = some u → w.cell? ⟨g, j, none⟩ = some u := fun j u hu => by
      have := h2'.cells (g := g) rfl j u hu
      rwa [show (⟨g, 0, none⟩ : Addr).add j = ⟨g, j, none⟩ by unfold Addr.add; split <;> simp_all] at this
    exact ⟨e.a, e.c, hc _ _ (ens_at he 0 (by omega)), hc _ _ (ens_at he 1 (by omega)), hc _ _ (ens_at he 2 (by omega)), (h3 e (List.mem_of_getElem? he)).inL⟩
/-- A row that grew by one scheme. -/
theorem OwnL.grew {u w' : World} {base : Nat} {v : Value} {L : List Sc} {o : Obj} {E : List En} (h1 : E.map En.s = L) (h3 : ∀ e ∈ E, InN v.ownBlock u e.a e.s.l) {s : Sc} {a : Option Addr} {c : Nat} (hi : InN v.ownBlock u a s.l) {g cap : Nat}
    (hn : w'.ownsRow base 26 3 (.slice (some ⟨g, 0, none⟩) (L.length + 1) cap) (L.length + 1) (ens E ++ En.cells ⟨s, a, c⟩)) (hg : (u.alloc o).grownBy w' v.ownBlock) (hat : v.ownBlock = some g ∨ g = (u.alloc o).heap.size) : OwnL w' base (.slice (some ⟨g, 0, none⟩) (L.length + 1) cap) (L ++ [s]) := by
  have hat2 : (Value.slice (some ⟨g, 0, none⟩) (L.length + 1) cap).ownBlock = v.ownBlock ∨ ∃ g', (Value.slice (some ⟨g, 0, none⟩) (L.length + 1) cap).ownBlock = some g' ∧ (v.ownBlock = some g' ∨ u.heap.size ≤ g') := .inr ⟨g, rfl, hat.imp id fun e => by rw [World.size_alloc] at e; omega⟩
  refine ⟨E ++ [⟨s, a, c⟩], by rw [List.map_append, h1]; rfl, ?_, fun e he => ?_⟩
  · rw [List.length_append, ens_append]
    simpa [ens] using hn
  · rcases List.mem_append.1 he with he | he
    · exact (h3 e he).grown hg hat2
    · simp only [List.mem_singleton] at he
      subst he
      exact hi.grown hg hat2
theorem ens_cells (x y z : Value) (w : World) (t : TypeId) : ∀ j u, [x, y, z][j]? = some u → (w.alloc (.cells #[x, y, z] t)).cell? ((⟨w.heap.size, 0, none⟩ : Addr).add j) = some u := cells_three w x y z t

/-- append, of one scheme, to a row of the call's own. -/
theorem wpList_append_sc {u : World} {ops : Array Oper} {rest : List Oper} {o : Oper} {a : Act} {Q : Exit → Act → World → Prop} (hgd : o.guard = none) (s x : Operand)
    (ho : o.op = .call { callee := .builtin .append, args := #[s, x], argTypes := #[32, 32] })
    (base : Nat) (v : Value) (L : List Sc) (hs : a.eval s = v) (hown : OwnL u base v L) (hbase : base ≤ u.heap.size)
    (sc : Sc) (p : Option Addr) (c m : Nat) (hm : sc.l.length = m) (hi : InN v.ownBlock u p sc.l) (H : Nat) (hH : u.heap.size = H) (hx : a.eval x = .slice (some ⟨H, 0, none⟩) 1 1) (hl : L.length ≤ 1000000)
    (h : ∀ g cap w', OwnL w' base (.slice (some ⟨g, 0, none⟩) (L.length + 1) cap) (L ++ [sc]) → Below base u w' → wpList Tryz.prog ops Q rest (a.put o.dst (.slice (some ⟨g, 0, none⟩) (L.length + 1) cap)) w') : wpList Tryz.prog ops Q (o :: rest) a (u.alloc (.cells #[.int .i64 sc.c, .int .i64 sc.r, .slice p m c] 26)) := by
  subst hH
  subst hm
  obtain ⟨i0, hi0, hz0, hz1, hz2⟩ := info_parts Tryz.infoScheme
  obtain ⟨E, h1, h2, h3⟩ := hown
  refine wpList_append_lies _ hgd s x 32 ho base 26 i0 _ 3 40 Tryz.underlying32 hi0 hz0 hz1 hz2 rfl (by omega) v L.length _ hs (World.ownsRow.alloc h2 _) ⟨u.heap.size, 0, none⟩ 1 1 (En.cells ⟨sc, p, c⟩) hx rfl ?_ ?_ (by omega) (by unfold maxLen; omega) (by omega) (by simp; omega) _ rfl ?_
  · exact ens_cells _ _ _ u _
  · intro y hy; simp [En.cells] at hy; rcases hy with rfl | rfl | rfl <;> rfl
  intro g cap w1 hown1 hgrow hat hlt
  refine h g cap w1 (OwnL.grew h1 h3 hi hown1 hgrow hat) (Below.grown ((Below.refl _ _).alloc hbase _) hgrow (by simp; omega) (fun k hk => (World.ownsRow.lt h2 k hk).1))
end Go.Proofs.YtomakbnbokaigaaGreatDoor
/- What split.At and split.Of answer. -/
namespace Go.Proofs.YtomakbnbokaigaaGreatDoor
open Go.RowKit
set_option linter.unusedVariables false
set_option linter.unusedSimpArgs false

/-- The scheme of the i-th signature. -/
def sigS (j : Jb) (i : Int) : Sc := if (i == cntS j - 1) = true then partE j else partF j
def atS (j : Jb) (i : Int) : Option Sc := if (decide (0 ≤ i) && decide (i ≤ cntS j - 1)) = true then some (sigS j i) else none
theorem part_small (j : Jb) : (partF j).l.length ≤ 6 ∧ (partE j).l.length ≤ 6 := by
  unfold partF partE
  by_cases h : partB j = true
  · have := part_facts h
    simp only [if_pos h]
    omega
  · simp only [if_neg h]
    decide
theorem cnt_pos {j : Jb} (h : 0 < cntS j) : partB j = true := by
  rw [← Bool.not_eq_false]
  intro hp
  have : cntS j = 0 := by unfold cntS; rw [if_neg (by rw [hp]; simp)]
  omega
theorem of_sig {j : Jb} {k : Nat} (hk : (k : Int) < cntS j) : (ofM j)[k]? = some (sigS j k) := by
  have hp := cnt_pos (j := j) (by omega)
  rw [of_at hp k hk]
  unfold sigS partE partF
  simp only [if_pos hp, beq_iff_eq]
theorem spAtP_any (j : Jb) (i : Int) (a1 a2 : Option Addr) (c1 c2 : Nat) (w : World) (hF : InL w a1 (partF j).l) (hE : InL w a2 (partE j).l) : Calls Tryz.prog 32 #[.agg #[.int .i64 (cntS j), .int .i64 (partF j).c, .int .i64 (partF j).r, .slice a1 (partF j).l.length c1, .int .i64 (partE j).c, .int .i64 (partE j).r, .slice a2 (partE j).l.length c2], .int .i64 i] w
    fun e w' => ∃ a c, e = .returned (.agg #[.int .i64 (sigS j i).c, .int .i64 (sigS j i).r, .slice a (sigS j i).l.length c]) ∧ InF w.heap.size w' a (sigS j i).l ∧ Below w.heap.size w w' := by
  have hc := cnt_bounds j
  obtain ⟨h1, h2⟩ := part_small j
  unfold sigS
  cases hu : (i == cntS j - 1)
  · have := spAt_core (cntS j) i (partF j).c (partF j).r (partE j).c (partE j).r (partF j).l _ (partE j).l.length _ a1 a2 c1 c2 false w hc.1 (by omega) hu rfl (by omega) rfl hF
    exact this
  · have := spAt_core (cntS j) i (partF j).c (partF j).r (partE j).c (partE j).r (partE j).l (partF j).l.length _ _ a1 a2 c1 c2 true w hc.1 (by omega) hu rfl (by omega) rfl hE
    exact this

set_option maxHeartbeats 1000000 in
theorem spAtJ_core (cs : List Value) (n m i : Int) (f g s : Sc) (u : Bool) (w : World) (n1 : 0 ≤ n) (n2 : n ≤ 50000) (hm : n - 1 = m) (hL : cs.length = 33)
    (KP : ∀ w1, Below w.heap.size w w1 → Calls Tryz.prog 31 #[.agg cs.toArray] w1 fun e w' => ∃ a1 c1 a2 c2, e = .returned (.agg #[.int .i64 n, .int .i64 f.c, .int .i64 f.r, .slice a1 f.l.length c1, .int .i64 g.c, .int .i64 g.r, .slice a2 g.l.length c2])
      ∧ InL w' a1 f.l ∧ InL w' a2 g.l ∧ Below w1.heap.size w1 w')
    (KI : ∀ w1, Calls Tryz.prog 23 #[.int .i64 i, .int .i64 0, .int .i64 m] w1 fun e w' => e = .returned (.bool u) ∧ w1 = w')
    (KA : ∀ a1 a2 c1 c2 w1, InL w1 a1 f.l → InL w1 a2 g.l → Calls Tryz.prog 32 #[.agg #[.int .i64 n, .int .i64 f.c, .int .i64 f.r, .slice a1 f.l.length c1, .int .i64 g.c, .int .i64 g.r, .slice a2 g.l.length c2], .int .i64 i] w1
      fun e w' => ∃ a c, e = .returned (.agg #[.int .i64 s.c, .int .i64 s.r, .slice a s.l.length c]) ∧ InF w1.heap.size w' a s.l ∧ Below w1.heap.size w1 w') :
    Calls Tryz.prog 17 #[.agg cs.toArray, .int .i64 i] w (GivesS (if u = true then some s else none) w) := by
  have X1 := (Bx.new w 29 cs)
  have U1 := up_alloc (Below.refl w.heap.size w) (.cells cs.toArray 29)
  have V1 := up_alloc (Below.refl _ (w.alloc (.cells cs.toArray 29))) (.cells #[.int .i64 0, .int .i64 0, .slice none 0 0] 26)
  have HX := Lib.hid (X1.later (by rw [hL]; decide) V1)
  have HB := Lib.hid (up_trans U1 V1)
  have R1 := Bx.new (w.alloc (.cells cs.toArray 29)) 26 [.int .i64 0, .int .i64 0, .slice none 0 0]
  rw [World.size_alloc] at R1
  have HR := Lib.hid R1
  have HL := Lib.hid hL; have HP := Lib.hid KP; have HI := Lib.hid KI; have HA := Lib.hid KA
  clear X1 U1 V1 R1 hL KP KI KA
  cases u
  · go_enter Tryz.func17, Tryz.ntmps17
    go_wp2_with (refine wpList_load_job rfl _ rfl w.heap.size rfl cs HX.out HL.out ?_; simp only [Act.put, List.setIfInBounds_toArray, List.set_cons_succ, List.set_cons_zero])
    refine (HP.out _ HB.out).mono ?_
    rintro e w1 ⟨a1, c1, a2, c2, rfl, hF, hE, hb⟩
    have S := Bx.new w1 47 [.int .i64 n, .int .i64 f.c, .int .i64 f.r, .slice a1 f.l.length c1, .int .i64 g.c, .int .i64 g.r, .slice a2 g.l.length c2]
    have U := up_alloc (Below.refl w1.heap.size w1) (.cells #[.int .i64 n, .int .i64 f.c, .int .i64 f.r, .slice a1 f.l.length c1, .int .i64 g.c, .int .i64 g.r, .slice a2 g.l.length c2] 47)
    have B1 := Lib.hid (up_trans (up_trans HB.out hb) U)
    have R2 := (HR.out.up hb).up U
    have r0 := R2.cell 0 rfl; have r1 := R2.cell 1 rfl; have r2 := R2.cell 2 rfl; have rf := R2.free
    have R3 := R2.set3 (.int .i64 0) (.int .i64 0) (.slice none 0 0)
    have p0 := Lib.hid (R3.cell 0 rfl); have p1 := Lib.hid (R3.cell 1 rfl); have p2 := Lib.hid (R3.cell 2 rfl)
    have s0 := S.cell 0 rfl
    clear hb U S R2 R3 hF hE
    go_wp2_with fail
    refine (HI.out _).mono ?_
    rintro e w2 ⟨rfl, rfl⟩
    go_wp2
    have q0 := p0.out; have q1 := p1.out; have q2 := p2.out
    refine bodyPost_ret (v := .tuple #[.agg #[.int .i64 0, .int .i64 0, .slice none 0 0], .bool false]) (by simp [results, Tryz.results17, go_sem, q0, q1, q2]) rfl (gives_none ?_)
    exact up_set (up_set (up_set B1.out (by simp only; omega) _) (by simp only; omega) _) (by simp only; omega) _
  · go_enter Tryz.func17, Tryz.ntmps17
    go_wp2_with (refine wpList_load_job rfl _ rfl w.heap.size rfl cs HX.out HL.out ?_; simp only [Act.put, List.setIfInBounds_toArray, List.set_cons_succ, List.set_cons_zero])
    refine (HP.out _ HB.out).mono ?_
    rintro e w1 ⟨a1, c1, a2, c2, rfl, hF, hE, hb⟩
    have S := Bx.new w1 47 [.int .i64 n, .int .i64 f.c, .int .i64 f.r, .slice a1 f.l.length c1, .int .i64 g.c, .int .i64 g.r, .slice a2 g.l.length c2]
    have U := up_alloc (Below.refl w1.heap.size w1) (.cells #[.int .i64 n, .int .i64 f.c, .int .i64 f.r, .slice a1 f.l.length c1, .int .i64 g.c, .int .i64 g.r, .slice a2 g.l.length c2] 47)
    have B1 := Lib.hid (up_trans (up_trans HB.out hb) U)
    have R2 := Lib.hid ((HR.out.up hb).up U)
    have F2 := Lib.hid (hF.up U); have E2 := Lib.hid (hE.up U)
    have hlow := (HR.out.up hb).lt
    have s0 := S.cell 0 rfl; have s1 := S.cell 1 rfl; have s2 := S.cell 2 rfl; have s3 := S.cell 3 rfl; have s4 := S.cell 4 rfl; have s5 := S.cell 5 rfl; have s6 := S.cell 6 rfl
    clear hb U S hF hE
    go_wp2_with fail
    refine (HI.out _).mono ?_
    rintro e w2 ⟨rfl, rfl⟩
    go_wp2_with fail
    refine (HA.out _ _ _ _ _ F2.out E2.out).mono ?_
    rintro e w3 ⟨a, c, rfl, hF, hb⟩
    have R3 := R2.out.up hb
    have B3 := Lib.hid (up_trans B1.out hb)
    have r0 := R3.cell 0 rfl; have r1 := R3.cell 1 rfl; have r2 := R3.cell 2 rfl; have rf := R3.free
    have R4 := R3.set3 (.int .i64 s.c) (.int .i64 s.r) (.slice a s.l.length c)
    have p0 := Lib.hid (R4.cell 0 rfl); have p1 := Lib.hid (R4.cell 1 rfl); have p2 := Lib.hid (R4.cell 2 rfl)
    rw [World.size_alloc] at hF
    have HF := Lib.hid hF
    clear hb R3 R4 hF s0 s1 s2 s3 s4 s5 s6
    go_wp2
    have q0 := p0.out; have q1 := p1.out; have q2 := p2.out
    refine bodyPost_ret (v := .tuple #[.agg #[.int .i64 s.c, .int .i64 s.r, .slice a s.l.length c], .bool true]) (by simp [results, Tryz.results17, go_sem, q0, q1, q2]) rfl ⟨a, c, rfl, ?_, ?_⟩
    · have F4 := HF.out
      refine InF.mono (base := w1.heap.size + 1) ?_ (by omega)
      exact ((F4.set (p := ⟨w.heap.size + 1, 0, none⟩) (by simp only; omega) _).set (p := ⟨w.heap.size + 1, 1, none⟩) (by simp only; omega) _).set (p := ⟨w.heap.size + 1, 2, none⟩) (by simp only; omega) _
    · exact up_set (up_set (up_set B3.out (by simp only; omega) _) (by simp only; omega) _) (by simp only; omega) _
theorem spAt_any (cs : List Value) (j : Jb) (i : Int) (w : World) (h : JobA w cs j) (hf : WfF j) (hg : GoodM w) :
    Calls Tryz.prog 17 #[.agg cs.toArray, .int .i64 i] w (GivesS (atS j i) w) := by
  have hc := cnt_bounds j
  exact spAtJ_core cs (cntS j) _ i (partF j) (partE j) (sigS j i) _ w hc.1 hc.2 rfl h.length (fun w1 hb => spPart_any cs j w1 (h.up hb) hf (hg.below hb)) (fun w1 => in_any i 0 _ w1) (fun a1 a2 c1 c2 w1 h1 h2 => spAtP_any j i a1 a2 c1 c2 w1 h1 h2)
end Go.Proofs.YtomakbnbokaigaaGreatDoor
