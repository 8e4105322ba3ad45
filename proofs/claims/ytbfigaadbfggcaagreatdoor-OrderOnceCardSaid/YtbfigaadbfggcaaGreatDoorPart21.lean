/- Part 21 of the texts that the proofs of this seat share: OrderBound, OrderTop. -/
import Derived.Test.YtbfigaadbfggcaaGreatDoorPart20
import Derived.Test.YtbfigaadbfggcaaGreatDoorPart17
import Derived.Test.YtbfigaadbfggcaaGreatDoorPart19
import Derived.Test.YtbfigaadbfggcaaGreatDoorPart12
/- What order.binds and order.bound answer. -/
namespace Go.Proofs.YtbfigaadbfggcaaGreatDoor
open Go.RowKit
set_option linter.unusedVariables false
set_option linter.unusedSimpArgs false

/-- A world in which all cells but those of block R hold what they held. -/
structure HeldB (R : Nat) (w : World) where
  now : World
  kept : ∀ p : Addr, p.block ≠ R → ∀ v, w.cell? p = some v → now.cell? p = some v
instance (R : Nat) (w : World) : Nonempty (HeldB R w) := ⟨⟨w, fun _ _ _ h => h⟩⟩
theorem HeldB.cell {R B o : Nat} {w : World} {v : Value} (u : HeldB R w) (hB : B ≠ R) (h : w.cell? ⟨B, o, none⟩ = some v) : u.now.cell? ⟨B, o, none⟩ = some v := u.kept _ hB _ h
theorem heldB_drew (R : Nat) (w : World) : ∃ u : HeldB R w, w.drew = u.now := ⟨⟨w.drew, fun _ _ _ h => h⟩, rfl⟩
theorem heldB_up {R : Nat} {w w' : World} (h : Below w.heap.size w w') : ∃ u : HeldB R w, w' = u.now := ⟨⟨w', fun _ _ _ hv => bl_cell h hv⟩, rfl⟩
theorem heldB_sets {R : Nat} {w w' : World} (h : Below w.heap.size w w') (o : Nat) (vs : List Value) : ∃ u : HeldB R w, w'.setCells R o vs = u.now := ⟨⟨_, fun p hp v hv => by
  rw [World.cell?_setCells_out R vs o w' p (fun e _ => absurd e hp)]
  exact bl_cell h hv⟩, rfl⟩
theorem heldB_range {w : World} {R B : Nat} {cs : List Value} (hB : B ≠ R) (h : Bx w B cs) : ∀ w', (∃ u : HeldB R w, w' = u.now) → w'.rangeAt B 0 cs := by
  rintro _ ⟨u, rfl⟩ j v hj
  exact u.kept _ hB _ (by simpa using h.cell j hj)

theorem ordBinds_core (cs : List Value) (b c r : Int) (a : Option Addr) (n cap : Nat) (u V I : Bool) (w : World) (h11 : cs[11]? = some (.int .i64 b)) (h12 : cs[12]? = some (.int .i64 c)) (h13 : cs[13]? = some (.int .i64 r)) (h14 : cs[14]? = some (.slice a n cap)) (hu : (b == 1) = u)
    (KN : ∀ w1, Below w.heap.size w w1 → Calls Tryz.prog 43 #[.agg #[.int .i64 c, .int .i64 r, .slice a n cap]] w1 fun e w' => e = .returned (.bool V) ∧ Below w1.heap.size w1 w')
    (KI : ∀ w1, Calls Tryz.prog 40 #[.int .i64 b, .int .i64 1, .int .i64 4] w1 fun e w' => e = .returned (.bool I) ∧ w1 = w') :
    Calls Tryz.prog 31 #[.agg cs.toArray] w fun e w' => e = .returned (.bool (if u = true then V else I)) ∧ Below w.heap.size w w' := by
  have HX := Bx.new w 29 cs
  have HB := Lib.hid (up_alloc (Below.refl w.heap.size w) (.cells cs.toArray 29))
  have c11 := HX.cell 11 h11; have c12 := HX.cell 12 h12; have c13 := HX.cell 13 h13; have c14 := HX.cell 14 h14
  have HN := Lib.hid KN; have HI := Lib.hid KI
  clear KN KI h11 h12 h13 h14 HX
  generalize cs.toArray = ca at *
  cases u
  · have E := Lib.hid (show (if false = true then V else I) = I from if_neg (by decide))
    go_enter Tryz.func31, Tryz.ntmps31
    go_wp2_with fail
    refine (HI.out _).mono ?_
    rintro e w1 ⟨rfl, rfl⟩
    go_wp2
    go_ret
    exact ⟨rfl, HB.out⟩
  · have E := Lib.hid (show (if true = true then V else I) = V from if_pos rfl)
    go_enter Tryz.func31, Tryz.ntmps31
    go_wp2_with fail
    refine (HN.out _ HB.out).mono ?_
    rintro e w1 ⟨rfl, hb⟩
    have BB := Lib.hid (up_trans HB.out hb)
    clear hb
    go_wp2
    go_ret
    exact ⟨rfl, BB.out⟩
theorem ordBinds_any (cs : List Value) (j : Jb) (w : World) (h : JobA w cs j) (hf : WfF j) (hl : j.f.l.length ≤ 1000000) :
    Calls Tryz.prog 31 #[.agg cs.toArray] w fun e w' => e = .returned (.bool (if j.n 10 = 1 then nestS j.f else inB (j.n 10) 1 4)) ∧ Below w.heap.size w w' := by
  obtain ⟨a, c, a', c', h12, h13, h14, h15, hI, hT⟩ := h.cells
  have K := ordBinds_core cs (j.n 10) j.f.c j.f.r a j.f.l.length c _ _ _ w (h.num (k := 10) (by decide)) h12 h13 h14 rfl (fun w1 hb => spNests_any j.f a c w1 hf.1 hf.2 hl (hI.up hb)) (fun w1 => in_any (j.n 10) 1 4 w1)
  simp only [beq_iff_eq] at K
  exact K

theorem zero_book : (Tryz.prog.info? 52).map (·.size) = some 6 := by kernel_rfl

set_option maxRecDepth 100000 in
set_option maxHeartbeats 1000000 in
theorem ordBound_no (cs : List Value) (n m sc sr : Int) (sm : Nat) (f V : Bool) (w : World) (hL : cs.length = 33) (n1 : 0 ≤ n) (n2 : n ≤ 100000) (hm : n - 1 = m) (h : (f && V) = false)
    (KC : ∀ w1, Below w.heap.size w w1 → Calls Tryz.prog 29 #[.agg cs.toArray] w1 fun e w' => e = .returned (.int .i64 n) ∧ Below w1.heap.size w1 w')
    (KA : ∀ w1, Below w.heap.size w w1 → Calls Tryz.prog 30 #[.agg cs.toArray, .int .i64 m] w1 fun e w' => ∃ a k, e = .returned (.tuple #[.agg #[.int .i64 sc, .int .i64 sr, .slice a sm k], .bool f]) ∧ Below w1.heap.size w1 w')
    (KB : f = true → ∀ w1, Below w.heap.size w w1 → Calls Tryz.prog 31 #[.agg cs.toArray] w1 fun e w' => e = .returned (.bool V) ∧ Below w1.heap.size w1 w') :
    Calls Tryz.prog 18 #[.agg cs.toArray] w fun e w' => e = .returned (.agg #[.int .i64 0, .int .i64 0, .int .i64 0, .int .i64 0, .int .i64 0, .int .i64 0]) ∧ Below w.heap.size w w' := by
  have X1 := (Bx.new w 29 cs)
  have U1 := up_alloc (Below.refl w.heap.size w) (.cells cs.toArray 29)
  have V1 := up_alloc (Below.refl _ (w.alloc (.cells cs.toArray 29))) (.cells #[.int .i64 0, .int .i64 0, .int .i64 0, .int .i64 0, .int .i64 0, .int .i64 0] 52)
  have HX := Lib.hid (X1.later (by rw [hL]; decide) V1)
  have HB := Lib.hid (up_trans U1 V1)
  have R1 := Bx.new (w.alloc (.cells cs.toArray 29)) 52 [.int .i64 0, .int .i64 0, .int .i64 0, .int .i64 0, .int .i64 0, .int .i64 0]
  rw [World.size_alloc] at R1
  have HR := Lib.hid R1
  have HL := Lib.hid hL; have HC := Lib.hid KC; have HA := Lib.hid KA; have HK := Lib.hid KB
  clear X1 U1 V1 R1 hL KC KA KB
  go_enter Tryz.func18, Tryz.ntmps18
  go_wp2_with (refine wpList_load_job rfl _ rfl w.heap.size rfl cs HX.out HL.out ?_; simp only [Act.put, List.setIfInBounds_toArray, List.set_cons_succ, List.set_cons_zero])
  refine (HC.out _ HB.out).mono ?_
  rintro e w1 ⟨rfl, hb⟩
  have HX1 := Lib.hid (HX.out.later (by rw [HL.out]; decide) hb)
  have HR1 := Lib.hid (HR.out.up hb)
  have HB1 := Lib.hid (up_trans HB.out hb)
  clear hb
  go_wp2_with (refine wpList_load_job rfl _ rfl w.heap.size rfl cs HX1.out HL.out ?_; simp only [Act.put, List.setIfInBounds_toArray, List.set_cons_succ, List.set_cons_zero])
  refine (HA.out _ HB1.out).mono ?_
  rintro e w2 ⟨a, k, rfl, hb⟩
  have U := up_alloc (Below.refl w2.heap.size w2) (.cells #[.int .i64 sc, .int .i64 sr, .slice a sm k] 26)
  have HX2 := Lib.hid ((HX1.out.later (by rw [HL.out]; decide) hb).later (by rw [HL.out]; decide) U)
  have R2 := (HR1.out.up hb).up U
  have B2 := up_trans (up_trans HB1.out hb) U
  have HB2 := Lib.hid B2
  have HR2 := Lib.hid R2
  clear hb U
  have fin : ∀ w3, Below (w2.alloc (.cells #[.int .i64 sc, .int .i64 sr, .slice a sm k] 26)).heap.size (w2.alloc (.cells #[.int .i64 sc, .int .i64 sr, .slice a sm k] 26)) w3 → Bx w3 (w.heap.size + 1) [.int .i64 0, .int .i64 0, .int .i64 0, .int .i64 0, .int .i64 0, .int .i64 0] ∧ Below w.heap.size w w3 := fun w3 hb => ⟨R2.up hb, up_trans B2 hb⟩
  have HF := Lib.hid fin
  clear fin R2 B2
  cases f
  · have R3 := HR2.out
    have r0 := R3.cell 0 rfl; have r1 := R3.cell 1 rfl; have r2 := R3.cell 2 rfl; have r3 := R3.cell 3 rfl; have r4 := R3.cell 4 rfl; have r5 := R3.cell 5 rfl
    have rf := R3.free
    have R4 := (((((R3.set 0 (.int .i64 0)).set 1 (.int .i64 0)).set 2 (.int .i64 0)).set 3 (.int .i64 0)).set 4 (.int .i64 0)).set 5 (.int .i64 0)
    have B3 := up_set (up_set (up_set (up_set (up_set (up_set HB2.out (p := ⟨w.heap.size + 1, 0, none⟩) (by simp only; omega) (.int .i64 0)) (p := ⟨w.heap.size + 1, 1, none⟩) (by simp only; omega) (.int .i64 0)) (p := ⟨w.heap.size + 1, 2, none⟩) (by simp only; omega) (.int .i64 0)) (p := ⟨w.heap.size + 1, 3, none⟩) (by simp only; omega) (.int .i64 0)) (p := ⟨w.heap.size + 1, 4, none⟩) (by simp only; omega) (.int .i64 0)) (p := ⟨w.heap.size + 1, 5, none⟩) (by simp only; omega) (.int .i64 0)
    have H4 := Lib.hid R4; have HB3 := Lib.hid B3
    clear R3 R4 B3
    go_wp2
    exact bodyPost_ret (v := .agg #[.int .i64 0, .int .i64 0, .int .i64 0, .int .i64 0, .int .i64 0, .int .i64 0]) (by simp [results, Tryz.results18, go_sem, H4.out.cell 0 rfl, H4.out.cell 1 rfl, H4.out.cell 2 rfl, H4.out.cell 3 rfl, H4.out.cell 4 rfl, H4.out.cell 5 rfl]) rfl ⟨rfl, HB3.out⟩
  · obtain rfl : V = false := by simpa using h
    go_wp2_with (refine wpList_load_job_want _ rfl rfl w.heap.size rfl cs HX2.out HL.out ?_; simp only [Act.put, List.setIfInBounds_toArray, List.set_cons_succ, List.set_cons_zero])
    refine (HK.out (by trivial) _ HB2.out).mono ?_
    rintro e w3 ⟨rfl, hb⟩
    obtain ⟨R3, B3⟩ := HF.out _ hb
    have HB3 := Lib.hid B3
    clear hb B3
    have r0 := R3.cell 0 rfl; have r1 := R3.cell 1 rfl; have r2 := R3.cell 2 rfl; have r3 := R3.cell 3 rfl; have r4 := R3.cell 4 rfl; have r5 := R3.cell 5 rfl
    have rf := R3.free
    have R4 := (((((R3.set 0 (.int .i64 0)).set 1 (.int .i64 0)).set 2 (.int .i64 0)).set 3 (.int .i64 0)).set 4 (.int .i64 0)).set 5 (.int .i64 0)
    have B4 := up_set (up_set (up_set (up_set (up_set (up_set HB3.out (p := ⟨w.heap.size + 1, 0, none⟩) (by simp only; omega) (.int .i64 0)) (p := ⟨w.heap.size + 1, 1, none⟩) (by simp only; omega) (.int .i64 0)) (p := ⟨w.heap.size + 1, 2, none⟩) (by simp only; omega) (.int .i64 0)) (p := ⟨w.heap.size + 1, 3, none⟩) (by simp only; omega) (.int .i64 0)) (p := ⟨w.heap.size + 1, 4, none⟩) (by simp only; omega) (.int .i64 0)) (p := ⟨w.heap.size + 1, 5, none⟩) (by simp only; omega) (.int .i64 0)
    have H4 := Lib.hid R4; have HB4 := Lib.hid B4
    clear R3 R4 B4
    go_wp2
    exact bodyPost_ret (v := .agg #[.int .i64 0, .int .i64 0, .int .i64 0, .int .i64 0, .int .i64 0, .int .i64 0]) (by simp [results, Tryz.results18, go_sem, H4.out.cell 0 rfl, H4.out.cell 1 rfl, H4.out.cell 2 rfl, H4.out.cell 3 rfl, H4.out.cell 4 rfl, H4.out.cell 5 rfl]) rfl ⟨rfl, HB4.out⟩

set_option maxRecDepth 100000 in
set_option maxHeartbeats 1000000 in
theorem ordBound_yes (cs : List Value) (b cp n m T e d c r sc sr : Int) (a : Option Addr) (fn fk sm : Nat) (w : World) (h11 : cs[11]? = some (.int .i64 b)) (h12 : cs[12]? = some (.int .i64 c)) (h13 : cs[13]? = some (.int .i64 r)) (h14 : cs[14]? = some (.slice a fn fk)) (hL : cs.length = 33) (n1 : 0 ≤ n) (n2 : n ≤ 100000) (hm : n - 1 = m)
    (KC : ∀ w1, Below w.heap.size w w1 → Calls Tryz.prog 29 #[.agg cs.toArray] w1 fun e w' => e = .returned (.int .i64 n) ∧ Below w1.heap.size w1 w')
    (KA : ∀ w1, Below w.heap.size w w1 → Calls Tryz.prog 30 #[.agg cs.toArray, .int .i64 m] w1 fun e w' => ∃ a k, e = .returned (.tuple #[.agg #[.int .i64 sc, .int .i64 sr, .slice a sm k], .bool true]) ∧ Below w1.heap.size w1 w')
    (KB : ∀ w1, Below w.heap.size w w1 → Calls Tryz.prog 31 #[.agg cs.toArray] w1 fun e w' => e = .returned (.bool true) ∧ Below w1.heap.size w1 w')
    (KN : ∀ w1, Calls Tryz.prog 32 #[.int .i64 b] w1 fun e w' => e = .returned (.int .i64 cp) ∧ Below w1.heap.size w1 w')
    (KL : ∀ w1, Below w.heap.size w w1 → Calls Tryz.prog 33 #[.agg cs.toArray] w1 fun e w' => e = .returned (.int .i64 T) ∧ Below w1.heap.size w1 w')
    (KF : ∀ w1, Calls Tryz.prog 34 #[.agg #[.int .i64 c, .int .i64 r, .slice a fn fk]] w1 fun x w' => x = .returned (.int .i64 e) ∧ Below w1.heap.size w1 w')
    (KE : ∀ a k w1, Calls Tryz.prog 34 #[.agg #[.int .i64 sc, .int .i64 sr, .slice a sm k]] w1 fun e w' => e = .returned (.int .i64 d) ∧ Below w1.heap.size w1 w') :
    Calls Tryz.prog 18 #[.agg cs.toArray] w fun x w' => x = .returned (.agg #[.int .i64 b, .int .i64 cp, .int .i64 n, .int .i64 T, .int .i64 e, .int .i64 d]) ∧ Below w.heap.size w w' := by
  have X1 := (Bx.new w 29 cs)
  have U1 := up_alloc (Below.refl w.heap.size w) (.cells cs.toArray 29)
  have V1 := up_alloc (Below.refl _ (w.alloc (.cells cs.toArray 29))) (.cells #[.int .i64 0, .int .i64 0, .int .i64 0, .int .i64 0, .int .i64 0, .int .i64 0] 52)
  have HX := Lib.hid (X1.later (by rw [hL]; decide) V1)
  have HB := Lib.hid (up_trans U1 V1)
  have R1 := Bx.new (w.alloc (.cells cs.toArray 29)) 52 [.int .i64 0, .int .i64 0, .int .i64 0, .int .i64 0, .int .i64 0, .int .i64 0]
  rw [World.size_alloc] at R1
  have HR := Lib.hid R1
  have HL := Lib.hid hL; have HC := Lib.hid KC; have HA := Lib.hid KA; have HK := Lib.hid KB; have HN := Lib.hid KN; have HT := Lib.hid KL; have HF := Lib.hid KF; have HE := Lib.hid KE
  have H11 := Lib.hid h11; have H12 := Lib.hid h12; have H13 := Lib.hid h13; have H14 := Lib.hid h14
  clear X1 U1 V1 R1 hL KC KA KB KN KL KF KE h11 h12 h13 h14
  go_enter Tryz.func18, Tryz.ntmps18
  go_wp2_with (refine wpList_load_job rfl _ rfl w.heap.size rfl cs HX.out HL.out ?_; simp only [Act.put, List.setIfInBounds_toArray, List.set_cons_succ, List.set_cons_zero])
  refine (HC.out _ HB.out).mono ?_
  rintro x w1 ⟨rfl, hb⟩
  have HX1 := Lib.hid (HX.out.later (by rw [HL.out]; decide) hb)
  have HR1 := Lib.hid (HR.out.up hb)
  have HB1 := Lib.hid (up_trans HB.out hb)
  clear hb
  go_wp2_with (refine wpList_load_job rfl _ rfl w.heap.size rfl cs HX1.out HL.out ?_; simp only [Act.put, List.setIfInBounds_toArray, List.set_cons_succ, List.set_cons_zero])
  refine (HA.out _ HB1.out).mono ?_
  rintro x w2 ⟨a2, k2, rfl, hb⟩
  have U := up_alloc (Below.refl w2.heap.size w2) (.cells #[.int .i64 sc, .int .i64 sr, .slice a2 sm k2] 26)
  have S2 := Lib.hid (Bx.new w2 26 [.int .i64 sc, .int .i64 sr, .slice a2 sm k2])
  have HX2 := Lib.hid ((HX1.out.later (by rw [HL.out]; decide) hb).later (by rw [HL.out]; decide) U)
  have HR2 := Lib.hid ((HR1.out.up hb).up U)
  have HB2 := Lib.hid (up_trans (up_trans HB1.out hb) U)
  have hlow : w.heap.size + 1 < w2.heap.size := by have := (HR1.out.up hb).lt; exact this
  clear hb U
  go_wp2_with (refine wpList_load_job_want _ rfl rfl w.heap.size rfl cs HX2.out HL.out ?_; simp only [Act.put, List.setIfInBounds_toArray, List.set_cons_succ, List.set_cons_zero])
  refine (HK.out _ HB2.out).mono ?_
  rintro x w3 ⟨rfl, hb⟩
  have X3 := Lib.hid (HX2.out.later (by rw [HL.out]; decide) hb)
  have R3 := Lib.hid (HR2.out.up hb)
  have S3 := Lib.hid (S2.out.up hb)
  have B3 := Lib.hid (up_trans HB2.out hb)
  clear hb
  have b11 := X3.out.cell 11 H11.out; have b12 := X3.out.cell 12 H12.out; have b13 := X3.out.cell 13 H13.out; have b14 := X3.out.cell 14 H14.out
  have s0 := S3.out.cell 0 rfl; have s1 := S3.out.cell 1 rfl; have s2 := S3.out.cell 2 rfl
  have n1 : w.heap.size ≠ w.heap.size + 1 := by omega
  have n2 : w2.heap.size ≠ w.heap.size + 1 := by omega
  have j11 := fun x : HeldB (w.heap.size + 1) w3 => x.cell n1 b11
  have j12 := fun x : HeldB (w.heap.size + 1) w3 => x.cell n1 b12
  have j13 := fun x : HeldB (w.heap.size + 1) w3 => x.cell n1 b13
  have j14 := fun x : HeldB (w.heap.size + 1) w3 => x.cell n1 b14
  have k0 := fun x : HeldB (w.heap.size + 1) w3 => x.cell n2 s0
  have k1 := fun x : HeldB (w.heap.size + 1) w3 => x.cell n2 s1
  have k2 := fun x : HeldB (w.heap.size + 1) w3 => x.cell n2 s2
  have HRG := Lib.hid (heldB_range n1 X3.out)
  clear b11 b12 b13 b14 s0 s1 s2
  go_wp2_with fail
  refine wp_region_callsS (fun w' => ∃ u : HeldB (w.heap.size + 1) w3, w' = u.now) [([0, 1, 2, 3, 5, 6, 8, 9, 11], 4), ([], 7), ([], 10), ([], 12), ([13], 14)] [] (by kernel_rfl) (by kernel_rfl) rfl (fun _ _ d _ _ h => by cases d <;> exact h) (heldB_drew _ _) ?_
  refine walkC_take _ rfl (fun K0 hK0 => ?_)
  simp only [List.map_cons, List.map_nil, List.getD_cons_zero, List.getD_cons_succ]
  repeat (first
    | (go_big_quiet_want; refine quiet_load_job _ rfl w.heap.size rfl cs HL.out HRG.out ?_; simp only [Act.put, List.setIfInBounds_toArray, List.set_cons_succ, List.set_cons_zero]; go_big_quiet_on)
    | go_big_quiet_step (fail))
  refine wpQuiet_nil (hK0.out _ (fun K hK => ?_))
  go_simp
  refine (HN.out _).mono ?_
  rintro x w4 ⟨rfl, hb⟩
  have C4 := Lib.hid (up_trans (up_drew (Below.refl _ w3)) hb)
  refine hK.out _ _ (heldB_up C4.out) ?_
  clear hK K hK0 K0 hb
  try simp only [List.setIfInBounds_toArray, List.set_cons_zero, List.set_cons_succ]
  refine walkC_take _ rfl (fun K0 hK0 => ?_)
  simp only [List.map_nil, List.getD_cons_zero, List.getD_cons_succ]
  refine wpQuiet_nil (hK0.out _ (fun K hK => ?_))
  go_simp
  refine (HT.out _ (up_trans B3.out C4.out)).mono ?_
  rintro x w5 ⟨rfl, hb⟩
  have C5 := Lib.hid (up_trans C4.out hb)
  refine hK.out _ _ (heldB_up C5.out) ?_
  clear hK K hK0 K0 hb
  try simp only [List.setIfInBounds_toArray, List.set_cons_zero, List.set_cons_succ]
  refine walkC_take _ rfl (fun K0 hK0 => ?_)
  simp only [List.map_nil, List.getD_cons_zero, List.getD_cons_succ]
  refine wpQuiet_nil (hK0.out _ (fun K hK => ?_))
  go_simp
  refine (HF.out _).mono ?_
  rintro x w6 ⟨rfl, hb⟩
  have C6 := Lib.hid (up_trans C5.out hb)
  refine hK.out _ _ (heldB_up C6.out) ?_
  clear hK K hK0 K0 hb
  try simp only [List.setIfInBounds_toArray, List.set_cons_zero, List.set_cons_succ]
  refine walkC_take _ rfl (fun K0 hK0 => ?_)
  simp only [List.map_nil, List.getD_cons_zero, List.getD_cons_succ]
  refine wpQuiet_nil (hK0.out _ (fun K hK => ?_))
  go_simp
  refine (HE.out _ _ _).mono ?_
  rintro x w7 ⟨rfl, hb⟩
  have C7 := Lib.hid (up_trans C6.out hb)
  refine hK.out _ _ (heldB_up C7.out) ?_
  clear hK K hK0 K0 hb
  try simp only [List.setIfInBounds_toArray, List.set_cons_zero, List.set_cons_succ]
  refine walkC_take _ rfl (fun K0 hK0 => ?_)
  simp only [List.map_cons, List.map_nil, List.getD_cons_zero, List.getD_cons_succ]
  repeat (go_big_quiet_step (fail))
  refine wpQuiet_nil (hK0.out _ (fun K hK => ?_))
  refine (if_pos (by kernel_rfl)).mpr ?_
  refine wp_store_mid 52 _ _ rfl (w.heap.size + 1) 0 #[.int .i64 b, .int .i64 cp, .int .i64 n, .int .i64 T, .int .i64 e, .int .i64 d] rfl rfl ?there zero_book (by simp; exact ⟨rfl, rfl, rfl, rfl, rfl, rfl⟩) ?_
  case there => exact (R3.out.up C7.out).present
  have C8 := heldB_sets (R := w.heap.size + 1) C7.out 0 [.int .i64 b, .int .i64 cp, .int .i64 n, .int .i64 T, .int .i64 e, .int .i64 d]
  refine hK.out _ _ C8 ?_
  clear hK K hK0 K0 C8
  try simp only [List.setIfInBounds_toArray, List.set_cons_zero, List.set_cons_succ]
  refine walkC_last (fun K0 hK0 => ?_)
  simp only [List.map_nil]
  refine wpQuiet_nil (hK0.out _ ?_)
  clear hK0 K0
  have R8 := (R3.out.up C7.out).sets (ws := [.int .i64 b, .int .i64 cp, .int .i64 n, .int .i64 T, .int .i64 e, .int .i64 d]) rfl
  have B8 := below_setCells (B := w.heap.size + 1) (show w.heap.size ≤ w.heap.size + 1 by omega) [.int .i64 b, .int .i64 cp, .int .i64 n, .int .i64 T, .int .i64 e, .int .i64 d] 0 _ (up_trans B3.out C7.out)
  have HR8 := Lib.hid R8; have HB8 := Lib.hid B8
  clear R8 B8
  go_wp2
  exact bodyPost_ret (v := .agg #[.int .i64 b, .int .i64 cp, .int .i64 n, .int .i64 T, .int .i64 e, .int .i64 d]) (results_wide Tryz.results18 (w.heap.size + 1) rfl _ _ HR8.out.range Tryz.underlying52 rfl zero_book) rfl ⟨rfl, HB8.out⟩

theorem may_if (j : Jb) : mayM j = ((atS j (cntS j - 1)).isSome && (if j.n 10 = 1 then nestS j.f else inB (j.n 10) 1 4)) := by
  have hc := of_length j
  have e1 : (atS j (cntS j - 1)).isSome = decide (0 < (ofM j).length) := by
    unfold atS
    by_cases h : 0 < (ofM j).length
    · rw [if_pos (by simp; omega)]
      simp [h]
    · rw [if_neg (by simp; omega)]
      simp [h]
  rw [e1]
  unfold mayM inB
  by_cases hb : j.n 10 = 1
  · simp [hb]
  · simp [hb, Bool.and_comm]
theorem ordBound_any (cs : List Value) (j : Jb) (w : World) (h : JobA w cs j) (hf : WfF j) (hg : GoodM w) :
    Calls Tryz.prog 18 #[.agg cs.toArray] w fun x w' => x = .returned (.agg #[.int .i64 (bkJ j).b, .int .i64 (bkJ j).cp, .int .i64 (bkJ j).n, .int .i64 (bkJ j).T, .int .i64 (bkJ j).e, .int .i64 (bkJ j).d]) ∧ Below w.heap.size w w' := by
  obtain ⟨a, c, a', c', h12, h13, h14, h15, hI, hT⟩ := h.cells
  have h11 : cs[11]? = some (.int .i64 (j.n 10)) := h.num (k := 10) (by decide)
  obtain ⟨n1, n2⟩ := cnt_bounds j
  have KC := fun w1 (hb : Below w.heap.size w w1) => spCount_any cs j w1 (h.up hb) hf (hg.below hb)
  have KA := fun w1 (hb : Below w.heap.size w w1) => (spAt_any cs j (cntS j - 1) w1 (h.up hb) hf (hg.below hb)).mono fun (e : Ending) w' ⟨a, k, he, _, hb⟩ => (⟨a, k, he, hb⟩ : ∃ a k, e = Ending.returned (.tuple #[.agg #[.int .i64 ((atS j (cntS j - 1)).getD zeroSc).c, .int .i64 ((atS j (cntS j - 1)).getD zeroSc).r, .slice a ((atS j (cntS j - 1)).getD zeroSc).l.length k], .bool (atS j (cntS j - 1)).isSome]) ∧ Below w1.heap.size w1 w')
  have hmay := may_if j
  have hp0 : (atS j (cntS j - 1)).isSome = true → partB j = true := fun h0 => by
    rw [← Bool.not_eq_false]
    intro hp
    have : cntS j = 0 := by unfold cntS; rw [if_neg (by rw [hp]; simp)]
    unfold atS at h0
    rw [if_neg (by simp; omega)] at h0
    cases h0
  have KB := fun (h0 : (atS j (cntS j - 1)).isSome = true) w1 (hb : Below w.heap.size w w1) => ordBinds_any cs j w1 (h.up hb) hf (by have := (part_facts (hp0 h0)).2.1; omega)
  by_cases hm : mayM j = true
  · have hm2 := hm
    rw [hmay, Bool.and_eq_true] at hm2
    have KB2 := KB hm2.1
    simp only [hm2.2] at KB2
    have e0 : atS j (cntS j - 1) = some (lastS j) := by
      unfold atS
      have h0 := hm2.1
      unfold atS at h0
      split at h0
      next hh =>
        rw [if_pos hh]
        unfold sigS partE
        rw [if_pos (by simp), if_pos (hp0 hm2.1)]
      next => cases h0
    simp only [e0, Option.getD_some, Option.isSome_some] at KA
    have e1 : bkJ j = ⟨j.n 10, copM j, cntS j, leavesS j, panS j.f, panS (lastS j)⟩ := by unfold bkJ; rw [if_pos hm]
    rw [e1]
    refine ordBound_yes cs (j.n 10) (copM j) (cntS j) _ (leavesS j) (panS j.f) (panS (lastS j)) j.f.c j.f.r (lastS j).c (lastS j).r a j.f.l.length c (lastS j).l.length w h11 h12 h13 h14 h.length n1 (by omega) rfl KC KA KB2 (fun w1 => ?_) (fun w1 hb => spLeaves_any cs j w1 (h.up hb) hf (hg.below hb)) (fun w1 => schPanels_any _ _ _ _ _ w1) (fun a k w1 => schPanels_any _ _ _ _ _ w1)
    rw [copM_ways hm]
    exact ordNum_any _ w1
  · have e1 : bkJ j = ⟨0, 0, 0, 0, 0, 0⟩ := by unfold bkJ; rw [if_neg hm]
    rw [e1]
    exact ordBound_no cs (cntS j) _ _ _ _ _ _ w h.length n1 (by omega) rfl (by rw [← hmay]; simpa using hm) KC KA KB
end Go.Proofs.YtbfigaadbfggcaaGreatDoor
/- What order.Copies, Leaf, Where and Pages answer. -/
namespace Go.Proofs.YtbfigaadbfggcaaGreatDoor
open Go.RowKit
set_option linter.unusedVariables false
set_option linter.unusedSimpArgs false

set_option maxRecDepth 100000 in
theorem ordCopies_core (cs : List Value) (b cp n T e d : Int) (w : World) (hL : cs.length = 33)
    (KB : ∀ w1, Below w.heap.size w w1 → Calls Tryz.prog 18 #[.agg cs.toArray] w1 fun x w' => x = .returned (.agg #[.int .i64 b, .int .i64 cp, .int .i64 n, .int .i64 T, .int .i64 e, .int .i64 d]) ∧ Below w1.heap.size w1 w') :
    Calls Tryz.prog 9 #[.agg cs.toArray] w fun x w' => x = .returned (.int .i64 cp) ∧ Below w.heap.size w w' := by
  have HX := Lib.hid (Bx.new w 29 cs)
  have HB := Lib.hid (up_alloc (Below.refl w.heap.size w) (.cells cs.toArray 29))
  have HL := Lib.hid hL; have HK := Lib.hid KB
  clear hL KB
  go_enter Tryz.func9, Tryz.ntmps9
  go_wp2_with (refine wpList_load_job rfl _ rfl w.heap.size rfl cs HX.out HL.out ?_; simp only [Act.put, List.setIfInBounds_toArray, List.set_cons_succ, List.set_cons_zero])
  refine (HK.out _ HB.out).mono ?_
  rintro x w1 ⟨rfl, hb⟩
  have B1 := Lib.hid (up_trans HB.out hb)
  clear hb
  have q := fun w => (show (Instr.field 52 (.agg #[.int .i64 b, .int .i64 cp, .int .i64 n, .int .i64 T, .int .i64 e, .int .i64 d]) 1).run Tryz.prog w = .ok (.int .i64 cp) w from by kernel_rfl)
  go_wp2
  go_ret
  exact ⟨rfl, B1.out⟩
theorem ordCopies : OrdCopies := fun cs j w h hf hg => by
  have K := ordCopies_core cs _ _ _ _ _ _ w h.length (fun w1 hb => ordBound_any cs j w1 (h.up hb) hf (hg.below hb))
  have e : (bkJ j).cp = copM j := by
    unfold bkJ
    split
    · rfl
    next h => unfold copM; rw [if_neg h]
  rw [e] at K
  exact K

set_option maxRecDepth 100000 in
set_option maxHeartbeats 1000000 in
theorem ordLeaf_core (cs : List Value) (b cp n T e d s c a q P v : Int) (u1 u2 u3 : Bool) (w : World) (hL : cs.length = 33)
    (KB : ∀ w1, Below w.heap.size w w1 → Calls Tryz.prog 18 #[.agg cs.toArray] w1 fun x w' => x = .returned (.agg #[.int .i64 b, .int .i64 cp, .int .i64 n, .int .i64 T, .int .i64 e, .int .i64 d]) ∧ Below w1.heap.size w1 w')
    (K1 : ∀ w1, Calls Tryz.prog 23 #[.int .i64 cp, .int .i64 c] w1 fun x w' => x = .returned (.bool u1) ∧ w1 = w')
    (K2 : ∀ w1, Calls Tryz.prog 23 #[.int .i64 n, .int .i64 s] w1 fun x w' => x = .returned (.bool u2) ∧ w1 = w')
    (KP : ∀ w1, Calls Tryz.prog 24 #[.agg #[.int .i64 b, .int .i64 cp, .int .i64 n, .int .i64 T, .int .i64 e, .int .i64 d], .int .i64 s] w1 fun x w' => x = .returned (.int .i64 q) ∧ Below w1.heap.size w1 w')
    (K3 : ∀ w1, Calls Tryz.prog 23 #[.int .i64 q, .int .i64 a] w1 fun x w' => x = .returned (.bool u3) ∧ w1 = w')
    (KG : u1 = true → u2 = true → u3 = true → ∀ w1, Calls Tryz.prog 26 #[.agg #[.int .i64 b, .int .i64 cp, .int .i64 n, .int .i64 T, .int .i64 e, .int .i64 d], .int .i64 s, .int .i64 c] w1 fun x w' => x = .returned (.int .i64 P) ∧ Below w1.heap.size w1 w')
    (KL : u1 = true → u2 = true → u3 = true → ∀ w1, Calls Tryz.prog 25 #[.agg #[.int .i64 b, .int .i64 cp, .int .i64 n, .int .i64 T, .int .i64 e, .int .i64 d], .int .i64 P, .int .i64 a] w1 fun x w' => x = .returned (.int .i64 v) ∧ Below w1.heap.size w1 w') :
    Calls Tryz.prog 12 #[.agg cs.toArray, .int .i64 s, .int .i64 c, .int .i64 a] w fun x w' => x = .returned (.tuple #[.int .i64 (if (u1 && (u2 && u3)) = true then v else 0), .bool (u1 && (u2 && u3))]) ∧ Below w.heap.size w w' := by
  have HX := Lib.hid (Bx.new w 29 cs)
  have HB := Lib.hid (up_alloc (Below.refl w.heap.size w) (.cells cs.toArray 29))
  have HL := Lib.hid hL; have HK := Lib.hid KB; have H1 := Lib.hid K1; have H2 := Lib.hid K2; have H3 := Lib.hid K3; have HP := Lib.hid KP; have HG := Lib.hid KG; have HV := Lib.hid KL
  clear hL KB K1 K2 K3 KP KG KL
  go_enter Tryz.func12, Tryz.ntmps12
  go_wp2_with (refine wpList_load_job rfl _ rfl w.heap.size rfl cs HX.out HL.out ?_; simp only [Act.put, List.setIfInBounds_toArray, List.set_cons_succ, List.set_cons_zero])
  refine (HK.out _ HB.out).mono ?_
  rintro x w1 ⟨rfl, hb⟩
  have S := Bx.new w1 52 [.int .i64 b, .int .i64 cp, .int .i64 n, .int .i64 T, .int .i64 e, .int .i64 d]
  have U := up_alloc (Below.refl w1.heap.size w1) (.cells #[.int .i64 b, .int .i64 cp, .int .i64 n, .int .i64 T, .int .i64 e, .int .i64 d] 52)
  have B1 := Lib.hid (up_trans (up_trans HB.out hb) U)
  have s0 := S.cell 0 rfl; have s1 := S.cell 1 rfl; have s2 := S.cell 2 rfl; have s3 := S.cell 3 rfl; have s4 := S.cell 4 rfl; have s5 := S.cell 5 rfl
  clear hb U S
  go_wp2_with fail
  refine (H1.out _).mono ?_
  rintro x w2 ⟨rfl, rfl⟩
  obtain ⟨w2, hw2⟩ : ∃ w2, w1.alloc (.cells #[.int .i64 b, .int .i64 cp, .int .i64 n, .int .i64 T, .int .i64 e, .int .i64 d] 52) = w2 := ⟨_, rfl⟩
  rw [hw2] at s0 s1 s2 s3 s4 s5 B1 ⊢
  clear hw2
  cases u1
  · clear H2 H3 HP HG HV
    go_wp2
    go_ret2
    exact ⟨rfl, B1.out⟩
  go_wp2_with fail
  refine (H2.out _).mono ?_
  rintro x w3 ⟨rfl, rfl⟩
  cases u2
  · clear H3 HP HG HV
    go_wp2
    go_ret2
    exact ⟨rfl, B1.out⟩
  go_wp2_with fail
  refine (HP.out _).mono ?_
  rintro x w3 ⟨rfl, hb⟩
  have B3 := Lib.hid (up_trans B1.out hb)
  have g0 := bl_cell hb s0; have g1 := bl_cell hb s1; have g2 := bl_cell hb s2; have g3 := bl_cell hb s3; have g4 := bl_cell hb s4; have g5 := bl_cell hb s5
  clear hb s0 s1 s2 s3 s4 s5
  go_wp2_with fail
  refine (H3.out _).mono ?_
  rintro x w4 ⟨rfl, rfl⟩
  cases u3
  · clear HG HV
    go_wp2
    go_ret2
    exact ⟨rfl, B3.out⟩
  have KG := HG.out (by trivial) (by trivial) (by trivial)
  have KV := HV.out (by trivial) (by trivial) (by trivial)
  have HG2 := Lib.hid KG; have HV2 := Lib.hid KV
  clear KG KV HG HV
  go_wp2_with fail
  have j0 := fun y : Later w3 => y.cell g0
  have j1 := fun y : Later w3 => y.cell g1
  have j2 := fun y : Later w3 => y.cell g2
  have j3 := fun y : Later w3 => y.cell g3
  have j4 := fun y : Later w3 => y.cell g4
  have j5 := fun y : Later w3 => y.cell g5
  clear g0 g1 g2 g3 g4 g5
  refine later_start (w := w3) ?_
  intro y
  refine wp_region_later (by kernel_rfl) (by kernel_rfl) ?_
  repeat (go_big_quiet_step ((first | (go_at_call 26; with_reducible exact Later.call (HG2.out _)) | (go_at_call 25; with_reducible exact Later.call (HV2.out _)))))
  refine wpQuiet_nil ?_
  rintro _ ⟨y2, rfl⟩
  have BB := Lib.hid (up_trans B3.out y2.up)
  clear j0 j1 j2 j3 j4 j5
  go_wp2
  go_ret2
  exact ⟨rfl, BB.out⟩

theorem bk_small (j : Jb) : (0 ≤ (bkJ j).cp ∧ (bkJ j).cp ≤ 2) ∧ (0 ≤ (bkJ j).n ∧ (bkJ j).n ≤ 50000) ∧ (0 ≤ (bkJ j).T ∧ (bkJ j).T ≤ 3200000) ∧ (0 ≤ (bkJ j).e ∧ (bkJ j).e ≤ 64) ∧ (0 ≤ (bkJ j).d ∧ (bkJ j).d ≤ 64) := by
  by_cases h : mayM j = true
  · obtain ⟨e, h0, h1, h2, h3, h4, h5⟩ := bk_facts h
    have hl := leafN_small j (ofM j).length
    rw [e, copM_ways h]
    simp only
    refine ⟨by split <;> omega, by omega, by omega, by omega, by omega⟩
  · have e : bkJ j = ⟨0, 0, 0, 0, 0, 0⟩ := by unfold bkJ; rw [if_neg h]
    rw [e]
    decide
theorem bk_cp (j : Jb) : (bkJ j).cp = copM j := by
  unfold bkJ
  split
  · rfl
  next h => unfold copM; rw [if_neg h]
theorem bkPan_small (j : Jb) (s : Int) : 0 ≤ bkPan (bkJ j) s ∧ bkPan (bkJ j) s ≤ 64 := by
  have := bk_small j
  unfold bkPan
  split <;> omega
theorem bk_smBk {j : Jb} (h : mayM j = true) : SmBk (bkJ j).n (bkJ j).T (bkJ j).e (bkJ j).d := by
  obtain ⟨s1, s2, s3, s4, s5⟩ := bk_small j
  obtain ⟨e, h0, h1, h2, h3, h4, h5⟩ := bk_facts h
  exact ⟨by rw [e]; simp only; omega, s2.2, s3.1, by omega, by rw [e]; simp only; omega, s4.2, s5.1, s5.2⟩
/-- The three guards together. -/
theorem is_guards (j : Jb) (s c a : Int) : ((decide (0 ≤ c) && decide (c ≤ (bkJ j).cp - 1)) && ((decide (0 ≤ s) && decide (s ≤ (bkJ j).n - 1)) && (decide (0 ≤ a) && decide (a ≤ bkPan (bkJ j) s - 1)))) = isLf j s c a := by
  rw [Bool.eq_iff_iff, isLf_iff, bk_cp]
  simp only [Bool.and_eq_true, decide_eq_true_eq]
  constructor
  · rintro ⟨⟨c1, c2⟩, ⟨s1, s2⟩, a1, a2⟩
    have hno : ¬ (c < 0 ∨ copM j ≤ c) := by omega
    obtain ⟨hm, -⟩ := cop_may hno
    obtain ⟨e, -⟩ := bk_facts hm
    have hn : (bkJ j).n = (ofM j).length := by rw [e]
    obtain ⟨i, rfl⟩ := Int.eq_ofNat_of_zero_le s1
    obtain ⟨b, rfl⟩ := Int.eq_ofNat_of_zero_le a1
    have hi : i < (ofM j).length := by omega
    rw [bk_pan hm hi] at a2
    exact ⟨hno, i, b, rfl, rfl, hi, by omega⟩
  · rintro ⟨hno, i, b, rfl, rfl, hi, hb⟩
    obtain ⟨hm, -⟩ := cop_may hno
    obtain ⟨e, -⟩ := bk_facts hm
    have hn : (bkJ j).n = (ofM j).length := by rw [e]
    rw [bk_pan hm hi, hn]
    omega
theorem ordLeaf : OrdLeaf := fun cs j s c a w h hf hg is ic ia => by
  obtain ⟨s1, s2, s3, s4, s5⟩ := bk_small j
  have hq := bkPan_small j s
  have K := ordLeaf_core cs (bkJ j).b (bkJ j).cp (bkJ j).n (bkJ j).T (bkJ j).e (bkJ j).d s c a (bkPan (bkJ j) s) (bkPlace (bkJ j) s c) (bkLeaf (bkJ j) (bkPlace (bkJ j) s c) a) _ _ _ w h.length
    (fun w1 hb => ordBound_any cs j w1 (h.up hb) hf (hg.below hb)) (fun w1 => ordHas_any _ c w1 s1.1 (by omega)) (fun w1 => ordHas_any _ s w1 s2.1 (by omega)) (fun w1 => ordPanels_any _ _ _ _ _ _ s w1 s2.1 (by omega))
    (fun w1 => ordHas_any _ a w1 hq.1 (by omega)) (fun g1 g2 g3 w1 => ?_) (fun g1 g2 g3 w1 => ?_)
  · rw [is_guards] at K
    have e : (if isLf j s c a = true then bkLeaf (bkJ j) (bkPlace (bkJ j) s c) a else 0) = leafO j s c a := by
      unfold leafO
      by_cases hl : isLf j s c a = true
      · rw [if_pos hl, if_pos hl]
        obtain ⟨hno, i, b, rfl, rfl, hi, hb⟩ := isLf_iff.1 hl
        rw [bk_leaf hno hi hb, Int.toNat_natCast, Int.toNat_natCast]
      · rw [if_neg hl, if_neg hl]
    rw [e] at K
    exact K
  · simp only [Bool.and_eq_true, decide_eq_true_eq] at g2
    exact ordPlace_any _ _ _ _ _ _ s c w1 s2.1 (by omega) (by omega) (by omega)
  · have hl : isLf j s c a = true := by rw [← is_guards, g1, g2, g3]; rfl
    obtain ⟨hno, i, b, rfl, rfl, hi, hb⟩ := isLf_iff.1 hl
    obtain ⟨hm, -⟩ := cop_may hno
    have h6 := panN_small j i
    obtain ⟨e, h0, -⟩ := bk_facts hm
    have hn : (bkJ j).n = (ofM j).length := by rw [e]
    have hp : 0 ≤ bkPlace (bkJ j) i c ∧ bkPlace (bkJ j) i c ≤ 50000 := by
      unfold bkPlace
      split <;> omega
    exact ordLeafK_any _ _ _ _ _ _ _ _ w1 (bk_smBk hm) hp.1 hp.2 (by omega) (by omega)

set_option maxRecDepth 100000 in
set_option maxHeartbeats 1000000 in
theorem ordWhere_core (cs : List Value) (b cp n T e d c x P A v : Int) (u1 u2 : Bool) (w : World) (hL : cs.length = 33)
    (KB : ∀ w1, Below w.heap.size w w1 → Calls Tryz.prog 18 #[.agg cs.toArray] w1 fun x w' => x = .returned (.agg #[.int .i64 b, .int .i64 cp, .int .i64 n, .int .i64 T, .int .i64 e, .int .i64 d]) ∧ Below w1.heap.size w1 w')
    (K1 : ∀ w1, Calls Tryz.prog 23 #[.int .i64 cp, .int .i64 c] w1 fun x w' => x = .returned (.bool u1) ∧ w1 = w')
    (K2 : ∀ w1, Calls Tryz.prog 23 #[.int .i64 T, .int .i64 x] w1 fun x w' => x = .returned (.bool u2) ∧ w1 = w')
    (KW : u1 = true → u2 = true → ∀ w1, Calls Tryz.prog 27 #[.agg #[.int .i64 b, .int .i64 cp, .int .i64 n, .int .i64 T, .int .i64 e, .int .i64 d], .int .i64 x] w1 fun y w' => y = .returned (.tuple #[.int .i64 P, .int .i64 A]) ∧ Below w1.heap.size w1 w')
    (KG : u1 = true → u2 = true → ∀ w1, Calls Tryz.prog 26 #[.agg #[.int .i64 b, .int .i64 cp, .int .i64 n, .int .i64 T, .int .i64 e, .int .i64 d], .int .i64 P, .int .i64 c] w1 fun x w' => x = .returned (.int .i64 v) ∧ Below w1.heap.size w1 w') :
    Calls Tryz.prog 13 #[.agg cs.toArray, .int .i64 c, .int .i64 x] w fun y w' => y = .returned (.tuple #[.int .i64 (if (u1 && u2) = true then v else 0), .int .i64 (if (u1 && u2) = true then A else 0), .bool (u1 && u2)]) ∧ Below w.heap.size w w' := by
  have HX := Lib.hid (Bx.new w 29 cs)
  have HB := Lib.hid (up_alloc (Below.refl w.heap.size w) (.cells cs.toArray 29))
  have HL := Lib.hid hL; have HK := Lib.hid KB; have H1 := Lib.hid K1; have H2 := Lib.hid K2; have HG := Lib.hid KG; have HW := Lib.hid KW
  clear hL KB K1 K2 KG KW
  go_enter Tryz.func13, Tryz.ntmps13
  go_wp2_with (refine wpList_load_job rfl _ rfl w.heap.size rfl cs HX.out HL.out ?_; simp only [Act.put, List.setIfInBounds_toArray, List.set_cons_succ, List.set_cons_zero])
  refine (HK.out _ HB.out).mono ?_
  rintro y w1 ⟨rfl, hb⟩
  have S := Bx.new w1 52 [.int .i64 b, .int .i64 cp, .int .i64 n, .int .i64 T, .int .i64 e, .int .i64 d]
  have U := up_alloc (Below.refl w1.heap.size w1) (.cells #[.int .i64 b, .int .i64 cp, .int .i64 n, .int .i64 T, .int .i64 e, .int .i64 d] 52)
  have B1 := Lib.hid (up_trans (up_trans HB.out hb) U)
  have s0 := S.cell 0 rfl; have s1 := S.cell 1 rfl; have s2 := S.cell 2 rfl; have s3 := S.cell 3 rfl; have s4 := S.cell 4 rfl; have s5 := S.cell 5 rfl
  clear hb U S
  go_wp2_with fail
  refine (H1.out _).mono ?_
  rintro y w2 ⟨rfl, rfl⟩
  obtain ⟨w2, hw2⟩ : ∃ w2, w1.alloc (.cells #[.int .i64 b, .int .i64 cp, .int .i64 n, .int .i64 T, .int .i64 e, .int .i64 d] 52) = w2 := ⟨_, rfl⟩
  rw [hw2] at s0 s1 s2 s3 s4 s5 B1 ⊢
  clear hw2
  cases u1
  · clear H2 HW HG
    go_wp2
    exact bodyPost_ret (v := .tuple #[.int .i64 0, .int .i64 0, .bool false]) (by simp [results, Tryz.results13, go_sem]) rfl ⟨rfl, B1.out⟩
  go_wp2_with fail
  refine (H2.out _).mono ?_
  rintro y w3 ⟨rfl, rfl⟩
  cases u2
  · clear HW HG
    go_wp2
    exact bodyPost_ret (v := .tuple #[.int .i64 0, .int .i64 0, .bool false]) (by simp [results, Tryz.results13, go_sem]) rfl ⟨rfl, B1.out⟩
  have KG := HG.out (by trivial) (by trivial)
  have KW := HW.out (by trivial) (by trivial)
  have HG2 := Lib.hid KG; have HW2 := Lib.hid KW
  clear KG KW HG HW
  go_wp2_with fail
  refine (HW2.out _).mono ?_
  rintro y w3 ⟨rfl, hb⟩
  have B3 := Lib.hid (up_trans B1.out hb)
  have g0 := bl_cell hb s0; have g1 := bl_cell hb s1; have g2 := bl_cell hb s2; have g3 := bl_cell hb s3; have g4 := bl_cell hb s4; have g5 := bl_cell hb s5
  clear hb s0 s1 s2 s3 s4 s5
  go_wp2_with fail
  refine (HG2.out _).mono ?_
  rintro y w4 ⟨rfl, hb⟩
  have B4 := Lib.hid (up_trans B3.out hb)
  clear hb g0 g1 g2 g3 g4 g5
  go_wp2
  exact bodyPost_ret (v := .tuple #[.int .i64 v, .int .i64 A, .bool true]) (by simp [results, Tryz.results13, go_sem]) rfl ⟨rfl, B4.out⟩
/-- The two guards together. -/
theorem at_guards (j : Jb) (c x : Int) : ((decide (0 ≤ c) && decide (c ≤ (bkJ j).cp - 1)) && (decide (0 ≤ x) && decide (x ≤ (bkJ j).T - 1))) = (atO j c x).isSome := by
  rw [bk_cp]
  by_cases hno : c < 0 ∨ copM j ≤ c
  · have e1 : atO j c x = none := by
      unfold atO
      rw [bookM_none hno]
      split <;> simp
    rw [e1, Bool.eq_iff_iff]
    simp
    omega
  · obtain ⟨hm, -⟩ := cop_may hno
    obtain ⟨e, -⟩ := bk_facts hm
    have ht : (bkJ j).T = (bookM j c).length := by rw [bookM_length hno, e]
    unfold atO
    by_cases hx : x < 0
    · rw [if_pos hx, Bool.eq_iff_iff]
      simp
      omega
    · rw [if_neg hx, Bool.eq_iff_iff]
      simp
      omega
theorem ordWhere : OrdWhere := fun cs j c x w h hf hg ic ix => by
  obtain ⟨s1, s2, s3, s4, s5⟩ := bk_small j
  have facts : ((decide (0 ≤ c) && decide (c ≤ (bkJ j).cp - 1)) = true) → ((decide (0 ≤ x) && decide (x ≤ (bkJ j).T - 1)) = true) → ∃ i a : Nat, atO j c x = some (i, a) ∧ mayM j = true ∧ i < (ofM j).length ∧ a < panN (ofM j) i ∧ bkPlace (bkJ j) (bkFrom (bkJ j) x).1 c = i ∧ (bkFrom (bkJ j) x).2 = a := fun g1 g2 => by
    have hs : (atO j c x).isSome = true := by rw [← at_guards, g1, g2]; rfl
    rw [bk_cp] at g1
    simp only [Bool.and_eq_true, decide_eq_true_eq] at g1 g2
    have hno : ¬ (c < 0 ∨ copM j ≤ c) := by omega
    obtain ⟨hm, -⟩ := cop_may hno
    obtain ⟨y, rfl⟩ := Int.eq_ofNat_of_zero_le g2.1
    have e1 : atO j c y = (bookM j c)[y]? := by
      unfold atO
      rw [if_neg (by omega), Int.toNat_natCast]
    rw [e1] at hs ⊢
    have hlt : y < (bookM j c).length := by simpa using hs
    obtain ⟨i, a, hi, ha, hp, hat⟩ := book_each hlt
    have := bk_from hno hi ha
    rw [hp] at this
    exact ⟨i, a, hat, hm, hi, ha, this⟩
  have K := ordWhere_core cs (bkJ j).b (bkJ j).cp (bkJ j).n (bkJ j).T (bkJ j).e (bkJ j).d c x (bkFrom (bkJ j) x).1 (bkFrom (bkJ j) x).2 (bkPlace (bkJ j) (bkFrom (bkJ j) x).1 c) _ _ w h.length
    (fun w1 hb => ordBound_any cs j w1 (h.up hb) hf (hg.below hb)) (fun w1 => ordHas_any _ c w1 s1.1 (by omega)) (fun w1 => ordHas_any _ x w1 s3.1 (by omega)) (fun g1 g2 w1 => ?_) (fun g1 g2 w1 => ?_)
  · rw [at_guards] at K
    cases hs : (atO j c x).isSome with
    | false =>
      rw [hs] at K
      rw [Option.isSome_eq_false_iff, Option.isNone_iff_eq_none] at hs
      rw [hs]
      exact K
    | true =>
      rw [hs] at K
      rw [← at_guards, Bool.and_eq_true] at hs
      obtain ⟨i, a, e1, -, -, -, e2, e3⟩ := facts hs.1 hs.2
      rw [e1]
      simp only [e2, e3, if_true] at K
      exact K
  · obtain ⟨i, a, -, hm, -⟩ := facts g1 g2
    simp only [Bool.and_eq_true, decide_eq_true_eq] at g2
    obtain ⟨e, h0, h1, h2, h3, h4, h5⟩ := bk_facts hm
    refine ordFromK_any _ _ _ _ _ _ x w1 (bk_smBk hm) (fun h1 => ?_) g2.1 g2.2
    rw [e] at h1 ⊢
    have := nest_half hm h1
    simp only
    omega
  · obtain ⟨i, a, -, hm, hi, -, e2, -⟩ := facts g1 g2
    have hn : (bkJ j).n = (ofM j).length := by rw [(bk_facts hm).1]
    have hp : -1000000000 ≤ (bkFrom (bkJ j) x).1 ∧ (bkFrom (bkJ j) x).1 ≤ 1000000000 := by
      unfold bkPlace at e2
      split at e2 <;> omega
    exact ordPlace_any _ _ _ _ _ _ _ c w1 s2.1 (by omega) hp.1 hp.2

set_option maxRecDepth 100000 in
set_option maxHeartbeats 1000000 in
theorem ordPages_core (cs : List Value) (b cp n T e d x p q v1 v2 : Int) (u : Bool) (w : World) (hL : cs.length = 33)
    (KB : ∀ w1, Below w.heap.size w w1 → Calls Tryz.prog 18 #[.agg cs.toArray] w1 fun x w' => x = .returned (.agg #[.int .i64 b, .int .i64 cp, .int .i64 n, .int .i64 T, .int .i64 e, .int .i64 d]) ∧ Below w1.heap.size w1 w')
    (K2 : ∀ w1, Calls Tryz.prog 23 #[.int .i64 T, .int .i64 x] w1 fun x w' => x = .returned (.bool u) ∧ w1 = w')
    (hp : 2 * x + 1 = p) (hq : 2 * x + 2 = q) (hx : u = true → 0 ≤ x ∧ x ≤ 1000000000)
    (KP : ∀ w1, Calls Tryz.prog 28 #[.agg cs.toArray, .int .i64 p] w1 fun x w' => x = .returned (.int .i64 v1) ∧ Below w1.heap.size w1 w')
    (KQ : ∀ w1, Calls Tryz.prog 28 #[.agg cs.toArray, .int .i64 q] w1 fun x w' => x = .returned (.int .i64 v2) ∧ Below w1.heap.size w1 w') :
    Calls Tryz.prog 15 #[.agg cs.toArray, .int .i64 x] w fun y w' => y = .returned (.tuple #[.int .i64 (if u = true then v1 else 0), .int .i64 (if u = true then v2 else 0)]) ∧ Below w.heap.size w w' := by
  have HX := Lib.hid (Bx.new w 29 cs)
  have HB := Lib.hid (up_alloc (Below.refl w.heap.size w) (.cells cs.toArray 29))
  have HL := Lib.hid hL; have HK := Lib.hid KB; have H2 := Lib.hid K2; have HP := Lib.hid KP; have HQ := Lib.hid KQ; have HH := Lib.hid hx
  clear hL KB K2 KP KQ hx
  go_enter Tryz.func15, Tryz.ntmps15
  go_wp2_with (refine wpList_load_job rfl _ rfl w.heap.size rfl cs HX.out HL.out ?_; simp only [Act.put, List.setIfInBounds_toArray, List.set_cons_succ, List.set_cons_zero])
  refine (HK.out _ HB.out).mono ?_
  rintro y w1 ⟨rfl, hb⟩
  have X1 := Lib.hid (HX.out.later (by rw [HL.out]; decide) hb)
  have B1 := Lib.hid (up_trans HB.out hb)
  clear hb
  have q := fun w => (show (Instr.field 52 (.agg #[.int .i64 b, .int .i64 cp, .int .i64 n, .int .i64 T, .int .i64 e, .int .i64 d]) 3).run Tryz.prog w = .ok (.int .i64 T) w from by kernel_rfl)
  go_wp2_with fail
  refine (H2.out _).mono ?_
  rintro y w2 ⟨rfl, rfl⟩
  cases u
  · clear HH HP HQ
    go_wp2
    go_ret2
    exact ⟨rfl, B1.out⟩
  obtain ⟨x0, x1⟩ := HH.out (by trivial)
  have HRG := Lib.hid (later_range X1.out (by rw [HL.out]; decide))
  obtain ⟨t, ht⟩ : ∃ t, 2 * x = t := ⟨_, rfl⟩
  rw [ht] at hp hq
  go_wp2_with fail
  refine later_start (w := w1) ?_
  intro y
  refine wp_region_later (by kernel_rfl) (by kernel_rfl) ?_
  repeat (first
    | (go_big_quiet_want; refine quiet_load_job _ rfl w.heap.size rfl cs HL.out HRG.out ?_; simp only [Act.put, List.setIfInBounds_toArray, List.set_cons_succ, List.set_cons_zero]; go_big_quiet_on)
    | go_big_quiet_step ((go_at_call 28; first | with_reducible exact Later.call (HP.out _) | with_reducible exact Later.call (HQ.out _))))
  refine wpQuiet_nil ?_
  rintro _ ⟨y2, rfl⟩
  have BB := Lib.hid (up_trans B1.out y2.up)
  go_wp2
  go_ret2
  exact ⟨rfl, BB.out⟩
theorem ordPages : OrdPages := fun cs j x w h hf hg ix => by
  obtain ⟨s1, s2, s3, s4, s5⟩ := bk_small j
  have h1 : cs[1]? = some (.int .i64 (j.n 0)) := h.num (k := 0) (by decide)
  have K := ordPages_core cs (bkJ j).b (bkJ j).cp (bkJ j).n (bkJ j).T (bkJ j).e (bkJ j).d x _ _ _ _ _ w h.length
    (fun w1 hb => ordBound_any cs j w1 (h.up hb) hf (hg.below hb)) (fun w1 => ordHas_any _ x w1 s3.1 (by omega)) rfl rfl (fun hu => by
      simp only [Bool.and_eq_true, decide_eq_true_eq] at hu
      omega) (fun w1 => ordPrinted_any cs (j.n 0) (2 * x + 1) w1 h1) (fun w1 => ordPrinted_any cs (j.n 0) (2 * x + 2) w1 h1)
  have e : (decide (0 ≤ x) && decide (x ≤ (bkJ j).T - 1)) = (atO j 0 x).isSome := by
    have := at_guards j 0 x
    by_cases hm : mayM j = true
    · have hc : 1 ≤ (bkJ j).cp := by rw [bk_cp, copM_ways hm]; split <;> omega
      rw [show (decide ((0 : Int) ≤ 0) && decide (0 ≤ (bkJ j).cp - 1)) = true by simp; omega, Bool.true_and] at this
      exact this
    · have eb : bkJ j = ⟨0, 0, 0, 0, 0, 0⟩ := by unfold bkJ; rw [if_neg hm]
      rw [eb] at this ⊢
      rw [← this, Bool.eq_iff_iff]
      simp
      omega
  rw [e] at K
  unfold pageO pageM
  simp only [if_true] 
  exact K
end Go.Proofs.YtbfigaadbfggcaaGreatDoor
