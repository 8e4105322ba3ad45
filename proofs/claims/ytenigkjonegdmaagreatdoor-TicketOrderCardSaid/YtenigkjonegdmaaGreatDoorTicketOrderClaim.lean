/- Of any job that is small and can be told, Parse answers the same job of its ticket's lines in whatever turned order, each with a remark behind it, and how many lines there are: TicketOrder answers true, and leaves its argument as it was -/
import Derived.Test.YtenigkjonegdmaaGreatDoorPart12
import Derived.Test.YtenigkjonegdmaaGreatDoorPart15
import Derived.Test.YtenigkjonegdmaaGreatDoorRows
import Derived.Test.YtenigkjonegdmaaGreatDoorCards
import Derived.Test.YtenigkjonegdmaaGreatDoorTie
import Derived.WalkKit
import Derived.LaidMore
import Derived.Lay
import Derived.MakeChecks
import Derived.Stop.Joined
import Derived.SevenTiedAt
import Derived.ProofKit
import Derived.OpenShut
import Derived.ShutString
import Derived.ChangeOld
import Derived.Below
import Derived.Lib.SmallJoins
import Derived.Laws.IdiomArrays
/- What TicketOrder answers: true, of every job and every turn. -/
namespace Go.Proofs.YtenigkjonegdmaaGreatDoor
open Go.RowKit
set_option linter.unusedVariables false
set_option linter.unusedSimpArgs false

/-- What Parse answers of a told job's lines, turned. -/
theorem parse_turned_any {j : Jb} (ht : tellB j = true) (hw : WfJ j) (B : Nat) (hz : ∀ l ∈ j.ls, l.length ≤ B) (hB : B ≤ 5000) (t : Nat) (w : World) (hg : GoodM w) :
    Calls Tryz.prog 9 #[.string (tx (turnT (rowsJ j) t (rowsJ j).length))] w fun e w' => ∃ cs, e = .returned (.tuple #[.agg cs.toArray, .int .i64 (((rowsJ j).length : Int) + 2), .int .i64 0]) ∧ JobA w' cs j ∧ Below w.heap.size w w' := by
  obtain ⟨c, hc, hs⟩ := ticket_turned ht hw t
  obtain ⟨h16, h1, hr⟩ := rows_len ht hw B hz
  have hl := turn_len hr t (n := (rowsJ j).length) (by omega)
  have hl2 : (rowsJ j).length * (8 + 7 * (201 + B) + 24) ≤ 16 * (8 + 7 * (201 + B) + 24) := Nat.mul_le_mul_right _ h16
  have := parse_any (turnT (rowsJ j) t (rowsJ j).length) w (by omega) hg
  rw [hc] at this
  refine this.mono ?_
  rintro e w' ⟨cs, he, hJ, hb⟩
  exact ⟨cs, he, hs.jobA hJ.jobA, hb⟩

/-- As far as the k-th line, the text stands. -/
def TurnRel (P : List (List UInt8)) (t N : Nat) (w5 : World) (v i : Value) (wr : World) : Prop :=
  ∃ k : Nat, k ≤ N ∧ i = .int .i64 (k : Int) ∧ v = .string (tx (turnT P t k)) ∧ ∃ u : Later w5, wr = u.now
theorem turn_sum (P : List (List UInt8)) (t k q : Nat) (hq : (k + t) % P.length = q) {A D S : ByteArray} (hA : tx (P.getD q []) = A) (hD : tx (Lib.itoa (k : Int)) = D) (hS : tx (turnT P t k) = S) :
    S ++ A ++ (⟨#[32, 35, 32]⟩ : ByteArray) ++ D ++ (⟨#[10]⟩ : ByteArray) = tx (turnT P t (k + 1)) := by
  rw [turn_next, ← hS, ← hA, ← hD, show (⟨#[32, 35, 32]⟩ : ByteArray) = tx [32, 35, 32] from rfl, show (⟨#[10]⟩ : ByteArray) = tx [10] from rfl, tx_append, tx_append, tx_append, tx_append]
  unfold turnRow
  rw [hq]
  simp

set_option maxRecDepth 100000 in
set_option maxHeartbeats 4000000 in
/-- Where the job is too great, or can't be told. -/
theorem order_none (cs : List Value) (j : Jb) (a : Int) (lb : Bool) (S : ByteArray) (w : World) (h : JobA w cs j) (hl : cs.length = 33) (hg : GoodM w)
    (KL : ∀ w1, Below w.heap.size w w1 → Calls Tryz.prog 12 #[.agg cs.toArray] w1 fun e w' => ∃ b, e = .returned (.bool b) ∧ (b = true → lb = true) ∧ Below w1.heap.size w1 w')
    (KR : lb = true → ∀ w1, Below w.heap.size w w1 → Calls Tryz.prog 8 #[.agg cs.toArray] w1 fun e w' => e = .returned (.tuple #[.string S, .bool false]) ∧ Below w1.heap.size w1 w') :
    Calls Tryz.prog 5 #[.agg cs.toArray, .int .u8 a] w fun e w' => e = .returned (.bool true) ∧ Below w.heap.size w w' := by
  have HX := Lib.hid (Bx.new w 29 cs)
  have hB := up_alloc (Below.refl w.heap.size w) (.cells cs.toArray 29)
  have HB := Lib.hid hB
  have HA := Lib.hid (tAlive_any _ (hg.below hB))
  have HL := Lib.hid hl; have HKL := Lib.hid KL; have HKR := Lib.hid KR
  clear hl hg hB KL KR h
  go_enter Tryz.func5, Tryz.ntmps5
  go_wp2_with fail
  refine HA.out.mono ?_
  rintro e w2 ⟨rfl, hb⟩
  have HX2 := Lib.hid (HX.out.later (by rw [HL.out]; decide) hb)
  have HB2 := Lib.hid (up_trans HB.out hb)
  clear hb HX HB HA
  go_wp2_with (refine wpList_load_job rfl _ rfl w.heap.size rfl cs HX2.out HL.out ?_; simp only [Act.put, List.setIfInBounds_toArray, List.set_cons_succ, List.set_cons_zero])
  refine (HKL.out _ HB2.out).mono ?_
  rintro e w3 ⟨b, rfl, hbl, hb⟩
  have HX3 := Lib.hid (HX2.out.later (by rw [HL.out]; decide) hb)
  have HB3 := Lib.hid (up_trans HB2.out hb)
  clear hb
  cases b
  · go_wp2
    go_ret
    exact ⟨rfl, HB3.out⟩
  · have HR := Lib.hid (HKR.out (hbl rfl) _ HB3.out)
    clear hbl
    go_wp2_with (refine wpList_load_job rfl _ rfl w.heap.size rfl cs HX3.out HL.out ?_; simp only [Act.put, List.setIfInBounds_toArray, List.set_cons_succ, List.set_cons_zero])
    refine HR.out.mono ?_
    rintro e w4 ⟨rfl, hb⟩
    have HB4 := Lib.hid (up_trans HB3.out hb)
    clear hb HR
    go_wp2
    go_ret
    exact ⟨rfl, HB4.out⟩

set_option maxRecDepth 100000 in
set_option maxHeartbeats 4000000 in
theorem order_some (cs : List Value) (j : Jb) (t N : Nat) (P : List (List UInt8)) (S : ByteArray) (w : World) (h : JobA w cs j) (hl : cs.length = 33) (hg : GoodM w) (ht : t ≤ 255) (hP : P.length = N) (h1 : 1 ≤ N) (h16 : N ≤ 16) (hr : ∀ p ∈ P, p.length ≤ 2000)
    (KL : ∀ w1, Below w.heap.size w w1 → Calls Tryz.prog 12 #[.agg cs.toArray] w1 fun e w' => ∃ b, e = .returned (.bool b) ∧ Below w1.heap.size w1 w')
    (KR : ∀ w1, Below w.heap.size w w1 → Calls Tryz.prog 8 #[.agg cs.toArray] w1 fun e w' => e = .returned (.tuple #[.string S, .bool true]) ∧ Below w1.heap.size w1 w')
    (KN : ∀ w1, Calls Tryz.prog 13 #[.string S] w1 (GivesT w1.heap.size (P ++ [[]]) w1))
    (KP : ∀ w1, GoodM w1 → Calls Tryz.prog 9 #[.string (tx (turnT P t N))] w1 fun e w' => ∃ ds, e = .returned (.tuple #[.agg ds.toArray, .int .i64 ((N : Int) + 2), .int .i64 0]) ∧ JobA w' ds j ∧ Below w1.heap.size w1 w')
    (KS : ∀ ds w1, JobA w1 ds j → JobA w1 cs j → Calls Tryz.prog 10 #[.agg ds.toArray, .agg cs.toArray] w1 fun e w' => e = .returned (.bool true) ∧ Below w1.heap.size w1 w') :
    Calls Tryz.prog 5 #[.agg cs.toArray, .int .u8 (t : Int)] w fun e w' => e = .returned (.bool true) ∧ Below w.heap.size w w' := by
  have HX := Lib.hid (Bx.new w 29 cs)
  have hB := up_alloc (Below.refl w.heap.size w) (.cells cs.toArray 29)
  have HB := Lib.hid hB
  have HA := Lib.hid (tAlive_any _ (hg.below hB))
  have HL := Lib.hid hl; have HKL := Lib.hid KL; have HKR := Lib.hid KR; have HKN := Lib.hid KN; have HKP := Lib.hid KP; have HKS := Lib.hid KS
  have HJ := Lib.hid h; have HG := Lib.hid hg; have HP := Lib.hid hP; have HR := Lib.hid hr
  have HTl := Lib.hid (fun k => turn_len hr t (n := k))
  clear hl hg hB KL KR KN KP KS h hP hr
  go_enter Tryz.func5, Tryz.ntmps5
  go_wp2_with fail
  refine HA.out.mono ?_
  rintro e w2 ⟨rfl, hb⟩
  have HX2 := Lib.hid (HX.out.later (by rw [HL.out]; decide) hb)
  have HB2 := Lib.hid (up_trans HB.out hb)
  clear hb HX HB HA
  go_wp2_with (refine wpList_load_job rfl _ rfl w.heap.size rfl cs HX2.out HL.out ?_; simp only [Act.put, List.setIfInBounds_toArray, List.set_cons_succ, List.set_cons_zero])
  refine (HKL.out _ HB2.out).mono ?_
  rintro e w3 ⟨b, rfl, hb⟩
  have HX3 := Lib.hid (HX2.out.later (by rw [HL.out]; decide) hb)
  have HB3 := Lib.hid (up_trans HB2.out hb)
  clear hb
  cases b
  · go_wp2
    go_ret
    exact ⟨rfl, HB3.out⟩
  go_wp2_with (refine wpList_load_job rfl _ rfl w.heap.size rfl cs HX3.out HL.out ?_; simp only [Act.put, List.setIfInBounds_toArray, List.set_cons_succ, List.set_cons_zero])
  refine (HKR.out _ HB3.out).mono ?_
  rintro e w4 ⟨rfl, hb⟩
  have HX4 := Lib.hid (HX3.out.later (by rw [HL.out]; decide) hb)
  have HB4 := Lib.hid (up_trans HB3.out hb)
  clear hb HX2 HX3 HB2 HB3 HKL HKR
  go_wp2_with fail
  refine (HKN.out _).mono ?_
  rintro e w5 ⟨v, rfl, hrow, hb⟩
  have HX5 := Lib.hid (HX4.out.later (by rw [HL.out]; decide) hb)
  have HB5 := Lib.hid (up_trans HB4.out hb)
  obtain ⟨g, c, rfl, -, hcell, hcap, hmax⟩ := hrow.own (by simp)
  obtain ⟨K, hK⟩ : ∃ K, (P ++ [[]]).length = K := ⟨_, rfl⟩
  have hKN : K = N + 1 := by rw [← hK, List.length_append, HP.out]; rfl
  have HC := Lib.hid (show ∀ i, i < N → w5.cell? ⟨g, i, none⟩ = some (.string (tx (P.getD i []))) from fun i hi => by
    have hi' : i < P.length := by rw [HP.out]; exact hi
    refine hcell i _ ?_
    rw [List.getElem?_append_left hi', List.getD_eq_getElem?_getD, List.getElem?_eq_getElem hi']
    rfl)
  rw [hK] at hcap ⊢
  have z1 : (K : Int) - 1 = (N : Int) := by omega
  have z2 : (K : Int) ≤ 17 := by omega
  have z3 : (1 : Int) ≤ (K : Int) := by omega
  have hcN : N ≤ c := by omega
  clear hb HX4 HB4 HKN hrow hcell hK hKN
  unfold maxLen at hmax
  go_wp2
  clear z1 z2 z3
  go_loopw [8, 9] (fun v i wr => TurnRel P t N w5 v i wr) (fun _ i _ => N - (intOf i).toNat)
  case atStart => exact ⟨0, by omega, by go_num, rfl, ⟨w5, Below.refl _ _⟩, rfl⟩
  case round =>
    obtain ⟨k, hk, rfl, rfl, u, rfl⟩ := hrel
    have htz := HTl.out k (by omega)
    by_cases hlt : k < N
    · obtain ⟨q, hq⟩ : ∃ q, (k + t) % N = q := ⟨_, rfl⟩
      have hqN : q < N := by rw [← hq]; exact Nat.mod_lt _ (by omega)
      have c0 := HC.out q hqN
      have z0 : (0 : Int) ≤ (k : Int) := by omega
      have z1 : (k : Int) < (N : Int) := by omega
      have z2 : IntKind.i64.wrap ((k : Int) + (t : Int)) = ((k + t : Nat) : Int) := IntWalk.i64_in _ (by omega)
      have z3 : ((k + t : Nat) : Int) % (N : Int) = (q : Int) := by rw [← hq]; exact (Int.natCast_emod _ _).symm
      have z4 : ((k + t : Nat) : Int).tmod (N : Int) = (q : Int) := by rw [Int.tmod_eq_emod_of_nonneg (by omega)]; exact z3
      have z9 : ((k : Int) + (t : Int)) % (N : Int) = (q : Int) := by rw [← z3]; push_cast; rfl
      have z5 : (0 : Int) ≤ (q : Int) := by omega
      have z6 : (q : Int) < (N : Int) := by omega
      have z7 : ((N : Int) == 0) = false := by simp; omega
      have z8 : IntKind.i64.wrap (t : Int) = (t : Int) := IntWalk.i64_in _ (by omega)
      have hsum := fun {A D S : ByteArray} => turn_sum P t k q (by rw [HP.out]; exact hq) (A := A) (D := D) (S := S)
      have hD20 := DecMath.itoa_len (k : Int) (by omega) (by omega)
      have hk2 : N * (2000 + 24) ≤ 16 * 2024 := Nat.mul_le_mul_right _ h16
      have hk3 : k * (2000 + 24) ≤ 16 * 2024 := Nat.mul_le_mul_right _ (by omega)
      have hA2 : (P.getD q []).length ≤ 2000 := by
        have hi' : q < P.length := by rw [HP.out]; exact hqN
        rw [List.getD_eq_getElem?_getD, List.getElem?_eq_getElem hi']
        exact HR.out _ (List.getElem_mem hi')
      have KD := fun w1 => refPut2 (k : Int) w1 (by omega) (by omega)
      obtain ⟨A, hA⟩ : ∃ A, tx (P.getD q []) = A := ⟨_, rfl⟩
      obtain ⟨D, hD⟩ : ∃ D, tx (Lib.itoa (k : Int)) = D := ⟨_, rfl⟩
      obtain ⟨S0, hS⟩ : ∃ S0, tx (turnT P t k) = S0 := ⟨_, rfl⟩
      have hAz : A.size ≤ 2000 := by rw [← hA, tx_size]; exact hA2
      have hDz : D.size ≤ 20 := by rw [← hD, tx_size]; exact hD20.2
      have hSz : S0.size ≤ 40000 := by rw [← hS, tx_size]; omega
      have hO := hsum hA hD hS
      obtain ⟨R1, hR1⟩ : ∃ R1, S0 ++ A = R1 := ⟨_, rfl⟩
      have hR1z : R1.size ≤ 42000 := by rw [← hR1, ByteArray.size_append]; omega
      rw [hR1] at hO
      obtain ⟨R2, hR2⟩ : ∃ R2, R1 ++ (⟨#[32, 35, 32]⟩ : ByteArray) = R2 := ⟨_, rfl⟩
      have hR2z : R2.size ≤ 42003 := by rw [← hR2, ByteArray.size_append, show (⟨#[32, 35, 32]⟩ : ByteArray).size = 3 from rfl]; omega
      rw [hR2] at hO
      obtain ⟨R3, hR3⟩ : ∃ R3, R2 ++ D = R3 := ⟨_, rfl⟩
      have hR3z : R3.size ≤ 42023 := by rw [← hR3, ByteArray.size_append]; omega
      rw [hR3] at hO
      obtain ⟨O, hOe⟩ : ∃ O, tx (turnT P t (k + 1)) = O := ⟨_, rfl⟩
      rw [hOe] at hO
      have HO := Lib.hid hOe
      rw [hD] at KD
      rw [hA] at c0
      have HD := Lib.hid KD
      rw [hS]
      have j0 := fun u : Later w5 => u.cell c0
      clear hsum hD20 hA2 hA hD hS htz hk2 hk3 c0 KD hq hOe
      go_wp2_with fail
      refine wp_region_later (by kernel_rfl) (by kernel_rfl) ?_
      repeat (go_big_quiet_step ((go_at_call 14; with_reducible exact Later.call ((HD.out _).mono fun _ _ h => ⟨h.1, h.2 ▸ Below.refl _ _⟩))))
      refine wpQuiet_nil ?_
      rintro _ ⟨u2, rfl⟩
      clear j0
      go_wp2
      go_roundw
      case rel => exact ⟨k + 1, by omega, by go_num, by rw [HO.out], u2, rfl⟩
      case measure => simp [intOf]; omega
    · obtain rfl : k = N := by omega
      have HPu := Lib.hid (HKP.out u.now (HG.out.below (up_trans HB5.out u.up)))
      obtain ⟨S0, hS⟩ : ∃ S0, tx (turnT P t k) = S0 := ⟨_, rfl⟩
      rw [hS] at HPu ⊢
      have HXu := Lib.hid (HX5.out.later (by rw [HL.out]; decide) u.up)
      have HBu := Lib.hid (up_trans HB5.out u.up)
      clear hS htz
      go_wp2_with fail
      refine HPu.out.mono ?_
      rintro e w6 ⟨ds, rfl, hJ, hb⟩
      have hld := hJ.length
      have HLd := Lib.hid hld
      have H1d := Lib.hid hJ.one
      have hZ6 := Bx.new w6 29 zeroL
      have HZ6 := Lib.hid hZ6
      have hba := below_setCells (Nat.le_refl w6.heap.size) ds 0 _ (up_alloc (Below.refl w6.heap.size w6) (.cells zeroL.toArray 29))
      have HX7 := Lib.hid ((HXu.out.later (by rw [HL.out]; decide) hb).later (by rw [HL.out]; decide) hba)
      have HY7 := Lib.hid (hZ6.sets (ws := ds) (by rw [hld]; rfl))
      have HB7 := Lib.hid (up_trans (up_trans HBu.out hb) hba)
      have HS7 := Lib.hid (HKS.out ds _ (hJ.up hba) (HJ.out.up HB7.out))
      clear hJ hld hb hZ6 hba
      go_wp2_with (first
        | (refine wpList_alloc_to rfl 29 rfl _ _ (job_alloc _) ?_; simp only [Act.put, List.setIfInBounds_toArray, List.set_cons_succ, List.set_cons_zero])
        | (refine wpList_store_job rfl _ _ rfl w6.heap.size rfl zeroL ds rfl HZ6.out rfl HLd.out H1d.out ?_; simp only [Act.put])
        | (refine wpList_load_job_want _ rfl rfl w6.heap.size rfl ds HY7.out HLd.out ?_; simp only [Act.put, List.setIfInBounds_toArray, List.set_cons_succ, List.set_cons_zero])
        | (refine wpList_load_job_want _ rfl rfl w.heap.size rfl cs HX7.out HL.out ?_; simp only [Act.put, List.setIfInBounds_toArray, List.set_cons_succ, List.set_cons_zero]))
      refine HS7.out.mono ?_
      rintro e w8 ⟨rfl, hb⟩
      have HB8 := Lib.hid (up_trans HB7.out hb)
      clear hb
      go_wp2
      go_ret
      exact ⟨rfl, HB8.out⟩

theorem walkTicketOrder (cs : List Value) (j : Jb) (a : Int) (w : World) (h : (JobA w cs j ∧ j.t.length ≤ maxLen ∧ ∀ p ∈ j.ls, p.length ≤ maxLen) ∧ WfJ j) (ha : (Lit.int .u8 a).wf = true) (hg : GoodM w) :
    Calls Tryz.prog 5 #[.agg cs.toArray, .int .u8 a] w fun e w' => e = .returned (.bool true) ∧ Below w.heap.size w w' := by
  obtain ⟨⟨hJ, ht, hz⟩, hw⟩ := h
  have KL := fun w1 (hb : Below w.heap.size w w1) => refLight_any cs j w1 (hJ.up hb) ht hz
  by_cases hsm : SmallJ j
  · have hsm' := hsm
    obtain ⟨s1, s2, s3, s4, s5⟩ := hsm'
    have KR := fun w1 (hb : Below w.heap.size w w1) => refTPut_any cs j w1 (hJ.up hb) hw 60 s5 (by decide) (by omega) (by omega)
    unfold putT' at KR
    by_cases htl : tellB j = true
    · rw [htl, if_pos rfl] at KR
      obtain ⟨r1, r2, r3⟩ := rows_len htl hw 60 s5
      have hlen := text_len htl hw 60 s5
      have hu : 0 ≤ a ∧ a ≤ 255 := by
        simp [Lit.wf, IntKind.min, IntKind.max, IntKind.bits, IntKind.signed] at ha
        omega
      obtain ⟨t, rfl⟩ : ∃ t : Nat, a = (t : Int) := ⟨a.toNat, by omega⟩
      have KN := fun w1 => refLines_any (tx (textJ j)) w1 (by rw [tx_size]; omega)
      rw [data_tx, text_lines htl] at KN
      exact order_some cs j t _ (rowsJ j) _ w hJ hJ.length hg (by omega) rfl r2 r1 (fun p hp => by have := r3 p hp; omega) (fun w1 hb => (KL w1 hb).mono fun e w' ⟨b, he, _, hb⟩ => ⟨b, he, hb⟩) KR KN
        (fun w1 g => parse_turned_any htl hw 60 s5 (by decide) t w1 g) (fun ds w1 h1 h2 => jobSame_any ds cs j w1 h1 h2 (by omega) (by omega))
    · simp only [Bool.not_eq_true] at htl
      rw [htl, if_neg (by simp)] at KR
      exact order_none cs j a true _ w hJ hJ.length hg (fun w1 hb => (KL w1 hb).mono fun e w' ⟨b, he, _, hb⟩ => ⟨b, he, fun _ => rfl, hb⟩) (fun _ => KR)
  · exact order_none cs j a false ⟨#[]⟩ w hJ hJ.length hg (fun w1 hb => (KL w1 hb).mono fun e w' ⟨b, he, hs, hb⟩ => ⟨b, he, fun h => absurd (hs h) hsm, hb⟩) (fun h => (nomatch h))
end Go.Proofs.YtenigkjonegdmaaGreatDoor
/- Of any job that is small and can be told, Parse answers the same job of its ticket's lines in whatever turned order, each with a remark behind it, and how many lines there are: TicketOrder answers true, and leaves its argument as it was -/
namespace Go.Proofs.YtenigkjonegdmaaGreatDoor.ticketOrder
open Go.ChangeShapes Go.WideShapes Go.ChangeAt Go.RowKit Go.Joins
open Go.ChangeMaps (open_string shut_string)
set_option linter.unusedVariables false

theorem own : ownKnob Tryz.prog.godebug = none := by kernel_rfl
theorem laidOut : laidOutB Tryz.prog = true := by kernel_rfl
/-- A slice of integers that came in: nil, or a row of cells. -/
def IsRow (k : IntKind) (w : World) (a : Option Addr) (len cap : Nat) (zs : List Int) : Prop :=
  (a = none ∧ len = 0 ∧ cap = 0 ∧ zs = []) ∨
  ∃ x, a = some x ∧ len ≤ cap ∧ cap ≤ maxLen ∧ zs.length = cap ∧ (∀ i, i < zs.length → w.cell? (x.add i) = some (.int k (zs.getD i 0))) ∧ ∀ n ∈ zs, (Lit.int k n).wf = true

/-- Four things, one by one. -/
theorem list4 {α : Type} (l : List α) (h : (⟨l⟩ : Array α).size = 4) : ∃ a b c d, l = [a, b, c, d] := by
  match l, h with
  | [a, b, c, d], _ => exact ⟨a, b, c, d, rfl⟩

theorem plain_laid (W : World) (h : laidMetH Tryz.prog Rows.ticketOrderRow.laid W) : laidMet Tryz.prog Rows.ticketOrderRow.laid W := by
  rw [MakeChecks.laidMetH_plain _ _ _ (by kernel_rfl)] at h; exact h

set_option maxHeartbeats 400000 in
set_option maxRecDepth 100000 in
theorem lifted (os : Os) (started : os.Started) (H : Type) (enc : TypeId × Value → H) :
    ReturnsInHanded {} Tryz.checked os 5 .any (fun w args => (Rows.ticketOrderSpec.pre enc Tryz.prog Tryz.f5 [] false w args ∧ laidMetH Tryz.prog Rows.ticketOrderRow.laid w) ∧ sizedMet enc Tryz.prog Tryz.f5 (OpenSpec.ofChange Rows.ticketOrderSpec) false w args) (Rows.ticketOrderSpec.post enc Tryz.prog Tryz.f5 false true false false) := by
  refine returnsInHanded_of_calls (C := Tryz.checked) own started (by kernel_rfl)
    (ChangeSpec.witness_shaped (enc := enc) (C := Tryz.checked) (os := os) (X := fun w _ => laidMetH Tryz.prog Rows.ticketOrderRow.laid w) false (World.laidAll Tryz.prog os Rows.ticketOrderRow.laid) #[.agg #[.string ⟨#[]⟩, .int .i64 0, .int .i64 0, .int .i64 0, .int .i64 0, .int .i64 0, .int .i64 0, .int .i64 0, .int .i64 0, .int .i64 0, .int .i64 0, .int .i64 0, .int .i64 0, .int .i64 0, .slice none 0 0, .slice none 0 0, .int .i64 0, .int .i64 0, .int .i64 0, .int .i64 0, .int .i64 0, .int .i64 0, .int .i64 0, .int .i64 0, .int .i64 0, .int .i64 0, .int .i64 0, .int .i64 0, .int .i64 0, .int .i64 0, .int .i64 0, .int .i64 0, .int .i64 0], .int .u8 0] 8 (World.laidAll_os _ _ _)
      (World.shaped_of_ZipB (by kernel_rfl) (by kernel_rfl)) (by kernel_rfl) (by kernel_rfl) (by kernel_rfl)
      (by rw [MakeChecks.laidMetH_plain _ _ _ (by kernel_rfl)]; exact laidMet_laidAll _ (by kernel_rfl) (by kernel_rfl))) ?_
  intro w0 tape inp _ hsh _ hok hpre _
  obtain ⟨_, _, _, fn, hfn, _, _, _, _, hval1⟩ := hok
  obtain rfl : Tryz.f5 = fn := Option.some.inj (Tryz.func5.symm.trans hfn)
  obtain ⟨⟨⟨ds, gs, before, hW0, -⟩, hX⟩, -⟩ := hpre
  have hW := DataW.Whole.of_heap (w' := w0.forCall tape inp) (by rfl) hW0
  have hLH : laidMetH Tryz.prog Rows.ticketOrderRow.laid (w0.forCall tape inp) := hX.of_heap (by rfl)
  clear hW0 hX
  obtain ⟨W, hWd⟩ : ∃ W, w0.forCall tape inp = W := ⟨_, rfl⟩
  obtain ⟨args, hargs⟩ : ∃ args, inp.args = args := ⟨_, rfl⟩
  obtain ⟨base, hbase⟩ : ∃ base, w0.heap.size = base := ⟨_, rfl⟩
  rw [hWd] at hsh hval1 hW hLH ⊢
  rw [hargs] at hval1 hW ⊢
  rw [hbase] at hval1
  have hval0 : ∀ (j : Nat) t v, Tryz.f5.params[j]? = some t → args[j]? = some v → Value.okWide Tryz.prog W .any base t v := hval1
  clear hWd hargs hbase hval1 hfn
  have hL := plain_laid W hLH
  refine (show Calls Tryz.prog 5 args W fun e W' => ∃ v, e = .returned v ∧ Rows.ticketOrderSpec.post enc Tryz.prog Tryz.f5 false true false false W args v W' from ?_).mono fun e W' ⟨v, he, hp⟩ => by
    subst he
    exact ChangeSpec.post_blind hp
  have hval : ∀ (j : Nat) t v, Tryz.f5.params[j]? = some t → args[j]? = some v → Value.okWide Tryz.prog W .any base t v := hval0
  have hW' := hW
  obtain ⟨p, q, hA0, hV, rfl, hfz, hnd⟩ := hW
  have hA : DataW.TrodAll enc Tryz.prog W 0 (fun _ => true) true Tryz.f5.params.toList args.toList ds p := hA0
  rw [Tryz.params5] at hA hval
  obtain ⟨v0, vs0, d0, ds0, p0, q0, hargs, rfl, rfl, h0, r0⟩ := trodAll_cons hA
  obtain ⟨v1, vs1, d1, ds1, p1, q1, rfl, rfl, rfl, h1, r1⟩ := trodAll_cons r0
  obtain ⟨rfl, rfl, rfl⟩ := trodAll_nil r1
  obtain rfl : args = #[v0, v1] := by cases args; simp_all
  obtain ⟨rfl, rfl⟩ := trodVars_none hV
  have k0 := h0
  have lt0 : ∀ x ∈ p0, x.block < W.heap.size := by obtain ⟨m, hm⟩ := k0; exact DataW.trod_lt m _ _ _ hm
  obtain ⟨cs0, rfl, hsz0, _⟩ : ∃ cs, v0 = .agg cs ∧ cs.size = Tryz.prog.cellsOf 29 ∧ Row.okWide Tryz.prog W .any base 29 cs := by
    have := hval 0 29 v0 rfl rfl
    simpa [Value.okWide, Tryz.underlying29] using this
  rw [show Tryz.prog.cellsOf 29 = 33 by kernel_rfl] at hsz0
  obtain ⟨l0⟩ := cs0
  obtain ⟨fuel0, hf0⟩ := h0
  obtain ⟨jb0, w0⟩ := open_jobW (cs := l0) hsz0 hf0
  obtain ⟨a1, rfl, rfl, rfl, w1⟩ := open_int Tryz.underlying5 (hval 1 5 v1 rfl rfl) h1
  clear hA0 hval0
  refine (walkTicketOrder l0 jb0 a1 W w0 w1 (⟨good_of hL 2 4 5 rfl rfl rfl, mx_of hsh⟩)).mono fun e W' ⟨he, bel⟩ => ?_
  subst he
  exact ⟨_, rfl, _, _, _, [], _, [], hW', trodAll_mk1 (shut_bool Tryz.underlying4 _), (trodAll_cons_mk (Below.trod laidOut (by kernel_rfl) (of_decide_eq_true (by kernel_rfl)) k0 bel lt0) (trodAll_cons_mk (shut_int Tryz.underlying5 w1) trodAll_mk0)), rfl, bel.frame _, fun h => by cases h⟩

theorem over : Rows.ticketOrderRow.holds Tryz.pinned (OpenSpec.ofChange Rows.ticketOrderSpec) :=
  OpenClaim.holds_of_wide 5 Tryz.f5 rfl rfl rfl rfl rfl rfl rfl ⟨rfl, rfl, rfl, rfl, rfl⟩ rfl rfl rfl rfl rfl (by kernel_rfl) Tryz.func5 (by kernel_rfl)
    (of_decide_eq_true (by kernel_rfl)) (by unfold Func.isWrapper; first | (rw [if_pos (by decide +kernel)]; kernel_rfl) | (rw [if_neg (by decide +kernel)]; exact ⟨rfl, rfl⟩))
    (fun os started H enc _ => lifted os started H enc)

theorem proved : Rows.TicketOrderCardSaid :=
  Claim7.holds_tied_plain_at .later [] [.data, .data, .data, .data, .sentinel, .sentinel, .pinned] true (true, "5ecdc2060be6880689da8bfad47a27846b9e028025d82123d223eab1dd2d9491") true
    over (fun _ h => by cases h) (by kernel_rfl) (fun _ h => by cases h) ticketOrder_row_tie rfl ⟨rfl, rfl⟩ (by kernel_rfl) rfl
    (fun f fn hf hfn => by
      obtain rfl : f = 5 := Option.some.inj ((show Tryz.prog.funcNamed "gatherum/gatherumlaw16.TicketOrder" = some 5 by kernel_rfl).symm.trans hf) |>.symm
      obtain rfl : fn = Tryz.f5 := (Option.some.inj (Tryz.func5.symm.trans hfn)).symm
      exact ⟨by kernel_rfl, fun j t ht => by
        rw [Tryz.params5] at ht
        have hm : t ∈ [29, 5] := by have := Array.mem_of_getElem? ht; simpa using this
        have hall : ([29, 5].all fun u => !Tryz.prog.wantsStandIn u) = true := by kernel_rfl
        exact (show Tryz.prog.wantsStandIn t = false by simpa using List.all_eq_true.1 hall t hm)⟩)
    (by kernel_rfl)
#print axioms proved
end Go.Proofs.YtenigkjonegdmaaGreatDoor.ticketOrder
