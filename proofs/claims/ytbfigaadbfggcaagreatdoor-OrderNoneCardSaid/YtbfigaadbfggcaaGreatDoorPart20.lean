/- Part 20 of the texts that the proofs of this seat share: OrderPagesK, OrderNoneK, OrderTellsK, OrderPlaces, OrderCode, OrderReckon. -/
import Derived.Test.YtbfigaadbfggcaaGreatDoorPart19
import Derived.Test.YtbfigaadbfggcaaGreatDoorPart13
import Derived.Test.YtbfigaadbfggcaaGreatDoorPart17
import Derived.Test.YtbfigaadbfggcaaGreatDoorPart12
import Derived.Test.YtbfigaadbfggcaaGreatDoorPart1
import Derived.BigQuiet
/- gatherumlaw18.OrderPages answers true, where order's functions answer as they are asked. -/
namespace Go.Proofs.YtbfigaadbfggcaaGreatDoor
open Go.RowKit
set_option linter.unusedVariables false
set_option linter.unusedSimpArgs false

set_option maxRecDepth 100000 in
set_option maxHeartbeats 2000000 in
theorem pages_core (cs : List Value) (x p q : Int) (n : Nat) (u v : Bool) (S : Prop) (w : World) (hL : cs.length = 33)
    (hn : n ≤ 3200000) (e1 : decide (x < 0) = u) (e2 : decide ((n : Int) ≤ x) = v) (hno : (u || v) = true → p = 0 ∧ q = 0)
    (KA : ∀ w1, Below w.heap.size w w1 → Calls Tryz.prog 7 #[] w1 fun e w' => e = .returned (.bool true) ∧ Below w1.heap.size w1 w')
    (KG : ∀ w1, Below w.heap.size w w1 → Calls Tryz.prog 8 #[.agg cs.toArray] w1 fun e w' => ∃ b, e = .returned (.bool b) ∧ (b = true → S) ∧ Below w1.heap.size w1 w')
    (KB : S → ∀ w1, Below w.heap.size w w1 → Calls Tryz.prog 11 #[.agg cs.toArray, .int .i64 0] w1 fun e w' => (∃ a cap, e = .returned (.slice a n cap)) ∧ Below w1.heap.size w1 w')
    (KO : ∀ w1, Below w.heap.size w w1 → Calls Tryz.prog 15 #[.agg cs.toArray, .int .i64 x] w1 fun e w' => e = .returned (.tuple #[.int .i64 p, .int .i64 q]) ∧ Below w1.heap.size w1 w')
    (K1 : (u || v) = false → ∀ w1, Calls Tryz.prog 16 #[.agg cs.toArray, .int .i64 x, .bool true] w1 fun e w' => e = .returned (.int .i64 p) ∧ Below w1.heap.size w1 w')
    (K2 : (u || v) = false → ∀ w1, Calls Tryz.prog 16 #[.agg cs.toArray, .int .i64 x, .bool false] w1 fun e w' => e = .returned (.int .i64 q) ∧ Below w1.heap.size w1 w') :
    Calls Tryz.prog 5 #[.agg cs.toArray, .int .i64 x] w fun e w' => e = .returned (.bool true) ∧ Below w.heap.size w w' := by
  have HX := Lib.hid (Bx.new w 29 cs)
  have HB := Lib.hid (up_alloc (Below.refl w.heap.size w) (.cells cs.toArray 29))
  have HL := Lib.hid hL
  have HA := Lib.hid KA; have HG := Lib.hid KG; have HKB := Lib.hid KB; have HO := Lib.hid KO; have H1 := Lib.hid K1; have H2 := Lib.hid K2; have HN := Lib.hid hno
  clear hL KA KG KB KO K1 K2 hno
  go_enter Tryz.func5, Tryz.ntmps5
  go_wp2_with fail
  refine (HA.out _ HB.out).mono ?_
  rintro e w1 ⟨rfl, hb⟩
  have HX1 := Lib.hid (HX.out.later (by rw [HL.out]; decide) hb)
  have HB1 := Lib.hid (up_trans HB.out hb)
  clear hb
  go_wp2_with (refine wpList_load_job rfl _ rfl w.heap.size rfl cs HX1.out HL.out ?_; simp only [Act.put, List.setIfInBounds_toArray, List.set_cons_succ, List.set_cons_zero])
  refine (HG.out _ HB1.out).mono ?_
  rintro e w2 ⟨b, rfl, hS, hb⟩
  have HX2 := Lib.hid (HX1.out.later (by rw [HL.out]; decide) hb)
  have HB2 := Lib.hid (up_trans HB1.out hb)
  clear hb
  cases b
  · clear hS e1 e2
    go_wp2
    go_ret
    exact ⟨rfl, HB2.out⟩
  have KB := HKB.out (hS rfl)
  have HKB2 := Lib.hid KB
  clear hS KB HKB
  go_wp2_with (refine wpList_load_job rfl _ rfl w.heap.size rfl cs HX2.out HL.out ?_; simp only [Act.put, List.setIfInBounds_toArray, List.set_cons_succ, List.set_cons_zero])
  refine (HKB2.out _ HB2.out).mono ?_
  rintro e w3 ⟨⟨a3, cp3, rfl⟩, hb⟩
  have HX3 := Lib.hid (HX2.out.later (by rw [HL.out]; decide) hb)
  have HB3 := Lib.hid (up_trans HB2.out hb)
  clear hb
  go_wp2_with (refine wpList_load_job rfl _ rfl w.heap.size rfl cs HX3.out HL.out ?_; simp only [Act.put, List.setIfInBounds_toArray, List.set_cons_succ, List.set_cons_zero])
  refine (HO.out _ HB3.out).mono ?_
  rintro e w4 ⟨rfl, hb⟩
  have HX4 := Lib.hid (HX3.out.later (by rw [HL.out]; decide) hb)
  have HB4 := Lib.hid (up_trans HB3.out hb)
  clear hb
  cases u
  · cases v
    · have K1 := Lib.hid (H1.out rfl); have K2 := Lib.hid (H2.out rfl)
      clear H1 H2 HN
      go_wp2_with (refine wpList_load_job rfl _ rfl w.heap.size rfl cs HX4.out HL.out ?_; simp only [Act.put, List.setIfInBounds_toArray, List.set_cons_succ, List.set_cons_zero])
      refine (K1.out _).mono ?_
      rintro e w5 ⟨rfl, hb⟩
      have HX5 := Lib.hid (HX4.out.later (by rw [HL.out]; decide) hb)
      have HB5 := Lib.hid (up_trans HB4.out hb)
      clear hb
      go_wp2_with (refine wpList_load_job_want _ rfl rfl w.heap.size rfl cs HX5.out HL.out ?_; simp only [Act.put, List.setIfInBounds_toArray, List.set_cons_succ, List.set_cons_zero])
      refine (K2.out _).mono ?_
      rintro e w6 ⟨rfl, hb⟩
      have HB6 := Lib.hid (up_trans HB5.out hb)
      clear hb
      go_wp2
      go_ret
      exact ⟨rfl, HB6.out⟩
    · obtain ⟨rfl, rfl⟩ := HN.out rfl
      clear H1 H2 HN
      go_wp2
      go_ret
      exact ⟨rfl, HB4.out⟩
  · obtain ⟨rfl, rfl⟩ := HN.out rfl
    clear H1 H2 HN e2
    go_wp2
    go_ret
    exact ⟨rfl, HB4.out⟩
theorem atO_some {j : Jb} {c x : Int} : (atO j c x).isSome = true ↔ 0 ≤ x ∧ x < (bookM j c).length := by
  unfold atO
  split
  next h => simp; omega
  next h =>
    rw [Option.isSome_iff_exists]
    constructor
    · rintro ⟨p, hp⟩
      have := (List.getElem?_eq_some_iff.1 hp).1
      omega
    · rintro ⟨h1, h2⟩
      exact ⟨_, List.getElem?_eq_getElem (show x.toNat < (bookM j c).length by omega)⟩
theorem walkOrderPagesK (KC : OrdCopies) (KL : OrdLeaf) (KP : OrdPages) (cs : List Value) (j : Jb) (x : Int) (w : World) (h : (JobA w cs j ∧ j.t.length ≤ maxLen ∧ ∀ p ∈ j.ls, p.length ≤ maxLen) ∧ (∀ i, -9223372036854775808 ≤ j.n i ∧ j.n i ≤ 9223372036854775807) ∧ j.f.c ≤ 9223372036854775807 ∧ j.f.r ≤ 9223372036854775807) (hx : (Lit.int .i64 x).wf = true) (hg : GoodM w) :
    Calls Tryz.prog 5 #[.agg cs.toArray, .int .i64 x] w fun e w' => e = .returned (.bool true) ∧ Below w.heap.size w w' := by
  obtain ⟨⟨h, ht, hz⟩, -, hf⟩ := h
  have key : ∀ r, (decide (x < 0) || decide (((bookM j 0).length : Int) ≤ x)) = false → 0 ≤ x ∧ x ≤ 3200000 ∧ pageO j x r = pageM (j.n 0) x r := fun r hu => by
    simp only [Bool.or_eq_false_iff, decide_eq_false_iff_not] at hu
    have hs := book_small j 0
    refine ⟨by omega, by omega, ?_⟩
    unfold pageO
    rw [if_pos (atO_some.2 (by omega))]
  refine pages_core cs x (pageO j x true) (pageO j x false) (bookM j 0).length _ _ (j.f.l.length ≤ 1000000) w h.length (book_small j 0) rfl rfl (fun hu => ?_) (fun w1 hb => ordAlive_any KC KL KP w1 (hg.below hb))
    (fun w1 hb => (refLight_any cs j w1 (h.up hb) ht hz).mono fun e w' ⟨b, he, hs, hb2⟩ => ⟨b, he, fun hb => by have := (hs hb).2.2.1; omega, hb2⟩)
    (fun hl w1 hb => (refBook_any cs j 0 w1 (h.up hb) hf hl).mono fun e w' ⟨a, cap, he, _, hb⟩ => ⟨⟨a, cap, he⟩, hb⟩) (fun w1 hb => KP cs j x w1 (h.up hb) hf (hg.below hb) (int64_wf hx)) (fun hu w1 => ?_) (fun hu w1 => ?_)
  · have : (atO j 0 x).isSome = false := by
      rw [← Bool.not_eq_true, atO_some]
      simp only [Bool.or_eq_true, decide_eq_true_eq] at hu
      omega
    unfold pageO
    rw [this]
    exact ⟨rfl, rfl⟩
  · obtain ⟨k0, k1, k2⟩ := key true hu
    rw [k2]
    exact refPageF_any cs (j.n 0) x true w1 (h.num (k := 0) (by decide)) k0 (by omega)
  · obtain ⟨k0, k1, k2⟩ := key false hu
    rw [k2]
    exact refPageF_any cs (j.n 0) x false w1 (h.num (k := 0) (by decide)) k0 (by omega)
end Go.Proofs.YtbfigaadbfggcaaGreatDoor
/- gatherumlaw18.OrderNone answers true, where order's functions answer as they are asked. -/
namespace Go.Proofs.YtbfigaadbfggcaaGreatDoor
open Go.RowKit
set_option linter.unusedVariables false
set_option linter.unusedSimpArgs false

set_option maxRecDepth 100000 in
set_option maxHeartbeats 2000000 in
theorem none_core (cs : List Value) (s c b n want p q : Int) (L : List (Nat × Nat)) (N : Nat) (t u v is : Bool) (S : Prop) (w : World) (hL : cs.length = 33) (hN : L.length = N) (hN2 : N ≤ 3200000)
    (e1 : decide (b < 0) = u) (e2 : decide ((N : Int) ≤ b) = v) (ht : t = true → want = n ∧ 0 ≤ n) (hf : t = false → want = -1 ∧ n = 0)
    (hno : (u || v) = true → p = 0 ∧ q = 0 ∧ is = false) (hyes : (u || v) = false → is = true ∧ ∃ (m : Nat) (z : Nat × Nat), b = m ∧ L[m]? = some z ∧ p = (z.1 : Int) ∧ q = (z.2 : Int))
    (KA : ∀ w1, Below w.heap.size w w1 → Calls Tryz.prog 7 #[] w1 fun e w' => e = .returned (.bool true) ∧ Below w1.heap.size w1 w')
    (KG : ∀ w1, Below w.heap.size w w1 → Calls Tryz.prog 8 #[.agg cs.toArray] w1 fun e w' => ∃ b, e = .returned (.bool b) ∧ (b = true → S) ∧ Below w1.heap.size w1 w')
    (KB : S → ∀ w1, Below w.heap.size w w1 → Calls Tryz.prog 11 #[.agg cs.toArray, .int .i64 c] w1 fun e w' => ∃ a cap, e = .returned (.slice a N cap) ∧ LfA w' a L ∧ Below w1.heap.size w1 w')
    (KL : ∀ w1, Below w.heap.size w w1 → Calls Tryz.prog 12 #[.agg cs.toArray, .int .i64 s, .int .i64 c, .int .i64 b] w1 fun e w' => e = .returned (.tuple #[.int .i64 n, .bool t]) ∧ Below w1.heap.size w1 w')
    (KW : ∀ w1, Below w.heap.size w w1 → Calls Tryz.prog 13 #[.agg cs.toArray, .int .i64 c, .int .i64 b] w1 fun e w' => e = .returned (.tuple #[.int .i64 p, .int .i64 q, .bool is]) ∧ Below w1.heap.size w1 w')
    (KF : ∀ a cap w1, LfA w1 a L → Calls Tryz.prog 14 #[.slice a N cap, .int .i64 s, .int .i64 b] w1 fun e w' => e = .returned (.int .i64 want) ∧ Below w1.heap.size w1 w') :
    Calls Tryz.prog 4 #[.agg cs.toArray, .int .i64 s, .int .i64 c, .int .i64 b] w fun e w' => e = .returned (.bool true) ∧ Below w.heap.size w w' := by
  have HX := Lib.hid (Bx.new w 29 cs)
  have HB := Lib.hid (up_alloc (Below.refl w.heap.size w) (.cells cs.toArray 29))
  have HL := Lib.hid hL; have HNL := Lib.hid hN
  have HA := Lib.hid KA; have HG := Lib.hid KG; have HKB := Lib.hid KB; have HKL := Lib.hid KL; have HKW := Lib.hid KW; have HKF := Lib.hid KF; have HN := Lib.hid hno; have HY := Lib.hid hyes; have HT := Lib.hid ht; have HF := Lib.hid hf
  clear hL hN KA KG KB KL KW KF hno hyes ht hf
  go_enter Tryz.func4, Tryz.ntmps4
  go_wp2_with fail
  refine (HA.out _ HB.out).mono ?_
  rintro e w1 ⟨rfl, hb⟩
  have HX1 := Lib.hid (HX.out.later (by rw [HL.out]; decide) hb)
  have HB1 := Lib.hid (up_trans HB.out hb)
  clear hb
  go_wp2_with (refine wpList_load_job rfl _ rfl w.heap.size rfl cs HX1.out HL.out ?_; simp only [Act.put, List.setIfInBounds_toArray, List.set_cons_succ, List.set_cons_zero])
  refine (HG.out _ HB1.out).mono ?_
  rintro e w2 ⟨b, rfl, hS, hb⟩
  have HX2 := Lib.hid (HX1.out.later (by rw [HL.out]; decide) hb)
  have HB2 := Lib.hid (up_trans HB1.out hb)
  clear hb
  cases b
  · clear hS e1 e2
    go_wp2
    go_ret
    exact ⟨rfl, HB2.out⟩
  have KB := HKB.out (hS rfl)
  have HKB2 := Lib.hid KB
  clear hS KB HKB
  go_wp2_with (refine wpList_load_job rfl _ rfl w.heap.size rfl cs HX2.out HL.out ?_; simp only [Act.put, List.setIfInBounds_toArray, List.set_cons_succ, List.set_cons_zero])
  refine (HKB2.out _ HB2.out).mono ?_
  rintro e w3 ⟨a3, cp3, rfl, hA3, hb⟩
  have HX3 := Lib.hid (HX2.out.later (by rw [HL.out]; decide) hb)
  have HB3 := Lib.hid (up_trans HB2.out hb)
  have HA3 := Lib.hid hA3
  clear hb hA3
  go_wp2_with (refine wpList_load_job rfl _ rfl w.heap.size rfl cs HX3.out HL.out ?_; simp only [Act.put, List.setIfInBounds_toArray, List.set_cons_succ, List.set_cons_zero])
  refine (HKL.out _ HB3.out).mono ?_
  rintro e w4 ⟨rfl, hb⟩
  have HX4 := Lib.hid (HX3.out.later (by rw [HL.out]; decide) hb)
  have HB4 := Lib.hid (up_trans HB3.out hb)
  have HA4 := Lib.hid (HA3.out.up hb)
  clear hb
  go_wp2_with (refine wpList_load_job rfl _ rfl w.heap.size rfl cs HX4.out HL.out ?_; simp only [Act.put, List.setIfInBounds_toArray, List.set_cons_succ, List.set_cons_zero])
  refine (HKW.out _ HB4.out).mono ?_
  rintro e w5 ⟨rfl, hb⟩
  have HB5 := Lib.hid (up_trans HB4.out hb)
  have HA5 := Lib.hid (HA4.out.up hb)
  clear hb
  go_wp2_with fail
  refine (HKF.out _ _ _ HA5.out).mono ?_
  rintro e w6 ⟨rfl, hb⟩
  have HB6 := Lib.hid (up_trans HB5.out hb)
  have HA6 := Lib.hid (HA5.out.up hb)
  clear hb HX HX1 HX2 HX3 HX4 HB HB1 HB2 HB3 HB4 HB5 HA HA3 HA4 HA5 HG HKB2 HKL HKW HKF
  cases t
  · obtain ⟨rfl, rfl⟩ := HF.out rfl
    clear HT HF
    cases u
    · cases v
      · obtain ⟨rfl, m, z, rfl, hz, rfl, rfl⟩ := HY.out rfl
        obtain ⟨g, off, rfl, d0, d1⟩ := HA6.out.cells hz
        have hm := (List.getElem?_eq_some_iff.1 hz).1
        rw [HNL.out] at hm
        have z0 : (0 : Int) ≤ (m : Int) := by omega
        have z1 : (m : Int) < (N : Int) := by omega
        generalize (z.1 : Int) = y1 at *
        generalize (z.2 : Int) = y2 at *
        clear hz HY HN hm
        go_wp2
        go_ret
        exact ⟨rfl, HB6.out⟩
      · obtain ⟨rfl, rfl, rfl⟩ := HN.out rfl
        clear HY HN
        go_wp2
        go_ret
        exact ⟨rfl, HB6.out⟩
    · obtain ⟨rfl, rfl, rfl⟩ := HN.out rfl
      clear HY HN e2
      go_wp2
      go_ret
      exact ⟨rfl, HB6.out⟩
  · obtain ⟨rfl, hn⟩ := HT.out rfl
    have n0 : decide (want < 0) = false := decide_eq_false (by omega)
    have n1 : decide (0 ≤ want) = true := decide_eq_true hn
    clear HT HF
    cases u
    · cases v
      · obtain ⟨rfl, m, z, rfl, hz, rfl, rfl⟩ := HY.out rfl
        obtain ⟨g, off, rfl, d0, d1⟩ := HA6.out.cells hz
        have hm := (List.getElem?_eq_some_iff.1 hz).1
        rw [HNL.out] at hm
        have z0 : (0 : Int) ≤ (m : Int) := by omega
        have z1 : (m : Int) < (N : Int) := by omega
        generalize (z.1 : Int) = y1 at *
        generalize (z.2 : Int) = y2 at *
        clear hz HY HN hm
        go_wp2
        go_ret
        exact ⟨rfl, HB6.out⟩
      · obtain ⟨rfl, rfl, rfl⟩ := HN.out rfl
        clear HY HN
        go_wp2
        go_ret
        exact ⟨rfl, HB6.out⟩
    · obtain ⟨rfl, rfl, rfl⟩ := HN.out rfl
      clear HY HN e2
      go_wp2
      go_ret
      exact ⟨rfl, HB6.out⟩
theorem walkOrderNoneK (KC : OrdCopies) (KL : OrdLeaf) (KW : OrdWhere) (KP : OrdPages) (cs : List Value) (j : Jb) (s c b : Int) (w : World) (h : (JobA w cs j ∧ j.t.length ≤ maxLen ∧ ∀ p ∈ j.ls, p.length ≤ maxLen) ∧ (∀ i, -9223372036854775808 ≤ j.n i ∧ j.n i ≤ 9223372036854775807) ∧ j.f.c ≤ 9223372036854775807 ∧ j.f.r ≤ 9223372036854775807) (hs : (Lit.int .i64 s).wf = true) (hc : (Lit.int .i64 c).wf = true) (hb : (Lit.int .i64 b).wf = true) (hg : GoodM w) :
    Calls Tryz.prog 4 #[.agg cs.toArray, .int .i64 s, .int .i64 c, .int .i64 b] w fun e w' => e = .returned (.bool true) ∧ Below w.heap.size w w' := by
  obtain ⟨⟨h, ht, hz⟩, -, hf⟩ := h
  have hsm := book_small j c
  refine none_core cs s c b (leafO j s c b) _ _ _ (bookM j c) _ (isLf j s c b) _ _ (atO j c b).isSome (j.f.l.length ≤ 1000000) w h.length rfl hsm rfl rfl (fun ht => ?_) (fun ht => ?_) (fun hu => ?_) (fun hu => ?_) (fun w1 hb => ordAlive_any KC KL KP w1 (hg.below hb))
    (fun w1 hb => (refLight_any cs j w1 (h.up hb) ht hz).mono fun e w' ⟨b, he, hs, hb2⟩ => ⟨b, he, fun hb => by have := (hs hb).2.2.1; omega, hb2⟩)
    (fun hl w1 hb => refBook_any cs j c w1 (h.up hb) hf hl) (fun w1 h1 => KL cs j s c b w1 (h.up h1) hf (hg.below h1) (int64_wf hs) (int64_wf hc) (int64_wf hb)) (fun w1 h1 => KW cs j c b w1 (h.up h1) hf (hg.below h1) (int64_wf hc) (int64_wf hb))
    (fun a cap w1 hA => refFindF_any (bookM j c) a _ cap s b w1 rfl (by omega) hA)
  · rw [book_find, if_pos ht]
    obtain ⟨i, q, -, -, -, e⟩ := leaf_book ht
    rw [e]
    exact ⟨rfl, by omega⟩
  · rw [book_find, ht]
    unfold leafO
    rw [ht]
    exact ⟨rfl, rfl⟩
  · have : (atO j c b).isSome = false := by
      rw [← Bool.not_eq_true, atO_some]
      simp only [Bool.or_eq_true, decide_eq_true_eq] at hu
      omega
    rw [Option.isSome_eq_false_iff, Option.isNone_iff_eq_none] at this
    rw [this]
    exact ⟨rfl, rfl, rfl⟩
  · simp only [Bool.or_eq_false_iff, decide_eq_false_iff_not] at hu
    have hq : (atO j c b).isSome = true := atO_some.2 (by omega)
    obtain ⟨z, hz⟩ := Option.isSome_iff_exists.1 hq
    refine ⟨hq, b.toNat, z, by omega, ?_, by rw [hz]; rfl, by rw [hz]; rfl⟩
    unfold atO at hz
    rw [if_neg (by omega)] at hz
    exact hz
end Go.Proofs.YtbfigaadbfggcaaGreatDoor
/- gatherumlaw18.OrderTells answers true, where order's functions answer as they are asked. -/
namespace Go.Proofs.YtbfigaadbfggcaaGreatDoor
open Go.RowKit
set_option linter.unusedVariables false
set_option linter.unusedSimpArgs false

def CopyRel (N : Nat) (w : World) (i : Value) (wr : World) : Prop := ∃ c : Nat, c ≤ N ∧ i = .int .i64 (c : Int) ∧ Hid (Below w.heap.size w wr)
set_option maxRecDepth 100000 in
set_option maxHeartbeats 4000000 in
theorem tellsO_core (cs : List Value) (N : Nat) (L : Nat → List (Nat × Nat)) (S : Prop) (w : World) (hL : cs.length = 33) (hN : N ≤ 2) (hl : ∀ c, (L c).length ≤ 3200000)
    (KA : ∀ w1, Below w.heap.size w w1 → Calls Tryz.prog 7 #[] w1 fun e w' => e = .returned (.bool true) ∧ Below w1.heap.size w1 w')
    (KG : ∀ w1, Below w.heap.size w w1 → Calls Tryz.prog 8 #[.agg cs.toArray] w1 fun e w' => ∃ b, e = .returned (.bool b) ∧ (b = true → S) ∧ Below w1.heap.size w1 w')
    (KO : ∀ w1, Below w.heap.size w w1 → Calls Tryz.prog 9 #[.agg cs.toArray] w1 fun e w' => e = .returned (.int .i64 (N : Int)) ∧ Below w1.heap.size w1 w')
    (KR : S → ∀ w1, Below w.heap.size w w1 → Calls Tryz.prog 10 #[.agg cs.toArray] w1 fun e w' => e = .returned (.int .i64 (N : Int)) ∧ Below w1.heap.size w1 w')
    (KB : S → ∀ (c : Nat) w1, Below w.heap.size w w1 → Calls Tryz.prog 11 #[.agg cs.toArray, .int .i64 (c : Int)] w1 fun e w' => ∃ a cap, e = .returned (.slice a (L c).length cap) ∧ LfA w' a (L c) ∧ Below w1.heap.size w1 w')
    (KL : ∀ (c x : Nat) z, c ≤ 2 → (L c)[x]? = some z → ∀ w1, Below w.heap.size w w1 → Calls Tryz.prog 12 #[.agg cs.toArray, .int .i64 (z.1 : Int), .int .i64 (c : Int), .int .i64 (z.2 : Int)] w1 fun e w' => e = .returned (.tuple #[.int .i64 (x : Int), .bool true]) ∧ Below w1.heap.size w1 w')
    (KW : ∀ (c x : Nat) z, c ≤ 2 → (L c)[x]? = some z → ∀ w1, Below w.heap.size w w1 → Calls Tryz.prog 13 #[.agg cs.toArray, .int .i64 (c : Int), .int .i64 (x : Int)] w1 fun e w' => e = .returned (.tuple #[.int .i64 (z.1 : Int), .int .i64 (z.2 : Int), .bool true]) ∧ Below w1.heap.size w1 w') :
    Calls Tryz.prog 3 #[.agg cs.toArray] w fun e w' => e = .returned (.bool true) ∧ Below w.heap.size w w' := by
  have HX := Lib.hid (Bx.new w 29 cs)
  have HB := Lib.hid (up_alloc (Below.refl w.heap.size w) (.cells cs.toArray 29))
  have HL := Lib.hid hL; have HLL := Lib.hid hl
  have HA := Lib.hid KA; have HG := Lib.hid KG; have HO := Lib.hid KO; have HR := Lib.hid KR; have HKB := Lib.hid KB; have HKL := Lib.hid KL; have HKW := Lib.hid KW
  clear hL hl KA KG KO KR KB KL KW
  go_enter Tryz.func3, Tryz.ntmps3
  go_wp2_with fail
  refine (HA.out _ HB.out).mono ?_
  rintro e w1 ⟨rfl, hb⟩
  have HX1 := Lib.hid (HX.out.later (by rw [HL.out]; decide) hb)
  have HB1 := Lib.hid (up_trans HB.out hb)
  clear hb
  go_wp2_with (refine wpList_load_job rfl _ rfl w.heap.size rfl cs HX1.out HL.out ?_; simp only [Act.put, List.setIfInBounds_toArray, List.set_cons_succ, List.set_cons_zero])
  refine (HG.out _ HB1.out).mono ?_
  rintro e w2 ⟨b, rfl, hS, hb⟩
  have HX2 := Lib.hid (HX1.out.later (by rw [HL.out]; decide) hb)
  have HB2 := Lib.hid (up_trans HB1.out hb)
  clear hb
  cases b
  · clear hS
    go_wp2
    go_ret
    exact ⟨rfl, HB2.out⟩
  have KR := HR.out (hS rfl)
  have KB := HKB.out (hS rfl)
  have HR2 := Lib.hid KR; have HKB2 := Lib.hid KB
  clear hS KB HKB KR HR
  have HRG := Lib.hid (later_range HX2.out (by rw [HL.out]; decide))
  go_wp2_with fail
  refine later_start (w := w2) ?_
  intro v
  refine wp_region_later (by kernel_rfl) (by kernel_rfl) ?_
  repeat (first
    | (go_big_quiet_want; refine quiet_load_job _ rfl w.heap.size rfl cs HL.out HRG.out ?_; simp only [Act.put, List.setIfInBounds_toArray, List.set_cons_succ, List.set_cons_zero]; go_big_quiet_on)
    | go_big_quiet_step ((first | (go_at_call 9; with_reducible exact Later.call (HO.out _ (up_trans HB2.out (Later.up _)))) | (go_at_call 10; with_reducible exact Later.call (HR2.out _ (up_trans HB2.out (Later.up _)))))))
  refine wpQuiet_nil ?_
  rintro _ ⟨v2, rfl⟩
  have HX3 := Lib.hid (HX2.out.later (by rw [HL.out]; decide) v2.up)
  have HB3 := Lib.hid (up_trans HB2.out v2.up)
  obtain ⟨w3, hw3⟩ : ∃ w3, v2.now = w3 := ⟨_, rfl⟩
  rw [hw3] at HX3 HB3 ⊢
  clear hw3 HRG
  go_wp2
  go_loopw [3] (CopyRel N w3) (fun i _ => N - (intOf i).toNat)
  case atStart => exact ⟨0, by omega, by go_num, Lib.hid (Below.refl _ _)⟩
  case round =>
    obtain ⟨c, hc, rfl, HW⟩ := hrel
    have HXr := Lib.hid (HX3.out.later (by rw [HL.out]; decide) HW.out)
    have HBr := Lib.hid (up_trans HB3.out HW.out)
    by_cases hlt : c < N
    · go_wp2_with (refine wpList_load_job rfl _ rfl w.heap.size rfl cs HXr.out HL.out ?_; simp only [Act.put, List.setIfInBounds_toArray, List.set_cons_succ, List.set_cons_zero])
      refine (HR2.out _ HBr.out).mono ?_
      rintro e w4 ⟨rfl, hb⟩
      have HX4 := Lib.hid (HXr.out.later (by rw [HL.out]; decide) hb)
      have HB4 := Lib.hid (up_trans HBr.out hb)
      have HW4 := Lib.hid (up_trans HW.out hb)
      clear hb
      go_wp2_with (refine wpList_load_job rfl _ rfl w.heap.size rfl cs HX4.out HL.out ?_; simp only [Act.put, List.setIfInBounds_toArray, List.set_cons_succ, List.set_cons_zero])
      refine (HKB2.out c _ HB4.out).mono ?_
      rintro e w5 ⟨a5, cp5, rfl, hA5, hb⟩
      have HX5 := Lib.hid (HX4.out.later (by rw [HL.out]; decide) hb)
      have HB5 := Lib.hid (up_trans HB4.out hb)
      have HW5 := Lib.hid (up_trans HW4.out hb)
      have HA5 := Lib.hid hA5
      have hlen := HLL.out c
      obtain ⟨M, hM⟩ : ∃ M, L c = M := ⟨_, rfl⟩
      have KL2 := fun (x : Nat) z (h : M[x]? = some z) => HKL.out c x z (by omega) (by rw [hM]; exact h)
      have KW2 := fun (x : Nat) z (h : M[x]? = some z) => HKW.out c x z (by omega) (by rw [hM]; exact h)
      rw [hM] at HA5 hlen ⊢
      obtain ⟨n, hn⟩ : ∃ n, M.length = n := ⟨_, rfl⟩
      have HKL2 := Lib.hid KL2; have HKW2 := Lib.hid KW2; have HMn := Lib.hid hn
      rw [hn] at hlen ⊢
      clear hb hA5 KL2 KW2 hM hn HX4 HB4 HW4
      go_wp2
      go_loopw [5] (CopyRel n w5) (fun i _ => n - (intOf i).toNat)
      case atStart => exact ⟨0, by omega, by go_num, Lib.hid (Below.refl _ _)⟩
      case round =>
        obtain ⟨x, hx, rfl, HV⟩ := hrel
        by_cases hlt2 : x < n
        · obtain ⟨z, hz⟩ : ∃ z, M[x]? = some z := ⟨M[x]'(by rw [HMn.out]; exact hlt2), List.getElem?_eq_getElem _⟩
          obtain ⟨g, off, rfl, d0, d1⟩ := (HA5.out.up HV.out).cells hz
          have KL3 := HKL2.out x z hz
          have KW3 := HKW2.out x z hz
          generalize (z.1 : Int) = y1 at *
          generalize (z.2 : Int) = y2 at *
          have HKL3 := Lib.hid KL3; have HKW3 := Lib.hid KW3
          have HX6 := Lib.hid (HX5.out.later (by rw [HL.out]; decide) HV.out)
          have HB6 := Lib.hid (up_trans HB5.out HV.out)
          have HRG := Lib.hid (later_range HX6.out (by rw [HL.out]; decide))
          have z0 : (0 : Int) ≤ (x : Int) := by omega
          have z1 : (x : Int) < (n : Int) := by omega
          have j0 := fun y : Later wr => y.cell d0
          have j1 := fun y : Later wr => y.cell d1
          clear KL3 KW3 hz
          go_wp2_with fail
          refine later_start (w := wr) ?_
          intro y
          refine wp_region_later (by kernel_rfl) (by kernel_rfl) ?_
          repeat (first
            | (go_big_quiet_want; refine quiet_load_job _ rfl w.heap.size rfl cs HL.out HRG.out ?_; simp only [Act.put, List.setIfInBounds_toArray, List.set_cons_succ, List.set_cons_zero]; go_big_quiet_on)
            | go_big_quiet_step ((go_at_call 12; with_reducible exact Later.call (HKL3.out _ (up_trans HB6.out (Later.up _))))))
          refine wpQuiet_nil ?_
          rintro _ ⟨v3, rfl⟩
          have HX7 := Lib.hid (HX6.out.later (by rw [HL.out]; decide) v3.up)
          have HB7 := Lib.hid (up_trans HB6.out v3.up)
          have HV7 := Lib.hid (up_trans HV.out v3.up)
          have k0 := j0 v3; have k1 := j1 v3
          obtain ⟨w7, hw7⟩ : ∃ w7, v3.now = w7 := ⟨_, rfl⟩
          rw [hw7] at HX7 HB7 HV7 k0 k1 ⊢
          clear hw7 j0 j1 HRG
          go_wp2_with (refine wpList_load_job rfl _ rfl w.heap.size rfl cs HX7.out HL.out ?_; simp only [Act.put, List.setIfInBounds_toArray, List.set_cons_succ, List.set_cons_zero])
          refine (HKW3.out _ HB7.out).mono ?_
          rintro e w8 ⟨rfl, hb⟩
          have m0 := bl_cell hb k0; have m1 := bl_cell hb k1
          have HV8 := Lib.hid (up_trans HV7.out hb)
          clear hb k0 k1 d0 d1
          go_wp2
          go_roundw
          case rel => exact ⟨x + 1, by omega, by go_num, HV8⟩
          case measure => simp [intOf]; omega
        · obtain rfl : x = n := by omega
          have HW9 := Lib.hid (up_trans HW5.out HV.out)
          go_wp2
          go_roundw
          case rel => exact ⟨c + 1, by omega, by go_num, HW9⟩
          case measure => simp [intOf]; omega
    · obtain rfl : c = N := by omega
      go_wp2_with (refine wpList_load_job rfl _ rfl w.heap.size rfl cs HXr.out HL.out ?_; simp only [Act.put, List.setIfInBounds_toArray, List.set_cons_succ, List.set_cons_zero])
      refine (HR2.out _ HBr.out).mono ?_
      rintro e w4 ⟨rfl, hb⟩
      have HB4 := Lib.hid (up_trans HBr.out hb)
      clear hb
      go_wp2
      go_ret
      exact ⟨rfl, HB4.out⟩
theorem copM_small (j : Jb) : 0 ≤ copM j ∧ copM j ≤ 2 := by
  unfold copM
  split
  · split <;> omega
  · omega
theorem walkOrderTellsK (KC : OrdCopies) (KL : OrdLeaf) (KW : OrdWhere) (KP : OrdPages) (cs : List Value) (j : Jb) (w : World) (h : (JobA w cs j ∧ j.t.length ≤ maxLen ∧ ∀ p ∈ j.ls, p.length ≤ maxLen) ∧ (∀ i, -9223372036854775808 ≤ j.n i ∧ j.n i ≤ 9223372036854775807) ∧ j.f.c ≤ 9223372036854775807 ∧ j.f.r ≤ 9223372036854775807) (hg : GoodM w) :
    Calls Tryz.prog 3 #[.agg cs.toArray] w fun e w' => e = .returned (.bool true) ∧ Below w.heap.size w w' := by
  obtain ⟨⟨h, ht, hz⟩, -, hf⟩ := h
  have hc := copM_small j
  have e : ((copM j).toNat : Int) = copM j := Int.toNat_of_nonneg hc.1
  refine tellsO_core cs (copM j).toNat (fun c => bookM j (c : Int)) (j.f.l.length ≤ 1000000) w h.length (by omega) (fun c => book_small j c) (fun w1 hb => ordAlive_any KC KL KP w1 (hg.below hb))
    (fun w1 hb => (refLight_any cs j w1 (h.up hb) ht hz).mono fun e w' ⟨b, he, hs, hb2⟩ => ⟨b, he, fun hb => by have := (hs hb).2.2.1; omega, hb2⟩)
    (fun w1 hb => by rw [e]; exact KC cs j w1 (h.up hb) hf (hg.below hb)) (fun hl w1 hb => by rw [e]; exact refCopies_any cs j w1 (h.up hb) hf hl)
    (fun hl c w1 hb => refBook_any cs j c w1 (h.up hb) hf hl) (fun c x z hc hz w1 hb => ?_) (fun c x z hc hz w1 hb => ?_)
  · obtain ⟨h1, h2⟩ := book_leaf hz
    obtain ⟨-, -, b3, b4, b5⟩ := book_bounds hz
    have := KL cs j z.1 c z.2 w1 (h.up hb) hf (hg.below hb) (int64_nat (by omega)) (int64_nat (by omega)) (int64_nat (by omega))
    rw [h1, h2] at this
    exact this
  · obtain ⟨-, -, b3, b4, b5⟩ := book_bounds hz
    have := KW cs j c x w1 (h.up hb) hf (hg.below hb) (int64_nat (by omega)) (int64_nat (by omega))
    have e2 : atO j c x = some z := by
      unfold atO
      rw [if_neg (by omega), Int.toNat_natCast]
      exact hz
    rw [e2] at this
    exact this
end Go.Proofs.YtbfigaadbfggcaaGreatDoor
/- The document's places, reckoned forth and back by numbers, are the book's. -/
namespace Go.Proofs.YtbfigaadbfggcaaGreatDoor
set_option linter.unusedVariables false

/-- A job's book by numbers: how bound, how many copies, signatures, leaves; leaves of each signature, and of the last one. -/
structure Bk where
  b : Int
  cp : Int
  n : Int
  T : Int
  e : Int
  d : Int
def bkJ (j : Jb) : Bk := if mayM j = true then ⟨j.n 10, copM j, cntS j, leavesS j, panS j.f, panS (lastS j)⟩ else ⟨0, 0, 0, 0, 0, 0⟩
/-- How many leaves a signature has. -/
def bkPan (k : Bk) (s : Int) : Int := if s = k.n - 1 then k.d else k.e
/-- How many signatures are ahead of one. -/
def bkPlace (k : Bk) (s c : Int) : Int := if c = 1 then k.n - 1 - s else s
def bkLeaf (k : Bk) (p a : Int) : Int :=
  if k.b = 1 then (if a < (bkPan k p).tdiv 2 then (p * k.e).tdiv 2 + a else k.T - (p * k.e).tdiv 2 - bkPan k p + a)
  else if k.b = 3 then a * k.n + p else p * k.e + a
def bkOut (k : Bk) (x : Int) : Int := min x (k.T - 1 - x)
def bkFrom (k : Bk) (x : Int) : Int × Int :=
  if k.b = 1 then ((bkOut k x).tdiv (k.e.tdiv 2), if bkOut k x < x then bkPan k ((bkOut k x).tdiv (k.e.tdiv 2)) - 1 - (bkOut k x).tmod (k.e.tdiv 2) else (bkOut k x).tmod (k.e.tdiv 2))
  else if k.b = 3 then (x.tmod k.n, x.tdiv k.n) else (x.tdiv k.e, x.tmod k.e)

theorem copM_ways {j : Jb} (h : mayM j = true) : copM j = if j.n 10 = 4 then 2 else 1 := by unfold copM; rw [if_pos h]
/-- What a job that has a book comes to. -/
theorem bk_facts {j : Jb} (h : mayM j = true) : bkJ j = ⟨j.n 10, copM j, (ofM j).length, leafN (panN (ofM j)) (ofM j).length, panJ j, (panS (lastS j)).toNat⟩ ∧ 0 < (ofM j).length ∧ (ofM j).length ≤ 50000
    ∧ 1 ≤ panJ j ∧ panJ j ≤ 64 ∧ 1 ≤ (panS (lastS j)).toNat ∧ (panS (lastS j)).toNat ≤ panJ j := by
  obtain ⟨-, hp, -⟩ := may_facts h
  obtain ⟨p1, p2, p3, p4, p5, p6, p7, p8⟩ := part_facts hp
  have h0 := of_length j
  have h1 := leafN_all hp
  have h2 : 0 < (ofM j).length := by
    unfold mayM at h
    simp only [Bool.and_eq_true, decide_eq_true_eq] at h
    exact h.2.1
  refine ⟨?_, h2, of_small j, by unfold panJ; omega, by unfold panJ; omega, by omega, by unfold panJ; omega⟩
  unfold bkJ panJ
  rw [if_pos h, h0, h1, Int.toNat_of_nonneg (by omega), Int.toNat_of_nonneg (by omega)]
theorem bk_pan {j : Jb} (h : mayM j = true) {i : Nat} (hi : i < (ofM j).length) : bkPan (bkJ j) i = (panN (ofM j) i : Nat) := by
  obtain ⟨e, h0, -⟩ := bk_facts h
  rw [panN_at (may_facts h).2.1 hi, e]
  unfold bkPan
  simp only
  by_cases hl : i + 1 = (ofM j).length
  · rw [if_pos hl, if_pos (by omega)]
  · rw [if_neg hl, if_neg (by omega)]
theorem tdiv_two (n : Nat) : ((n : Int)).tdiv 2 = ((n / 2 : Nat) : Int) := rfl
theorem even_mul {e : Nat} (h : e % 2 = 0) (i : Nat) : i * e / 2 = i * (e / 2) ∧ i * (e / 2) + i * (e / 2) = i * e := by
  have h1 : e = e / 2 + e / 2 := by omega
  have h2 : i * e = i * (e / 2) + i * (e / 2) := by rw [← Nat.mul_add, ← h1]
  omega
/-- All leaves are as many as those of the signatures up to one, at least. -/
theorem leafN_upto {j : Jb} (h : partB j = true) {i : Nat} (hi : i < (ofM j).length) : i * panJ j + panN (ofM j) i ≤ leafN (panN (ofM j)) (ofM j).length := by
  have h1 := leafN_mono (n := panN (ofM j)) (i := i + 1) (K := (ofM j).length) hi
  rw [leafN, leafN_ahead h i hi] at h1
  exact h1
/-- Forth. -/
theorem bk_leaf {j : Jb} {c : Int} (hc : ¬ (c < 0 ∨ copM j ≤ c)) {i a : Nat} (hi : i < (ofM j).length) (ha : a < panN (ofM j) i) : bkLeaf (bkJ j) (bkPlace (bkJ j) i c) a = (posM j c i a : Nat) := by
  obtain ⟨hm, hw⟩ := cop_may hc
  obtain ⟨e, h0, h1, h2, h3, h4, h5⟩ := bk_facts hm
  obtain ⟨hb, hp, -⟩ := may_facts hm
  have hpan := bk_pan hm hi
  rcases hw with rfl | ⟨rfl, h4⟩
  · have ep : bkPlace (bkJ j) i 0 = i := by unfold bkPlace; rw [if_neg (by decide)]
    rw [ep]
    unfold bkLeaf
    rw [hpan, e]
    simp only
    by_cases b1 : j.n 10 = 1
    · rw [if_pos b1]
      obtain ⟨q1, q2⟩ := pos_into hm b1 hi ha
      have hup := leafN_upto hp hi
      rw [tdiv_two, show ((i : Int) * (panJ j : Int)).tdiv 2 = ((i * panJ j / 2 : Nat) : Int) from rfl]
      by_cases hh : a < panN (ofM j) i / 2
      · rw [if_pos (by omega), q1 hh]
        omega
      · have := q2 (by omega)
        rw [if_neg (by omega)]
        omega
    · rw [if_neg b1]
      by_cases b3 : j.n 10 = 3
      · rw [if_pos b3, pos_stack b3]
        omega
      · rw [if_neg b3, pos_behind hp b1 b3 hi ha]
        omega
  · have ep : bkPlace (bkJ j) i 1 = (((ofM j).length - 1 - i : Nat) : Int) := by
      unfold bkPlace
      rw [if_pos rfl, e]
      simp only
      omega
    rw [ep]
    unfold bkLeaf
    rw [e]
    simp only
    rw [if_neg (by omega), if_neg (by omega), pos_ahead hp h4 hi ha]
    omega
theorem nest_half {j : Jb} (h : mayM j = true) (hb : j.n 10 = 1) : panJ j % 2 = 0 := nest_pan ((may_facts h).2.2 hb)
/-- Back. -/
theorem bk_from {j : Jb} {c : Int} (hc : ¬ (c < 0 ∨ copM j ≤ c)) {i a : Nat} (hi : i < (ofM j).length) (ha : a < panN (ofM j) i) : bkPlace (bkJ j) (bkFrom (bkJ j) (posM j c i a : Nat)).1 c = i ∧ (bkFrom (bkJ j) (posM j c i a : Nat)).2 = a := by
  obtain ⟨hm, hw⟩ := cop_may hc
  obtain ⟨e, h0, h1, h2, h3, h4, h5⟩ := bk_facts hm
  obtain ⟨hb, hp, -⟩ := may_facts hm
  have hpan := bk_pan hm hi
  have hpe : panN (ofM j) i ≤ panJ j := by rw [panN_at hp hi]; split <;> omega
  have hgo : ∀ p : Nat, ((p * panJ j + a : Nat) : Int).tdiv (panJ j : Int) = p ∧ ((p * panJ j + a : Nat) : Int).tmod (panJ j : Int) = a := fun p => by
    have e1 : (p * panJ j + a) / panJ j = p := by rw [Nat.mul_comm, Nat.mul_add_div (by omega), Nat.div_eq_of_lt (by omega), Nat.add_zero]
    have e2 : (p * panJ j + a) % panJ j = a := by rw [Nat.mul_comm, Nat.mul_add_mod, Nat.mod_eq_of_lt (by omega)]
    exact ⟨by rw [show ((p * panJ j + a : Nat) : Int).tdiv (panJ j : Int) = (((p * panJ j + a) / panJ j : Nat) : Int) from rfl, e1], by rw [show ((p * panJ j + a : Nat) : Int).tmod (panJ j : Int) = (((p * panJ j + a) % panJ j : Nat) : Int) from rfl, e2]⟩
  rcases hw with rfl | ⟨rfl, h4⟩
  · have ep : ∀ s, bkPlace (bkJ j) s 0 = s := fun s => by unfold bkPlace; rw [if_neg (by decide)]
    rw [ep]
    by_cases b1 : j.n 10 = 1
    · obtain ⟨q1, q2⟩ := pos_into hm b1 hi ha
      have hup := leafN_upto hp hi
      have hev := panN_even hm b1 i
      have hE := nest_half hm b1
      obtain ⟨m1, m2⟩ := even_mul hE i
      have hq : 1 ≤ panJ j / 2 := by omega
      have hback : ∀ y : Nat, y < panJ j / 2 → ((i * (panJ j / 2) + y : Nat) : Int).tdiv ((panJ j : Int).tdiv 2) = i ∧ ((i * (panJ j / 2) + y : Nat) : Int).tmod ((panJ j : Int).tdiv 2) = y := fun y hy => by
        have e1 : (i * (panJ j / 2) + y) / (panJ j / 2) = i := by rw [Nat.mul_comm, Nat.mul_add_div (by omega), Nat.div_eq_of_lt hy, Nat.add_zero]
        have e2 : (i * (panJ j / 2) + y) % (panJ j / 2) = y := by rw [Nat.mul_comm, Nat.mul_add_mod, Nat.mod_eq_of_lt hy]
        exact ⟨by rw [show ((i * (panJ j / 2) + y : Nat) : Int).tdiv ((panJ j : Int).tdiv 2) = (((i * (panJ j / 2) + y) / (panJ j / 2) : Nat) : Int) from rfl, e1], by rw [show ((i * (panJ j / 2) + y : Nat) : Int).tmod ((panJ j : Int).tdiv 2) = (((i * (panJ j / 2) + y) % (panJ j / 2) : Nat) : Int) from rfl, e2]⟩
      unfold bkFrom
      rw [show (bkJ j).b = 1 by rw [e]; exact b1, show (bkJ j).e = panJ j by rw [e]]
      rw [if_pos rfl]
      simp only
      by_cases hh : a < panN (ofM j) i / 2
      · have ex := q1 hh
        have eo : bkOut (bkJ j) (posM j 0 i a : Nat) = ((i * (panJ j / 2) + a : Nat) : Int) := by
          unfold bkOut
          rw [e]
          simp only
          omega
        obtain ⟨g1, g2⟩ := hback a (by omega)
        rw [eo, g1, g2, if_neg (by omega)]
        exact ⟨rfl, rfl⟩
      · have ex := q2 (by omega)
        have eo : bkOut (bkJ j) (posM j 0 i a : Nat) = ((i * (panJ j / 2) + (panN (ofM j) i - 1 - a) : Nat) : Int) := by
          unfold bkOut
          rw [e]
          simp only
          omega
        obtain ⟨g1, g2⟩ := hback (panN (ofM j) i - 1 - a) (by omega)
        rw [eo, g1, g2, if_pos (by omega), hpan]
        omega
    · unfold bkFrom
      rw [show (bkJ j).b = j.n 10 by rw [e], if_neg b1]
      by_cases b3 : j.n 10 = 3
      · rw [if_pos b3, pos_stack b3, show (bkJ j).n = (ofM j).length by rw [e]]
        have e1 : (a * (ofM j).length + i) / (ofM j).length = a := by rw [Nat.mul_comm, Nat.mul_add_div (by omega), Nat.div_eq_of_lt hi, Nat.add_zero]
        have e2 : (a * (ofM j).length + i) % (ofM j).length = i := by rw [Nat.mul_comm, Nat.mul_add_mod, Nat.mod_eq_of_lt hi]
        simp only
        exact ⟨by rw [show ((a * (ofM j).length + i : Nat) : Int).tmod ((ofM j).length : Int) = (((a * (ofM j).length + i) % (ofM j).length : Nat) : Int) from rfl, e2], by rw [show ((a * (ofM j).length + i : Nat) : Int).tdiv ((ofM j).length : Int) = (((a * (ofM j).length + i) / (ofM j).length : Nat) : Int) from rfl, e1]⟩
      · rw [if_neg b3, pos_behind hp b1 b3 hi ha, show (bkJ j).e = panJ j by rw [e]]
        exact hgo i
  · unfold bkFrom
    rw [show (bkJ j).b = j.n 10 by rw [e], if_neg (by omega), if_neg (by omega), pos_ahead hp h4 hi ha, show (bkJ j).e = panJ j by rw [e]]
    obtain ⟨g1, g2⟩ := hgo ((ofM j).length - 1 - i)
    simp only [g1, g2]
    refine ⟨?_, trivial⟩
    unfold bkPlace
    rw [if_pos rfl, e]
    simp only
    omega
end Go.Proofs.YtbfigaadbfggcaaGreatDoor
/- What order's small functions answer. -/
namespace Go.Proofs.YtbfigaadbfggcaaGreatDoor
open Go.RowKit
set_option linter.unusedVariables false
set_option linter.unusedSimpArgs false

theorem ordHas_any (n k : Int) (w : World) (h1 : 0 ≤ n) (h2 : n ≤ 1000000000) :
    Calls Tryz.prog 23 #[.int .i64 n, .int .i64 k] w fun e w' => e = .returned (.bool (decide (0 ≤ k) && decide (k ≤ n - 1))) ∧ w = w' := by
  obtain ⟨m, hm⟩ : ∃ m, n - 1 = m := ⟨_, rfl⟩
  rw [hm]
  have H := Lib.hid (fun w => in_any k 0 m w)
  go_enter Tryz.func23, Tryz.ntmps23
  go_wp2_with fail
  refine (H.out _).mono ?_
  rintro e w1 ⟨rfl, rfl⟩
  go_wp2
  go_ret
  exact ⟨rfl, rfl⟩
theorem ordNum_any (b : Int) (w : World) : Calls Tryz.prog 32 #[.int .i64 b] w fun e w' => e = .returned (.int .i64 (if b = 4 then 2 else 1)) ∧ Below w.heap.size w w' := by
  by_cases h : b = 4
  · have E := Lib.hid (show (if b = 4 then (2 : Int) else 1) = 2 from if_pos h)
    have e1 : (b == 4) = true := by simp [h]
    go_enter Tryz.func32, Tryz.ntmps32
    go_wp2
    go_ret
    exact ⟨rfl, Below.refl _ _⟩
  · have E := Lib.hid (show (if b = 4 then (2 : Int) else 1) = 1 from if_neg h)
    have e1 : (b == 4) = false := by simp [h]
    go_enter Tryz.func32, Tryz.ntmps32
    go_wp2
    go_ret
    exact ⟨rfl, Below.refl _ _⟩
theorem ordPanels_any (b cp n T e d s : Int) (w : World) (h1 : 0 ≤ n) (h2 : n ≤ 1000000000) :
    Calls Tryz.prog 24 #[.agg #[.int .i64 b, .int .i64 cp, .int .i64 n, .int .i64 T, .int .i64 e, .int .i64 d], .int .i64 s] w fun x w' => x = .returned (.int .i64 (bkPan ⟨b, cp, n, T, e, d⟩ s)) ∧ Below w.heap.size w w' := by
  have X := Bx.new w 52 [.int .i64 b, .int .i64 cp, .int .i64 n, .int .i64 T, .int .i64 e, .int .i64 d]
  have B := Lib.hid (up_alloc (Below.refl w.heap.size w) (.cells #[.int .i64 b, .int .i64 cp, .int .i64 n, .int .i64 T, .int .i64 e, .int .i64 d] 52))
  have c2 := X.cell 2 rfl; have c4 := X.cell 4 rfl; have c5 := X.cell 5 rfl
  clear X
  obtain ⟨m, hm⟩ : ∃ m, n - 1 = m := ⟨_, rfl⟩
  by_cases h : s = m
  · have E := Lib.hid (show bkPan ⟨b, cp, n, T, e, d⟩ s = d by unfold bkPan; simp only; rw [if_pos (by omega)])
    have e1 : (s == m) = true := by simp [h]
    go_enter Tryz.func24, Tryz.ntmps24
    go_wp2
    go_ret
    exact ⟨by rw [E.out]; rfl, B.out⟩
  · have E := Lib.hid (show bkPan ⟨b, cp, n, T, e, d⟩ s = e by unfold bkPan; simp only; rw [if_neg (by omega)])
    have e1 : (s == m) = false := by simp [h]
    go_enter Tryz.func24, Tryz.ntmps24
    go_wp2
    go_ret
    exact ⟨by rw [E.out]; rfl, B.out⟩
theorem ordPlace_any (b cp n T e d s c : Int) (w : World) (h1 : 0 ≤ n) (h2 : n ≤ 1000000000) (s1 : -1000000000 ≤ s) (s2 : s ≤ 1000000000) :
    Calls Tryz.prog 26 #[.agg #[.int .i64 b, .int .i64 cp, .int .i64 n, .int .i64 T, .int .i64 e, .int .i64 d], .int .i64 s, .int .i64 c] w fun x w' => x = .returned (.int .i64 (bkPlace ⟨b, cp, n, T, e, d⟩ s c)) ∧ Below w.heap.size w w' := by
  have X := Bx.new w 52 [.int .i64 b, .int .i64 cp, .int .i64 n, .int .i64 T, .int .i64 e, .int .i64 d]
  have B := Lib.hid (up_alloc (Below.refl w.heap.size w) (.cells #[.int .i64 b, .int .i64 cp, .int .i64 n, .int .i64 T, .int .i64 e, .int .i64 d] 52))
  have c2 := X.cell 2 rfl
  clear X
  obtain ⟨m, hm⟩ : ∃ m, n - 1 = m := ⟨_, rfl⟩
  obtain ⟨q, hq⟩ : ∃ q, m - s = q := ⟨_, rfl⟩
  by_cases h : c = 1
  · have E := Lib.hid (show bkPlace ⟨b, cp, n, T, e, d⟩ s c = q by unfold bkPlace; simp only; rw [if_pos h]; omega)
    have e1 : (c == 1) = true := by simp [h]
    go_enter Tryz.func26, Tryz.ntmps26
    go_wp2
    go_ret
    exact ⟨by rw [E.out]; rfl, B.out⟩
  · have E := Lib.hid (show bkPlace ⟨b, cp, n, T, e, d⟩ s c = s by unfold bkPlace; rw [if_neg h])
    have e1 : (c == 1) = false := by simp [h]
    go_enter Tryz.func26, Tryz.ntmps26
    go_wp2
    go_ret
    exact ⟨by rw [E.out]; rfl, B.out⟩
theorem ordPrinted_any (cs : List Value) (N p : Int) (w : World) (h1 : cs[1]? = some (.int .i64 N)) :
    Calls Tryz.prog 28 #[.agg cs.toArray, .int .i64 p] w fun x w' => x = .returned (.int .i64 (if N < p then 0 else p)) ∧ Below w.heap.size w w' := by
  have HX := Bx.new w 29 cs
  have HB := Lib.hid (up_alloc (Below.refl w.heap.size w) (.cells cs.toArray 29))
  have c1 := HX.cell 1 h1
  clear HX h1
  generalize cs.toArray = ca at *
  by_cases h : N < p
  · have E := Lib.hid (show (if N < p then 0 else p) = 0 from if_pos h)
    have e1 : decide (N < p) = true := decide_eq_true h
    go_enter Tryz.func28, Tryz.ntmps28
    go_wp2
    go_ret
    exact ⟨rfl, HB.out⟩
  · have E := Lib.hid (show (if N < p then 0 else p) = p from if_neg h)
    have e1 : decide (N < p) = false := decide_eq_false h
    go_enter Tryz.func28, Tryz.ntmps28
    go_wp2
    go_ret
    exact ⟨rfl, HB.out⟩
end Go.Proofs.YtbfigaadbfggcaaGreatDoor
/- What order's leaf and where of a book answer. -/
namespace Go.Proofs.YtbfigaadbfggcaaGreatDoor
open Go.RowKit
set_option linter.unusedVariables false
set_option linter.unusedSimpArgs false

/-- Numbers as small as a book's. -/
structure SmBk (n T e d : Int) : Prop where
  n0 : 1 ≤ n
  n1 : n ≤ 50000
  t0 : 0 ≤ T
  t1 : T ≤ 1000000000
  e0 : 1 ≤ e
  e1 : e ≤ 64
  d0 : 0 ≤ d
  d1 : d ≤ 64
theorem mul_small {p e : Int} (p0 : 0 ≤ p) (p1 : p ≤ 50000) (e0 : 0 ≤ e) (e1 : e ≤ 64) : 0 ≤ p * e ∧ p * e ≤ 3200000 := by
  have h1 : 0 ≤ p * e := Int.mul_nonneg p0 e0
  have h2 : p * e ≤ 50000 * 64 := Int.mul_le_mul p1 e1 e0 (by decide)
  exact ⟨h1, by omega⟩
theorem half_in {x : Int} (h : 0 ≤ x) : 0 ≤ x.tdiv 2 ∧ x.tdiv 2 ≤ x := by
  rw [Int.tdiv_eq_ediv_of_nonneg h]
  omega

/-- By Saddle. -/
theorem ordLeaf_sad (cp n T e d p a q h z y : Int) (u : Bool) (w : World) (hq : bkPan ⟨1, cp, n, T, e, d⟩ p = q) (hz : p * e = z) (hy : z.tdiv 2 = y) (hh : q.tdiv 2 = h) (hu : decide (a < h) = u) (S : SmBk n T e d) (p0 : 0 ≤ p) (p1 : p ≤ 50000) (a0 : 0 ≤ a) (a1 : a ≤ 64) :
    Calls Tryz.prog 25 #[.agg #[.int .i64 1, .int .i64 cp, .int .i64 n, .int .i64 T, .int .i64 e, .int .i64 d], .int .i64 p, .int .i64 a] w fun x w' => x = .returned (.int .i64 (if u = true then y + a else T - y - q + a)) ∧ Below w.heap.size w w' := by
  have X := Bx.new w 52 [.int .i64 1, .int .i64 cp, .int .i64 n, .int .i64 T, .int .i64 e, .int .i64 d]
  have U := up_alloc (Below.refl w.heap.size w) (.cells #[.int .i64 1, .int .i64 cp, .int .i64 n, .int .i64 T, .int .i64 e, .int .i64 d] 52)
  have B := Lib.hid U
  have K := fun w => ordPanels_any 1 cp n T e d p w (by have := S.n0; omega) (by have := S.n1; omega)
  rw [hq] at K
  have HK := Lib.hid K
  have c0 := X.cell 0 rfl; have c1 := X.cell 1 rfl; have c2 := X.cell 2 rfl; have c3 := X.cell 3 rfl; have c4 := X.cell 4 rfl; have c5 := X.cell 5 rfl
  have b3 := Lib.hid (X.cell 3 rfl)
  have ⟨z0, z1⟩ := mul_small p0 p1 (by have := S.e0; omega) S.e1
  rw [hz] at z0 z1
  have ⟨y0, y1⟩ := half_in z0
  rw [hy] at y0 y1
  have hq2 : 0 ≤ q ∧ q ≤ 64 := by
    rw [← hq]
    unfold bkPan
    simp only
    have := S.e0; have := S.e1; have := S.d0; have := S.d1
    split <;> omega
  obtain ⟨q0, q1⟩ := hq2
  have ⟨h0, h1⟩ := half_in q0
  rw [hh] at h0 h1
  have t0 := S.t0; have t1 := S.t1; have s0 := S.e0; have s1 := S.e1
  clear X U K hq S
  cases u
  · have E := Lib.hid (show (if false = true then y + a else T - y - q + a) = T - y - q + a from if_neg (by decide))
    go_enter Tryz.func25, Tryz.ntmps25
    go_wp2_with fail
    refine (HK.out _).mono ?_
    rintro x w1 ⟨rfl, hb⟩
    have BB := Lib.hid (up_trans B.out hb)
    have g3 := bl_cell hb b3.out
    clear hb c0 c1 c2 c3 c4 c5
    go_wp2
    go_ret
    exact ⟨rfl, BB.out⟩
  · have E := Lib.hid (show (if true = true then y + a else T - y - q + a) = y + a from if_pos rfl)
    go_enter Tryz.func25, Tryz.ntmps25
    go_wp2_with fail
    refine (HK.out _).mono ?_
    rintro x w1 ⟨rfl, hb⟩
    have BB := Lib.hid (up_trans B.out hb)
    clear hb c0 c1 c2 c3 c4 c5
    go_wp2
    go_ret
    exact ⟨rfl, BB.out⟩
/-- In piles, or one behind the other. -/
theorem ordLeaf_not (b cp n T e d p a z y : Int) (u : Bool) (w : World) (hb : (b == 1) = false) (hu : (b == 3) = u) (hz : p * e = z) (hy : a * n = y) (S : SmBk n T e d) (p0 : 0 ≤ p) (p1 : p ≤ 50000) (a0 : 0 ≤ a) (a1 : a ≤ 64) :
    Calls Tryz.prog 25 #[.agg #[.int .i64 b, .int .i64 cp, .int .i64 n, .int .i64 T, .int .i64 e, .int .i64 d], .int .i64 p, .int .i64 a] w fun x w' => x = .returned (.int .i64 (if u = true then y + p else z + a)) ∧ Below w.heap.size w w' := by
  have X := Bx.new w 52 [.int .i64 b, .int .i64 cp, .int .i64 n, .int .i64 T, .int .i64 e, .int .i64 d]
  have B := Lib.hid (up_alloc (Below.refl w.heap.size w) (.cells #[.int .i64 b, .int .i64 cp, .int .i64 n, .int .i64 T, .int .i64 e, .int .i64 d] 52))
  have c0 := X.cell 0 rfl; have c2 := X.cell 2 rfl; have c4 := X.cell 4 rfl
  have ⟨z0, z1⟩ := mul_small p0 p1 (by have := S.e0; omega) S.e1
  rw [hz] at z0 z1
  have ⟨y0, y1⟩ : 0 ≤ y ∧ y ≤ 3200000 := by
    have := mul_small (p := n) (e := a) (by have := S.n0; omega) S.n1 a0 a1
    rw [Int.mul_comm, hy] at this
    exact this
  clear X S
  cases u
  · have E := Lib.hid (show (if false = true then y + p else z + a) = z + a from if_neg (by decide))
    go_enter Tryz.func25, Tryz.ntmps25
    go_wp2
    go_ret
    exact ⟨rfl, B.out⟩
  · have E := Lib.hid (show (if true = true then y + p else z + a) = y + p from if_pos rfl)
    go_enter Tryz.func25, Tryz.ntmps25
    go_wp2
    go_ret
    exact ⟨rfl, B.out⟩
theorem ordLeafK_any (b cp n T e d p a : Int) (w : World) (S : SmBk n T e d) (p0 : 0 ≤ p) (p1 : p ≤ 50000) (a0 : 0 ≤ a) (a1 : a ≤ 64) :
    Calls Tryz.prog 25 #[.agg #[.int .i64 b, .int .i64 cp, .int .i64 n, .int .i64 T, .int .i64 e, .int .i64 d], .int .i64 p, .int .i64 a] w fun x w' => x = .returned (.int .i64 (bkLeaf ⟨b, cp, n, T, e, d⟩ p a)) ∧ Below w.heap.size w w' := by
  by_cases h1 : b = 1
  · subst h1
    have K := ordLeaf_sad cp n T e d p a _ _ _ _ _ w rfl rfl rfl rfl rfl S p0 p1 a0 a1
    unfold bkLeaf
    rw [if_pos rfl]
    simp only [decide_eq_true_eq] at K
    exact K
  · have K := ordLeaf_not b cp n T e d p a _ _ _ w (by simp [h1]) rfl rfl rfl S p0 p1 a0 a1
    unfold bkLeaf
    rw [if_neg h1]
    simp only [beq_iff_eq] at K
    exact K

/-- Back: by Saddle. -/
theorem ordFrom_sad (cp n T e d x o m h q r p : Int) (u : Bool) (w : World) (hm : T - 1 - x = m) (ho : min x m = o) (hh : e.tdiv 2 = h) (hq : o.tdiv h = q) (hr : o.tmod h = r) (hp : bkPan ⟨1, cp, n, T, e, d⟩ q = p) (hu : decide (o < x) = u) (S : SmBk n T e d) (e2 : 2 ≤ e) (x0 : 0 ≤ x) (x1 : x ≤ T - 1) :
    Calls Tryz.prog 27 #[.agg #[.int .i64 1, .int .i64 cp, .int .i64 n, .int .i64 T, .int .i64 e, .int .i64 d], .int .i64 x] w fun y w' => y = .returned (.tuple #[.int .i64 q, .int .i64 (if u = true then p - 1 - r else r)]) ∧ Below w.heap.size w w' := by
  have X := Bx.new w 52 [.int .i64 1, .int .i64 cp, .int .i64 n, .int .i64 T, .int .i64 e, .int .i64 d]
  have B := Lib.hid (up_alloc (Below.refl w.heap.size w) (.cells #[.int .i64 1, .int .i64 cp, .int .i64 n, .int .i64 T, .int .i64 e, .int .i64 d] 52))
  have K := fun w => ordPanels_any 1 cp n T e d q w (by have := S.n0; omega) (by have := S.n1; omega)
  rw [hp] at K
  have HK := Lib.hid K
  have t0 := S.t0; have t1 := S.t1
  have ⟨h0, h1⟩ : 1 ≤ h ∧ h ≤ 32 := by
    rw [← hh, Int.tdiv_eq_ediv_of_nonneg (by omega)]
    have := S.e1
    omega
  have hz : ¬ h = 0 := by omega
  have hzb : (h == 0) = false := by simp; omega
  have ⟨o0, o1⟩ : 0 ≤ o ∧ o ≤ 1000000000 := by omega
  have ⟨q0, q1⟩ : 0 ≤ q ∧ q ≤ 1000000000 := by
    rw [← hq, Int.tdiv_eq_ediv_of_nonneg o0]
    have h2 := Int.ediv_nonneg o0 (show 0 ≤ h by omega)
    have h3 : o / h ≤ o := Int.ediv_le_self _ o0
    exact ⟨h2, by omega⟩
  have ⟨r0, r1⟩ : 0 ≤ r ∧ r ≤ 32 := by
    rw [← hr, Int.tmod_eq_emod_of_nonneg o0]
    have h2 := Int.emod_nonneg o (show h ≠ 0 by omega)
    have h3 := Int.emod_lt_of_pos o (show 0 < h by omega)
    omega
  have hp2 : 0 ≤ p ∧ p ≤ 64 := by
    rw [← hp]
    unfold bkPan
    simp only
    have := S.e0; have := S.e1; have := S.d0; have := S.d1
    split <;> omega
  obtain ⟨p0, p1⟩ := hp2
  have c0 := X.cell 0 rfl; have c1 := X.cell 1 rfl; have c2 := X.cell 2 rfl; have c3 := X.cell 3 rfl; have c4 := X.cell 4 rfl; have c5 := X.cell 5 rfl
  obtain ⟨t, ht⟩ : ∃ t, T - 1 = t := ⟨_, rfl⟩
  have hm2 : t - x = m := by omega
  clear K hp S X hm
  go_enter Tryz.func27, Tryz.ntmps27
  go_wp2_with fail
  obtain ⟨w1, hw1⟩ : ∃ w1, w.alloc (.cells #[.int .i64 1, .int .i64 cp, .int .i64 n, .int .i64 T, .int .i64 e, .int .i64 d] 52) = w1 := ⟨_, rfl⟩
  rw [hw1] at c0 c1 c2 c3 c4 c5 B ⊢
  clear hw1
  have j4 := fun y : Later w1 => y.cell c4
  have HC := Lib.hid (And.intro c0 (And.intro c1 (And.intro c2 (And.intro c3 (And.intro c4 c5)))))
  clear c0 c1 c2 c3 c4 c5
  refine later_start (w := w1) ?_
  intro y
  refine wp_region_later (by kernel_rfl) (by kernel_rfl) ?_
  repeat (go_big_quiet_step (fail))
  refine wpQuiet_nil ?_
  rintro _ ⟨y2, rfl⟩
  have BB := Lib.hid (up_trans B.out y2.up)
  obtain ⟨c0, c1, c2, c3, c4, c5⟩ := HC.out
  have g0 := y2.cell c0; have g1 := y2.cell c1; have g2 := y2.cell c2; have g3 := y2.cell c3; have g4 := y2.cell c4; have g5 := y2.cell c5
  obtain ⟨w2, hw2⟩ : ∃ w2, y2.now = w2 := ⟨_, rfl⟩
  rw [hw2] at BB g0 g1 g2 g3 g4 g5 ⊢
  clear hw2 j4 c0 c1 c2 c3 c4 c5 HC y y2
  cases u
  · have E := Lib.hid (show (if false = true then p - 1 - r else r) = r from if_neg (by decide))
    go_wp2
    go_ret2
    exact ⟨rfl, BB.out⟩
  · have E := Lib.hid (show (if true = true then p - 1 - r else r) = p - 1 - r from if_pos rfl)
    go_wp2_with fail
    refine (HK.out _).mono ?_
    rintro v w3 ⟨rfl, hb⟩
    have B3 := Lib.hid (up_trans BB.out hb)
    clear hb g0 g1 g2 g3 g4 g5
    go_wp2
    go_ret2
    exact ⟨rfl, B3.out⟩
/-- Back: in piles, or one behind the other. -/
theorem ordFrom_not (b cp n T e d x q r q2 r2 : Int) (u : Bool) (w : World) (hb : (b == 1) = false) (hu : (b == 3) = u) (hq : x.tdiv e = q) (hr : x.tmod e = r) (hq2 : x.tdiv n = q2) (hr2 : x.tmod n = r2) (S : SmBk n T e d) (x0 : 0 ≤ x) (x1 : x ≤ T - 1) :
    Calls Tryz.prog 27 #[.agg #[.int .i64 b, .int .i64 cp, .int .i64 n, .int .i64 T, .int .i64 e, .int .i64 d], .int .i64 x] w fun y w' => y = .returned (.tuple #[.int .i64 (if u = true then r2 else q), .int .i64 (if u = true then q2 else r)]) ∧ Below w.heap.size w w' := by
  have X := Bx.new w 52 [.int .i64 b, .int .i64 cp, .int .i64 n, .int .i64 T, .int .i64 e, .int .i64 d]
  have B := Lib.hid (up_alloc (Below.refl w.heap.size w) (.cells #[.int .i64 b, .int .i64 cp, .int .i64 n, .int .i64 T, .int .i64 e, .int .i64 d] 52))
  have t0 := S.t0; have t1 := S.t1; have n0 := S.n0; have n1 := S.n1; have e0 := S.e0; have e1 := S.e1
  have hez : ¬ e = 0 := by omega
  have hezb : (e == 0) = false := by simp; omega
  have hnz : ¬ n = 0 := by omega
  have hnzb : (n == 0) = false := by simp; omega
  have ⟨q0, q1⟩ : 0 ≤ q ∧ q ≤ 1000000000 := by
    rw [← hq, Int.tdiv_eq_ediv_of_nonneg x0]
    have h2 := Int.ediv_nonneg x0 (show 0 ≤ e by omega)
    have h3 : x / e ≤ x := Int.ediv_le_self _ x0
    exact ⟨h2, by omega⟩
  have ⟨r0, r1⟩ : 0 ≤ r ∧ r ≤ 1000000000 := by
    rw [← hr, Int.tmod_eq_emod_of_nonneg x0]
    have h2 := Int.emod_nonneg x (show e ≠ 0 by omega)
    have h3 := Int.emod_lt_of_pos x (show 0 < e by omega)
    omega
  have ⟨q20, q21⟩ : 0 ≤ q2 ∧ q2 ≤ 1000000000 := by
    rw [← hq2, Int.tdiv_eq_ediv_of_nonneg x0]
    have h2 := Int.ediv_nonneg x0 (show 0 ≤ n by omega)
    have h3 : x / n ≤ x := Int.ediv_le_self _ x0
    exact ⟨h2, by omega⟩
  have ⟨r20, r21⟩ : 0 ≤ r2 ∧ r2 ≤ 1000000000 := by
    rw [← hr2, Int.tmod_eq_emod_of_nonneg x0]
    have h2 := Int.emod_nonneg x (show n ≠ 0 by omega)
    have h3 := Int.emod_lt_of_pos x (show 0 < n by omega)
    omega
  have c0 := X.cell 0 rfl; have c2 := X.cell 2 rfl; have c4 := X.cell 4 rfl
  clear S X
  cases u
  · have E := Lib.hid (show (if false = true then r2 else q) = q from if_neg (by decide))
    have E2 := Lib.hid (show (if false = true then q2 else r) = r from if_neg (by decide))
    go_enter Tryz.func27, Tryz.ntmps27
    go_wp2_with fail
    obtain ⟨w1, hw1⟩ : ∃ w1, w.alloc (.cells #[.int .i64 b, .int .i64 cp, .int .i64 n, .int .i64 T, .int .i64 e, .int .i64 d] 52) = w1 := ⟨_, rfl⟩
    rw [hw1] at c0 c2 c4 B ⊢
    clear hw1
    have j4 := fun y : Later w1 => y.cell c4
    clear c0 c2 c4
    refine later_start (w := w1) ?_
    intro y
    refine wp_region_later (by kernel_rfl) (by kernel_rfl) ?_
    repeat (go_big_quiet_step (fail))
    refine wpQuiet_nil ?_
    rintro _ ⟨y2, rfl⟩
    have BB := Lib.hid (up_trans B.out y2.up)
    clear j4
    go_wp2
    go_ret2
    exact ⟨rfl, BB.out⟩
  · have E := Lib.hid (show (if true = true then r2 else q) = r2 from if_pos rfl)
    have E2 := Lib.hid (show (if true = true then q2 else r) = q2 from if_pos rfl)
    go_enter Tryz.func27, Tryz.ntmps27
    go_wp2_with fail
    obtain ⟨w1, hw1⟩ : ∃ w1, w.alloc (.cells #[.int .i64 b, .int .i64 cp, .int .i64 n, .int .i64 T, .int .i64 e, .int .i64 d] 52) = w1 := ⟨_, rfl⟩
    rw [hw1] at c0 c2 c4 B ⊢
    clear hw1
    have j2 := fun y : Later w1 => y.cell c2
    clear c0 c2 c4
    refine later_start (w := w1) ?_
    intro y
    refine wp_region_later (by kernel_rfl) (by kernel_rfl) ?_
    repeat (go_big_quiet_step (fail))
    refine wpQuiet_nil ?_
    rintro _ ⟨y2, rfl⟩
    have BB := Lib.hid (up_trans B.out y2.up)
    clear j2
    go_wp2
    go_ret2
    exact ⟨rfl, BB.out⟩
theorem ordFromK_any (b cp n T e d x : Int) (w : World) (S : SmBk n T e d) (e2 : b = 1 → 2 ≤ e) (x0 : 0 ≤ x) (x1 : x ≤ T - 1) :
    Calls Tryz.prog 27 #[.agg #[.int .i64 b, .int .i64 cp, .int .i64 n, .int .i64 T, .int .i64 e, .int .i64 d], .int .i64 x] w fun y w' => y = .returned (.tuple #[.int .i64 (bkFrom ⟨b, cp, n, T, e, d⟩ x).1, .int .i64 (bkFrom ⟨b, cp, n, T, e, d⟩ x).2]) ∧ Below w.heap.size w w' := by
  by_cases h1 : b = 1
  · subst h1
    have K := ordFrom_sad cp n T e d x _ _ _ _ _ _ _ w rfl rfl rfl rfl rfl rfl rfl S (e2 rfl) x0 x1
    unfold bkFrom bkOut
    rw [if_pos rfl]
    simp only [decide_eq_true_eq] at K
    exact K
  · have K := ordFrom_not b cp n T e d x _ _ _ _ _ w (by simp [h1]) rfl rfl rfl rfl rfl S x0 x1
    unfold bkFrom
    rw [if_neg h1]
    simp only [beq_iff_eq] at K
    by_cases h3 : b = 3
    · simp only [if_pos h3] at K ⊢
      exact K
    · simp only [if_neg h3] at K ⊢
      exact K
end Go.Proofs.YtbfigaadbfggcaaGreatDoor
