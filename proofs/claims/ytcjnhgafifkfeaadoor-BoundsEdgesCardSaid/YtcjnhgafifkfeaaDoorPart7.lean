/- Part 7 of the texts that the proofs of this seat share: RefSet, RefLight, TextsSame, SchemeSame, CallOrder, JobSame, CallLater. -/
import Derived.Test.YtcjnhgafifkfeaaDoorPart5
import Derived.Test.YtcjnhgafifkfeaaDoorPart4
import Derived.Test.YtcjnhgafifkfeaaDoorPart2
import Derived.WalkKit
import Derived.BigQuiet
import Derived.Test.YtcjnhgafifkfeaaDoorPart1
import Derived.Deep.RegionHeld3
/- What the reference's Set answers, for every job, place and number. -/
namespace Go.Proofs.YtcjnhgafifkfeaaDoor
open Go.RowKit
set_option linter.unusedVariables false

theorem refSet_core (cs es : List Value) (i z : Int) (b1 b2 : Bool) (w : World) (hl : cs.length = 33) (hle : es.length = 33) (h1 : decide (i < 0) = b1) (h2 : decide (28 ≤ i) = b2) (hc1 : cs.toArray.all (·.oneCell') = true) (he1 : es.toArray.all (·.oneCell') = true)
    (hout : (b1 || b2) = true → es = cs)
    (KP : (b1 || b2) = false → ∀ u, Calls Tryd.prog 29 #[.agg cs.toArray, .int .i64 i, .int .i64 z] u fun e w' => e = .returned (.agg es.toArray) ∧ Below u.heap.size u w') :
    Calls Tryd.prog 14 #[.agg cs.toArray, .int .i64 i, .int .i64 z] w fun e w' => e = .returned (.agg es.toArray) ∧ Below w.heap.size w w' := by
  have HL := Lib.hid hl; have HE := Lib.hid hle; have H1 := Lib.hid hc1; have HE1 := Lib.hid he1; have HO := Lib.hid hout; have HP := Lib.hid KP
  have HX := Lib.hid ((Bx.new w 29 cs).later (by rw [hl]; decide) (up_alloc (Below.refl _ _) (.cells zeroL.toArray 29)))
  have HR := Bx.new (w.alloc (.cells cs.toArray 29)) 29 zeroL
  have HB := Lib.hid (up_alloc (up_alloc (Below.refl w.heap.size w) (.cells cs.toArray 29)) (.cells zeroL.toArray 29))
  rw [World.size_alloc] at HR
  have HR := Lib.hid HR
  clear hl hle hc1 he1 hout KP
  go_enter Tryd.func14, Tryd.ntmps14
  have hcase : (b1 || b2) = true ∨ (b1 || b2) = false := by cases b1 <;> cases b2 <;> simp
  have HCase := Lib.hid hcase
  clear hcase
  cases b1
  · cases b2
    · go_wp2_with (first
        | (refine wpList_alloc_to rfl 29 rfl _ _ (job_alloc _) ?_; simp only [Act.put, World.size_alloc, List.setIfInBounds_toArray, List.set_cons_succ, List.set_cons_zero])
        | (refine wpList_load_job rfl _ rfl w.heap.size rfl cs HX.out HL.out ?_; simp only [Act.put, List.setIfInBounds_toArray, List.set_cons_succ, List.set_cons_zero]))
      refine (HP.out rfl _).mono ?_
      rintro e w1 ⟨rfl, hb⟩
      have R1 := HR.out.later (by decide) hb
      have B1 := Lib.hid (below_setCells (show w.heap.size ≤ w.heap.size + 1 by omega) es 0 _ (up_trans HB.out hb))
      have R2 := Lib.hid (R1.sets (ws := es) HE.out)
      clear hb
      go_wp2_with (refine wpList_store_job rfl _ _ rfl (w.heap.size + 1) rfl zeroL es rfl R1 rfl HE.out HE1.out ?_; simp only [Act.put])
      exact bodyPost_ret (v := .agg es.toArray) (results_wide Tryd.results14 (w.heap.size + 1) rfl _ _ R2.out.range Tryd.underlying29 rfl (by rw [HE.out]; exact infoJob)) rfl ⟨rfl, B1.out⟩
    · obtain rfl := HO.out rfl
      have B1 := Lib.hid (below_setCells (show w.heap.size ≤ w.heap.size + 1 by omega) es 0 _ HB.out)
      have R2 := Lib.hid (HR.out.sets (ws := es) HE.out)
      go_wp2_with (first
        | (refine wpList_alloc_to rfl 29 rfl _ _ (job_alloc _) ?_; simp only [Act.put, World.size_alloc, List.setIfInBounds_toArray, List.set_cons_succ, List.set_cons_zero])
        | (refine wpList_load_job rfl _ rfl w.heap.size rfl es HX.out HL.out ?_; simp only [Act.put, List.setIfInBounds_toArray, List.set_cons_succ, List.set_cons_zero])
        | (refine wpList_store_job rfl _ _ rfl (w.heap.size + 1) rfl zeroL es rfl HR.out rfl HE.out HE1.out ?_; simp only [Act.put]))
      exact bodyPost_ret (v := .agg es.toArray) (results_wide Tryd.results14 (w.heap.size + 1) rfl _ _ R2.out.range Tryd.underlying29 rfl (by rw [HE.out]; exact infoJob)) rfl ⟨rfl, B1.out⟩
  · obtain rfl := HO.out rfl
    have B1 := Lib.hid (below_setCells (show w.heap.size ≤ w.heap.size + 1 by omega) es 0 _ HB.out)
    have R2 := Lib.hid (HR.out.sets (ws := es) HE.out)
    go_wp2_with (first
      | (refine wpList_alloc_to rfl 29 rfl _ _ (job_alloc _) ?_; simp only [Act.put, World.size_alloc, List.setIfInBounds_toArray, List.set_cons_succ, List.set_cons_zero])
      | (refine wpList_load_job rfl _ rfl w.heap.size rfl es HX.out HL.out ?_; simp only [Act.put, List.setIfInBounds_toArray, List.set_cons_succ, List.set_cons_zero])
      | (refine wpList_store_job rfl _ _ rfl (w.heap.size + 1) rfl zeroL es rfl HR.out rfl HE.out HE1.out ?_; simp only [Act.put]))
    exact bodyPost_ret (v := .agg es.toArray) (results_wide Tryd.results14 (w.heap.size + 1) rfl _ _ R2.out.range Tryd.underlying29 rfl (by rw [HE.out]; exact infoJob)) rfl ⟨rfl, B1.out⟩

theorem refJobSet_any (t : ByteArray) (n : Nat → Int) (c r i z : Int) (a a' : Option Addr) (x d x' d' : Nat) (w : World) :
    Calls Tryd.prog 14 #[.agg (jobL t n c r (.slice a x d) (.slice a' x' d')).toArray, .int .i64 i, .int .i64 z] w fun e w' => e = .returned (.agg (jobL t (setJ n i z) c r (.slice a x d) (.slice a' x' d')).toArray) ∧ Below w.heap.size w w' := by
  refine refSet_core _ _ i z _ _ w rfl rfl rfl rfl (job_one _ _ _ _ _ _ _ _ _ _) (job_one _ _ _ _ _ _ _ _ _ _) ?_ ?_
  · intro h
    rw [setJ_out]
    simp only [Bool.or_eq_true, decide_eq_true_eq] at h
    by_cases h0 : 0 ≤ i
    · rw [decide_eq_false (show ¬ i ≤ 27 by omega), Bool.and_false]
    · rw [decide_eq_false h0, Bool.false_and]
  · intro h u
    simp only [Bool.or_eq_false_iff, decide_eq_false_iff_not] at h
    obtain ⟨k, hk, rfl⟩ : ∃ k : Nat, k < 28 ∧ i = (k : Int) := ⟨i.toNat, by omega, by omega⟩
    rw [setJ_in hk]
    exact refPut_any t n c r z a a' x d x' d' k u hk
end Go.Proofs.YtcjnhgafifkfeaaDoor
/- What the reference's Light tells of a job: where it answers true, the job is small. -/
namespace Go.Proofs.YtcjnhgafifkfeaaDoor
open Go.RowKit
set_option linter.unusedVariables false
set_option linter.unusedSimpArgs false

theorem take_next {α : Type} {l : List α} {k : Nat} {x : α} (h : l[k]? = some x) : l.take (k + 1) = l.take k ++ [x] := by
  rw [List.take_add_one, h]; rfl
/-- A job is small enough to be gone through. -/
def SmallJ (j : Jb) : Prop := j.t.length ≤ 100 ∧ j.ls.length ≤ 6 ∧ j.f.l.length ≤ 10 ∧ (j.n 0 ≤ 300 ∨ 100000 < j.n 0) ∧ ∀ x ∈ j.ls, x.length ≤ 60

theorem light_out (T : ByteArray) (n : Nat → Int) (c r : Int) (a a' : Option Addr) (m d k d' : Nat) (b1 b2 b3 b4 b5 : Bool) (w : World) (h1 : decide ((100 : Int) < (T.size : Int)) = b1) (h2 : decide ((6 : Int) < (k : Int)) = b2) (h3 : decide ((10 : Int) < (m : Int)) = b3) (h4 : decide ((300 : Int) < n 0) = b4) (h5 : decide (n 0 ≤ 100000) = b5)
    (h : (b1 || b2 || b3 || (b4 && b5)) = true) :
    Calls Tryd.prog 11 #[.agg (jobL T n c r (.slice a m d) (.slice a' k d')).toArray] w fun e w' => e = .returned (.bool false) ∧ Below w.heap.size w w' := by
  have HX := Bx.new w 29 (jobL T n c r (.slice a m d) (.slice a' k d'))
  have c0 := HX.cell 0 rfl; have c1 := HX.cell 1 rfl; have c14 := HX.cell 14 rfl; have c15 := HX.cell 15 rfl
  have HB := Lib.hid (up_alloc (Below.refl w.heap.size w) (.cells (jobL T n c r (.slice a m d) (.slice a' k d')).toArray 29))
  clear HX
  generalize n 0 = p at *
  generalize (jobL T n c r (.slice a m d) (.slice a' k d')).toArray = cs at *
  have HH := Lib.hid h
  clear h
  cases b1
  · cases b2
    · cases b3
      · cases b4
        · exact absurd HH.out (by simp)
        · cases b5
          · exact absurd HH.out (by decide)
          · go_enter Tryd.func11, Tryd.ntmps11
            go_wp2
            go_ret
            exact ⟨rfl, HB.out⟩
      · go_enter Tryd.func11, Tryd.ntmps11
        go_wp2
        go_ret
        exact ⟨rfl, HB.out⟩
    · go_enter Tryd.func11, Tryd.ntmps11
      go_wp2
      go_ret
      exact ⟨rfl, HB.out⟩
  · go_enter Tryd.func11, Tryd.ntmps11
    go_wp2
    go_ret
    exact ⟨rfl, HB.out⟩

theorem light_in (T : ByteArray) (n : Nat → Int) (c r : Int) (a a' : Option Addr) (m d k d' : Nat) (ls : List (List UInt8)) (b4 b5 : Bool) (w : World) (hk : ls.length = k) (hT : TxA w a' d' ls) (hz : ∀ x ∈ ls, x.length ≤ maxLen)
    (h1 : decide ((100 : Int) < (T.size : Int)) = false) (h2 : decide ((6 : Int) < (k : Int)) = false) (h3 : decide ((10 : Int) < (m : Int)) = false) (h4 : decide ((300 : Int) < n 0) = b4) (h5 : decide (n 0 ≤ 100000) = b5)
    (h : (b4 && b5) = false) :
    Calls Tryd.prog 11 #[.agg (jobL T n c r (.slice a m d) (.slice a' k d')).toArray] w fun e w' => ∃ b, e = .returned (.bool b) ∧ (b = true → ∀ x ∈ ls, x.length ≤ 60) ∧ Below w.heap.size w w' := by
  have HX := Bx.new w 29 (jobL T n c r (.slice a m d) (.slice a' k d'))
  have c0 := HX.cell 0 rfl; have c1 := HX.cell 1 rfl; have c14 := HX.cell 14 rfl; have c15 := HX.cell 15 rfl
  have HB := Lib.hid (up_alloc (Below.refl w.heap.size w) (.cells (jobL T n c r (.slice a m d) (.slice a' k d')).toArray 29))
  have HA := Lib.hid (hT.up HB.out)
  have HN := Lib.hid hk; have HZ := Lib.hid hz
  have hk6 : k ≤ 6 := by simp only [decide_eq_false_iff_not] at h2; omega
  clear HX hT hk hz
  generalize n 0 = p at *
  generalize (jobL T n c r (.slice a m d) (.slice a' k d')).toArray = cs at *
  go_enter Tryd.func11, Tryd.ntmps11
  cases b4 <;> cases b5 <;> first | (exact absurd h (by decide)) | skip
  all_goals
    clear h
    go_wp2
    obtain ⟨w1, hw1⟩ : ∃ w1, w.alloc (.cells cs 29) = w1 := ⟨_, rfl⟩
    rw [hw1] at c0 c1 c14 c15 HB HA ⊢
    clear hw1 h1 h2 h3 h4 h5 c0 c1 c14
    go_loopw [3] (fun i wr => ∃ j : Nat, j ≤ k ∧ i = .int .i64 (j : Int) ∧ Hid (∀ x ∈ ls.take j, x.length ≤ 60) ∧ wr = w1) (fun i _ => k - (intOf i).toNat)
    case atStart => exact ⟨0, by omega, by go_num, Lib.hid (by simp), rfl⟩
    case round =>
      obtain ⟨j, hj, rfl, H60, hwr⟩ := hrel
      obtain rfl : w1 = wr := hwr.symm
      clear hwr
      by_cases hlt : j < k
      · obtain ⟨x, hx⟩ : ∃ x, ls[j]? = some x := ⟨ls[j]'(by rw [HN.out]; exact hlt), List.getElem?_eq_getElem _⟩
        obtain ⟨g, o, rfl, hc, -, -⟩ := HA.out.resolve_left (by rintro rfl; cases hx)
        have hcx := hc j x hx
        have hxz := HZ.out x (List.mem_of_getElem? hx)
        have z0 : (0 : Int) ≤ (j : Int) := by omega
        have z3 : (j : Int) < (k : Int) := by omega
        have htk := take_next hx
        obtain ⟨X, hX⟩ : ∃ X, tx x = X := ⟨_, rfl⟩
        have hXs : X.size = x.length := by rw [← hX, tx_size]
        rw [hX] at hcx
        unfold maxLen at hxz
        by_cases h60 : 60 < X.size
        · have z4 : (60 : Int) < (X.size : Int) := by omega
          clear hx hc htk hX
          go_wp2
          go_ret
          exact ⟨false, rfl, fun h => (nomatch h), HB.out⟩
        · have z4 : decide ((60 : Int) < (X.size : Int)) = false := by simp; omega
          have H61 := Lib.hid (show ∀ y ∈ ls.take (j + 1), y.length ≤ 60 by
            rw [htk]
            intro y hy
            rcases List.mem_append.1 hy with h | h
            · exact H60.out y h
            · obtain rfl := List.mem_singleton.1 h; omega)
          clear hx hc htk hX
          go_wp2
          go_roundw
          case rel => exact ⟨j + 1, by omega, by go_num, H61, by trivial⟩
          case measure => simp [intOf]; omega
      · obtain rfl : j = k := by omega
        have hall : ls.take j = ls := List.take_of_length_le (by rw [HN.out]; omega)
        have hz60 := H60.out
        rw [hall] at hz60
        have HH := Lib.hid hz60
        clear hall hz60
        go_wp2
        go_ret
        exact ⟨true, rfl, fun _ => HH.out, HB.out⟩

/-- What Light answers; where it is true, the job is small. -/
theorem refLight_any (cs : List Value) (j : Jb) (w : World) (h : JobA w cs j) (ht : j.t.length ≤ maxLen) (hz : ∀ x ∈ j.ls, x.length ≤ maxLen) :
    Calls Tryd.prog 11 #[.agg cs.toArray] w fun e w' => ∃ b, e = .returned (.bool b) ∧ (b = true → SmallJ j) ∧ Below w.heap.size w w' := by
  obtain ⟨a, d, a', d', rfl, h1, h2⟩ := h
  by_cases hs : (decide ((100 : Int) < ((tx j.t).size : Int)) || decide ((6 : Int) < (j.ls.length : Int)) || decide ((10 : Int) < (j.f.l.length : Int)) || (decide ((300 : Int) < j.n 0) && decide (j.n 0 ≤ 100000))) = true
  · exact (light_out _ _ _ _ _ _ _ _ _ _ _ _ _ _ _ w rfl rfl rfl rfl rfl hs).mono fun e w' ⟨he, hb⟩ => ⟨false, he, fun h => (by cases h), hb⟩
  · simp only [Bool.or_eq_true, not_or, Bool.not_eq_true] at hs
    obtain ⟨⟨⟨s1, s2⟩, s3⟩, s4⟩ := hs
    refine (light_in _ _ _ _ _ _ _ _ _ _ j.ls _ _ w rfl h2 hz s1 s2 s3 rfl rfl s4).mono ?_
    rintro e w' ⟨b, he, hh, hb⟩
    refine ⟨b, he, fun h => ⟨?_, ?_, ?_, ?_, hh h⟩, hb⟩
    · rw [tx_size] at s1; simp only [decide_eq_false_iff_not] at s1; omega
    · simp only [decide_eq_false_iff_not] at s2; omega
    · simp only [decide_eq_false_iff_not] at s3; omega
    · simp only [Bool.and_eq_false_iff, decide_eq_false_iff_not] at s4; omega
end Go.Proofs.YtcjnhgafifkfeaaDoor
/- What the reference's comparison of two lists of texts answers, of a list twice, wherever it lies. -/
namespace Go.Proofs.YtcjnhgafifkfeaaDoor
open Go.RowKit
set_option linter.unusedVariables false

set_option maxHeartbeats 1000000 in
theorem texts_same_at {w : World} {a b : Option Addr} {ca cb : Nat} {ls : List (List UInt8)} (ha : TxA w a ca ls) (hb : TxA w b cb ls) (hl : ls.length ≤ 1000000) :
    Calls Tryd.prog 26 #[.slice a ls.length ca, .slice b ls.length cb] w fun e w' => e = .returned (.bool true) ∧ Below w.heap.size w w' := by
  have HA := Lib.hid ha; have HB := Lib.hid hb
  clear ha hb
  obtain ⟨m, hm⟩ : ∃ m, ls.length = m := ⟨_, rfl⟩
  have HM := Lib.hid hm
  rw [hm] at hl ⊢
  clear hm
  go_enter Tryd.func26, Tryd.ntmps26
  go_wp2
  go_loopw [5] (fun i wr => ∃ k : Nat, k ≤ m ∧ i = .int .i64 (k : Int) ∧ ∃ u : Later w, wr = u.now) (fun i _ => m - (intOf i).toNat)
  case atStart => exact ⟨0, by omega, by go_num, ⟨w, Below.refl _ _⟩, rfl⟩
  case round =>
    obtain ⟨k, hk, rfl, u, rfl⟩ := hrel
    by_cases hlt : k < m
    · obtain ⟨x, hx⟩ : ∃ x, ls[k]? = some x := ⟨ls[k]'(by rw [HM.out]; exact hlt), List.getElem?_eq_getElem _⟩
      obtain h | ⟨g1, o1, rfl, h1, _⟩ := HA.out
      · have := HM.out; rw [h] at this; simp at this; omega
      obtain h | ⟨g2, o2, rfl, h2, _⟩ := HB.out
      · have := HM.out; rw [h] at this; simp at this; omega
      have c1 := fun u : Later w => u.cell (h1 k x hx)
      have c2 := fun u : Later w => u.cell (h2 k x hx)
      generalize tx x = p at *
      have z0 : (0 : Int) ≤ (k : Int) := by omega
      have z1 : (k : Int) < (m : Int) := by omega
      clear h1 h2 hx
      go_wp2
      refine wp_region_later (by kernel_rfl) (by kernel_rfl) ?_
      repeat (go_big_quiet_step (fail))
      refine wpQuiet_nil ?_
      rintro _ ⟨u2, rfl⟩
      clear c1 c2
      go_wp2
      go_roundw
      case rel => exact ⟨k + 1, by omega, by go_num, u2, rfl⟩
      case measure => simp [intOf]; omega
    · have hk2 : m ≤ k := by omega
      go_wp2
      go_ret
      exact ⟨rfl, u.up⟩
end Go.Proofs.YtcjnhgafifkfeaaDoor
/- What slices.Equal at steps, scheme.Same and the document's own Same answer: for all schemes. -/
namespace Go.Proofs.YtcjnhgafifkfeaaDoor
open Go.RowKit
set_option linter.unusedVariables false

theorem run_neP (p q : Sp) (w : World) : (binOp .neq 57 (.agg #[.int .i64 p.d, .int .i64 p.n, .bool p.u]) (.agg #[.int .i64 q.d, .int .i64 q.n, .bool q.u])).run Tryd.prog w = .ok (.bool (!decide (p = q))) w := by
  obtain ⟨a, b, c⟩ := p
  obtain ⟨a', b', c'⟩ := q
  by_cases h0 : a = a' <;> by_cases h1 : b = b' <;> by_cases h2 : c = c'
  all_goals simp [go_sem, h0, h1, h2]

def EqRel (l1 l2 : List Sp) (F : Bool) (n : Nat) (w : World) (i : Value) (wr : World) : Prop :=
  ∃ k : Nat, k ≤ n ∧ i = .int .i64 (k : Int) ∧ Hid (decide (l1.drop k = l2.drop k) = F) ∧ ∃ u : Later w, wr = u.now
theorem eq_step {l1 l2 : List Sp} {k : Nat} {p q : Sp} (h1 : l1[k]? = some p) (h2 : l2[k]? = some q) : decide (l1.drop k = l2.drop k) = (decide (p = q) && decide (l1.drop (k + 1) = l2.drop (k + 1))) := by
  rw [drop_step h1, drop_step h2, Bool.eq_iff_iff]
  simp

theorem eqSc (s t : Sc) : decide (s = t) = ((s.c == t.c) && ((s.r == t.r) && decide (s.l = t.l))) := by
  obtain ⟨a, b, c⟩ := s
  obtain ⟨a', b', c'⟩ := t
  rw [Bool.eq_iff_iff]
  simp

def EqRel2 (l1 l2 : List Sp) (F : Bool) (n : Nat) (w : World) (i : Value) (wr : World) : Prop :=
  ∃ k : Nat, k ≤ n ∧ i = .int .i64 (k : Int) ∧ Hid (decide (l1.drop k = l2.drop k) = F) ∧ ∃ u : Later w, wr = u.now

set_option maxHeartbeats 1000000 in
theorem refSame_no (c r c' r' : Int) (a b : Option Addr) (n m k d : Nat) (w : World) (u1 u2 u3 : Bool) (e1 : (c != c') = u1) (e2 : (r != r') = u2) (e3 : ((n : Int) != (m : Int)) = u3) (h : u1 = true ∨ u2 = true ∨ u3 = true) :
    Calls Tryd.prog 25 #[.agg #[.int .i64 c, .int .i64 r, .slice a n k], .agg #[.int .i64 c', .int .i64 r', .slice b m d]] w fun e w' => e = .returned (.bool false) ∧ Below w.heap.size w w' := by
  cases u1
  · cases u2
    · obtain rfl : u3 = true := by simpa using h
      clear h
      go_enter Tryd.func25, Tryd.ntmps25
      go_wp2
      go_ret
      exact ⟨rfl, up_alloc (up_alloc (Below.refl _ _) _) _⟩
    · clear h e3
      go_enter Tryd.func25, Tryd.ntmps25
      go_wp2
      go_ret
      exact ⟨rfl, up_alloc (up_alloc (Below.refl _ _) _) _⟩
  · clear h e2 e3
    go_enter Tryd.func25, Tryd.ntmps25
    go_wp2
    go_ret
    exact ⟨rfl, up_alloc (up_alloc (Below.refl _ _) _) _⟩

set_option maxHeartbeats 2000000 in
theorem refSame_yes (c r : Int) (a b : Option Addr) (l1 l2 : List Sp) (n m d : Nat) (w : World) (hl : n ≤ 1000000) (hn1 : l1.length = n) (hn2 : l2.length = n) (h1 : InL w a l1) (h2 : InL w b l2) :
    Calls Tryd.prog 25 #[.agg #[.int .i64 c, .int .i64 r, .slice a n m], .agg #[.int .i64 c, .int .i64 r, .slice b n d]] w fun e w' => e = .returned (.bool (decide (l1 = l2))) ∧ Below w.heap.size w w' := by
  obtain ⟨F, hF⟩ : ∃ F, decide (l1 = l2) = F := ⟨_, rfl⟩
  rw [hF]
  have HF := Lib.hid hF; have H1 := Lib.hid h1; have H2 := Lib.hid h2; have N1 := Lib.hid hn1; have N2 := Lib.hid hn2
  clear hF h1 h2 hn1 hn2
  go_enter Tryd.func25, Tryd.ntmps25
  go_wp2
  have A0 := (Bx.new w 26 [.int .i64 c, .int .i64 r, .slice a n m]).alloc (.cells #[.int .i64 c, .int .i64 r, .slice b n d] 26)
  have A1 := Bx.new (w.alloc (.cells #[.int .i64 c, .int .i64 r, .slice a n m] 26)) 26 [.int .i64 c, .int .i64 r, .slice b n d]
  have B1 : Below w.heap.size w ((w.alloc (.cells #[.int .i64 c, .int .i64 r, .slice a n m] 26)).alloc (.cells #[.int .i64 c, .int .i64 r, .slice b n d] 26)) := up_alloc (up_alloc (Below.refl _ _) _) _
  simp only [World.size_alloc] at A1
  have x2 := A0.cell 2 rfl; have y2 := A1.cell 2 rfl
  have HB1 := Lib.hid B1
  clear A0 A1 B1
  generalize hw0 : ((w.alloc (.cells #[.int .i64 c, .int .i64 r, .slice a n m] 26)).alloc (.cells #[.int .i64 c, .int .i64 r, .slice b n d] 26)) = w0 at *
  clear hw0
  go_loopw [5] (fun i wr => EqRel2 l1 l2 F n w0 i wr) (fun i _ => n - (intOf i).toNat)
  case atStart => exact ⟨0, by omega, by go_num, HF.out, ⟨w0, Below.refl _ _⟩, rfl⟩
  case round =>
    obtain ⟨k, hk, rfl, HM, u, rfl⟩ := hrel
    have s2 := u.cell x2
    by_cases hlt : k < n
    · obtain ⟨p, hp⟩ : ∃ p, l1[k]? = some p := ⟨l1[k]'(by rw [N1.out]; exact hlt), List.getElem?_eq_getElem _⟩
      obtain ⟨q, hq⟩ : ∃ q, l2[k]? = some q := ⟨l2[k]'(by rw [N2.out]; exact hlt), List.getElem?_eq_getElem _⟩
      obtain ⟨b1, o1, rfl, hc1⟩ := H1.out.resolve_left (by rintro rfl; cases hp)
      obtain ⟨b2, o2, rfl, hc2⟩ := H2.out.resolve_left (by rintro rfl; cases hq)
      obtain ⟨p0, p1, p2⟩ := (hc1.up HB1.out) k p hp
      obtain ⟨q0, q1, q2⟩ := (hc2.up HB1.out) k q hq
      have j0 := fun u : Later w0 => u.cell p0
      have j1 := fun u : Later w0 => u.cell p1
      have j2 := fun u : Later w0 => u.cell p2
      have i0 := fun u : Later w0 => u.cell q0
      have i1 := fun u : Later w0 => u.cell q1
      have i2 := fun u : Later w0 => u.cell q2
      have g0 := fun u : Later w0 => u.cell x2
      have g1 := fun u : Later w0 => u.cell y2
      have hd := eq_step hp hq
      have hne := fun w => run_neP p q w
      have z0 : (0 : Int) ≤ (k : Int) := by omega
      have z1 : (k : Int) < (n : Int) := by omega
      have HH := Lib.hid HM.out
      rw [hd] at HH
      clear hc1 hc2 p0 p1 p2 q0 q1 q2 hp hq hd HM
      generalize decide (p = q) = e at *
      obtain ⟨pd, pn, pu⟩ := p
      obtain ⟨qd, qn, qu⟩ := q
      simp only at j0 j1 j2 i0 i1 i2 hne
      cases e
      · have E := Lib.hid (show F = false by rw [← HH.out]; rfl)
        clear HH
        simp only [Bool.not_false] at hne
        go_wp2
        refine wp_region_later (by kernel_rfl) (by kernel_rfl) ?_
        repeat (go_big_quiet_step (fail))
        refine wpQuiet_nil ?_
        rintro _ ⟨u2, rfl⟩
        clear j0 j1 j2 i0 i1 i2 g0 g1 hne
        go_wp2
        go_ret
        exact ⟨by rw [E.out]; rfl, up_trans HB1.out u2.up⟩
      · have E := Lib.hid (show decide (l1.drop (k + 1) = l2.drop (k + 1)) = F by rw [← HH.out]; simp)
        clear HH
        simp only [Bool.not_true] at hne
        go_wp2
        refine wp_region_later (by kernel_rfl) (by kernel_rfl) ?_
        repeat (go_big_quiet_step (fail))
        refine wpQuiet_nil ?_
        rintro _ ⟨u2, rfl⟩
        clear j0 j1 j2 i0 i1 i2 g0 g1 hne
        go_wp2
        go_roundw
        case rel => exact ⟨k + 1, by omega, by go_num, E, u2, rfl⟩
        case measure => simp [intOf]; omega
    · obtain rfl : k = n := by omega
      have E := Lib.hid (show F = true by rw [← HM.out, List.drop_of_length_le (by rw [N1.out]; omega), List.drop_of_length_le (by rw [N2.out]; omega)]; simp)
      clear HM
      go_wp2
      go_ret
      exact ⟨by rw [E.out]; rfl, up_trans HB1.out u.up⟩

theorem refSame_any (s t : Sc) (a b : Option Addr) (k d : Nat) (w : World) (hl : s.l.length ≤ 1000000) (h1 : InL w a s.l) (h2 : InL w b t.l) :
    Calls Tryd.prog 25 #[.agg #[.int .i64 s.c, .int .i64 s.r, .slice a s.l.length k], .agg #[.int .i64 t.c, .int .i64 t.r, .slice b t.l.length d]] w fun e w' => e = .returned (.bool (decide (s = t))) ∧ Below w.heap.size w w' := by
  by_cases h : s.c = t.c ∧ s.r = t.r ∧ s.l.length = t.l.length
  · obtain ⟨e1, e2, e3⟩ := h
    have hd : decide (s = t) = decide (s.l = t.l) := by rw [eqSc, e1, e2]; simp
    rw [hd, e1, e2, ← e3]
    exact refSame_yes _ _ a b s.l t.l _ k d w hl rfl e3.symm h1 h2
  · have hd : decide (s = t) = false := by
      rw [decide_eq_false_iff_not]
      rintro rfl
      exact h ⟨rfl, rfl, rfl⟩
    rw [hd]
    refine refSame_no s.c s.r t.c t.r a b _ _ k d w _ _ _ rfl rfl rfl ?_
    simp only [bne_iff_ne, ne_eq]
    omega
end Go.Proofs.YtcjnhgafifkfeaaDoor
/- A region that draws its order and holds calls which make memory: what only reads is taken ahead of each call, in an order that is handed over and checked. -/
namespace Go.Proofs.YtcjnhgafifkfeaaDoor
open Go.RowKit
set_option linter.unusedVariables false

/-- An operation that only hands on, reckons or reads: it yields a value, or none. -/
def takeable (o : Oper) : Bool := match o.op with
  | .move _ | .assign _ | .pick .. | .load .. | .fieldAddr .. | .indexAddr .. | .binOp .. | .unOp .. | .build .. | .field .. | .index ..  | .convert .. | .extract .. => true
  | _ => false
theorem value_of {P : Program} {m : Sem Value} {w w' : World} {n : Next} (h : (m >>= fun x => pure (Next.value x)).run P w = .ok n w') : ∃ u, n = .value u := by
  rw [Sem.run_bind] at h
  cases hm : m.run P w with
  | ok x w1 => rw [hm] at h; cases h; exact ⟨x, rfl⟩
  | halt x w1 => rw [hm] at h; cases h
theorem bool_of {P : Program} {m : Sem Bool} {x y : Value} {w w' : World} {n : Next} (h : (m >>= fun b => pure (Next.value (if b = true then x else y))).run P w = .ok n w') : ∃ u, n = .value u := by
  rw [Sem.run_bind] at h
  cases hm : m.run P w with
  | ok b w1 => rw [hm] at h; cases h; exact ⟨_, rfl⟩
  | halt b w1 => rw [hm] at h; cases h
theorem takeable_value {P : Program} {o : Oper} {ρ : Operand → Value} {w w' : World} {n : Next} (ht : takeable o = true) (h : (execOp ρ o).run P w = .ok n w') : ∃ u, n = .value u := by
  unfold takeable at ht
  unfold execOp at h
  split at ht
  all_goals first
    | exact absurd ht (by decide)
    | (rename_i e; rw [e] at h; exact value_of h)
    | (rename_i e; rw [e] at h; cases h; exact ⟨_, rfl⟩)
    | (rename_i e; rw [e] at h; exact bool_of h)

def takesB (ops : Array Oper) : Array Bool → List Nat → Option (Array Bool)
  | s, [] => some s
  | s, i :: r => if (Region.ready .any ops s).contains i && Region.free .any ops s i && (ops[i]?.map takeable).getD false then takesB ops (s.setIfInBounds i true) r else none
def planB (ops : Array Oper) : Array Bool → List (List Nat × Nat) → List Nat → Bool
  | s, [], fin => match takesB ops s fin with
    | some s' => (Region.ready .any ops s').isEmpty
    | none => false
  | s, (is, c) :: r, fin => match takesB ops s is with
    | some s' => decide (Region.ready .any ops s' = [c]) && planB ops (s'.setIfInBounds c true) r fin
    | none => false
/-- The plan serves: what it takes may be taken, each call is all that may come up then. -/
def planOk (l : List Oper) (plan : List (List Nat × Nat)) (fin : List Nat) : Bool := Region.noSelect l.toArray && planB l.toArray (Array.replicate l.length false) plan fin

/-- Stands where there is no operation. -/
def noOper : Oper := { dst := none, op := .move (.tmp 0), type := 0, pos := "", after := #[], guard := none }
/-- The walk: of each part what is taken, quietly; then the call. -/
def walkC (P : Program) (l : List Oper) (Q : Exit → Act → World → Prop) (S : World → Prop) : List (List Nat × Nat) → List Nat → Act → World → Prop
  | [], fin, a, w => wpQuiet P l.toArray S (fun a' => Q .normal a' w) (fin.map fun i => l.getD i noOper) a
  | (is, c) :: r, fin, a, w => wpQuiet P l.toArray S (fun a' => ∀ o, l[c]? = some o → ∀ K : Act → World → Prop, Shut (∀ a w, S w → walkC P l Q S r fin a w → K a w) →
      if Region.wanted o (yielded l.toArray a'.tmps) = true then Oper.wp P o a' w K Q else K (a'.put o.dst undef) w) (is.map fun i => l.getD i noOper) a

section
variable {P : Program} {l : List Oper} {Q : Exit → Act → World → Prop} {S : World → Prop}
/-- A part of the walk: what is taken; then the call. -/
theorem walkC_take {is : List Nat} {c : Nat} {r : List (List Nat × Nat)} {fin : List Nat} {a : Act} {w : World} (oc : Oper) (hc : l[c]? = some oc)
    (h : ∀ K0 : Act → Prop, Shut (∀ a', (∀ K : Act → World → Prop, Shut (∀ a w, S w → walkC P l Q S r fin a w → K a w) → if Region.wanted oc (yielded l.toArray a'.tmps) = true then Oper.wp P oc a' w K Q else K (a'.put oc.dst undef) w) → K0 a') →
      wpQuiet P l.toArray S K0 (is.map fun i => l.getD i noOper) a) : walkC P l Q S ((is, c) :: r) fin a w := by
  refine h _ (fun a' h' o ho => ?_)
  rw [hc] at ho
  cases ho
  exact h'
/-- The last part. -/
theorem walkC_last {fin : List Nat} {a : Act} {w : World} (h : ∀ K0 : Act → Prop, Shut (∀ a', Q .normal a' w → K0 a') → wpQuiet P l.toArray S K0 (fin.map fun i => l.getD i noOper) a) : walkC P l Q S [] fin a w :=
  h _ (fun _ h => h)
theorem takes_list (hsel : Region.noSelect l.toArray = true) (hQ : ∀ c (a : Act) d v w, Q (.panic c) (a.put d v) w → Q (.panic c) a w) {w : World} (hS : S w) (fuel : Nat) :
    ∀ (is : List Nat) (s s' : Array Bool) (a : Act), takesB l.toArray s is = some s' → wpQuiet P l.toArray S (fun a' => wpAnyH P .any l.toArray Q S fuel s' a' w) (is.map fun i => l.getD i noOper) a → wpAnyH P .any l.toArray Q S (fuel + is.length) s a w
  | [], s, s', a, h, hq => by
    simp only [takesB, Option.some.injEq] at h
    subst h
    exact hq
  | i :: r, s, s', a, h, hq => by
    unfold takesB at h
    split at h
    · rename_i hc
      simp only [Bool.and_eq_true] at hc
      obtain ⟨⟨h1, h2⟩, h3⟩ := hc
      cases ho : l[i]? with
      | none => rw [show l.toArray[i]? = none by simpa using ho] at h3; cases h3
      | some o =>
        have ho' : l.toArray[i]? = some o := by simpa using ho
        rw [ho'] at h3
        simp only [Option.map_some, Option.getD_some] at h3
        rw [List.map_cons, List.getD_eq_getElem?_getD, ho, Option.getD_some] at hq
        have go : ∀ v, YieldsIf P l.toArray S o v a → wpQuiet P l.toArray S (fun a' => wpAnyH P .any l.toArray Q S fuel s' a' w) (r.map fun i => l.getD i noOper) (a.put o.dst v) → wpAnyH P .any l.toArray Q S (fuel + (i :: r).length) s a w := fun v hy hv =>
          wpAnyH_take ho' hsel h2 h1 (fun c a w h => hQ c a _ _ w h) hy hS (takes_list hsel hQ hS fuel r _ s' _ h hv)
        simp only [wpQuiet] at hq
        split at hq
        · rename_i hw
          obtain ⟨v, hv, hr⟩ := hq
          refine go v (.inl ⟨hw, fun w hw => ?_⟩) hr
          have := hv w hw
          unfold Oper.quietAt at this
          cases hrun : (execOp a.eval o).run P w with
          | ok n w' =>
            obtain ⟨u, rfl⟩ := takeable_value h3 hrun
            rw [hrun] at this
            simp only [Oper.quietUpon] at this
            rw [this.1, this.2]
          | halt x w' => rw [hrun] at this; exact this.elim
        · rename_i hw
          exact go undef (.inr ⟨by simpa using hw, rfl⟩) hq
    · cases h

theorem walkC_wp (hsel : Region.noSelect l.toArray = true) (hQ : ∀ c (a : Act) d v w, Q (.panic c) (a.put d v) w → Q (.panic c) a w) (fin : List Nat) :
    ∀ (plan : List (List Nat × Nat)) (s : Array Bool) (a : Act) (w : World), S w → planB l.toArray s plan fin = true → walkC P l Q S plan fin a w → ∀ fuel, wpAnyH P .any l.toArray Q S ((plan.map fun x => x.1.length + 1).sum + fin.length + fuel) s a w
  | [], s, a, w, hS, hB, h, fuel => by
    simp only [planB] at hB
    split at hB
    · rename_i s' hs
      have hr : Region.ready .any l.toArray s' = [] := by simpa using hB
      have H : ∀ (m : List Oper) (a : Act), wpQuiet P l.toArray S (fun a' => Q .normal a' w) m a → wpQuiet P l.toArray S (fun a' => wpAnyH P .any l.toArray Q S fuel s' a' w) m a := by
        intro m
        induction m with
        | nil => intro a h; exact wpAnyH_done hr h _
        | cons o m ih =>
          intro a h
          simp only [wpQuiet] at h ⊢
          split
          · rename_i hw
            rw [if_pos hw] at h
            obtain ⟨v, h1, h2⟩ := h
            exact ⟨v, h1, ih _ h2⟩
          · rename_i hw
            rw [if_neg hw] at h
            exact ih _ h
      have := takes_list hsel hQ hS fuel fin s s' a hs (H _ _ h)
      rwa [show ([] : List (List Nat × Nat)).map (fun x => x.1.length + 1) = [] from rfl, List.sum_nil, Nat.zero_add, Nat.add_comm]
    · cases hB
  | (is, c) :: r, s, a, w, hS, hB, h, fuel => by
    simp only [planB] at hB
    split at hB
    · rename_i s' hs
      simp only [Bool.and_eq_true, decide_eq_true_eq] at hB
      obtain ⟨hr, hB⟩ := hB
      have hmem : c ∈ Region.ready .any l.toArray s' := by rw [hr]; simp
      obtain ⟨-, o, ho, -⟩ := mem_ready.1 hmem
      have ho' : l[c]? = some o := by simpa using ho
      have H : ∀ (m : List Oper) (a : Act), wpQuiet P l.toArray S (fun a' => ∀ o, l[c]? = some o → ∀ K : Act → World → Prop, Shut (∀ a w, S w → walkC P l Q S r fin a w → K a w) →
          if Region.wanted o (yielded l.toArray a'.tmps) = true then Oper.wp P o a' w K Q else K (a'.put o.dst undef) w) m a → wpQuiet P l.toArray S (fun a' => wpAnyH P .any l.toArray Q S ((r.map fun x => x.1.length + 1).sum + fin.length + fuel + 1) s' a' w) m a := by
        intro m
        induction m with
        | nil =>
          intro a h
          refine wpAnyH_ready hr (by simp) (AllReadyH.cons ho (fun K hK => h o ho' K (fun a w hS hW => hK a w hS (fun hS => walkC_wp hsel hQ fin r _ a w hS hB hW fuel))) AllReadyH.nil)
        | cons o m ih =>
          intro a h
          simp only [wpQuiet] at h ⊢
          split
          · rename_i hw
            rw [if_pos hw] at h
            obtain ⟨v, h1, h2⟩ := h
            exact ⟨v, h1, ih _ h2⟩
          · rename_i hw
            rw [if_neg hw] at h
            exact ih _ h
      have := takes_list hsel hQ hS _ is s s' a hs (H _ _ h)
      rw [List.map_cons, List.sum_cons]
      rwa [show is.length + 1 + (r.map fun x => x.1.length + 1).sum + fin.length + fuel = (r.map fun x => x.1.length + 1).sum + fin.length + fuel + 1 + is.length by omega]
    · cases hB
end

/-- The region; what stands in later worlds of w stands all along. -/
theorem wp_region_calls {P : Program} {id : Nat} {Q : Exit → Act → World → Prop} {a : Act} {w : World} {l : List Oper} (plan : List (List Nat × Nat)) (fin : List Nat) (hm : P.follows .mixedOrders = true) (hB : planOk l plan fin = true)
    (hn : l.length = (plan.map fun x => x.1.length + 1).sum + fin.length) (hQ : ∀ c (a : Act) d v w, Q (.panic c) (a.put d v) w → Q (.panic c) a w)
    (h : walkC P l Q (fun w' => ∃ u : Later w, w' = u.now) plan fin a w.drew) : (Code.region id l.toArray true).wp P Q a w := by
  simp only [planOk, Bool.and_eq_true] at hB
  have hS : (fun w' => ∃ u : Later w, w' = u.now) w.drew := ⟨⟨_, up_drew (Below.refl _ _)⟩, rfl⟩
  refine wp_region_held_drew (S := fun w' => ∃ u : Later w, w' = u.now) hm hS fun _ => ?_
  have := walkC_wp (S := fun w' => ∃ u : Later w, w' = u.now) hB.1 hQ fin plan _ a w.drew hS hB.2 h 0
  rw [Nat.add_zero, ← hn] at this
  simpa using this
end Go.Proofs.YtcjnhgafifkfeaaDoor
/- What the reference's comparison of two jobs answers, of a job twice, wherever its lists lie. -/
namespace Go.Proofs.YtcjnhgafifkfeaaDoor
open Go.RowKit
set_option linter.unusedVariables false
set_option linter.unusedSimpArgs false

theorem nums_of {w : World} {g : Nat} {l : List Int} (h : Bx w g (enc l)) : Nums w (some ⟨g, 0, none⟩) l := .inr ⟨g, 0, rfl, fun j x hx => by
  rw [Nat.zero_add]
  exact h.1 j _ (by unfold enc; rw [List.getElem?_map, hx]; rfl)⟩

set_option maxRecDepth 100000 in
set_option maxHeartbeats 4000000 in
theorem jobSame_core (T : ByteArray) (n : Nat → Int) (c r : Int) (a1 a2 b1 b2 : Option Addr) (x d1 d2 y e1 e2 : Nat) (w : World)
    (KF : ∀ u, Below w.heap.size w u → Calls Tryd.prog 25 #[.agg #[.int .i64 c, .int .i64 r, .slice a1 x d1], .agg #[.int .i64 c, .int .i64 r, .slice a2 x d2]] u fun e w' => e = .returned (.bool true) ∧ Below u.heap.size u w')
    (KT : ∀ u, Below w.heap.size w u → Calls Tryd.prog 26 #[.slice b1 y e1, .slice b2 y e2] u fun e w' => e = .returned (.bool true) ∧ Below u.heap.size u w') :
    Calls Tryd.prog 12 #[.agg (jobL T n c r (.slice a1 x d1) (.slice b1 y e1)).toArray, .agg (jobL T n c r (.slice a2 x d2) (.slice b2 y e2)).toArray] w fun e w' => e = .returned (.bool true) ∧ Below w.heap.size w w' := by
  obtain ⟨cs, hcs⟩ : ∃ cs, jobL T n c r (.slice a1 x d1) (.slice b1 y e1) = cs := ⟨_, rfl⟩
  obtain ⟨ds, hds⟩ : ∃ ds, jobL T n c r (.slice a2 x d2) (.slice b2 y e2) = ds := ⟨_, rfl⟩
  have hlc : cs.length = 33 := by rw [← hcs]; rfl
  have hld : ds.length = 33 := by rw [← hds]; rfl
  have HA := Lib.hid (fun w1 => refAll_any cs n w1 (fun k hk => by rw [← hcs]; exact job_at _ _ _ _ _ _ hk))
  have HD := Lib.hid (fun w1 => refAll_any ds n w1 (fun k hk => by rw [← hds]; exact job_at _ _ _ _ _ _ hk))
  have HF := Lib.hid KF; have HT := Lib.hid KT
  have X1 := (Bx.new w 29 cs).later (by rw [hlc]; decide) (up_alloc (Below.refl _ _) (.cells ds.toArray 29))
  have X2 := Bx.new (w.alloc (.cells cs.toArray 29)) 29 ds
  have B0 := up_alloc (up_alloc (Below.refl w.heap.size w) (.cells cs.toArray 29)) (.cells ds.toArray 29)
  rw [World.size_alloc] at X2
  have HC := Lib.hid hcs; have HE := Lib.hid hds; have HLC := Lib.hid hlc; have HLD := Lib.hid hld
  rw [hcs, hds]
  clear KF KT hcs hds hlc hld
  have X1 := Lib.hid X1; have X2 := Lib.hid X2; have B0 := Lib.hid B0
  go_enter Tryd.func12, Tryd.ntmps12
  go_wp2
  obtain ⟨w0, hw0⟩ : ∃ w0, (w.alloc (.cells cs.toArray 29)).alloc (.cells ds.toArray 29) = w0 := ⟨_, rfl⟩
  rw [hw0] at X1 X2 B0 ⊢
  clear hw0
  refine wp_region_calls [([0, 1, 2, 3, 4, 5, 6, 8], 7), ([], 9), ([], 10), ([11, 12, 13, 14, 15, 16], 17), ([18, 19, 20, 21, 22, 23], 24)] [25, 26] (by kernel_rfl) (by kernel_rfl) rfl (fun _ _ d _ _ h => by cases d <;> exact h) ?_
  refine walkC_take _ rfl (fun K0 hK0 => ?_)
  simp only [List.map_cons, List.map_nil, List.getD_cons_zero, List.getD_cons_succ]
  have t1 := fun u : Later w0 => u.cell (X1.out.cell 0 (by rw [← HC.out]; rfl))
  have t2 := fun u : Later w0 => u.cell (X2.out.cell 0 (by rw [← HE.out]; rfl))
  have R1 := Lib.hid (later_range X1.out (by rw [HLC.out]; decide))
  have R2 := Lib.hid (later_range X2.out (by rw [HLD.out]; decide))
  repeat (first
    | (go_big_quiet_want; refine quiet_load_job _ rfl w.heap.size rfl cs HLC.out R1.out ?_; simp only [Act.put, List.setIfInBounds_toArray, List.set_cons_succ, List.set_cons_zero]; go_big_quiet_on)
    | (go_big_quiet_want; refine quiet_load_job _ rfl (w.heap.size + 1) rfl ds HLD.out R2.out ?_; simp only [Act.put, List.setIfInBounds_toArray, List.set_cons_succ, List.set_cons_zero]; go_big_quiet_on)
    | go_big_quiet_step (fail))
  refine wpQuiet_nil (hK0.out _ (fun K hK => ?_))
  go_simp
  refine (HA.out _).mono ?_
  rintro e w1 ⟨g1, rfl, -, N1, hb⟩
  have C1 := Lib.hid (up_trans (up_drew (Below.refl _ w0)) hb)
  refine hK.out _ _ ⟨⟨w1, C1.out⟩, rfl⟩ ?_
  clear hK K hK0 K0 hb
  try simp only [List.setIfInBounds_toArray, List.set_cons_zero, List.set_cons_succ]
  refine walkC_take _ rfl (fun K0 hK0 => ?_)
  simp only [List.map_cons, List.map_nil, List.getD_cons_zero, List.getD_cons_succ]
  refine wpQuiet_nil (hK0.out _ (fun K hK => ?_))
  go_simp
  refine (HD.out _).mono ?_
  rintro e w2 ⟨g2, rfl, -, N2, hb⟩
  have C2 := Lib.hid (up_trans C1.out hb)
  have M1 := N1.later (by rw [enc_length, numsL_length]; decide) hb
  refine hK.out _ _ ⟨⟨w2, C2.out⟩, rfl⟩ ?_
  clear hK K hK0 K0 hb
  try simp only [List.setIfInBounds_toArray, List.set_cons_zero, List.set_cons_succ]
  have KI := ints_same (l := numsL n) 28 28 (nums_of M1) (nums_of N2) (by rw [numsL_length]; decide)
  rw [numsL_length] at KI
  refine walkC_take _ rfl (fun K0 hK0 => ?_)
  simp only [List.map_cons, List.map_nil, List.getD_cons_zero, List.getD_cons_succ]
  refine wpQuiet_nil (hK0.out _ (fun K hK => ?_))
  go_simp
  refine (KI).mono ?_
  rintro e w3 ⟨rfl, hb⟩
  have C3 := Lib.hid (up_trans C2.out hb)
  refine hK.out _ _ ⟨⟨w3, C3.out⟩, rfl⟩ ?_
  clear hK K hK0 K0 hb
  try simp only [List.setIfInBounds_toArray, List.set_cons_zero, List.set_cons_succ]
  have p1 := fun u : Later w0 => u.cell (X1.out.cell 12 (by rw [← HC.out]; rfl)); have p2 := fun u : Later w0 => u.cell (X1.out.cell 13 (by rw [← HC.out]; rfl)); have p3 := fun u : Later w0 => u.cell (X1.out.cell 14 (by rw [← HC.out]; rfl)); have p4 := fun u : Later w0 => u.cell (X1.out.cell 15 (by rw [← HC.out]; rfl))
  have q1 := fun u : Later w0 => u.cell (X2.out.cell 12 (by rw [← HE.out]; rfl)); have q2 := fun u : Later w0 => u.cell (X2.out.cell 13 (by rw [← HE.out]; rfl)); have q3 := fun u : Later w0 => u.cell (X2.out.cell 14 (by rw [← HE.out]; rfl)); have q4 := fun u : Later w0 => u.cell (X2.out.cell 15 (by rw [← HE.out]; rfl))
  clear t1 t2 N1 N2 M1 KI
  refine walkC_take _ rfl (fun K0 hK0 => ?_)
  simp only [List.map_cons, List.map_nil, List.getD_cons_zero, List.getD_cons_succ]
  repeat (go_big_quiet_step (fail))
  refine wpQuiet_nil (hK0.out _ (fun K hK => ?_))
  go_simp
  refine (HF.out _ (up_trans B0.out C3.out)).mono ?_
  rintro e w4 ⟨rfl, hb⟩
  have C4 := Lib.hid (up_trans C3.out hb)
  refine hK.out _ _ ⟨⟨w4, C4.out⟩, rfl⟩ ?_
  clear hK K hK0 K0 hb
  try simp only [List.setIfInBounds_toArray, List.set_cons_zero, List.set_cons_succ]
  refine walkC_take _ rfl (fun K0 hK0 => ?_)
  simp only [List.map_cons, List.map_nil, List.getD_cons_zero, List.getD_cons_succ]
  repeat (go_big_quiet_step (fail))
  refine wpQuiet_nil (hK0.out _ (fun K hK => ?_))
  go_simp
  refine (HT.out _ (up_trans B0.out C4.out)).mono ?_
  rintro e w5 ⟨rfl, hb⟩
  have C5 := Lib.hid (up_trans C4.out hb)
  refine hK.out _ _ ⟨⟨w5, C5.out⟩, rfl⟩ ?_
  clear hK K hK0 K0 hb
  try simp only [List.setIfInBounds_toArray, List.set_cons_zero, List.set_cons_succ]
  refine walkC_last (fun K0 hK0 => ?_)
  simp only [List.map_cons, List.map_nil, List.getD_cons_zero, List.getD_cons_succ]
  repeat (go_big_quiet_step (fail))
  refine wpQuiet_nil (hK0.out _ ?_)
  clear hK0 K0 p1 p2 p3 p4 q1 q2 q3 q4
  go_wp2
  go_ret
  exact ⟨rfl, up_trans B0.out C5.out⟩

/-- Of a job twice, Same answers true. -/
theorem jobSame_any (cs ds : List Value) (j : Jb) (w : World) (h1 : JobA w cs j) (h2 : JobA w ds j) (hl : j.f.l.length ≤ 1000000) (hls : j.ls.length ≤ 1000000) :
    Calls Tryd.prog 12 #[.agg cs.toArray, .agg ds.toArray] w fun e w' => e = .returned (.bool true) ∧ Below w.heap.size w w' := by
  obtain ⟨a1, d1, b1, e1, rfl, hs1, ht1⟩ := h1
  obtain ⟨a2, d2, b2, e2, rfl, hs2, ht2⟩ := h2
  refine jobSame_core (tx j.t) j.n j.f.c j.f.r a1 a2 b1 b2 _ d1 d2 _ e1 e2 w (fun u hu => ?_) (fun u hu => texts_same_at (ht1.up hu) (ht2.up hu) hls)
  have := refSame_any j.f j.f a1 a2 d1 d2 u hl (hs1.up hu) (hs2.up hu)
  rwa [decide_eq_true rfl] at this
end Go.Proofs.YtcjnhgafifkfeaaDoor
/- The walk of CallOrder, where what a call makes is read in the same region: behind each call all that stands then stands on. -/
namespace Go.Proofs.YtcjnhgafifkfeaaDoor
open Go.RowKit
set_option linter.unusedVariables false

/-- The later worlds of w. -/
def LaterC (w : World) : World → Prop := fun w' => ∃ u : Later w, w' = u.now
theorem laterC_refl (w : World) : LaterC w w := ⟨⟨w, Below.refl _ _⟩, rfl⟩
theorem laterC_trans {w w1 w2 : World} (h : LaterC w w1) (k : LaterC w1 w2) : LaterC w w2 := by
  obtain ⟨u, rfl⟩ := h
  obtain ⟨v, rfl⟩ := k
  exact ⟨⟨_, up_trans u.up v.up⟩, rfl⟩
theorem laterC_of {w w1 : World} (h : Below w.heap.size w w1) : LaterC w w1 := ⟨⟨w1, h⟩, rfl⟩

theorem wpAnyH_mono {P : Program} {md : Region.Mode} {ops : Array Oper} {Q : Exit → Act → World → Prop} {S S' : World → Prop} (hs : ∀ w, S' w → S w) : ∀ (fuel : Nat) (listed : Array Bool) (a : Act) (w : World), wpAnyH P md ops Q S' fuel listed a w → wpAnyH P md ops Q S fuel listed a w
  | 0, _, _, _, h => h
  | fuel + 1, _, _, _, h => ⟨h.1, fun i hi => wpOp_mono (fun a' w' h' => ⟨hs _ h'.1, wpAnyH_mono hs fuel _ a' w' h'.2⟩) (h.2 i hi)⟩

def walkL (P : Program) (l : List Oper) (Q : Exit → Act → World → Prop) : List (List Nat × Nat) → List Nat → Act → World → Prop
  | [], fin, a, w => wpQuiet P l.toArray (LaterC w) (fun a' => Q .normal a' w) (fin.map fun i => l.getD i noOper) a
  | (is, c) :: r, fin, a, w => wpQuiet P l.toArray (LaterC w) (fun a' => ∀ o, l[c]? = some o → ∀ K : Act → World → Prop, Shut (∀ a w1, LaterC w w1 → walkL P l Q r fin a w1 → K a w1) →
      if Region.wanted o (yielded l.toArray a'.tmps) = true then Oper.wp P o a' w K Q else K (a'.put o.dst undef) w) (is.map fun i => l.getD i noOper) a

section
variable {P : Program} {l : List Oper} {Q : Exit → Act → World → Prop}
theorem wpQuiet_mono {ops : Array Oper} {C : World → Prop} {Q1 Q2 : Act → Prop} (h : ∀ a, Q1 a → Q2 a) : ∀ (m : List Oper) (a : Act), wpQuiet P ops C Q1 m a → wpQuiet P ops C Q2 m a
  | [], a, hq => h a hq
  | o :: m, a, hq => by
    simp only [wpQuiet] at hq ⊢
    split
    · rename_i hw
      rw [if_pos hw] at hq
      obtain ⟨v, h1, h2⟩ := hq
      exact ⟨v, h1, wpQuiet_mono h m _ h2⟩
    · rename_i hw
      rw [if_neg hw] at hq
      exact wpQuiet_mono h m _ hq

theorem walkL_take {is : List Nat} {c : Nat} {r : List (List Nat × Nat)} {fin : List Nat} {a : Act} {w : World} (oc : Oper) (hc : l[c]? = some oc)
    (h : ∀ K0 : Act → Prop, Shut (∀ a', (∀ K : Act → World → Prop, Shut (∀ a w1, LaterC w w1 → walkL P l Q r fin a w1 → K a w1) → if Region.wanted oc (yielded l.toArray a'.tmps) = true then Oper.wp P oc a' w K Q else K (a'.put oc.dst undef) w) → K0 a') →
      wpQuiet P l.toArray (fun w' => ∃ u : Later w, w' = u.now) K0 (is.map fun i => l.getD i noOper) a) : walkL P l Q ((is, c) :: r) fin a w := by
  refine h _ (fun a' h' o ho => ?_)
  rw [hc] at ho
  cases ho
  exact h'
theorem walkL_last {fin : List Nat} {a : Act} {w : World} (h : ∀ K0 : Act → Prop, Shut (∀ a', Q .normal a' w → K0 a') → wpQuiet P l.toArray (fun w' => ∃ u : Later w, w' = u.now) K0 (fin.map fun i => l.getD i noOper) a) : walkL P l Q [] fin a w :=
  h _ (fun _ h => h)

theorem walkL_wp (hsel : Region.noSelect l.toArray = true) (hQ : ∀ c (a : Act) d v w, Q (.panic c) (a.put d v) w → Q (.panic c) a w) (fin : List Nat) :
    ∀ (plan : List (List Nat × Nat)) (s : Array Bool) (a : Act) (w : World), planB l.toArray s plan fin = true → walkL P l Q plan fin a w → ∀ fuel, wpAnyH P .any l.toArray Q (LaterC w) ((plan.map fun x => x.1.length + 1).sum + fin.length + fuel) s a w
  | [], s, a, w, hB, h, fuel => by
    simp only [planB] at hB
    split at hB
    · rename_i s' hs
      have hr : Region.ready .any l.toArray s' = [] := by simpa using hB
      have := takes_list (S := LaterC w) hsel hQ (laterC_refl w) fuel fin s s' a hs (wpQuiet_mono (fun a h => wpAnyH_done hr h _) _ _ h)
      rwa [show ([] : List (List Nat × Nat)).map (fun x => x.1.length + 1) = [] from rfl, List.sum_nil, Nat.zero_add, Nat.add_comm]
    · cases hB
  | (is, c) :: r, s, a, w, hB, h, fuel => by
    simp only [planB] at hB
    split at hB
    · rename_i s' hs
      simp only [Bool.and_eq_true, decide_eq_true_eq] at hB
      obtain ⟨hr, hB⟩ := hB
      have hmem : c ∈ Region.ready .any l.toArray s' := by rw [hr]; simp
      obtain ⟨-, o, ho, -⟩ := mem_ready.1 hmem
      have ho' : l[c]? = some o := by simpa using ho
      have := takes_list (S := LaterC w) hsel hQ (laterC_refl w) ((r.map fun x => x.1.length + 1).sum + fin.length + fuel + 1) is s s' a hs (wpQuiet_mono (fun a h =>
        wpAnyH_ready hr (by simp) (AllReadyH.cons ho (fun K hK => h o ho' K (fun a w1 hS hW => hK a w1 hS (fun _ => wpAnyH_mono (fun w2 h2 => laterC_trans hS h2) _ _ _ _ (walkL_wp hsel hQ fin r _ a w1 hB hW fuel)))) AllReadyH.nil)) _ _ h)
      rw [List.map_cons, List.sum_cons]
      rwa [show is.length + 1 + (r.map fun x => x.1.length + 1).sum + fin.length + fuel = (r.map fun x => x.1.length + 1).sum + fin.length + fuel + 1 + is.length by omega]
    · cases hB

/-- The region. -/
theorem wp_region_laters {id : Nat} {a : Act} {w : World} (plan : List (List Nat × Nat)) (fin : List Nat) (hm : P.follows .mixedOrders = true) (hB : planOk l plan fin = true)
    (hn : l.length = (plan.map fun x => x.1.length + 1).sum + fin.length) (hQ : ∀ c (a : Act) d v w, Q (.panic c) (a.put d v) w → Q (.panic c) a w)
    (h : walkL P l Q plan fin a w.drew) : (Code.region id l.toArray true).wp P Q a w := by
  simp only [planOk, Bool.and_eq_true] at hB
  refine wp_region_held_drew (S := LaterC w.drew) hm (laterC_refl _) fun _ => ?_
  have := walkL_wp hB.1 hQ fin plan _ a w.drew hB.2 h 0
  rw [Nat.add_zero, ← hn] at this
  simpa using this
end
end Go.Proofs.YtcjnhgafifkfeaaDoor
