/- The law BoxSplits answers true for every rectangle, either way and every number: a rectangle is cut in two, or stays whole; no condition. -/
import Derived.Test.YtgfbgmkooflhbaaBoxAlive
import Derived.Test.YtgfbgmkooflhbaaBoxCells
namespace Go.Proofs.Ytgfbgmkooflhbaa
open Go.RowKit
set_option linter.unusedVariables false

theorem one_rect (w w1 : World) (t1 : TypeId) {a0 a1 a2 a3 : Int} (hb : Below (w.alloc (.cells #[.int .i64 a0, .int .i64 a1, .int .i64 a2, .int .i64 a3] t1)).heap.size (w.alloc (.cells #[.int .i64 a0, .int .i64 a1, .int .i64 a2, .int .i64 a3] t1)) w1) :
    C4 w1 w.heap.size a0 a1 a2 a3 ∧ Below w.heap.size w w1 := ⟨(C4.new w t1 a0 a1 a2 a3).up hb, up_trans (up_alloc (Below.refl _ _) _) hb⟩
theorem split_none (a0 a1 a2 a3 : Int) (up : Bool) (n : Int) (h : emp4 a0 a1 a2 a3 = true) : splitR a0 a1 a2 a3 up n = [] := by unfold splitR; rw [if_pos h]
/-- The law's two ends: the lower, and the upper one. -/
def lows (a0 a1 : Int) (up : Bool) : Int := match up with | true => a0 | false => a1
theorem split_whole (a0 a1 a2 a3 : Int) (up : Bool) (n : Int) (h : emp4 a0 a1 a2 a3 = false) (hn : n ≤ lows a0 a1 up ∨ lows a2 a3 up ≤ n) : splitR a0 a1 a2 a3 up n = [⟨a0, a1, a2, a3⟩] := by
  unfold splitR
  rw [if_neg (by rw [h]; decide)]
  cases up
  · simp only [lows] at hn
    simp only
    rw [if_pos]
    simp [emp4]
    omega
  · simp only [lows] at hn
    simp only
    rw [if_pos]
    simp [emp4]
    omega
theorem split_two (a0 a1 a2 a3 : Int) (n : Int) (h : emp4 a0 a1 a2 a3 = false) (h0 : a0 < n) (h1 : n < a2) : splitR a0 a1 a2 a3 true n = [⟨a0, a1, n, a3⟩, ⟨n, a1, a2, a3⟩] := by
  have h' : ¬ (a2 ≤ a0) ∧ ¬ (a3 ≤ a1) := by simpa [emp4, -Int.not_le] using h
  unfold splitR
  rw [if_neg (by rw [h]; decide)]
  simp only
  rw [if_neg]
  simp [emp4]
  omega
theorem split_twos (a0 a1 a2 a3 : Int) (n : Int) (h : emp4 a0 a1 a2 a3 = false) (h0 : a1 < n) (h1 : n < a3) : splitR a0 a1 a2 a3 false n = [⟨a0, a1, a2, n⟩, ⟨a0, n, a2, a3⟩] := by
  have h' : ¬ (a2 ≤ a0) ∧ ¬ (a3 ≤ a1) := by simpa [emp4, -Int.not_le] using h
  unfold splitR
  rw [if_neg (by rw [h]; decide)]
  simp only
  rw [if_neg]
  simp [emp4]
  omega

set_option maxHeartbeats 1000000 in
theorem splits_none (a0 a1 a2 a3 : Int) (up : Bool) (n : Int) (w : World) (h : emp4 a0 a1 a2 a3 = true) :
    Calls Try.prog 6 #[.agg #[.int .i64 a0, .int .i64 a1, .int .i64 a2, .int .i64 a3], .bool up, .int .i64 n] w fun e w' => e = .returned (.bool true) ∧ Below w.heap.size w w' := by
  have KS := fun w => split_any a0 a1 a2 a3 up n w
  rw [split_none _ _ _ _ _ _ h] at KS
  have KE := fun w => refEmpty_b a0 a1 a2 a3 w
  rw [h] at KE
  have HS := Lib.hid KS; have HE := Lib.hid KE
  clear KS KE h
  go_enter Try.func6, Try.ntmps6
  go_wp2_with (go_at_call 8; refine (alive_any _).mono ?_; rintro e w1 ⟨rfl, hb⟩; obtain ⟨A, hb2⟩ := one_rect _ _ _ hb; have HU := Lib.hid hb2; clear hb hb2; obtain ⟨A0, A1, A2, A3⟩ := id A)
  clear A0 A1 A2 A3
  refine (HS.out _).mono ?_
  rintro e w2 ⟨v, rfl, hv, hb⟩
  obtain rfl : v = .slice none 0 0 := by
    rcases hv with ⟨_, h⟩ | ⟨g, h, _⟩
    · exact h
    · cases h
  have A := A.up hb
  have HB := Lib.hid (up_trans HU.out hb)
  clear hv hb HU
  have jA0 := fun u : Later w2 => u.cell A.1; have jA1 := fun u : Later w2 => u.cell A.2.1; have jA2 := fun u : Later w2 => u.cell A.2.2.1; have jA3 := fun u : Later w2 => u.cell A.2.2.2
  clear A
  refine later_start (w := w2) ?_
  intro u
  go_wp2_with fail
  refine wp_region_later (by kernel_rfl) (by kernel_rfl) ?_
  repeat (go_big_quiet_step (fail))
  refine wpQuiet_nil ?_
  rintro _ ⟨u, rfl⟩
  cases up
  · go_wp2_with (go_at_call 12; ((with_reducible refine (HE.out _).mono ?_); rintro e w' ⟨rfl, hb⟩; obtain ⟨u', rfl⟩ := Later.next hb; clear hb))
    go_ret
    exact ⟨rfl, up_trans HB.out u'.up⟩
  · go_wp2_with fail
    refine wp_region_later (by kernel_rfl) (by kernel_rfl) ?_
    repeat (go_big_quiet_step (fail))
    refine wpQuiet_nil ?_
    rintro _ ⟨u, rfl⟩
    go_wp2_with (go_at_call 12; ((with_reducible refine (HE.out _).mono ?_); rintro e w' ⟨rfl, hb⟩; obtain ⟨u', rfl⟩ := Later.next hb; clear hb))
    go_ret
    exact ⟨rfl, up_trans HB.out u'.up⟩

/-- Two new boxes, each a copy. -/
def TwoCopies (w1 : World) (a0 a1 a2 a3 : Int) (s7 s8 : Value) (wx : World) : Prop := ∃ g h : Nat, s7 = .pointer (some ⟨g, 0, none⟩) ∧ s8 = .pointer (some ⟨h, 0, none⟩) ∧ w1.heap.size ≤ g ∧ w1.heap.size ≤ h ∧ g ≠ h ∧ C4 wx g a0 a1 a2 a3 ∧ C4 wx h a0 a1 a2 a3 ∧
  (∀ i, wx.frozen? ⟨g, i, none⟩ = false) ∧ (∀ i, wx.frozen? ⟨h, i, none⟩ = false) ∧ Below w1.heap.size w1 wx
theorem hasR_some {w : World} {v : Value} {l : List Rc} (h : HasR w v l) (hl : 0 < l.length) : ∃ g, v = .slice (some ⟨g, 0, none⟩) l.length l.length ∧ ∀ i p, l[i]? = some p → w.cell? ⟨g, i * 4, none⟩ = some (.int .i64 p.x0) ∧ w.cell? ⟨g, i * 4 + 1, none⟩ = some (.int .i64 p.y0) ∧ w.cell? ⟨g, i * 4 + 2, none⟩ = some (.int .i64 p.x1) ∧ w.cell? ⟨g, i * 4 + 3, none⟩ = some (.int .i64 p.y1) := by
  rcases h with ⟨h, _⟩ | ⟨g, _, h, hc⟩
  · subst h; cases hl
  · exact ⟨g, h, hc⟩

set_option maxHeartbeats 1000000 in
theorem splits_whole_true (a0 a1 a2 a3 : Int) (n : Int) (w : World) (h : emp4 a0 a1 a2 a3 = false) (hn : n ≤ a0 ∨ a2 ≤ n) :
    Calls Try.prog 6 #[.agg #[.int .i64 a0, .int .i64 a1, .int .i64 a2, .int .i64 a3], .bool true, .int .i64 n] w fun e w' => e = .returned (.bool true) ∧ Below w.heap.size w w' := by
  have KS := fun w => split_any a0 a1 a2 a3 true n w
  rw [split_whole _ _ _ _ _ _ h hn] at KS
  have KE := fun w => refEmpty_b a0 a1 a2 a3 w
  rw [h] at KE
  have HS := Lib.hid KS; have HE := Lib.hid KE; have HH := Lib.hid hn
  clear KS KE h hn
  go_enter Try.func6, Try.ntmps6
  go_wp2_with (go_at_call 8; refine (alive_any _).mono ?_; rintro e w1 ⟨rfl, hb⟩; obtain ⟨A, hb2⟩ := one_rect _ _ _ hb; have HU := Lib.hid hb2; clear hb hb2; obtain ⟨A0, A1, A2, A3⟩ := id A)
  clear A0 A1 A2 A3
  refine (HS.out _).mono ?_
  rintro e w2 ⟨v, rfl, hv, hb⟩
  obtain ⟨g, rfl, hc⟩ := hasR_some hv (by simp)
  obtain ⟨g00, g01, g02, g03⟩ := hc 0 _ rfl
  simp only [Nat.zero_mul, Nat.zero_add] at g00 g01 g02 g03
  have A := A.up hb
  have HB := Lib.hid (up_trans HU.out hb)
  clear hv hb HU hc
  have jA0 := fun u : Later w2 => u.cell A.1; have jA1 := fun u : Later w2 => u.cell A.2.1; have jA2 := fun u : Later w2 => u.cell A.2.2.1; have jA3 := fun u : Later w2 => u.cell A.2.2.2
  have jg00 := fun u : Later w2 => u.cell g00; have jg01 := fun u : Later w2 => u.cell g01; have jg02 := fun u : Later w2 => u.cell g02; have jg03 := fun u : Later w2 => u.cell g03
  clear A g00 g01 g02 g03
  refine later_start (w := w2) ?_
  intro u
  go_wp2_with fail
  refine wp_region_later (by kernel_rfl) (by kernel_rfl) ?_
  repeat (go_big_quiet_step (fail))
  refine wpQuiet_nil ?_
  rintro _ ⟨u, rfl⟩
  go_wp2_with fail
  refine wp_region_later (by kernel_rfl) (by kernel_rfl) ?_
  repeat (go_big_quiet_step (fail))
  refine wpQuiet_nil ?_
  rintro _ ⟨u, rfl⟩
  have hn := HH.out
  clear HH
  by_cases d0 : n ≤ a0
  · clear hn
    have d1 : decide (n ≤ a0) = true := by simpa using d0
    go_wp2_with (go_at_call 12; ((with_reducible refine (HE.out _).mono ?_); rintro e w' ⟨rfl, hb⟩; obtain ⟨u', rfl⟩ := Later.next hb; clear hb))
    refine wp_region_later (by kernel_rfl) (by kernel_rfl) ?_
    repeat (go_big_quiet_step (fail))
    refine wpQuiet_nil ?_
    rintro _ ⟨u2, rfl⟩
    go_wp2
    go_ret
    exact ⟨rfl, up_trans HB.out u2.up⟩
  · have d2 : a2 ≤ n := by omega
    clear hn
    go_wp2_with (go_at_call 12; ((with_reducible refine (HE.out _).mono ?_); rintro e w' ⟨rfl, hb⟩; obtain ⟨u', rfl⟩ := Later.next hb; clear hb))
    refine wp_region_later (by kernel_rfl) (by kernel_rfl) ?_
    repeat (go_big_quiet_step (fail))
    refine wpQuiet_nil ?_
    rintro _ ⟨u2, rfl⟩
    go_wp2
    go_ret
    exact ⟨rfl, up_trans HB.out u2.up⟩

set_option maxHeartbeats 1000000 in
theorem splits_whole_false (a0 a1 a2 a3 : Int) (n : Int) (w : World) (h : emp4 a0 a1 a2 a3 = false) (hn : n ≤ a1 ∨ a3 ≤ n) :
    Calls Try.prog 6 #[.agg #[.int .i64 a0, .int .i64 a1, .int .i64 a2, .int .i64 a3], .bool false, .int .i64 n] w fun e w' => e = .returned (.bool true) ∧ Below w.heap.size w w' := by
  have KS := fun w => split_any a0 a1 a2 a3 false n w
  rw [split_whole _ _ _ _ _ _ h hn] at KS
  have KE := fun w => refEmpty_b a0 a1 a2 a3 w
  rw [h] at KE
  have HS := Lib.hid KS; have HE := Lib.hid KE; have HH := Lib.hid hn
  clear KS KE h hn
  go_enter Try.func6, Try.ntmps6
  go_wp2_with (go_at_call 8; refine (alive_any _).mono ?_; rintro e w1 ⟨rfl, hb⟩; obtain ⟨A, hb2⟩ := one_rect _ _ _ hb; have HU := Lib.hid hb2; clear hb hb2; obtain ⟨A0, A1, A2, A3⟩ := id A)
  clear A0 A1 A2 A3
  refine (HS.out _).mono ?_
  rintro e w2 ⟨v, rfl, hv, hb⟩
  obtain ⟨g, rfl, hc⟩ := hasR_some hv (by simp)
  obtain ⟨g00, g01, g02, g03⟩ := hc 0 _ rfl
  simp only [Nat.zero_mul, Nat.zero_add] at g00 g01 g02 g03
  have A := A.up hb
  have HB := Lib.hid (up_trans HU.out hb)
  clear hv hb HU hc
  have jA0 := fun u : Later w2 => u.cell A.1; have jA1 := fun u : Later w2 => u.cell A.2.1; have jA2 := fun u : Later w2 => u.cell A.2.2.1; have jA3 := fun u : Later w2 => u.cell A.2.2.2
  have jg00 := fun u : Later w2 => u.cell g00; have jg01 := fun u : Later w2 => u.cell g01; have jg02 := fun u : Later w2 => u.cell g02; have jg03 := fun u : Later w2 => u.cell g03
  clear A g00 g01 g02 g03
  refine later_start (w := w2) ?_
  intro u
  go_wp2_with fail
  refine wp_region_later (by kernel_rfl) (by kernel_rfl) ?_
  repeat (go_big_quiet_step (fail))
  refine wpQuiet_nil ?_
  rintro _ ⟨u, rfl⟩
  have hn := HH.out
  clear HH
  by_cases d0 : n ≤ a1
  · clear hn
    have d1 : decide (n ≤ a1) = true := by simpa using d0
    go_wp2_with (go_at_call 12; ((with_reducible refine (HE.out _).mono ?_); rintro e w' ⟨rfl, hb⟩; obtain ⟨u', rfl⟩ := Later.next hb; clear hb))
    refine wp_region_later (by kernel_rfl) (by kernel_rfl) ?_
    repeat (go_big_quiet_step (fail))
    refine wpQuiet_nil ?_
    rintro _ ⟨u2, rfl⟩
    go_wp2
    go_ret
    exact ⟨rfl, up_trans HB.out u2.up⟩
  · have d2 : a3 ≤ n := by omega
    clear hn
    go_wp2_with (go_at_call 12; ((with_reducible refine (HE.out _).mono ?_); rintro e w' ⟨rfl, hb⟩; obtain ⟨u', rfl⟩ := Later.next hb; clear hb))
    refine wp_region_later (by kernel_rfl) (by kernel_rfl) ?_
    repeat (go_big_quiet_step (fail))
    refine wpQuiet_nil ?_
    rintro _ ⟨u2, rfl⟩
    go_wp2
    go_ret
    exact ⟨rfl, up_trans HB.out u2.up⟩

set_option maxHeartbeats 2000000 in
theorem splits_two_true (a0 a1 a2 a3 : Int) (n : Int) (w : World) (h : emp4 a0 a1 a2 a3 = false) (h0 : a0 < n) (h1 : n < a2) :
    Calls Try.prog 6 #[.agg #[.int .i64 a0, .int .i64 a1, .int .i64 a2, .int .i64 a3], .bool true, .int .i64 n] w fun e w' => e = .returned (.bool true) ∧ Below w.heap.size w w' := by
  have KS := fun w => split_any a0 a1 a2 a3 true n w
  rw [split_two _ _ _ _ _ h h0 h1] at KS
  have KE := fun w => refEmpty_b a0 a1 a2 a3 w
  rw [h] at KE
  have HS := Lib.hid KS; have HE := Lib.hid KE
  clear KS KE h
  go_enter Try.func6, Try.ntmps6
  go_wp2_with (go_at_call 8; refine (alive_any _).mono ?_; rintro e w1 ⟨rfl, hb⟩; obtain ⟨A, hb2⟩ := one_rect _ _ _ hb; have HU := Lib.hid hb2; clear hb hb2; obtain ⟨A0, A1, A2, A3⟩ := id A)
  clear A0 A1 A2 A3
  refine (HS.out _).mono ?_
  rintro e w2 ⟨v, rfl, hv, hb⟩
  obtain ⟨g, rfl, hc⟩ := hasR_some hv (by simp)
  obtain ⟨g00, g01, g02, g03⟩ := hc 0 _ rfl; obtain ⟨g10, g11, g12, g13⟩ := hc 1 _ rfl
  simp only [Nat.zero_mul, Nat.one_mul, Nat.zero_add, Nat.reduceAdd] at g00 g01 g02 g03 g10 g11 g12 g13
  have A := A.up hb
  have HB := Lib.hid (up_trans HU.out hb)
  clear hv hb HU hc
  have jA0 := fun u : Later w2 => u.cell A.1; have jA1 := fun u : Later w2 => u.cell A.2.1; have jA2 := fun u : Later w2 => u.cell A.2.2.1; have jA3 := fun u : Later w2 => u.cell A.2.2.2
  have jg00 := fun u : Later w2 => u.cell g00; have jg01 := fun u : Later w2 => u.cell g01; have jg02 := fun u : Later w2 => u.cell g02; have jg03 := fun u : Later w2 => u.cell g03; have jg10 := fun u : Later w2 => u.cell g10; have jg11 := fun u : Later w2 => u.cell g11; have jg12 := fun u : Later w2 => u.cell g12; have jg13 := fun u : Later w2 => u.cell g13
  clear A g00 g01 g02 g03 g10 g11 g12 g13
  refine later_start (w := w2) ?_
  intro u
  go_wp2_with fail
  refine wp_region_later (by kernel_rfl) (by kernel_rfl) ?_
  repeat (go_big_quiet_step (fail))
  refine wpQuiet_nil ?_
  rintro _ ⟨u, rfl⟩
  go_wp2_with fail
  refine wp_region_later (by kernel_rfl) (by kernel_rfl) ?_
  repeat (go_big_quiet_step (fail))
  refine wpQuiet_nil ?_
  rintro _ ⟨u, rfl⟩
  have d0 : decide (n ≤ a0) = false := by simp; omega
  have d1 : decide (a2 ≤ n) = false := by simp; omega
  go_wp2_with (go_at_call 12; ((with_reducible refine (HE.out _).mono ?_); rintro e w' ⟨rfl, hb⟩; obtain ⟨u', rfl⟩ := Later.next hb; clear hb))
  have X : C4 u'.now w.heap.size a0 a1 a2 a3 := ⟨jA0 u', jA1 u', jA2 u', jA3 u'⟩
  have HX := Lib.hid X
  have HJ := Lib.hid (up_trans HB.out u'.up)
  obtain ⟨wa, hwa⟩ : ∃ wa, u'.now = wa := ⟨_, rfl⟩
  have HG : Hid (u'.now.cell? ⟨g, 0, none⟩ = some (.int .i64 a0) ∧ u'.now.cell? ⟨g, 1, none⟩ = some (.int .i64 a1) ∧ u'.now.cell? ⟨g, 2, none⟩ = some (.int .i64 n) ∧ u'.now.cell? ⟨g, 3, none⟩ = some (.int .i64 a3) ∧ u'.now.cell? ⟨g, 4, none⟩ = some (.int .i64 n) ∧ u'.now.cell? ⟨g, 5, none⟩ = some (.int .i64 a1) ∧ u'.now.cell? ⟨g, 6, none⟩ = some (.int .i64 a2) ∧ u'.now.cell? ⟨g, 7, none⟩ = some (.int .i64 a3)) := Lib.hid ⟨jg00 u', jg01 u', jg02 u', jg03 u', jg10 u', jg11 u', jg12 u', jg13 u'⟩
  clear jA0 jA1 jA2 jA3 jg00 jg01 jg02 jg03 jg10 jg11 jg12 jg13 X HB
  rw [hwa] at HX HJ HG ⊢
  clear hwa
  go_cut [10, 11] (fun s7 s8 wx => TwoCopies wa a0 a1 a2 a3 s7 s8 wx)
  case first =>
    go_region_held3 (fun w' => w'.cell? ⟨w.heap.size, 0, none⟩ = some (.int .i64 a0) ∧ w'.cell? ⟨w.heap.size, 1, none⟩ = some (.int .i64 a1) ∧ w'.cell? ⟨w.heap.size, 2, none⟩ = some (.int .i64 a2) ∧ w'.cell? ⟨w.heap.size, 3, none⟩ = some (.int .i64 a3))
      (exact HX.out.up (by repeat (first | exact Below.refl _ _ | apply up_drew | apply up_alloc | (refine up_set ?_ (by simp <;> omega) _))))
      (fail)
    all_goals
      go_wp2_with fail
      go_meet
      go_light
      refine ⟨_, _, rfl, rfl, by simp, by simp, by simp, ⟨by simp [go_sem], by simp [go_sem], by simp [go_sem], by simp [go_sem]⟩, ⟨by simp [go_sem], by simp [go_sem], by simp [go_sem], by simp [go_sem]⟩, fun i => by simp [go_sem], fun i => by simp [go_sem], up_drew (up_alloc (up_alloc (Below.refl _ _) _) _)⟩
  case rest =>
    obtain ⟨p, q, rfl, rfl, hp, hq, hpq, P, Q, fp, fq, hb⟩ := hcut
    obtain ⟨P0, P1, P2, P3⟩ := P
    obtain ⟨Q0, Q1, Q2, Q3⟩ := Q
    go_wp2_with fail
    have hg : g < wa.heap.size := World.block_lt_of_cell? wa _ HG.out.1
    have hqp : q ≠ p := Ne.symm hpq
    have hpg : p ≠ g := by omega
    have hqg : q ≠ g := by omega
    have X : C4 ((wc.setCell ⟨p, 2, none⟩ (.int .i64 n)).setCell ⟨q, 0, none⟩ (.int .i64 n)) p a0 a1 n a3 := by
      refine ⟨?_, ?_, ?_, ?_⟩ <;> rw [World.cell?_setCell_far _ _ _ _ (by simpa using hqp)]
      · exact (World.cell?_setCell_other _ _ _ _ (by simp)).trans P0
      · exact (World.cell?_setCell_other _ _ _ _ (by simp)).trans P1
      · exact World.cell?_setCell_same _ _ _ P2
      · exact (World.cell?_setCell_other _ _ _ _ (by simp)).trans P3
    have Y : C4 ((wc.setCell ⟨p, 2, none⟩ (.int .i64 n)).setCell ⟨q, 0, none⟩ (.int .i64 n)) q n a1 a2 a3 := by
      have z : ∀ j, (wc.setCell ⟨p, 2, none⟩ (.int .i64 n)).cell? ⟨q, j, none⟩ = wc.cell? ⟨q, j, none⟩ := fun j => World.cell?_setCell_far _ _ _ _ (by simpa using hpq)
      refine ⟨?_, ?_, ?_, ?_⟩
      · exact World.cell?_setCell_same _ _ _ ((z _).trans Q0)
      · exact (World.cell?_setCell_other _ _ _ _ (by simp)).trans ((z _).trans Q1)
      · exact (World.cell?_setCell_other _ _ _ _ (by simp)).trans ((z _).trans Q2)
      · exact (World.cell?_setCell_other _ _ _ _ (by simp)).trans ((z _).trans Q3)
    have Z : ∀ j v, wa.cell? ⟨g, j, none⟩ = some v → ((wc.setCell ⟨p, 2, none⟩ (.int .i64 n)).setCell ⟨q, 0, none⟩ (.int .i64 n)).cell? ⟨g, j, none⟩ = some v := fun j v h => (World.cell?_setCell_far _ _ _ _ (by simpa using hqg)).trans ((World.cell?_setCell_far _ _ _ _ (by simpa using hpg)).trans (bl_cell hb h))
    have hup : Below w.heap.size w ((wc.setCell ⟨p, 2, none⟩ (.int .i64 n)).setCell ⟨q, 0, none⟩ (.int .i64 n)) := up_trans HJ.out (up_set (up_set hb hp _) hq _)
    clear P0 P1 P2 P3 Q0 Q1 Q2 Q3 fp fq hp hq hpq hqp hpg hqg hg hb
    generalize ((wc.setCell ⟨p, 2, none⟩ (.int .i64 n)).setCell ⟨q, 0, none⟩ (.int .i64 n)) = wy at *
    have HU := Lib.hid hup
    clear hup
    obtain ⟨G0, G1, G2, G3, G4, G5, G6, G7⟩ := HG.out
    have jX0 := fun u : Later wy => u.cell X.1; have jY0 := fun u : Later wy => u.cell Y.1
    have jX1 := fun u : Later wy => u.cell X.2.1; have jY1 := fun u : Later wy => u.cell Y.2.1
    have jX2 := fun u : Later wy => u.cell X.2.2.1; have jY2 := fun u : Later wy => u.cell Y.2.2.1
    have jX3 := fun u : Later wy => u.cell X.2.2.2; have jY3 := fun u : Later wy => u.cell Y.2.2.2
    have jG0 := fun u : Later wy => u.cell (Z _ _ G0)
    have jG1 := fun u : Later wy => u.cell (Z _ _ G1)
    have jG2 := fun u : Later wy => u.cell (Z _ _ G2)
    have jG3 := fun u : Later wy => u.cell (Z _ _ G3)
    have jG4 := fun u : Later wy => u.cell (Z _ _ G4)
    have jG5 := fun u : Later wy => u.cell (Z _ _ G5)
    have jG6 := fun u : Later wy => u.cell (Z _ _ G6)
    have jG7 := fun u : Later wy => u.cell (Z _ _ G7)
    clear X Y Z G0 G1 G2 G3 G4 G5 G6 G7 HG
    refine later_start (w := wy) ?_
    intro u
    refine wp_region_later (by kernel_rfl) (by kernel_rfl) ?_
    repeat (go_big_quiet_step (fail))
    refine wpQuiet_nil ?_
    rintro _ ⟨u2, rfl⟩
    go_wp2
    go_ret
    exact ⟨rfl, up_trans HU.out u2.up⟩

set_option maxHeartbeats 2000000 in
theorem splits_two_false (a0 a1 a2 a3 : Int) (n : Int) (w : World) (h : emp4 a0 a1 a2 a3 = false) (h0 : a1 < n) (h1 : n < a3) :
    Calls Try.prog 6 #[.agg #[.int .i64 a0, .int .i64 a1, .int .i64 a2, .int .i64 a3], .bool false, .int .i64 n] w fun e w' => e = .returned (.bool true) ∧ Below w.heap.size w w' := by
  have KS := fun w => split_any a0 a1 a2 a3 false n w
  rw [split_twos _ _ _ _ _ h h0 h1] at KS
  have KE := fun w => refEmpty_b a0 a1 a2 a3 w
  rw [h] at KE
  have HS := Lib.hid KS; have HE := Lib.hid KE
  clear KS KE h
  go_enter Try.func6, Try.ntmps6
  go_wp2_with (go_at_call 8; refine (alive_any _).mono ?_; rintro e w1 ⟨rfl, hb⟩; obtain ⟨A, hb2⟩ := one_rect _ _ _ hb; have HU := Lib.hid hb2; clear hb hb2; obtain ⟨A0, A1, A2, A3⟩ := id A)
  clear A0 A1 A2 A3
  refine (HS.out _).mono ?_
  rintro e w2 ⟨v, rfl, hv, hb⟩
  obtain ⟨g, rfl, hc⟩ := hasR_some hv (by simp)
  obtain ⟨g00, g01, g02, g03⟩ := hc 0 _ rfl; obtain ⟨g10, g11, g12, g13⟩ := hc 1 _ rfl
  simp only [Nat.zero_mul, Nat.one_mul, Nat.zero_add, Nat.reduceAdd] at g00 g01 g02 g03 g10 g11 g12 g13
  have A := A.up hb
  have HB := Lib.hid (up_trans HU.out hb)
  clear hv hb HU hc
  have jA0 := fun u : Later w2 => u.cell A.1; have jA1 := fun u : Later w2 => u.cell A.2.1; have jA2 := fun u : Later w2 => u.cell A.2.2.1; have jA3 := fun u : Later w2 => u.cell A.2.2.2
  have jg00 := fun u : Later w2 => u.cell g00; have jg01 := fun u : Later w2 => u.cell g01; have jg02 := fun u : Later w2 => u.cell g02; have jg03 := fun u : Later w2 => u.cell g03; have jg10 := fun u : Later w2 => u.cell g10; have jg11 := fun u : Later w2 => u.cell g11; have jg12 := fun u : Later w2 => u.cell g12; have jg13 := fun u : Later w2 => u.cell g13
  clear A g00 g01 g02 g03 g10 g11 g12 g13
  refine later_start (w := w2) ?_
  intro u
  go_wp2_with fail
  refine wp_region_later (by kernel_rfl) (by kernel_rfl) ?_
  repeat (go_big_quiet_step (fail))
  refine wpQuiet_nil ?_
  rintro _ ⟨u, rfl⟩
  have d0 : decide (n ≤ a1) = false := by simp; omega
  have d1 : decide (a3 ≤ n) = false := by simp; omega
  go_wp2_with (go_at_call 12; ((with_reducible refine (HE.out _).mono ?_); rintro e w' ⟨rfl, hb⟩; obtain ⟨u', rfl⟩ := Later.next hb; clear hb))
  have X : C4 u'.now w.heap.size a0 a1 a2 a3 := ⟨jA0 u', jA1 u', jA2 u', jA3 u'⟩
  have HX := Lib.hid X
  have HJ := Lib.hid (up_trans HB.out u'.up)
  obtain ⟨wa, hwa⟩ : ∃ wa, u'.now = wa := ⟨_, rfl⟩
  have HG : Hid (u'.now.cell? ⟨g, 0, none⟩ = some (.int .i64 a0) ∧ u'.now.cell? ⟨g, 1, none⟩ = some (.int .i64 a1) ∧ u'.now.cell? ⟨g, 2, none⟩ = some (.int .i64 a2) ∧ u'.now.cell? ⟨g, 3, none⟩ = some (.int .i64 n) ∧ u'.now.cell? ⟨g, 4, none⟩ = some (.int .i64 a0) ∧ u'.now.cell? ⟨g, 5, none⟩ = some (.int .i64 n) ∧ u'.now.cell? ⟨g, 6, none⟩ = some (.int .i64 a2) ∧ u'.now.cell? ⟨g, 7, none⟩ = some (.int .i64 a3)) := Lib.hid ⟨jg00 u', jg01 u', jg02 u', jg03 u', jg10 u', jg11 u', jg12 u', jg13 u'⟩
  clear jA0 jA1 jA2 jA3 jg00 jg01 jg02 jg03 jg10 jg11 jg12 jg13 X HB
  rw [hwa] at HX HJ HG ⊢
  clear hwa
  go_cut [10, 11] (fun s7 s8 wx => TwoCopies wa a0 a1 a2 a3 s7 s8 wx)
  case first =>
    go_region_held3 (fun w' => w'.cell? ⟨w.heap.size, 0, none⟩ = some (.int .i64 a0) ∧ w'.cell? ⟨w.heap.size, 1, none⟩ = some (.int .i64 a1) ∧ w'.cell? ⟨w.heap.size, 2, none⟩ = some (.int .i64 a2) ∧ w'.cell? ⟨w.heap.size, 3, none⟩ = some (.int .i64 a3))
      (exact HX.out.up (by repeat (first | exact Below.refl _ _ | apply up_drew | apply up_alloc | (refine up_set ?_ (by simp <;> omega) _))))
      (fail)
    all_goals
      go_wp2_with fail
      go_meet
      go_light
      refine ⟨_, _, rfl, rfl, by simp, by simp, by simp, ⟨by simp [go_sem], by simp [go_sem], by simp [go_sem], by simp [go_sem]⟩, ⟨by simp [go_sem], by simp [go_sem], by simp [go_sem], by simp [go_sem]⟩, fun i => by simp [go_sem], fun i => by simp [go_sem], up_drew (up_alloc (up_alloc (Below.refl _ _) _) _)⟩
  case rest =>
    obtain ⟨p, q, rfl, rfl, hp, hq, hpq, P, Q, fp, fq, hb⟩ := hcut
    obtain ⟨P0, P1, P2, P3⟩ := P
    obtain ⟨Q0, Q1, Q2, Q3⟩ := Q
    go_wp2_with fail
    have hg : g < wa.heap.size := World.block_lt_of_cell? wa _ HG.out.1
    have hqp : q ≠ p := Ne.symm hpq
    have hpg : p ≠ g := by omega
    have hqg : q ≠ g := by omega
    have X : C4 ((wc.setCell ⟨p, 3, none⟩ (.int .i64 n)).setCell ⟨q, 1, none⟩ (.int .i64 n)) p a0 a1 a2 n := by
      refine ⟨?_, ?_, ?_, ?_⟩ <;> rw [World.cell?_setCell_far _ _ _ _ (by simpa using hqp)]
      · exact (World.cell?_setCell_other _ _ _ _ (by simp)).trans P0
      · exact (World.cell?_setCell_other _ _ _ _ (by simp)).trans P1
      · exact (World.cell?_setCell_other _ _ _ _ (by simp)).trans P2
      · exact World.cell?_setCell_same _ _ _ P3
    have Y : C4 ((wc.setCell ⟨p, 3, none⟩ (.int .i64 n)).setCell ⟨q, 1, none⟩ (.int .i64 n)) q a0 n a2 a3 := by
      have z : ∀ j, (wc.setCell ⟨p, 3, none⟩ (.int .i64 n)).cell? ⟨q, j, none⟩ = wc.cell? ⟨q, j, none⟩ := fun j => World.cell?_setCell_far _ _ _ _ (by simpa using hpq)
      refine ⟨?_, ?_, ?_, ?_⟩
      · exact (World.cell?_setCell_other _ _ _ _ (by simp)).trans ((z _).trans Q0)
      · exact World.cell?_setCell_same _ _ _ ((z _).trans Q1)
      · exact (World.cell?_setCell_other _ _ _ _ (by simp)).trans ((z _).trans Q2)
      · exact (World.cell?_setCell_other _ _ _ _ (by simp)).trans ((z _).trans Q3)
    have Z : ∀ j v, wa.cell? ⟨g, j, none⟩ = some v → ((wc.setCell ⟨p, 3, none⟩ (.int .i64 n)).setCell ⟨q, 1, none⟩ (.int .i64 n)).cell? ⟨g, j, none⟩ = some v := fun j v h => (World.cell?_setCell_far _ _ _ _ (by simpa using hqg)).trans ((World.cell?_setCell_far _ _ _ _ (by simpa using hpg)).trans (bl_cell hb h))
    have hup : Below w.heap.size w ((wc.setCell ⟨p, 3, none⟩ (.int .i64 n)).setCell ⟨q, 1, none⟩ (.int .i64 n)) := up_trans HJ.out (up_set (up_set hb hp _) hq _)
    clear P0 P1 P2 P3 Q0 Q1 Q2 Q3 fp fq hp hq hpq hqp hpg hqg hg hb
    generalize ((wc.setCell ⟨p, 3, none⟩ (.int .i64 n)).setCell ⟨q, 1, none⟩ (.int .i64 n)) = wy at *
    have HU := Lib.hid hup
    clear hup
    obtain ⟨G0, G1, G2, G3, G4, G5, G6, G7⟩ := HG.out
    have jX0 := fun u : Later wy => u.cell X.1; have jY0 := fun u : Later wy => u.cell Y.1
    have jX1 := fun u : Later wy => u.cell X.2.1; have jY1 := fun u : Later wy => u.cell Y.2.1
    have jX2 := fun u : Later wy => u.cell X.2.2.1; have jY2 := fun u : Later wy => u.cell Y.2.2.1
    have jX3 := fun u : Later wy => u.cell X.2.2.2; have jY3 := fun u : Later wy => u.cell Y.2.2.2
    have jG0 := fun u : Later wy => u.cell (Z _ _ G0)
    have jG1 := fun u : Later wy => u.cell (Z _ _ G1)
    have jG2 := fun u : Later wy => u.cell (Z _ _ G2)
    have jG3 := fun u : Later wy => u.cell (Z _ _ G3)
    have jG4 := fun u : Later wy => u.cell (Z _ _ G4)
    have jG5 := fun u : Later wy => u.cell (Z _ _ G5)
    have jG6 := fun u : Later wy => u.cell (Z _ _ G6)
    have jG7 := fun u : Later wy => u.cell (Z _ _ G7)
    clear X Y Z G0 G1 G2 G3 G4 G5 G6 G7 HG
    refine later_start (w := wy) ?_
    intro u
    refine wp_region_later (by kernel_rfl) (by kernel_rfl) ?_
    repeat (go_big_quiet_step (fail))
    refine wpQuiet_nil ?_
    rintro _ ⟨u2, rfl⟩
    go_wp2
    go_ret
    exact ⟨rfl, up_trans HU.out u2.up⟩

theorem walkBoxSplits (a0 a1 a2 a3 : Int) (up : Bool) (n : Int) (w : World) (x0 : (Lit.int .i64 a0).wf = true) (x1 : (Lit.int .i64 a1).wf = true) (x2 : (Lit.int .i64 a2).wf = true) (x3 : (Lit.int .i64 a3).wf = true) (x4 : (Lit.int .i64 n).wf = true) :
    Calls Try.prog 6 #[.agg #[.int .i64 a0, .int .i64 a1, .int .i64 a2, .int .i64 a3], .bool up, .int .i64 n] w fun e w' => e = .returned (.bool true) ∧ Below w.heap.size w w' := by
  cases h : emp4 a0 a1 a2 a3
  · cases up
    · by_cases g : n ≤ a1 ∨ a3 ≤ n
      · exact splits_whole_false a0 a1 a2 a3 n w h g
      · exact splits_two_false a0 a1 a2 a3 n w h (by omega) (by omega)
    · by_cases g : n ≤ a0 ∨ a2 ≤ n
      · exact splits_whole_true a0 a1 a2 a3 n w h g
      · exact splits_two_true a0 a1 a2 a3 n w h (by omega) (by omega)
  · exact splits_none a0 a1 a2 a3 up n w h
end Go.Proofs.Ytgfbgmkooflhbaa
