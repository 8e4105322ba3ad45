/- gatherumlaw13.UnfoldApart answers true, for every scheme: panels beside one another are flipped otherwise. -/
import Derived.BigRegion
import Derived.Test.YtnofncibplgmpaaUnfoldLaw
import Derived.OpenShut
namespace Go.Proofs.Ytnofncibplgmpaa
open Go.RowKit
set_option linter.unusedVariables false

theorem bI_ne {a b : Bool} (h : (bI a + bI b) % 2 = 1) : b = !a := by cases a <;> cases b <;> simp [bI] at h <;> rfl
theorem bI_eq {a b : Bool} (h : (bI a + bI b) % 2 = 0) : b = a := by cases a <;> cases b <;> simp [bI] at h <;> rfl
/-- Panels side by side, and above one another. -/
theorem pan_apart {s : Sc} (h : rightM s = true) (k : Nat) (hk : k < (panL s).length) (x : Int) (hx : (k : Int).tmod s.c = x) :
    (0 ≤ x ∧ x < s.c) ∧ (0 < x → ∃ (t : Nat) (q : Pn), k = t + 1 ∧ (panL s)[t]? = some q ∧ q.fx = !((panL s)[k]'hk).fx ∧ q.fy = ((panL s)[k]'hk).fy) ∧
    (s.c ≤ (k : Int) → ∃ (t : Nat) (q : Pn), (k : Int) - s.c = (t : Int) ∧ (panL s)[t]? = some q ∧ q.fy = !((panL s)[k]'hk).fy ∧ q.fx = ((panL s)[k]'hk).fx) := by
  obtain ⟨hc, hr, hm, _, _⟩ := right_bounds h
  obtain ⟨K, L, hf⟩ := pan_flips h
  have hl := panL_length s
  obtain ⟨x', y, e1, e2, b0, b1, b2, b3, b4⟩ := split_place k s.c s.r hc.1 (by omega)
  rw [hx] at e1
  subst e1
  obtain ⟨f1, f2⟩ := hf k hk
  rw [hx] at f1
  rw [e2] at f2
  refine ⟨⟨b0, b1⟩, fun h0 => ?_, fun h0 => ?_⟩
  · obtain ⟨t, rfl⟩ : ∃ t, k = t + 1 := ⟨k - 1, by
      have : k ≠ 0 := by
        rintro rfl
        have h00 : 0 ≤ y * s.c := Int.mul_nonneg b2 (by omega)
        omega
      omega⟩
    have ht : t < (panL s).length := by omega
    obtain ⟨g1, g2⟩ := hf t ht
    obtain ⟨t1, t2⟩ := td y (x - 1) s.c b2 (by omega) (by omega)
    rw [show y * s.c + (x - 1) = (t : Int) by omega] at t1 t2
    rw [t2] at g1
    rw [t1] at g2
    refine ⟨t, _, rfl, List.getElem?_eq_getElem ht, ?_, ?_⟩
    · apply bI_ne; omega
    · apply bI_eq; omega
  · have hy : 0 < y := by
      have : ¬ y ≤ 0 := fun h1 => by
        have : y = 0 := by omega
        subst this
        omega
      omega
    have e : (y - 1) * s.c = y * s.c - s.c := by rw [Int.sub_mul, Int.one_mul]
    have h00 : 0 ≤ (y - 1) * s.c := Int.mul_nonneg (by omega) (by omega)
    obtain ⟨t, ht0⟩ : ∃ t : Nat, (k : Int) - s.c = (t : Int) := ⟨((k : Int) - s.c).toNat, by omega⟩
    have ht : t < (panL s).length := by omega
    obtain ⟨g1, g2⟩ := hf t ht
    obtain ⟨t1, t2⟩ := td (y - 1) x s.c (by omega) b0 b1
    rw [show (y - 1) * s.c + x = (t : Int) by omega] at t1 t2
    rw [t2] at g1
    rw [t1] at g2
    refine ⟨t, _, ht0, List.getElem?_eq_getElem ht, ?_, ?_⟩
    · apply bI_ne; omega
    · apply bI_eq; omega

def ApartRel (w2 : World) (m : Nat) (i : Value) (wx : World) : Prop := ∃ k : Nat, k ≤ m ∧ i = .int .i64 (k : Int) ∧ Below w2.heap.size w2 wx

set_option maxHeartbeats 1000000 in
theorem apart_out (c r : Int) (l : List Sp) (a : Option Addr) (cap : Nat) (w : World) (hc : c ≤ 9223372036854775807) (hr : r ≤ 9223372036854775807) (h : InL w a l) (hn : 20 < l.length ∨ (l.length ≤ 20 ∧ rightM ⟨c, r, l⟩ = false)) :
    Calls Try.prog 4 #[.agg #[.int .i64 c, .int .i64 r, .slice a l.length cap]] w fun e w' => e = .returned (.bool true) ∧ Below w.heap.size w w' := by
  have B0 := Lib.hid (up_alloc (Below.refl _ w) (.cells #[.int .i64 c, .int .i64 r, .slice a l.length cap] 24))
  rcases hn with hlen | ⟨hlen, hn⟩
  · have z1 : (20 : Int) < (l.length : Int) := by omega
    generalize l.length = m at *
    clear h
    go_enter Try.func4, Try.ntmps4
    go_wp2_with fail
    refine (unfAlive_any _).mono ?_
    rintro e w1 ⟨rfl, hb⟩
    have A1 := (Bx.new w 24 [.int .i64 c, .int .i64 r, .slice a m cap]).up hb
    have B1 := Lib.hid (up_trans B0.out hb)
    have a2 := A1.cell 2 rfl
    clear hb A1
    go_wp2
    go_ret
    exact ⟨rfl, B1.out⟩
  · have z1 : decide ((20 : Int) < (l.length : Int)) = false := by simp; omega
    have K1 := fun w1 (hI : InL w1 a l) => refFine_any ⟨c, r, l⟩ a cap w1 hc hr (by simp only; omega) hI
    rw [hn] at K1
    simp only at K1
    have HI := Lib.hid h
    generalize l.length = n at *
    have H1 := Lib.hid K1
    clear K1 h hn
    go_enter Try.func4, Try.ntmps4
    go_wp2_with fail
    refine (unfAlive_any _).mono ?_
    rintro e w1 ⟨rfl, hb⟩
    have A1 := (Bx.new w 24 [.int .i64 c, .int .i64 r, .slice a n cap]).up hb
    have B1 := Lib.hid (up_trans B0.out hb)
    have HI1 := Lib.hid (HI.out.up B1.out)
    have a0 := A1.cell 0 rfl; have a1 := A1.cell 1 rfl; have a2 := A1.cell 2 rfl
    clear hb A1
    go_wp2_with fail
    refine (H1.out _ HI1.out).mono ?_
    rintro e w2 ⟨rfl, hb⟩
    have B2 := Lib.hid (up_trans B1.out hb)
    clear hb
    go_wp2
    go_ret
    exact ⟨rfl, B2.out⟩

set_option maxRecDepth 100000 in
set_option maxHeartbeats 2000000 in
theorem apart_in (s : Sc) (a : Option Addr) (cap : Nat) (w : World) (h : InL w a s.l) (hn : rightM s = true) :
    Calls Try.prog 4 #[.agg #[.int .i64 s.c, .int .i64 s.r, .slice a s.l.length cap]] w fun e w' => e = .returned (.bool true) ∧ Below w.heap.size w w' := by
  have B0 := Lib.hid (up_alloc (Below.refl _ w) (.cells #[.int .i64 s.c, .int .i64 s.r, .slice a s.l.length cap] 24))
  obtain ⟨hc, hr, hm, hl6, _⟩ := right_bounds hn
  have hp : 1 ≤ s.c * s.r := Int.le_trans (by omega) (Int.mul_le_mul hc.1 hr.1 (by omega) (by omega) : 1 * 1 ≤ s.c * s.r)
  have z1 : decide ((20 : Int) < (s.l.length : Int)) = false := by simp; omega
  have K1 := fun w1 (hI : InL w1 a s.l) => refFine_any s a cap w1 (by omega) (by omega) (by omega) hI
  rw [hn] at K1
  have K2 := fun w1 (hI : InL w1 a s.l) => unfOf_yes s a cap w1 hI hn
  rw [pcL_length, ← panL_length] at K2
  have hA := fun k hk x hx => pan_apart hn k hk x hx
  have hPl := panL_length s
  generalize panL s = P at *
  obtain ⟨m, hmm⟩ : ∃ m, P.length = m := ⟨_, rfl⟩
  have hmul : wrap64 (s.c * s.r) = (m : Int) := by rw [IntWalk.wrap64_in _ (by omega)]; omega
  have hm64 : m ≤ 64 := by omega
  rw [hmm] at K2
  have HI := Lib.hid h; have HA := Lib.hid hA; have HM := Lib.hid hmm
  obtain ⟨c, r, l⟩ := s
  simp only at *
  generalize l.length = n at *
  have H1 := Lib.hid K1; have H2 := Lib.hid K2
  clear K1 K2 h hn hA hPl hm hp hmm
  go_enter Try.func4, Try.ntmps4
  go_wp2_with fail
  refine (unfAlive_any _).mono ?_
  rintro e w1 ⟨rfl, hb⟩
  have A1 := (Bx.new w 24 [.int .i64 c, .int .i64 r, .slice a n cap]).up hb
  have B1 := Lib.hid (up_trans B0.out hb)
  have HI1 := Lib.hid (HI.out.up B1.out)
  have a0 := A1.cell 0 rfl; have a1 := A1.cell 1 rfl; have a2 := A1.cell 2 rfl
  clear hb
  go_wp2_with fail
  refine (H1.out _ HI1.out).mono ?_
  rintro e w2 ⟨rfl, hb⟩
  have A2 := A1.up hb
  have B2 := Lib.hid (up_trans B1.out hb)
  have HI2 := Lib.hid (HI1.out.up hb)
  clear hb a0 a1 a2 A1
  have a0 := A2.cell 0 rfl; have a1 := A2.cell 1 rfl; have a2 := A2.cell 2 rfl
  go_wp2_with fail
  refine (H2.out _ HI2.out).mono ?_
  rintro e w3 ⟨g, rfl, hrow, hg, hb⟩
  have A3 := Lib.hid (A2.up hb)
  have HRow := Lib.hid hrow
  have B3 := Lib.hid (up_trans B2.out hb)
  clear hb a0 a1 a2 A2 hrow
  have a0 := A3.out.cell 0 rfl; have a1 := A3.out.cell 1 rfl; have a2 := A3.out.cell 2 rfl
  go_wp2
  rw [hmul]
  go_loopw [4] (fun i wx => ApartRel w3 m i wx) (fun i _ => m - (intOf i).toNat)
  case atStart => exact ⟨0, by omega, by go_num, Below.refl _ _⟩
  case round =>
    obtain ⟨k, hk, rfl, hb⟩ := hrel
    by_cases hlt : k < m
    · obtain ⟨x, hx⟩ : ∃ x, (k : Int).tmod c = x := ⟨_, rfl⟩
      have hx' : (k : Int) % c = x := by rw [← hx, Int.tmod_eq_emod_of_nonneg (by omega)]
      have hkP : k < P.length := by rw [HM.out]; exact hlt
      obtain ⟨⟨b0, b1⟩, hL, hD⟩ := HA.out k hkP x hx
      have hp := List.getElem?_eq_getElem hkP
      obtain ⟨p, hpp⟩ : ∃ p, P[k]'hkP = p := ⟨_, rfl⟩
      rw [hpp] at hL hD hp
      obtain ⟨pl, px, py⟩ := p
      simp only at hL hD
      obtain ⟨p0, p1, p2⟩ := (HRow.out.up hb).cells hp
      simp only at p0 p1 p2
      have a0 := (A3.out.up hb).cell 0 rfl
      have z0 : (0 : Int) ≤ (k : Int) := by omega
      have z2 : (k : Int) < (m : Int) := by omega
      have c0 : c ≠ 0 := by omega
      have HD := Lib.hid hD; have HBx := Lib.hid hb; have HP := Lib.hid hp
      clear hD hb hp hpp
      by_cases hx0 : 0 < x
      · obtain ⟨t, q, ht, hq, e1, e2⟩ := hL hx0
        obtain ⟨q0, q1, q2⟩ := (HRow.out.up HBx.out).cells hq
        obtain ⟨ql, qx, qy⟩ := q
        simp only at q0 q1 q2 e1 e2
        rw [e2] at q2
        have ne1 : (px == qx) = false := by rw [e1]; cases px <;> rfl
        have wt : (k : Int) - 1 = (t : Int) := by omega
        have y0 : (0 : Int) ≤ (t : Int) := by omega
        have y1 : (t : Int) < (m : Int) := by omega
        clear hL e1 e2 hq ht
        go_wp2_with fail
        refine later_start (w := wr) ?_
        intro v
        have j0 := fun v : Later wr => v.cell a0
        have j1 := fun v : Later wr => v.cell p1
        have j2 := fun v : Later wr => v.cell p2
        have j3 := fun v : Later wr => v.cell q1
        have j4 := fun v : Later wr => v.cell q2
        refine wp_region_later (by kernel_rfl) (by kernel_rfl) ?_
        repeat (go_big_quiet_step (fail))
        refine wpQuiet_nil ?_
        rintro _ ⟨v2, rfl⟩
        clear y0
        have HBy := Lib.hid (up_trans HBx.out v2.up)
        clear j0 j1 j2 j3 j4
        generalize v2.now = w5 at *
        clear v v2
        have y0 := (A3.out.up HBy.out).cell 0 rfl
        obtain ⟨r0, r1, r2⟩ := (HRow.out.up HBy.out).cells HP.out
        simp only at r0 r1 r2
        by_cases hy : c ≤ (k : Int)
        · obtain ⟨t2, q2, ht2, hq2, e3, e4⟩ := HD.out hy
          obtain ⟨s0, s1, s2⟩ := (HRow.out.up HBy.out).cells hq2
          obtain ⟨ql2, qx2, qy2⟩ := q2
          simp only at s0 s1 s2 e3 e4
          rw [e4] at s1
          have ne2 : (py == qy2) = false := by rw [e3]; cases py <;> rfl
          have wt2 : (k : Int) - c = (t2 : Int) := ht2
          have wt3 : wrap64 ((k : Int) - c) = (t2 : Int) := by rw [ht2]; exact IntWalk.wrap64_in _ (by omega)
          have y2 : (t2 : Int) < (m : Int) := by omega
          have y3 : (0 : Int) ≤ (t2 : Int) := by omega
          clear e3 e4 hq2 ht2
          go_wp2_with fail
          refine later_start (w := w5) ?_
          intro v
          have j0 := fun v : Later w5 => v.cell y0
          have j1 := fun v : Later w5 => v.cell r1
          have j2 := fun v : Later w5 => v.cell r2
          have j3 := fun v : Later w5 => v.cell s1
          have j4 := fun v : Later w5 => v.cell s2
          refine wp_region_later (by kernel_rfl) (by kernel_rfl) ?_
          repeat (go_big_quiet_step (fail))
          refine wpQuiet_nil ?_
          rintro _ ⟨v2, rfl⟩
          have HBz := Lib.hid (up_trans HBy.out v2.up)
          clear j0 j1 j2 j3 j4
          generalize v2.now = w6 at *
          clear v v2
          go_wp2
          refine ⟨⟨k + 1, by omega, by go_num, HBz.out⟩, by simp [intOf]; omega⟩
        · have hy' : decide (c ≤ (k : Int)) = false := by simpa using hy
          go_wp2_with fail
          refine later_start (w := w5) ?_
          intro v
          have j0 := fun v : Later w5 => v.cell y0
          have j1 := fun v : Later w5 => v.cell r1
          have j2 := fun v : Later w5 => v.cell r2
          refine wp_region_later (by kernel_rfl) (by kernel_rfl) ?_
          repeat (go_big_quiet_step (fail))
          refine wpQuiet_nil ?_
          rintro _ ⟨v2, rfl⟩
          have HBz := Lib.hid (up_trans HBy.out v2.up)
          clear j0 j1 j2
          generalize v2.now = w6 at *
          clear v v2
          go_wp2
          refine ⟨⟨k + 1, by omega, by go_num, HBz.out⟩, by simp [intOf]; omega⟩
      · obtain rfl : x = 0 := by omega
        clear hL
        go_wp2_with fail
        refine later_start (w := wr) ?_
        intro v
        have j0 := fun v : Later wr => v.cell a0
        have j1 := fun v : Later wr => v.cell p1
        have j2 := fun v : Later wr => v.cell p2
        refine wp_region_later (by kernel_rfl) (by kernel_rfl) ?_
        repeat (go_big_quiet_step (fail))
        refine wpQuiet_nil ?_
        rintro _ ⟨v2, rfl⟩
        have HBy := Lib.hid (up_trans HBx.out v2.up)
        clear j0 j1 j2
        generalize v2.now = w5 at *
        clear v v2
        have y0 := (A3.out.up HBy.out).cell 0 rfl
        obtain ⟨r0, r1, r2⟩ := (HRow.out.up HBy.out).cells HP.out
        simp only at r0 r1 r2
        by_cases hy : c ≤ (k : Int)
        · obtain ⟨t2, q2, ht2, hq2, e3, e4⟩ := HD.out hy
          obtain ⟨s0, s1, s2⟩ := (HRow.out.up HBy.out).cells hq2
          obtain ⟨ql2, qx2, qy2⟩ := q2
          simp only at s0 s1 s2 e3 e4
          rw [e4] at s1
          have ne2 : (py == qy2) = false := by rw [e3]; cases py <;> rfl
          have wt2 : (k : Int) - c = (t2 : Int) := ht2
          have wt3 : wrap64 ((k : Int) - c) = (t2 : Int) := by rw [ht2]; exact IntWalk.wrap64_in _ (by omega)
          have y2 : (t2 : Int) < (m : Int) := by omega
          have y3 : (0 : Int) ≤ (t2 : Int) := by omega
          clear e3 e4 hq2 ht2
          go_wp2_with fail
          refine later_start (w := w5) ?_
          intro v
          have j0 := fun v : Later w5 => v.cell y0
          have j1 := fun v : Later w5 => v.cell r1
          have j2 := fun v : Later w5 => v.cell r2
          have j3 := fun v : Later w5 => v.cell s1
          have j4 := fun v : Later w5 => v.cell s2
          refine wp_region_later (by kernel_rfl) (by kernel_rfl) ?_
          repeat (go_big_quiet_step (fail))
          refine wpQuiet_nil ?_
          rintro _ ⟨v2, rfl⟩
          have HBz := Lib.hid (up_trans HBy.out v2.up)
          clear j0 j1 j2 j3 j4
          generalize v2.now = w6 at *
          clear v v2
          go_wp2
          refine ⟨⟨k + 1, by omega, by go_num, HBz.out⟩, by simp [intOf]; omega⟩
        · have hy' : decide (c ≤ (k : Int)) = false := by simpa using hy
          go_wp2_with fail
          refine later_start (w := w5) ?_
          intro v
          have j0 := fun v : Later w5 => v.cell y0
          have j1 := fun v : Later w5 => v.cell r1
          have j2 := fun v : Later w5 => v.cell r2
          refine wp_region_later (by kernel_rfl) (by kernel_rfl) ?_
          repeat (go_big_quiet_step (fail))
          refine wpQuiet_nil ?_
          rintro _ ⟨v2, rfl⟩
          have HBz := Lib.hid (up_trans HBy.out v2.up)
          clear j0 j1 j2
          generalize v2.now = w6 at *
          clear v v2
          go_wp2
          refine ⟨⟨k + 1, by omega, by go_num, HBz.out⟩, by simp [intOf]; omega⟩
    · have hk2 : k = m := by omega
      subst hk2
      have HBx := Lib.hid hb
      clear hb
      go_wp2
      go_ret
      exact ⟨rfl, up_trans B3.out HBx.out⟩

theorem walkUnfoldApart (c r : Int) (a : Option Addr) (len cap : Nat) (w : World) (x0 : (Lit.int .i64 c).wf = true) (x1 : (Lit.int .i64 r).wf = true)
    (h : (a = none ∧ len = 0 ∧ cap = 0) ∨ ∃ x, a = some x ∧ len ≤ cap ∧ cap ≤ maxLen ∧ ∀ i, i < len → (∃ z, w.cell? (x.add (i * 3 + 0)) = some (.int .i64 z) ∧ (Lit.int .i64 z).wf = true) ∧ (∃ z, w.cell? (x.add (i * 3 + 1)) = some (.int .i64 z) ∧ (Lit.int .i64 z).wf = true) ∧ (∃ z, w.cell? (x.add (i * 3 + 2)) = some (.bool z))) :
    Calls Try.prog 4 #[.agg #[.int .i64 c, .int .i64 r, .slice a len cap]] w fun e w' => e = .returned (.bool true) ∧ Below w.heap.size w w' := by
  obtain ⟨l, rfl, hp⟩ := steps_of a len cap w h
  by_cases h20 : 20 < l.length
  · exact apart_out c r l a cap w (bounds_i64 x0).2 (bounds_i64 x1).2 hp (.inl h20)
  · cases hr : rightM ⟨c, r, l⟩
    · exact apart_out c r l a cap w (bounds_i64 x0).2 (bounds_i64 x1).2 hp (.inr ⟨by omega, hr⟩)
    · exact apart_in ⟨c, r, l⟩ a cap w hp hr
end Go.Proofs.Ytnofncibplgmpaa
