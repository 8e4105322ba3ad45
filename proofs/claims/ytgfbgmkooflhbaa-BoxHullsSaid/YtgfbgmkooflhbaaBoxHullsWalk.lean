/- The law BoxHulls answers true for every list of rectangles: the least rectangle about others has them all, and its sides are theirs; no condition. -/
import Derived.Test.YtgfbgmkooflhbaaBoxAlive
import Derived.Test.YtgfbgmkooflhbaaBoxWithin
import Derived.Test.YtgfbgmkooflhbaaBoxHullsMath
import Derived.Deep.DeepCutAuto
import Derived.BigRegion
import Derived.OpenShut
namespace Go.Proofs.Ytgfbgmkooflhbaa
open Go.RowKit
set_option linter.unusedVariables false

/-- Four truths in a box that may be written. -/
def M4 (w : World) (B : Nat) (m0 m1 m2 m3 : Bool) : Prop := (w.cell? ⟨B, 0, none⟩ = some (.bool m0) ∧ w.cell? ⟨B, 1, none⟩ = some (.bool m1) ∧ w.cell? ⟨B, 2, none⟩ = some (.bool m2) ∧ w.cell? ⟨B, 3, none⟩ = some (.bool m3)) ∧ ∀ j, w.frozen? ⟨B, j, none⟩ = false
theorem M4.up {w w' : World} {B : Nat} {m0 m1 m2 m3 : Bool} (h : M4 w B m0 m1 m2 m3) (hb : Below w.heap.size w w') : M4 w' B m0 m1 m2 m3 :=
  ⟨⟨bl_cell hb h.1.1, bl_cell hb h.1.2.1, bl_cell hb h.1.2.2.1, bl_cell hb h.1.2.2.2⟩, fun j => (kept_marks hb B j (World.block_lt_of_cell? w _ h.1.1)).trans (h.2 j)⟩
/-- A rectangle of the list, in its place. -/
def L4 (w : World) (b o : Nat) (p : Rc) : Prop := w.cell? ⟨b, o, none⟩ = some (.int .i64 p.x0) ∧ w.cell? ⟨b, o + 1, none⟩ = some (.int .i64 p.y0) ∧ w.cell? ⟨b, o + 2, none⟩ = some (.int .i64 p.x1) ∧ w.cell? ⟨b, o + 3, none⟩ = some (.int .i64 p.y1)
theorem L4.up {w w' : World} {b o : Nat} {p : Rc} (h : L4 w b o p) (hb : Below w.heap.size w w') : L4 w' b o p := ⟨bl_cell hb h.1, bl_cell hb h.2.1, bl_cell hb h.2.2.1, bl_cell hb h.2.2.2⟩
/-- How things stand in a round. -/
def Stand (w : World) (b o Bh Bm : Nat) (p h : Rc) (m0 m1 m2 m3 : Bool) (wx : World) : Prop := L4 wx b o p ∧ C4 wx Bh h.x0 h.y0 h.x1 h.y1 ∧ M4 wx Bm m0 m1 m2 m3 ∧ Below w.heap.size w wx

theorem Stand.set0 {w wx : World} {b o Bh Bm : Nat} {p h : Rc} {m0 m1 m2 m3 : Bool} (s : Stand w b o Bh Bm p h m0 m1 m2 m3 wx) (hb : Bm ≠ b) (hh : Bm ≠ Bh) (hw : w.heap.size ≤ Bm) (v : Bool) : Stand w b o Bh Bm p h v m1 m2 m3 (wx.setCell ⟨Bm, 0, none⟩ (.bool v)).drew := by
  obtain ⟨⟨l0, l1, l2, l3⟩, ⟨c0, c1, c2, c3⟩, ⟨⟨n0, n1, n2, n3⟩, nf⟩, up⟩ := s
  have fb : ∀ j, ((wx.setCell ⟨Bm, 0, none⟩ (.bool v)).drew).cell? ⟨b, j, none⟩ = wx.cell? ⟨b, j, none⟩ := fun j => (World.cell?_setCell_far _ _ _ _ hb)
  have fh : ∀ j, ((wx.setCell ⟨Bm, 0, none⟩ (.bool v)).drew).cell? ⟨Bh, j, none⟩ = wx.cell? ⟨Bh, j, none⟩ := fun j => (World.cell?_setCell_far _ _ _ _ hh)
  exact ⟨⟨(fb _).trans l0, (fb _).trans l1, (fb _).trans l2, (fb _).trans l3⟩, ⟨(fh _).trans c0, (fh _).trans c1, (fh _).trans c2, (fh _).trans c3⟩, ⟨⟨World.cell?_setCell_same wx ⟨Bm, 0, none⟩ _ n0, (World.cell?_setCell_other wx ⟨Bm, 0, none⟩ ⟨Bm, 1, none⟩ _ (by simp)).trans n1, (World.cell?_setCell_other wx ⟨Bm, 0, none⟩ ⟨Bm, 2, none⟩ _ (by simp)).trans n2, (World.cell?_setCell_other wx ⟨Bm, 0, none⟩ ⟨Bm, 3, none⟩ _ (by simp)).trans n3⟩, fun j => (World.frozen?_setCell _ _ _ _).trans (nf j)⟩, up_drew (up_set up hw _)⟩
theorem Stand.set1 {w wx : World} {b o Bh Bm : Nat} {p h : Rc} {m0 m1 m2 m3 : Bool} (s : Stand w b o Bh Bm p h m0 m1 m2 m3 wx) (hb : Bm ≠ b) (hh : Bm ≠ Bh) (hw : w.heap.size ≤ Bm) (v : Bool) : Stand w b o Bh Bm p h m0 v m2 m3 (wx.setCell ⟨Bm, 1, none⟩ (.bool v)).drew := by
  obtain ⟨⟨l0, l1, l2, l3⟩, ⟨c0, c1, c2, c3⟩, ⟨⟨n0, n1, n2, n3⟩, nf⟩, up⟩ := s
  have fb : ∀ j, ((wx.setCell ⟨Bm, 1, none⟩ (.bool v)).drew).cell? ⟨b, j, none⟩ = wx.cell? ⟨b, j, none⟩ := fun j => (World.cell?_setCell_far _ _ _ _ hb)
  have fh : ∀ j, ((wx.setCell ⟨Bm, 1, none⟩ (.bool v)).drew).cell? ⟨Bh, j, none⟩ = wx.cell? ⟨Bh, j, none⟩ := fun j => (World.cell?_setCell_far _ _ _ _ hh)
  exact ⟨⟨(fb _).trans l0, (fb _).trans l1, (fb _).trans l2, (fb _).trans l3⟩, ⟨(fh _).trans c0, (fh _).trans c1, (fh _).trans c2, (fh _).trans c3⟩, ⟨⟨(World.cell?_setCell_other wx ⟨Bm, 1, none⟩ ⟨Bm, 0, none⟩ _ (by simp)).trans n0, World.cell?_setCell_same wx ⟨Bm, 1, none⟩ _ n1, (World.cell?_setCell_other wx ⟨Bm, 1, none⟩ ⟨Bm, 2, none⟩ _ (by simp)).trans n2, (World.cell?_setCell_other wx ⟨Bm, 1, none⟩ ⟨Bm, 3, none⟩ _ (by simp)).trans n3⟩, fun j => (World.frozen?_setCell _ _ _ _).trans (nf j)⟩, up_drew (up_set up hw _)⟩
theorem Stand.set2 {w wx : World} {b o Bh Bm : Nat} {p h : Rc} {m0 m1 m2 m3 : Bool} (s : Stand w b o Bh Bm p h m0 m1 m2 m3 wx) (hb : Bm ≠ b) (hh : Bm ≠ Bh) (hw : w.heap.size ≤ Bm) (v : Bool) : Stand w b o Bh Bm p h m0 m1 v m3 (wx.setCell ⟨Bm, 2, none⟩ (.bool v)).drew := by
  obtain ⟨⟨l0, l1, l2, l3⟩, ⟨c0, c1, c2, c3⟩, ⟨⟨n0, n1, n2, n3⟩, nf⟩, up⟩ := s
  have fb : ∀ j, ((wx.setCell ⟨Bm, 2, none⟩ (.bool v)).drew).cell? ⟨b, j, none⟩ = wx.cell? ⟨b, j, none⟩ := fun j => (World.cell?_setCell_far _ _ _ _ hb)
  have fh : ∀ j, ((wx.setCell ⟨Bm, 2, none⟩ (.bool v)).drew).cell? ⟨Bh, j, none⟩ = wx.cell? ⟨Bh, j, none⟩ := fun j => (World.cell?_setCell_far _ _ _ _ hh)
  exact ⟨⟨(fb _).trans l0, (fb _).trans l1, (fb _).trans l2, (fb _).trans l3⟩, ⟨(fh _).trans c0, (fh _).trans c1, (fh _).trans c2, (fh _).trans c3⟩, ⟨⟨(World.cell?_setCell_other wx ⟨Bm, 2, none⟩ ⟨Bm, 0, none⟩ _ (by simp)).trans n0, (World.cell?_setCell_other wx ⟨Bm, 2, none⟩ ⟨Bm, 1, none⟩ _ (by simp)).trans n1, World.cell?_setCell_same wx ⟨Bm, 2, none⟩ _ n2, (World.cell?_setCell_other wx ⟨Bm, 2, none⟩ ⟨Bm, 3, none⟩ _ (by simp)).trans n3⟩, fun j => (World.frozen?_setCell _ _ _ _).trans (nf j)⟩, up_drew (up_set up hw _)⟩
theorem Stand.set3 {w wx : World} {b o Bh Bm : Nat} {p h : Rc} {m0 m1 m2 m3 : Bool} (s : Stand w b o Bh Bm p h m0 m1 m2 m3 wx) (hb : Bm ≠ b) (hh : Bm ≠ Bh) (hw : w.heap.size ≤ Bm) (v : Bool) : Stand w b o Bh Bm p h m0 m1 m2 v (wx.setCell ⟨Bm, 3, none⟩ (.bool v)).drew := by
  obtain ⟨⟨l0, l1, l2, l3⟩, ⟨c0, c1, c2, c3⟩, ⟨⟨n0, n1, n2, n3⟩, nf⟩, up⟩ := s
  have fb : ∀ j, ((wx.setCell ⟨Bm, 3, none⟩ (.bool v)).drew).cell? ⟨b, j, none⟩ = wx.cell? ⟨b, j, none⟩ := fun j => (World.cell?_setCell_far _ _ _ _ hb)
  have fh : ∀ j, ((wx.setCell ⟨Bm, 3, none⟩ (.bool v)).drew).cell? ⟨Bh, j, none⟩ = wx.cell? ⟨Bh, j, none⟩ := fun j => (World.cell?_setCell_far _ _ _ _ hh)
  exact ⟨⟨(fb _).trans l0, (fb _).trans l1, (fb _).trans l2, (fb _).trans l3⟩, ⟨(fh _).trans c0, (fh _).trans c1, (fh _).trans c2, (fh _).trans c3⟩, ⟨⟨(World.cell?_setCell_other wx ⟨Bm, 3, none⟩ ⟨Bm, 0, none⟩ _ (by simp)).trans n0, (World.cell?_setCell_other wx ⟨Bm, 3, none⟩ ⟨Bm, 1, none⟩ _ (by simp)).trans n1, (World.cell?_setCell_other wx ⟨Bm, 3, none⟩ ⟨Bm, 2, none⟩ _ (by simp)).trans n2, World.cell?_setCell_same wx ⟨Bm, 3, none⟩ _ n3⟩, fun j => (World.frozen?_setCell _ _ _ _).trans (nf j)⟩, up_drew (up_set up hw _)⟩

def LawRel (l : List Rc) (w : World) (Bh Bm : Nat) (s i : Value) (wr : World) : Prop := ∃ k : Nat, k ≤ l.length ∧ i = .int .i64 (k : Int) ∧ s = .bool (anyR (fun _ => true) (l.take k)) ∧ C4 wr Bh (hullR l).x0 (hullR l).y0 (hullR l).x1 (hullR l).y1 ∧
  M4 wr Bm (anyR (fun p => p.x0 == (hullR l).x0) (l.take k)) (anyR (fun p => p.y0 == (hullR l).y0) (l.take k)) (anyR (fun p => p.x1 == (hullR l).x1) (l.take k)) (anyR (fun p => p.y1 == (hullR l).y1) (l.take k)) ∧ Below w.heap.size w wr

theorem run_met (w : World) : (binOp .eql 30 (.agg #[.bool true, .bool true, .bool true, .bool true]) (.agg #[.bool true, .bool true, .bool true, .bool true])).run Try.prog w = .ok (.bool true) w := by kernel_rfl

set_option maxHeartbeats 4000000 in
set_option maxRecDepth 100000 in
theorem law_any (b off cap : Nat) (l : List Rc) (w : World) (hl : 0 < l.length) (hm : l.length ≤ 40) (hc : InR w b off l) :
    Calls Try.prog 4 #[.slice (some ⟨b, off, none⟩) l.length cap] w fun e w' => e = .returned (.bool true) ∧ Below w.heap.size w w' := by
  have KH := fun (w' : World) (h : Below w.heap.size w w') => hull_any b off cap l w' hl (by omega) (hc.up h)
  have HC := Lib.hid hc; clear hc
  have mz := @hull_zero l
  have mm := @hull_met l
  have HZ := Lib.hid mz; have HM := Lib.hid mm
  have HW := Lib.hid (fun k p => @hull_has l k p)
  clear mz mm
  generalize hn : l.length = n at *
  have HN := Lib.hid hn; clear hn
  obtain ⟨h, hh⟩ : ∃ h, hullR l = h := ⟨_, rfl⟩
  rw [hh] at KH
  have HH := Lib.hid hh
  clear hh
  obtain ⟨h0, h1, h2, h3⟩ := h
  have HK := Lib.hid KH
  clear KH
  have g40 : decide ((40 : Int) < (n : Int)) = false := by simp; omega
  go_enter Try.func4, Try.ntmps4
  go_wp2_with (go_at_call 8; refine (alive_any _).mono ?_; rintro e w1 ⟨rfl, hb⟩; have HB := Lib.hid hb; clear hb)
  refine (HK.out _ HB.out).mono ?_
  rintro e w2 ⟨rfl, hb⟩
  have HB2 := Lib.hid (up_trans HB.out hb)
  clear hb HB
  go_wp2_with fail
  go_loopw [4, 6] (fun s i wr => LawRel l w w2.heap.size (w2.heap.size + 1) s i wr) (fun _ i _ => n - (intOf i).toNat)
  case atStart =>
    refine ⟨0, by omega, by go_num, by simp [anyR], ?_, ⟨⟨by simp [go_sem, anyR], by simp [go_sem, anyR], by simp [go_sem, anyR], by simp [go_sem, anyR]⟩, fun j => by simp [go_sem]⟩, up_alloc (up_alloc HB2.out _) _⟩
    rw [HH.out]
    exact (C4.new w2 _ h0 h1 h2 h3).alloc _
  case round =>
    obtain ⟨k, hk, rfl, rfl, H, M, hb⟩ := hrel
    rw [HN.out] at hk
    rw [HH.out] at H M
    by_cases hlt : k < n
    · obtain ⟨p, hp⟩ : ∃ p, l[k]? = some p := ⟨l[k]'(by rw [HN.out]; exact hlt), List.getElem?_eq_getElem _⟩
      have L : L4 wr b (off + k * 4) p := HC.out.up hb k p hp
      have a := anyR_take hp (fun _ => true)
      have a0 := anyR_take hp (fun p => p.x0 == h0)
      have a1 := anyR_take hp (fun p => p.y0 == h1)
      have a2 := anyR_take hp (fun p => p.x1 == h2)
      have a3 := anyR_take hp (fun p => p.y1 == h3)
      have KE := fun w => refEmpty_b p.x0 p.y0 p.x1 p.y1 w
      have KW := fun w => refWithin_any p.x0 p.y0 p.x1 p.y1 h0 h1 h2 h3 w
      have ww := HW.out k p hp
      rw [HH.out] at ww
      unfold ne4 at a a0 a1 a2 a3 ww
      generalize withinR p.x0 p.y0 p.x1 p.y1 h0 h1 h2 h3 = V at *
      generalize emp4 p.x0 p.y0 p.x1 p.y1 = E at *
      generalize anyR (fun _ => true) (l.take k) = S at *
      simp only at M
      generalize anyR (fun p => p.x0 == h0) (l.take k) = m0 at *
      generalize anyR (fun p => p.y0 == h1) (l.take k) = m1 at *
      generalize anyR (fun p => p.x1 == h2) (l.take k) = m2 at *
      generalize anyR (fun p => p.y1 == h3) (l.take k) = m3 at *
      obtain ⟨p0, p1, p2, p3⟩ := p
      have z0 : (0 : Int) ≤ (k : Int) := by omega
      have z1 : (k : Int) < (n : Int) := by omega
      have HP := Lib.hid hp
      clear hp
      cases E
      · obtain rfl : V = true := ww rfl
        simp only [Bool.not_false, Bool.true_and] at a a0 a1 a2 a3
        have A := Lib.hid a; have A0 := Lib.hid a0; have A1 := Lib.hid a1; have A2 := Lib.hid a2; have A3 := Lib.hid a3; have HE := Lib.hid KE; have HV := Lib.hid KW; have Hb := Lib.hid hb; have HL := Lib.hid L; have Hh := Lib.hid H; have Hm := Lib.hid M
        clear a a0 a1 a2 a3 KE KW ww hb
        obtain ⟨l0, l1, l2, l3⟩ := L
        obtain ⟨c0, c1, c2, c3⟩ := H
        clear M c0 c1 c2 c3
        go_wp2_with (go_at_call 12; (refine (HE.out _).mono ?_); rintro e w4 ⟨rfl, hb⟩; have HL' := Lib.hid (HL.out.up hb); have Hh' := Lib.hid (Hh.out.up hb); have Hm' := Lib.hid (Hm.out.up hb); have Hb' := Lib.hid (up_trans Hb.out hb); clear hb)
        clear l0 l1 l2 l3
        have jL0 := fun u : Later w4 => u.cell HL'.out.1; have jL1 := fun u : Later w4 => u.cell HL'.out.2.1; have jL2 := fun u : Later w4 => u.cell HL'.out.2.2.1; have jL3 := fun u : Later w4 => u.cell HL'.out.2.2.2
        have jH0 := fun u : Later w4 => u.cell Hh'.out.1; have jH1 := fun u : Later w4 => u.cell Hh'.out.2.1; have jH2 := fun u : Later w4 => u.cell Hh'.out.2.2.1; have jH3 := fun u : Later w4 => u.cell Hh'.out.2.2.2
        refine later_start (w := w4) ?_
        intro u
        refine wp_region_later (by kernel_rfl) (by kernel_rfl) ?_
        repeat (go_big_quiet_step ((go_at_call 15; with_reducible exact Later.call (HV.out _))))
        refine wpQuiet_nil ?_
        rintro _ ⟨u2, rfl⟩
        clear jL0 jL1 jL2 jL3 jH0 jH1 jH2 jH3
        have st : Stand w b (off + k * 4) w2.heap.size (w2.heap.size + 1) ⟨p0, p1, p2, p3⟩ ⟨h0, h1, h2, h3⟩ m0 m1 m2 m3 u2.now := ⟨HL'.out.up u2.up, Hh'.out.up u2.up, Hm'.out.up u2.up, up_trans Hb'.out u2.up⟩
        generalize u2.now = w5 at *
        have hbm : b < w.heap.size := World.block_lt_of_cell? w _ (HC.out k _ HP.out).1
        have hbn : w.heap.size ≤ w2.heap.size := HB2.out.size
        clear HL' Hh' Hm' Hb' HL Hh Hm Hb HE HV
        have HT := Lib.hid st
        clear st
        go_upto_region 15 with fail
        go_cut [43] (fun s wx => Stand w b (off + k * 4) w2.heap.size (w2.heap.size + 1) ⟨p0, p1, p2, p3⟩ ⟨h0, h1, h2, h3⟩ (m0 || p0 == h0) m1 m2 m3 wx)
        case first =>
          obtain ⟨⟨l0, l1, l2, l3⟩, ⟨c0, c1, c2, c3⟩, ⟨⟨n0, n1, n2, n3⟩, nf⟩, hb⟩ := HT.out
          simp only at l0 l1 l2 l3 c0 c1 c2 c3
          clear hb l1 l2 l3 c1 c2 c3 n1 n2 n3
          cases m0
          all_goals
            as_aux_lemma =>
              go_region
              go_wp2_with fail
              go_meet
              exact HT.out.set0 (by omega) (by omega) (by omega) _
        case rest =>
          have HT := Lib.hid hcut
          clear hcut
          go_upto_region 16 with fail
          go_cut [56] (fun s wx => Stand w b (off + k * 4) w2.heap.size (w2.heap.size + 1) ⟨p0, p1, p2, p3⟩ ⟨h0, h1, h2, h3⟩ (m0 || p0 == h0) (m1 || p1 == h1) m2 m3 wx)
          case first =>
            obtain ⟨⟨l0, l1, l2, l3⟩, ⟨c0, c1, c2, c3⟩, ⟨⟨n0, n1, n2, n3⟩, nf⟩, hb⟩ := HT.out
            simp only at l0 l1 l2 l3 c0 c1 c2 c3
            clear hb l0 l2 l3 c0 c2 c3 n0 n2 n3
            cases m1
            all_goals
              as_aux_lemma =>
                go_region
                go_wp2_with fail
                go_meet
                exact HT.out.set1 (by omega) (by omega) (by omega) _
          case rest =>
            have HT := Lib.hid hcut
            clear hcut
            go_upto_region 17 with fail
            go_cut [69] (fun s wx => Stand w b (off + k * 4) w2.heap.size (w2.heap.size + 1) ⟨p0, p1, p2, p3⟩ ⟨h0, h1, h2, h3⟩ (m0 || p0 == h0) (m1 || p1 == h1) (m2 || p2 == h2) m3 wx)
            case first =>
              obtain ⟨⟨l0, l1, l2, l3⟩, ⟨c0, c1, c2, c3⟩, ⟨⟨n0, n1, n2, n3⟩, nf⟩, hb⟩ := HT.out
              simp only at l0 l1 l2 l3 c0 c1 c2 c3
              clear hb l0 l1 l3 c0 c1 c3 n0 n1 n3
              cases m2
              all_goals
                as_aux_lemma =>
                  go_region
                  go_wp2_with fail
                  go_meet
                  exact HT.out.set2 (by omega) (by omega) (by omega) _
            case rest =>
              have HT := Lib.hid hcut
              clear hcut
              go_upto_region 18 with fail
              obtain ⟨⟨l0, l1, l2, l3⟩, ⟨c0, c1, c2, c3⟩, ⟨⟨n0, n1, n2, n3⟩, nf⟩, hb⟩ := HT.out
              simp only at l0 l1 l2 l3 c0 c1 c2 c3
              clear hb l0 l1 l2 c0 c1 c2 n0 n1 n2
              have hne1 : w2.heap.size + 1 ≠ b := by omega
              have hne2 : w2.heap.size + 1 ≠ w2.heap.size := by omega
              have hne3 : w.heap.size ≤ w2.heap.size + 1 := by omega
              have HN1 := Lib.hid hne1; have HN2 := Lib.hid hne2; have HN3 := Lib.hid hne3
              clear hne1 hne2 hne3
              cases m3
              all_goals
                go_region
                go_wp2_with fail
                go_roundw
                case rel =>
                  obtain ⟨L, H, M, hb⟩ := HT.out.set3 HN1.out HN2.out HN3.out _
                  refine ⟨k + 1, by rw [HN.out]; omega, by go_num, by rw [A.out]; simp, ?_, ?_, hb⟩
                  · rw [HH.out]; exact H
                  · rw [HH.out]
                    simp only
                    rw [A0.out, A1.out, A2.out, A3.out]
                    exact M
                case measure => simp [intOf]; omega
      · simp only [Bool.not_true, Bool.false_and, Bool.or_false] at a a0 a1 a2 a3
        have A := Lib.hid a; have A0 := Lib.hid a0; have A1 := Lib.hid a1; have A2 := Lib.hid a2; have A3 := Lib.hid a3; have HE := Lib.hid KE; have Hb := Lib.hid hb; have HL := Lib.hid L; have Hh := Lib.hid H; have Hm := Lib.hid M
        clear a a0 a1 a2 a3 KE KW ww hb H M
        obtain ⟨l0, l1, l2, l3⟩ := L
        go_wp2_with (go_at_call 12; (refine (HE.out _).mono ?_); rintro e w4 ⟨rfl, hb⟩)
        go_roundw
        case rel =>
          refine ⟨k + 1, by rw [HN.out]; omega, by go_num, by rw [A.out], ?_, ?_, up_trans Hb.out hb⟩
          · rw [HH.out]; exact Hh.out.up hb
          · rw [HH.out]
            simp only
            rw [A0.out, A1.out, A2.out, A3.out]
            exact Hm.out.up hb
        case measure => simp [intOf]; omega
    · have hk2 : n ≤ k := by omega
      have e : l.take k = l := List.take_of_length_le (by rw [HN.out]; omega)
      rw [e] at M ⊢
      have z := HZ.out
      have y := HM.out
      rw [HH.out] at z y
      simp only at y M
      generalize anyR (fun _ => true) l = S at *
      generalize anyR (fun p => p.x0 == h0) l = m0 at *
      generalize anyR (fun p => p.y0 == h1) l = m1 at *
      generalize anyR (fun p => p.x1 == h2) l = m2 at *
      generalize anyR (fun p => p.y1 == h3) l = m3 at *
      have Hb := Lib.hid hb
      clear hb
      obtain ⟨⟨n0, n1, n2, n3⟩, nf⟩ := M
      obtain ⟨c0, c1, c2, c3⟩ := H
      cases S
      · have z := z rfl
        simp only [Rc.mk.injEq] at z
        obtain ⟨rfl, rfl, rfl, rfl⟩ := z
        clear y nf
        go_wp2
        go_ret
        exact ⟨rfl, Hb.out⟩
      · obtain ⟨rfl, rfl, rfl, rfl⟩ := y rfl
        clear z nf
        have q := fun w => run_met w
        go_wp2
        go_ret
        exact ⟨rfl, Hb.out⟩

set_option maxRecDepth 100000 in
set_option maxHeartbeats 400000 in
theorem law_none (a : Option Addr) (cap : Nat) (w : World) :
    Calls Try.prog 4 #[.slice a 0 cap] w fun e w' => e = .returned (.bool true) ∧ Below w.heap.size w w' := by
  have HK := Lib.hid (fun w => hull_none a cap w)
  go_enter Try.func4, Try.ntmps4
  go_wp2_with (go_at_call 8; refine (alive_any _).mono ?_; rintro e w1 ⟨rfl, hb⟩; have HB := Lib.hid hb; clear hb)
  refine (HK.out _).mono ?_
  rintro e w2 ⟨rfl, hb⟩
  have HB2 := Lib.hid (up_trans HB.out hb)
  clear hb HB
  go_wp2_with fail
  refine wp_loop_rounds 1 ?_
  rw [rounds_succ]
  go_wp2
  go_ret
  exact ⟨rfl, up_alloc (up_alloc HB2.out _) _⟩
set_option maxRecDepth 100000 in
theorem law_big (a : Option Addr) (len cap : Nat) (w : World) (h : 40 < len) :
    Calls Try.prog 4 #[.slice a len cap] w fun e w' => e = .returned (.bool true) ∧ Below w.heap.size w w' := by
  have g40 : decide ((40 : Int) < (len : Int)) = true := by simp; omega
  go_enter Try.func4, Try.ntmps4
  go_wp2_with (go_at_call 8; refine (alive_any _).mono ?_; rintro e w1 ⟨rfl, hb⟩; have HB := Lib.hid hb; clear hb)
  go_ret
  exact ⟨rfl, HB.out⟩

theorem walkBoxHulls (a : Option Addr) (len cap : Nat) (V : Nat → Nat → Int) (w : World)
    (h : (a = none ∧ len = 0 ∧ cap = 0) ∨ ∃ x, a = some x ∧ len ≤ cap ∧ cap ≤ maxLen ∧ ∀ i, i < len → ∀ j, j < 4 → w.cell? (x.add (i * 4 + j)) = some (.int .i64 (V i j)) ∧ (Lit.int .i64 (V i j)).wf = true) :
    Calls Try.prog 4 #[.slice a len cap] w fun e w' => e = .returned (.bool true) ∧ Below w.heap.size w w' := by
  rcases h with ⟨rfl, rfl, rfl⟩ | ⟨x, rfl, hl, hm, hc⟩
  · exact law_none none 0 w
  · by_cases h0 : len = 0
    · subst h0; exact law_none (some x) cap w
    by_cases h40 : 40 < len
    · exact law_big (some x) len cap w h40
    obtain ⟨b, off, spot⟩ := x
    have hspot : spot = none := by simpa [Addr.add] using World.cell?_spot (hc 0 (by omega) 0 (by omega)).1
    subst hspot
    have r := law_any b off cap ((List.range len).map fun i => ⟨V i 0, V i 1, V i 2, V i 3⟩) w (by simp; omega) (by simp; omega) ?_
    · rw [List.length_map, List.length_range] at r
      exact r
    · intro j p hp
      have hj : j < len := by
        have := (List.getElem?_eq_some_iff.1 hp).1
        simpa using this
      have hpe : p = ⟨V j 0, V j 1, V j 2, V j 3⟩ := by
        rw [List.getElem?_map, List.getElem?_range hj] at hp
        simpa using hp.symm
      subst hpe
      have ad : ∀ i, i < 4 → w.cell? ⟨b, off + j * 4 + i, none⟩ = some (.int .i64 (V j i)) := fun i hi => by
        have := (hc j hj i hi).1
        rw [Go.WideShapes.add_plain] at this
        rw [Nat.add_assoc]
        exact this
      exact ⟨ad 0 (by omega), ad 1 (by omega), ad 2 (by omega), ad 3 (by omega)⟩
end Go.Proofs.Ytgfbgmkooflhbaa
