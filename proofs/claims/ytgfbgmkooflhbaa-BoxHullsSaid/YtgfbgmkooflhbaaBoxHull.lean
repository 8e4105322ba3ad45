/- What box.around and box.Hull answer for every list of rectangles that came in. -/
import Derived.Test.YtgfbgmkooflhbaaBoxCells
import Derived.IntWalk
namespace Go.Proofs.Ytgfbgmkooflhbaa
open Go.RowKit
set_option linter.unusedVariables false

/-- The least rectangle that has both insides. -/
def aroundR (h r : Rc) : Rc := if emp4 h.x0 h.y0 h.x1 h.y1 = true then r else ⟨min h.x0 r.x0, min h.y0 r.y0, max h.x1 r.x1, max h.y1 r.y1⟩
/-- An empty one is passed by. -/
def stepR (h r : Rc) : Rc := if emp4 r.x0 r.y0 r.x1 r.y1 = true then h else aroundR h r
/-- The least rectangle about all. -/
def hullR (l : List Rc) : Rc := l.foldl stepR ⟨0, 0, 0, 0⟩
theorem stepR_pass (h : Rc) {p0 p1 p2 p3 : Int} (e : emp4 p0 p1 p2 p3 = true) : stepR h ⟨p0, p1, p2, p3⟩ = h := by unfold stepR; rw [if_pos e]
theorem stepR_take (h : Rc) {p0 p1 p2 p3 : Int} (e : emp4 p0 p1 p2 p3 = false) : stepR h ⟨p0, p1, p2, p3⟩ = aroundR h ⟨p0, p1, p2, p3⟩ := by unfold stepR; rw [if_neg (by rw [e]; decide)]

set_option maxHeartbeats 1000000 in
theorem around_any (a0 a1 a2 a3 b0 b1 b2 b3 : Int) (w : World) :
    Calls Try.prog 27 #[.agg #[.int .i64 a0, .int .i64 a1, .int .i64 a2, .int .i64 a3], .agg #[.int .i64 b0, .int .i64 b1, .int .i64 b2, .int .i64 b3]] w fun e w' => e = .returned (.agg #[.int .i64 (aroundR ⟨a0, a1, a2, a3⟩ ⟨b0, b1, b2, b3⟩).x0, .int .i64 (aroundR ⟨a0, a1, a2, a3⟩ ⟨b0, b1, b2, b3⟩).y0, .int .i64 (aroundR ⟨a0, a1, a2, a3⟩ ⟨b0, b1, b2, b3⟩).x1, .int .i64 (aroundR ⟨a0, a1, a2, a3⟩ ⟨b0, b1, b2, b3⟩).y1]) ∧ Below w.heap.size w w' := by
  obtain ⟨r, hr⟩ : ∃ r, aroundR ⟨a0, a1, a2, a3⟩ ⟨b0, b1, b2, b3⟩ = r := ⟨_, rfl⟩
  rw [hr]
  unfold aroundR at hr
  simp only at hr
  rw [← min_if a0 b0, ← min_if a1 b1, ← max_if a2 b2, ← max_if a3 b3] at hr
  obtain ⟨p0, e0⟩ : ∃ p, (if b0 < a0 then b0 else a0) = p := ⟨_, rfl⟩
  obtain ⟨p1, e1⟩ : ∃ p, (if b1 < a1 then b1 else a1) = p := ⟨_, rfl⟩
  obtain ⟨p2, e2⟩ : ∃ p, (if a2 < b2 then b2 else a2) = p := ⟨_, rfl⟩
  obtain ⟨p3, e3⟩ : ∃ p, (if a3 < b3 then b3 else a3) = p := ⟨_, rfl⟩
  rw [e0, e1, e2, e3] at hr
  have K := fun w => empty_any a0 a1 a2 a3 w
  cases h : emp4 a0 a1 a2 a3
  · rw [if_neg (by rw [h]; decide)] at hr
    rw [h] at K
    subst hr
    have HK := Lib.hid K
    clear K h
    go_enter Try.func27, Try.ntmps27
    go_wp2_with (go_at_call 13; refine (HK.out _).mono ?_; rintro e w' ⟨rfl, rfl⟩)
    refine bodyPost_ret (v := .agg #[.int .i64 p0, .int .i64 p1, .int .i64 p2, .int .i64 p3]) (by simp [results, Try.results27, go_sem]) rfl ⟨rfl, ?_⟩
    repeat (first | exact Below.refl _ _ | apply up_alloc | (refine up_set ?_ (by simp; omega) _))
  · rw [if_pos h] at hr
    rw [h] at K
    subst hr
    have HK := Lib.hid K
    clear K h
    go_enter Try.func27, Try.ntmps27
    go_wp2_with (go_at_call 13; refine (HK.out _).mono ?_; rintro e w' ⟨rfl, rfl⟩)
    refine bodyPost_ret (v := .agg #[.int .i64 b0, .int .i64 b1, .int .i64 b2, .int .i64 b3]) (by simp [results, Try.results27, go_sem]) rfl ⟨rfl, ?_⟩
    repeat (first | exact Below.refl _ _ | apply up_alloc | (refine up_set ?_ (by simp; omega) _))

/-- A box whose cells may be written. -/
def B4 (w : World) (B : Nat) (r : Rc) : Prop := C4 w B r.x0 r.y0 r.x1 r.y1 ∧ ∀ j, w.frozen? ⟨B, j, none⟩ = false
theorem B4.up {w w' : World} {B : Nat} {r : Rc} (h : B4 w B r) (hb : Below w.heap.size w w') : B4 w' B r := ⟨h.1.up hb, fun j => (kept_marks hb B j (World.block_lt_of_cell? w _ h.1.1)).trans (h.2 j)⟩
theorem B4.alloc {w : World} {B : Nat} {r : Rc} (h : B4 w B r) (o : Obj) : B4 (w.alloc o) B r := h.up (up_alloc (Below.refl _ _) o)
theorem B4.far {w : World} {B : Nat} {r : Rc} (h : B4 w B r) {p : Addr} (hp : p.block ≠ B) (v : Value) : B4 (w.setCell p v) B r :=
  ⟨⟨(World.cell?_setCell_far _ _ _ _ hp).trans h.1.1, (World.cell?_setCell_far _ _ _ _ hp).trans h.1.2.1, (World.cell?_setCell_far _ _ _ _ hp).trans h.1.2.2.1, (World.cell?_setCell_far _ _ _ _ hp).trans h.1.2.2.2⟩, fun j => by rw [World.frozen?_setCell]; exact h.2 j⟩
theorem B4.set {w : World} {B : Nat} {r : Rc} (h : B4 w B r) (q : Rc) :
    B4 ((((w.setCell ⟨B, 0, none⟩ (.int .i64 q.x0)).setCell ⟨B, 1, none⟩ (.int .i64 q.y0)).setCell ⟨B, 2, none⟩ (.int .i64 q.x1)).setCell ⟨B, 3, none⟩ (.int .i64 q.y1)) B q := by
  obtain ⟨⟨c0, c1, c2, c3⟩, f⟩ := h
  have o : ∀ (w : World) (i j : Nat) (v : Value), i ≠ j → (w.setCell ⟨B, i, none⟩ v).cell? ⟨B, j, none⟩ = w.cell? ⟨B, j, none⟩ := fun w i j v hij => World.cell?_setCell_other _ _ _ _ (by simp)
  refine ⟨⟨?_, ?_, ?_, ?_⟩, fun j => by simp only [World.frozen?_setCell]; exact f j⟩
  · rw [o _ _ _ _ (by decide), o _ _ _ _ (by decide), o _ _ _ _ (by decide)]; exact World.cell?_setCell_same _ _ _ c0
  · rw [o _ _ _ _ (by decide), o _ _ _ _ (by decide)]; exact World.cell?_setCell_same _ _ _ ((o _ _ _ _ (by decide)).trans c1)
  · rw [o _ _ _ _ (by decide)]; exact World.cell?_setCell_same _ _ _ ((o _ _ _ _ (by decide)).trans ((o _ _ _ _ (by decide)).trans c2))
  · exact World.cell?_setCell_same _ _ _ ((o _ _ _ _ (by decide)).trans ((o _ _ _ _ (by decide)).trans ((o _ _ _ _ (by decide)).trans c3)))

/-- The rectangles that came in lie at block b, from off on. -/
def InR (w : World) (b off : Nat) (l : List Rc) : Prop := ∀ j p, l[j]? = some p → w.cell? ⟨b, off + j * 4, none⟩ = some (.int .i64 p.x0) ∧ w.cell? ⟨b, off + j * 4 + 1, none⟩ = some (.int .i64 p.y0) ∧ w.cell? ⟨b, off + j * 4 + 2, none⟩ = some (.int .i64 p.x1) ∧ w.cell? ⟨b, off + j * 4 + 3, none⟩ = some (.int .i64 p.y1)
theorem InR.up {w w' : World} {b off : Nat} {l : List Rc} (h : InR w b off l) (hb : Below w.heap.size w w') : InR w' b off l := fun j p hp => by
  obtain ⟨c0, c1, c2, c3⟩ := h j p hp
  exact ⟨bl_cell hb c0, bl_cell hb c1, bl_cell hb c2, bl_cell hb c3⟩

def HullRel (l : List Rc) (w : World) (i : Value) (wr : World) : Prop := ∃ k : Nat, k ≤ l.length ∧ i = .int .i64 (k : Int) ∧ B4 wr w.heap.size ⟨0, 0, 0, 0⟩ ∧ B4 wr (w.heap.size + 1) ((l.take k).foldl stepR ⟨0, 0, 0, 0⟩) ∧ Below w.heap.size w wr

theorem hull_none (a : Option Addr) (cap : Nat) (w : World) :
    Calls Try.prog 17 #[.slice a 0 cap] w fun e w' => e = .returned (.agg #[.int .i64 0, .int .i64 0, .int .i64 0, .int .i64 0]) ∧ Below w.heap.size w w' := by
  go_enter Try.func17, Try.ntmps17
  go_wp2
  refine wp_loop_rounds 1 ?_
  rw [rounds_succ]
  go_wp2
  refine bodyPost_ret (v := .agg #[.int .i64 0, .int .i64 0, .int .i64 0, .int .i64 0]) (by simp [results, Try.results17, go_sem]) rfl ⟨rfl, ?_⟩
  repeat (first | exact Below.refl _ _ | apply up_alloc | (refine up_set ?_ (by simp; omega) _))

set_option maxHeartbeats 2000000 in
theorem hull_any (b off cap : Nat) (l : List Rc) (w : World) (hl : 0 < l.length) (hm : l.length ≤ 1000000) (hc : InR w b off l) :
    Calls Try.prog 17 #[.slice (some ⟨b, off, none⟩) l.length cap] w fun e w' => e = .returned (.agg #[.int .i64 (hullR l).x0, .int .i64 (hullR l).y0, .int .i64 (hullR l).x1, .int .i64 (hullR l).y1]) ∧ Below w.heap.size w w' := by
  have HC := Lib.hid hc; clear hc
  generalize hn : l.length = n at *
  have HN := Lib.hid hn; clear hn
  go_enter Try.func17, Try.ntmps17
  go_wp2
  go_loopw [9] (fun i wr => HullRel l w i wr) (fun i _ => n - (intOf i).toNat)
  case atStart =>
    refine ⟨0, by omega, by go_num, ⟨⟨by simp [go_sem], by simp [go_sem], by simp [go_sem], by simp [go_sem]⟩, fun j => by simp [go_sem]⟩, ⟨⟨by simp [go_sem], by simp [go_sem], by simp [go_sem], by simp [go_sem]⟩, fun j => by simp [go_sem]⟩, up_alloc (up_alloc (Below.refl _ _) _) _⟩
  case round =>
    obtain ⟨k, hk, rfl, R, H, hb⟩ := hrel
    rw [HN.out] at hk
    by_cases hlt : k < n
    · obtain ⟨p, hp⟩ : ∃ p, l[k]? = some p := ⟨l[k]'(by rw [HN.out]; exact hlt), List.getElem?_eq_getElem _⟩
      obtain ⟨c0, c1, c2, c3⟩ := HC.out.up hb k p hp
      have hs : (l.take (k + 1)).foldl stepR ⟨0, 0, 0, 0⟩ = stepR ((l.take k).foldl stepR ⟨0, 0, 0, 0⟩) p := by
        rw [List.take_add_one, hp]; simp
      generalize (l.take k).foldl stepR ⟨0, 0, 0, 0⟩ = h at *
      obtain ⟨p0, p1, p2, p3⟩ := p
      obtain ⟨h0, h1, h2, h3⟩ := h
      simp only at c0 c1 c2 c3
      have KE := fun w => empty_any p0 p1 p2 p3 w
      have sy := @stepR_pass ⟨h0, h1, h2, h3⟩ p0 p1 p2 p3
      have sn := @stepR_take ⟨h0, h1, h2, h3⟩ p0 p1 p2 p3
      generalize emp4 p0 p1 p2 p3 = E at *
      have HE := Lib.hid KE; have HB := Lib.hid hb; have HR := Lib.hid R; have HH := Lib.hid H; have HP := Lib.hid hp
      clear KE hb R H hp
      have z0 : (0 : Int) ≤ (k : Int) := by omega
      have z1 : (k : Int) < (n : Int) := by omega
      cases E
      · have HS := Lib.hid (hs.trans (sn rfl))
        have KA := fun w => around_any h0 h1 h2 h3 p0 p1 p2 p3 w
        clear hs sy sn
        generalize aroundR ⟨h0, h1, h2, h3⟩ ⟨p0, p1, p2, p3⟩ = q at *
        obtain ⟨q0, q1, q2, q3⟩ := q
        have HA := Lib.hid KA
        clear KA
        have H' := (HH.out.alloc (.cells #[.int .i64 p0, .int .i64 p1, .int .i64 p2, .int .i64 p3] 23)).alloc (.cells #[.int .i64 p0, .int .i64 p1, .int .i64 p2, .int .i64 p3] 23)
        obtain ⟨⟨y0, y1, y2, y3⟩, yf⟩ := H'
        go_wp2_with (go_at_call 13; refine (HE.out _).mono ?_; rintro e w' ⟨rfl, rfl⟩)
        refine (HA.out _).mono ?_
        rintro e w3 ⟨rfl, hb⟩
        have H3 := ((HH.out.alloc _).alloc _).up hb
        have R3 := ((HR.out.alloc _).alloc _).up hb
        have B3 := up_trans (up_alloc (up_alloc HB.out _) _) hb
        have D3 := Lib.hid H3; have S3 := Lib.hid R3; have T3 := Lib.hid B3
        clear y0 y1 y2 y3 yf R3 B3 hb
        obtain ⟨⟨x0, x1, x2, x3⟩, xf⟩ := H3
        go_wp2
        go_roundw
        case rel =>
          refine ⟨k + 1, by rw [HN.out]; omega, by go_num, ?_, ?_, ?_⟩
          · exact (((S3.out.far (by simp) _).far (by simp) _).far (by simp) _).far (by simp) _
          · rw [HS.out]
            exact D3.out.set ⟨q0, q1, q2, q3⟩
          · exact up_set (up_set (up_set (up_set T3.out (by simp) _) (by simp) _) (by simp) _) (by simp) _
        case measure => simp [intOf]; omega
      · have HS := Lib.hid (hs.trans (sy rfl))
        clear hs sy sn
        go_wp2_with (go_at_call 13; refine (HE.out _).mono ?_; rintro e w' ⟨rfl, rfl⟩)
        go_roundw
        case rel =>
          refine ⟨k + 1, by rw [HN.out]; omega, by go_num, (HR.out.alloc _).alloc _, ?_, up_alloc (up_alloc HB.out _) _⟩
          rw [HS.out]
          exact (HH.out.alloc _).alloc _
        case measure => simp [intOf]; omega
    · have hk2 : n ≤ k := by omega
      have e : (l.take k).foldl stepR ⟨0, 0, 0, 0⟩ = hullR l := by
        rw [List.take_of_length_le (by rw [HN.out]; omega)]; rfl
      rw [e] at H
      have HB := Lib.hid hb
      clear hb e
      obtain ⟨q, hq⟩ : ∃ q, hullR l = q := ⟨_, rfl⟩
      rw [hq] at H
      obtain ⟨q0, q1, q2, q3⟩ := q
      have HQ := Lib.hid hq
      clear hq
      have HS := Lib.hid (R.set ⟨q0, q1, q2, q3⟩)
      obtain ⟨⟨r0, r1, r2, r3⟩, rf⟩ := R
      obtain ⟨⟨c0, c1, c2, c3⟩, cf⟩ := H
      simp only at c0 c1 c2 c3
      go_wp2
      obtain ⟨⟨s0, s1, s2, s3⟩, _⟩ := HS.out
      refine bodyPost_ret (v := .agg #[.int .i64 q0, .int .i64 q1, .int .i64 q2, .int .i64 q3]) (by simp [results, Try.results17, go_sem, s0, s1, s2, s3]) rfl ⟨by rw [HQ.out], ?_⟩
      exact up_set (up_set (up_set (up_set HB.out (by simp) _) (by simp) _) (by simp) _) (by simp) _
end Go.Proofs.Ytgfbgmkooflhbaa
