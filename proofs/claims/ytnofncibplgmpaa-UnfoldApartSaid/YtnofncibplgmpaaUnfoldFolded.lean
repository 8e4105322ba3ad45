/- What unfold.folded answers: of a right scheme, one pile of all panels, as the document's own way of folding has them. -/
import Derived.Test.YtnofncibplgmpaaUnfoldSheet
namespace Go.Proofs.Ytnofncibplgmpaa
open Go.RowKit
set_option linter.unusedVariables false

/-- All steps, one behind the other. -/
def goL : Int → Int → List Rp → List Sp → List Rp
  | _, _, l, [] => l
  | c, r, l, p :: ps => goL (newC p.d p.n c) (newR p.d p.n r) (stepR p.d p.n p.u c r l) ps
/-- A sheet that isn't folded yet. -/
def initL (c r : Int) : List Rp := (List.range (c * r).toNat).map fun (k : Nat) => ⟨(k : Int), (k : Int).tmod c, (k : Int).tdiv c, false, false⟩
/-- The panels of a scheme, from above. -/
def foldL (s : Sc) : List Rp := goL s.c s.r (initL s.c s.r) s.l

theorem can_aft {c r d n c' r' : Int} (h : aft c r d n = (c', r', true)) : Can d n c r ∧ c' = newC d n c ∧ r' = newR d n r := by
  obtain ⟨⟨h0, h1⟩, h2⟩ := aft_yes (c := c) (r := r) (d := d) (n := n) (by rw [h])
  rcases h2 with ⟨e1, e2, e⟩ | ⟨e1, e2, e⟩
  · rw [h] at e
    simp only [Prod.mk.injEq] at e
    exact ⟨⟨h1.1.1, h1.1.2, h1.2.1, h0.1, h0.2, by rw [if_pos e1]; exact e2⟩, by unfold newC; rw [if_pos e1]; exact e.1, by unfold newR; rw [if_pos e1]; exact e.2.1⟩
  · rw [h] at e
    simp only [Prod.mk.injEq] at e
    have e1' : ¬ d ≤ 2 := by omega
    exact ⟨⟨h1.1.1, h1.1.2, h1.2.1, h0.1, h0.2, by rw [if_neg e1']; exact e2⟩, by unfold newC; rw [if_neg e1']; exact e.1, by unfold newR; rw [if_neg e1']; exact e.2.1⟩
/-- The first step of steps that leave one panel. -/
theorem allM_first {c r : Int} {p : Sp} {l : List Sp} (h : allM c r (p :: l) = (1, 1, true)) : Can p.d p.n c r ∧ allM (newC p.d p.n c) (newR p.d p.n r) l = (1, 1, true) := by
  cases hz : (aft c r p.d p.n).2.2
  · rw [allM_no (aft_no hz)] at h
    cases h
  · obtain ⟨x', y', hz'⟩ : ∃ x' y', aft c r p.d p.n = (x', y', true) := ⟨(aft c r p.d p.n).1, (aft c r p.d p.n).2.1, by rw [← hz]⟩
    obtain ⟨h1, rfl, rfl⟩ := can_aft hz'
    rw [allM_yes hz'] at h
    exact ⟨h1, h⟩
theorem right_bounds {s : Sc} (h : rightM s = true) : (1 ≤ s.c ∧ s.c ≤ 64) ∧ (1 ≤ s.r ∧ s.r ≤ 64) ∧ s.c * s.r ≤ 64 ∧ s.l.length ≤ 6 ∧ allM s.c s.r s.l = (1, 1, true) := by
  unfold rightM at h
  simp only [Bool.and_eq_true, decide_eq_true_eq, beq_iff_eq] at h
  obtain ⟨⟨h1, h2⟩, h3, h4, h5, h6⟩ := h
  unfold panM at h1 h2
  by_cases hs : (sideB s.c && sideB s.r) = true
  · rw [if_pos hs] at h1 h2
    rw [Bool.and_eq_true] at hs
    have s1 := sideB_true hs.1
    have s2 := sideB_true hs.2
    unfold allS at h4 h5 h6
    rw [if_pos ⟨s1.1, s2.1⟩] at h4 h5 h6
    exact ⟨s1, s2, h2, h3, Prod.ext h5 (Prod.ext h6 h4)⟩
  · rw [if_neg hs] at h1
    omega

theorem init_in {c r : Int} (hc : 1 ≤ c) (hr : 1 ≤ r) : InR c r (initL c r) := by
  intro p hp
  obtain ⟨k, hk, rfl⟩ := List.mem_map.1 hp
  have hp : 0 ≤ c * r := Int.mul_nonneg (by omega) (by omega)
  obtain ⟨x, y, e1, e2, b0, b1, b2, b3, b4⟩ := split_place k c r hc (by have := List.mem_range.1 hk; omega)
  simp only [e1, e2]
  omega
theorem init_length (c r : Int) : (initL c r).length = (c * r).toNat := by simp [initL]
/-- Just one panel lies at each place. -/
theorem range_filter (n k : Nat) (hk : k < n) : (List.range n).filter (fun i => decide (i = k)) = [k] := by
  induction n with
  | zero => omega
  | succ n ih =>
    rw [List.range_succ, List.filter_append]
    by_cases e : k = n
    · subst e
      have : (List.range k).filter (fun i => decide (i = k)) = [] := by
        rw [List.filter_eq_nil_iff]
        intro i hi
        have := List.mem_range.1 hi
        simp
        omega
      rw [this]
      simp
    · rw [ih (by omega)]
      have : ¬ n = k := fun h => e h.symm
      simp [this]
theorem init_pile {c r x y : Int} (hc : 1 ≤ c) (hx : 0 ≤ x ∧ x < c) (hy : 0 ≤ y ∧ y < r) : pileL (initL c r) x y = [⟨y * c + x, false, false⟩] := by
  have hi := idx_lt hx hy
  have h : (List.range (c * r).toNat).filter (fun (k : Nat) => atB x y (⟨(k : Int), (k : Int).tmod c, (k : Int).tdiv c, false, false⟩ : Rp)) = [(y * c + x).toNat] := by
    rw [← range_filter (c * r).toNat (y * c + x).toNat (by omega)]
    refine List.filter_congr fun k hk => ?_
    have hk := List.mem_range.1 hk
    obtain ⟨x', y', e1, e2, b0, b1, b2, b3, b4⟩ := split_place k c r hc (by omega)
    rw [Bool.eq_iff_iff]
    simp only [atB, e1, e2, Bool.and_eq_true, decide_eq_true_eq]
    constructor
    · rintro ⟨rfl, rfl⟩; omega
    · intro h
      subst h
      obtain ⟨t1, t2⟩ := td y x c hy.1 hx.1 hx.2
      rw [show (((y * c + x).toNat : Nat) : Int) = y * c + x by omega] at e1 e2
      exact ⟨e1.symm.trans t2, e2.symm.trans t1⟩
  unfold pileL initL
  rw [List.filter_map, List.map_map]
  show List.map _ ((List.range (c * r).toNat).filter (fun (k : Nat) => atB x y (⟨(k : Int), (k : Int).tmod c, (k : Int).tdiv c, false, false⟩ : Rp))) = _
  rw [h]
  simp [toPc]
  omega
/-- All panels of a sheet of one. -/
theorem pile_all {l : List Rp} (h : InR 1 1 l) : pileL l 0 0 = l.map toPc := by
  unfold pileL
  rw [List.filter_eq_self.2]
  intro p hp
  have := h p hp
  simp [atB]
  omega

def FoldRel (w : World) (base n : Nat) (ls : List Sp) (F : List Rp) (g i : Value) (wr : World) : Prop :=
  ∃ (k G : Nat) (c r : Int) (l : List Rp), k ≤ n ∧ g = .pointer (some ⟨G, 0, none⟩) ∧ i = .int .i64 (k : Int) ∧ Hid (Sheet wr base G c r (pileL l)) ∧ Hid (InR c r l) ∧ Hid (l.length ≤ 64) ∧ Hid (allM c r (ls.drop k) = (1, 1, true)) ∧ Hid (goL c r l (ls.drop k) = F) ∧ Below w.heap.size w wr

set_option maxHeartbeats 1000000 in
theorem folded_yes (s : Sc) (a : Option Addr) (cap : Nat) (w : World) (hI : InL w a s.l) (hr : rightM s = true) :
    Calls Try.prog 13 #[.agg #[.int .i64 s.c, .int .i64 s.r, .slice a s.l.length cap]] w fun e w' => ∃ D R, e = .returned (.pointer (some ⟨D, 0, none⟩)) ∧ Dp w' w.heap.size D R ((foldL s).map toPc) ∧ Below w.heap.size w w' := by
  obtain ⟨hc, hrr, hm, hl6, hall⟩ := right_bounds hr
  have KR := fun w1 (h : Below w.heap.size w w1) => schRight_any s a cap w1 (by omega) (by omega) (by omega) (hI.up h)
  rw [hr] at KR
  have KF := fun w1 => flat_any s.c s.r hc hrr w1
  have hgo : goL s.c s.r (initL s.c s.r) s.l = foldL s := rfl
  have hlen0 : (initL s.c s.r).length ≤ 64 := by rw [init_length]; omega
  have hin0 := init_in hc.1 hrr.1
  have hpl := fun x y h1 h2 => init_pile (r := s.r) (x := x) (y := y) hc.1 h1 h2
  obtain ⟨F, hF⟩ : ∃ F, foldL s = F := ⟨_, rfl⟩
  rw [hF] at hgo ⊢
  have HI := Lib.hid hI; have HR := Lib.hid KR; have HF := Lib.hid KF; have HGo := Lib.hid hgo; have HL0 := Lib.hid hlen0; have HN0 := Lib.hid hin0; have HPl := Lib.hid hpl; have HAll := Lib.hid hall
  obtain ⟨c, r, ls⟩ := s
  simp only at HI HR HF HGo HL0 HN0 HPl HAll hl6 hc ⊢
  clear hI KR KF hgo hlen0 hin0 hpl hall hF hr hrr hm
  obtain ⟨n, hn⟩ : ∃ n, ls.length = n := ⟨_, rfl⟩
  rw [hn] at hl6 HR ⊢
  have HN := Lib.hid hn
  clear hn
  have hb0 := up_alloc (Below.refl _ w) (.cells #[.int .i64 c, .int .i64 r, .slice a n cap] 24)
  have HB0 := Lib.hid hb0
  clear hb0
  go_enter Try.func13, Try.ntmps13
  go_wp2_with fail
  refine (HR.out _ HB0.out).mono ?_
  rintro e w1 ⟨rfl, hb⟩
  have A1 := (Bx.new w 24 [.int .i64 c, .int .i64 r, .slice a n cap]).up hb
  have B1 := Lib.hid (up_trans HB0.out hb)
  have a0 := A1.cell 0 rfl; have a1 := A1.cell 1 rfl; have a2 := A1.cell 2 rfl
  clear hb
  go_wp2_with fail
  refine (HF.out _).mono ?_
  rintro e w2 hfl
  obtain ⟨G, rfl, hS, hb⟩ := sheet_flat hfl
  have A2 := A1.up hb
  have b2 := A2.cell 2 rfl
  have hS2 := Lib.hid (hS.piles (Q := pileL (initL c r)) (fun x y h1 h2 => (HPl.out x y h1 h2).symm))
  have B2 := Lib.hid (up_trans B1.out hb)
  clear a0 a1 a2 hb A1 A2 hS hfl
  go_wp2
  have hsz := B1.out.size
  go_loopw [3, 19] (fun g i wr => FoldRel w w1.heap.size n ls F g i wr) (fun _ i _ => n - (intOf i).toNat)
  case atStart => exact ⟨0, G, c, r, initL c r, by omega, rfl, by go_num, hS2, HN0, HL0, by rw [List.drop_zero]; exact HAll, by rw [List.drop_zero]; exact HGo, B2.out⟩
  case round =>
    obtain ⟨k, G, c, r, l, hk, rfl, rfl, HS, HIn, HLn, HM, HG, hb⟩ := hrel
    by_cases hlt : k < n
    · obtain ⟨p, hp⟩ : ∃ p, ls[k]? = some p := ⟨ls[k]'(by rw [HN.out]; exact hlt), List.getElem?_eq_getElem _⟩
      obtain ⟨b, off, rfl, hc⟩ := HI.out.resolve_left (by rintro rfl; cases hp)
      obtain ⟨d0, d1, d2⟩ := hc.up hb k p hp
      have hd := drop_step hp
      have hM := HM.out
      rw [hd] at hM
      obtain ⟨hcan, hM2⟩ := allM_first hM
      have hG2 := HG.out
      rw [hd] at hG2
      have hsd := HS.out.sides
      have KA := fun w' (h : Below wr.heap.size wr w') => sheet_after (HS.out.up h) hcan p.u (fun x y _ _ => Nat.le_trans (pile_length l x y) HLn.out) (Nat.le_trans (by have := HS.out; obtain ⟨A, L, bk, R, S, g1, _, _, g4, _⟩ := this; have := g1.pos; have := (g4.dk _ ⟨0, this, rfl⟩); exact Nat.le_of_lt (Nat.lt_of_le_of_lt this.low this.ltD)) h.size)
      have hS' := fun w' G' (h : Sheet w' w1.heap.size G' (newC p.d p.n c) (newR p.d p.n r) (foldPl p.d p.n p.u c r (pileL l))) => h.piles (Q := pileL (stepR p.d p.n p.u c r l)) (fun x y h1 h2 => (step_piles hcan HIn.out h1 h2).symm)
      have hI2 := step_in (u := p.u) hcan HIn.out
      have hL2 : (stepR p.d p.n p.u c r l).length ≤ 64 := by rw [step_length]; exact HLn.out
      have hG3 : goL (newC p.d p.n c) (newR p.d p.n r) (stepR p.d p.n p.u c r l) (ls.drop (k + 1)) = F := hG2
      have z0 : (0 : Int) ≤ (k : Int) := by omega
      have z1 : (k : Int) < (n : Int) := by omega
      have HA := Lib.hid KA; have HS2 := Lib.hid hS'; have HIn2 := Lib.hid hI2; have HL2 := Lib.hid hL2; have HG3 := Lib.hid hG3; have HM2 := Lib.hid hM2; have HB := Lib.hid hb
      obtain ⟨pd, pn, pu⟩ := p
      simp only at d0 d1 d2 HA HS2 HIn2 HL2 HG3 HM2
      clear KA hS' hI2 hL2 hG3 hM2 hb hM hG2 hd hc hp HS HIn HLn HM HG b2 hsd hcan
      go_wp2_with fail
      refine (HA.out _ (up_alloc (Below.refl _ _) _)).mono ?_
      rintro e w3 ⟨G', rfl, hS3, hb3⟩
      have HS3 := Lib.hid (HS2.out _ _ hS3)
      clear hS3 HA
      go_wp2
      go_roundw
      case rel =>
        refine ⟨k + 1, G', _, _, _, by omega, rfl, by go_num, HS3, HIn2, HL2, HM2, HG3, ?_⟩
        exact (up_alloc HB.out _).trans (hb3.mono hsz)
      case measure => simp [intOf]; omega
    · obtain rfl : k = n := by omega
      have hM := HM.out
      have hG2 := HG.out
      rw [List.drop_of_length_le (by rw [HN.out]; omega)] at hM hG2
      obtain ⟨rfl, rfl⟩ : c = 1 ∧ r = 1 := by
        rw [allM] at hM
        simp only [Prod.mk.injEq] at hM
        exact ⟨hM.1, hM.2.1⟩
      rw [goL] at hG2
      subst hG2
      obtain ⟨A, L, bk, R, S, hG, hL, hinj, hD, hP⟩ := HS.out
      have hlen : L.length = 1 := by have := hG.len; omega
      have e0 := hL 0 (by omega)
      have KAt : Calls Try.prog 23 #[.pointer (some ⟨G, 0, none⟩), .int .i64 0, .int .i64 0] wr fun e w' => e = .returned (.tuple #[.pointer (some ⟨bk 0, 0, none⟩), .bool true]) ∧ Below wr.heap.size wr w' := shAt_yes hG 0 0 (ptrD (bk 0)) (by decide) (by simpa [at1] using e0)
      have hd0 := hD.dk (bk 0) ⟨0, by omega, rfl⟩
      have hP0 := hP 0 0 (by omega) (by omega)
      simp only [Int.zero_mul, Int.add_zero, Int.toNat_zero] at hP0
      rw [hP0, pile_all HIn.out] at hd0
      have HAt := Lib.hid KAt; have HD0 := Lib.hid hd0; have HB := Lib.hid hb
      clear KAt hd0 hb hG hL hinj hD hP e0 hP0 HS HIn HLn HM HG b2 hM
      go_wp2_with (go_at_call 23; refine HAt.out.mono ?_; rintro e w3 ⟨rfl, hb3⟩; have HB3 := Lib.hid hb3; clear hb3)
      go_ret
      have k := HD0.out.up HB3.out
      exact ⟨bk 0, _, rfl, k.base _ (Nat.le_trans hsz k.low) (Nat.le_trans hsz k.ltR.1), up_trans HB.out HB3.out⟩
end Go.Proofs.Ytnofncibplgmpaa
