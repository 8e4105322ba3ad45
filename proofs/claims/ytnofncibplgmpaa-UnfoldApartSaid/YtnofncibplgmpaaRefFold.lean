/- What the reference's Fold answers: of a right scheme all panels, from above; nothing of any other one. -/
import Derived.Test.YtnofncibplgmpaaRefStep
import Derived.Test.YtnofncibplgmpaaUnfoldPerm
namespace Go.Proofs.Ytnofncibplgmpaa
open Go.RowKit Go.Lib
set_option linter.unusedVariables false

/-- A panel lies at each place. -/
def FullR (c r : Int) (l : List Rp) : Prop := ∀ x y, (0 ≤ x ∧ x < c) → (0 ≤ y ∧ y < r) → ∃ p ∈ l, p.col = x ∧ p.row = y
theorem full_init {c r : Int} (hc : 1 ≤ c) : FullR c r (initL c r) := by
  intro x y hx hy
  have hi := idx_lt hx hy
  refine ⟨_, List.mem_map.2 ⟨(y * c + x).toNat, List.mem_range.2 (by omega), rfl⟩, ?_⟩
  obtain ⟨t1, t2⟩ := td y x c hy.1 hx.1 hx.2
  simp only [show (((y * c + x).toNat : Nat) : Int) = y * c + x by omega]
  exact ⟨t2, t1⟩
theorem full_step {d n c r : Int} {u : Bool} (h : Can d n c r) {l : List Rp} (hl : FullR c r l) : FullR (newC d n c) (newR d n r) (stepR d n u c r l) := by
  intro x y hx hy
  have n1 := h.n1
  have hb : (0 ≤ backX d n x ∧ backX d n x < c) ∧ 0 ≤ backY d n y ∧ backY d n y < r := by
    rcases h.cases with ⟨rfl, e⟩ | ⟨rfl, e⟩ | ⟨rfl, e⟩ | ⟨rfl, e⟩ <;> simp [newC, newR, backX, backY] at hx hy ⊢ <;> omega
  obtain ⟨q, hq, e1, e2⟩ := hl _ _ hb.1 hb.2
  have hm : movedM d n c r q = false := by
    rcases h.cases with ⟨rfl, e⟩ | ⟨rfl, e⟩ | ⟨rfl, e⟩ | ⟨rfl, e⟩ <;> simp [newC, newR, backX, backY] at hx hy e1 e2 <;> simp [movedM] <;> omega
  have hr : q ∈ restM d n c r l := List.mem_filter.2 ⟨hq, by simp [hm]⟩
  refine ⟨shiftM d n q, List.mem_map.2 ⟨q, ?_, rfl⟩, ?_⟩
  · unfold joinU
    cases u <;> simp [hr]
  · rcases h.cases with ⟨rfl, e⟩ | ⟨rfl, e⟩ | ⟨rfl, e⟩ | ⟨rfl, e⟩ <;> simp [backX, backY] at e1 e2 <;> simp [shiftM] <;> omega
theorem full_over {d n c r : Int} (h : Can d n c r) {l : List Rp} (hl : FullR c r l) : 0 < (overM d n c r l).length := by
  have n1 := h.n1; have c1 := h.c1; have r1 := h.r1
  obtain ⟨q, hq, e1, e2⟩ : ∃ q ∈ l, q.col = (if d = 2 then c - 1 else 0) ∧ q.row = (if d = 4 then r - 1 else 0) := hl _ _ (by split <;> omega) (by split <;> omega)
  have hm : movedM d n c r q = true := by
    rcases h.cases with ⟨rfl, e⟩ | ⟨rfl, e⟩ | ⟨rfl, e⟩ | ⟨rfl, e⟩ <;> simp at e1 e2 <;> simp [movedM] <;> omega
  exact List.length_pos_of_mem (List.mem_map.2 ⟨q, List.mem_filter.2 ⟨hq, hm⟩, rfl⟩)
theorem full_rest {d n c r : Int} (h : Can d n c r) {l : List Rp} (hl : FullR c r l) : 0 < (restM d n c r l).length := by
  have n1 := h.n1; have c1 := h.c1; have r1 := h.r1
  obtain ⟨q, hq, e1, e2⟩ : ∃ q ∈ l, q.col = (if d = 1 then c - 1 else 0) ∧ q.row = (if d = 3 then r - 1 else 0) := hl _ _ (by split <;> omega) (by split <;> omega)
  have hm : movedM d n c r q = false := by
    rcases h.cases with ⟨rfl, e⟩ | ⟨rfl, e⟩ | ⟨rfl, e⟩ | ⟨rfl, e⟩ <;> simp at e1 e2 <;> simp [movedM] <;> omega
  exact List.length_pos_of_mem (List.mem_filter.2 ⟨hq, by simp [hm]⟩)
theorem init_snoc (c r : Int) (k : Nat) (hk : k < (c * r).toNat) : (initL c r).take (k + 1) = (initL c r).take k ++ [⟨(k : Int), (k : Int).tmod c, (k : Int).tdiv c, false, false⟩] := by
  have hl : k < (initL c r).length := by rw [init_length]; exact hk
  rw [List.take_add_one, List.getElem?_eq_getElem hl]
  simp [initL]

theorem refFold_no (s : Sc) (a : Option Addr) (cap : Nat) (w : World) (hc : s.c ≤ 9223372036854775807) (hr : s.r ≤ 9223372036854775807) (hl : s.l.length ≤ 1000000) (hI : InL w a s.l) (hn : rightM s = false) :
    Calls Try.prog 16 #[.agg #[.int .i64 s.c, .int .i64 s.r, .slice a s.l.length cap]] w fun e w' => e = .returned (.slice none 0 0) ∧ Below w.heap.size w w' := by
  have KF := fun w1 (h : Below w.heap.size w w1) => refFine_any s a cap w1 hc hr hl (hI.up h)
  rw [hn] at KF
  have HF := Lib.hid KF
  have HB0 := Lib.hid (up_alloc (Below.refl _ w) (.cells #[.int .i64 s.c, .int .i64 s.r, .slice a s.l.length cap] 24))
  generalize s.l.length = n at *
  clear KF hI hn
  go_enter Try.func16, Try.ntmps16
  go_wp2_with fail
  refine (HF.out _ HB0.out).mono ?_
  rintro e w1 ⟨rfl, hb⟩
  have B1 := Lib.hid (up_trans HB0.out hb)
  clear hb
  go_wp2
  go_ret
  exact ⟨rfl, B1.out⟩

def InitRel (w0 : World) (c r : Int) (m : Nat) (v i : Value) (wr : World) : Prop :=
  ∃ k : Nat, k ≤ m ∧ i = .int .i64 (k : Int) ∧ OwnR wr w0.heap.size v ((initL c r).take k) ∧ Below w0.heap.size w0 wr
def RFoldRel (w0 : World) (n m : Nat) (ls : List Sp) (F : List Rp) (v cv rv i : Value) (wr : World) : Prop :=
  ∃ (k g cap : Nat) (c r : Int) (l : List Rp), k ≤ n ∧ v = .slice (some ⟨g, 0, none⟩) m cap ∧ cv = .int .i64 c ∧ rv = .int .i64 r ∧ i = .int .i64 (k : Int) ∧ w0.heap.size ≤ g ∧ Hid (RpsAt wr g l) ∧ Hid (InR c r l) ∧ Hid (FullR c r l) ∧ Hid (l.length = m) ∧ Hid (allM c r (ls.drop k) = (1, 1, true)) ∧ Hid (goL c r l (ls.drop k) = F) ∧ ((1 ≤ c ∧ c ≤ 64) ∧ 1 ≤ r ∧ r ≤ 64) ∧ Below w0.heap.size w0 wr

set_option maxHeartbeats 2000000 in
theorem refFold_yes (s : Sc) (a : Option Addr) (cap : Nat) (w : World) (hI : InL w a s.l) (hr : rightM s = true) :
    Calls Try.prog 16 #[.agg #[.int .i64 s.c, .int .i64 s.r, .slice a s.l.length cap]] w fun e w' => ∃ g cap', e = .returned (.slice (some ⟨g, 0, none⟩) (foldL s).length cap') ∧ RpsAt w' g (foldL s) ∧ w.heap.size ≤ g ∧ Below w.heap.size w w' := by
  obtain ⟨i0, hi, hz0, hz1, hz2⟩ := info_parts Try.infoRp
  obtain ⟨hc, hrr, hm, hl6, hall⟩ := right_bounds hr
  have hp : 1 ≤ s.c * s.r := Int.le_trans (by omega) (Int.mul_le_mul hc.1 hrr.1 (by omega) (by omega) : 1 * 1 ≤ s.c * s.r)
  have KF := fun w1 (h : Below w.heap.size w w1) => refFine_any s a cap w1 (by omega) (by omega) (by omega) (hI.up h)
  rw [hr] at KF
  have hgo : goL s.c s.r (initL s.c s.r) s.l = foldL s := rfl
  have hin0 := init_in hc.1 hrr.1
  have hfu0 := full_init (r := s.r) hc.1
  have hlF : (foldL s).length = (s.c * s.r).toNat := by have := pcL_length s; unfold pcL at this; rwa [List.length_map] at this
  obtain ⟨F, hF⟩ : ∃ F, foldL s = F := ⟨_, rfl⟩
  rw [hF] at hgo hlF ⊢
  obtain ⟨m, hmm⟩ : ∃ m, (s.c * s.r).toNat = m := ⟨_, rfl⟩
  rw [hmm] at hlF
  rw [hlF]
  have hw : wrap64 (s.c * s.r) = (m : Int) := by rw [IntWalk.wrap64_in _ (by omega)]; omega
  have hil : (initL s.c s.r).length = m := by rw [init_length, hmm]
  have hm64 : m ≤ 64 := by omega
  have hm1 : 1 ≤ m := by omega
  have hsn : ∀ k, k < m → (initL s.c s.r).take (k + 1) = (initL s.c s.r).take k ++ [⟨(k : Int), (k : Int).tmod s.c, (k : Int).tdiv s.c, false, false⟩] := fun k hk => init_snoc s.c s.r k (by omega)
  have hsp : ∀ k, k < m → ∃ x y : Int, (k : Int).tmod s.c = x ∧ (k : Int).tdiv s.c = y ∧ 0 ≤ x ∧ x < s.c ∧ 0 ≤ y ∧ y < s.r := fun k hk => by
    obtain ⟨x, y, e1, e2, b0, b1, b2, b3, b4⟩ := split_place k s.c s.r hc.1 (by omega)
    exact ⟨x, y, e1, e2, b0, b1, b2, b3⟩
  have HI := Lib.hid hI; have HF := Lib.hid KF; have HGo := Lib.hid hgo; have HN0 := Lib.hid hin0; have HFu := Lib.hid hfu0; have HAll := Lib.hid hall; have HIl := Lib.hid hil; have HSn := Lib.hid hsn; have HSp := Lib.hid hsp
  obtain ⟨c, r, ls⟩ := s
  simp only at HI HF HGo HN0 HFu HAll HIl HSn HSp hw hl6 hc hrr ⊢
  clear hI KF hgo hin0 hfu0 hall hil hsn hsp hF hr hm hp hmm hlF
  obtain ⟨n, hn⟩ : ∃ n, ls.length = n := ⟨_, rfl⟩
  rw [hn] at hl6 HF ⊢
  have HN := Lib.hid hn
  clear hn
  have HB0 := Lib.hid (up_alloc (Below.refl _ w) (.cells #[.int .i64 c, .int .i64 r, .slice a n cap] 24))
  go_enter Try.func16, Try.ntmps16
  go_wp2_with fail
  refine (HF.out _ HB0.out).mono ?_
  rintro e w1 ⟨rfl, hb⟩
  have A1 := (Bx.new w 24 [.int .i64 c, .int .i64 r, .slice a n cap]).up hb
  have B1 := Lib.hid (up_trans HB0.out hb)
  have hsz := hb.size
  simp only [World.size_alloc] at hsz
  clear hb HF
  go_wp2
  go_loopw [3, 4] (fun v i wr => InitRel w1 c r m v i wr) (fun _ i _ => m - (intOf i).toNat)
  case atStart => exact ⟨0, by omega, by go_num, OwnR.nil _ _, Below.refl _ _⟩
  case round =>
    obtain ⟨k, hk, rfl, hv, hb⟩ := hrel
    by_cases hlt : k < m
    · obtain ⟨x, y, e1, e2, g1, g2, g3, g4⟩ := HSp.out k hlt
      have hsn := HSn.out k hlt
      rw [e1, e2] at hsn
      obtain ⟨L, hL⟩ : ∃ L, (initL c r).take k = L := ⟨_, rfl⟩
      rw [hL] at hv hsn
      have hLl : L.length ≤ 64 := by rw [← hL, List.length_take]; omega
      have KS : ∀ w' : World, Below w1.heap.size w1 w' → w'.cell? ⟨w.heap.size, 0, none⟩ = some (.int .i64 c) ∧ w'.cell? ⟨w.heap.size, 1, none⟩ = some (.int .i64 r) := fun w' h =>
        have X := A1.up h
        ⟨X.cell 0 rfl, X.cell 1 rfl⟩
      obtain ⟨x0, x1⟩ := KS wr hb
      have HKS := Lib.hid KS; have HV := Lib.hid (hv.up (up_drew (Below.refl _ _))); have HB := Lib.hid hb; have HSn1 := Lib.hid hsn
      have hsx := hb.size
      have z1 : (k : Int) < (m : Int) := by omega
      have c0 : c ≠ 0 := by omega
      have hw2 : IntKind.i64.wrap y = y := IntWalk.i64_in _ (by omega)
      clear KS hv hb hsn hL
      go_wp2_with fail
      have hlen : L.length + 1 ≤ maxLen := by unfold maxLen; omega
      have hbytes : (L.length + 1) * 32 ≤ 140737488355328 := by omega
      clear x0 x1
      go_region_held3 (fun w' => w'.cell? ⟨w.heap.size, 0, none⟩ = some (.int .i64 c) ∧ w'.cell? ⟨w.heap.size, 1, none⟩ = some (.int .i64 r))
        ((refine HKS.out _ ?_; first | exact hbw6 | exact up_drew HB.out | exact up_alloc (up_drew HB.out) _))
        (first
          | (refine step_append_lies _ (by rfl) _ _ _ (by rfl) w1.heap.size 49 i0 _ 5 32 Try.underlying46 hi hz0 hz1 hz2 rfl (by omega) _ L.length (rps L) (by rfl) (HV.out.up (up_alloc (Below.refl _ _) _)) ⟨wr.heap.size, 0, none⟩ 1 1 (Rp.cells ⟨(k : Int), x, y, false, false⟩) (by rfl) (by rfl) (World.news_of_block (cs := #[.int .i64 (k : Int), .int .i64 x, .int .i64 y, .bool false, .bool false]) (t := 49) (fr := (0, 0)) (heap_alloc_new wr.drew _)) (by simp [Value.oneCell', Rp.cells]) (by omega) hlen hbytes (by simp; omega) _ rfl ?_
             intro g' cap' w6 hown hgrow hat hglt
             have hbw6 : Below w1.heap.size w1 w6 := Below.grown (up_alloc (up_drew HB.out) _) hgrow (by simp; omega) (fun k hk => (World.ownsRow.lt HV.out k hk).1)))
      rename_i hHeld
      clear hHeld
      have HOW := Lib.hid hown; have HB6 := Lib.hid hbw6
      clear hown hgrow hat hglt hbw6
      go_wp2
      refine ⟨⟨k + 1, by omega, by go_num, ?_, HB6.out⟩, by simp [intOf]; omega⟩
      rw [HSn1.out]
      unfold OwnR
      rw [List.length_append, rps_append]
      exact HOW.out
    · have hk2 : k = m := by omega
      rw [hk2, List.take_of_length_le (by rw [HIl.out]; exact Nat.le_refl _)] at hv
      obtain ⟨g, cap', rfl, hR⟩ := hv.form (by rw [HIl.out]; omega)
      rw [HIl.out]
      have hk3 : ¬ ((k : Int) < (m : Int)) := by omega
      have X := A1.up hb
      have x0 := X.cell 0 rfl; have x1 := X.cell 1 rfl; have x2 := X.cell 2 rfl
      have HR := Lib.hid hR.at; have HB := Lib.hid hb; have hg := hR.lt.1
      have hsx := hb.size
      clear hv hR hb X
      subst hk2
      go_wp2_with fail
      refine later_start (w := wr) ?_
      intro v
      have j0 := fun v : Later wr => v.cell x0
      have j1 := fun v : Later wr => v.cell x1
      refine wp_region_later (by kernel_rfl) (by kernel_rfl) ?_
      repeat (go_big_quiet_step (fail))
      refine wpQuiet_nil ?_
      rintro _ ⟨v2, rfl⟩
      have HR5 := Lib.hid (HR.out.up v2.up); have HB5 := Lib.hid (up_trans HB.out v2.up)
      clear j0 j1 x0 x1 x2
      generalize v2.now = w5 at *
      clear v v2 HR HB
      go_wp2
      go_loopw [3, 5, 6, 7] (fun v cv rv i wr => RFoldRel w1 n k ls F v cv rv i wr) (fun _ _ _ i _ => n - (intOf i).toNat)
      case atStart => exact ⟨0, g, cap', c, r, initL c r, by omega, rfl, rfl, rfl, by go_num, hg, HR5, HN0, HFu, HIl, by rw [List.drop_zero]; exact HAll, by rw [List.drop_zero]; exact HGo, ⟨hc, hrr⟩, HB5.out⟩
      case round =>
        obtain ⟨t, G, cp, c', r', l, ht, rfl, rfl, rfl, rfl, hgG, HA, HIn, HFl, HLn, HM, HG, hcr, hb⟩ := hrel
        have X := A1.up hb
        have x0 := X.cell 0 rfl; have x1 := X.cell 1 rfl; have x2 := X.cell 2 rfl
        by_cases hlt : t < n
        · obtain ⟨p, hp⟩ : ∃ p, ls[t]? = some p := ⟨ls[t]'(by rw [HN.out]; exact hlt), List.getElem?_eq_getElem _⟩
          obtain ⟨b, off, rfl, hc⟩ := HI.out.resolve_left (by rintro rfl; cases hp)
          have HC := Lib.hid hc
          obtain ⟨d0, d1, d2⟩ := hc.up (up_trans B1.out hb) t p hp
          have hd := drop_step hp
          have hM := HM.out
          rw [hd] at hM
          obtain ⟨hcan, hM2⟩ := allM_first hM
          have hG2 := HG.out
          rw [hd] at hG2
          have hsd := hcan.side
          have hn64 : 1 ≤ p.n ∧ p.n ≤ 64 := by have := hcan.n1; split at hsd <;> omega
          have KA := refStep_any l G cp p.d p.n p.u c' r' wr HA.out (by rw [HLn.out]; omega) (by rw [HLn.out]; omega) ⟨hcan.d1, hcan.d4⟩ hn64 hcr.1 hcr.2 HIn.out (full_over hcan HFl.out) (full_rest hcan HFl.out)
          rw [HLn.out] at KA
          have hI2 := step_in (u := p.u) hcan HIn.out
          have hF2 := full_step (u := p.u) hcan HFl.out
          have hL2 : (stepR p.d p.n p.u c' r' l).length = k := by rw [step_length]; exact HLn.out
          have hG3 : goL (newC p.d p.n c') (newR p.d p.n r') (stepR p.d p.n p.u c' r' l) (ls.drop (t + 1)) = F := hG2
          have hcr2 : (1 ≤ newC p.d p.n c' ∧ newC p.d p.n c' ≤ 64) ∧ 1 ≤ newR p.d p.n r' ∧ newR p.d p.n r' ≤ 64 := by
            unfold newC newR
            split at hsd <;> rename_i hle <;> simp only [hle, if_true, if_false] <;> omega
          have hnc : newC p.d p.n c' = if p.d ≤ 2 then c' - p.n else c' := rfl
          have hnr : newR p.d p.n r' = if p.d ≤ 2 then r' else r' - p.n := rfl
          have z0 : (0 : Int) ≤ (t : Int) := by omega
          have z1 : (t : Int) < (n : Int) := by omega
          have w2 : wrap64 (c' - p.n) = c' - p.n := IntWalk.wrap64_in _ (by omega)
          have w3 : wrap64 (r' - p.n) = r' - p.n := IntWalk.wrap64_in _ (by omega)
          have HKA := Lib.hid KA; have HIn2 := Lib.hid hI2; have HF2 := Lib.hid hF2; have HL2 := Lib.hid hL2; have HG3 := Lib.hid hG3; have HM2 := Lib.hid hM2; have HB := Lib.hid hb; have HCR := Lib.hid hcr2
          have HP := Lib.hid hp; have HNC := Lib.hid hnc; have HNR := Lib.hid hnr
          generalize newC p.d p.n c' = nc at *
          generalize newR p.d p.n r' = nr at *
          generalize stepR p.d p.n p.u c' r' l = l2 at *
          obtain ⟨pd, pn, pu⟩ := p
          simp only at d0 d1 d2 HKA HIn2 HF2 HL2 HG3 HM2 w2 w3 HCR HNC HNR
          clear KA hI2 hF2 hL2 hG3 hM2 hb hM hG2 hd hc hp HIn HFl HLn HM HG hsd hcan hcr2 HA hcr hnc hnr
          go_wp2_with fail
          refine HKA.out.mono ?_
          rintro e w6 ⟨g2, cp2, rfl, hR2, hb2⟩
          have hbb := up_trans HB.out hb2
          have X := A1.up hbb
          have x0' := X.cell 0 rfl; have x1' := X.cell 1 rfl; have x2' := X.cell 2 rfl
          obtain ⟨d0', d1', d2'⟩ := HC.out.up (up_trans B1.out hbb) t _ HP.out
          have hgs := HB.out.size
          have hg2 := hR2.lt.1
          have HR2 := Lib.hid hR2.at; have HBB := Lib.hid hbb
          clear hR2 hb2 hbb X d0 d1 d2 x0 x1 x2
          simp only at d0' d1' d2'
          by_cases hd2 : pd ≤ 2
          · have e1 := HNC.out; have e2 := HNR.out
            rw [if_pos hd2] at e1 e2
            go_wp2
            refine ⟨⟨t + 1, g2, cp2, nc, nr, l2, by omega, rfl, by rw [e1, w2], by rw [e2], by go_num, by omega, HR2, HIn2, HF2, HL2, HM2, HG3, HCR.out, HBB.out⟩, by simp [intOf]; omega⟩
          · have e1 := HNC.out; have e2 := HNR.out
            rw [if_neg hd2] at e1 e2
            go_wp2
            refine ⟨⟨t + 1, g2, cp2, nc, nr, l2, by omega, rfl, by rw [e1], by rw [e2, w3], by go_num, by omega, HR2, HIn2, HF2, HL2, HM2, HG3, HCR.out, HBB.out⟩, by simp [intOf]; omega⟩
        · have ht2 : t = n := by omega
          have hG2 := HG.out
          rw [List.drop_of_length_le (by rw [HN.out]; omega), goL] at hG2
          rw [hG2] at HA
          have HB := Lib.hid hb
          subst ht2
          clear hG2 HG HM HIn HFl HLn hb
          go_wp2
          go_ret
          exact ⟨G, cp, rfl, HA.out, by omega, up_trans B1.out HB.out⟩
end Go.Proofs.Ytnofncibplgmpaa
