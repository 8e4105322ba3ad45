/- What the reference's Of answers: of a right scheme of each panel where it is, and how; no panel of any other one. -/
import Derived.Test.YtnofncibplgmpaaRefFold
import Derived.Test.YtnofncibplgmpaaPanels
namespace Go.Proofs.Ytnofncibplgmpaa
open Go.RowKit Go.Lib
set_option linter.unusedVariables false

theorem refOf_no (s : Sc) (a : Option Addr) (cap : Nat) (w : World) (hc : s.c ≤ 9223372036854775807) (hr : s.r ≤ 9223372036854775807) (hl : s.l.length ≤ 1000000) (hI : InL w a s.l) (hn : rightM s = false) :
    Calls Try.prog 8 #[.agg #[.int .i64 s.c, .int .i64 s.r, .slice a s.l.length cap]] w fun e w' => (∃ b, e = .returned (.slice b 0 0)) ∧ Below w.heap.size w w' := by
  have KF := fun w1 (h : Below w.heap.size w w1) => refFold_no s a cap w1 hc hr hl (hI.up h) hn
  have HF := Lib.hid KF
  have HB0 := Lib.hid (up_alloc (Below.refl _ w) (.cells #[.int .i64 s.c, .int .i64 s.r, .slice a s.l.length cap] 24))
  generalize s.l.length = n at *
  clear KF hI hn
  have mk : ∀ w, (Instr.makeSlice 26 (.int .i64 0) (.int .i64 0)).run Try.prog w = .ok (.slice (some ⟨w.heap.size, 0, none⟩) 0 0) (w.alloc (.cells (madeCells (Value.cells (.agg #[.int .i64 0, .bool false, .bool false])) 0) 31)) := fun w => run_make_pns 0 (by omega) w
  go_enter Try.func8, Try.ntmps8
  go_wp2_with fail
  refine (HF.out _ HB0.out).mono ?_
  rintro e w1 ⟨rfl, hb⟩
  have B1 := Lib.hid (up_trans HB0.out hb)
  clear hb
  go_wp2
  refine wp_loop_rounds 1 ?_
  rw [rounds_succ]
  go_wp2
  go_ret
  exact ⟨⟨_, rfl⟩, up_alloc B1.out _⟩

def ROfRel (w0 : World) (g : Nat) (L : List Pc) (i : Value) (wr : World) : Prop :=
  ∃ k : Nat, k ≤ L.length ∧ i = .int .i64 (k : Int) ∧ PnRow wr g (ofL L k) ∧ Below w0.heap.size w0 wr

set_option maxHeartbeats 2000000 in
theorem refOf_yes (s : Sc) (a : Option Addr) (cap : Nat) (w : World) (hI : InL w a s.l) (hr : rightM s = true) :
    Calls Try.prog 8 #[.agg #[.int .i64 s.c, .int .i64 s.r, .slice a s.l.length cap]] w fun e w' => ∃ g, e = .returned (.slice (some ⟨g, 0, none⟩) (pcL s).length (pcL s).length) ∧ PnRow w' g (panL s) ∧ w.heap.size ≤ g ∧ Below w.heap.size w w' := by
  obtain ⟨hc, hrr, hm, hl6, hall⟩ := right_bounds hr
  have KF := fun w1 (h : Below w.heap.size w w1) => refFold_yes s a cap w1 (hI.up h) hr
  have hnum := fun k hk => pcL_num s k hk
  unfold panL
  have hpf : pcL s = (foldL s).map toPc := rfl
  have hlen : (pcL s).length ≤ 64 := by rw [pcL_length]; omega
  have hlf : (foldL s).length = (pcL s).length := by rw [hpf, List.length_map]
  rw [hlf] at KF
  generalize foldL s = F at *
  generalize pcL s = L at *
  obtain ⟨m, hmm⟩ : ∃ m, L.length = m := ⟨_, rfl⟩
  have HF := Lib.hid KF; have HN := Lib.hid hnum; have HPf := Lib.hid hpf; have HM := Lib.hid hmm; have HLf := Lib.hid hlf
  rw [hmm] at HF hlen ⊢
  have HB0 := Lib.hid (up_alloc (Below.refl _ w) (.cells #[.int .i64 s.c, .int .i64 s.r, .slice a s.l.length cap] 24))
  have mk := run_make_pns m (by omega)
  generalize s.l.length = n at *
  clear KF hI hnum hpf hmm hlf hall
  go_enter Try.func8, Try.ntmps8
  go_wp2_with fail
  refine (HF.out _ HB0.out).mono ?_
  rintro e w1 ⟨g, cp, rfl, hA, hg, hb⟩
  have B1 := Lib.hid (up_trans HB0.out hb)
  have hglt : g < w1.heap.size ∨ m = 0 := by
    by_cases h0 : m = 0
    · exact .inr h0
    · obtain ⟨p, hp⟩ : ∃ p, F[0]? = some p := ⟨F[0]'(by have := HLf.out; have := HM.out; omega), List.getElem?_eq_getElem _⟩
      exact .inl (World.block_lt_of_cell? w1 _ (hA.cells hp).1)
  have HA := Lib.hid hA
  clear hb hA
  go_wp2
  have hP := PnRow.made w1 m
  have hU := up_alloc (Below.refl _ w1) (.cells (madeCells (Value.cells (.agg #[.int .i64 0, .bool false, .bool false])) (m * 3)) 31)
  obtain ⟨W1, hW1⟩ : ∃ W, w1.alloc (.cells (madeCells (Value.cells (.agg #[.int .i64 0, .bool false, .bool false])) (m * 3)) 31) = W := ⟨_, rfl⟩
  rw [hW1] at hP hU
  have hW1' : w1.alloc (.cells (madeCells #[.int .i64 0, .bool false, .bool false] (m * 3)) 31) = W1 := hW1
  rw [hW1']
  have hU0 : Below w1.heap.size w1 w1 := Below.refl _ _
  have HU := Lib.hid hU; have HP := Lib.hid hP
  have hw := B1.out.size
  clear hW1 hW1' hU hP mk
  go_loopw [5] (fun i wr => ROfRel w1 w1.heap.size L i wr) (fun i _ => m - (intOf i).toNat)
  case atStart => exact ⟨0, by omega, by go_num, by unfold ofL; rw [HM.out]; exact HP.out, HU.out⟩
  case round =>
    obtain ⟨k, hk, rfl, hR, hb⟩ := hrel
    rw [HM.out] at hk
    by_cases hlt : k < m
    · obtain ⟨p, hp⟩ : ∃ p, F[k]? = some p := ⟨F[k]'(by have := HLf.out; have := HM.out; omega), List.getElem?_eq_getElem _⟩
      have hkl : k < L.length := by rw [HM.out]; exact hlt
      obtain ⟨j, hj, hpj⟩ := HN.out k hkl
      have hLk : L[k]'hkl = toPc p := by
        have e := HPf.out
        have e2 : L[k]? = some (toPc p) := by rw [e, List.getElem?_map, hp]; rfl
        rw [List.getElem?_eq_getElem hkl] at e2
        exact Option.some.inj e2
      rw [hLk] at hpj
      simp only [toPc] at hpj
      have hst : ofL L (k + 1) = (ofL L k).set j ⟨(k : Int), p.fx, p.fy⟩ := by
        rw [ofL_succ]
        unfold ofStep
        rw [List.getElem?_eq_getElem hkl, hLk]
        simp only [Option.getD_some, toPc, hpj, Int.toNat_natCast]
      have hjl : j < (ofL L k).length := by rw [ofL_length]; exact hj
      rw [HM.out] at hj
      obtain ⟨p0, p1, p2, p3, p4⟩ := (HA.out.up hb).cells hp
      rw [hpj] at p0
      have z0 : (0 : Int) ≤ (k : Int) := by omega
      have z1 : (k : Int) < (m : Int) := by omega
      have y0 : (0 : Int) ≤ (j : Int) := by omega
      have y1 : (j : Int) < (m : Int) := by omega
      have HR := Lib.hid hR; have HB := Lib.hid hb; have HSt := Lib.hid hst; have HJl := Lib.hid hjl
      clear hR hb hst hjl hLk hp hpj
      go_wp2_with fail
      refine later_start (w := wr) ?_
      intro v
      have j0 := fun v : Later wr => v.cell p0
      have j3 := fun v : Later wr => v.cell p3
      have j4 := fun v : Later wr => v.cell p4
      clear p1 p2
      refine wp_region_later_tail 19 (by kernel_rfl) (by kernel_rfl) ?_
      simp only [List.take_succ_cons, List.take_zero, List.drop_succ_cons, List.drop_zero]
      repeat (go_big_quiet_step (fail))
      refine wpQuiet_nil ?_
      rintro _ ⟨v2, rfl⟩
      have hR5 := HR.out.up v2.up
      have HB5 := Lib.hid (up_trans HB.out v2.up)
      obtain ⟨f0, f1, f2⟩ := hR5.cells (List.getElem?_eq_getElem HJl.out)
      have g0 := hR5.free (j * 3); have g1 := hR5.free (j * 3 + 1); have g2 := hR5.free (j * 3 + 2)
      have HR5 := Lib.hid hR5
      clear j0 j3 j4 p0 p3 p4 hR5
      generalize v2.now = w5 at *
      clear v v2
      go_wp2
      refine ⟨⟨k + 1, by rw [HM.out]; omega, by go_num, by rw [HSt.out]; exact HR5.out.stored HJl.out ⟨(k : Int), p.fx, p.fy⟩, ((HB5.out.setCell (Nat.le_refl _) _).setCell (Nat.le_refl _) _).setCell (Nat.le_refl _) _⟩, by simp [intOf]; omega⟩
    · have hk2 : k = m := by omega
      subst hk2
      have HR := Lib.hid hR; have HB := Lib.hid hb
      clear hR hb
      go_wp2
      go_ret
      rw [← HM.out]
      exact ⟨w1.heap.size, rfl, by have := HR.out; rwa [← HM.out] at this, hw, up_trans B1.out HB.out⟩
end Go.Proofs.Ytnofncibplgmpaa
