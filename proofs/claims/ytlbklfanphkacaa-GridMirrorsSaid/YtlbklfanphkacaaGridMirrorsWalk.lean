/- The law GridMirrors answers true for every two ints, every list of puts and each way: mirrored, left and right, or below and above, change places; twice, nothing has changed; no condition. -/
import Derived.Test.YtlbklfanphkacaaGridSetsWalk
import Derived.Test.YtlbklfanphkacaaGridMath
import Derived.Test.YtlbklfanphkacaaRowI
namespace Go.Proofs.Ytlbklfanphkacaa
open Go.RowKit
set_option linter.unusedVariables false

/-- The first k things of the mirrored grid. -/
def wantK (up : Bool) (c r : Int) (l : List Int) (k : Nat) : List Int := (List.range k).map fun i => l[(srcM up c r i).toNat]?.getD 0
theorem wantK_succ (up : Bool) (c r : Int) (l : List Int) (k : Nat) (x : Int) (h : l[(srcM up c r k).toNat]? = some x) : wantK up c r l (k + 1) = wantK up c r l k ++ [x] := by simp [wantK, List.range_succ, h]
theorem wantK_length (up : Bool) (c r : Int) (l : List Int) (k : Nat) : (wantK up c r l k).length = k := by simp [wantK]
def MirRel (up : Bool) (c r : Int) (l : List Int) (n : Nat) (w3 : World) (v i : Value) (wr : World) : Prop :=
  ∃ k : Nat, k ≤ n ∧ i = .int .i64 (k : Int) ∧ rowI wr w3.heap.size v (wantK up c r l k) ∧ Below w3.heap.size w3 wr

set_option maxRecDepth 100000 in
set_option maxHeartbeats 4000000 in
theorem mirrors_core (c r : Int) (a : Option Addr) (cap : Nat) (l : List Pu) (up : Bool) (w : World) (hp : Puts w a l) :
    Calls Try.prog 6 #[.int .i64 c, .int .i64 r, .slice a l.length cap, .bool up] w fun e w' => e = .returned (.bool true) ∧ Below w.heap.size w w' := by
  have HA := Lib.hid (alive_any w)
  have KS := fun w => small_any c r a l.length cap w
  obtain ⟨i0, hi0, hz0, hz1, hz2⟩ := info_parts Try.infoInt
  cases hs : smB c r l.length
  · rw [hs] at KS
    have HS := Lib.hid KS
    clear hs KS hp
    generalize l.length = n at *
    go_enter Try.func6, Try.ntmps6
    go_wp2_with (go_at_call 7; refine HA.out.mono ?_; rintro e w1 ⟨rfl, hb⟩; have HB := Lib.hid hb; clear hb)
    refine (HS.out _).mono ?_
    rintro e w' ⟨rfl, rfl⟩
    go_wp2
    go_ret
    exact ⟨rfl, HB.out⟩
  · rw [hs] at KS
    have HS := Lib.hid KS
    simp only [smB, Bool.and_eq_true, decide_eq_true_eq] at hs
    obtain ⟨h1, h2, h3⟩ := hs
    have h1' := in_wide h1
    have h2' := in_wide h2
    have bc : 1 ≤ c ∧ c ≤ 12 := by simpa [inB] using h1
    have br : 1 ≤ r ∧ r ≤ 12 := by simpa [inB] using h2
    obtain ⟨bc1, bc2⟩ := bc
    obtain ⟨br1, br2⟩ := br
    have hm0 : 0 < c * r := Int.mul_pos (by omega) (by omega)
    have hm1 : c * r ≤ 12 * 12 := Int.mul_le_mul bc2 br2 (by omega) (by omega)
    have KL := fun (w' : World) (hb : Below w.heap.size w w') => laid_any c r a cap l w' h1' h2' (by omega) (hp.up hb)
    have KC := fun (w' : World) (hb : Below w.heap.size w w') => cells_any c r a cap l w' h1' h2' (by omega) (hp.up hb)
    have HL := Lib.hid KL; have HC := Lib.hid KC
    have hlen := putsL_length c r l
    clear KL KC hp h1 h2 h3 h1' h2' KS
    generalize l.length = n at *
    generalize putsL c r l = L at *
    obtain ⟨m, hm⟩ : ∃ m : Nat, c * r = (m : Int) := ⟨(c * r).toNat, by omega⟩
    rw [hm] at hm0 hm1 hlen
    rw [Int.toNat_natCast] at hlen
    have HE := Lib.hid hlen; have HM := Lib.hid hm
    have wn : IntKind.i64.wrap (c * r) = (m : Int) := by rw [hm]; exact IntWalk.i64_in _ (by omega)
    rw [hm, Int.toNat_natCast] at HC
    clear hlen hm
    go_enter Try.func6, Try.ntmps6
    go_wp2_with (go_at_call 7; refine HA.out.mono ?_; rintro e w1 ⟨rfl, hb⟩; have HB := Lib.hid hb; clear hb)
    refine (HS.out _).mono ?_
    rintro e w' ⟨rfl, rfl⟩
    go_wp2_with fail
    refine (HL.out _ HB.out).mono ?_
    rintro e w2 ⟨G, A, rfl, hg, hlG, hlA, hb⟩
    have HB2 := Lib.hid (up_trans HB.out hb); have HG := Lib.hid hg
    clear hg hb HB
    go_wp2_with fail
    refine (HC.out _ HB2.out).mono ?_
    rintro e w3 ⟨rfl, hx, hb⟩
    have HX := Lib.hid (Li.of hx); have HB3 := Lib.hid (up_trans HB2.out hb); have HG3 := Lib.hid (HG.out.up hb)
    clear hx hb HB2 HG
    generalize w2.heap.size = CB at *
    go_wp2_with fail
    go_loopw [12, 13] (fun v i wr => MirRel up c r L m w3 v i wr) (fun _ i _ => m - (intOf i).toNat)
    case atStart => exact ⟨0, by omega, by go_num, World.ownsRow_nil _ _ _ _, Below.refl _ _⟩
    case round =>
      obtain ⟨k, hk, rfl, hrow, hb⟩ := hrel
      by_cases hlt : k < m
      · obtain ⟨q1, q2, e1, e2, d0, d1, d2, d3, d4⟩ := split_place k c r bc1 (by rw [HM.out]; omega)
        have hsl := srcM_lt up (c := c) (r := r) bc1 k (by rw [HM.out]; omega)
        rw [HM.out] at hsl
        obtain ⟨t, ht⟩ : ∃ t : Nat, srcM up c r k = (t : Int) := ⟨(srcM up c r k).toNat, by omega⟩
        obtain ⟨x, hx⟩ : ∃ x, L[t]? = some x := ⟨L[t]'(by rw [HE.out]; omega), List.getElem?_eq_getElem _⟩
        have hwk := wantK_succ up c r L k x (by rw [ht, Int.toNat_natCast]; exact hx)
        have hcell := fun u : Later wr => u.cell (bl_cell hb (HX.out t x hx))
        have hw2 : wrap64 q2 = q2 := IntWalk.wrap64_in q2 (by omega)
        have c0 : c ≠ 0 := by omega
        have y0 : (0 : Int) ≤ (t : Int) := by omega
        have y1 : (t : Int) < (m : Int) := by omega
        have z0 : (0 : Int) ≤ (k : Int) := by omega
        have z1 : (k : Int) < (m : Int) := by omega
        have HW := Lib.hid hwk; have HR := Lib.hid hrow; have HBr := Lib.hid hb; have HT := Lib.hid ht; have HD := Lib.hid d4
        clear hwk hrow hb ht hx hsl d4
        have hle := wantK_length up c r L k
        have HLe := Lib.hid hle
        clear hle
        have hsz := HBr.out.size
        go_wp2
        refine later_start (w := wr) ?_
        intro u
        refine wp_region_later (by kernel_rfl) (by kernel_rfl) ?_
        repeat (go_big_quiet_step (fail))
        refine wpQuiet_nil ?_
        rintro _ ⟨u2, rfl⟩
        have hcx := hcell u2
        have hr2 := HR.out.up u2.up
        have hb2 := up_trans HBr.out u2.up
        clear hcell
        generalize u2.now = w4 at *
        have HR2 := Lib.hid hr2; have HB4 := Lib.hid hb2
        have hsz4 := hb2.size
        clear hr2 hb2 HR HBr hsz
        cases up
        · obtain ⟨Y, hY⟩ : ∃ Y, r - 1 - q2 = Y := ⟨_, rfl⟩
          obtain ⟨M, hM⟩ : ∃ M, Y * c = M := ⟨_, rfl⟩
          have hM0 : 0 ≤ M := by rw [← hM]; exact Int.mul_nonneg (by omega) (by omega)
          have hMt : M + q1 = (t : Int) := by rw [← HT.out, ← hM, ← hY]; simp [srcM, e1, e2]
          have wm : IntKind.i64.wrap (Y * c) = M := by rw [hM]; exact IntWalk.i64_in _ (by omega)
          have ws : IntKind.i64.wrap (M + q1) = (t : Int) := by rw [hMt]; exact IntWalk.i64_in _ (by omega)
          clear hM hMt e1 e2 HD HT
          go_wp2_with (at_builtin; refine wpList_append_lies _ rfl _ _ 31 rfl w3.heap.size 3 i0 _ 1 8 Try.underlying31 hi0 hz0 hz1 hz2 rfl (by omega) _ (wantK false c r L k).length ((wantK false c r L k).map (Value.int .i64)) rfl (HR2.out.alloc _) ⟨w4.heap.size, 0, none⟩ 1 1 [.int .i64 x] rfl rfl ?c1 ?c2 (by omega) (by rw [HLe.out]; unfold maxLen; omega) (by rw [HLe.out]; omega) (by simp; omega) _ rfl ?_)
          case c1 => exact World.news_of_block (cs := #[.int .i64 x]) (t := 3) (fr := (0, 0)) (heap_alloc_new w4 _)
          case c2 => intro u hu; simp at hu; subst hu; rfl
          intro g cap' w5 hown hgrow hat hglt
          have HO1 := Lib.hid hown; have HGr := Lib.hid hgrow
          clear hown hgrow hat
          go_wp2
          go_roundw
          case rel =>
            refine ⟨k + 1, by omega, by go_num, ?_, ?_⟩
            · rw [HW.out]
              unfold rowI
              rw [List.length_append, List.map_append]
              exact HO1.out
            · exact Below.grown (HB4.out.alloc (by omega) _) HGr.out (by simp; omega) (fun j hj => (HR2.out.lt j hj).1)
          case measure => simp [intOf]; omega
        · obtain ⟨X, hX⟩ : ∃ X, c - 1 - q1 = X := ⟨_, rfl⟩
          obtain ⟨M, hM⟩ : ∃ M, q2 * c = M := ⟨_, rfl⟩
          have hM0 : 0 ≤ M := by rw [← hM]; exact Int.mul_nonneg (by omega) (by omega)
          have hMt : M + X = (t : Int) := by rw [← HT.out, ← hM, ← hX]; simp [srcM, e1, e2]
          have wm : IntKind.i64.wrap (q2 * c) = M := by rw [hM]; exact IntWalk.i64_in _ (by omega)
          have ws : IntKind.i64.wrap (M + X) = (t : Int) := by rw [hMt]; exact IntWalk.i64_in _ (by omega)
          clear hM hMt e1 e2 HD HT
          go_wp2_with (at_builtin; refine wpList_append_lies _ rfl _ _ 31 rfl w3.heap.size 3 i0 _ 1 8 Try.underlying31 hi0 hz0 hz1 hz2 rfl (by omega) _ (wantK true c r L k).length ((wantK true c r L k).map (Value.int .i64)) rfl (HR2.out.alloc _) ⟨w4.heap.size, 0, none⟩ 1 1 [.int .i64 x] rfl rfl ?c1 ?c2 (by omega) (by rw [HLe.out]; unfold maxLen; omega) (by rw [HLe.out]; omega) (by simp; omega) _ rfl ?_)
          case c1 => exact World.news_of_block (cs := #[.int .i64 x]) (t := 3) (fr := (0, 0)) (heap_alloc_new w4 _)
          case c2 => intro u hu; simp at hu; subst hu; rfl
          intro g cap' w5 hown hgrow hat hglt
          have HO1 := Lib.hid hown; have HGr := Lib.hid hgrow
          clear hown hgrow hat
          go_wp2
          go_roundw
          case rel =>
            refine ⟨k + 1, by omega, by go_num, ?_, ?_⟩
            · rw [HW.out]
              unfold rowI
              rw [List.length_append, List.map_append]
              exact HO1.out
            · exact Below.grown (HB4.out.alloc (by omega) _) HGr.out (by simp; omega) (fun j hj => (HR2.out.lt j hj).1)
          case measure => simp [intOf]; omega
      · have hk2 : k = m := by omega
        subst hk2
        have e : wantK up c r L k = wantM up c r L := by unfold wantK wantM; rw [HM.out, Int.toNat_natCast]
        rw [e] at hrow
        have hlw : (wantM up c r L).length = k := by rw [wantM_length, HM.out, Int.toNat_natCast]
        obtain ⟨g, cap', rfl, hgb, hglt, hgc⟩ := rowI_form hrow (by omega)
        rw [hlw]
        have HGc := Lib.hid (show Li wr g (wantM up c r L) from hgc)
        have HB4 := Lib.hid (up_trans HB3.out hb); have HX4 := Lib.hid (HX.out.up hb)
        have hG4 := HG3.out.up hb
        have hll : (L.length : Int) = c * r := by rw [HE.out, HM.out]
        have hmm : ∀ (w' : World) (G A : Nat) (L' : List Int), (L'.length : Int) = c * r → Gd w' G A c r L' → Calls Try.prog 18 #[.pointer (some ⟨G, 0, none⟩), .bool up] w' fun e w'' => ∃ P PA, e = .returned (.pointer (some ⟨P, 0, none⟩)) ∧ Gd w'' P PA c r (wantM up c r L') ∧ w'.heap.size ≤ P ∧ w'.heap.size ≤ PA ∧ Below w'.heap.size w' w'' := fun w' G A L' hl' hg' => by
          have := mirror_yes hg' up
          rwa [mirror_eq up c r L' hl' bc1 (by omega) (by omega) br1] at this
        have HMM := Lib.hid hmm; have HG4 := Lib.hid hG4; have HLL := Lib.hid hll; have HLW := Lib.hid hlw
        have H2 := Lib.hid (wantM_twice up c r L hll bc1 br1)
        have HNM := Lib.hid (fun w => mirror_nil true w)
        have HNP := Lib.hid (fun w => part_no none 0 0 0 0 1 1 w (by omega) (by omega) (by omega) (by omega) (by omega) (by omega) (fun w' _ => cols_nil w') (fun w' _ => rows_nil w') (.inl rfl))
        have HNC := Lib.hid (fun w => cols_nil w)
        have HNS := Lib.hid (fun w => set_no (.pointer none) 0 0 1 w (has_nil 0 0 w))
        clear hrow hb hgc hmm hG4 hll e HX HG3 HB3 HL HC HA HS hlw
        go_wp2_with fail
        refine (HMM.out _ _ _ _ HLL.out HG4.out).mono ?_
        rintro e w4 ⟨P, PA, rfl, hg, _, _, hb⟩
        have KI := is_any hg _ cap' (HGc.out.up hb)
        rw [HLW.out] at KI
        have HI := Lib.hid KI; have HB5 := Lib.hid (up_trans HB4.out hb); have HG5 := Lib.hid (HG4.out.up hb); have HX5 := Lib.hid (HX4.out.up hb)
        clear KI hg hb HB4 HG4 HX4 HGc
        go_wp2_with fail
        refine HI.out.mono ?_
        rintro e w5 ⟨rfl, hb⟩
        have HB6 := Lib.hid (up_trans HB5.out hb); have HG6 := Lib.hid (HG5.out.up hb); have HX6 := Lib.hid (HX5.out.up hb)
        clear hb HB5 HG5 HX5 HI
        go_wp2_with fail
        refine (HMM.out _ _ _ _ HLL.out HG6.out).mono ?_
        rintro e w6 ⟨P2, PA2, rfl, hg, _, _, hb⟩
        have KM := HMM.out _ _ _ _ (by rw [wantM_length, HM.out, Int.toNat_natCast]) hg
        rw [H2.out] at KM
        have HM2 := Lib.hid KM; have HB7 := Lib.hid (up_trans HB6.out hb); have HX7 := Lib.hid (HX6.out.up hb)
        clear KM hg hb HB6 HG6 HX6
        go_wp2_with fail
        refine HM2.out.mono ?_
        rintro e w7 ⟨P3, PA3, rfl, hg, _, _, hb⟩
        have KI := is_any hg _ k (HX7.out.up hb)
        rw [HE.out] at KI
        have HI := Lib.hid KI; have HB8 := Lib.hid (up_trans HB7.out hb)
        clear KI hg hb HB7 HX7 HM2
        go_wp2_with fail
        refine HI.out.mono ?_
        rintro e w8 ⟨rfl, hb⟩
        have HB9 := Lib.hid (up_trans HB8.out hb)
        clear hb HB8 HI
        go_wp2_with fail
        refine (HNM.out _).mono ?_
        rintro e w9 ⟨rfl, hb⟩
        have HB10 := Lib.hid (up_trans HB9.out hb)
        clear hb HB9
        go_wp2_with fail
        refine (HNP.out _).mono ?_
        rintro e w10 ⟨rfl, hb⟩
        have HB11 := Lib.hid (up_trans HB10.out hb)
        clear hb HB10
        go_wp2_with (first | (go_at_call 19; refine (HNC.out _).mono ?_; rintro e w' ⟨rfl, rfl⟩) | (go_at_call 17; refine (HNS.out _).mono ?_; rintro e w' ⟨rfl, rfl⟩))
        go_ret
        exact ⟨rfl, HB11.out⟩

theorem walkGridMirrors (c r : Int) (a : Option Addr) (len cap : Nat) (V : Nat → Nat → Int) (up : Bool) (w : World) (x0 : (Lit.int .i64 c).wf = true) (x1 : (Lit.int .i64 r).wf = true)
    (h : (a = none ∧ len = 0 ∧ cap = 0) ∨ ∃ x, a = some x ∧ len ≤ cap ∧ cap ≤ maxLen ∧ ∀ i, i < len → ∀ j, j < 3 → w.cell? (x.add (i * 3 + j)) = some (.int .i64 (V i j)) ∧ (Lit.int .i64 (V i j)).wf = true) :
    Calls Try.prog 6 #[.int .i64 c, .int .i64 r, .slice a len cap, .bool up] w fun e w' => e = .returned (.bool true) ∧ Below w.heap.size w w' := by
  obtain ⟨l, rfl, hp⟩ := puts_of a len cap V w h
  exact mirrors_core c r a cap l up w hp
end Go.Proofs.Ytlbklfanphkacaa
