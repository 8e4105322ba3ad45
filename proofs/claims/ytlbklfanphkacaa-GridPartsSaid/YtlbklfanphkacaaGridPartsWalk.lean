/- The law GridParts answers true for every two ints, every list of puts and every four ints: a part has what stands there, and is its own; none is told, where it is not all there; no condition. -/
import Derived.Test.YtlbklfanphkacaaGridSetsWalk
import Derived.Test.YtlbklfanphkacaaGridMath
import Derived.Test.YtlbklfanphkacaaGridPartsBad
import Derived.Test.YtlbklfanphkacaaRowI
import Derived.Deep.RegionHeld3
namespace Go.Proofs.Ytlbklfanphkacaa
open Go.RowKit
set_option linter.unusedVariables false

/-- The first k things of the part. -/
def wantQ (c p0 p1 p2 : Int) (l : List Int) (k : Nat) : List Int := (List.range k).map fun i => l[(srcP c p0 p1 p2 i).toNat]?.getD 0
theorem wantQ_succ (c p0 p1 p2 : Int) (l : List Int) (k : Nat) (x : Int) (h : l[(srcP c p0 p1 p2 k).toNat]? = some x) : wantQ c p0 p1 p2 l (k + 1) = wantQ c p0 p1 p2 l k ++ [x] := by simp [wantQ, List.range_succ, h]
theorem wantQ_length (c p0 p1 p2 : Int) (l : List Int) (k : Nat) : (wantQ c p0 p1 p2 l k).length = k := by simp [wantQ]
def ParRel (c p0 p1 p2 : Int) (l : List Int) (n : Nat) (w3 : World) (v i : Value) (wr : World) : Prop :=
  ∃ k : Nat, k ≤ n ∧ i = .int .i64 (k : Int) ∧ rowI wr w3.heap.size v (wantQ c p0 p1 p2 l k) ∧ Below w3.heap.size w3 wr


set_option maxRecDepth 100000 in
set_option maxHeartbeats 4000000 in
theorem parts_good (c r : Int) (a : Option Addr) (cap : Nat) (l : List Pu) (p0 p1 p2 p3 : Int) (w : World) (hp : Puts w a l) (hs : smB c r l.length = true) (hf1 : fitB p0 p2 c = true) (hf2 : fitB p1 p3 r = true) :
    Calls Try.prog 5 #[.int .i64 c, .int .i64 r, .slice a l.length cap, .agg #[.int .i64 p0, .int .i64 p1, .int .i64 p2, .int .i64 p3]] w fun e w' => e = .returned (.bool true) ∧ Below w.heap.size w w' := by
  have KS := fun w => small_any c r a l.length cap w
  rw [hs] at KS
  have HS := Lib.hid KS
  simp only [smB, Bool.and_eq_true, decide_eq_true_eq] at hs
  obtain ⟨h1, h2, h3⟩ := hs
  have h1' := in_wide h1
  have h2' := in_wide h2
  have bc : 1 ≤ c ∧ c ≤ 12 := by simpa [inB] using h1
  have br : 1 ≤ r ∧ r ≤ 12 := by simpa [inB] using h2
  obtain ⟨bc1, bc2⟩ := bc
  obtain ⟨br1, br2⟩ := br
  have f1 : 0 ≤ p0 ∧ 1 ≤ p2 ∧ p0 ≤ c - p2 := by simpa [fitB] using hf1
  have f2 : 0 ≤ p1 ∧ 1 ≤ p3 ∧ p1 ≤ r - p3 := by simpa [fitB] using hf2
  obtain ⟨f10, f11, f12⟩ := f1
  obtain ⟨f20, f21, f22⟩ := f2
  have hm0 : 0 < c * r := Int.mul_pos (by omega) (by omega)
  have hm1 : c * r ≤ 12 * 12 := Int.mul_le_mul bc2 br2 (by omega) (by omega)
  have hq0 : 0 < p2 * p3 := Int.mul_pos (by omega) (by omega)
  have hq1 : p2 * p3 ≤ 12 * 12 := Int.mul_le_mul (by omega) (by omega) (by omega) (by omega)
  have KL := fun (w' : World) (hb : Below w.heap.size w w') => laid_any c r a cap l w' h1' h2' (by omega) (hp.up hb)
  have KC := fun (w' : World) (hb : Below w.heap.size w w') => cells_any c r a cap l w' h1' h2' (by omega) (hp.up hb)
  have HL := Lib.hid KL; have HC := Lib.hid KC
  have hlen := putsL_length c r l
  clear KL KC hp h1 h2 h3 h1' h2' KS
  generalize l.length = n at *
  generalize putsL c r l = L at *
  obtain ⟨m, hm⟩ : ∃ m : Nat, c * r = (m : Int) := ⟨(c * r).toNat, by omega⟩
  rw [hm] at hm0 hm1 hlen
  rw [Int.toNat_natCast] at hlen
  have HE := Lib.hid hlen; have HM := Lib.hid hm
  rw [hm, Int.toNat_natCast] at HC
  obtain ⟨q, hq⟩ : ∃ q : Nat, p2 * p3 = (q : Int) := ⟨(p2 * p3).toNat, by omega⟩
  rw [hq] at hq0 hq1
  have wq : IntKind.i64.wrap (p2 * p3) = (q : Int) := by rw [hq]; exact IntWalk.i64_in _ (by omega)
  have HQ := Lib.hid hq
  have hll : (L.length : Int) = c * r := by rw [hlen, hm]
  have hpe := part_eq c r p0 p1 p2 p3 L hll bc1 (by omega) (by omega) f10 (by omega) f20 (by omega) f11 f21
  have HPE := Lib.hid hpe; have HF1 := Lib.hid hf1; have HF2 := Lib.hid hf2
  clear hlen hm hq hll hpe hf1 hf2
  go_enter Try.func5, Try.ntmps5
  go_wp2_with fail
  refine (alive_any _).mono ?_
  rintro e w1 ⟨rfl, hb⟩
  have hR := (Bx.new w 37 [.int .i64 p0, .int .i64 p1, .int .i64 p2, .int .i64 p3]).up hb
  have HB := Lib.hid (up_trans (up_alloc (Below.refl _ _) _) hb); have HR := Lib.hid hR
  clear hb hR
  go_wp2_with (go_at_call 8; refine (HS.out _).mono ?_; rintro e w' ⟨rfl, rfl⟩)
  refine (HL.out _ HB.out).mono ?_
  rintro e w2 ⟨G, A, rfl, hg, hlG, hlA, hb⟩
  have hR := HR.out.up hb
  have a0 := hR.cell 0 rfl; have a1 := hR.cell 1 rfl; have a2 := hR.cell 2 rfl; have a3 := hR.cell 3 rfl
  have KP := part_yes hg p0 p1 p2 p3 HF1.out HF2.out
  rw [HPE.out] at KP
  have HR2 := Lib.hid hR; have HB2 := Lib.hid (up_trans HB.out hb); have HP := Lib.hid KP; have HG2 := Lib.hid hg
  have hsw : w.heap.size ≤ w2.heap.size := HB2.out.size
  clear hR hb HR HB KP hg HL HS
  go_wp2_with fail
  refine HP.out.mono ?_
  rintro e w3 ⟨P, PA, rfl, hgp, hlP, hlPA, hb⟩
  have hR := HR2.out.up hb
  have HB3 := Lib.hid (up_trans HB2.out hb); have HG3 := Lib.hid (HG2.out.up hb); have HP3 := Lib.hid hgp
  have hGA : G < w2.heap.size ∧ A < w2.heap.size := ⟨HG2.out.ltG, HG2.out.ltA⟩
  have hPA : P < w3.heap.size ∧ PA < w3.heap.size := ⟨hgp.ltG, hgp.ltA⟩
  clear a0 a1 a2 a3 hb HR2 HB2 HP HG2 hgp
  have a0 := hR.cell 0 rfl; have a1 := hR.cell 1 rfl; have a2 := hR.cell 2 rfl; have a3 := hR.cell 3 rfl
  have HR3 := Lib.hid hR
  clear hR
  have e1 : p0 < c := by omega
  have e2 : p1 < r := by omega
  have e3 : p2 ≤ c - p0 := by omega
  have e4 : p3 ≤ r - p1 := by omega
  go_wp2_with fail
  refine (HC.out _ HB3.out).mono ?_
  rintro e w4 ⟨rfl, hx, hb⟩
  have hR := HR3.out.up hb
  have HX := Lib.hid (Li.of hx); have HB4 := Lib.hid (up_trans HB3.out hb); have HG4 := Lib.hid (HG3.out.up hb); have HP4 := Lib.hid (HP3.out.up hb); have HR4 := Lib.hid hR
  clear hx hb HB3 HG3 HP3 HR3 hR a0 a1 a2 a3 HC
  obtain ⟨CB, hCB⟩ : ∃ CB, w3.heap.size = CB := ⟨_, rfl⟩
  rw [hCB] at HX hPA
  rw [hCB]
  clear hCB
  obtain ⟨i0, hi0, hz0, hz1, hz2⟩ := info_parts Try.infoInt
  go_wp2_with fail
  go_loopw [13, 14] (fun v i wr => ParRel c p0 p1 p2 L q w4 v i wr) (fun _ i _ => q - (intOf i).toNat)
  case atStart => exact ⟨0, by omega, by go_num, World.ownsRow_nil _ _ _ _, Below.refl _ _⟩
  case round =>
    obtain ⟨k, hk, rfl, hrow, hb⟩ := hrel
    have hR := HR4.out.up hb
    have a0 := hR.cell 0 rfl; have a1 := hR.cell 1 rfl; have a2 := hR.cell 2 rfl; have a3 := hR.cell 3 rfl
    clear hR
    by_cases hlt : k < q
    · obtain ⟨q1, q2, g1, g2, d0, d1, d2, d3, d4⟩ := split_place k p2 p3 f11 (by rw [HQ.out]; omega)
      have hsl := srcP_lt (c := c) (r := r) (col := p0) (row := p1) (pc := p2) (pr := p3) bc1 f10 (by omega) f20 (by omega) f11 k (by rw [HQ.out]; omega)
      rw [HM.out] at hsl
      obtain ⟨t, ht⟩ : ∃ t : Nat, srcP c p0 p1 p2 k = (t : Int) := ⟨(srcP c p0 p1 p2 k).toNat, by omega⟩
      obtain ⟨x, hx⟩ : ∃ x, L[t]? = some x := ⟨L[t]'(by rw [HE.out]; omega), List.getElem?_eq_getElem _⟩
      have hwk := wantQ_succ c p0 p1 p2 L k x (by rw [ht, Int.toNat_natCast]; exact hx)
      have HCx := Lib.hid (HX.out t x hx)
      have hw2 : wrap64 q2 = q2 := IntWalk.wrap64_in q2 (by omega)
      have c0 : p2 ≠ 0 := by omega
      have y0 : (0 : Int) ≤ (t : Int) := by omega
      have y1 : (t : Int) < (m : Int) := by omega
      have z0 : (0 : Int) ≤ (k : Int) := by omega
      have z1 : (k : Int) < (q : Int) := by omega
      obtain ⟨S, hS⟩ : ∃ S, p1 + q2 = S := ⟨_, rfl⟩
      obtain ⟨M, hM⟩ : ∃ M, S * c = M := ⟨_, rfl⟩
      have hM0 : 0 ≤ M := by rw [← hM]; exact Int.mul_nonneg (by omega) (by omega)
      obtain ⟨N1, hN1⟩ : ∃ N, M + p0 = N := ⟨_, rfl⟩
      have hMt : N1 + q1 = (t : Int) := by rw [← ht, ← hN1, ← hM, ← hS]; simp [srcP, g1, g2]
      have wS : IntKind.i64.wrap (p1 + q2) = S := by rw [hS]; exact IntWalk.i64_in _ (by omega)
      have wm : IntKind.i64.wrap (S * c) = M := by rw [hM]; exact IntWalk.i64_in _ (by omega)
      have wn1 : IntKind.i64.wrap (M + p0) = N1 := by rw [hN1]; exact IntWalk.i64_in _ (by omega)
      have ws : IntKind.i64.wrap (N1 + q1) = (t : Int) := by rw [hMt]; exact IntWalk.i64_in _ (by omega)
      have HW := Lib.hid hwk; have HRo := Lib.hid hrow; have HBr := Lib.hid hb
      clear hwk hrow hb ht hx hsl d4 hMt hN1 hM hM0
      have hle := wantQ_length c p0 p1 p2 L k
      have HLe := Lib.hid hle
      clear hle
      have hsz := HBr.out.size
      go_wp2
      have hlen : (wantQ c p0 p1 p2 L k).length + 1 ≤ maxLen := by rw [HLe.out]; unfold maxLen; omega
      have hbytes : ((wantQ c p0 p1 p2 L k).length + 1) * 8 ≤ 140737488355328 := by rw [HLe.out]; omega
      have hr2 : rowI wr.drew w4.heap.size u13 (wantQ c p0 p1 p2 L k) := HRo.out.up (up_drew (Below.refl _ _))
      have KS : ∀ w' : World, Below w4.heap.size w4 w' → w'.cell? ⟨w.heap.size, 0, none⟩ = some (.int .i64 p0) ∧ w'.cell? ⟨w.heap.size, 1, none⟩ = some (.int .i64 p1) ∧ w'.cell? ⟨w.heap.size, 2, none⟩ = some (.int .i64 p2) ∧ w'.cell? ⟨CB, t, none⟩ = some (.int .i64 x) := fun w' h =>
        have hR := HR4.out.up h
        ⟨hR.cell 0 rfl, hR.cell 1 rfl, hR.cell 2 rfl, bl_cell h HCx.out⟩
      have HKS := Lib.hid KS; have HR2 := Lib.hid hr2
      clear KS hr2 a0 a1 a2 a3
      have hS' : IntKind.i64.wrap S = S := IntWalk.i64_in _ (by omega)
      have hq' : IntKind.i64.wrap q2 = q2 := IntWalk.i64_in _ (by omega)
      go_region_held3 (fun w' => w'.cell? ⟨w.heap.size, 0, none⟩ = some (.int .i64 p0) ∧ w'.cell? ⟨w.heap.size, 1, none⟩ = some (.int .i64 p1) ∧ w'.cell? ⟨w.heap.size, 2, none⟩ = some (.int .i64 p2) ∧ w'.cell? ⟨CB, t, none⟩ = some (.int .i64 x))
        ((refine HKS.out _ ?_; first | exact hbw6 | (refine up_trans HBr.out ?_; repeat (first | exact Below.refl _ _ | apply up_drew | apply up_alloc))))
        (first
          | (refine step_append_lies _ (by rfl) _ _ _ (by rfl) w4.heap.size 3 i0 _ 1 8 Try.underlying31 hi0 hz0 hz1 hz2 rfl (by omega) u13 (wantQ c p0 p1 p2 L k).length ((wantQ c p0 p1 p2 L k).map (Value.int .i64)) (by rfl) (HR2.out.alloc _) ⟨wr.heap.size, 0, none⟩ 1 1 [.int .i64 x] (by rfl) (by rfl) (World.news_of_block (cs := #[.int .i64 x]) (t := 3) (fr := (0, 0)) (heap_alloc_new wr.drew _)) (by simp [Value.oneCell']) (by omega) hlen hbytes (by simp; omega) _ rfl ?_
             intro g cap' w6 hown hgrow hat hglt
             have hbw6 : Below w4.heap.size w4 w6 := Below.grown (up_alloc (up_trans HBr.out (up_drew (Below.refl _ _))) _) hgrow (by simp; omega) (fun k hk => (HR2.out.lt k hk).1)))
      all_goals
      have HO1 := Lib.hid hown
      have HB6 := Lib.hid hbw6
      clear hown hgrow hat hbw6
      go_wp2
      go_roundw
      case rel =>
        refine ⟨k + 1, by omega, by go_num, ?_, ?_⟩
        · rw [HW.out]
          unfold rowI
          rw [List.length_append, List.map_append]
          exact HO1.out
        · exact HB6.out
      case measure => simp [intOf]; omega
    · have hk2 : k = q := by omega
      subst hk2
      have e : wantQ c p0 p1 p2 L k = wantP c p0 p1 p2 p3 L := by unfold wantQ wantP; rw [HQ.out, Int.toNat_natCast]
      rw [e] at hrow
      have hlw : (wantP c p0 p1 p2 p3 L).length = k := by unfold wantP; rw [HQ.out, Int.toNat_natCast]; simp
      obtain ⟨g, cap', rfl, hgb, hglt, hgc⟩ := rowI_form hrow (by omega)
      rw [hlw]
      have HP5 := Lib.hid (HP4.out.up hb)
      have KI := is_any HP5.out _ cap' hgc
      rw [hlw] at KI
      obtain ⟨x, hx⟩ : ∃ x, (wantP c p0 p1 p2 p3 L)[0]? = some x := ⟨(wantP c p0 p1 p2 p3 L)[0]'(by omega), List.getElem?_eq_getElem _⟩
      have HI := Lib.hid KI; have HB5 := Lib.hid (up_trans HB4.out hb); have HX5 := Lib.hid (HX.out.up hb); have HG5 := Lib.hid (HG4.out.up hb); have H0 := Lib.hid (hgc 0 x hx)
      clear KI hrow hb hgc e HX HG4 HP4 HB4 hlw hx HR4
      obtain ⟨v, hv⟩ : ∃ v, wrap64 (x + 1) = v := ⟨_, rfl⟩
      go_wp2_with fail
      refine HI.out.mono ?_
      rintro e w5 ⟨rfl, hb⟩
      have x0 := bl_cell hb H0.out
      have KS := set_any (HP5.out.up hb) 0 0 v
      have HB6 := Lib.hid (up_trans HB5.out hb); have HX6 := Lib.hid (HX5.out.up hb); have HG6 := Lib.hid (HG5.out.up hb); have HSe := Lib.hid KS
      clear KS hb HB5 HX5 HG5 HP5 HI H0 a0 a1 a2 a3
      go_wp2_with fail
      refine HSe.out.mono ?_
      rintro e w6 ⟨rfl, _, hgr⟩
      have hg6 := HG6.out.kept hgr (by simp; omega) (by simp; omega)
      have hx6 := HX6.out.kept hgr (by simp; omega)
      have KI := is_any hg6 _ m hx6
      rw [HE.out] at KI
      have HI := Lib.hid KI; have HB7 := Lib.hid (HB6.out.grown hgr HB6.out.size (fun j ej => by cases ej; have := hsw; omega))
      clear KI hgr hg6 hx6 HG6 HX6 HB6 HSe x0
      go_wp2_with fail
      refine HI.out.mono ?_
      rintro e w7 ⟨rfl, hb⟩
      have HB8 := Lib.hid (up_trans HB7.out hb)
      clear hb HI HB7
      go_wp2
      go_ret
      exact ⟨rfl, HB8.out⟩

theorem walkGridParts (c r : Int) (a : Option Addr) (len cap : Nat) (V : Nat → Nat → Int) (p0 p1 p2 p3 : Int) (w : World) (x0 : (Lit.int .i64 c).wf = true) (x1 : (Lit.int .i64 r).wf = true)
    (h : (a = none ∧ len = 0 ∧ cap = 0) ∨ ∃ x, a = some x ∧ len ≤ cap ∧ cap ≤ maxLen ∧ ∀ i, i < len → ∀ j, j < 3 → w.cell? (x.add (i * 3 + j)) = some (.int .i64 (V i j)) ∧ (Lit.int .i64 (V i j)).wf = true)
    (y0 : (Lit.int .i64 p0).wf = true) (y1 : (Lit.int .i64 p1).wf = true) (y2 : (Lit.int .i64 p2).wf = true) (y3 : (Lit.int .i64 p3).wf = true) :
    Calls Try.prog 5 #[.int .i64 c, .int .i64 r, .slice a len cap, .agg #[.int .i64 p0, .int .i64 p1, .int .i64 p2, .int .i64 p3]] w fun e w' => e = .returned (.bool true) ∧ Below w.heap.size w w' := by
  obtain ⟨l, rfl, hp⟩ := puts_of a len cap V w h
  have b2 : p2 ≤ 9223372036854775807 := by have := y2; simp [Lit.wf] at this; omega
  have b3 : p3 ≤ 9223372036854775807 := by have := y3; simp [Lit.wf] at this; omega
  cases hs : smB c r l.length
  · exact parts_large c r a l.length cap p0 p1 p2 p3 w hs
  · cases h1 : fitB p0 p2 c
    · exact parts_bad c r a cap l p0 p1 p2 p3 w hp hs b2 b3 (.inl h1)
    · cases h2 : fitB p1 p3 r
      · exact parts_bad c r a cap l p0 p1 p2 p3 w hp hs b2 b3 (.inr h2)
      · exact parts_good c r a cap l p0 p1 p2 p3 w hp hs h1 h2
end Go.Proofs.Ytlbklfanphkacaa
