/- The law SpineOpens answers true for every scheme and every int, and leaves what came in as it was: so many leaves as the reference tells hang together with no other one at an edge; on no condition. -/
import Derived.Deep.RegionHeld3
import Derived.BigRegion
import Derived.Test.YtffnngmiaihkeaaPart9
import Derived.Test.YtffnngmiaihkeaaPart10
import Derived.OpenShut
import Derived.Test.YtffnngmiaihkeaaRows
import Derived.WalkKit
import Derived.ProofKit
import Derived.ShutString
import Derived.ChangeOld
import Derived.Below
import Derived.Lib.SmallJoins
import Derived.Laws.IdiomArrays
import Derived.Test.YtffnngmiaihkeaaPart8
/- gatherumlaw14.SpineOpens answers true, for every scheme and every int. -/
namespace Go.Proofs.Ytffnngmiaihkeaa
open Go.RowKit
set_option linter.unusedVariables false

/-- Does leaf a hang together at edge e with none of the first b? -/
def freN (c : Int) (L : List Pc) (e : Int) (a b : Nat) : Bool := (List.range b).all fun j => decide (edgM c L (a : Int) (j : Int) ≠ e)
theorem freN_succ (c : Int) (L : List Pc) (e : Int) (a b : Nat) : freN c L e a (b + 1) = (freN c L e a b && decide (edgM c L (a : Int) (b : Int) ≠ e)) := by
  unfold freN
  rw [List.range_succ, List.all_append]
  simp
theorem freN_all (c : Int) (L : List Pc) (e : Int) (a : Nat) : freN c L e a L.length = freeM c L e a := rfl

def WantRel (w2 : World) (c : Int) (L : List Pc) (e : Int) (m : Nat) (x i : Value) (wr : World) : Prop :=
  ∃ k : Nat, k ≤ m ∧ x = .int .i64 ((cntM c L e k : Nat) : Int) ∧ i = .int .i64 (k : Int) ∧ Below w2.heap.size w2 wr
def FreeRel (w3 : World) (c : Int) (L : List Pc) (e : Int) (m k : Nat) (x i : Value) (wr : World) : Prop :=
  ∃ b : Nat, b ≤ m ∧ x = .int .i64 (if freN c L e k b = true then 1 else 0) ∧ i = .int .i64 (b : Int) ∧ Below w3.heap.size w3 wr

set_option maxHeartbeats 2000000 in
theorem opens_core (s : Sc) (ad : Option Addr) (cap : Nat) (e : Int) (w : World) (hc : s.c ≤ 9223372036854775807) (hr : s.r ≤ 9223372036854775807) (h : InL w ad s.l) :
    Calls Try.prog 5 #[.agg #[.int .i64 s.c, .int .i64 s.r, .slice ad s.l.length cap], .int .i64 e] w fun en w' => en = .returned (.bool true) ∧ Below w.heap.size w w' := by
  have B0 := Lib.hid (up_alloc (Below.refl _ w) (.cells #[.int .i64 s.c, .int .i64 s.r, .slice ad s.l.length cap] 24))
  by_cases hlen : 20 < s.l.length
  · have z1 : (20 : Int) < (s.l.length : Int) := by omega
    generalize s.l.length = m at *
    generalize s.c = c at *
    generalize s.r = r at *
    clear h
    go_enter Try.func5, Try.ntmps5
    go_wp2_with fail
    refine (spAlive_any _).mono ?_
    rintro e w1 ⟨rfl, hb⟩
    have A1 := (Bx.new w 24 [.int .i64 c, .int .i64 r, .slice ad m cap]).up hb
    have B1 := Lib.hid (up_trans B0.out hb)
    have a2 := A1.cell 2 rfl
    clear hb A1
    go_wp2
    go_ret
    exact ⟨rfl, B1.out⟩
  have z1 : decide ((20 : Int) < (s.l.length : Int)) = false := by simp; omega
  have K1 := fun w1 (hb : Below w.heap.size w w1) => refFold_any s ad cap w1 hc hr (by omega) (h.up hb)
  have K2 := fun w1 (hb : Below w.heap.size w w1) (x y : Int) => refEdge_any s ad cap x y w1 hc hr (by omega) (h.up hb)
  have K3 := fun w1 (hb : Below w.heap.size w w1) => spOpen_any s ad cap e w1 hc hr (by omega) (h.up hb)
  have hm := pcR_small s
  have hsucc := cnt_succ s.c (pcR s) e
  have hle := cnt_le s.c (pcR s) e
  have hall := freN_all s.c (pcR s) e
  generalize pcR s = L at *
  obtain ⟨n, hnn⟩ : ∃ n, s.l.length = n := ⟨_, rfl⟩
  obtain ⟨c, hcc⟩ : ∃ c, s.c = c := ⟨_, rfl⟩
  obtain ⟨r, hrr⟩ : ∃ r, s.r = r := ⟨_, rfl⟩
  obtain ⟨m, hmm⟩ : ∃ m, L.length = m := ⟨_, rfl⟩
  rw [hcc, hrr, hnn] at K1 K2 B0
  rw [hcc, hrr, hnn] at K3
  rw [hcc] at hsucc hle hall
  rw [hnn] at z1
  rw [hmm] at K1 hm hall
  rw [hcc, hrr, hnn]
  unfold openM at K3
  rw [hmm] at K3
  have H1 := Lib.hid K1; have H2 := Lib.hid K2; have HS := Lib.hid hsucc; have HL := Lib.hid hle; have HAl := Lib.hid hall
  clear K1 K2 hsucc hle hall hc hr h hlen hcc hrr hnn hmm
  by_cases he : 1 ≤ e ∧ e ≤ 4
  · rw [if_pos he] at K3
    have H3 := Lib.hid K3
    obtain ⟨g1, g4⟩ := he
    clear K3
    go_enter Try.func5, Try.ntmps5
    go_wp2_with fail
    refine (spAlive_any _).mono ?_
    rintro en w1 ⟨rfl, hb⟩
    have A := (Bx.new w 24 [.int .i64 c, .int .i64 r, .slice ad n cap]).up hb
    have B1 := Lib.hid (up_trans B0.out hb)
    have a0 := A.cell 0 rfl; have a1 := A.cell 1 rfl; have a2 := A.cell 2 rfl
    clear hb
    go_wp2_with fail
    refine (H1.out _ B1.out).mono ?_
    rintro en w2 ⟨bb, cp, rfl, hb⟩
    have HA := Lib.hid (A.up hb)
    have B2 := Lib.hid (up_trans B1.out hb)
    clear hb A B1 a0 a1 a2
    go_wp2
    go_loopw [6, 7] (fun x i wr => WantRel w2 c L e m x i wr) (fun x i _ => m - (intOf i).toNat)
    case atStart => exact ⟨0, by omega, by rw [cnt_zero]; rfl, by go_num, Below.refl _ _⟩
    case round =>
      obtain ⟨k, hk, rfl, rfl, hb⟩ := hrel
      have HB := Lib.hid hb
      have hcl := HL.out k
      have hcs := HS.out k
      obtain ⟨q, hq⟩ : ∃ q, cntM c L e k = q := ⟨_, rfl⟩
      rw [hq] at hcl hcs ⊢
      have HC := Lib.hid hcs; have HQ := Lib.hid hq
      clear hb hcs hq
      by_cases hlt : k < m
      · have z2 : (k : Int) < (m : Int) := by omega
        go_wp2
        obtain ⟨V, hVV⟩ : ∃ V, V = wr := ⟨_, rfl⟩
        subst hVV
        go_loopw [8, 9] (fun x i wr => FreeRel V c L e m k x i wr) (fun x i _ => m - (intOf i).toNat)
        case atStart => exact ⟨0, by omega, rfl, by go_num, Below.refl _ _⟩
        case round =>
          obtain ⟨b, hbm, rfl, rfl, hb⟩ := hrel
          have A := HA.out.up (up_trans HB.out hb)
          have f0 := A.cell 0 rfl; have f1 := A.cell 1 rfl; have f2 := A.cell 2 rfl
          have HBb := Lib.hid (up_trans HB.out hb)
          have HBw := Lib.hid (up_trans B2.out (up_trans HB.out hb))
          have HB4 := Lib.hid hb
          have hfs := freN_succ c L e k b
          have hfa := HAl.out k
          clear hb A
          by_cases hbl : b < m
          · have z3 : (b : Int) < (m : Int) := by omega
            have KE := H2.out _ HBw.out (k : Int) (b : Int)
            obtain ⟨E, hE⟩ : ∃ E, edgM c L (k : Int) (b : Int) = E := ⟨_, rfl⟩
            rw [hE] at KE hfs
            have HKE := Lib.hid KE; have HFs := Lib.hid hfs
            clear KE hE hfs hfa
            obtain ⟨f, hf⟩ : ∃ f : Int, (if freN c L e k b = true then (1 : Int) else 0) = f := ⟨_, rfl⟩
            have HFF := Lib.hid hf
            rw [hf]
            clear hf
            by_cases h1 : E = e
            · subst h1
              go_wp2_with fail
              refine HKE.out.mono ?_
              rintro en w3 ⟨rfl, hb3⟩
              have HB3 := Lib.hid (up_trans HB4.out hb3)
              clear hb3 f0 f1 f2
              go_wp2
              refine ⟨⟨b + 1, by omega, ?_, by go_num, HB3.out⟩, by simp [intOf]; omega⟩
              rw [HFs.out]
              simp
            · have h1' : (E == e) = false := beq_eq_false_iff_ne.2 h1
              go_wp2_with fail
              refine HKE.out.mono ?_
              rintro en w3 ⟨rfl, hb3⟩
              have HB3 := Lib.hid (up_trans HB4.out hb3)
              clear hb3 f0 f1 f2
              go_wp2
              refine ⟨⟨b + 1, by omega, ?_, by go_num, HB3.out⟩, by simp [intOf]; omega⟩
              rw [HFs.out, ← HFF.out]
              simp [h1]
          · obtain rfl : b = m := by omega
            rw [hfa]
            have hC := HC.out
            clear hfs hfa f0 f1 f2
            cases hfr : freeM c L e k
            · rw [hfr] at hC
              simp only [Bool.false_eq_true, if_false, Nat.add_zero] at hC ⊢
              have HC2 := Lib.hid hC
              clear hC
              go_wp2
              refine ⟨⟨k + 1, by omega, by rw [HC2.out], by go_num, HBb.out⟩, by simp [intOf]; omega⟩
            · rw [hfr] at hC
              simp only [if_true] at hC ⊢
              have HC2 := Lib.hid hC
              clear hC
              go_wp2
              refine ⟨⟨k + 1, by omega, by rw [HC2.out]; rfl, by go_num, HBb.out⟩, by simp [intOf]; omega⟩
      · obtain rfl : k = m := by omega
        have K3 := H3.out _ (up_trans B2.out HB.out)
        rw [HQ.out] at K3
        have HK3 := Lib.hid K3
        have A := HA.out.up HB.out
        have f0 := A.cell 0 rfl; have f1 := A.cell 1 rfl; have f2 := A.cell 2 rfl
        clear K3 A
        go_wp2_with fail
        refine HK3.out.mono ?_
        rintro en w3 ⟨rfl, hb3⟩
        have HB3 := Lib.hid (up_trans (up_trans B2.out HB.out) hb3)
        clear hb3 f0 f1 f2
        go_wp2
        go_ret
        exact ⟨rfl, HB3.out⟩
  · rw [if_neg he] at K3
    have H3 := Lib.hid K3
    obtain ⟨t0, k0⟩ : ∃ t, decide ((0 : Int) < (m : Int)) = t := ⟨_, rfl⟩
    have k0' : decide (0 < m) = t0 := by rw [← k0, decide_eq_decide]; omega
    obtain ⟨t1, k1⟩ : ∃ t, decide ((1 : Int) ≤ e) = t := ⟨_, rfl⟩
    obtain ⟨t2, k2⟩ : ∃ t, decide (e ≤ 4) = t := ⟨_, rfl⟩
    have ht : t1 = false ∨ t2 = false := by
      subst k1 k2
      simp only [decide_eq_false_iff_not]
      omega
    clear K3 he
    go_enter Try.func5, Try.ntmps5
    go_wp2_with fail
    refine (spAlive_any _).mono ?_
    rintro en w1 ⟨rfl, hb⟩
    have A := (Bx.new w 24 [.int .i64 c, .int .i64 r, .slice ad n cap]).up hb
    have B1 := Lib.hid (up_trans B0.out hb)
    have a0 := A.cell 0 rfl; have a1 := A.cell 1 rfl; have a2 := A.cell 2 rfl
    clear hb
    go_wp2_with fail
    refine (H1.out _ B1.out).mono ?_
    rintro en w2 ⟨bb, cp, rfl, hb⟩
    have A2 := A.up hb
    have B2 := Lib.hid (up_trans B1.out hb)
    clear hb B1 a0 a1 a2 A
    have a0 := A2.cell 0 rfl; have a1 := A2.cell 1 rfl; have a2 := A2.cell 2 rfl
    go_wp2
    refine wp_loop_rounds 1 ?_
    rw [rounds_succ]
    cases t0
    · go_wp2_with fail
      refine (H3.out _ B2.out).mono ?_
      rintro en w3 ⟨rfl, hb3⟩
      have HB3 := Lib.hid (up_trans B2.out hb3)
      clear hb3 a0 a1 a2
      go_wp2
      go_ret
      exact ⟨rfl, HB3.out⟩
    · cases t1
      · go_wp2_with fail
        refine (H3.out _ B2.out).mono ?_
        rintro en w3 ⟨rfl, hb3⟩
        have HB3 := Lib.hid (up_trans B2.out hb3)
        clear hb3 a0 a1 a2
        go_wp2
        go_ret
        exact ⟨rfl, HB3.out⟩
      · obtain rfl : t2 = false := by simpa using ht
        go_wp2_with fail
        refine (H3.out _ B2.out).mono ?_
        rintro en w3 ⟨rfl, hb3⟩
        have HB3 := Lib.hid (up_trans B2.out hb3)
        clear hb3 a0 a1 a2
        go_wp2
        go_ret
        exact ⟨rfl, HB3.out⟩

theorem walkSpineOpens (c r : Int) (ad : Option Addr) (len cap : Nat) (e : Int) (w : World) (x0 : (Lit.int .i64 c).wf = true) (x1 : (Lit.int .i64 r).wf = true)
    (h : (ad = none ∧ len = 0 ∧ cap = 0) ∨ ∃ x, ad = some x ∧ len ≤ cap ∧ cap ≤ maxLen ∧ ∀ i, i < len → (∃ z, w.cell? (x.add (i * 3 + 0)) = some (.int .i64 z) ∧ (Lit.int .i64 z).wf = true) ∧ (∃ z, w.cell? (x.add (i * 3 + 1)) = some (.int .i64 z) ∧ (Lit.int .i64 z).wf = true) ∧ (∃ z, w.cell? (x.add (i * 3 + 2)) = some (.bool z))) (y0 : (Lit.int .i64 e).wf = true) :
    Calls Try.prog 5 #[.agg #[.int .i64 c, .int .i64 r, .slice ad len cap], .int .i64 e] w fun en w' => en = .returned (.bool true) ∧ Below w.heap.size w w' := by
  obtain ⟨l, rfl, hp⟩ := steps_of ad len cap w h
  exact opens_core ⟨c, r, l⟩ ad cap e w (bounds_i64 x0).2 (bounds_i64 x1).2 hp
end Go.Proofs.Ytffnngmiaihkeaa
/- The law SpineOpens answers true for every scheme and every int, and leaves what came in as it was: so many leaves as the reference tells hang together with no other one at an edge; on no condition. -/
namespace Go.Proofs.Ytffnngmiaihkeaa.spineOpens
open Go.ChangeShapes Go.WideShapes Go.ChangeAt Go.RowKit Go.Joins
open Go.ChangeMaps (open_string shut_string)
set_option linter.unusedVariables false

theorem own : ownKnob Try.prog.godebug = none := by kernel_rfl
theorem laidOut : laidOutB Try.prog = true := by kernel_rfl
/-- A slice of integers that came in: nil, or a row of cells. -/
def IsRow (k : IntKind) (w : World) (a : Option Addr) (len cap : Nat) (zs : List Int) : Prop :=
  (a = none ∧ len = 0 ∧ cap = 0 ∧ zs = []) ∨
  ∃ x, a = some x ∧ len ≤ cap ∧ cap ≤ maxLen ∧ zs.length = cap ∧ (∀ i, i < zs.length → w.cell? (x.add i) = some (.int k (zs.getD i 0))) ∧ ∀ n ∈ zs, (Lit.int k n).wf = true

/-- Four things, one by one. -/
theorem list4 {α : Type} (l : List α) (h : (⟨l⟩ : Array α).size = 4) : ∃ a b c d, l = [a, b, c, d] := by
  match l, h with
  | [a, b, c, d], _ => exact ⟨a, b, c, d, rfl⟩

set_option maxHeartbeats 400000 in
set_option maxRecDepth 100000 in
theorem lifted (os : Os) (started : os.Started) (H : Type) (enc : TypeId × Value → H) :
    ReturnsInHanded {} Try.checked os 5 .any (Rows.spineOpensSpec.pre6 enc Try.prog Try.f5 Rows.spineOpensRow.domain false) (Rows.spineOpensSpec.post enc Try.prog Try.f5 false true false false) := by
  refine returnsInHanded_of_change (C := Try.checked) own started (by kernel_rfl) Try.func5
    (ChangeSpec.witness6 (enc := enc) (C := Try.checked) false ⟨#[], #[.agg #[.int .i64 0, .int .i64 0, .slice none 0 0], .int .i64 0], []⟩ 8 (by kernel_rfl) (by kernel_rfl) (by kernel_rfl) (by kernel_rfl)) ?_
  intro W base args ds gs before hval0 hW hcnd _
  have hval : ∀ (j : Nat) t v, Try.f5.params[j]? = some t → args[j]? = some v → Value.okWide Try.prog W .any base t v := hval0
  have hW' := hW
  obtain ⟨p, q, hA0, hV, rfl, hfz, hnd⟩ := hW
  have hA : DataW.TrodAll enc Try.prog W 0 (fun _ => true) true Try.f5.params.toList args.toList ds p := hA0
  rw [Try.params5] at hA hval
  obtain ⟨v0, vs0, d0, ds0, p0, q0, hargs, rfl, rfl, h0, r0⟩ := trodAll_cons hA
  obtain ⟨v1, vs1, d1, ds1, p1, q1, rfl, rfl, rfl, h1, r1⟩ := trodAll_cons r0
  obtain ⟨rfl, rfl, rfl⟩ := trodAll_nil r1
  obtain rfl : args = #[v0, v1] := by cases args; simp_all
  obtain ⟨rfl, rfl⟩ := trodVars_none hV
  have k0 := h0
  have lt0 : ∀ x ∈ p0, x.block < W.heap.size := by obtain ⟨m, hm⟩ := k0; exact DataW.trod_lt m _ _ _ hm
  obtain ⟨c0_0, c0_1, c0_2, y0_0, y0_1, y0_2, m0, rfl, rfl, rfl, hy0_0, hy0_1, hy0_2⟩ := open_agg3 Try.underlying24 (by kernel_rfl) (show Try.prog.cellsOf 24 = 3 by kernel_rfl) (hval 0 24 v0 rfl rfl) h0
  obtain ⟨a0_0, e0_0, rfl, w0_0⟩ := DataW.trod_int Try.underlying3 hy0_0
  obtain ⟨a0_1, e0_1, rfl, w0_1⟩ := DataW.trod_int Try.underlying3 hy0_1
  obtain ⟨a0_2, len0_2, cap0_2, e0_2, w0_2⟩ : ∃ (a : Option Addr) (len cap : Nat), [c0_2] = [Value.slice a len cap] ∧ ((a = none ∧ len = 0 ∧ cap = 0) ∨ ∃ x, a = some x ∧ len ≤ cap ∧ cap ≤ maxLen ∧ ∀ i, i < len → (∃ z, W.cell? (x.add (i * 3 + 0)) = some (.int .i64 z) ∧ (Lit.int .i64 z).wf = true) ∧ (∃ z, W.cell? (x.add (i * 3 + 1)) = some (.int .i64 z) ∧ (Lit.int .i64 z).wf = true) ∧ (∃ z, W.cell? (x.add (i * 3 + 2)) = some (.bool z))) := by
    rcases open_cell_structs Try.underlying22 Try.underlying35 (by kernel_rfl) (by kernel_rfl) hy0_2 with hcs | ⟨x, l, c, hcs, hl, hm, hV⟩
    · exact ⟨none, 0, 0, hcs, .inl ⟨rfl, rfl, rfl⟩⟩
    · exact ⟨some x, l, c, hcs, .inr ⟨x, rfl, hl, hm, fun i hi => ⟨fit_int Try.underlying3 (hV i hi 0 _ rfl), fit_int Try.underlying3 (hV i hi 1 _ rfl), fit_bool Try.underlying4 (hV i hi 2 _ rfl)⟩⟩⟩
  simp at e0_0 e0_1 e0_2
  subst e0_0 e0_1 e0_2
  obtain ⟨a1, rfl, rfl, rfl, w1⟩ := open_int Try.underlying3 (hval 1 3 v1 rfl rfl) h1
  clear hA0 hval0
  refine (walkSpineOpens a0_0 a0_1 a0_2 len0_2 cap0_2 a1 W w0_0 w0_1 w0_2 w1).mono fun e W' ⟨he, bel⟩ => ?_
  subst he
  exact ⟨_, rfl, _, _, _, [], _, [], hW', trodAll_mk1 (shut_bool Try.underlying4 _), (trodAll_cons_mk (Below.trod laidOut (by kernel_rfl) (of_decide_eq_true (by kernel_rfl)) k0 bel lt0) (trodAll_cons_mk (shut_int Try.underlying3 w1) trodAll_mk0)), rfl, bel.frame _, fun h => by cases h⟩

theorem over : Rows.spineOpensRow.holds Try.pinned (OpenSpec.ofChange Rows.spineOpensSpec) :=
  OpenClaim.holds_of_wide 5 Try.f5 rfl rfl rfl rfl rfl rfl rfl ⟨rfl, rfl, rfl, rfl, rfl⟩ rfl rfl rfl rfl rfl (by kernel_rfl) Try.func5 (by kernel_rfl)
    (of_decide_eq_true (by kernel_rfl)) (by unfold Func.isWrapper; first | (rw [if_pos (by decide +kernel)]; kernel_rfl) | (rw [if_neg (by decide +kernel)]; exact ⟨rfl, rfl⟩))
    (fun os started H enc _ => lifted os started H enc)

theorem proved : Rows.SpineOpensSaid := over
#print axioms proved
end Go.Proofs.Ytffnngmiaihkeaa.spineOpens
