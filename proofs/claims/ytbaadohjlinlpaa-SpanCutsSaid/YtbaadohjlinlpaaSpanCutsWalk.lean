/- The law SpanCuts answers true for every span, every list of ints and every number: a span's parts have each of its numbers once, and begin where it is cut; no condition. -/
import Derived.Test.YtbaadohjlinlpaaSpanCutMath
namespace Go.Proofs.Ytbaadohjlinlpaa
open Go.RowKit
set_option linter.unusedVariables false

theorem one_box (w w1 : World) (a0 a1 : Value) (hb : Below (w.alloc (.cells #[a0, a1] 23)).heap.size (w.alloc (.cells #[a0, a1] 23)) w1) :
    w1.cell? ⟨w.heap.size, 0, none⟩ = some a0 ∧ w1.cell? ⟨w.heap.size, 1, none⟩ = some a1 ∧ Below w.heap.size w w1 :=
  ⟨bl_cell hb (by simp [go_sem]), bl_cell hb (by simp [go_sem]), up_trans (up_alloc (Below.refl _ _) _) hb⟩

def OutRel (N : Nat) (w2 : World) (i : Value) (wr : World) : Prop := ∃ k : Nat, 1 ≤ k ∧ k ≤ N ∧ i = .int .i64 (k : Int) ∧ ∃ u : Later w2, wr = u.now
def MetRel (n : Nat) (zs : List Int) (p0 : Int) (w2 : World) (met i : Value) (wr : World) : Prop := ∃ (m : Nat) (b : Bool), m ≤ n ∧ i = .int .i64 (m : Int) ∧ met = .bool b ∧ (b = true ∨ p0 ∈ zs.drop m) ∧ ∃ u : Later w2, wr = u.now
def CntRel (n : Nat) (w2 : World) (i : Value) (wr : World) : Prop := ∃ k : Nat, k ≤ n ∧ i = .int .i64 (k : Int) ∧ ∃ u : Later w2, wr = u.now
theorem drop_at (zs : List Int) (m : Nat) (x p0 : Int) (hm : m < zs.length) (hx : zs.getD m 0 = x) (h : p0 ∈ zs.drop m) (hne : ¬ x = p0) : p0 ∈ zs.drop (m + 1) := by
  rw [List.drop_eq_getElem_cons hm] at h
  have e : zs[m] = x := by rw [← hx]; simp [List.getD, hm]
  rw [e] at h
  rcases List.mem_cons.1 h with h | h
  · exact absurd h.symm hne
  · exact h

set_option maxHeartbeats 8000000 in
set_option maxRecDepth 100000 in
theorem cuts_some (b off cap : Nat) (zs : List Int) (l : List (Int × Int)) (a0 a1 n : Int) (w : World) (hl : 0 < zs.length) (hm : zs.length ≤ 60) (hb : b < w.heap.size) (hc : ∀ j, j < zs.length → w.cell? ⟨b, off + j, none⟩ = some (.int .i64 (zs.getD j 0)))
    (KC : ∀ w', Below w.heap.size w w' → Calls Try.prog 16 #[.agg #[.int .i64 a0, .int .i64 a1], .slice (some ⟨b, off, none⟩) zs.length cap] w' (Filled w'.heap.size l w'))
    (ha : a0 < a1) (hch : Chain a0 a1 l) (hpts : ∀ (i : Nat) (p : Int × Int), l[i + 1]? = some p → p.1 ∈ zs) (hni : ∀ (i : Nat) (p : Int × Int), l[i]? = some p → ∀ z ∈ zs, ¬ (p.1 < z ∧ z < p.2)) (hlen : l.length ≤ 61) :
    Calls Try.prog 5 #[.agg #[.int .i64 a0, .int .i64 a1], .slice (some ⟨b, off, none⟩) zs.length cap, .int .i64 n] w fun e w' => e = .returned (.bool true) ∧ Below w.heap.size w w' := by
  have hN : 0 < l.length := by
    rcases Nat.eq_zero_or_pos l.length with h | h
    · have := hch.none (List.eq_nil_of_length_eq_zero h); omega
    · exact h
  have KE := fun w => lawEmpty_b a0 a1 w
  rw [emp_f ha] at KE
  have HE := Lib.hid KE; have HK := Lib.hid KC; have HZ := Lib.hid hc; have HCh := Lib.hid hch; have HP := Lib.hid hpts; have HNi := Lib.hid hni
  clear KE KC hc hch hpts hni
  generalize hn : zs.length = q at *
  have HQ := Lib.hid hn; clear hn
  have z0 : decide ((60 : Int) < (q : Int)) = false := by simp; omega
  go_enter Try.func5, Try.ntmps5
  go_wp2_with (go_at_call 7; refine (alive_any _).mono ?_; rintro e w1 ⟨rfl, hb1⟩; obtain ⟨k0, k1, hb2⟩ := one_box _ _ _ _ hb1; have HB1 := Lib.hid hb2; clear hb1 hb2)
  refine (HK.out _ HB1.out).mono ?_
  rintro e w2 ⟨v, rfl, hrow, hb2⟩
  obtain ⟨g, lcap, rfl, hg, hglt, hcells⟩ := rowS_form hrow hN
  have HB2 := Lib.hid (up_trans HB1.out hb2)
  have j0 := fun u : Later w2 => u.cell (bl_cell hb2 k0)
  have j1 := fun u : Later w2 => u.cell (bl_cell hb2 k1)
  have HRis : Hid (∀ u : Later w2, Calls Try.prog 17 #[.slice (some ⟨g, 0, none⟩) l.length lcap, .agg #[.int .i64 a0, .int .i64 a1]] u.now fun e w' => e = .returned (.bool true) ∧ Below u.now.heap.size u.now w') :=
    Lib.hid (fun u => rising_any g lcap l a0 a1 u.now hN (by omega) (fun i p hp => ⟨u.cell (hcells i p hp).1, u.cell (hcells i p hp).2⟩) (cut_rising HCh.out))
  have HL := Lib.hid hcells
  clear hrow hb2 k0 k1 hg hglt hcells
  refine later_start (w := w2) ?_
  intro u
  obtain ⟨M, hM⟩ : ∃ M, l.length = M + 1 := ⟨l.length - 1, by omega⟩
  obtain ⟨pf, hpf⟩ : ∃ p, l[0]? = some p := ⟨l[0], List.getElem?_eq_getElem _⟩
  obtain ⟨pl, hpl⟩ : ∃ p, l[M]? = some p := ⟨l[M], List.getElem?_eq_getElem _⟩
  have f0 := fun u : Later w2 => u.cell (HL.out 0 pf hpf).1
  have f1 := fun u : Later w2 => u.cell (HL.out M pl hpl).2
  rw [HCh.out.head pf hpf] at f0
  rw [HCh.out.last M pl hM hpl] at f1
  simp only [Nat.zero_mul] at f0
  generalize hNn : l.length = N at *
  have HN := Lib.hid hNn
  have HM := Lib.hid hM
  have z1 : ((N : Int) == 0) = false := by simp; omega
  have z2 : (0 : Int) < (N : Int) := by omega
  have z3 : (0 : Int) ≤ (M : Int) := by omega
  have z4 : (M : Int) < (N : Int) := by omega
  have z5 : IntKind.i64.wrap ((N : Int) - 1) = (M : Int) := by rw [IntWalk.i64_in _ (by omega)]; omega
  have z6 : (0 : Nat) < N := by omega
  clear hpf hpl hNn hM
  go_wp2_with (go_at_call 13; ((with_reducible refine (HE.out _).mono ?_); rintro e w' ⟨rfl, hb3⟩; obtain ⟨u', rfl⟩ := Later.next hb3; clear hb3))
  refine wp_region_later (by kernel_rfl) (by kernel_rfl) ?_
  repeat (go_big_quiet_step ((go_at_call 17; with_reducible exact Later.call (HRis.out _))))
  refine wpQuiet_nil ?_
  rintro _ ⟨u1, rfl⟩
  clear z1 z5 f0 f1 j0 j1
  go_wp2_with fail
  go_loopw [8] (fun i wr => OutRel N w2 i wr) (fun i _ => N - (intOf i).toNat)
  case atStart => exact ⟨1, by omega, by omega, by go_num, u1, rfl⟩
  case round =>
    obtain ⟨k, hk1, hk, rfl, u, rfl⟩ := hrel
    by_cases hlt : k < N
    · obtain ⟨j, hj⟩ : ∃ j, k = j + 1 := ⟨k - 1, by omega⟩
      obtain ⟨p, hp⟩ : ∃ p, l[k]? = some p := ⟨l[k]'(by rw [HN.out]; exact hlt), List.getElem?_eq_getElem _⟩
      obtain ⟨r, hr⟩ : ∃ r, l[j]? = some r := ⟨l[j]'(by rw [HN.out]; omega), List.getElem?_eq_getElem _⟩
      have c0 := fun u : Later w2 => u.cell (HL.out k p hp).1
      have c1 := fun u : Later w2 => u.cell (HL.out j r hr).2
      have hin : p.1 ∈ zs := HP.out j p (by rw [← hj]; exact hp)
      rw [← HCh.out.next j p r (by rw [← hj]; exact hp) hr] at c1
      obtain ⟨p0, p1⟩ := p
      simp only at c0 c1 hin
      have HIn := Lib.hid hin
      have HJ := Lib.hid hj
      have y0 : (0 : Int) ≤ (k : Int) := by omega
      have y1 : (k : Int) < (N : Int) := by omega
      have y2 : (0 : Int) ≤ (j : Int) := by omega
      have y3 : (j : Int) < (N : Int) := by omega
      clear hp hr hin
      have hjk : j < k := by omega
      clear hj
      go_wp2_with fail
      go_loopw [9, 10] (fun met i wr => MetRel q zs p0 w2 met i wr) (fun _ i _ => q - (intOf i).toNat)
      case atStart => exact ⟨0, false, by omega, by go_num, rfl, .inr HIn.out, u, rfl⟩
      case round =>
        obtain ⟨m, bb, hm2, rfl, rfl, hor, u, rfl⟩ := hrel
        by_cases hmq : m < q
        · obtain ⟨x, hx⟩ : ∃ x, zs.getD m 0 = x := ⟨_, rfl⟩
          have cx := fun u : Later w2 => u.cell (bl_cell HB2.out (HZ.out m hmq))
          rw [hx] at cx
          have HX := Lib.hid hx
          have x0 : (0 : Int) ≤ (m : Int) := by omega
          have x1 : (m : Int) < (q : Int) := by omega
          clear hx
          cases bb
          · have hor2 : p0 ∈ zs.drop m := by rcases hor with h | h; cases h; exact h
            have HOr := Lib.hid hor2
            clear hor hor2
            by_cases he : x = p0
            · have e1 : (x == p0) = true := by simp [he]
              clear he
              go_wp2_with fail
              refine wp_region_later (by kernel_rfl) (by kernel_rfl) ?_
              repeat (go_big_quiet_step (fail))
              refine wpQuiet_nil ?_
              rintro _ ⟨u2, rfl⟩
              clear e1
              go_wp2
              go_roundw
              case rel => exact ⟨m + 1, true, by omega, by go_num, rfl, .inl rfl, u2, rfl⟩
              case measure => simp [intOf]; omega
            · have e1 : (x == p0) = false := by simp [he]
              have HNe := Lib.hid he
              clear he
              go_wp2_with fail
              refine wp_region_later (by kernel_rfl) (by kernel_rfl) ?_
              repeat (go_big_quiet_step (fail))
              refine wpQuiet_nil ?_
              rintro _ ⟨u2, rfl⟩
              clear e1
              go_wp2
              go_roundw
              case rel => exact ⟨m + 1, false, by omega, by go_num, rfl, .inr (drop_at zs m x p0 (by rw [HQ.out]; exact hmq) HX.out HOr.out HNe.out), u2, rfl⟩
              case measure => simp [intOf]; omega
          · clear hor
            go_wp2_with fail
            refine wp_region_later (by kernel_rfl) (by kernel_rfl) ?_
            repeat (go_big_quiet_step (fail))
            refine wpQuiet_nil ?_
            rintro _ ⟨u2, rfl⟩
            go_wp2
            go_roundw
            case rel => exact ⟨m + 1, true, by omega, by go_num, rfl, .inl rfl, u2, rfl⟩
            case measure => simp [intOf]; omega
        · have hb : bb = true := by
            rcases hor with h | h
            · exact h
            · rw [List.drop_of_length_le (by rw [HQ.out]; omega)] at h; cases h
          subst hb
          have hmq2 : q ≤ m := by omega
          clear hor
          have hw : IntKind.i64.wrap ((k : Int) - 1) = (j : Int) := by have := HJ.out; rw [IntWalk.i64_in _ (by omega)]; omega
          go_wp2_with fail
          refine wp_region_later (by kernel_rfl) (by kernel_rfl) ?_
          repeat (go_big_quiet_step (fail))
          refine wpQuiet_nil ?_
          rintro _ ⟨u2, rfl⟩
          clear hw
          go_wp2
          go_roundw
          case rel => exact ⟨k + 1, by omega, by omega, by go_num, u2, rfl⟩
          case measure => simp [intOf]; omega
    · have hk2 : N ≤ k := by omega
      go_wp2_with fail
      go_loopw [11] (fun i wr => CntRel q w2 i wr) (fun i _ => q - (intOf i).toNat)
      case atStart => exact ⟨0, by omega, by go_num, u, rfl⟩
      case round =>
        obtain ⟨m, hm2, rfl, u, rfl⟩ := hrel
        by_cases hmq : m < q
        · obtain ⟨x, hx⟩ : ∃ x, zs.getD m 0 = x := ⟨_, rfl⟩
          have cx := fun u : Later w2 => u.cell (bl_cell HB2.out (HZ.out m hmq))
          rw [hx] at cx
          have hxz : x ∈ zs := by
            rw [← hx, List.getD_eq_getElem?_getD, List.getElem?_eq_getElem (by rw [HQ.out]; exact hmq)]; exact List.getElem_mem _
          have HX := Lib.hid hxz
          have x0 : (0 : Int) ≤ (m : Int) := by omega
          have x1 : (m : Int) < (q : Int) := by omega
          clear hx hxz
          go_wp2_with fail
          go_loopw [12] (fun i wr => CntRel N w2 i wr) (fun i _ => N - (intOf i).toNat)
          case atStart => exact ⟨0, by omega, by go_num, u, rfl⟩
          case round =>
            obtain ⟨i, hi2, rfl, u, rfl⟩ := hrel
            by_cases hiN : i < N
            · obtain ⟨p, hp⟩ : ∃ p, l[i]? = some p := ⟨l[i]'(by rw [HN.out]; exact hiN), List.getElem?_eq_getElem _⟩
              have c0 := fun u : Later w2 => u.cell (HL.out i p hp).1
              have c1 := fun u : Later w2 => u.cell (HL.out i p hp).2
              have hno := HNi.out i p hp x HX.out
              obtain ⟨p0, p1⟩ := p
              simp only at c0 c1 hno
              have y0 : (0 : Int) ≤ (i : Int) := by omega
              have y1 : (i : Int) < (N : Int) := by omega
              clear hp
              by_cases hpx : p0 < x
              · have d1 : decide (p0 < x) = true := by simp [hpx]
                have d2 : decide (x < p1) = false := by simp; omega
                clear hno hpx
                go_wp2_with fail
                refine wp_region_later (by kernel_rfl) (by kernel_rfl) ?_
                repeat (go_big_quiet_step (fail))
                refine wpQuiet_nil ?_
                rintro _ ⟨u2, rfl⟩
                clear d1 d2
                go_wp2
                go_roundw
                case rel => exact ⟨i + 1, by omega, by go_num, u2, rfl⟩
                case measure => simp [intOf]; omega
              · have d1 : decide (p0 < x) = false := by simp; omega
                clear hno hpx
                go_wp2_with fail
                refine wp_region_later (by kernel_rfl) (by kernel_rfl) ?_
                repeat (go_big_quiet_step (fail))
                refine wpQuiet_nil ?_
                rintro _ ⟨u2, rfl⟩
                clear d1
                go_wp2
                go_roundw
                case rel => exact ⟨i + 1, by omega, by go_num, u2, rfl⟩
                case measure => simp [intOf]; omega
            · have hiN2 : N ≤ i := by omega
              go_wp2
              go_roundw
              case rel => exact ⟨m + 1, by omega, by go_num, u, rfl⟩
              case measure => simp [intOf]; omega
        · have hmq2 : q ≤ m := by omega
          go_wp2
          go_ret
          exact ⟨rfl, up_trans HB2.out u.up⟩

set_option maxHeartbeats 1000000 in
set_option maxRecDepth 100000 in
theorem cuts_big (ad : Option Addr) (m cap : Nat) (a0 a1 n : Int) (w : World) (hm : 60 < m) :
    Calls Try.prog 5 #[.agg #[.int .i64 a0, .int .i64 a1], .slice ad m cap, .int .i64 n] w fun e w' => e = .returned (.bool true) ∧ Below w.heap.size w w' := by
  have z0 : decide ((60 : Int) < (m : Int)) = true := by simp; omega
  go_enter Try.func5, Try.ntmps5
  go_wp2_with (go_at_call 7; refine (alive_any _).mono ?_; rintro e w1 ⟨rfl, hb1⟩; obtain ⟨k0, k1, hb2⟩ := one_box _ _ _ _ hb1; have HB1 := Lib.hid hb2; clear hb1 hb2)
  go_ret
  exact ⟨rfl, HB1.out⟩

set_option maxHeartbeats 1000000 in
set_option maxRecDepth 100000 in
theorem cuts_emp (ad : Option Addr) (m cap : Nat) (a0 a1 n : Int) (w : World) (hm : m ≤ 60) (ha : a1 ≤ a0)
    (KC : ∀ w', Below w.heap.size w w' → Calls Try.prog 16 #[.agg #[.int .i64 a0, .int .i64 a1], .slice ad m cap] w' (Filled w'.heap.size [] w')) :
    Calls Try.prog 5 #[.agg #[.int .i64 a0, .int .i64 a1], .slice ad m cap, .int .i64 n] w fun e w' => e = .returned (.bool true) ∧ Below w.heap.size w w' := by
  have z0 : decide ((60 : Int) < (m : Int)) = false := by simp; omega
  have KE := fun w => lawEmpty_b a0 a1 w
  rw [emp_t ha] at KE
  have HE := Lib.hid KE; have HK := Lib.hid KC
  clear KE KC
  go_enter Try.func5, Try.ntmps5
  go_wp2_with (go_at_call 7; refine (alive_any _).mono ?_; rintro e w1 ⟨rfl, hb1⟩; obtain ⟨k0, k1, hb2⟩ := one_box _ _ _ _ hb1; have HB1 := Lib.hid hb2; clear hb1 hb2)
  refine (HK.out _ HB1.out).mono ?_
  rintro e w2 ⟨v, rfl, hrow, hb2⟩
  obtain ⟨ad2, lcap, rfl⟩ := rowS_len hrow
  simp only [List.length_nil]
  have HB2 := Lib.hid (up_trans HB1.out hb2)
  have j0 := fun u : Later w2 => u.cell (bl_cell hb2 k0)
  have j1 := fun u : Later w2 => u.cell (bl_cell hb2 k1)
  clear hrow hb2 k0 k1
  refine later_start (w := w2) ?_
  intro u
  go_wp2_with (go_at_call 13; ((with_reducible refine (HE.out _).mono ?_); rintro e w' ⟨rfl, hb3⟩; obtain ⟨u', rfl⟩ := Later.next hb3; clear hb3))
  go_ret
  exact ⟨rfl, up_trans HB2.out u'.up⟩

set_option maxHeartbeats 2000000 in
set_option maxRecDepth 100000 in
theorem cuts_none (ad : Option Addr) (cap : Nat) (a0 a1 n : Int) (w : World) (ha : a0 < a1) :
    Calls Try.prog 5 #[.agg #[.int .i64 a0, .int .i64 a1], .slice ad 0 cap, .int .i64 n] w fun e w' => e = .returned (.bool true) ∧ Below w.heap.size w w' := by
  have KC := fun w => cut_none ad cap a0 a1 w
  rw [show cutS a0 a1 [] = [(a0, a1)] by simp [cutS, endsS, srt, fil, cutGo, addS, emp_f ha]] at KC
  have KE := fun w => lawEmpty_b a0 a1 w
  rw [emp_f ha] at KE
  have HE := Lib.hid KE; have HK := Lib.hid KC
  clear KE KC
  go_enter Try.func5, Try.ntmps5
  go_wp2_with (go_at_call 7; refine (alive_any _).mono ?_; rintro e w1 ⟨rfl, hb1⟩; obtain ⟨k0, k1, hb2⟩ := one_box _ _ _ _ hb1; have HB1 := Lib.hid hb2; clear hb1 hb2)
  refine (HK.out _).mono ?_
  rintro e w2 ⟨v, rfl, hrow, hb2⟩
  obtain ⟨g, lcap, rfl, hg, hglt, hcells⟩ := rowS_form hrow (by simp)
  have HRis : Hid (∀ u : Later w2, Calls Try.prog 17 #[.slice (some ⟨g, 0, none⟩) 1 lcap, .agg #[.int .i64 a0, .int .i64 a1]] u.now fun e w' => e = .returned (.bool true) ∧ Below u.now.heap.size u.now w') :=
    Lib.hid (fun u => rising_any g lcap [(a0, a1)] a0 a1 u.now (by simp) (by simp) (fun i p hp => ⟨u.cell (hcells i p hp).1, u.cell (hcells i p hp).2⟩) (ris1 _ _ _ _ ha (by omega) (by omega)))
  obtain ⟨c0, c1⟩ := hcells 0 _ rfl
  simp at c0 c1
  simp only [List.length_cons, List.length_nil, Nat.zero_add]
  have HB2 := Lib.hid (up_trans HB1.out hb2)
  have j0 := fun u : Later w2 => u.cell (bl_cell hb2 k0)
  have j1 := fun u : Later w2 => u.cell (bl_cell hb2 k1)
  have j2 := fun u : Later w2 => u.cell c0
  have j3 := fun u : Later w2 => u.cell c1
  clear hrow hb2 k0 k1 c0 c1 hcells hg hglt
  refine later_start (w := w2) ?_
  intro u
  go_wp2_with (go_at_call 13; ((with_reducible refine (HE.out _).mono ?_); rintro e w' ⟨rfl, hb3⟩; obtain ⟨u', rfl⟩ := Later.next hb3; clear hb3))
  refine wp_region_later (by kernel_rfl) (by kernel_rfl) ?_
  repeat (go_big_quiet_step ((go_at_call 17; with_reducible exact Later.call (HRis.out _))))
  refine wpQuiet_nil ?_
  rintro _ ⟨u1, rfl⟩
  go_wp2_with fail
  refine wp_loop_rounds 1 ?_
  rw [rounds_succ]
  go_wp2_with fail
  refine wp_loop_rounds 1 ?_
  rw [rounds_succ]
  go_wp2
  go_ret
  exact ⟨rfl, up_trans HB2.out u1.up⟩

theorem walkSpanCuts (a0 a1 : Int) (a : Option Addr) (len cap : Nat) (zs : List Int) (n : Int) (w : World) (x0 : (Lit.int .i64 a0).wf = true) (x1 : (Lit.int .i64 a1).wf = true)
    (h : (a = none ∧ len = 0 ∧ cap = 0 ∧ zs = []) ∨ ∃ x, a = some x ∧ len ≤ cap ∧ cap ≤ maxLen ∧ zs.length = cap ∧ (∀ i, i < zs.length → w.cell? (x.add i) = some (.int .i64 (zs.getD i 0))) ∧ ∀ n ∈ zs, (Lit.int .i64 n).wf = true)
    (x2 : (Lit.int .i64 n).wf = true) :
    Calls Try.prog 5 #[.agg #[.int .i64 a0, .int .i64 a1], .slice a len cap, .int .i64 n] w fun e w' => e = .returned (.bool true) ∧ Below w.heap.size w w' := by
  by_cases hbig : 60 < len
  · exact cuts_big a len cap a0 a1 n w hbig
  by_cases h0 : len = 0
  · subst h0
    by_cases ha : a0 < a1
    · exact cuts_none a cap a0 a1 n w ha
    · refine cuts_emp a 0 cap a0 a1 n w (by omega) (by omega) (fun w' _ => ?_)
      have := cut_none a cap a0 a1 w'
      rwa [cut_empty a0 a1 [] (by omega)] at this
  · rcases h with ⟨_, h, _⟩ | ⟨x, rfl, hlc, hmx, hz, hcell, hwf⟩
    · exact absurd h h0
    · obtain ⟨b, off, rfl, hc⟩ := ints_at hcell (by omega)
      have hlen : (zs.take len).length = len := by rw [List.length_take]; omega
      have ge : ∀ j, j < len → (zs.take len).getD j 0 = zs.getD j 0 := fun j hj => by simp [List.getD, hj]
      have hcc : ∀ j, j < (zs.take len).length → w.cell? ⟨b, off + j, none⟩ = some (.int .i64 ((zs.take len).getD j 0)) := fun j hj => by rw [ge j (by omega)]; exact hc j (by omega)
      have hb : b < w.heap.size := by
        have := World.block_lt_of_cell? w _ (hcc 0 (by omega)); exact this
      have KC : ∀ w', Below w.heap.size w w' → Calls Try.prog 16 #[.agg #[.int .i64 a0, .int .i64 a1], .slice (some ⟨b, off, none⟩) (zs.take len).length cap] w' (Filled w'.heap.size (cutS a0 a1 (zs.take len)) w') :=
        fun w' hw => cut_any b off cap (zs.take len) a0 a1 w' (by omega) (by omega) (Nat.lt_of_lt_of_le hb hw.size) (fun j hj => bl_cell hw (hcc j hj))
      by_cases ha : a0 < a1
      · obtain ⟨c1, c2, c3⟩ := cut_all a0 a1 (zs.take len) ha
        have r := cuts_some b off cap (zs.take len) _ a0 a1 n w (by omega) (by omega) hb hcc KC ha c1 c2 c3 (cut_len a0 a1 _ (by omega))
        rw [hlen] at r
        exact r
      · rw [cut_empty a0 a1 (zs.take len) (by omega), hlen] at KC
        exact cuts_emp _ len cap a0 a1 n w (by omega) (by omega) KC
end Go.Proofs.Ytbaadohjlinlpaa
