/- What the document's own Find and Put answer: for every text and every scheme. -/
import Derived.Test.YtaphkplidnepaaaDoorSchemeRefOne
import Derived.Test.YtaphkplidnepaaaDoorSchemeSame
import Derived.Test.YtaphkplidnepaaaDoorSchemeGet
namespace Go.Proofs.YtaphkplidnepaaaDoor
open Go.RowKit DecMath
set_option linter.unusedVariables false

theorem cat_plainM : ∀ e ∈ catS, plainM (joinM (partsC e.2)) = some e.2 := by
  intro e he
  unfold plainM
  rw [← cat_parts e he, fields_parts e.2 (cat_told e he)]
  exact read_parts e.2 (cat_told e he)
theorem names_at {k : Nat} {e : List UInt8 × Sc} (h : catS[k]? = some e) : namesL[k]? = some e.1 ∧ plansL[k]? = some (joinM (partsC e.2)) := by
  unfold namesL plansL
  rw [List.getElem?_map, List.getElem?_map, h]
  exact ⟨rfl, rfl⟩
theorem catS_length : catS.length = 21 := rfl

set_option maxRecDepth 100000 in
set_option maxHeartbeats 2000000 in
theorem refFind_any (nm : List UInt8) (w : World) : Calls Tryd.prog 18 #[.string (tx nm)] w (GivesS (findM nm) w) := by
  obtain ⟨N, hN⟩ : ∃ N, tx nm = N := ⟨_, rfl⟩
  have HN := Lib.hid hN
  rw [hN]
  clear hN
  go_enter Tryd.func18, Tryd.ntmps18
  go_wp2_with fail
  refine (refNames_any _).mono ?_
  rintro e w1 ⟨v, rfl, hT, hb⟩
  obtain ⟨a, c, rfl, hA⟩ := hT.arg
  obtain ⟨g, o, rfl, hc, -, -⟩ := hA.resolve_left (by decide)
  have A1 := (Bx.new w 24 [.int .i64 0, .int .i64 0, .slice none 0 0]).up hb
  have B1 := Lib.hid (up_trans (up_alloc (Below.refl _ w) _) hb)
  have HA1 := Lib.hid A1; have HC := Lib.hid hc
  have hl : namesL.length = 21 := rfl
  rw [hl]
  clear hT hA hb A1 hc
  go_wp2
  go_loopw [5] (fun i wr => ∃ k : Nat, k ≤ 21 ∧ i = .int .i64 (k : Int) ∧ Hid (∀ e ∈ catS.take k, e.1 ≠ nm) ∧ ∃ u : Later w1, wr = u.now) (fun i _ => 21 - (intOf i).toNat)
  case atStart => exact ⟨0, by omega, by go_num, Lib.hid (by simp), ⟨w1, Below.refl _ _⟩, rfl⟩
  case round =>
    obtain ⟨k, hk, rfl, HNE, u, rfl⟩ := hrel
    have A2 := HA1.out.up u.up
    by_cases hlt : k < 21
    · obtain ⟨e, he⟩ : ∃ e, catS[k]? = some e := ⟨catS[k]'(by rw [catS_length]; exact hlt), List.getElem?_eq_getElem _⟩
      have hcx := u.cell (HC.out k e.1 (names_at he).1)
      have hmem := List.mem_of_getElem? he
      have z0 : (0 : Int) ≤ (k : Int) := by omega
      have z1 : (k : Int) < 21 := by omega
      have hs := tx_same e.1 nm
      rw [HN.out] at hs
      by_cases hx : e.1 = nm
      · rw [decide_eq_true hx] at hs
        have E := Lib.hid (show findM nm = some e.2 by rw [← hx]; exact (find_of_mem hmem).1)
        have KP := refPlain_any (tx (joinM (partsC e.2)))
        rw [data_tx, cat_plainM e hmem] at KP
        have hz := (cat_short e hmem).2.1
        have HP := Lib.hid fun w => KP w (by rw [tx_size]; omega)
        have hpl := Lib.hid (names_at he).2
        obtain ⟨T, hT0⟩ : ∃ T, tx (joinM (partsC e.2)) = T := ⟨_, rfl⟩
        have HT0 := Lib.hid hT0
        rw [hT0] at HP
        obtain ⟨s, hs0⟩ : ∃ s, e.2 = s := ⟨_, rfl⟩
        rw [hs0] at HP E
        generalize tx e.1 = Q at *
        clear KP hz hx hmem HNE hT0 hs0
        go_wp2_with fail
        refine (refPlans_any _).mono ?_
        rintro e2 w2 ⟨v2, rfl, hT, hb⟩
        obtain ⟨a, c2, rfl, hA⟩ := hT.arg
        obtain ⟨g2, o2, rfl, hc2, -, -⟩ := hA.resolve_left (by decide +kernel)
        have hcp := hc2 k _ hpl.out
        rw [HT0.out] at hcp
        have hl2 : plansL.length = 21 := rfl
        rw [hl2]
        have A3 := A2.up hb
        have B3 := Lib.hid (up_trans (up_trans B1.out u.up) hb)
        clear hT hA hc2 hb A2 hcx
        go_wp2_with fail
        refine (HP.out _).mono ?_
        rintro e3 w3 ⟨a3, c3, rfl, hF, hb⟩
        have hF' : InF (w.heap.size + 1) w3 a3 s.l := InF.mono hF A3.lt
        have A4 := A3.up hb
        have a0 := A4.cell 0 rfl; have a1 := A4.cell 1 rfl; have a2 := A4.cell 2 rfl; have af := A4.free
        have HF := Lib.hid hF'
        have B4 := Lib.hid (up_trans B3.out hb)
        clear hF hF' hb A3 A4 hcp
        go_wp2
        rw [E.out]
        refine bodyPost_ret (v := .tuple #[.agg #[.int .i64 s.c, .int .i64 s.r, .slice a3 s.l.length c3], .bool true]) (by simp [results, Tryd.results18, go_sem, a0, a1, a2]) rfl (gives_some ?_ ?_)
        · have HR2 := HF.out
          refine InF.mono (base := w.heap.size + 1) ?_ (by omega)
          repeat (first | (with_reducible exact HR2) | (with_reducible refine InF.set ?_ (by simp only; omega) _))
        · have B5 := B4.out
          repeat (first | (with_reducible exact B5) | (with_reducible refine up_set ?_ (by simp only; omega) _))
      · rw [decide_eq_false hx] at hs
        have HX := Lib.hid (show ∀ e ∈ catS.take (k + 1), e.1 ≠ nm by
          rw [take_snoc he]
          intro y hy
          rcases List.mem_append.1 hy with h | h
          · exact HNE.out y h
          · obtain rfl := List.mem_singleton.1 h; exact hx)
        generalize tx e.1 = Q at *
        clear hx hmem HNE A2 he
        go_wp2
        go_roundw
        case rel => exact ⟨k + 1, by omega, by go_num, HX, u, rfl⟩
        case measure => simp [intOf]; omega
    · obtain rfl : k = 21 := by omega
      have E := Lib.hid (show findM nm = none from find_none fun e he => by
        have := HNE.out
        rw [List.take_of_length_le (by rw [catS_length]; omega)] at this
        exact this e he)
      have a0 := A2.cell 0 rfl; have a1 := A2.cell 1 rfl; have a2 := A2.cell 2 rfl; have af := A2.free
      have B2 := Lib.hid (up_trans B1.out u.up)
      clear A2 HNE
      go_wp2
      rw [E.out]
      refine bodyPost_ret (v := .tuple #[.agg #[.int .i64 0, .int .i64 0, .slice none 0 0], .bool false]) (by simp [results, Tryd.results18, go_sem, a0, a1, a2]) rfl (gives_none ?_)
      have B3 := B2.out
      repeat (first | (with_reducible exact B3) | (with_reducible refine up_set ?_ (by simp only; omega) _))

set_option maxRecDepth 100000 in
set_option maxHeartbeats 4000000 in
theorem refPut_named (s : Sc) (a : Option Addr) (cap : Nat) (w : World) (h : InL w a s.l) (hn : nameM s ≠ none) :
    Calls Tryd.prog 21 #[.agg #[.int .i64 s.c, .int .i64 s.r, .slice a s.l.length cap]] w fun e w' => e = .returned (.tuple #[.string (putT s), .bool true]) ∧ Below w.heap.size w w' := by
  have hnm := Lib.hid hn
  clear hn
  obtain ⟨cc, hcc⟩ : ∃ c, s.c = c := ⟨_, rfl⟩
  obtain ⟨rr, hrr⟩ : ∃ r, s.r = r := ⟨_, rfl⟩
  obtain ⟨n, hn⟩ : ∃ n, s.l.length = n := ⟨_, rfl⟩
  have KS := fun (e : List UInt8 × Sc) a3 c3 w1 (he : e ∈ catS) (h1 : InL w1 a3 e.2.l) (h2 : InL w1 a s.l) => refSame_any e.2 s a3 a c3 cap w1 (by have := (toldB_true (cat_told e he)).2.2.1; omega) h1 h2
  rw [hcc, hrr, hn] at KS
  have KF := fun (e : List UInt8 × Sc) (he : e ∈ catS) w1 => refFind_any e.1 w1
  have HI := Lib.hid h; have HKS := Lib.hid KS; have HKF := Lib.hid KF; have HNN := Lib.hid hn; have HCC := Lib.hid hcc; have HRR := Lib.hid hrr
  rw [hcc, hrr, hn]
  clear h KS KF hn hcc hrr
  go_enter Tryd.func21, Tryd.ntmps21
  go_wp2_with fail
  refine (refNames_any _).mono ?_
  rintro e w1 ⟨v, rfl, hT, hb⟩
  obtain ⟨av, cv, rfl, hA⟩ := hT.arg
  obtain ⟨g, o, rfl, hc, -, -⟩ := hA.resolve_left (by decide)
  have A1 := (Bx.new w 24 [.int .i64 cc, .int .i64 rr, .slice a n cap]).up hb
  have B1 := Lib.hid (up_trans (up_alloc (Below.refl _ w) _) hb)
  have HA1 := Lib.hid A1; have HC := Lib.hid hc
  have HI1 := Lib.hid (HI.out.up B1.out)
  have hl : namesL.length = 21 := rfl
  rw [hl]
  clear hT hA hb A1 hc
  go_wp2
  go_loopw [5] (fun i wr => ∃ k : Nat, k ≤ 21 ∧ i = .int .i64 (k : Int) ∧ Hid (∀ e ∈ catS.take k, e.2 ≠ s) ∧ ∃ u : Later w1, wr = u.now) (fun i _ => 21 - (intOf i).toNat)
  case atStart => exact ⟨0, by omega, by go_num, Lib.hid (by simp), ⟨w1, Below.refl _ _⟩, rfl⟩
  case round =>
    obtain ⟨k, hk, rfl, HNE, u, rfl⟩ := hrel
    have A2 := HA1.out.up u.up
    by_cases hlt : k < 21
    · obtain ⟨e, he⟩ : ∃ e, catS[k]? = some e := ⟨catS[k]'(by rw [catS_length]; exact hlt), List.getElem?_eq_getElem _⟩
      have hcx := u.cell (HC.out k e.1 (names_at he).1)
      have hmem := List.mem_of_getElem? he
      have HM := Lib.hid hmem; have HE := Lib.hid he
      have z0 : (0 : Int) ≤ (k : Int) := by omega
      have z1 : (k : Int) < 21 := by omega
      have KF := HKF.out e hmem u.now
      rw [(find_of_mem (n := e.1) (s := e.2) hmem).1] at KF
      have KF2 := Lib.hid KF
      obtain ⟨Q, hQ⟩ : ∃ Q, tx e.1 = Q := ⟨_, rfl⟩
      have HQ := Lib.hid hQ
      rw [hQ] at KF2 hcx
      clear KF hQ hmem he
      go_wp2_with fail
      refine KF2.out.mono ?_
      rintro e2 w2 ⟨a3, c3, rfl, hF, hb⟩
      have hF' : InL w2 a3 e.2.l := InF.inL hF
      have B2 := Lib.hid (up_alloc (up_trans u.up hb) (.cells #[.int .i64 e.2.c, .int .i64 e.2.r, .slice a3 e.2.l.length c3] 24))
      have A3 := (A2.up hb).alloc (.cells #[.int .i64 e.2.c, .int .i64 e.2.r, .slice a3 e.2.l.length c3] 24)
      have X3 := Bx.new w2 24 [.int .i64 e.2.c, .int .i64 e.2.r, .slice a3 e.2.l.length c3]
      have HS := HKS.out e a3 c3 (w2.alloc (.cells #[.int .i64 e.2.c, .int .i64 e.2.r, .slice a3 e.2.l.length c3] 24)) HM.out (hF'.up (up_alloc (Below.refl _ _) _)) (HI1.out.up B2.out)
      have HKS2 := Lib.hid HS
      have d0 := A3.cell 0 rfl; have d1 := A3.cell 1 rfl; have d2 := A3.cell 2 rfl
      have x0 := X3.cell 0 rfl; have x1 := X3.cell 1 rfl; have x2 := X3.cell 2 rfl
      clear hF hF' hb A2 A3 X3 HS
      by_cases hx : e.2 = s
      · have HS2 := HKS2.out
        rw [decide_eq_true hx] at HS2
        have E := Lib.hid (show nameM s = some e.1 by rw [← hx]; exact (find_of_mem (n := e.1) (s := e.2) HM.out).2)
        have HS3 := Lib.hid HS2
        have HC2 := Lib.hid (HC.out k e.1 (names_at HE.out).1)
        generalize e.2 = t at *
        clear HS2 hx HKS2
        go_wp2_with fail
        refine HS3.out.mono ?_
        rintro e3 w3 ⟨rfl, hb⟩
        have hq := bl_cell (up_trans B2.out hb) HC2.out
        rw [HQ.out] at hq
        have B3 := Lib.hid (up_trans (up_trans B1.out B2.out) hb)
        clear hb hcx d0 d1 d2 x0 x1 x2
        go_wp2
        go_ret2
        exact ⟨by unfold putT putM; rw [E.out]; show _ = Ending.returned (.tuple #[.string (tx e.1), .bool true]); rw [HQ.out]; rfl, B3.out⟩
      · have HS2 := HKS2.out
        rw [decide_eq_false hx] at HS2
        have HX := Lib.hid (show ∀ e ∈ catS.take (k + 1), e.2 ≠ s by
          rw [take_snoc HE.out]
          intro y hy
          rcases List.mem_append.1 hy with h | h
          · exact HNE.out y h
          · obtain rfl := List.mem_singleton.1 h; exact hx)
        have HS3 := Lib.hid HS2
        generalize e.2 = t at *
        clear HS2 hx HKS2
        go_wp2_with fail
        refine HS3.out.mono ?_
        rintro e3 w3 ⟨rfl, hb⟩
        have B3 := Lib.hid (up_trans B2.out hb)
        clear hb hcx d0 d1 d2 x0 x1 x2
        go_wp2
        go_roundw
        case rel => exact ⟨k + 1, by omega, by go_num, HX, ⟨_, B3.out⟩, rfl⟩
        case measure => simp [intOf]; omega
    · obtain rfl : k = 21 := by omega
      refine absurd ?_ hnm.out
      refine name_none fun e he => ?_
      have := HNE.out
      rw [List.take_of_length_le (by rw [catS_length]; omega)] at this
      exact this e he

set_option maxRecDepth 100000 in
set_option maxHeartbeats 4000000 in
theorem refPut_bad (s : Sc) (a : Option Addr) (cap : Nat) (w : World) (h : InL w a s.l) (hne : ∀ e ∈ catS, e.2 ≠ s) (P : Int) (b1 b2 : Bool) (e1 : (P == 0) = b1) (e2 : decide ((6 : Int) < (s.l.length : Int)) = b2) (hbad : b1 = true ∨ b2 = true)
    (KP : ∀ w, Calls Tryd.prog 11 #[.agg #[.int .i64 s.c, .int .i64 s.r, .slice a s.l.length cap]] w fun e w' => e = .returned (.int .i64 P) ∧ Below w.heap.size w w') :
    Calls Tryd.prog 21 #[.agg #[.int .i64 s.c, .int .i64 s.r, .slice a s.l.length cap]] w fun e w' => e = .returned (.tuple #[.string ⟨#[]⟩, .bool false]) ∧ Below w.heap.size w w' := by
  have HPn := Lib.hid KP
  have hne := Lib.hid hne; have hbad := Lib.hid hbad
  clear KP
  obtain ⟨cc, hcc⟩ : ∃ c, s.c = c := ⟨_, rfl⟩
  obtain ⟨rr, hrr⟩ : ∃ r, s.r = r := ⟨_, rfl⟩
  obtain ⟨n, hn⟩ : ∃ n, s.l.length = n := ⟨_, rfl⟩
  have KS := fun (e : List UInt8 × Sc) a3 c3 w1 (he : e ∈ catS) (h1 : InL w1 a3 e.2.l) (h2 : InL w1 a s.l) => refSame_any e.2 s a3 a c3 cap w1 (by have := (toldB_true (cat_told e he)).2.2.1; omega) h1 h2
  rw [hcc, hrr, hn] at KS HPn
  rw [hn] at e2
  have KF := fun (e : List UInt8 × Sc) (he : e ∈ catS) w1 => refFind_any e.1 w1
  have HI := Lib.hid h; have HKS := Lib.hid KS; have HKF := Lib.hid KF; have HNN := Lib.hid hn; have HCC := Lib.hid hcc; have HRR := Lib.hid hrr
  rw [hcc, hrr, hn]
  clear h KS KF hn hcc hrr
  go_enter Tryd.func21, Tryd.ntmps21
  go_wp2_with fail
  refine (refNames_any _).mono ?_
  rintro e w1 ⟨v, rfl, hT, hb⟩
  obtain ⟨av, cv, rfl, hA⟩ := hT.arg
  obtain ⟨g, o, rfl, hc, -, -⟩ := hA.resolve_left (by decide)
  have A1 := (Bx.new w 24 [.int .i64 cc, .int .i64 rr, .slice a n cap]).up hb
  have B1 := Lib.hid (up_trans (up_alloc (Below.refl _ w) _) hb)
  have HA1 := Lib.hid A1; have HC := Lib.hid hc
  have HI1 := Lib.hid (HI.out.up B1.out)
  have hl : namesL.length = 21 := rfl
  rw [hl]
  clear hT hA hb A1 hc
  go_wp2
  go_loopw [5] (fun i wr => ∃ k : Nat, k ≤ 21 ∧ i = .int .i64 (k : Int) ∧ ∃ u : Later w1, wr = u.now) (fun i _ => 21 - (intOf i).toNat)
  case atStart => exact ⟨0, by omega, by go_num, ⟨w1, Below.refl _ _⟩, rfl⟩
  case round =>
    obtain ⟨k, hk, rfl, u, rfl⟩ := hrel
    have A2 := HA1.out.up u.up
    by_cases hlt : k < 21
    · obtain ⟨e, he⟩ : ∃ e, catS[k]? = some e := ⟨catS[k]'(by rw [catS_length]; exact hlt), List.getElem?_eq_getElem _⟩
      have hcx := u.cell (HC.out k e.1 (names_at he).1)
      have hmem := List.mem_of_getElem? he
      have HM := Lib.hid hmem; have HE := Lib.hid he
      have z0 : (0 : Int) ≤ (k : Int) := by omega
      have z1 : (k : Int) < 21 := by omega
      have KF := HKF.out e hmem u.now
      rw [(find_of_mem (n := e.1) (s := e.2) hmem).1] at KF
      have KF2 := Lib.hid KF
      obtain ⟨Q, hQ⟩ : ∃ Q, tx e.1 = Q := ⟨_, rfl⟩
      have HQ := Lib.hid hQ
      rw [hQ] at KF2 hcx
      clear KF hQ hmem he
      go_wp2_with fail
      refine KF2.out.mono ?_
      rintro e2 w2 ⟨a3, c3, rfl, hF, hb⟩
      have hF' : InL w2 a3 e.2.l := InF.inL hF
      have B2 := Lib.hid (up_alloc (up_trans u.up hb) (.cells #[.int .i64 e.2.c, .int .i64 e.2.r, .slice a3 e.2.l.length c3] 24))
      have A3 := (A2.up hb).alloc (.cells #[.int .i64 e.2.c, .int .i64 e.2.r, .slice a3 e.2.l.length c3] 24)
      have X3 := Bx.new w2 24 [.int .i64 e.2.c, .int .i64 e.2.r, .slice a3 e.2.l.length c3]
      have HS := HKS.out e a3 c3 (w2.alloc (.cells #[.int .i64 e.2.c, .int .i64 e.2.r, .slice a3 e.2.l.length c3] 24)) HM.out (hF'.up (up_alloc (Below.refl _ _) _)) (HI1.out.up B2.out)
      have HKS2 := Lib.hid HS
      have d0 := A3.cell 0 rfl; have d1 := A3.cell 1 rfl; have d2 := A3.cell 2 rfl
      have x0 := X3.cell 0 rfl; have x1 := X3.cell 1 rfl; have x2 := X3.cell 2 rfl
      clear hF hF' hb A2 A3 X3 HS
      have HS2 := HKS2.out
      rw [decide_eq_false (hne.out e HM.out)] at HS2
      have HS3 := Lib.hid HS2
      generalize e.2 = t at *
      clear HS2 HKS2
      go_wp2_with fail
      refine HS3.out.mono ?_
      rintro e3 w3 ⟨rfl, hb⟩
      have B3 := Lib.hid (up_trans B2.out hb)
      clear hb hcx d0 d1 d2 x0 x1 x2
      go_wp2
      go_roundw
      case rel => exact ⟨k + 1, by omega, by go_num, ⟨_, B3.out⟩, rfl⟩
      case measure => simp [intOf]; omega
    · obtain rfl : k = 21 := by omega
      have d0 := A2.cell 0 rfl; have d1 := A2.cell 1 rfl; have d2 := A2.cell 2 rfl
      clear A2
      go_wp2_with fail
      refine (HPn.out _).mono ?_
      rintro e3 w3 ⟨rfl, hb⟩
      have B3 := Lib.hid (up_trans (up_trans B1.out u.up) hb)
      have d2' := bl_cell hb d2
      clear hb d0 d1 d2
      cases b1
      · obtain rfl : b2 = true := by simpa using hbad.out
        go_wp2
        go_ret2
        exact ⟨rfl, B3.out⟩
      · clear e2
        go_wp2
        go_ret2
        exact ⟨rfl, B3.out⟩

set_option maxRecDepth 100000 in
set_option maxHeartbeats 4000000 in
theorem refPut_told (s : Sc) (a : Option Addr) (cap : Nat) (w : World) (h : InL w a s.l) (hne : ∀ e ∈ catS, e.2 ≠ s) (P : Int) (e1 : (P == 0) = false) (hn6 : s.l.length ≤ 6) (H P1 q R1 : ByteArray) (F : ByteArray × Bool)
    (hR1 : P1 ++ ⟨#[120]⟩ = R1) (hR2 : R1 ++ q = H) (p1 : P1.size ≤ 20) (q1 : q.size ≤ 20) (r1 : R1.size ≤ 21) (L : List UInt8) (hL : H = tx L) (hH : L.length ≤ 41)
    (hF : F = if (s.l.all fun p => rightB p.d p.n) = true then (tx (L ++ tailT s.l), true) else (⟨#[]⟩, false))
    (KP : ∀ w, Calls Tryd.prog 11 #[.agg #[.int .i64 s.c, .int .i64 s.r, .slice a s.l.length cap]] w fun e w' => e = .returned (.int .i64 P) ∧ Below w.heap.size w w')
    (D1 : ∀ w, Calls Tryd.prog 37 #[.int .i64 s.c] w fun e w' => e = .returned (.string P1) ∧ w = w')
    (D2 : ∀ w, Calls Tryd.prog 37 #[.int .i64 s.r] w fun e w' => e = .returned (.string q) ∧ w = w') :
    Calls Tryd.prog 21 #[.agg #[.int .i64 s.c, .int .i64 s.r, .slice a s.l.length cap]] w fun e w' => e = .returned (.tuple #[.string F.1, .bool F.2]) ∧ Below w.heap.size w w' := by
  have HPn := Lib.hid KP; have HD1 := Lib.hid D1; have HD2 := Lib.hid D2; have HF := Lib.hid hF; have HL := Lib.hid hL
  have hne := Lib.hid hne
  have hHz : H.size ≤ 41 := by rw [HL.out, tx_size]; exact hH
  clear KP D1 D2 hF hL
  obtain ⟨cc, hcc⟩ : ∃ c, s.c = c := ⟨_, rfl⟩
  obtain ⟨rr, hrr⟩ : ∃ r, s.r = r := ⟨_, rfl⟩
  obtain ⟨n, hn⟩ : ∃ n, s.l.length = n := ⟨_, rfl⟩
  have KS := fun (e : List UInt8 × Sc) a3 c3 w1 (he : e ∈ catS) (h1 : InL w1 a3 e.2.l) (h2 : InL w1 a s.l) => refSame_any e.2 s a3 a c3 cap w1 (by have := (toldB_true (cat_told e he)).2.2.1; omega) h1 h2
  rw [hcc, hrr, hn] at KS HPn
  rw [hcc] at HD1
  rw [hrr] at HD2
  rw [hn] at hn6
  have z6 : decide ((6 : Int) < (n : Int)) = false := by simp; omega
  have KF := fun (e : List UInt8 × Sc) (he : e ∈ catS) w1 => refFind_any e.1 w1
  have HI := Lib.hid h; have HKS := Lib.hid KS; have HKF := Lib.hid KF; have HNN := Lib.hid hn; have HCC := Lib.hid hcc; have HRR := Lib.hid hrr
  rw [hcc, hrr, hn]
  clear h KS KF hn hcc hrr
  go_enter Tryd.func21, Tryd.ntmps21
  go_wp2_with fail
  refine (refNames_any _).mono ?_
  rintro e w1 ⟨v, rfl, hT, hb⟩
  obtain ⟨av, cv, rfl, hA⟩ := hT.arg
  obtain ⟨g, o, rfl, hc, -, -⟩ := hA.resolve_left (by decide)
  have A1 := (Bx.new w 24 [.int .i64 cc, .int .i64 rr, .slice a n cap]).up hb
  have B1 := Lib.hid (up_trans (up_alloc (Below.refl _ w) _) hb)
  have HA1 := Lib.hid A1; have HC := Lib.hid hc
  have HI1 := Lib.hid (HI.out.up B1.out)
  have hl : namesL.length = 21 := rfl
  rw [hl]
  clear hT hA hb A1 hc
  go_wp2
  go_loopw [5] (fun i wr => ∃ k : Nat, k ≤ 21 ∧ i = .int .i64 (k : Int) ∧ ∃ u : Later w1, wr = u.now) (fun i _ => 21 - (intOf i).toNat)
  case atStart => exact ⟨0, by omega, by go_num, ⟨w1, Below.refl _ _⟩, rfl⟩
  case round =>
    obtain ⟨k, hk, rfl, u, rfl⟩ := hrel
    have A2 := HA1.out.up u.up
    by_cases hlt : k < 21
    · obtain ⟨e, he⟩ : ∃ e, catS[k]? = some e := ⟨catS[k]'(by rw [catS_length]; exact hlt), List.getElem?_eq_getElem _⟩
      have hcx := u.cell (HC.out k e.1 (names_at he).1)
      have hmem := List.mem_of_getElem? he
      have HM := Lib.hid hmem; have HE := Lib.hid he
      have z0 : (0 : Int) ≤ (k : Int) := by omega
      have z1 : (k : Int) < 21 := by omega
      have KF := HKF.out e hmem u.now
      rw [(find_of_mem (n := e.1) (s := e.2) hmem).1] at KF
      have KF2 := Lib.hid KF
      obtain ⟨Q, hQ⟩ : ∃ Q, tx e.1 = Q := ⟨_, rfl⟩
      have HQ := Lib.hid hQ
      rw [hQ] at KF2 hcx
      clear KF hQ hmem he
      go_wp2_with fail
      refine KF2.out.mono ?_
      rintro e2 w2 ⟨a3, c3, rfl, hF, hb⟩
      have hF' : InL w2 a3 e.2.l := InF.inL hF
      have B2 := Lib.hid (up_alloc (up_trans u.up hb) (.cells #[.int .i64 e.2.c, .int .i64 e.2.r, .slice a3 e.2.l.length c3] 24))
      have A3 := (A2.up hb).alloc (.cells #[.int .i64 e.2.c, .int .i64 e.2.r, .slice a3 e.2.l.length c3] 24)
      have X3 := Bx.new w2 24 [.int .i64 e.2.c, .int .i64 e.2.r, .slice a3 e.2.l.length c3]
      have HS := HKS.out e a3 c3 (w2.alloc (.cells #[.int .i64 e.2.c, .int .i64 e.2.r, .slice a3 e.2.l.length c3] 24)) HM.out (hF'.up (up_alloc (Below.refl _ _) _)) (HI1.out.up B2.out)
      have HKS2 := Lib.hid HS
      have d0 := A3.cell 0 rfl; have d1 := A3.cell 1 rfl; have d2 := A3.cell 2 rfl
      have x0 := X3.cell 0 rfl; have x1 := X3.cell 1 rfl; have x2 := X3.cell 2 rfl
      clear hF hF' hb A2 A3 X3 HS
      have HS2 := HKS2.out
      rw [decide_eq_false (hne.out e HM.out)] at HS2
      have HS3 := Lib.hid HS2
      generalize e.2 = t at *
      clear HS2 HKS2
      go_wp2_with fail
      refine HS3.out.mono ?_
      rintro e3 w3 ⟨rfl, hb⟩
      have B3 := Lib.hid (up_trans B2.out hb)
      clear hb hcx d0 d1 d2 x0 x1 x2
      go_wp2
      go_roundw
      case rel => exact ⟨k + 1, by omega, by go_num, ⟨_, B3.out⟩, rfl⟩
      case measure => simp [intOf]; omega
    · obtain rfl : k = 21 := by omega
      have d0 := A2.cell 0 rfl; have d1 := A2.cell 1 rfl; have d2 := A2.cell 2 rfl
      clear A2
      go_wp2_with fail
      refine (HPn.out _).mono ?_
      rintro e3 w3 ⟨rfl, hb⟩
      have B3 := Lib.hid (up_trans (up_trans B1.out u.up) hb)
      have f0 := bl_cell hb d0; have f1 := bl_cell hb d1; have f2 := bl_cell hb d2
      have HI3 := Lib.hid (HI.out.up B3.out)
      clear hb d0 d1 d2
      go_wp2_with fail
      refine later_start (w := w3) ?_
      intro v
      have j0 := fun v : Later w3 => v.cell f0
      have j1 := fun v : Later w3 => v.cell f1
      have j2 := fun v : Later w3 => v.cell f2
      clear f0 f1
      refine wp_region_later (by kernel_rfl) (by kernel_rfl) ?_
      repeat (go_big_quiet_step ((first
        | (go_at_call 37; with_reducible exact Later.call ((HD1.out _).mono fun _ _ h => ⟨h.1, h.2 ▸ Below.refl _ _⟩))
        | (go_at_call 37; with_reducible exact Later.call ((HD2.out _).mono fun _ _ h => ⟨h.1, h.2 ▸ Below.refl _ _⟩)))))
      refine wpQuiet_nil ?_
      rintro _ ⟨v1, rfl⟩
      clear j0 j1 j2
      go_wp2
      go_loopw [8, 9] (fun t i wr => TellRel L s.l n w3 t i wr) (fun _ i _ => n - (intOf i).toNat)
      case atStart => exact ⟨0, by omega, by rw [HL.out]; simp [tailT], by go_num, Lib.hid (by simp), v1, rfl⟩
      case round =>
        obtain ⟨k, hk, rfl, rfl, HA, u, rfl⟩ := hrel
        have s2 := u.cell f2
        by_cases hlt : k < n
        · obtain ⟨p, hp⟩ : ∃ p, s.l[k]? = some p := ⟨s.l[k]'(by rw [HNN.out]; exact hlt), List.getElem?_eq_getElem _⟩
          obtain ⟨b, off, rfl, hc⟩ := HI3.out.resolve_left (by intro h0; rw [h0] at hp; cases hp)
          obtain ⟨d0, d1, d2⟩ := (hc.up u.up) k p hp
          have HT := Lib.hid (take_snoc hp)
          have hmem : p ∈ s.l := List.mem_of_getElem? hp
          have KR := fun w => refRight_any p.d p.n p.u w
          have z0 : (0 : Int) ≤ (k : Int) := by omega
          have z1 : (k : Int) < (n : Int) := by omega
          cases hr : rightB p.d p.n
          · have E := Lib.hid (show F = (⟨#[]⟩, false) by
              rw [HF.out, if_neg]
              intro h
              rw [List.all_eq_true] at h
              rw [h p hmem] at hr
              cases hr)
            rw [hr] at KR
            obtain ⟨pd, pn, pu⟩ := p
            simp only at d0 d1 d2 KR
            have HR := Lib.hid KR
            clear KR hc hp hr hmem
            go_wp2_with fail
            refine (HR.out _).mono ?_
            rintro e w5 ⟨rfl, hb5⟩
            have B5 := Lib.hid (up_trans u.up hb5)
            clear hb5
            go_wp2
            go_ret2
            exact ⟨by rw [E.out]; rfl, up_trans B3.out B5.out⟩
          · have HA2 := Lib.hid (show ∀ q ∈ s.l.take (k + 1), rightB q.d q.n = true by
              rw [HT.out]
              intro q hq
              rcases List.mem_append.1 hq with h | h
              · exact HA.out q h
              · obtain rfl := List.mem_singleton.1 h; exact hr)
            have KT := fun w => refText_any p w hr
            rw [hr] at KR
            have hz := textS_len p (by have := rightB_true hr; omega) (by have := rightB_true hr; omega)
            have htl := tail_len (s.l.take k) HA.out
            rw [List.length_take, HNN.out] at htl
            have hts : (tx (L ++ tailT (s.l.take k))).size ≤ 200 := by rw [tx_size, List.length_append]; omega
            have hps : (tx (textS p)).size ≤ 22 := by rw [tx_size]; exact hz.1
            have hq1 : tx (L ++ tailT (s.l.take k)) ++ ⟨#[32]⟩ = tx (L ++ tailT (s.l.take k) ++ [32]) := by
              have : (⟨#[32]⟩ : ByteArray) = tx [32] := rfl
              rw [this, tx_append]
            have hqs : (tx (L ++ tailT (s.l.take k) ++ [32])).size ≤ 201 := by rw [tx_size, List.length_append]; rw [tx_size] at hts; simp; simp at hts; omega
            have hq2 : tx (L ++ tailT (s.l.take k) ++ [32]) ++ tx (textS p) = tx (L ++ tailT (s.l.take (k + 1))) := by rw [tx_append, HT.out, tail_snoc]; simp
            obtain ⟨R, hR⟩ : ∃ R, tx (L ++ tailT (s.l.take (k + 1))) = R := ⟨_, rfl⟩
            rw [hR] at hq2
            have HRR2 := Lib.hid hR
            clear hR
            generalize tx (L ++ tailT (s.l.take k) ++ [32]) = Q at *
            generalize tx (L ++ tailT (s.l.take k)) = T at *
            generalize tx (textS p) = S at *
            have e0 := fun w' (hb : Below u.now.heap.size u.now w') => bl_cell hb d0
            have e1 := fun w' (hb : Below u.now.heap.size u.now w') => bl_cell hb d1
            have e2 := fun w' (hb : Below u.now.heap.size u.now w') => bl_cell hb d2
            have e3 := fun w' (hb : Below u.now.heap.size u.now w') => bl_cell hb s2
            have HE0 := Lib.hid e0; have HE1 := Lib.hid e1; have HE2 := Lib.hid e2; have HE3 := Lib.hid e3
            obtain ⟨pd, pn, pu⟩ := p
            simp only at d0 d1 d2 KR KT HE0 HE1 HE2
            have HR := Lib.hid KR; have HTx := Lib.hid KT
            clear KR KT hc hp hr hmem htl hz e0 e1 e2 e3
            go_wp2_with fail
            refine (HR.out _).mono ?_
            rintro e w5 ⟨rfl, hb5⟩
            have B5 := Lib.hid (up_trans u.up hb5)
            have g0 := HE0.out _ hb5; have g1 := HE1.out _ hb5; have g2 := HE2.out _ hb5; have g3 := HE3.out _ hb5
            clear hb5 d0 d1 d2 s2
            go_wp2_with fail
            refine (HTx.out _).mono ?_
            rintro e w6 ⟨rfl, hb6⟩
            have B6 := Lib.hid (up_trans B5.out hb6)
            clear hb6 g0 g1 g2 g3
            go_wp2
            go_roundw
            case rel => exact ⟨k + 1, by omega, by rw [HRR2.out], by go_num, HA2, ⟨_, B6.out⟩, rfl⟩
            case measure => simp [intOf]; omega
        · obtain rfl : k = n := by omega
          have hall : s.l.take k = s.l := List.take_of_length_le (by rw [HNN.out]; omega)
          have E := Lib.hid (show F = (tx (L ++ tailT (s.l.take k)), true) by
            rw [HF.out, if_pos, hall]
            rw [List.all_eq_true]
            rw [hall] at HA
            exact HA.out)
          generalize tx (L ++ tailT (s.l.take k)) = T at *
          clear hall
          go_wp2
          go_ret2
          exact ⟨by rw [E.out]; rfl, up_trans B3.out u.up⟩

theorem refPut2 (n : Int) (w : World) (n0 : -9223372036854775808 ≤ n) (n1 : n ≤ 9223372036854775807) : Calls Tryd.prog 37 #[.int .i64 n] w fun e w' => e = .returned (.string (tx (Lib.itoa n))) ∧ w = w' := refPut_any n w n0 n1
theorem pan_none {c r : Int} : (panM c r == 0) = !(sideB c && sideB r) := by
  cases h : (sideB c && sideB r)
  · unfold panM; rw [h]; rfl
  · have := pan_in h
    unfold panM
    rw [h, if_pos rfl, Bool.not_true, beq_eq_false_iff_ne]
    omega
theorem refSchPut_any (s : Sc) (a : Option Addr) (cap : Nat) (w : World) (h : InL w a s.l) :
    Calls Tryd.prog 21 #[.agg #[.int .i64 s.c, .int .i64 s.r, .slice a s.l.length cap]] w fun e w' => e = .returned (.tuple #[.string (putT s), .bool (putM s).isSome]) ∧ Below w.heap.size w w' := by
  cases hn : nameM s with
  | some n =>
    have := refPut_named s a cap w h (by rw [hn]; simp)
    have e : (putM s).isSome = true := by unfold putM; rw [hn]; rfl
    rw [e]
    exact this
  | none =>
    have hne : ∀ e ∈ catS, e.2 ≠ s := by
      intro e he h2
      have := (find_of_mem (n := e.1) (s := e.2) he).2
      rw [h2, hn] at this
      cases this
    have KP := fun w => refPanels_any s.c s.r a s.l.length cap w
    have ht : putT s = tellT s ∧ (putM s).isSome = toldB s := by
      unfold putT putM
      rw [hn]
      cases hb : toldB s <;> simp [tellM, tellT, hb]
    rw [ht.1, ht.2]
    have hpn := @pan_none s.c s.r
    by_cases hb : sideB s.c = true ∧ sideB s.r = true ∧ s.l.length ≤ 6
    · obtain ⟨h1, h2, h6⟩ := hb
      have c1 := sideB_true h1
      have r1 := sideB_true h2
      have hx : (⟨#[120]⟩ : ByteArray) = tx [120] := rfl
      rw [h1, h2] at hpn
      refine (refPut_told s a cap w h hne _ hpn h6 (tx (headT s)) (tx (Lib.itoa s.c)) (tx (Lib.itoa s.r)) (tx (Lib.itoa s.c ++ [120])) (tellT s, toldB s) (by rw [hx, tx_append]) (by rw [tx_append]; simp [headT]) (itoa_size _ (by omega) (by omega)) (itoa_size _ (by omega) (by omega)) ?_ (headT s) rfl ?_ ?_ KP (fun w => refPut2 s.c w (by omega) (by omega)) (fun w => refPut2 s.r w (by omega) (by omega))).mono ?_
      · have := itoa_len s.c (by omega) (by omega)
        rw [tx_size, List.length_append, List.length_singleton]
        omega
      · have := itoa_len s.c (by omega) (by omega)
        have := itoa_len s.r (by omega) (by omega)
        unfold headT
        simp only [List.length_append, List.length_cons]
        omega
      · unfold tellT toldB
        rw [h1, h2]
        simp only [Bool.and_self, Bool.true_and, decide_eq_true h6]
        split
        · rename_i e; rw [e]
        · rename_i e; simp [e]
      · rintro e w' ⟨rfl, hb⟩
        exact ⟨rfl, hb⟩
    · have ht : toldB s = false := by
        rw [← Bool.not_eq_true]
        intro h2
        unfold toldB at h2
        simp only [Bool.and_eq_true, decide_eq_true_eq] at h2
        exact hb ⟨h2.1.1, h2.1.2, h2.2.1⟩
      unfold tellT
      rw [ht]
      refine refPut_bad s a cap w h hne _ _ _ hpn rfl ?_ KP
      by_cases h1 : sideB s.c = true
      · by_cases h2 : sideB s.r = true
        · right
          have : ¬ s.l.length ≤ 6 := fun h6 => hb ⟨h1, h2, h6⟩
          simp; omega
        · left; simp [h1, h2]
      · left; simp [h1]
end Go.Proofs.YtaphkplidnepaaaDoor
