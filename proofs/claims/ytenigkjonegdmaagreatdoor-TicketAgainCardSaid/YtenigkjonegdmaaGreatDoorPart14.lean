/- Part 14 of the texts that the proofs of this seat share: SchemeRefTwo, WordsRef, TicketRefPut, TicketRefPut2, TicketRefPut3. -/
import Derived.Test.YtenigkjonegdmaaGreatDoorPart13
import Derived.Test.YtenigkjonegdmaaGreatDoorPart8
import Derived.Test.YtenigkjonegdmaaGreatDoorPart2
import Derived.Test.YtenigkjonegdmaaGreatDoorPart12
/- What the document's own Find and Put answer: for every text and every scheme. -/
namespace Go.Proofs.YtenigkjonegdmaaGreatDoor
open Go.RowKit DecMath
set_option linter.unusedVariables false

theorem cat_plainM : ∀ e ∈ catS, plainM (joinM (partsC e.2)) = some e.2 := by
  intro e he
  unfold plainM
  rw [← cat_parts e he, fields_parts e.2 (cat_told e he)]
  exact read_parts e.2 (cat_told e he)
theorem names_at {k : Nat} {e : List UInt8 × Sc} (h : catS[k]? = some e) : namesL[k]? = some e.1 ∧ plansL[k]? = some (joinM (partsC e.2)) := by
  unfold namesL plansL
  rw [List.getElem?_map, List.getElem?_map, h]
  exact ⟨rfl, rfl⟩
theorem catS_length : catS.length = 21 := rfl

set_option maxRecDepth 100000 in
set_option maxHeartbeats 2000000 in
theorem refFind_any (nm : List UInt8) (w : World) : Calls Tryz.prog 46 #[.string (tx nm)] w (GivesS (findM nm) w) := by
  obtain ⟨N, hN⟩ : ∃ N, tx nm = N := ⟨_, rfl⟩
  have HN := Lib.hid hN
  rw [hN]
  clear hN
  go_enter Tryz.func46, Tryz.ntmps46
  go_wp2_with fail
  refine (refNames_any _).mono ?_
  rintro e w1 ⟨v, rfl, hT, hb⟩
  obtain ⟨a, c, rfl, hA⟩ := hT.arg
  obtain ⟨g, o, rfl, hc, -, -⟩ := hA.resolve_left (by decide)
  have A1 := (Bx.new w 26 [.int .i64 0, .int .i64 0, .slice none 0 0]).up hb
  have B1 := Lib.hid (up_trans (up_alloc (Below.refl _ w) _) hb)
  have HA1 := Lib.hid A1; have HC := Lib.hid hc
  have hl : namesL.length = 21 := rfl
  rw [hl]
  clear hT hA hb A1 hc
  go_wp2
  go_loopw [5] (fun i wr => ∃ k : Nat, k ≤ 21 ∧ i = .int .i64 (k : Int) ∧ Hid (∀ e ∈ catS.take k, e.1 ≠ nm) ∧ ∃ u : Later w1, wr = u.now) (fun i _ => 21 - (intOf i).toNat)
  case atStart => exact ⟨0, by omega, by go_num, Lib.hid (by simp), ⟨w1, Below.refl _ _⟩, rfl⟩
  case round =>
    obtain ⟨k, hk, rfl, HNE, u, rfl⟩ := hrel
    have A2 := HA1.out.up u.up
    by_cases hlt : k < 21
    · obtain ⟨e, he⟩ : ∃ e, catS[k]? = some e := ⟨catS[k]'(by rw [catS_length]; exact hlt), List.getElem?_eq_getElem _⟩
      have hcx := u.cell (HC.out k e.1 (names_at he).1)
      have hmem := List.mem_of_getElem? he
      have z0 : (0 : Int) ≤ (k : Int) := by omega
      have z1 : (k : Int) < 21 := by omega
      have hs := tx_same e.1 nm
      rw [HN.out] at hs
      by_cases hx : e.1 = nm
      · rw [decide_eq_true hx] at hs
        have E := Lib.hid (show findM nm = some e.2 by rw [← hx]; exact (find_of_mem hmem).1)
        have KP := refPlain_any (tx (joinM (partsC e.2)))
        rw [data_tx, cat_plainM e hmem] at KP
        have hz := (cat_short e hmem).2.1
        have HP := Lib.hid fun w => KP w (by rw [tx_size]; omega)
        have hpl := Lib.hid (names_at he).2
        obtain ⟨T, hT0⟩ : ∃ T, tx (joinM (partsC e.2)) = T := ⟨_, rfl⟩
        have HT0 := Lib.hid hT0
        rw [hT0] at HP
        obtain ⟨s, hs0⟩ : ∃ s, e.2 = s := ⟨_, rfl⟩
        rw [hs0] at HP E
        generalize tx e.1 = Q at *
        clear KP hz hx hmem HNE hT0 hs0
        go_wp2_with fail
        refine (refPlans_any _).mono ?_
        rintro e2 w2 ⟨v2, rfl, hT, hb⟩
        obtain ⟨a, c2, rfl, hA⟩ := hT.arg
        obtain ⟨g2, o2, rfl, hc2, -, -⟩ := hA.resolve_left (by decide +kernel)
        have hcp := hc2 k _ hpl.out
        rw [HT0.out] at hcp
        have hl2 : plansL.length = 21 := rfl
        rw [hl2]
        have A3 := A2.up hb
        have B3 := Lib.hid (up_trans (up_trans B1.out u.up) hb)
        clear hT hA hc2 hb A2 hcx
        go_wp2_with fail
        refine (HP.out _).mono ?_
        rintro e3 w3 ⟨a3, c3, rfl, hF, hb⟩
        have hF' : InF (w.heap.size + 1) w3 a3 s.l := InF.mono hF A3.lt
        have A4 := A3.up hb
        have a0 := A4.cell 0 rfl; have a1 := A4.cell 1 rfl; have a2 := A4.cell 2 rfl; have af := A4.free
        have HF := Lib.hid hF'
        have B4 := Lib.hid (up_trans B3.out hb)
        clear hF hF' hb A3 A4 hcp
        go_wp2
        rw [E.out]
        refine bodyPost_ret (v := .tuple #[.agg #[.int .i64 s.c, .int .i64 s.r, .slice a3 s.l.length c3], .bool true]) (by simp [results, Tryz.results46, go_sem, a0, a1, a2]) rfl (gives_some ?_ ?_)
        · have HR2 := HF.out
          refine InF.mono (base := w.heap.size + 1) ?_ (by omega)
          repeat (first | (with_reducible exact HR2) | (with_reducible refine InF.set ?_ (by simp only; omega) _))
        · have B5 := B4.out
          repeat (first | (with_reducible exact B5) | (with_reducible refine up_set ?_ (by simp only; omega) _))
      · rw [decide_eq_false hx] at hs
        have HX := Lib.hid (show ∀ e ∈ catS.take (k + 1), e.1 ≠ nm by
          rw [take_snoc he]
          intro y hy
          rcases List.mem_append.1 hy with h | h
          · exact HNE.out y h
          · obtain rfl := List.mem_singleton.1 h; exact hx)
        generalize tx e.1 = Q at *
        clear hx hmem HNE A2 he
        go_wp2
        go_roundw
        case rel => exact ⟨k + 1, by omega, by go_num, HX, u, rfl⟩
        case measure => simp [intOf]; omega
    · obtain rfl : k = 21 := by omega
      have E := Lib.hid (show findM nm = none from find_none fun e he => by
        have := HNE.out
        rw [List.take_of_length_le (by rw [catS_length]; omega)] at this
        exact this e he)
      have a0 := A2.cell 0 rfl; have a1 := A2.cell 1 rfl; have a2 := A2.cell 2 rfl; have af := A2.free
      have B2 := Lib.hid (up_trans B1.out u.up)
      clear A2 HNE
      go_wp2
      rw [E.out]
      refine bodyPost_ret (v := .tuple #[.agg #[.int .i64 0, .int .i64 0, .slice none 0 0], .bool false]) (by simp [results, Tryz.results46, go_sem, a0, a1, a2]) rfl (gives_none ?_)
      have B3 := B2.out
      repeat (first | (with_reducible exact B3) | (with_reducible refine up_set ?_ (by simp only; omega) _))

set_option maxRecDepth 100000 in
set_option maxHeartbeats 4000000 in
theorem refPut_named (s : Sc) (a : Option Addr) (cap : Nat) (w : World) (h : InL w a s.l) (hn : nameM s ≠ none) :
    Calls Tryz.prog 23 #[.agg #[.int .i64 s.c, .int .i64 s.r, .slice a s.l.length cap]] w fun e w' => e = .returned (.tuple #[.string (putT s), .bool true]) ∧ Below w.heap.size w w' := by
  have hnm := Lib.hid hn
  clear hn
  obtain ⟨cc, hcc⟩ : ∃ c, s.c = c := ⟨_, rfl⟩
  obtain ⟨rr, hrr⟩ : ∃ r, s.r = r := ⟨_, rfl⟩
  obtain ⟨n, hn⟩ : ∃ n, s.l.length = n := ⟨_, rfl⟩
  have KS := fun (e : List UInt8 × Sc) a3 c3 w1 (he : e ∈ catS) (h1 : InL w1 a3 e.2.l) (h2 : InL w1 a s.l) => refSame_any e.2 s a3 a c3 cap w1 (by have := (toldB_true (cat_told e he)).2.2.1; omega) h1 h2
  rw [hcc, hrr, hn] at KS
  have KF := fun (e : List UInt8 × Sc) (he : e ∈ catS) w1 => refFind_any e.1 w1
  have HI := Lib.hid h; have HKS := Lib.hid KS; have HKF := Lib.hid KF; have HNN := Lib.hid hn; have HCC := Lib.hid hcc; have HRR := Lib.hid hrr
  rw [hcc, hrr, hn]
  clear h KS KF hn hcc hrr
  go_enter Tryz.func23, Tryz.ntmps23
  go_wp2_with fail
  refine (refNames_any _).mono ?_
  rintro e w1 ⟨v, rfl, hT, hb⟩
  obtain ⟨av, cv, rfl, hA⟩ := hT.arg
  obtain ⟨g, o, rfl, hc, -, -⟩ := hA.resolve_left (by decide)
  have A1 := (Bx.new w 26 [.int .i64 cc, .int .i64 rr, .slice a n cap]).up hb
  have B1 := Lib.hid (up_trans (up_alloc (Below.refl _ w) _) hb)
  have HA1 := Lib.hid A1; have HC := Lib.hid hc
  have HI1 := Lib.hid (HI.out.up B1.out)
  have hl : namesL.length = 21 := rfl
  rw [hl]
  clear hT hA hb A1 hc
  go_wp2
  go_loopw [5] (fun i wr => ∃ k : Nat, k ≤ 21 ∧ i = .int .i64 (k : Int) ∧ Hid (∀ e ∈ catS.take k, e.2 ≠ s) ∧ ∃ u : Later w1, wr = u.now) (fun i _ => 21 - (intOf i).toNat)
  case atStart => exact ⟨0, by omega, by go_num, Lib.hid (by simp), ⟨w1, Below.refl _ _⟩, rfl⟩
  case round =>
    obtain ⟨k, hk, rfl, HNE, u, rfl⟩ := hrel
    have A2 := HA1.out.up u.up
    by_cases hlt : k < 21
    · obtain ⟨e, he⟩ : ∃ e, catS[k]? = some e := ⟨catS[k]'(by rw [catS_length]; exact hlt), List.getElem?_eq_getElem _⟩
      have hcx := u.cell (HC.out k e.1 (names_at he).1)
      have hmem := List.mem_of_getElem? he
      have HM := Lib.hid hmem; have HE := Lib.hid he
      have z0 : (0 : Int) ≤ (k : Int) := by omega
      have z1 : (k : Int) < 21 := by omega
      have KF := HKF.out e hmem u.now
      rw [(find_of_mem (n := e.1) (s := e.2) hmem).1] at KF
      have KF2 := Lib.hid KF
      obtain ⟨Q, hQ⟩ : ∃ Q, tx e.1 = Q := ⟨_, rfl⟩
      have HQ := Lib.hid hQ
      rw [hQ] at KF2 hcx
      clear KF hQ hmem he
      go_wp2_with fail
      refine KF2.out.mono ?_
      rintro e2 w2 ⟨a3, c3, rfl, hF, hb⟩
      have hF' : InL w2 a3 e.2.l := InF.inL hF
      have B2 := Lib.hid (up_alloc (up_trans u.up hb) (.cells #[.int .i64 e.2.c, .int .i64 e.2.r, .slice a3 e.2.l.length c3] 26))
      have A3 := (A2.up hb).alloc (.cells #[.int .i64 e.2.c, .int .i64 e.2.r, .slice a3 e.2.l.length c3] 26)
      have X3 := Bx.new w2 26 [.int .i64 e.2.c, .int .i64 e.2.r, .slice a3 e.2.l.length c3]
      have HS := HKS.out e a3 c3 (w2.alloc (.cells #[.int .i64 e.2.c, .int .i64 e.2.r, .slice a3 e.2.l.length c3] 26)) HM.out (hF'.up (up_alloc (Below.refl _ _) _)) (HI1.out.up B2.out)
      have HKS2 := Lib.hid HS
      have d0 := A3.cell 0 rfl; have d1 := A3.cell 1 rfl; have d2 := A3.cell 2 rfl
      have x0 := X3.cell 0 rfl; have x1 := X3.cell 1 rfl; have x2 := X3.cell 2 rfl
      clear hF hF' hb A2 A3 X3 HS
      by_cases hx : e.2 = s
      · have HS2 := HKS2.out
        rw [decide_eq_true hx] at HS2
        have E := Lib.hid (show nameM s = some e.1 by rw [← hx]; exact (find_of_mem (n := e.1) (s := e.2) HM.out).2)
        have HS3 := Lib.hid HS2
        have HC2 := Lib.hid (HC.out k e.1 (names_at HE.out).1)
        generalize e.2 = t at *
        clear HS2 hx HKS2
        go_wp2_with fail
        refine HS3.out.mono ?_
        rintro e3 w3 ⟨rfl, hb⟩
        have hq := bl_cell (up_trans B2.out hb) HC2.out
        rw [HQ.out] at hq
        have B3 := Lib.hid (up_trans (up_trans B1.out B2.out) hb)
        clear hb hcx d0 d1 d2 x0 x1 x2
        go_wp2
        go_ret2
        exact ⟨by unfold putT putM; rw [E.out]; show _ = Ending.returned (.tuple #[.string (tx e.1), .bool true]); rw [HQ.out]; rfl, B3.out⟩
      · have HS2 := HKS2.out
        rw [decide_eq_false hx] at HS2
        have HX := Lib.hid (show ∀ e ∈ catS.take (k + 1), e.2 ≠ s by
          rw [take_snoc HE.out]
          intro y hy
          rcases List.mem_append.1 hy with h | h
          · exact HNE.out y h
          · obtain rfl := List.mem_singleton.1 h; exact hx)
        have HS3 := Lib.hid HS2
        generalize e.2 = t at *
        clear HS2 hx HKS2
        go_wp2_with fail
        refine HS3.out.mono ?_
        rintro e3 w3 ⟨rfl, hb⟩
        have B3 := Lib.hid (up_trans B2.out hb)
        clear hb hcx d0 d1 d2 x0 x1 x2
        go_wp2
        go_roundw
        case rel => exact ⟨k + 1, by omega, by go_num, HX, ⟨_, B3.out⟩, rfl⟩
        case measure => simp [intOf]; omega
    · obtain rfl : k = 21 := by omega
      refine absurd ?_ hnm.out
      refine name_none fun e he => ?_
      have := HNE.out
      rw [List.take_of_length_le (by rw [catS_length]; omega)] at this
      exact this e he

set_option maxRecDepth 100000 in
set_option maxHeartbeats 4000000 in
theorem refPut_bad (s : Sc) (a : Option Addr) (cap : Nat) (w : World) (h : InL w a s.l) (hne : ∀ e ∈ catS, e.2 ≠ s) (P : Int) (b1 b2 : Bool) (e1 : (P == 0) = b1) (e2 : decide ((6 : Int) < (s.l.length : Int)) = b2) (hbad : b1 = true ∨ b2 = true)
    (KP : ∀ w, Calls Tryz.prog 47 #[.agg #[.int .i64 s.c, .int .i64 s.r, .slice a s.l.length cap]] w fun e w' => e = .returned (.int .i64 P) ∧ Below w.heap.size w w') :
    Calls Tryz.prog 23 #[.agg #[.int .i64 s.c, .int .i64 s.r, .slice a s.l.length cap]] w fun e w' => e = .returned (.tuple #[.string ⟨#[]⟩, .bool false]) ∧ Below w.heap.size w w' := by
  have HPn := Lib.hid KP
  have hne := Lib.hid hne; have hbad := Lib.hid hbad
  clear KP
  obtain ⟨cc, hcc⟩ : ∃ c, s.c = c := ⟨_, rfl⟩
  obtain ⟨rr, hrr⟩ : ∃ r, s.r = r := ⟨_, rfl⟩
  obtain ⟨n, hn⟩ : ∃ n, s.l.length = n := ⟨_, rfl⟩
  have KS := fun (e : List UInt8 × Sc) a3 c3 w1 (he : e ∈ catS) (h1 : InL w1 a3 e.2.l) (h2 : InL w1 a s.l) => refSame_any e.2 s a3 a c3 cap w1 (by have := (toldB_true (cat_told e he)).2.2.1; omega) h1 h2
  rw [hcc, hrr, hn] at KS HPn
  rw [hn] at e2
  have KF := fun (e : List UInt8 × Sc) (he : e ∈ catS) w1 => refFind_any e.1 w1
  have HI := Lib.hid h; have HKS := Lib.hid KS; have HKF := Lib.hid KF; have HNN := Lib.hid hn; have HCC := Lib.hid hcc; have HRR := Lib.hid hrr
  rw [hcc, hrr, hn]
  clear h KS KF hn hcc hrr
  go_enter Tryz.func23, Tryz.ntmps23
  go_wp2_with fail
  refine (refNames_any _).mono ?_
  rintro e w1 ⟨v, rfl, hT, hb⟩
  obtain ⟨av, cv, rfl, hA⟩ := hT.arg
  obtain ⟨g, o, rfl, hc, -, -⟩ := hA.resolve_left (by decide)
  have A1 := (Bx.new w 26 [.int .i64 cc, .int .i64 rr, .slice a n cap]).up hb
  have B1 := Lib.hid (up_trans (up_alloc (Below.refl _ w) _) hb)
  have HA1 := Lib.hid A1; have HC := Lib.hid hc
  have HI1 := Lib.hid (HI.out.up B1.out)
  have hl : namesL.length = 21 := rfl
  rw [hl]
  clear hT hA hb A1 hc
  go_wp2
  go_loopw [5] (fun i wr => ∃ k : Nat, k ≤ 21 ∧ i = .int .i64 (k : Int) ∧ ∃ u : Later w1, wr = u.now) (fun i _ => 21 - (intOf i).toNat)
  case atStart => exact ⟨0, by omega, by go_num, ⟨w1, Below.refl _ _⟩, rfl⟩
  case round =>
    obtain ⟨k, hk, rfl, u, rfl⟩ := hrel
    have A2 := HA1.out.up u.up
    by_cases hlt : k < 21
    · obtain ⟨e, he⟩ : ∃ e, catS[k]? = some e := ⟨catS[k]'(by rw [catS_length]; exact hlt), List.getElem?_eq_getElem _⟩
      have hcx := u.cell (HC.out k e.1 (names_at he).1)
      have hmem := List.mem_of_getElem? he
      have HM := Lib.hid hmem; have HE := Lib.hid he
      have z0 : (0 : Int) ≤ (k : Int) := by omega
      have z1 : (k : Int) < 21 := by omega
      have KF := HKF.out e hmem u.now
      rw [(find_of_mem (n := e.1) (s := e.2) hmem).1] at KF
      have KF2 := Lib.hid KF
      obtain ⟨Q, hQ⟩ : ∃ Q, tx e.1 = Q := ⟨_, rfl⟩
      have HQ := Lib.hid hQ
      rw [hQ] at KF2 hcx
      clear KF hQ hmem he
      go_wp2_with fail
      refine KF2.out.mono ?_
      rintro e2 w2 ⟨a3, c3, rfl, hF, hb⟩
      have hF' : InL w2 a3 e.2.l := InF.inL hF
      have B2 := Lib.hid (up_alloc (up_trans u.up hb) (.cells #[.int .i64 e.2.c, .int .i64 e.2.r, .slice a3 e.2.l.length c3] 26))
      have A3 := (A2.up hb).alloc (.cells #[.int .i64 e.2.c, .int .i64 e.2.r, .slice a3 e.2.l.length c3] 26)
      have X3 := Bx.new w2 26 [.int .i64 e.2.c, .int .i64 e.2.r, .slice a3 e.2.l.length c3]
      have HS := HKS.out e a3 c3 (w2.alloc (.cells #[.int .i64 e.2.c, .int .i64 e.2.r, .slice a3 e.2.l.length c3] 26)) HM.out (hF'.up (up_alloc (Below.refl _ _) _)) (HI1.out.up B2.out)
      have HKS2 := Lib.hid HS
      have d0 := A3.cell 0 rfl; have d1 := A3.cell 1 rfl; have d2 := A3.cell 2 rfl
      have x0 := X3.cell 0 rfl; have x1 := X3.cell 1 rfl; have x2 := X3.cell 2 rfl
      clear hF hF' hb A2 A3 X3 HS
      have HS2 := HKS2.out
      rw [decide_eq_false (hne.out e HM.out)] at HS2
      have HS3 := Lib.hid HS2
      generalize e.2 = t at *
      clear HS2 HKS2
      go_wp2_with fail
      refine HS3.out.mono ?_
      rintro e3 w3 ⟨rfl, hb⟩
      have B3 := Lib.hid (up_trans B2.out hb)
      clear hb hcx d0 d1 d2 x0 x1 x2
      go_wp2
      go_roundw
      case rel => exact ⟨k + 1, by omega, by go_num, ⟨_, B3.out⟩, rfl⟩
      case measure => simp [intOf]; omega
    · obtain rfl : k = 21 := by omega
      have d0 := A2.cell 0 rfl; have d1 := A2.cell 1 rfl; have d2 := A2.cell 2 rfl
      clear A2
      go_wp2_with fail
      refine (HPn.out _).mono ?_
      rintro e3 w3 ⟨rfl, hb⟩
      have B3 := Lib.hid (up_trans (up_trans B1.out u.up) hb)
      have d2' := bl_cell hb d2
      clear hb d0 d1 d2
      cases b1
      · obtain rfl : b2 = true := by simpa using hbad.out
        go_wp2
        go_ret2
        exact ⟨rfl, B3.out⟩
      · clear e2
        go_wp2
        go_ret2
        exact ⟨rfl, B3.out⟩

set_option maxRecDepth 100000 in
set_option maxHeartbeats 4000000 in
theorem refPut_told (s : Sc) (a : Option Addr) (cap : Nat) (w : World) (h : InL w a s.l) (hne : ∀ e ∈ catS, e.2 ≠ s) (P : Int) (e1 : (P == 0) = false) (hn6 : s.l.length ≤ 6) (H P1 q R1 : ByteArray) (F : ByteArray × Bool)
    (hR1 : P1 ++ ⟨#[120]⟩ = R1) (hR2 : R1 ++ q = H) (p1 : P1.size ≤ 20) (q1 : q.size ≤ 20) (r1 : R1.size ≤ 21) (L : List UInt8) (hL : H = tx L) (hH : L.length ≤ 41)
    (hF : F = if (s.l.all fun p => rightB p.d p.n) = true then (tx (L ++ tailT s.l), true) else (⟨#[]⟩, false))
    (KP : ∀ w, Calls Tryz.prog 47 #[.agg #[.int .i64 s.c, .int .i64 s.r, .slice a s.l.length cap]] w fun e w' => e = .returned (.int .i64 P) ∧ Below w.heap.size w w')
    (D1 : ∀ w, Calls Tryz.prog 14 #[.int .i64 s.c] w fun e w' => e = .returned (.string P1) ∧ w = w')
    (D2 : ∀ w, Calls Tryz.prog 14 #[.int .i64 s.r] w fun e w' => e = .returned (.string q) ∧ w = w') :
    Calls Tryz.prog 23 #[.agg #[.int .i64 s.c, .int .i64 s.r, .slice a s.l.length cap]] w fun e w' => e = .returned (.tuple #[.string F.1, .bool F.2]) ∧ Below w.heap.size w w' := by
  have HPn := Lib.hid KP; have HD1 := Lib.hid D1; have HD2 := Lib.hid D2; have HF := Lib.hid hF; have HL := Lib.hid hL
  have hne := Lib.hid hne
  have hHz : H.size ≤ 41 := by rw [HL.out, tx_size]; exact hH
  clear KP D1 D2 hF hL
  obtain ⟨cc, hcc⟩ : ∃ c, s.c = c := ⟨_, rfl⟩
  obtain ⟨rr, hrr⟩ : ∃ r, s.r = r := ⟨_, rfl⟩
  obtain ⟨n, hn⟩ : ∃ n, s.l.length = n := ⟨_, rfl⟩
  have KS := fun (e : List UInt8 × Sc) a3 c3 w1 (he : e ∈ catS) (h1 : InL w1 a3 e.2.l) (h2 : InL w1 a s.l) => refSame_any e.2 s a3 a c3 cap w1 (by have := (toldB_true (cat_told e he)).2.2.1; omega) h1 h2
  rw [hcc, hrr, hn] at KS HPn
  rw [hcc] at HD1
  rw [hrr] at HD2
  rw [hn] at hn6
  have z6 : decide ((6 : Int) < (n : Int)) = false := by simp; omega
  have KF := fun (e : List UInt8 × Sc) (he : e ∈ catS) w1 => refFind_any e.1 w1
  have HI := Lib.hid h; have HKS := Lib.hid KS; have HKF := Lib.hid KF; have HNN := Lib.hid hn; have HCC := Lib.hid hcc; have HRR := Lib.hid hrr
  rw [hcc, hrr, hn]
  clear h KS KF hn hcc hrr
  go_enter Tryz.func23, Tryz.ntmps23
  go_wp2_with fail
  refine (refNames_any _).mono ?_
  rintro e w1 ⟨v, rfl, hT, hb⟩
  obtain ⟨av, cv, rfl, hA⟩ := hT.arg
  obtain ⟨g, o, rfl, hc, -, -⟩ := hA.resolve_left (by decide)
  have A1 := (Bx.new w 26 [.int .i64 cc, .int .i64 rr, .slice a n cap]).up hb
  have B1 := Lib.hid (up_trans (up_alloc (Below.refl _ w) _) hb)
  have HA1 := Lib.hid A1; have HC := Lib.hid hc
  have HI1 := Lib.hid (HI.out.up B1.out)
  have hl : namesL.length = 21 := rfl
  rw [hl]
  clear hT hA hb A1 hc
  go_wp2
  go_loopw [5] (fun i wr => ∃ k : Nat, k ≤ 21 ∧ i = .int .i64 (k : Int) ∧ ∃ u : Later w1, wr = u.now) (fun i _ => 21 - (intOf i).toNat)
  case atStart => exact ⟨0, by omega, by go_num, ⟨w1, Below.refl _ _⟩, rfl⟩
  case round =>
    obtain ⟨k, hk, rfl, u, rfl⟩ := hrel
    have A2 := HA1.out.up u.up
    by_cases hlt : k < 21
    · obtain ⟨e, he⟩ : ∃ e, catS[k]? = some e := ⟨catS[k]'(by rw [catS_length]; exact hlt), List.getElem?_eq_getElem _⟩
      have hcx := u.cell (HC.out k e.1 (names_at he).1)
      have hmem := List.mem_of_getElem? he
      have HM := Lib.hid hmem; have HE := Lib.hid he
      have z0 : (0 : Int) ≤ (k : Int) := by omega
      have z1 : (k : Int) < 21 := by omega
      have KF := HKF.out e hmem u.now
      rw [(find_of_mem (n := e.1) (s := e.2) hmem).1] at KF
      have KF2 := Lib.hid KF
      obtain ⟨Q, hQ⟩ : ∃ Q, tx e.1 = Q := ⟨_, rfl⟩
      have HQ := Lib.hid hQ
      rw [hQ] at KF2 hcx
      clear KF hQ hmem he
      go_wp2_with fail
      refine KF2.out.mono ?_
      rintro e2 w2 ⟨a3, c3, rfl, hF, hb⟩
      have hF' : InL w2 a3 e.2.l := InF.inL hF
      have B2 := Lib.hid (up_alloc (up_trans u.up hb) (.cells #[.int .i64 e.2.c, .int .i64 e.2.r, .slice a3 e.2.l.length c3] 26))
      have A3 := (A2.up hb).alloc (.cells #[.int .i64 e.2.c, .int .i64 e.2.r, .slice a3 e.2.l.length c3] 26)
      have X3 := Bx.new w2 26 [.int .i64 e.2.c, .int .i64 e.2.r, .slice a3 e.2.l.length c3]
      have HS := HKS.out e a3 c3 (w2.alloc (.cells #[.int .i64 e.2.c, .int .i64 e.2.r, .slice a3 e.2.l.length c3] 26)) HM.out (hF'.up (up_alloc (Below.refl _ _) _)) (HI1.out.up B2.out)
      have HKS2 := Lib.hid HS
      have d0 := A3.cell 0 rfl; have d1 := A3.cell 1 rfl; have d2 := A3.cell 2 rfl
      have x0 := X3.cell 0 rfl; have x1 := X3.cell 1 rfl; have x2 := X3.cell 2 rfl
      clear hF hF' hb A2 A3 X3 HS
      have HS2 := HKS2.out
      rw [decide_eq_false (hne.out e HM.out)] at HS2
      have HS3 := Lib.hid HS2
      generalize e.2 = t at *
      clear HS2 HKS2
      go_wp2_with fail
      refine HS3.out.mono ?_
      rintro e3 w3 ⟨rfl, hb⟩
      have B3 := Lib.hid (up_trans B2.out hb)
      clear hb hcx d0 d1 d2 x0 x1 x2
      go_wp2
      go_roundw
      case rel => exact ⟨k + 1, by omega, by go_num, ⟨_, B3.out⟩, rfl⟩
      case measure => simp [intOf]; omega
    · obtain rfl : k = 21 := by omega
      have d0 := A2.cell 0 rfl; have d1 := A2.cell 1 rfl; have d2 := A2.cell 2 rfl
      clear A2
      go_wp2_with fail
      refine (HPn.out _).mono ?_
      rintro e3 w3 ⟨rfl, hb⟩
      have B3 := Lib.hid (up_trans (up_trans B1.out u.up) hb)
      have f0 := bl_cell hb d0; have f1 := bl_cell hb d1; have f2 := bl_cell hb d2
      have HI3 := Lib.hid (HI.out.up B3.out)
      clear hb d0 d1 d2
      go_wp2_with fail
      refine later_start (w := w3) ?_
      intro v
      have j0 := fun v : Later w3 => v.cell f0
      have j1 := fun v : Later w3 => v.cell f1
      have j2 := fun v : Later w3 => v.cell f2
      clear f0 f1
      refine wp_region_later (by kernel_rfl) (by kernel_rfl) ?_
      repeat (go_big_quiet_step ((first
        | (go_at_call 14; with_reducible exact Later.call ((HD1.out _).mono fun _ _ h => ⟨h.1, h.2 ▸ Below.refl _ _⟩))
        | (go_at_call 14; with_reducible exact Later.call ((HD2.out _).mono fun _ _ h => ⟨h.1, h.2 ▸ Below.refl _ _⟩)))))
      refine wpQuiet_nil ?_
      rintro _ ⟨v1, rfl⟩
      clear j0 j1 j2
      go_wp2
      go_loopw [8, 9] (fun t i wr => TellRel L s.l n w3 t i wr) (fun _ i _ => n - (intOf i).toNat)
      case atStart => exact ⟨0, by omega, by rw [HL.out]; simp [tailT], by go_num, Lib.hid (by simp), v1, rfl⟩
      case round =>
        obtain ⟨k, hk, rfl, rfl, HA, u, rfl⟩ := hrel
        have s2 := u.cell f2
        by_cases hlt : k < n
        · obtain ⟨p, hp⟩ : ∃ p, s.l[k]? = some p := ⟨s.l[k]'(by rw [HNN.out]; exact hlt), List.getElem?_eq_getElem _⟩
          obtain ⟨b, off, rfl, hc⟩ := HI3.out.resolve_left (by intro h0; rw [h0] at hp; cases hp)
          obtain ⟨d0, d1, d2⟩ := (hc.up u.up) k p hp
          have HT := Lib.hid (take_snoc hp)
          have hmem : p ∈ s.l := List.mem_of_getElem? hp
          have KR := fun w => refRight_any p.d p.n p.u w
          have z0 : (0 : Int) ≤ (k : Int) := by omega
          have z1 : (k : Int) < (n : Int) := by omega
          cases hr : rightB p.d p.n
          · have E := Lib.hid (show F = (⟨#[]⟩, false) by
              rw [HF.out, if_neg]
              intro h
              rw [List.all_eq_true] at h
              rw [h p hmem] at hr
              cases hr)
            rw [hr] at KR
            obtain ⟨pd, pn, pu⟩ := p
            simp only at d0 d1 d2 KR
            have HR := Lib.hid KR
            clear KR hc hp hr hmem
            go_wp2_with fail
            refine (HR.out _).mono ?_
            rintro e w5 ⟨rfl, hb5⟩
            have B5 := Lib.hid (up_trans u.up hb5)
            clear hb5
            go_wp2
            go_ret2
            exact ⟨by rw [E.out]; rfl, up_trans B3.out B5.out⟩
          · have HA2 := Lib.hid (show ∀ q ∈ s.l.take (k + 1), rightB q.d q.n = true by
              rw [HT.out]
              intro q hq
              rcases List.mem_append.1 hq with h | h
              · exact HA.out q h
              · obtain rfl := List.mem_singleton.1 h; exact hr)
            have KT := fun w => refText_any p w hr
            rw [hr] at KR
            have hz := textS_len p (by have := rightB_true hr; omega) (by have := rightB_true hr; omega)
            have htl := tail_len (s.l.take k) HA.out
            rw [List.length_take, HNN.out] at htl
            have hts : (tx (L ++ tailT (s.l.take k))).size ≤ 200 := by rw [tx_size, List.length_append]; omega
            have hps : (tx (textS p)).size ≤ 22 := by rw [tx_size]; exact hz.1
            have hq1 : tx (L ++ tailT (s.l.take k)) ++ ⟨#[32]⟩ = tx (L ++ tailT (s.l.take k) ++ [32]) := by
              have : (⟨#[32]⟩ : ByteArray) = tx [32] := rfl
              rw [this, tx_append]
            have hqs : (tx (L ++ tailT (s.l.take k) ++ [32])).size ≤ 201 := by rw [tx_size, List.length_append]; rw [tx_size] at hts; simp; simp at hts; omega
            have hq2 : tx (L ++ tailT (s.l.take k) ++ [32]) ++ tx (textS p) = tx (L ++ tailT (s.l.take (k + 1))) := by rw [tx_append, HT.out, tail_snoc]; simp
            obtain ⟨R, hR⟩ : ∃ R, tx (L ++ tailT (s.l.take (k + 1))) = R := ⟨_, rfl⟩
            rw [hR] at hq2
            have HRR2 := Lib.hid hR
            clear hR
            generalize tx (L ++ tailT (s.l.take k) ++ [32]) = Q at *
            generalize tx (L ++ tailT (s.l.take k)) = T at *
            generalize tx (textS p) = S at *
            have e0 := fun w' (hb : Below u.now.heap.size u.now w') => bl_cell hb d0
            have e1 := fun w' (hb : Below u.now.heap.size u.now w') => bl_cell hb d1
            have e2 := fun w' (hb : Below u.now.heap.size u.now w') => bl_cell hb d2
            have e3 := fun w' (hb : Below u.now.heap.size u.now w') => bl_cell hb s2
            have HE0 := Lib.hid e0; have HE1 := Lib.hid e1; have HE2 := Lib.hid e2; have HE3 := Lib.hid e3
            obtain ⟨pd, pn, pu⟩ := p
            simp only at d0 d1 d2 KR KT HE0 HE1 HE2
            have HR := Lib.hid KR; have HTx := Lib.hid KT
            clear KR KT hc hp hr hmem htl hz e0 e1 e2 e3
            go_wp2_with fail
            refine (HR.out _).mono ?_
            rintro e w5 ⟨rfl, hb5⟩
            have B5 := Lib.hid (up_trans u.up hb5)
            have g0 := HE0.out _ hb5; have g1 := HE1.out _ hb5; have g2 := HE2.out _ hb5; have g3 := HE3.out _ hb5
            clear hb5 d0 d1 d2 s2
            go_wp2_with fail
            refine (HTx.out _).mono ?_
            rintro e w6 ⟨rfl, hb6⟩
            have B6 := Lib.hid (up_trans B5.out hb6)
            clear hb6 g0 g1 g2 g3
            go_wp2
            go_roundw
            case rel => exact ⟨k + 1, by omega, by rw [HRR2.out], by go_num, HA2, ⟨_, B6.out⟩, rfl⟩
            case measure => simp [intOf]; omega
        · obtain rfl : k = n := by omega
          have hall : s.l.take k = s.l := List.take_of_length_le (by rw [HNN.out]; omega)
          have E := Lib.hid (show F = (tx (L ++ tailT (s.l.take k)), true) by
            rw [HF.out, if_pos, hall]
            rw [List.all_eq_true]
            rw [hall] at HA
            exact HA.out)
          generalize tx (L ++ tailT (s.l.take k)) = T at *
          clear hall
          go_wp2
          go_ret2
          exact ⟨by rw [E.out]; rfl, up_trans B3.out u.up⟩

theorem refPut2 (n : Int) (w : World) (n0 : -9223372036854775808 ≤ n) (n1 : n ≤ 9223372036854775807) : Calls Tryz.prog 14 #[.int .i64 n] w fun e w' => e = .returned (.string (tx (Lib.itoa n))) ∧ w = w' := refPut_any n w n0 n1
theorem pan_none {c r : Int} : (panM c r == 0) = !(sideB c && sideB r) := by
  cases h : (sideB c && sideB r)
  · unfold panM; rw [h]; rfl
  · have := pan_in h
    unfold panM
    rw [h, if_pos rfl, Bool.not_true, beq_eq_false_iff_ne]
    omega
theorem refSchPut_any (s : Sc) (a : Option Addr) (cap : Nat) (w : World) (h : InL w a s.l) :
    Calls Tryz.prog 23 #[.agg #[.int .i64 s.c, .int .i64 s.r, .slice a s.l.length cap]] w fun e w' => e = .returned (.tuple #[.string (putT s), .bool (putM s).isSome]) ∧ Below w.heap.size w w' := by
  cases hn : nameM s with
  | some n =>
    have := refPut_named s a cap w h (by rw [hn]; simp)
    have e : (putM s).isSome = true := by unfold putM; rw [hn]; rfl
    rw [e]
    exact this
  | none =>
    have hne : ∀ e ∈ catS, e.2 ≠ s := by
      intro e he h2
      have := (find_of_mem (n := e.1) (s := e.2) he).2
      rw [h2, hn] at this
      cases this
    have KP := fun w => refPanels_any s.c s.r a s.l.length cap w
    have ht : putT s = tellT s ∧ (putM s).isSome = toldB s := by
      unfold putT putM
      rw [hn]
      cases hb : toldB s <;> simp [tellM, tellT, hb]
    rw [ht.1, ht.2]
    have hpn := @pan_none s.c s.r
    by_cases hb : sideB s.c = true ∧ sideB s.r = true ∧ s.l.length ≤ 6
    · obtain ⟨h1, h2, h6⟩ := hb
      have c1 := sideB_true h1
      have r1 := sideB_true h2
      have hx : (⟨#[120]⟩ : ByteArray) = tx [120] := rfl
      rw [h1, h2] at hpn
      refine (refPut_told s a cap w h hne _ hpn h6 (tx (headT s)) (tx (Lib.itoa s.c)) (tx (Lib.itoa s.r)) (tx (Lib.itoa s.c ++ [120])) (tellT s, toldB s) (by rw [hx, tx_append]) (by rw [tx_append]; simp [headT]) (itoa_size _ (by omega) (by omega)) (itoa_size _ (by omega) (by omega)) ?_ (headT s) rfl ?_ ?_ KP (fun w => refPut2 s.c w (by omega) (by omega)) (fun w => refPut2 s.r w (by omega) (by omega))).mono ?_
      · have := itoa_len s.c (by omega) (by omega)
        rw [tx_size, List.length_append, List.length_singleton]
        omega
      · have := itoa_len s.c (by omega) (by omega)
        have := itoa_len s.r (by omega) (by omega)
        unfold headT
        simp only [List.length_append, List.length_cons]
        omega
      · unfold tellT toldB
        rw [h1, h2]
        simp only [Bool.and_self, Bool.true_and, decide_eq_true h6]
        split
        · rename_i e; rw [e]
        · rename_i e; simp [e]
      · rintro e w' ⟨rfl, hb⟩
        exact ⟨rfl, hb⟩
    · have ht : toldB s = false := by
        rw [← Bool.not_eq_true]
        intro h2
        unfold toldB at h2
        simp only [Bool.and_eq_true, decide_eq_true_eq] at h2
        exact hb ⟨h2.1.1, h2.1.2, h2.2.1⟩
      unfold tellT
      rw [ht]
      refine refPut_bad s a cap w h hne _ _ _ hpn rfl ?_ KP
      by_cases h1 : sideB s.c = true
      · by_cases h2 : sideB s.r = true
        · right
          have : ¬ s.l.length ≤ 6 := fun h6 => hb ⟨h1, h2, h6⟩
          simp; omega
        · left; simp [h1, h2]
      · left; simp [h1]
end Go.Proofs.YtenigkjonegdmaaGreatDoor
/- What gatherumref09.Word and Find answer: for every table, number and text. -/
namespace Go.Proofs.YtenigkjonegdmaaGreatDoor
open Go.RowKit
set_option linter.unusedVariables false

theorem refWord_1 (n : Int) (w : World) :
    Calls Tryz.prog 25 #[.int .i64 1, .int .i64 n] w fun e w' => e = .returned (.string (word (tab 1) n)) ∧ Below w.heap.size w w' := by
  by_cases h1 : n < 1
  · rw [word_low h1]
    go_enter Tryz.func25, Tryz.ntmps25
    go_wp2
    go_ret
    exact ⟨rfl, up_alloc (up_alloc (Below.refl _ _) _) _⟩
  by_cases h2 : 4 < n
  · rw [word_high (l := tab 1) h2]
    go_enter Tryz.func25, Tryz.ntmps25
    go_wp2
    go_ret
    exact ⟨rfl, up_alloc (up_alloc (Below.refl _ _) _) _⟩
  obtain rfl | rfl | rfl | rfl : n = 1 ∨ n = 2 ∨ n = 3 ∨ n = 4 := by omega
  all_goals
    go_enter Tryz.func25, Tryz.ntmps25
    go_wp2
    go_ret
    exact ⟨rfl, up_alloc (up_alloc (Below.refl _ _) _) _⟩
theorem refWord_2 (n : Int) (w : World) :
    Calls Tryz.prog 25 #[.int .i64 2, .int .i64 n] w fun e w' => e = .returned (.string (word (tab 2) n)) ∧ Below w.heap.size w w' := by
  by_cases h1 : n < 1
  · rw [word_low h1]
    go_enter Tryz.func25, Tryz.ntmps25
    go_wp2
    go_ret
    exact ⟨rfl, up_alloc (up_alloc (Below.refl _ _) _) _⟩
  by_cases h2 : 4 < n
  · rw [word_high (l := tab 2) h2]
    go_enter Tryz.func25, Tryz.ntmps25
    go_wp2
    go_ret
    exact ⟨rfl, up_alloc (up_alloc (Below.refl _ _) _) _⟩
  obtain rfl | rfl | rfl | rfl : n = 1 ∨ n = 2 ∨ n = 3 ∨ n = 4 := by omega
  all_goals
    go_enter Tryz.func25, Tryz.ntmps25
    go_wp2
    go_ret
    exact ⟨rfl, up_alloc (up_alloc (Below.refl _ _) _) _⟩
theorem refWord_3 (n : Int) (w : World) :
    Calls Tryz.prog 25 #[.int .i64 3, .int .i64 n] w fun e w' => e = .returned (.string (word (tab 3) n)) ∧ Below w.heap.size w w' := by
  by_cases h1 : n < 1
  · rw [word_low h1]
    go_enter Tryz.func25, Tryz.ntmps25
    go_wp2
    go_ret
    exact ⟨rfl, up_alloc (up_alloc (Below.refl _ _) _) _⟩
  by_cases h2 : 4 < n
  · rw [word_high (l := tab 3) h2]
    go_enter Tryz.func25, Tryz.ntmps25
    go_wp2
    go_ret
    exact ⟨rfl, up_alloc (up_alloc (Below.refl _ _) _) _⟩
  obtain rfl | rfl | rfl | rfl : n = 1 ∨ n = 2 ∨ n = 3 ∨ n = 4 := by omega
  all_goals
    go_enter Tryz.func25, Tryz.ntmps25
    go_wp2
    go_ret
    exact ⟨rfl, up_alloc (up_alloc (Below.refl _ _) _) _⟩
theorem refWord_4 (n : Int) (w : World) :
    Calls Tryz.prog 25 #[.int .i64 4, .int .i64 n] w fun e w' => e = .returned (.string (word (tab 4) n)) ∧ Below w.heap.size w w' := by
  by_cases h1 : n < 1
  · rw [word_low h1]
    go_enter Tryz.func25, Tryz.ntmps25
    go_wp2
    go_ret
    exact ⟨rfl, up_alloc (up_alloc (Below.refl _ _) _) _⟩
  by_cases h2 : 7 < n
  · rw [word_high (l := tab 4) h2]
    go_enter Tryz.func25, Tryz.ntmps25
    go_wp2
    go_ret
    exact ⟨rfl, up_alloc (up_alloc (Below.refl _ _) _) _⟩
  obtain rfl | rfl | rfl | rfl | rfl | rfl | rfl : n = 1 ∨ n = 2 ∨ n = 3 ∨ n = 4 ∨ n = 5 ∨ n = 6 ∨ n = 7 := by omega
  all_goals
    go_enter Tryz.func25, Tryz.ntmps25
    go_wp2
    go_ret
    exact ⟨rfl, up_alloc (up_alloc (Below.refl _ _) _) _⟩

theorem refWord_any (t n : Int) (w : World) :
    Calls Tryz.prog 25 #[.int .i64 t, .int .i64 n] w fun e w' => e = .returned (.string (word (tab t) n)) ∧ Below w.heap.size w w' := by
  by_cases h1 : t = 1
  · subst h1; exact refWord_1 n w
  by_cases h2 : t = 2
  · subst h2; exact refWord_2 n w
  by_cases h3 : t = 3
  · subst h3; exact refWord_3 n w
  by_cases h4 : t = 4
  · subst h4; exact refWord_4 n w
  rw [tab_none h1 h2 h3 h4]
  have e1 : (t == 1) = false := by simpa using h1
  have e2 : (t == 2) = false := by simpa using h2
  have e3 : (t == 3) = false := by simpa using h3
  have e4 : (t == 4) = false := by simpa using h4
  by_cases h1 : n < 1
  · rw [word_low h1]
    go_enter Tryz.func25, Tryz.ntmps25
    go_wp2
    go_ret
    exact ⟨rfl, up_alloc (Below.refl _ _) _⟩
  · have h2 : 0 < n := by omega
    rw [word_high (l := []) h2]
    go_enter Tryz.func25, Tryz.ntmps25
    go_wp2
    go_ret
    exact ⟨rfl, up_alloc (Below.refl _ _) _⟩

def WordsFindRel (M : Nat) (w : World) (x : Value) (wr : World) : Prop := ∃ j : Nat, j ≤ M ∧ x = .int .i64 ((j : Int) + 1) ∧ ∃ u : Later w, wr = u.now
theorem word_in {l : List ByteArray} {n : Int} (h : word l n ≠ ⟨#[]⟩) : word l n ∈ l := by
  unfold word at *
  split at h
  · rename_i h1
    rw [if_pos h1]
    cases e : l[(n - 1).toNat]? with
    | none => rw [e] at h; exact absurd rfl h
    | some b => exact List.mem_of_getElem? e
  · exact absurd rfl h

end Go.Proofs.YtenigkjonegdmaaGreatDoor
/- What the reference's Put of tickets answers where a job can't be told. -/
namespace Go.Proofs.YtenigkjonegdmaaGreatDoor
open Go.RowKit
set_option linter.unusedVariables false
set_option linter.unusedSimpArgs false

theorem tellB_eq (j : Jb) : tellB j = ((quoteO j.t).isSome && (putM j.f).isSome && !decide (60 < j.t.length) && (decide (j.ls.length ≤ 4) && namesB j.ls) && !((word (tab 1) (j.n 10)).toList == []) && !((word (tab 2) (j.n 11)).toList == [])) := by
  have hw : ∀ b : ByteArray, decide (b ≠ ⟨#[]⟩) = !(b.toList == []) := fun b => by
    rw [← tx_data b, toList_none, decide_not]
    congr 1
    rw [Bool.eq_iff_iff]
    simp only [decide_eq_true_eq]
    exact ⟨fun h => tx_inj h, fun h => by rw [h]; rfl⟩
  rw [← hw, ← hw]
  unfold tellB
  by_cases h : 60 < j.t.length <;> simp [keyL, prtM, wprM, h, Bool.and_comm, Bool.and_assoc, Bool.and_left_comm]

set_option maxHeartbeats 2000000 in
set_option maxRecDepth 100000 in
theorem refTPut_bad (cs : List Value) (T Q F W1 W2 : ByteArray) (a b b3 b4 b5 b6 : Bool) (n10 n11 c r : Int) (sa : Option Addr) (sl sc : Nat) (la : Option Addr) (ll lc : Nat) (w : World) (hl : cs.length = 33)
    (h0 : cs[0]? = some (.string T)) (h11 : cs[11]? = some (.int .i64 n10)) (h12 : cs[12]? = some (.int .i64 c)) (h13 : cs[13]? = some (.int .i64 r)) (h14 : cs[14]? = some (.slice sa sl sc)) (h15 : cs[15]? = some (.slice la ll lc)) (h16 : cs[16]? = some (.int .i64 n11))
    (KQ : ∀ w1, Calls Tryz.prog 22 #[.string T] w1 fun e w' => e = .returned (.tuple #[.string Q, .bool a]) ∧ Below w1.heap.size w1 w')
    (KF : ∀ w1, Below w.heap.size w w1 → Calls Tryz.prog 23 #[.agg #[.int .i64 c, .int .i64 r, .slice sa sl sc]] w1 fun e w' => e = .returned (.tuple #[.string F, .bool b]) ∧ Below w1.heap.size w1 w')
    (KN : ∀ w1, Below w.heap.size w w1 → Calls Tryz.prog 24 #[.slice la ll lc] w1 fun e w' => e = .returned (.bool b4) ∧ w' = w1)
    (K1 : ∀ w1, Calls Tryz.prog 25 #[.int .i64 1, .int .i64 n10] w1 fun e w' => e = .returned (.string W1) ∧ Below w1.heap.size w1 w')
    (K2 : ∀ w1, Calls Tryz.prog 25 #[.int .i64 2, .int .i64 n11] w1 fun e w' => e = .returned (.string W2) ∧ Below w1.heap.size w1 w')
    (e3 : decide ((60 : Int) < (T.size : Int)) = b3) (e5 : (W1.toList == []) = b5) (e6 : (W2.toList == []) = b6)
    (hbad : (a && b && !b3 && b4 && !b5 && !b6) = false) :
    Calls Tryz.prog 8 #[.agg cs.toArray] w fun e w' => e = .returned (.tuple #[.string ⟨#[]⟩, .bool false]) ∧ Below w.heap.size w w' := by
  have HX := Lib.hid (Bx.new w 29 cs)
  have HB := Lib.hid (up_alloc (Below.refl w.heap.size w) (.cells cs.toArray 29))
  have HL := Lib.hid hl
  have KQ := Lib.hid KQ; have KF := Lib.hid KF; have KN := Lib.hid KN; have K1 := Lib.hid K1; have K2 := Lib.hid K2
  have h0 := Lib.hid h0; have h11 := Lib.hid h11; have h12 := Lib.hid h12; have h13 := Lib.hid h13; have h14 := Lib.hid h14; have h15 := Lib.hid h15; have h16 := Lib.hid h16
  have HBad := Lib.hid hbad
  clear hbad
  go_enter Tryz.func8, Tryz.ntmps8
  have c0 := HX.out.cell 0 h0.out
  go_wp2_with fail
  refine (KQ.out _).mono ?_
  rintro e w2 ⟨rfl, hb⟩
  have HX2 := Lib.hid (HX.out.later (by rw [HL.out]; decide) hb)
  have HB2 := Lib.hid (up_trans HB.out hb)
  clear hb c0
  have c12 := HX2.out.cell 12 h12.out; have c13 := HX2.out.cell 13 h13.out; have c14 := HX2.out.cell 14 h14.out
  go_wp2_with fail
  refine (KF.out _ HB2.out).mono ?_
  rintro e w3 ⟨rfl, hb⟩
  have HX3 := Lib.hid (HX2.out.later (by rw [HL.out]; decide) hb)
  have HB3 := Lib.hid (up_trans HB2.out hb)
  clear hb c12 c13 c14
  have d0 := HX3.out.cell 0 h0.out
  have d15 := HX3.out.cell 15 h15.out
  have d11 := HX3.out.cell 11 h11.out
  cases a
  · go_wp2
    go_ret2
    exact ⟨rfl, HB3.out⟩
  cases b
  · go_wp2
    go_ret2
    exact ⟨rfl, HB3.out⟩
  cases b3
  · cases b4
    · go_wp2_with fail
      refine (KN.out _ HB3.out).mono ?_
      rintro e w4 ⟨rfl, rfl⟩
      go_wp2
      go_ret2
      exact ⟨rfl, HB3.out⟩
    · go_wp2_with fail
      refine (KN.out _ HB3.out).mono ?_
      rintro e w4 ⟨rfl, rfl⟩
      go_wp2_with fail
      refine (K1.out _).mono ?_
      rintro e w5 ⟨rfl, hb⟩
      have HX5 := Lib.hid (HX3.out.later (by rw [HL.out]; decide) hb)
      have HB5 := Lib.hid (up_trans HB3.out hb)
      clear hb d0 d15 d11
      cases b5
      · have d16 := HX5.out.cell 16 h16.out
        cases b6
        · exact absurd HBad.out (by decide)
        · go_wp2_with fail
          refine (K2.out _).mono ?_
          rintro e w6 ⟨rfl, hb⟩
          have HB6 := Lib.hid (up_trans HB5.out hb)
          clear hb d16
          go_wp2
          go_ret2
          exact ⟨rfl, HB6.out⟩
      · go_wp2
        go_ret2
        exact ⟨rfl, HB5.out⟩
  · go_wp2
    go_ret2
    exact ⟨rfl, HB3.out⟩
end Go.Proofs.YtenigkjonegdmaaGreatDoor
/- What the reference's Put of tickets answers. -/
namespace Go.Proofs.YtenigkjonegdmaaGreatDoor
open Go.RowKit
set_option linter.unusedVariables false
set_option linter.unusedSimpArgs false

theorem join_flat : ∀ (l : List (List UInt8)), l ≠ [] → 32 :: joinM l = l.flatMap fun p => 32 :: p
  | [], h => absurd rfl h
  | [p], _ => by simp [joinM]
  | p :: q :: r, _ => by
    have := join_flat (q :: r) (by simp)
    rw [List.flatMap_cons, ← this]
    simp [joinM]
/-- What stands behind a key's word, ahead of the line feed. -/
def restT (j : Jb) (x : Ky) : List UInt8 := (prtM x j).1.flatMap fun p => 32 :: p
theorem rest_nil {j : Jb} {x : Ky} : restT j x = [] ↔ (prtM x j).1 = [] := by
  unfold restT
  rw [List.flatMap_eq_nil_iff]
  refine ⟨fun h => ?_, fun h => by rw [h]; simp⟩
  cases hp : (prtM x j).1 with
  | nil => rfl
  | cons a l => exact absurd (h a (by rw [hp]; simp)) (by simp)
theorem line_rest {j : Jb} {x : Ky} (hx : x ∈ keyL) (ht : (prtM x j).2 = true) : lineT j x = if restT j x = [] then [] else x.w ++ restT j x ++ [10] := by
  have h5 := prt_empty (j := j) hx ht
  unfold lineT
  by_cases h0 : (prtM x j).1 = []
  · rw [if_pos ⟨h0, h5 h0⟩, if_pos (rest_nil.2 h0)]
  · rw [if_neg (fun h => h0 h.1), if_neg (fun h => h0 (rest_nil.1 h)), join_flat _ h0]
    rfl
theorem rest_len {j : Jb} (hw : WfJ j) {x : Ky} (hx : x ∈ keyL) (ht : (prtM x j).2 = true) (B : Nat) (hB : ∀ p ∈ j.ls, p.length ≤ B) : (restT j x).length ≤ 7 * (201 + B) := by
  obtain ⟨h1, h2⟩ := prt_len hw hx ht B hB
  have := flat_len (fun p : List UInt8 => 32 :: p) (201 + B) (prtM x j).1 fun q hq => by
    have := h2 q hq
    rw [List.length_cons]
    omega
  unfold restT
  exact Nat.le_trans this (Nat.mul_le_mul_right _ h1)
theorem kind_at {k : Nat} {x : Ky} (h : keyL[k]? = some x) : (k = 0 ∧ x.d = 0) ∨ (k = 6 ∧ x.d = 2 ∧ x.f = 10) ∨ (k = 7 ∧ x.d = 4) ∨ (k = 8 ∧ x.d = 5) ∨ (k = 9 ∧ x.d = 3 ∧ x.f = 11) ∨ (k ≠ 0 ∧ k ≠ 6 ∧ k ≠ 7 ∧ k ≠ 8 ∧ k ≠ 9 ∧ x.d = 1) := by
  have hi : k < 16 := (List.getElem?_eq_some_iff.1 h).1
  have hw : k = 0 ∨ k = 1 ∨ k = 2 ∨ k = 3 ∨ k = 4 ∨ k = 5 ∨ k = 6 ∨ k = 7 ∨ k = 8 ∨ k = 9 ∨ k = 10 ∨ k = 11 ∨ k = 12 ∨ k = 13 ∨ k = 14 ∨ k = 15 := by omega
  rcases hw with rfl | rfl | rfl | rfl | rfl | rfl | rfl | rfl | rfl | rfl | rfl | rfl | rfl | rfl | rfl | rfl <;> (obtain rfl := Option.some.inj h; decide)
theorem first_at (k : Nat) (hk : k < 16) : ∃ f t : Nat, (enc firstL)[k]? = some (.int .i64 (f : Int)) ∧ (enc firstL)[k + 1]? = some (.int .i64 (t : Int)) ∧ f ≤ t ∧ t ≤ 28 ∧ ∀ x, keyL[k]? = some x → x.d = 1 → f = x.f ∧ t = x.f + x.hi := by
  have hw : k = 0 ∨ k = 1 ∨ k = 2 ∨ k = 3 ∨ k = 4 ∨ k = 5 ∨ k = 6 ∨ k = 7 ∨ k = 8 ∨ k = 9 ∨ k = 10 ∨ k = 11 ∨ k = 12 ∨ k = 13 ∨ k = 14 ∨ k = 15 := by omega
  rcases hw with rfl | rfl | rfl | rfl | rfl | rfl | rfl | rfl | rfl | rfl | rfl | rfl | rfl | rfl | rfl | rfl
  · exact ⟨0, 0, rfl, rfl, by decide, by decide, fun x h => by obtain rfl := Option.some.inj h; decide⟩
  · exact ⟨0, 1, rfl, rfl, by decide, by decide, fun x h => by obtain rfl := Option.some.inj h; decide⟩
  · exact ⟨1, 3, rfl, rfl, by decide, by decide, fun x h => by obtain rfl := Option.some.inj h; decide⟩
  · exact ⟨3, 5, rfl, rfl, by decide, by decide, fun x h => by obtain rfl := Option.some.inj h; decide⟩
  · exact ⟨5, 6, rfl, rfl, by decide, by decide, fun x h => by obtain rfl := Option.some.inj h; decide⟩
  · exact ⟨6, 10, rfl, rfl, by decide, by decide, fun x h => by obtain rfl := Option.some.inj h; decide⟩
  · exact ⟨10, 11, rfl, rfl, by decide, by decide, fun x h => by obtain rfl := Option.some.inj h; decide⟩
  · exact ⟨11, 11, rfl, rfl, by decide, by decide, fun x h => by obtain rfl := Option.some.inj h; decide⟩
  · exact ⟨11, 11, rfl, rfl, by decide, by decide, fun x h => by obtain rfl := Option.some.inj h; decide⟩
  · exact ⟨11, 12, rfl, rfl, by decide, by decide, fun x h => by obtain rfl := Option.some.inj h; decide⟩
  · exact ⟨12, 14, rfl, rfl, by decide, by decide, fun x h => by obtain rfl := Option.some.inj h; decide⟩
  · exact ⟨14, 17, rfl, rfl, by decide, by decide, fun x h => by obtain rfl := Option.some.inj h; decide⟩
  · exact ⟨17, 20, rfl, rfl, by decide, by decide, fun x h => by obtain rfl := Option.some.inj h; decide⟩
  · exact ⟨20, 21, rfl, rfl, by decide, by decide, fun x h => by obtain rfl := Option.some.inj h; decide⟩
  · exact ⟨21, 24, rfl, rfl, by decide, by decide, fun x h => by obtain rfl := Option.some.inj h; decide⟩
  · exact ⟨24, 28, rfl, rfl, by decide, by decide, fun x h => by obtain rfl := Option.some.inj h; decide⟩
theorem words_at {k : Nat} {x : Ky} (h : keyL[k]? = some x) : wordsV[k]? = some (.string (tx x.w)) := by
  unfold wordsV
  rw [List.getElem?_map, h]
  rfl
theorem rest_title {j : Jb} {x : Ky} (hd : x.d = 0) (hl : ¬ 60 < j.t.length) {Q : List UInt8} (hq : quoteO j.t = some Q) : restT j x = 32 :: Q := by
  unfold restT prtM
  rw [if_pos hd, if_neg hl, hq]
  simp
theorem rest_word1 {j : Jb} {x : Ky} (hd : x.d = 2) (hf : x.f = 10) : restT j x = 32 :: (word (tab 1) (j.n 10)).data.toList := by
  unfold restT prtM
  rw [if_neg (by omega), if_pos hd, hf]
  simp [wprM]
theorem rest_word2 {j : Jb} {x : Ky} (hd : x.d = 3) (hf : x.f = 11) : restT j x = 32 :: (word (tab 2) (j.n 11)).data.toList := by
  unfold restT prtM
  rw [if_neg (by omega), if_neg (by omega), if_pos hd, hf]
  simp [wprM]
theorem rest_folds {j : Jb} {x : Ky} (hd : x.d = 4) {F : List UInt8} (hq : putM j.f = some F) : restT j x = 32 :: F := by
  unfold restT prtM
  rw [if_neg (by omega), if_neg (by omega), if_neg (by omega), if_pos hd, hq]
  simp
theorem rest_last {j : Jb} {x : Ky} (hd : x.d = 5) : restT j x = j.ls.flatMap fun p => 32 :: p := by
  unfold restT prtM
  rw [if_neg (by omega), if_neg (by omega), if_neg (by omega), if_neg (by omega), if_pos hd]
theorem rest_nums {j : Jb} {x : Ky} (hd : x.d = 1) : restT j x = numsT x.f x.hi j.n := by
  unfold restT prtM numsT
  rw [if_neg (by omega), if_neg (by omega), if_neg (by omega), if_neg (by omega), if_neg (by omega)]
theorem tx_blank (l : List UInt8) : (⟨#[32]⟩ : ByteArray) ++ tx l = tx (32 :: l) := by
  rw [show (⟨#[32]⟩ : ByteArray) = tx [32] from rfl, tx_append]
  rfl

/-- All keys' lines ahead of the k-th stand in the text. -/
def RefPutRel (j : Jb) (w5 : World) (v i : Value) (wr : World) : Prop :=
  ∃ k : Nat, k ≤ 16 ∧ i = .int .i64 (k : Int) ∧ v = .string (tx ((keyL.take k).flatMap (lineT j))) ∧ ∃ u : Later w5, wr = u.now
/-- The names ahead of the m-th stand in the line. -/
def RefLineRel (ls : List (List UInt8)) (N : Nat) (w5 : World) (v i : Value) (wr : World) : Prop :=
  ∃ m : Nat, m ≤ N ∧ i = .int .i64 (m : Int) ∧ v = .string (tx ((ls.take m).flatMap fun p => 32 :: p)) ∧ ∃ u : Later w5, wr = u.now
theorem names_flat {ls : List (List UInt8)} {m : Nat} {p : List UInt8} (h : ls[m]? = some p) : (ls.take (m + 1)).flatMap (fun p => 32 :: p) = (ls.take m).flatMap (fun p => 32 :: p) ++ 32 :: p := by
  rw [List.take_add_one, h, List.flatMap_append]
  simp
theorem names_flat_len {ls : List (List UInt8)} (B : Nat) (h : ∀ p ∈ ls, p.length ≤ B) (m : Nat) : ((ls.take m).flatMap fun p => 32 :: p).length ≤ m * (B + 1) := by
  have := flat_len (fun p : List UInt8 => 32 :: p) (B + 1) (ls.take m) fun q hq => by
    have := h q (List.mem_of_mem_take hq)
    rw [List.length_cons]
    omega
  refine Nat.le_trans this (Nat.mul_le_mul_right _ ?_)
  rw [List.length_take]
  omega
end Go.Proofs.YtenigkjonegdmaaGreatDoor
/- What the reference's Put of tickets answers, of every job. -/
namespace Go.Proofs.YtenigkjonegdmaaGreatDoor
open Go.RowKit
set_option linter.unusedVariables false
set_option linter.unusedSimpArgs false

theorem sum_three {P W L O : ByteArray} (h : P ++ W ++ L ++ (⟨#[10]⟩ : ByteArray) = O) (hP : P.size ≤ 12000000) (hW : W.size ≤ 7) (hL : L.size ≤ 1000000) : ∃ R1 R2, P ++ W = R1 ∧ R1 ++ L = R2 ∧ R2 ++ (⟨#[10]⟩ : ByteArray) = O ∧ R1.size ≤ 12000007 ∧ R2.size ≤ 13000007 :=
  ⟨P ++ W, P ++ W ++ L, rfl, rfl, h, by rw [ByteArray.size_append]; omega, by rw [ByteArray.size_append, ByteArray.size_append]; omega⟩
set_option maxHeartbeats 8000000 in
set_option maxRecDepth 100000 in
theorem refTPut_good (cs : List Value) (j : Jb) (Q F : List UInt8) (W1 W2 : ByteArray) (c r : Int) (sa : Option Addr) (sl sc : Nat) (la : Option Addr) (N lc B : Nat) (w : World) (hl : cs.length = 33)
    (h0 : cs[0]? = some (.string (tx j.t))) (hv : ∀ k, k < 28 → cs[cellJ k]? = some (.int .i64 (j.n k))) (h12 : cs[12]? = some (.int .i64 c)) (h13 : cs[13]? = some (.int .i64 r)) (h14 : cs[14]? = some (.slice sa sl sc)) (h15 : cs[15]? = some (.slice la N lc))
    (hN : j.ls.length = N) (hT : TxA w la lc j.ls) (hN4 : N ≤ 4) (hw : WfJ j) (hz : ∀ l ∈ j.ls, l.length ≤ B) (hB : B ≤ 100000) (ht : tellB j = true) (hq : quoteO j.t = some Q) (hp : putM j.f = some F) (ht60 : ¬ 60 < j.t.length)
    (hw1 : word (tab 1) (j.n 10) = W1) (hw2 : word (tab 2) (j.n 11) = W2) (e5 : (W1.toList == []) = false) (e6 : (W2.toList == []) = false) (hq9 : Q.length ≤ 1000) (hF9 : F.length ≤ 1000) (hW19 : W1.size ≤ 1000) (hW29 : W2.size ≤ 1000)
    (KF : ∀ w1, Below w.heap.size w w1 → Calls Tryz.prog 23 #[.agg #[.int .i64 c, .int .i64 r, .slice sa sl sc]] w1 fun e w' => e = .returned (.tuple #[.string (tx F), .bool true]) ∧ Below w1.heap.size w1 w')
    (KN : ∀ w1, Below w.heap.size w w1 → Calls Tryz.prog 24 #[.slice la N lc] w1 fun e w' => e = .returned (.bool true) ∧ w' = w1) :
    Calls Tryz.prog 8 #[.agg cs.toArray] w fun e w' => e = .returned (.tuple #[.string (tx (textJ j)), .bool true]) ∧ Below w.heap.size w w' := by
  have KQ := fun w1 => refQuote_any j.t w1 (by omega)
  unfold GivesQ at KQ
  rw [hq] at KQ
  simp only [Option.getD_some, Option.isSome_some] at KQ
  have K1 := fun w1 => refWord_any 1 (j.n 10) w1
  have K2 := fun w1 => refWord_any 2 (j.n 11) w1
  rw [hw1] at K1
  rw [hw2] at K2
  have e3 : decide ((60 : Int) < ((tx j.t).size : Int)) = false := by rw [tx_size]; exact decide_eq_false (by omega)
  have HX := Lib.hid (Bx.new w 29 cs)
  have HB := Lib.hid (up_alloc (Below.refl w.heap.size w) (.cells cs.toArray 29))
  have HL := Lib.hid hl
  replace h0 := Lib.hid h0; have h11 := Lib.hid (show cs[11]? = some (.int .i64 (j.n 10)) from hv 10 (by decide)); replace h12 := Lib.hid h12; replace h13 := Lib.hid h13; replace h14 := Lib.hid h14; replace h15 := Lib.hid h15; have h16 := Lib.hid (show cs[16]? = some (.int .i64 (j.n 11)) from hv 11 (by decide))
  have HNum := Lib.hid (fun f t w1 h1 h2 => refNumbers_any cs j.n f t w1 hl hv h1 h2 hw)
  replace KQ := Lib.hid KQ; replace KF := Lib.hid KF; replace KN := Lib.hid KN; replace K1 := Lib.hid K1; replace K2 := Lib.hid K2
  have HT := Lib.hid hT; have HTl := Lib.hid ht; have HQ := Lib.hid hq; have HP := Lib.hid hp; have HW1 := Lib.hid hw1; have HW2 := Lib.hid hw2; have HNl := Lib.hid hN; have HWf := Lib.hid hw; have HZ := Lib.hid hz
  obtain ⟨T, hTe⟩ : ∃ T, tx j.t = T := ⟨_, rfl⟩
  obtain ⟨Qb, hQb⟩ : ∃ Qb, tx Q = Qb := ⟨_, rfl⟩
  obtain ⟨Fb, hFb⟩ : ∃ Fb, tx F = Fb := ⟨_, rfl⟩
  have hQz : Qb.size ≤ 1000 := by rw [← hQb, tx_size]; exact hq9
  have hFz : Fb.size ≤ 1000 := by rw [← hFb, tx_size]; exact hF9
  rw [hTe] at h0 KQ e3
  rw [hQb] at KQ
  rw [hFb] at KF
  have HQb := Lib.hid hQb; have HFb := Lib.hid hFb
  obtain ⟨n10, hn10⟩ : ∃ n, j.n 10 = n := ⟨_, rfl⟩
  obtain ⟨n11, hn11⟩ : ∃ n, j.n 11 = n := ⟨_, rfl⟩
  rw [hn10] at h11 K1
  rw [hn11] at h16 K2
  clear hv hT ht hq hp hw1 hw2 hw hz hTe hQb hFb hN hn10 hn11 hl
  go_enter Tryz.func8, Tryz.ntmps8
  have c0 := HX.out.cell 0 h0.out
  go_wp2_with fail
  refine (KQ.out _).mono ?_
  rintro e w2 ⟨rfl, hb⟩
  have HX2 := Lib.hid (HX.out.later (by rw [HL.out]; decide) hb)
  have HB2 := Lib.hid (up_trans HB.out hb)
  clear hb c0
  have c12 := HX2.out.cell 12 h12.out; have c13 := HX2.out.cell 13 h13.out; have c14 := HX2.out.cell 14 h14.out
  go_wp2_with fail
  refine (KF.out _ HB2.out).mono ?_
  rintro e w3 ⟨rfl, hb⟩
  have HX3 := Lib.hid (HX2.out.later (by rw [HL.out]; decide) hb)
  have HB3 := Lib.hid (up_trans HB2.out hb)
  clear hb c12 c13 c14
  have d0 := HX3.out.cell 0 h0.out
  have d15 := HX3.out.cell 15 h15.out
  have d11 := HX3.out.cell 11 h11.out
  go_wp2_with fail
  refine (KN.out _ HB3.out).mono ?_
  rintro e w4 ⟨rfl, rfl⟩
  go_wp2_with fail
  refine (K1.out _).mono ?_
  rintro e w5 ⟨rfl, hb⟩
  have HX5 := Lib.hid (HX3.out.later (by rw [HL.out]; decide) hb)
  have HB5 := Lib.hid (up_trans HB3.out hb)
  clear hb d0 d15 d11
  have d16 := HX5.out.cell 16 h16.out
  go_wp2_with fail
  refine (K2.out _).mono ?_
  rintro e w6 ⟨rfl, hb⟩
  have HX6 := Lib.hid (HX5.out.later (by rw [HL.out]; decide) hb)
  have HB6 := Lib.hid (up_trans HB5.out hb)
  clear hb d16
  go_wp2_with fail
  refine (refKeys_any _).mono ?_
  rintro e w7 ⟨gk, rfl, -, hk, hb⟩
  have HX7 := Lib.hid (HX6.out.later (by rw [HL.out]; decide) hb)
  have HB7 := Lib.hid (up_trans HB6.out hb)
  have HK7 := Lib.hid hk
  clear hb hk
  go_wp2_with fail
  refine (refPlaces_any _).mono ?_
  rintro e w8 ⟨gp, rfl, -, hk, hb⟩
  have HX8 := Lib.hid (HX7.out.later (by rw [HL.out]; decide) hb)
  have HB8 := Lib.hid (up_trans HB7.out hb)
  have HK8 := Lib.hid (HK7.out.later (by decide) hb)
  have HP8 := Lib.hid hk
  have HRg := Lib.hid (later_range HX8.out (by rw [HL.out]; decide))
  have HT8 := Lib.hid (HT.out.up HB8.out)
  clear hb hk HX HX2 HX3 HX5 HX6 HX7 HB HB2 HB3 HB5 HB6 HB7 HK7 HT KQ KF KN
  go_wp2
  go_loopw [8, 11] (fun v i wr => RefPutRel j w8 v i wr) (fun _ i _ => 16 - (intOf i).toNat)
  case atStart => exact ⟨0, by omega, by go_num, rfl, ⟨w8, Below.refl _ _⟩, rfl⟩
  case round =>
    obtain ⟨k, hk, rfl, rfl, u, rfl⟩ := hrel
    by_cases hlt : k < 16
    · obtain ⟨x, hx⟩ : ∃ x, keyL[k]? = some x := ⟨keyL[k]'(by rw [keyL_length]; exact hlt), List.getElem?_eq_getElem _⟩
      have hxm := List.mem_of_getElem? hx
      have htx : (prtM x j).2 = true := by
        have := HTl.out
        unfold tellB at this
        exact List.all_eq_true.1 this x hxm
      obtain ⟨f, t, p1, p2, hft, ht28, hft1⟩ := first_at k hlt
      have qa := HK8.out.cell k (words_at hx); have q1 := HP8.out.cell k p1; have q2 := HP8.out.cell (k + 1) p2
      have z0 : (0 : Int) ≤ (k : Int) := by omega
      have z1 : (k : Int) < 16 := by omega
      have z2 : IntKind.i64.wrap ((k : Int) + 1) = ((k + 1 : Nat) : Int) := IntWalk.i64_in _ (by omega)
      have HLn := Lib.hid (rest_len HWf.out hxm htx B HZ.out)
      have HLR := line_rest hxm htx
      have HNe := Lib.hid (fun h => prt_empty hxm htx (rest_nil.1 h))
      have hfl := flat_next j hx
      have hfz := flat_short HWf.out B HZ.out k (fun y hy => by
        have := HTl.out
        unfold tellB at this
        exact List.all_eq_true.1 this y (List.mem_of_mem_take hy))
      have hwz := (key_places x hxm).2.2.2.2
      have KNu := fun w1 => HNum.out f t w1 hft ht28
      have Hnx := Lib.hid (numsT_len HWf.out f (t - f))
      obtain ⟨L0, hL0⟩ : ∃ L0, tx (numsT f (t - f) j.n) = L0 := ⟨_, rfl⟩
      have hL0z : L0.size ≤ 600 := by rw [← hL0, tx_size]; have := Hnx.out; omega
      rw [hL0] at KNu
      have HKN := Lib.hid KNu
      have HL0 := Lib.hid hL0
      have HK := Lib.hid (kind_at hx)
      have Hft := Lib.hid (hft1 x hx)
      obtain ⟨W, hW⟩ : ∃ W, tx x.w = W := ⟨_, rfl⟩
      have hWz : W.size ≤ 7 := by rw [← hW, tx_size]; exact hwz
      rw [hW] at qa
      obtain ⟨fl, hfle⟩ : ∃ fl, (keyL.take k).flatMap (lineT j) = fl := ⟨_, rfl⟩
      rw [hfle] at hfl hfz
      obtain ⟨P, hP⟩ : ∃ P, tx fl = P := ⟨_, rfl⟩
      have hPz : P.size ≤ 16 * (9 + 7 * (201 + B)) := by rw [← hP, tx_size]; exact hfz
      have hPz2 : P.size ≤ 12000000 := by omega
      rw [hfle, hP]
      -- the sum, where the line has something; where it has nothing
      have HS := Lib.hid (show ∀ L : ByteArray, L = tx (restT j x) → (L.toList == []) = false → P ++ W ++ L ++ (⟨#[10]⟩ : ByteArray) = tx ((keyL.take (k + 1)).flatMap (lineT j)) from fun L h1 h2 => by
        have h3 : restT j x ≠ [] := by
          intro h
          rw [h1, toList_none, h] at h2
          simp at h2
        rw [hfl, HLR, if_neg h3, h1, ← hP, ← hW, show (⟨#[10]⟩ : ByteArray) = tx [10] from rfl, tx_append, tx_append, tx_append]
        congr 1
        simp)
      have HS0 := Lib.hid (show restT j x = [] → P = tx ((keyL.take (k + 1)).flatMap (lineT j)) from fun h => by
        rw [hfl, HLR, if_pos h, List.append_nil, hP])
      have HLz := Lib.hid (show ∀ L : ByteArray, L = tx (restT j x) → L.size ≤ 1000000 from fun L h => by
        rw [h, tx_size]
        have := HLn.out
        omega)
      clear hfl HLR hfz hL0 hW hP hfle KNu hft1 hPz hx htx
      have HQ0 := Lib.hid (fun u : Later w8 => u.cell qa)
      have j1 := fun u : Later w8 => u.cell q1
      have j2 := fun u : Later w8 => u.cell q2
      clear q1 q2 qa
      obtain ⟨O, hO⟩ : ∃ O, tx ((keyL.take (k + 1)).flatMap (lineT j)) = O := ⟨_, rfl⟩
      rw [hO] at HS HS0
      have HO := Lib.hid hO
      clear hO
      go_wp2_with fail
      refine wp_region_later (by kernel_rfl) (by kernel_rfl) ?_
      repeat (first
        | (go_big_quiet_want; refine quiet_load_job _ rfl w.heap.size rfl cs HL.out HRg.out ?_; simp only [Act.put, List.setIfInBounds_toArray, List.set_cons_succ, List.set_cons_zero]; go_big_quiet_on)
        | go_big_quiet_step ((go_at_call 28; with_reducible exact Later.call (HKN.out _))))
      refine wpQuiet_nil ?_
      rintro _ ⟨u2, rfl⟩
      clear j1 j2
      have q0 := HQ0.out u2
      rcases HK.out with ⟨h, hd⟩ | ⟨h, hd, hf⟩ | ⟨h, hd⟩ | ⟨h, hd⟩ | ⟨h, hd, hf⟩ | ⟨h0, h6, h7, h8, h9, hd⟩
      · -- 0
          have g0 : ((k : Int) == 0) = true := by simp; omega
          obtain ⟨L, hL⟩ : ∃ L, (⟨#[32]⟩ : ByteArray) ++ Qb = L := ⟨_, rfl⟩
          have HE := Lib.hid (show L = tx (restT j x) by rw [← hL, rest_title hd ht60 HQ.out, ← HQb.out, tx_blank])
          have hne : (L.toList == []) = false := by rw [HE.out, rest_title hd ht60 HQ.out, toList_none]; simp
          have hLz := HLz.out L HE.out
          obtain ⟨R1, R2, a1, a2, a3, s1, s2⟩ := sum_three (HS.out L HE.out hne) hPz2 hWz hLz
          rw [h] at q0
          clear hlt
          go_wp2
          go_roundw
          case rel => exact ⟨k + 1, by omega, by go_num, by rw [HO.out], u2, rfl⟩
          case measure => simp [intOf]; omega
      · -- 6
          have g0 : ((k : Int) == 0) = false := by simp; omega
          have g6 : ((k : Int) == 6) = true := by simp; omega
          obtain ⟨L, hL⟩ : ∃ L, (⟨#[32]⟩ : ByteArray) ++ W1 = L := ⟨_, rfl⟩
          have HE := Lib.hid (show L = tx (restT j x) by rw [← hL, rest_word1 hd hf, HW1.out, ← tx_blank, tx_data])
          have hne : (L.toList == []) = false := by rw [HE.out, rest_word1 hd hf, toList_none]; simp
          have hLz := HLz.out L HE.out
          obtain ⟨R1, R2, a1, a2, a3, s1, s2⟩ := sum_three (HS.out L HE.out hne) hPz2 hWz hLz
          have d9 := u2.cell (HX8.out.cell 11 h11.out)
          clear q0 hlt
          go_wp2_with fail
          refine (K1.out _).mono ?_
          rintro e w9 ⟨rfl, hb⟩
          obtain ⟨u3, rfl⟩ : ∃ u3 : Later w8, w9 = u3.now := ⟨⟨w9, up_trans u2.up hb⟩, rfl⟩
          have q0 := HQ0.out u3
          rw [h] at q0
          clear hb d9
          go_wp2
          go_roundw
          case rel => exact ⟨k + 1, by omega, by go_num, by rw [HO.out], u3, rfl⟩
          case measure => simp [intOf]; omega
      · -- 7
          have g0 : ((k : Int) == 0) = false := by simp; omega
          have g6 : ((k : Int) == 6) = false := by simp; omega
          have g7 : ((k : Int) == 7) = true := by simp; omega
          obtain ⟨L, hL⟩ : ∃ L, (⟨#[32]⟩ : ByteArray) ++ Fb = L := ⟨_, rfl⟩
          have HE := Lib.hid (show L = tx (restT j x) by rw [← hL, rest_folds hd HP.out, ← HFb.out, tx_blank])
          have hne : (L.toList == []) = false := by rw [HE.out, rest_folds hd HP.out, toList_none]; simp
          have hLz := HLz.out L HE.out
          obtain ⟨R1, R2, a1, a2, a3, s1, s2⟩ := sum_three (HS.out L HE.out hne) hPz2 hWz hLz
          rw [h] at q0
          clear hlt
          go_wp2
          go_roundw
          case rel => exact ⟨k + 1, by omega, by go_num, by rw [HO.out], u2, rfl⟩
          case measure => simp [intOf]; omega
      · -- 8
          have g0 : ((k : Int) == 0) = false := by simp; omega
          have g6 : ((k : Int) == 6) = false := by simp; omega
          have g7 : ((k : Int) == 7) = false := by simp; omega
          have g8 : ((k : Int) == 8) = true := by simp; omega
          have HRl := Lib.hid (rest_last (j := j) hd)
          clear hlt
          clear q0
          have j15 := fun u : Later w8 => u.cell (HX8.out.cell 15 h15.out)
          have d15 := j15 u2
          go_wp2
          clear d15
          go_loopw [12, 13] (fun v i wr => RefLineRel j.ls N w8 v i wr) (fun _ i _ => N - (intOf i).toNat)
          case atStart => exact ⟨0, by omega, by go_num, rfl, u2, rfl⟩
          case round =>
            obtain ⟨m, hm, rfl, rfl, u3, rfl⟩ := hrel
            have d15 := j15 u3
            by_cases hlm : m < N
            · obtain ⟨p, hp⟩ : ∃ p, j.ls[m]? = some p := ⟨j.ls[m]'(by rw [HNl.out]; exact hlm), List.getElem?_eq_getElem _⟩
              obtain ⟨gl, o, rfl, hcl, -, -⟩ := HT8.out.resolve_left (by intro h; rw [h] at hp; cases hp)
              have cl := u3.cell (hcl m p hp)
              have y0 : (0 : Int) ≤ (m : Int) := by omega
              have y1 : (m : Int) < (N : Int) := by omega
              have hnf := names_flat hp
              have hpz := HZ.out p (List.mem_of_getElem? hp)
              have hfz := names_flat_len B HZ.out m
              have hmB : m * (B + 1) ≤ 4 * (100000 + 1) := Nat.mul_le_mul (by omega) (by omega)
              obtain ⟨q, hq⟩ : ∃ q, tx p = q := ⟨_, rfl⟩
              have hqz : q.size ≤ 100000 := by rw [← hq, tx_size]; omega
              obtain ⟨M, hM⟩ : ∃ M, tx ((j.ls.take m).flatMap fun p => 32 :: p) = M := ⟨_, rfl⟩
              have hMz : M.size ≤ 1000000 := by rw [← hM, tx_size]; omega
              obtain ⟨R1, hR1⟩ : ∃ R1, M ++ (⟨#[32]⟩ : ByteArray) = R1 := ⟨_, rfl⟩
              have hR1z : R1.size ≤ 1000001 := by rw [← hR1, ByteArray.size_append, show (⟨#[32]⟩ : ByteArray).size = 1 from rfl]; omega
              obtain ⟨R2, hR2⟩ : ∃ R2, R1 ++ q = R2 := ⟨_, rfl⟩
              have HR2 := Lib.hid (show R2 = tx ((j.ls.take (m + 1)).flatMap fun p => 32 :: p) by
                rw [hnf, ← hR2, ← hR1, ← hM, ← hq, show (⟨#[32]⟩ : ByteArray) = tx [32] from rfl, tx_append, tx_append]
                simp)
              rw [hq] at cl
              rw [hM]
              clear hnf hfz hmB hq hM hp hcl hpz
              go_wp2
              go_roundw
              case rel => exact ⟨m + 1, by omega, by go_num, by rw [HR2.out], u3, rfl⟩
              case measure => simp [intOf]; omega
            · obtain rfl : m = N := by omega
              have hall : (j.ls.take m).flatMap (fun p => 32 :: p) = restT j x := by
                rw [HRl.out, List.take_of_length_le (by rw [HNl.out]; exact Nat.le_refl _)]
              rw [hall]
              obtain ⟨L, hL⟩ : ∃ L, tx (restT j x) = L := ⟨_, rfl⟩
              have HE := Lib.hid hL.symm
              have hLz := HLz.out L HE.out
              rw [hL]
              clear hall hL
              have q0 := HQ0.out u3
              rw [h] at q0
              by_cases hr : restT j x = []
              · have hne : (L.toList == []) = true := by rw [HE.out, toList_none, hr]; rfl
                have HPO := Lib.hid (HS0.out hr)
                clear hr
                go_wp2
                go_roundw
                case rel => exact ⟨k + 1, by omega, by go_num, by rw [HO.out, HPO.out], u3, rfl⟩
                case measure => simp [intOf]; omega
              · have hne : (L.toList == []) = false := by rw [HE.out, toList_none]; exact decide_eq_false hr
                obtain ⟨R1, R2, a1, a2, a3, s1, s2⟩ := sum_three (HS.out L HE.out hne) hPz2 hWz hLz
                clear hr
                go_wp2
                go_roundw
                case rel => exact ⟨k + 1, by omega, by go_num, by rw [HO.out], u3, rfl⟩
                case measure => simp [intOf]; omega
      · -- 9
          have g0 : ((k : Int) == 0) = false := by simp; omega
          have g6 : ((k : Int) == 6) = false := by simp; omega
          have g7 : ((k : Int) == 7) = false := by simp; omega
          have g8 : ((k : Int) == 8) = false := by simp; omega
          have g9 : ((k : Int) == 9) = true := by simp; omega
          obtain ⟨L, hL⟩ : ∃ L, (⟨#[32]⟩ : ByteArray) ++ W2 = L := ⟨_, rfl⟩
          have HE := Lib.hid (show L = tx (restT j x) by rw [← hL, rest_word2 hd hf, HW2.out, ← tx_blank, tx_data])
          have hne : (L.toList == []) = false := by rw [HE.out, rest_word2 hd hf, toList_none]; simp
          have hLz := HLz.out L HE.out
          obtain ⟨R1, R2, a1, a2, a3, s1, s2⟩ := sum_three (HS.out L HE.out hne) hPz2 hWz hLz
          have d9 := u2.cell (HX8.out.cell 16 h16.out)
          clear q0 hlt
          go_wp2_with fail
          refine (K2.out _).mono ?_
          rintro e w9 ⟨rfl, hb⟩
          obtain ⟨u3, rfl⟩ : ∃ u3 : Later w8, w9 = u3.now := ⟨⟨w9, up_trans u2.up hb⟩, rfl⟩
          have q0 := HQ0.out u3
          rw [h] at q0
          clear hb d9
          go_wp2
          go_roundw
          case rel => exact ⟨k + 1, by omega, by go_num, by rw [HO.out], u3, rfl⟩
          case measure => simp [intOf]; omega
      · -- the others
          obtain ⟨f1, f2⟩ := Hft.out hd
          have g0 : ((k : Int) == 0) = false := by simp; omega
          have g6 : ((k : Int) == 6) = false := by simp; omega
          have g7 : ((k : Int) == 7) = false := by simp; omega
          have g8 : ((k : Int) == 8) = false := by simp; omega
          have g9 : ((k : Int) == 9) = false := by simp; omega
          have HE := Lib.hid (show L0 = tx (restT j x) by rw [rest_nums hd, ← HL0.out, f1, f2, Nat.add_sub_cancel_left])
          have hne : (L0.toList == []) = false := by
            rw [HE.out, toList_none]
            exact decide_eq_false fun h => by have := HNe.out h; omega
          obtain ⟨R1, R2, a1, a2, a3, s1, s2⟩ := sum_three (HS.out L0 HE.out hne) hPz2 hWz (by omega)
          clear hlt
          go_wp2
          go_roundw
          case rel => exact ⟨k + 1, by omega, by go_num, by rw [HO.out], u2, rfl⟩
          case measure => simp [intOf]; omega
    · obtain rfl : k = 16 := by omega
      have htx : (keyL.take 16).flatMap (lineT j) = textJ j := by
        rw [List.take_of_length_le (by rw [keyL_length]; decide)]
        rfl
      rw [htx]
      have HBu := Lib.hid (up_trans HB8.out u.up)
      clear htx
      go_wp2
      go_ret2
      exact ⟨rfl, HBu.out⟩
end Go.Proofs.YtenigkjonegdmaaGreatDoor
