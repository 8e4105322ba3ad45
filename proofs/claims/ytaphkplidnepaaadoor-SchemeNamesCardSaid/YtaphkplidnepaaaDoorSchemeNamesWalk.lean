/- gatherumlaw12.SchemeNames answers true, for every text and every octet. -/
import Derived.Test.YtaphkplidnepaaaDoorSchemeAlive
import Derived.Test.YtaphkplidnepaaaDoorSchemeRefTwo
import Derived.Test.YtaphkplidnepaaaDoorLexLines
import Derived.Test.YtaphkplidnepaaaDoorSchemeLaid
import Derived.OpenShut
namespace Go.Proofs.YtaphkplidnepaaaDoor
open Go.RowKit DecMath
set_option linter.unusedVariables false

theorem cat_right : ∀ e ∈ catS, rightM e.2 = true := by decide +kernel
theorem found_short (n : List UInt8) : ((findM n).getD zeroSc).l.length ≤ 6 := by
  cases h : findM n with
  | none => decide
  | some s => exact (toldB_true (cat_told _ (find_some h))).2.2.1

set_option maxRecDepth 100000 in
set_option maxHeartbeats 2000000 in
theorem names_core (nm : List UInt8) (j : Nat) (e : List UInt8 × Sc) (k : Nat) (w : World) (hk : j % 21 = k) (he : catS[k]? = some e) (hj : j ≤ 255) (hnm : nm.length ≤ 9223372036854775807) (hg : GoodM w) :
    Calls Tryd.prog 5 #[.string (tx nm), .int .u8 (j : Int)] w fun e w' => e = .returned (.bool true) ∧ Below w.heap.size w w' := by
  have HG := Lib.hid hg
  obtain ⟨X, hX⟩ : ∃ X, tx nm = X := ⟨_, rfl⟩
  have hXs : X.size = nm.length := by rw [← hX, tx_size]
  rw [hX]
  by_cases hlen : 100 < X.size
  · have z1 : (100 : Int) < (X.size : Int) := by omega
    go_enter Tryd.func5, Tryd.ntmps5
    go_wp2_with fail
    refine (schAlive_any _ HG.out).mono ?_
    rintro e w1 ⟨rfl, hb⟩
    have B1 := Lib.hid hb
    clear hb
    go_wp2
    go_ret
    exact ⟨rfl, B1.out⟩
  · have z1 : decide ((100 : Int) < (X.size : Int)) = false := by simp; omega
    have hmem := List.mem_of_getElem? he
    have hk21 : k < 21 := by omega
    have m1 : ((j : Int)).tmod 21 = (k : Int) := by rw [Int.tmod_eq_emod_of_nonneg (by omega)]; omega
    have m2 : ((j : Int)) % 21 = (k : Int) := by omega
    have HNA := Lib.hid (names_at he).1
    have KF := fun w1 h => schFind_any e.1 w1 h
    have KG := fun w1 => refFind_any e.1 w1
    rw [(find_of_mem (n := e.1) (s := e.2) hmem).1] at KF KG
    have KX := fun w1 h => schFind_any nm w1 h
    have KY := fun w1 => refFind_any nm w1
    have KN := fun a c w1 (h : InL w1 a e.2.l) h2 => schName_any e.2 a c w1 h h2
    have en : nameT e.2 = tx e.1 ∧ (nameM e.2).isSome = true := by unfold nameT; rw [(find_of_mem (n := e.1) (s := e.2) hmem).2]; exact ⟨rfl, rfl⟩
    rw [en.1, en.2] at KN
    have ht := toldB_true (cat_told e hmem)
    have KS := fun a b c d w1 (h1 : InL w1 a e.2.l) (h2 : InL w1 b e.2.l) => refSame_any e.2 e.2 a b c d w1 (by omega) h1 h2
    have KR := fun a c w1 (h1 : InL w1 a e.2.l) => schRight_any e.2 a c w1 (by omega) (by omega) (by omega) h1
    rw [cat_right e hmem] at KR
    rw [decide_eq_true rfl] at KS
    have hts := found_short nm
    unfold GivesS at KX KY
    generalize (findM nm).getD zeroSc = t at *
    generalize (findM nm).isSome = ib at *
    have KT := fun a b c d w1 (h1 : InL w1 a t.l) (h2 : InL w1 b t.l) => refSame_any t t a b c d w1 (by omega) h1 h2
    rw [decide_eq_true rfl] at KT
    rw [hX] at KX KY
    obtain ⟨Q, hQ⟩ : ∃ Q, tx e.1 = Q := ⟨_, rfl⟩
    rw [hQ] at KF KG KN
    have HQ := Lib.hid hQ
    generalize e.2 = s at *
    have HF := Lib.hid KF; have HGf := Lib.hid KG; have HX := Lib.hid KX; have HY := Lib.hid KY; have HN := Lib.hid KN; have HS := Lib.hid KS; have HR := Lib.hid KR; have HT := Lib.hid KT
    clear KF KG KX KY KN KS KR KT hg he hmem hX hXs hk hQ en ht
    go_enter Tryd.func5, Tryd.ntmps5
    go_wp2_with fail
    refine (schAlive_any _ HG.out).mono ?_
    rintro e0 w1 ⟨rfl, hb⟩
    have B1 := Lib.hid hb
    clear hb
    go_wp2_with fail
    refine (refNames_any _).mono ?_
    rintro e0 w2 ⟨v2, rfl, hT2, hb⟩
    have B2 := Lib.hid (up_trans B1.out hb)
    have HT2 := Lib.hid hT2
    obtain ⟨a2, c2, rfl, hA2⟩ := hT2.arg
    clear hb hT2
    go_wp2_with fail
    refine (schNames_any _ (HG.out.below B2.out).2).mono ?_
    rintro e0 w3 ⟨v3, rfl, hT3, hb⟩
    have B3 := Lib.hid (up_trans B2.out hb)
    have HT3 := Lib.hid hT3
    have HT2' := Lib.hid (HT2.out.up hb)
    have HA3 := Lib.hid (hA2.up hb)
    clear hb hT3 hA2
    go_wp2_with fail
    refine (texts_same HT3.out HT2'.out (by decide)).mono ?_
    rintro e0 w4 ⟨rfl, hb⟩
    have B4 := Lib.hid (up_trans B3.out hb)
    obtain ⟨g, o, rfl, hc, -, -⟩ := (HA3.out.up hb).resolve_left (by decide)
    have hck := hc k _ HNA.out
    rw [HQ.out] at hck
    have hl : namesL.length = 21 := rfl
    rw [hl]
    clear hb hc
    go_wp2_with fail
    refine (HF.out _ (HG.out.below B4.out)).mono ?_
    rintro e0 w5 ⟨a5, c5, rfl, hF, hb⟩
    have hI5 : InL w5 a5 s.l := hF.inL
    have I5 := Lib.hid (hI5.up (up_alloc (Below.refl _ _) (.cells #[.int .i64 s.c, .int .i64 s.r, .slice a5 s.l.length c5] 24)))
    have Y5_5 := Bx.new w5 24 [.int .i64 s.c, .int .i64 s.r, .slice a5 s.l.length c5]
    have B5 := Lib.hid (up_alloc (up_trans B4.out hb) (.cells #[.int .i64 s.c, .int .i64 s.r, .slice a5 s.l.length c5] 24))
    clear hF hI5 hb hck
    go_wp2_with fail
    refine (HGf.out _).mono ?_
    rintro e0 w6 ⟨a6, c6, rfl, hF, hb⟩
    have hI6 : InL w6 a6 s.l := hF.inL
    have I6 := Lib.hid (hI6.up (up_alloc (Below.refl _ _) (.cells #[.int .i64 s.c, .int .i64 s.r, .slice a6 s.l.length c6] 24)))
    have Y5_6 := (Y5_5.up hb).alloc (.cells #[.int .i64 s.c, .int .i64 s.r, .slice a6 s.l.length c6] 24)
    have I5_6 := Lib.hid ((I5.out.up hb).up (up_alloc (Below.refl _ _) (.cells #[.int .i64 s.c, .int .i64 s.r, .slice a6 s.l.length c6] 24)))
    have Y6_6 := Bx.new w6 24 [.int .i64 s.c, .int .i64 s.r, .slice a6 s.l.length c6]
    have B6 := Lib.hid (up_alloc (up_trans B5.out hb) (.cells #[.int .i64 s.c, .int .i64 s.r, .slice a6 s.l.length c6] 24))
    clear hF hI6 hb
    clear Y5_5
    go_wp2_with fail
    refine (HX.out _ (HG.out.below B6.out)).mono ?_
    rintro e0 w7 ⟨a7, c7, rfl, hF, hb⟩
    have hI7 : InL w7 a7 t.l := hF.inL
    have I7 := Lib.hid (hI7.up (up_alloc (Below.refl _ _) (.cells #[.int .i64 t.c, .int .i64 t.r, .slice a7 t.l.length c7] 24)))
    have Y5_7 := (Y5_6.up hb).alloc (.cells #[.int .i64 t.c, .int .i64 t.r, .slice a7 t.l.length c7] 24)
    have I5_7 := Lib.hid ((I5_6.out.up hb).up (up_alloc (Below.refl _ _) (.cells #[.int .i64 t.c, .int .i64 t.r, .slice a7 t.l.length c7] 24)))
    have Y6_7 := (Y6_6.up hb).alloc (.cells #[.int .i64 t.c, .int .i64 t.r, .slice a7 t.l.length c7] 24)
    have I6_7 := Lib.hid ((I6.out.up hb).up (up_alloc (Below.refl _ _) (.cells #[.int .i64 t.c, .int .i64 t.r, .slice a7 t.l.length c7] 24)))
    have Y7_7 := Bx.new w7 24 [.int .i64 t.c, .int .i64 t.r, .slice a7 t.l.length c7]
    have B7 := Lib.hid (up_alloc (up_trans B6.out hb) (.cells #[.int .i64 t.c, .int .i64 t.r, .slice a7 t.l.length c7] 24))
    clear hF hI7 hb
    clear Y5_6
    clear Y6_6
    go_wp2_with fail
    refine (HY.out _).mono ?_
    rintro e0 w8 ⟨a8, c8, rfl, hF, hb⟩
    have hI8 : InL w8 a8 t.l := hF.inL
    have I8 := Lib.hid (hI8.up (up_alloc (Below.refl _ _) (.cells #[.int .i64 t.c, .int .i64 t.r, .slice a8 t.l.length c8] 24)))
    have Y5_8 := (Y5_7.up hb).alloc (.cells #[.int .i64 t.c, .int .i64 t.r, .slice a8 t.l.length c8] 24)
    have I5_8 := Lib.hid ((I5_7.out.up hb).up (up_alloc (Below.refl _ _) (.cells #[.int .i64 t.c, .int .i64 t.r, .slice a8 t.l.length c8] 24)))
    have Y6_8 := (Y6_7.up hb).alloc (.cells #[.int .i64 t.c, .int .i64 t.r, .slice a8 t.l.length c8] 24)
    have I6_8 := Lib.hid ((I6_7.out.up hb).up (up_alloc (Below.refl _ _) (.cells #[.int .i64 t.c, .int .i64 t.r, .slice a8 t.l.length c8] 24)))
    have Y7_8 := (Y7_7.up hb).alloc (.cells #[.int .i64 t.c, .int .i64 t.r, .slice a8 t.l.length c8] 24)
    have I7_8 := Lib.hid ((I7.out.up hb).up (up_alloc (Below.refl _ _) (.cells #[.int .i64 t.c, .int .i64 t.r, .slice a8 t.l.length c8] 24)))
    have Y8_8 := Bx.new w8 24 [.int .i64 t.c, .int .i64 t.r, .slice a8 t.l.length c8]
    have B8 := Lib.hid (up_alloc (up_trans B7.out hb) (.cells #[.int .i64 t.c, .int .i64 t.r, .slice a8 t.l.length c8] 24))
    clear hF hI8 hb
    clear Y5_7
    clear Y6_7
    clear Y7_7
    have d0 := Y5_8.cell 0 rfl; have d1 := Y5_8.cell 1 rfl; have d2 := Y5_8.cell 2 rfl
    go_wp2_with fail
    refine (HN.out _ _ _ I5_8.out (HG.out.below B8.out)).mono ?_
    rintro e0 w9 ⟨rfl, hb⟩
    clear d0 d1 d2
    have Z5 := Y5_8.up hb; have Z6 := Y6_8.up hb; have Z7 := Y7_8.up hb; have Z8 := Y8_8.up hb
    have J5 := Lib.hid (I5_8.out.up hb); have J6 := Lib.hid (I6_8.out.up hb); have J7 := Lib.hid (I7_8.out.up hb); have J8 := Lib.hid (I8.out.up hb)
    have B9 := Lib.hid (up_trans B8.out hb)
    clear hb Y5_8 Y6_8 Y7_8 Y8_8
    have d0 := Z5.cell 0 rfl; have d1 := Z5.cell 1 rfl; have d2 := Z5.cell 2 rfl
    have f0 := Z6.cell 0 rfl; have f1 := Z6.cell 1 rfl; have f2 := Z6.cell 2 rfl
    go_wp2_with fail
    refine (HS.out _ _ _ _ _ J5.out J6.out).mono ?_
    rintro e0 w10 ⟨rfl, hb⟩
    clear d0 d1 d2 f0 f1 f2
    have Q5 := Z5.up hb; have Q7 := Z7.up hb; have Q8 := Z8.up hb
    have L5 := Lib.hid (J5.out.up hb); have L7 := Lib.hid (J7.out.up hb); have L8 := Lib.hid (J8.out.up hb)
    have B10 := Lib.hid (up_trans B9.out hb)
    clear hb Z5 Z6 Z7 Z8
    have d0 := Q5.cell 0 rfl; have d1 := Q5.cell 1 rfl; have d2 := Q5.cell 2 rfl
    go_wp2_with fail
    refine (HR.out _ _ _ L5.out).mono ?_
    rintro e0 w11 ⟨rfl, hb⟩
    clear d0 d1 d2
    have R7 := Q7.up hb; have R8 := Q8.up hb
    have M7 := Lib.hid (L7.out.up hb); have M8 := Lib.hid (L8.out.up hb)
    have B11 := Lib.hid (up_trans B10.out hb)
    clear hb Q5 Q7 Q8
    have d0 := R7.cell 0 rfl; have d1 := R7.cell 1 rfl; have d2 := R7.cell 2 rfl
    have f0 := R8.cell 0 rfl; have f1 := R8.cell 1 rfl; have f2 := R8.cell 2 rfl
    go_wp2_with fail
    refine (HT.out _ _ _ _ _ M7.out M8.out).mono ?_
    rintro e0 w12 ⟨rfl, hb⟩
    clear d0 d1 d2 f0 f1 f2
    have B12 := Lib.hid (up_trans B11.out hb)
    clear hb R7 R8
    go_wp2
    go_ret
    exact ⟨by simp, B12.out⟩

theorem walkSchemeNames (nm : ByteArray) (i : Int) (w : World) (hs : nm.size ≤ maxLen) (hi : (Lit.int .u8 i).wf = true) (hg : GoodM w) :
    Calls Tryd.prog 5 #[.string nm, .int .u8 i] w fun e w' => e = .returned (.bool true) ∧ Below w.heap.size w w' := by
  have hb := bounds_u8 hi
  obtain ⟨j, rfl⟩ : ∃ j : Nat, i = j := ⟨i.toNat, by omega⟩
  obtain ⟨e, he⟩ : ∃ e, catS[j % 21]? = some e := ⟨catS[j % 21]'(by rw [catS_length]; omega), List.getElem?_eq_getElem _⟩
  obtain ⟨l, rfl⟩ : ∃ l, nm = tx l := ⟨_, (tx_data nm).symm⟩
  exact names_core l j e _ w rfl he (by omega) (by rw [tx_size] at hs; unfold maxLen at hs; omega) hg
end Go.Proofs.YtaphkplidnepaaaDoor
