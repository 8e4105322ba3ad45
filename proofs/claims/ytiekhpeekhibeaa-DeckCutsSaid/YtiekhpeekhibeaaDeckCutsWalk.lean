/- DeckCuts answers true at every input, and changes nothing that was there. -/
import Derived.Test.YtiekhpeekhibeaaDeckTurnsWalk
import Derived.Test.YtiekhpeekhibeaaDeckCut
import Derived.Deep.DeepCutAuto
import Derived.BigRegion
import Derived.Deep.RegionHeld3
namespace Go.Proofs.Ytiekhpeekhibeaa
open Go.RowKit
set_option linter.unusedVariables false

/-- A list, as it is told. -/
theorem list_n {w : World} {D R : Nat} {l : List Int} (h : Dk w D R l) {n : Nat} (hn : l.length = n) (hm : n ≤ 1000000) :
    Calls Try.prog 12 #[.pointer (some ⟨D, 0, none⟩)] w fun e w' => ∃ a c, e = .returned (.slice a n c) ∧ Nums w' a l ∧ Below w.heap.size w w' := by
  refine (list_any h (by omega)).mono ?_
  rintro e w' ⟨v, rfl, hrow, hb⟩
  obtain ⟨a, c, rfl, h1, _⟩ := Nums.own hrow
  exact ⟨a, c, by rw [hn], h1, hb⟩
theorem ints_n {w : World} {a b : Option Addr} {l : List Int} {n : Nat} (hn : l.length = n) (ca cb : Nat) (ha : Nums w a l) (hb : Nums w b l) (hl : n ≤ 1000) :
    Calls Try.prog 11 #[.slice a n ca, .slice b n cb] w fun e w' => e = .returned (.bool true) ∧ Below w.heap.size w w' := by
  subst hn
  exact ints_same ca cb ha hb hl
theorem Nums.dropMap {w : World} {a : Option Addr} {l : List Int} (h : Nums w a l) (k : Nat) : Nums w (a.map fun x => x.add k) (l.drop k) := by
  rcases h with rfl | ⟨b, off, rfl, h⟩
  · exact .inl (by simp)
  · rw [Option.map_some, add_at]
    exact Nums.drop (.inr ⟨b, off, rfl, h⟩) k

theorem cuts_big (a : Option Addr) (len cap : Nat) (n : Int) (w : World) (h : 60 < len) : Calls Try.prog 6 #[.slice a len cap, .int .i64 n] w fun e w' => e = .returned (.bool true) ∧ Below w.heap.size w w' := by
  have HA := Lib.hid (alive_any w)
  have z : (60 : Int) < (len : Int) := by omega
  go_enter Try.func6, Try.ntmps6
  go_wp2_with (go_at_call 7; refine HA.out.mono ?_; rintro e w1 ⟨rfl, hb⟩; have HB := Lib.hid hb; clear hb)
  go_ret
  exact ⟨rfl, HB.out⟩

set_option maxHeartbeats 4000000 in
set_option maxRecDepth 100000 in
theorem cuts_core (a : Option Addr) (cap : Nat) (l : List Int) (n : Int) (w : World) (h : Arg w a cap l) (hl : l.length ≤ 60) (hcap : l.length ≤ cap) : Calls Try.prog 6 #[.slice a l.length cap, .int .i64 n] w fun e w' => e = .returned (.bool true) ∧ Below w.heap.size w w' := by
  have HA := Lib.hid (alive_any w)
  have HL := Lib.hid h
  have hK := clamp_is n l
  have hkl := clamp_le n l
  obtain ⟨k, hk⟩ : ∃ k, clamp n l = k := ⟨_, rfl⟩
  obtain ⟨m, hm⟩ : ∃ n, l.length = n := ⟨_, rfl⟩
  have HM := Lib.hid hm; have HK := Lib.hid hk
  rw [hk, hm] at hK
  rw [hk, hm] at hkl
  rw [hm] at hl hcap ⊢
  have z : (m : Int) ≤ 60 := by omega
  obtain ⟨LT, hLT⟩ : ∃ L, l.take k = L := ⟨_, rfl⟩
  obtain ⟨LD, hLD⟩ : ∃ L, l.drop k = L := ⟨_, rfl⟩
  have lT : LT.length = k := by rw [← hLT, List.length_take]; omega
  have lD : LD.length = m - k := by rw [← hLD, List.length_drop, hm]
  have ET := Lib.hid hLT; have ED := Lib.hid hLD; have NT := Lib.hid lT; have ND := Lib.hid lD
  have HKl := Lib.hid hkl; have HKe := Lib.hid hK; have HCap := Lib.hid hcap
  clear h hk hm hLT hLD lT lD hK hkl hcap
  go_enter Try.func6, Try.ntmps6
  go_wp2_with (go_at_call 7; refine HA.out.mono ?_; rintro e w1 ⟨rfl, hb⟩; have HB1 := Lib.hid hb; clear hb)
  have KO := of_any cap (HL.out.up HB1.out).1 (by rw [HM.out]; omega)
  rw [HM.out] at KO
  refine KO.mono ?_
  clear KO
  rintro e w2 ⟨D, RD, rfl, hD, hD1, hD2, hb⟩
  have HB2 := Lib.hid (up_trans HB1.out hb); have s1 := HB1.out.size
  have KC := cut_any hD (by rw [HM.out]; omega) n
  rw [HK.out] at KC
  have HKC := Lib.hid KC
  have hDD := hD.ltD; have hDR := hD.ltR
  clear hD hb HB1 KC
  go_wp2_with fail
  refine HKC.out.mono ?_
  clear HKC
  rintro e w3 ⟨C, RC, rfl, hC, hC1, hC2, hD, hb⟩
  rw [ET.out] at hC
  rw [ED.out] at hD
  have HB3 := Lib.hid (HB2.out.trans (hb.below HB2.out.size (by omega) (by omega)))
  have HC := Lib.hid hC; have HD := Lib.hid hD
  have hDC := hC.ltD; have hDRC := hC.ltR
  clear hC hD hb HB2
  go_upto_if 20 with fail
  go_cut [7] (fun s7 wx => s7 = .int .i64 (max n 0) ∧ wx = w3)
  case first =>
    by_cases hn0 : n < 0
    · go_wp2
      go_meet
      exact ⟨by congr 1; omega, rfl⟩
    · go_wp2
      go_meet
      exact ⟨by congr 1; omega, rfl⟩
  case rest =>
    obtain ⟨rfl, rfl⟩ := hcut
    go_upto_if 24 with fail
    go_cut [7] (fun s7 wx => s7 = .int .i64 (k : Int) ∧ wx = wc)
    case first =>
      by_cases hn0 : (m : Int) < max n 0
      · go_wp2
        go_meet
        exact ⟨by congr 1; have := HKe.out; omega, rfl⟩
      · go_wp2
        go_meet
        exact ⟨by congr 1; have := HKe.out; omega, rfl⟩
    case rest =>
      obtain ⟨rfl, rfl⟩ := hcut
      have z0 : (0 : Int) ≤ (k : Int) := by omega
      have z1 : (k : Int) ≤ (m : Int) := by have := HKl.out; omega
      have z2 : (k : Int) ≤ (cap : Int) := by have := HKl.out; have := HCap.out; omega
      have KC := fun (w' : World) (hb : Below wc.heap.size wc w') => list_n (HC.out.up hb) NT.out (by have := HKl.out; omega)
      have KD := fun (w' : World) (hb : Below wc.heap.size wc w') => list_n (HD.out.up hb) ND.out (by omega)
      have KI1 := fun (w' : World) (hb : Below wc.heap.size wc w') (a5 : Option Addr) (c5 : Nat) (h5 : Nums w' a5 LT) => ints_n NT.out c5 cap h5 (by have := ((HL.out.up (up_trans HB3.out hb)).1.take k); rwa [ET.out] at this) (by have := HKl.out; omega)
      have KI2 := fun (w' : World) (hb : Below wc.heap.size wc w') (a5 : Option Addr) (c5 : Nat) (h5 : Nums w' a5 LD) => ints_n (b := a.map fun x => x.add k) ND.out c5 (cap - k) h5 (by have := ((HL.out.up (up_trans HB3.out hb)).1.dropMap k); rwa [ED.out] at this) (by omega)
      have HKC := Lib.hid KC; have HKD := Lib.hid KD; have HI1 := Lib.hid KI1; have HI2 := Lib.hid KI2
      clear KC KD KI1 KI2
      rcases Decidable.em (cap = k) with hek | hne
      · have hkm : k = m := by have := HKl.out; have := HCap.out; omega
        subst hkm
        subst hek
        have NZ := Lib.hid (show LD.length = 0 by have := ND.out; omega)
        have KD := fun (w' : World) (hb : Below wc.heap.size wc w') => list_n (HD.out.up hb) NZ.out (by omega)
        have KI2 := fun (w' : World) (hb : Below wc.heap.size wc w') (a5 : Option Addr) (c5 : Nat) (h5 : Nums w' a5 LD) => ints_n (b := a) NZ.out c5 0 h5 (by rw [List.eq_nil_of_length_eq_zero NZ.out]; exact Nums.nil) (by omega)
        have HKD := Lib.hid KD; have HI2 := Lib.hid KI2
        clear KD KI2
        go_wp2_with fail
        go_region_held3 (fun _ => True) (trivial) (first
          | (go_at_call 12; first
              | ((with_reducible refine (HKC.out _ (up_drew (Below.refl _ _))).mono ?_); rintro e w5 ⟨a5, c5, rfl, h5, hb5⟩; have B5 := up_trans (up_drew (Below.refl _ _)) hb5)
              | ((with_reducible refine (HKD.out _ B6).mono ?_); rintro e w7 ⟨a7, c7, rfl, h7, hb7⟩; have B7 := up_trans B6 hb7))
          | (go_at_call 11; first
              | ((with_reducible refine (HI2.out _ B7 _ _ h7).mono ?_); rintro e w8 ⟨rfl, hb8⟩; have B8 := up_trans B7 hb8)
              | ((with_reducible refine (HI1.out _ B5 _ _ h5).mono ?_); rintro e w6 ⟨rfl, hb6⟩; have B6 := up_trans B5 hb6)))
        have HC8 := Lib.hid (HC.out.up B8); have HD8 := Lib.hid (HD.out.up B8); have HB8 := Lib.hid (up_trans HB3.out B8)
        clear B5 B6 B7 B8 hb5 hb6 hb7 hb8 h5 h7 HKC HKD HI1 HI2 HC HD
        have HO := Lib.hid (of_any (w := w8.alloc (.cells (enc [5]).toArray 3)) 1 (nums_new w8 [5]) (by simp))
        have b0 : Below w8.heap.size w8 (w8.alloc (.cells (enc [5]).toArray 3)) := up_alloc (Below.refl _ _) _
        have BA := Lib.hid b0
        clear b0
        go_wp2_with fail
        refine HO.out.mono ?_
        clear HO
        rintro e w9 ⟨O, RO, rfl, hO, hO1, hO2, hb⟩
        have hb9 : Below w8.heap.size w8 w9 := up_trans BA.out hb
        have HU := Lib.hid (under_any (p := some ⟨O, 0, none⟩) (HC8.out.up hb9) (.inr ⟨O, RO, rfl, hO⟩) (by rw [NT.out]; have := HKl.out; omega) (by simp))
        have HD9 := Lib.hid (HD8.out.up hb9); have HB9 := Lib.hid (up_trans HB8.out hb9)
        clear hO hb hb9 BA HC8 HD8 HB8
        go_wp2_with fail
        refine HU.out.mono ?_
        clear HU
        rintro e w10 ⟨rfl, R10, _, _, hb⟩
        have hD10 := HD9.out.but hb (by omega) (by omega) (by omega) (by omega)
        have HB10 := Lib.hid (HB9.out.trans (hb.below HB9.out.size (by omega) (by omega)))
        have KD := fun (w' : World) (hb : Below w10.heap.size w10 w') => list_n (hD10.up hb) NZ.out (by omega)
        have KI2 := fun (w' : World) (hb : Below w10.heap.size w10 w') (a5 : Option Addr) (c5 : Nat) (h5 : Nums w' a5 LD) => ints_n (b := a) NZ.out c5 0 h5 (by rw [List.eq_nil_of_length_eq_zero NZ.out]; exact Nums.nil) (by omega)
        have HKD := Lib.hid KD; have HI2 := Lib.hid KI2
        clear KD KI2 hD10 hb HB9 HD9
        go_wp2_with fail
        go_region_held3 (fun _ => True) (trivial) (first
          | (go_at_call 12; (refine (HKD.out _ (up_drew (Below.refl _ _))).mono ?_); rintro e w11 ⟨a11, c11, rfl, h11, hb11⟩; have B11 := up_trans (up_drew (Below.refl _ _)) hb11)
          | (go_at_call 11; (refine (HI2.out _ B11 _ _ h11).mono ?_); rintro e w12 ⟨rfl, hb12⟩; have B12 := up_trans B11 hb12))
        all_goals
          have HB12 := Lib.hid (up_trans HB10.out B12)
          go_wp2
          go_ret
          exact ⟨rfl, HB12.out⟩
      · go_wp2_with fail
        go_region_held3 (fun _ => True) (trivial) (first
          | (go_at_call 12; first
              | ((with_reducible refine (HKC.out _ (up_drew (Below.refl _ _))).mono ?_); rintro e w5 ⟨a5, c5, rfl, h5, hb5⟩; have B5 := up_trans (up_drew (Below.refl _ _)) hb5)
              | ((with_reducible refine (HKD.out _ B6).mono ?_); rintro e w7 ⟨a7, c7, rfl, h7, hb7⟩; have B7 := up_trans B6 hb7))
          | (go_at_call 11; first
              | ((with_reducible refine (HI2.out _ B7 _ _ h7).mono ?_); rintro e w8 ⟨rfl, hb8⟩; have B8 := up_trans B7 hb8)
              | ((with_reducible refine (HI1.out _ B5 _ _ h5).mono ?_); rintro e w6 ⟨rfl, hb6⟩; have B6 := up_trans B5 hb6)))
        have HC8 := Lib.hid (HC.out.up B8); have HD8 := Lib.hid (HD.out.up B8); have HB8 := Lib.hid (up_trans HB3.out B8)
        clear B5 B6 B7 B8 hb5 hb6 hb7 hb8 h5 h7 HKC HKD HI1 HI2 HC HD
        have HO := Lib.hid (of_any (w := w8.alloc (.cells (enc [5]).toArray 3)) 1 (nums_new w8 [5]) (by simp))
        have b0 : Below w8.heap.size w8 (w8.alloc (.cells (enc [5]).toArray 3)) := up_alloc (Below.refl _ _) _
        have BA := Lib.hid b0
        clear b0
        go_wp2_with fail
        refine HO.out.mono ?_
        clear HO
        rintro e w9 ⟨O, RO, rfl, hO, hO1, hO2, hb⟩
        have hb9 : Below w8.heap.size w8 w9 := up_trans BA.out hb
        have HU := Lib.hid (under_any (p := some ⟨O, 0, none⟩) (HC8.out.up hb9) (.inr ⟨O, RO, rfl, hO⟩) (by rw [NT.out]; have := HKl.out; omega) (by simp))
        have HD9 := Lib.hid (HD8.out.up hb9); have HB9 := Lib.hid (up_trans HB8.out hb9)
        clear hO hb hb9 BA HC8 HD8 HB8
        go_wp2_with fail
        refine HU.out.mono ?_
        clear HU
        rintro e w10 ⟨rfl, R10, _, _, hb⟩
        have hD10 := HD9.out.but hb (by omega) (by omega) (by omega) (by omega)
        have HB10 := Lib.hid (HB9.out.trans (hb.below HB9.out.size (by omega) (by omega)))
        have KD := fun (w' : World) (hb : Below w10.heap.size w10 w') => list_n (hD10.up hb) ND.out (by omega)
        have KI2 := fun (w' : World) (hb : Below w10.heap.size w10 w') (a5 : Option Addr) (c5 : Nat) (h5 : Nums w' a5 LD) => ints_n (b := a.map fun x => x.add k) ND.out c5 (cap - k) h5 (by have := ((HL.out.up (up_trans HB10.out hb)).1.dropMap k); rwa [ED.out] at this) (by omega)
        have HKD := Lib.hid KD; have HI2 := Lib.hid KI2
        clear KD KI2 hD10 hb HB9 HD9
        go_wp2_with fail
        go_region_held3 (fun _ => True) (trivial) (first
          | (go_at_call 12; (refine (HKD.out _ (up_drew (Below.refl _ _))).mono ?_); rintro e w11 ⟨a11, c11, rfl, h11, hb11⟩; have B11 := up_trans (up_drew (Below.refl _ _)) hb11)
          | (go_at_call 11; (refine (HI2.out _ B11 _ _ h11).mono ?_); rintro e w12 ⟨rfl, hb12⟩; have B12 := up_trans B11 hb12))
        all_goals
          have HB12 := Lib.hid (up_trans HB10.out B12)
          go_wp2
          go_ret
          exact ⟨rfl, HB12.out⟩

theorem walkDeckCuts (a : Option Addr) (len cap : Nat) (zs : List Int) (n : Int) (w : World)
    (h : (a = none ∧ len = 0 ∧ cap = 0 ∧ zs = []) ∨ ∃ x, a = some x ∧ len ≤ cap ∧ cap ≤ maxLen ∧ zs.length = cap ∧ (∀ i, i < zs.length → w.cell? (x.add i) = some (.int .i64 (zs.getD i 0))) ∧ ∀ n ∈ zs, (Lit.int .i64 n).wf = true)
    (hn : (Lit.int .i64 n).wf = true) :
    Calls Try.prog 6 #[.slice a len cap, .int .i64 n] w fun e w' => e = .returned (.bool true) ∧ Below w.heap.size w w' := by
  by_cases hbig : 60 < len
  · exact cuts_big a len cap n w hbig
  · obtain ⟨h1, h2, h3⟩ := arg_of h
    have := cuts_core a cap (zs.take len) n w h1 (by omega) (by omega)
    rwa [h2] at this
end Go.Proofs.Ytiekhpeekhibeaa
