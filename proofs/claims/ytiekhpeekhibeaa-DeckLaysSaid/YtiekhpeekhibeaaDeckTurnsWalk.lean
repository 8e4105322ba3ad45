/- DeckTurns answers true at every input, and changes nothing that was there. -/
import Derived.Test.YtiekhpeekhibeaaDeckAlive
namespace Go.Proofs.Ytiekhpeekhibeaa
open Go.RowKit
set_option linter.unusedVariables false

/-- A list of numbers that came in. -/
theorem arg_of {w : World} {a : Option Addr} {len cap : Nat} {zs : List Int} (h : (a = none ∧ len = 0 ∧ cap = 0 ∧ zs = []) ∨ ∃ x, a = some x ∧ len ≤ cap ∧ cap ≤ maxLen ∧ zs.length = cap ∧ (∀ i, i < zs.length → w.cell? (x.add i) = some (.int .i64 (zs.getD i 0))) ∧ ∀ n ∈ zs, (Lit.int .i64 n).wf = true) :
    Arg w a cap (zs.take len) ∧ (zs.take len).length = len ∧ len ≤ cap := by
  rcases h with ⟨rfl, rfl, rfl, rfl⟩ | ⟨x, rfl, hlc, hmx, hz, hcell, hwf⟩
  · exact ⟨⟨Nums.nil, fun _ => rfl⟩, rfl, Nat.le_refl _⟩
  · have hlen : (zs.take len).length = len := by rw [List.length_take]; omega
    refine ⟨⟨?_, fun e => by cases e⟩, hlen, hlc⟩
    by_cases h0 : len = 0
    · subst h0
      exact .inl (by simp)
    · obtain ⟨b, off, spot⟩ := x
      have hspot : spot = none := by simpa [Addr.add] using World.cell?_spot (hcell 0 (by omega))
      subst hspot
      refine .inr ⟨b, off, rfl, fun j x hx => ?_⟩
      rw [List.getElem?_take] at hx
      split at hx
      · have hj := (List.getElem?_eq_some_iff.1 hx).1
        have := hcell j hj
        rw [show (⟨b, off, none⟩ : Addr).add j = ⟨b, off + j, none⟩ by unfold Addr.add; split <;> simp_all] at this
        rw [this]
        simp [List.getD, hx]
      · cases hx

theorem turns_big (a : Option Addr) (len cap : Nat) (w : World) (h : 60 < len) : Calls Try.prog 3 #[.slice a len cap] w fun e w' => e = .returned (.bool true) ∧ Below w.heap.size w w' := by
  have HA := Lib.hid (alive_any w)
  have z : (60 : Int) < (len : Int) := by omega
  go_enter Try.func3, Try.ntmps3
  go_wp2_with (go_at_call 7; refine HA.out.mono ?_; rintro e w1 ⟨rfl, hb⟩; have HB := Lib.hid hb; clear hb)
  go_ret
  exact ⟨rfl, HB.out⟩

set_option maxHeartbeats 2000000 in
set_option maxRecDepth 100000 in
theorem turns_core (a : Option Addr) (cap : Nat) (l : List Int) (w : World) (h : Arg w a cap l) (hl : l.length ≤ 60) : Calls Try.prog 3 #[.slice a l.length cap] w fun e w' => e = .returned (.bool true) ∧ Below w.heap.size w w' := by
  have HA := Lib.hid (alive_any w)
  have HL := Lib.hid h
  obtain ⟨n, hn⟩ : ∃ n, l.length = n := ⟨_, rfl⟩
  have HN := Lib.hid hn
  rw [hn] at hl ⊢
  have z : (n : Int) ≤ 60 := by omega
  obtain ⟨L1, hL1⟩ : ∃ L, l.reverse = L := ⟨_, rfl⟩
  obtain ⟨L2, hL2⟩ : ∃ L, L1.reverse.map neg64 = L := ⟨_, rfl⟩
  have n1 : L1.length = n := by rw [← hL1, List.length_reverse]; exact hn
  have n2 : L2.length = n := by rw [← hL2, List.length_map, List.length_reverse]; exact n1
  have N1 := Lib.hid n1; have N2 := Lib.hid n2; have E1 := Lib.hid hL1; have E2 := Lib.hid hL2
  clear h hn hL1 hL2 n1 n2
  go_enter Try.func3, Try.ntmps3
  go_wp2_with (go_at_call 7; refine HA.out.mono ?_; rintro e w1 ⟨rfl, hb⟩; have HB1 := Lib.hid hb; clear hb)
  -- joined
  have KJ := joined_any (HL.out.up HB1.out) (Arg.nil w1) (Arg.nil w1) (by rw [HN.out]; omega) (by simp) (by simp)
  rw [List.append_nil, List.append_nil, HN.out] at KJ
  refine KJ.mono ?_
  clear KJ
  rintro e w2 ⟨v, rfl, hrow, hb⟩
  obtain ⟨aO, cO, rfl, hO, hOb⟩ := Nums.own hrow
  have HO := Lib.hid hO; have HOb := Lib.hid hOb; have HB2 := Lib.hid (up_trans HB1.out hb)
  rw [HN.out]
  clear hO hOb hrow hb
  go_wp2_with fail
  -- Of
  have KO := of_any cO HO.out (by rw [HN.out]; omega)
  rw [HN.out] at KO
  refine KO.mono ?_
  clear KO
  rintro e w3 ⟨D, R, rfl, hD, hD1, hD2, hb⟩
  have s3 := hb.size
  have KN := len_any hD
  rw [HN.out] at KN
  have KL := list_any hD (by rw [HN.out]; omega)
  have HKN := Lib.hid KN; have HKL := Lib.hid KL; have HD := Lib.hid hD; have HB3 := Lib.hid (up_trans HB2.out hb); have HO3 := Lib.hid (HO.out.up hb)
  have hs12 := HB2.out.size
  clear KN KL hD hb
  go_wp2_with (go_at_call 10; refine HKN.out.mono ?_; rintro e w' ⟨rfl, rfl⟩)
  refine HKL.out.mono ?_
  clear HKN HKL
  rintro e w4 ⟨v, rfl, hrow, hb⟩
  have s4 := hb.size
  obtain ⟨a4, c4, rfl, h4, _⟩ := Nums.own hrow
  have HD4 := Lib.hid (HD.out.up hb); have HB4 := Lib.hid (up_trans HB3.out hb); have HO4 := Lib.hid (HO3.out.up hb); have H4 := Lib.hid h4
  rw [HN.out]
  clear hrow hb h4 HD HB3 HO3
  go_wp2_with fail
  have KI := ints_same c4 cap H4.out (HL.out.up HB4.out).1 (by rw [HN.out]; omega)
  rw [HN.out] at KI
  refine KI.mono ?_
  clear KI
  rintro e w5 ⟨rfl, hb⟩
  have s5 := hb.size
  have hD5 := HD4.out.up hb
  have HB5 := Lib.hid (up_trans HB4.out hb); have HO5 := Lib.hid (HO4.out.up hb)
  have KT := turn_same hD5 (by rw [HN.out]; omega)
  rw [E1.out] at KT
  have HKT := Lib.hid KT
  clear hb KT hD5 HD4 HB4 HO4 H4
  go_wp2_with fail
  refine HKT.out.mono ?_
  clear HKT
  rintro e w6 ⟨rfl, R6, hD, hR6, hb⟩
  have hne : ∀ p, aO = some p → p.block ≠ D ∧ p.block ≠ R := fun p hp => by have := HOb.out p hp; omega
  have hs5 := HB5.out.size
  have HO6 := Lib.hid (HO5.out.but hb hne); have HB6 := Lib.hid (HB5.out.trans (hb.below hs5 (by omega) (by omega))); have HD6 := Lib.hid hD
  have hR6' : w2.heap.size ≤ R6 := by rcases hR6 with h | h | h <;> omega
  have HKL := Lib.hid (list_any hD (by rw [N1.out]; omega))
  clear hD hR6 hb hne HO5 HB5
  go_wp2_with fail
  refine HKL.out.mono ?_
  clear HKL
  rintro e w7 ⟨v, rfl, hrow, hb⟩
  have s6 := HB6.out.size; have s7 := hb.size
  obtain ⟨a7, c7, rfl, h7, _⟩ := Nums.own hrow
  have HD7 := Lib.hid (HD6.out.up hb); have HB7 := Lib.hid (up_trans HB6.out hb); have HO7 := Lib.hid (HO6.out.up hb); have H7 := Lib.hid h7
  rw [N1.out]
  clear hrow hb h7 HD6 HB6 HO6
  go_wp2_with fail
  have KB := back_any cap (HL.out.up HB7.out).1 (by rw [HN.out]; omega) false
  rw [backL_false, HN.out, E1.out] at KB
  refine KB.mono ?_
  clear KB
  rintro e w8 ⟨v, rfl, hrow, hb⟩
  have s8 := hb.size
  obtain ⟨a8, c8, rfl, h8, _⟩ := Nums.own hrow
  have HD8 := Lib.hid (HD7.out.up hb); have HB8 := Lib.hid (up_trans HB7.out hb); have HO8 := Lib.hid (HO7.out.up hb)
  have KI := ints_same c7 c8 (H7.out.up hb) h8 (by rw [N1.out]; omega)
  rw [N1.out] at KI ⊢
  have HKI := Lib.hid KI
  clear hrow hb h8 HD7 HB7 HO7 H7 KI
  go_wp2_with fail
  refine HKI.out.mono ?_
  clear HKI
  rintro e w9 ⟨rfl, hb⟩
  have s9 := hb.size
  have HB9 := Lib.hid (up_trans HB8.out hb); have HO9 := Lib.hid (HO8.out.up hb)
  have KT := turn_neg (HD8.out.up hb) (by rw [N1.out]; omega)
  rw [E2.out] at KT
  have HKT := Lib.hid KT
  clear hb KT HD8 HB8 HO8
  go_wp2_with fail
  refine HKT.out.mono ?_
  clear HKT
  rintro e w10 ⟨rfl, R10, hD, _, hb⟩
  have s10 := hb.size
  have hne : ∀ p, aO = some p → p.block ≠ D ∧ p.block ≠ R6 := fun p hp => by have := HOb.out p hp; omega
  have HO10 := Lib.hid (HO9.out.but hb hne); have HB10 := Lib.hid (HB9.out.trans (hb.below HB9.out.size (by omega) (by omega)))
  have HKL := Lib.hid (list_any hD (by rw [N2.out]; omega))
  clear hD hb hne HO9 HB9
  go_wp2_with fail
  refine HKL.out.mono ?_
  clear HKL
  rintro e w11 ⟨v, rfl, hrow, hb⟩
  obtain ⟨a11, c11, rfl, h11, _⟩ := Nums.own hrow
  have HB11 := Lib.hid (up_trans HB10.out hb); have HO11 := Lib.hid (HO10.out.up hb); have H11 := Lib.hid h11
  rw [N2.out]
  clear hrow hb h11 HB10 HO10
  go_wp2_with fail
  have KB := back_any cap (HL.out.up HB11.out).1 (by rw [HN.out]; omega) false
  rw [backL_false, HN.out, E1.out] at KB
  refine KB.mono ?_
  clear KB
  rintro e w12 ⟨v, rfl, hrow, hb⟩
  obtain ⟨a12, c12, rfl, h12, _⟩ := Nums.own hrow
  have HB12 := Lib.hid (up_trans HB11.out hb); have HO12 := Lib.hid (HO11.out.up hb); have H12 := Lib.hid (H11.out.up hb)
  have KB := back_any c12 h12 (by rw [N1.out]; omega) true
  rw [backL_true, N1.out, E2.out] at KB
  rw [N1.out]
  have HKB := Lib.hid KB
  clear hrow hb h12 HB11 HO11 H11 KB
  go_wp2_with fail
  refine HKB.out.mono ?_
  clear HKB
  rintro e w13 ⟨v, rfl, hrow, hb⟩
  obtain ⟨a13, c13, rfl, h13, _⟩ := Nums.own hrow
  have HB13 := Lib.hid (up_trans HB12.out hb); have HO13 := Lib.hid (HO12.out.up hb)
  have KI := ints_same c11 c13 (H12.out.up hb) h13 (by rw [N2.out]; omega)
  rw [N2.out] at KI ⊢
  have HKI := Lib.hid KI
  clear hrow hb h13 HB12 HO12 H12 KI
  go_wp2_with fail
  refine HKI.out.mono ?_
  clear HKI
  rintro e w14 ⟨rfl, hb⟩
  have HB14 := Lib.hid (up_trans HB13.out hb)
  have KI := ints_same cO cap (HO13.out.up hb) (HL.out.up HB14.out).1 (by rw [HN.out]; omega)
  rw [HN.out] at KI
  have HKI := Lib.hid KI
  clear hb HB13 HO13 KI
  go_wp2_with fail
  refine HKI.out.mono ?_
  clear HKI
  rintro e w15 ⟨rfl, hb⟩
  have HB15 := Lib.hid (up_trans HB14.out hb)
  clear hb
  go_wp2
  go_ret
  exact ⟨rfl, HB15.out⟩

theorem walkDeckTurns (a : Option Addr) (len cap : Nat) (zs : List Int) (w : World)
    (h : (a = none ∧ len = 0 ∧ cap = 0 ∧ zs = []) ∨ ∃ x, a = some x ∧ len ≤ cap ∧ cap ≤ maxLen ∧ zs.length = cap ∧ (∀ i, i < zs.length → w.cell? (x.add i) = some (.int .i64 (zs.getD i 0))) ∧ ∀ n ∈ zs, (Lit.int .i64 n).wf = true) :
    Calls Try.prog 3 #[.slice a len cap] w fun e w' => e = .returned (.bool true) ∧ Below w.heap.size w w' := by
  by_cases hbig : 60 < len
  · exact turns_big a len cap w hbig
  · obtain ⟨h1, h2, _⟩ := arg_of h
    have := turns_core a cap (zs.take len) w h1 (by omega)
    rwa [h2] at this
end Go.Proofs.Ytiekhpeekhibeaa
