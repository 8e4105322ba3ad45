/- DeckSelf answers true at every input, and changes nothing that was there. -/
import Derived.Test.YtiekhpeekhibeaaDeckTurnsWalk
import Derived.Test.YtiekhpeekhibeaaDeckCut
namespace Go.Proofs.Ytiekhpeekhibeaa
open Go.RowKit
set_option linter.unusedVariables false

theorem self_big (a b : Option Addr) (la ca lb cb : Nat) (w : World) (h : 40 < la ∨ 40 < lb) : Calls Try.prog 5 #[.slice a la ca, .slice b lb cb] w fun e w' => e = .returned (.bool true) ∧ Below w.heap.size w w' := by
  have HA := Lib.hid (alive_any w)
  by_cases h1 : 40 < la
  · have z : (40 : Int) < (la : Int) := by omega
    go_enter Try.func5, Try.ntmps5
    go_wp2_with (go_at_call 7; refine HA.out.mono ?_; rintro e w1 ⟨rfl, hb⟩; have HB := Lib.hid hb; clear hb)
    go_ret
    exact ⟨rfl, HB.out⟩
  · have z : (la : Int) ≤ (40 : Int) := by omega
    have z2 : (40 : Int) < (lb : Int) := by omega
    go_enter Try.func5, Try.ntmps5
    go_wp2_with (go_at_call 7; refine HA.out.mono ?_; rintro e w1 ⟨rfl, hb⟩; have HB := Lib.hid hb; clear hb)
    go_ret
    exact ⟨rfl, HB.out⟩

set_option maxHeartbeats 2000000 in
set_option maxRecDepth 100000 in
theorem self_core (a b : Option Addr) (ca cb : Nat) (la lb : List Int) (w : World) (ha : Arg w a ca la) (hb : Arg w b cb lb) (hla : la.length ≤ 40) (hlb : lb.length ≤ 40) :
    Calls Try.prog 5 #[.slice a la.length ca, .slice b lb.length cb] w fun e w' => e = .returned (.bool true) ∧ Below w.heap.size w w' := by
  have HAl := Lib.hid (alive_any w)
  have HA := Lib.hid ha; have HBb := Lib.hid hb
  obtain ⟨m, hm⟩ : ∃ n, la.length = n := ⟨_, rfl⟩
  obtain ⟨n, hn⟩ : ∃ n, lb.length = n := ⟨_, rfl⟩
  have HM := Lib.hid hm; have HN := Lib.hid hn
  rw [hm] at hla ⊢
  rw [hn] at hlb ⊢
  have z1 : (m : Int) ≤ 40 := by omega
  have z2 : (n : Int) ≤ 40 := by omega
  obtain ⟨LA, hLA⟩ : ∃ L, la ++ la = L := ⟨_, rfl⟩
  obtain ⟨LB, hLB⟩ : ∃ L, lb ++ lb = L := ⟨_, rfl⟩
  have lA : LA.length = m + m := by rw [← hLA, List.length_append, hm]
  have lB : LB.length = n + n := by rw [← hLB, List.length_append, hn]
  have EA := Lib.hid hLA; have EB := Lib.hid hLB; have NA := Lib.hid lA; have NB := Lib.hid lB
  clear ha hb hm hn hLA hLB lA lB
  go_enter Try.func5, Try.ntmps5
  go_wp2_with (go_at_call 7; refine HAl.out.mono ?_; rintro e w1 ⟨rfl, hb⟩; have HB1 := Lib.hid hb; clear hb)
  -- d, e
  have KO := of_any ca (HA.out.up HB1.out).1 (by rw [HM.out]; omega)
  rw [HM.out] at KO
  refine KO.mono ?_
  clear KO
  rintro e w2 ⟨D, RD, rfl, hD, hD1, hD2, hb⟩
  have HB2 := Lib.hid (up_trans HB1.out hb); have s1 := HB1.out.size; have s2 := hb.size
  have dD := hD.ltD; have dR := hD.ltR
  have HD2 := Lib.hid hD
  clear hD hb HB1
  go_wp2_with fail
  have KO := of_any cb (HBb.out.up HB2.out).1 (by rw [HN.out]; omega)
  rw [HN.out] at KO
  refine KO.mono ?_
  clear KO
  rintro e w3 ⟨E, RE, rfl, hE, hE1, hE2, hb⟩
  have HB3 := Lib.hid (up_trans HB2.out hb); have s3 := hb.size
  have hD3 := HD2.out.up hb
  have HK := Lib.hid (over_any hD3 (p := some ⟨D, 0, none⟩) (.inr ⟨D, RD, rfl, hD3⟩) (by rw [HM.out]; omega) (by rw [HM.out]; omega))
  have eE := hE.ltD; have eR := hE.ltR
  have HE3 := Lib.hid hE
  clear hD3 hE hb HD2 HB2
  go_wp2_with fail
  refine HK.out.mono ?_
  clear HK
  rintro e w4 ⟨rfl, RD4, hD, hR, hb⟩
  rw [EA.out] at hD
  have HB4 := Lib.hid (HB3.out.trans (hb.below HB3.out.size (by omega) (by omega))); have s4 := hb.size
  have hE4 := HE3.out.but hb (by omega) (by omega) (by omega) (by omega)
  have HD4 := Lib.hid hD
  have HK := Lib.hid (under_any hE4 (p := some ⟨E, 0, none⟩) (.inr ⟨E, RE, rfl, hE4⟩) (by rw [HN.out]; omega) (by rw [HN.out]; omega))
  have hRD : RD4 ≠ E ∧ RD4 ≠ RE ∧ w.heap.size ≤ RD4 := by rcases hR with h | h | h <;> omega
  obtain ⟨q1, q2, q3⟩ := hRD
  clear hE4 hD hb hR HB3 HE3
  go_wp2_with fail
  refine HK.out.mono ?_
  clear HK
  rintro e w5 ⟨rfl, RE5, hE, hR, hb⟩
  rw [EB.out] at hE
  have HB5 := Lib.hid (HB4.out.trans (hb.below HB4.out.size (by omega) (by omega))); have s5 := hb.size
  have hD5 := HD4.out.but hb (by omega) (by omega) (by omega) (by omega)
  have HD5 := Lib.hid hD5
  have HK := Lib.hid (over_any (p := none) (xs := []) hE (.inl ⟨rfl, rfl⟩) (by rw [NB.out]; omega) (by simp))
  have hl4 := HD4.out.ltR
  have hRE : RE5 ≠ D ∧ RE5 ≠ RD4 ∧ w.heap.size ≤ RE5 := by rcases hR with h | h | h <;> omega
  obtain ⟨q4, q5, q6⟩ := hRE
  clear hE hD5 hb hR HB4 HD4 hl4
  go_wp2_with (first
    | (go_at_call 16; with_reducible refine (over_nil _ _).mono ?_; rintro e w' ⟨rfl, rfl⟩)
    | (go_at_call 17; refine (under_nil _ _).mono ?_; rintro e w' ⟨rfl, rfl⟩)
    | (go_at_call 13; refine (turn_none _ _).mono ?_; rintro e w' ⟨rfl, rfl⟩))
  refine HK.out.mono ?_
  clear HK
  rintro e w6 ⟨rfl, RE6, hE, hR, hb⟩
  rw [List.nil_append] at hE
  have HB6 := Lib.hid (HB5.out.trans (hb.below HB5.out.size (by omega) (by omega)))
  have hD6 := HD5.out.but hb (by omega) (by omega) (by omega) (by omega)
  have HKD := Lib.hid (list_any hD6 (by rw [NA.out]; omega)); have HE6 := Lib.hid hE
  clear hE hD6 hb hR HB5 HD5
  go_wp2_with fail
  refine HKD.out.mono ?_
  clear HKD
  rintro e w7 ⟨v, rfl, hrow, hb⟩
  obtain ⟨a7, c7, rfl, h7, _⟩ := Nums.own hrow
  have HB7 := Lib.hid (up_trans HB6.out hb); have HE7 := Lib.hid (HE6.out.up hb); have H7 := Lib.hid h7
  rw [NA.out]
  clear hrow hb h7 HB6 HE6
  have KJ := joined_any (HA.out.up HB7.out) (HA.out.up HB7.out) (Arg.nil w7) (by rw [HM.out]; omega) (by rw [HM.out]; omega) (by simp)
  rw [List.append_nil, HM.out, EA.out] at KJ
  have HKJ := Lib.hid KJ
  clear KJ
  go_wp2_with fail
  refine HKJ.out.mono ?_
  clear HKJ
  rintro e w8 ⟨v, rfl, hrow, hb⟩
  obtain ⟨a8, c8, rfl, h8, _⟩ := Nums.own hrow
  have HB8 := Lib.hid (up_trans HB7.out hb); have HE8 := Lib.hid (HE7.out.up hb)
  have KI := ints_same c7 c8 (H7.out.up hb) h8 (by rw [NA.out]; omega)
  rw [NA.out] at KI ⊢
  have HKI := Lib.hid KI
  clear hrow hb h8 HB7 HE7 H7 KI
  go_wp2_with fail
  refine HKI.out.mono ?_
  clear HKI
  rintro e w9 ⟨rfl, hb⟩
  have HB9 := Lib.hid (up_trans HB8.out hb)
  have HKL := Lib.hid (list_any (HE8.out.up hb) (by rw [NB.out]; omega))
  clear hb HB8 HE8
  go_wp2_with fail
  refine HKL.out.mono ?_
  clear HKL
  rintro e w10 ⟨v, rfl, hrow, hb⟩
  obtain ⟨a10, c10, rfl, h10, _⟩ := Nums.own hrow
  have HB10 := Lib.hid (up_trans HB9.out hb); have H10 := Lib.hid h10
  rw [NB.out]
  have KJ := joined_any (HBb.out.up HB10.out) (HBb.out.up HB10.out) (Arg.nil w10) (by rw [HN.out]; omega) (by rw [HN.out]; omega) (by simp)
  rw [List.append_nil, HN.out, EB.out] at KJ
  have HKJ := Lib.hid KJ
  clear hrow hb h10 HB9 KJ
  go_wp2_with fail
  refine HKJ.out.mono ?_
  clear HKJ
  rintro e w11 ⟨v, rfl, hrow, hb⟩
  obtain ⟨a11, c11, rfl, h11, _⟩ := Nums.own hrow
  have HB11 := Lib.hid (up_trans HB10.out hb)
  have KI := ints_same c10 c11 (H10.out.up hb) h11 (by rw [NB.out]; omega)
  rw [NB.out] at KI ⊢
  have HKI := Lib.hid KI
  clear hrow hb h11 HB10 H10 KI
  go_wp2_with fail
  refine HKI.out.mono ?_
  clear HKI
  rintro e w12 ⟨rfl, hb⟩
  have HB12 := Lib.hid (up_trans HB11.out hb)
  clear hb HB11
  go_wp2_with (first
    | (go_at_call 10; refine (len_nil _).mono ?_; rintro e w' ⟨rfl, rfl⟩)
    | (go_at_call 12; refine (list_nil _).mono ?_; rintro e w' ⟨rfl, rfl⟩)
    | (go_at_call 18; refine (into_nil _ _).mono ?_; rintro e w' ⟨rfl, rfl⟩)
    | (go_at_call 20; refine (cut_nil _ _).mono ?_; rintro e w' ⟨rfl, rfl⟩))
  go_ret
  exact ⟨rfl, HB12.out⟩

theorem walkDeckSelf (a : Option Addr) (len cap : Nat) (zs : List Int) (b : Option Addr) (len' cap' : Nat) (zs' : List Int) (w : World)
    (h : (a = none ∧ len = 0 ∧ cap = 0 ∧ zs = []) ∨ ∃ x, a = some x ∧ len ≤ cap ∧ cap ≤ maxLen ∧ zs.length = cap ∧ (∀ i, i < zs.length → w.cell? (x.add i) = some (.int .i64 (zs.getD i 0))) ∧ ∀ n ∈ zs, (Lit.int .i64 n).wf = true)
    (h' : (b = none ∧ len' = 0 ∧ cap' = 0 ∧ zs' = []) ∨ ∃ x, b = some x ∧ len' ≤ cap' ∧ cap' ≤ maxLen ∧ zs'.length = cap' ∧ (∀ i, i < zs'.length → w.cell? (x.add i) = some (.int .i64 (zs'.getD i 0))) ∧ ∀ n ∈ zs', (Lit.int .i64 n).wf = true) :
    Calls Try.prog 5 #[.slice a len cap, .slice b len' cap'] w fun e w' => e = .returned (.bool true) ∧ Below w.heap.size w w' := by
  by_cases hbig : 40 < len ∨ 40 < len'
  · exact self_big a b len cap len' cap' w hbig
  · obtain ⟨h1, h2, _⟩ := arg_of h
    obtain ⟨h3, h4, _⟩ := arg_of h'
    have := self_core a b cap cap' (zs.take len) (zs'.take len') w h1 h3 (by omega) (by omega)
    rwa [h2, h4] at this
end Go.Proofs.Ytiekhpeekhibeaa
