/- DeckLays answers true at every input, and changes nothing that was there. -/
import Derived.Test.YtiekhpeekhibeaaDeckTurnsWalk
import Derived.Test.YtiekhpeekhibeaaDeckCut
import Derived.Test.YtiekhpeekhibeaaDeckWalked
import Derived.Deep.DeepCutAuto
import Derived.BigRegion
import Derived.Deep.RegionHeld3
namespace Go.Proofs.Ytiekhpeekhibeaa
open Go.RowKit
set_option linter.unusedVariables false

/-- A list, as it is told. -/
theorem list_m {w : World} {D R : Nat} {l : List Int} (h : Dk w D R l) {n : Nat} (hn : l.length = n) (hm : n ≤ 1000000) :
    Calls Try.prog 12 #[.pointer (some ⟨D, 0, none⟩)] w fun e w' => ∃ a c, e = .returned (.slice a n c) ∧ Nums w' a l ∧ Below w.heap.size w w' := by
  refine (list_any h (by omega)).mono ?_
  rintro e w' ⟨v, rfl, hrow, hb⟩
  obtain ⟨a, c, rfl, h1, _⟩ := Nums.own hrow
  exact ⟨a, c, by rw [hn], h1, hb⟩
theorem ints_m {w : World} {a b : Option Addr} {l : List Int} {n : Nat} (hn : l.length = n) (ca cb : Nat) (ha : Nums w a l) (hb : Nums w b l) (hl : n ≤ 1000) :
    Calls Try.prog 11 #[.slice a n ca, .slice b n cb] w fun e w' => e = .returned (.bool true) ∧ Below w.heap.size w w' := by
  subst hn
  exact ints_same ca cb ha hb hl
theorem Nums.dropTo {w : World} {a : Option Addr} {l : List Int} (h : Nums w a l) (k : Nat) : Nums w (a.map fun x => x.add k) (l.drop k) := by
  rcases h with rfl | ⟨b, off, rfl, h⟩
  · exact .inl (by simp)
  · rw [Option.map_some, add_at]
    exact Nums.drop (.inr ⟨b, off, rfl, h⟩) k
/-- Lists, one behind the other. -/
theorem joined_n {w : World} {a b c : Option Addr} {ca cb cc na nb nc : Nat} {la lb lc L : List Int} (ha : Arg w a ca la) (hb : Arg w b cb lb) (hc : Arg w c cc lc) (na' : la.length = na) (nb' : lb.length = nb) (nc' : lc.length = nc) (hL : la ++ lb ++ lc = L) {n : Nat} (hn : L.length = n) (h1 : na ≤ 1000) (h2 : nb ≤ 1000) (h3 : nc ≤ 1000) :
    Calls Try.prog 8 #[.slice a na ca, .slice b nb cb, .slice c nc cc] w fun e w' => ∃ a c, e = .returned (.slice a n c) ∧ Nums w' a L ∧ n ≤ c ∧ Below w.heap.size w w' := by
  subst na' nb' nc' hn hL
  refine (joined_any ha hb hc h1 h2 h3).mono ?_
  rintro e w' ⟨v, rfl, hrow, hb⟩
  obtain ⟨a', c', rfl, hn, _⟩ := Nums.own hrow
  refine ⟨a', c', rfl, hn, ?_, hb⟩
  rcases hrow.2 with ⟨e, h0⟩ | ⟨g, cap, cur, e, _, _, hcap, _⟩
  · omega
  · cases e; exact hcap
/-- The first things of a deck, as they are gone through. -/
theorem walked_n {w : World} {G R : Nat} {l L : List Int} (h : Dk w G R l) (hle : l.length ≤ 1000) (m : Nat) (hm : 1 ≤ m) (hm2 : m ≤ 1000) (hL : l.take m = L) {n : Nat} (hn : L.length = n) :
    Calls Try.prog 19 #[.pointer (some ⟨G, 0, none⟩), .int .i64 (m : Int)] w fun e w' => ∃ a c, e = .returned (.tuple #[.slice a n c, .bool true]) ∧ Nums w' a L ∧ Below w.heap.size w w' := by
  subst hL hn
  refine (walked_any h hle m hm hm2).mono ?_
  rintro e w' ⟨v, rfl, hrow, hb⟩
  obtain ⟨a, c, rfl, h1, _⟩ := Nums.own hrow
  exact ⟨a, c, rfl, h1, hb⟩
/-- Into, of whatever deck. -/
theorem into_both {w : World} {D R : Nat} {l : List Int} (h : Dk w D R l) {p : Option Addr} {xs : List Int} (hp : Has w p xs) (hl : l.length ≤ 1000000) (hx : xs.length ≤ 1000000) (ev : Bool) (hev : decide (l.length % 2 = 0) = ev) :
    Calls Try.prog 18 #[.pointer (some ⟨D, 0, none⟩), .pointer p] w fun e w' => e = .returned (.bool ev) ∧ Made w D R (if ev then ins (l.length / 2) xs l else l) w' := by
  cases ev
  · refine (into_odd h p (by simp at hev; omega)).mono ?_
    rintro e w' ⟨rfl, rfl⟩
    exact ⟨rfl, R, by simpa using h, .inr (.inl rfl), But.refl _ _ _⟩
  · refine (into_even h hp hl hx (by simpa using hev)).mono ?_
    rintro e w' ⟨rfl, hm⟩
    exact ⟨rfl, by simpa using hm⟩

theorem lays_big (a b : Option Addr) (la ca lb cb : Nat) (many : Int) (w : World) (h : 40 < la ∨ 40 < lb) : Calls Try.prog 4 #[.slice a la ca, .slice b lb cb, .int .u8 many] w fun e w' => e = .returned (.bool true) ∧ Below w.heap.size w w' := by
  have HA := Lib.hid (alive_any w)
  by_cases h1 : 40 < la
  · have z : (40 : Int) < (la : Int) := by omega
    go_enter Try.func4, Try.ntmps4
    go_wp2_with (go_at_call 7; refine HA.out.mono ?_; rintro e w1 ⟨rfl, hb⟩; have HB := Lib.hid hb; clear hb)
    go_ret
    exact ⟨rfl, HB.out⟩
  · have z : (la : Int) ≤ (40 : Int) := by omega
    have z2 : (40 : Int) < (lb : Int) := by omega
    go_enter Try.func4, Try.ntmps4
    go_wp2_with (go_at_call 7; refine HA.out.mono ?_; rintro e w1 ⟨rfl, hb⟩; have HB := Lib.hid hb; clear hb)
    go_ret
    exact ⟨rfl, HB.out⟩

set_option maxHeartbeats 4000000 in
set_option maxRecDepth 100000 in
theorem lays_core (a b : Option Addr) (ca cb : Nat) (la lb : List Int) (many : Int) (w : World) (ha : Arg w a ca la) (hb : Arg w b cb lb) (hca : la.length ≤ ca) (hla : la.length ≤ 40) (hlb : lb.length ≤ 40) (hmany : 0 ≤ many ∧ many ≤ 255) :
    Calls Try.prog 4 #[.slice a la.length ca, .slice b lb.length cb, .int .u8 many] w fun e w' => e = .returned (.bool true) ∧ Below w.heap.size w w' := by
  have HAl := Lib.hid (alive_any w)
  have HA := Lib.hid ha; have HBb := Lib.hid hb
  obtain ⟨m, hm⟩ : ∃ n, la.length = n := ⟨_, rfl⟩
  obtain ⟨n, hn⟩ : ∃ n, lb.length = n := ⟨_, rfl⟩
  obtain ⟨ev, hev⟩ : ∃ e, decide (la.length % 2 = 0) = e := ⟨_, rfl⟩
  obtain ⟨LW, hLW⟩ : ∃ L, (if ev then ins (la.length / 2) lb la else la) = L := ⟨_, rfl⟩
  obtain ⟨LO, hLO⟩ : ∃ L, lb ++ la = L := ⟨_, rfl⟩
  obtain ⟨LU, hLU⟩ : ∃ L, la ++ lb = L := ⟨_, rfl⟩
  obtain ⟨nw, hnw⟩ : ∃ n, LW.length = n := ⟨_, rfl⟩
  have bw : nw ≤ 80 := by rw [← hnw, ← hLW]; split; rw [ins_length]; omega; omega
  have lO : LO.length = n + m := by rw [← hLO, List.length_append, hm, hn]
  have lU : LU.length = m + n := by rw [← hLU, List.length_append, hm, hn]
  have HM := Lib.hid hm; have HN := Lib.hid hn; have HV := Lib.hid hev; have EW := Lib.hid hLW; have EO := Lib.hid hLO; have EU := Lib.hid hLU; have NW := Lib.hid hnw; have NO := Lib.hid lO; have NU := Lib.hid lU
  rw [hm] at hla hca ⊢
  rw [hn] at hlb ⊢
  have z1 : (m : Int) ≤ 40 := by omega
  have z2 : (n : Int) ≤ 40 := by omega
  clear ha hb hm hn hev hLW hLO hLU hnw lO lU
  go_enter Try.func4, Try.ntmps4
  go_wp2_with (go_at_call 7; refine HAl.out.mono ?_; rintro e w1 ⟨rfl, hb⟩; have HB1 := Lib.hid hb; clear hb)
  -- the four decks
  have KA := fun (w' : World) (h : Below w.heap.size w w') => of_any ca (HA.out.up h).1 (by rw [HM.out]; omega)
  rw [HM.out] at KA
  have KB := fun (w' : World) (h : Below w.heap.size w w') => of_any cb (HBb.out.up h).1 (by rw [HN.out]; omega)
  rw [HN.out] at KB
  have HKA := Lib.hid KA; have HKB := Lib.hid KB
  clear KA KB
  refine (HKA.out _ HB1.out).mono ?_
  rintro e w2 ⟨O, RO, rfl, hO, hO1, hO2, hb⟩
  have s1 := HB1.out.size; have s2 := hb.size
  have HB2 := Lib.hid (up_trans HB1.out hb); have HO2 := Lib.hid hO
  have oD := hO.ltD; have oR := hO.ltR
  clear hO hb HB1
  go_wp2_with fail
  refine (HKA.out _ HB2.out).mono ?_
  rintro e w3 ⟨U, RU, rfl, hU, hU1, hU2, hb⟩
  have s3 := hb.size
  have HB3 := Lib.hid (up_trans HB2.out hb); have HO3 := Lib.hid (HO2.out.up hb); have HU3 := Lib.hid hU
  have uD := hU.ltD; have uR := hU.ltR
  clear hU hb HB2 HO2
  go_wp2_with fail
  refine (HKA.out _ HB3.out).mono ?_
  rintro e w4 ⟨I, RI, rfl, hI, hI1, hI2, hb⟩
  have s4 := hb.size
  have HB4 := Lib.hid (up_trans HB3.out hb); have HO4 := Lib.hid (HO3.out.up hb); have HU4 := Lib.hid (HU3.out.up hb); have HI4 := Lib.hid hI
  have iD := hI.ltD; have iR := hI.ltR
  clear hI hb HB3 HO3 HU3
  go_wp2_with fail
  refine (HKB.out _ HB4.out).mono ?_
  rintro e w5 ⟨Q, RQ, rfl, hQ, hQ1, hQ2, hb⟩
  have s5 := hb.size
  have HB5 := Lib.hid (up_trans HB4.out hb); have hO5 := HO4.out.up hb; have HU5 := Lib.hid (HU4.out.up hb); have HI5 := Lib.hid (HI4.out.up hb); have HQ5 := Lib.hid hQ
  have qD := hQ.ltD; have qR := hQ.ltR
  have HK := Lib.hid (over_any (p := some ⟨Q, 0, none⟩) hO5 (.inr ⟨Q, RQ, rfl, hQ⟩) (by rw [HM.out]; omega) (by rw [HN.out]; omega))
  clear hQ hO5 hb HB4 HO4 HU4 HI4 HKA HKB
  go_wp2_with fail
  refine HK.out.mono ?_
  clear HK
  rintro e w6 ⟨rfl, RO6, hO, hR, hb⟩
  rw [EO.out] at hO
  have s6 := hb.size
  have rO : RO6 < w2.heap.size ∧ w1.heap.size ≤ RO6 ∨ w5.heap.size ≤ RO6 := by rcases hR with h | h | h <;> omega
  have HB6 := Lib.hid (HB5.out.trans (hb.below HB5.out.size (by omega) (by omega)))
  have hU6 := HU5.out.but hb (by omega) (by omega) (by omega) (by omega); have HI6 := Lib.hid (HI5.out.but hb (by omega) (by omega) (by omega) (by omega)); have hQ6 := HQ5.out.but hb (by omega) (by omega) (by omega) (by omega)
  have HO6 := Lib.hid hO; have HQ6 := Lib.hid hQ6
  have HK := Lib.hid (under_any (p := some ⟨Q, 0, none⟩) hU6 (.inr ⟨Q, RQ, rfl, hQ6⟩) (by rw [HM.out]; omega) (by rw [HN.out]; omega))
  clear hO hR hb hU6 hQ6 HB5 HU5 HI5 HQ5
  go_wp2_with fail
  refine HK.out.mono ?_
  clear HK
  rintro e w7 ⟨rfl, RU7, hU, hR, hb⟩
  rw [EU.out] at hU
  have s7 := hb.size
  have hlO6 := HO6.out.ltR
  have rU : RU7 < w3.heap.size ∧ w2.heap.size ≤ RU7 ∨ w6.heap.size ≤ RU7 := by rcases hR with h | h | h <;> omega
  have HB7 := Lib.hid (HB6.out.trans (hb.below HB6.out.size (by omega) (by omega)))
  have HO7 := Lib.hid (HO6.out.but hb (by omega) (by omega) (by omega) (by omega)); have hI7 := HI6.out.but hb (by omega) (by omega) (by omega) (by omega); have hQ7 := HQ6.out.but hb (by omega) (by omega) (by omega) (by omega)
  have HU7 := Lib.hid hU; have HQ7 := Lib.hid hQ7
  have KI := into_both (p := some ⟨Q, 0, none⟩) hI7 (.inr ⟨Q, RQ, rfl, hQ7⟩) (by rw [HM.out]; omega) (by rw [HN.out]; omega) ev HV.out
  rw [EW.out] at KI
  have HK := Lib.hid KI
  clear hU hR hb hI7 hQ7 HB6 HO6 HI6 HQ6 KI
  go_wp2_with fail
  refine HK.out.mono ?_
  clear HK
  rintro e w8 ⟨rfl, RI8, hI, hR, hb⟩
  have HB8 := Lib.hid (HB7.out.trans (hb.below HB7.out.size (by omega) (by omega)))
  have hlU7 := HU7.out.ltR
  have HO8 := Lib.hid (HO7.out.but hb (by omega) (by omega) (by omega) (by omega)); have HU8 := Lib.hid (HU7.out.but hb (by omega) (by omega) (by omega) (by omega)); have HQ8 := Lib.hid (HQ7.out.but hb (by omega) (by omega) (by omega) (by omega)); have HI8 := Lib.hid hI
  clear hI hR hb HB7 HO7 HU7 HQ7 s1 s2 s3 s4 s5 s6 s7 oD oR uD uR iD iR qD qR hO1 hO2 hU1 hU2 hI1 hI2 hQ1 hQ2 rO rU hlO6 hlU7
  have KJ := joined_n (L := la) (n := m) (HA.out.up HB8.out) (Arg.nil w8) (Arg.nil w8) HM.out rfl rfl (by simp) HM.out (by omega) (by simp) (by simp)
  have HK := Lib.hid KJ
  clear KJ
  go_wp2_with fail
  refine HK.out.mono ?_
  clear HK
  rintro e w9 ⟨a9, c9, rfl, h9, _, hb⟩
  have HB9 := Lib.hid (up_trans HB8.out hb); have HO9 := Lib.hid (HO8.out.up hb); have HU9 := Lib.hid (HU8.out.up hb); have HI9 := Lib.hid (HI8.out.up hb); have HQ9 := Lib.hid (HQ8.out.up hb); have H9 := Lib.hid h9
  clear hb h9 HB8 HO8 HU8 HI8 HQ8
  have r1 : ((m : Int) % 2 == 0) = ev := by rw [← HV.out, HM.out]; by_cases h : m % 2 = 0 <;> simp [h] <;> omega
  go_upto_if 49 with fail
  go_cut [12] (fun s12 wx => ∃ aw cw, s12 = .slice aw nw cw ∧ Nums wx aw LW ∧ Below w9.heap.size w9 wx)
  case first =>
    cases ev
    · have e : la = LW := EW.out
      have e2 : nw = m := by rw [← NW.out, ← e]; exact HM.out
      go_wp2
      go_meet
      exact ⟨a9, c9, by rw [e2], by rw [← e]; exact H9.out, Below.refl _ _⟩
    · have e : ins (la.length / 2) lb la = LW := EW.out
      rw [HM.out] at e
      obtain ⟨h, hh⟩ : ∃ h, m / 2 = h := ⟨_, rfl⟩
      rw [hh] at e
      have r2 : (m : Int).tdiv 2 = (h : Int) := by rw [Int.tdiv_eq_ediv_of_nonneg (by omega)]; omega
      have r4 : (m : Int) / 2 = (h : Int) := by omega
      have r3 : IntKind.i64.wrap (h : Int) = (h : Int) := IntWalk.i64_in _ (by omega)
      have q0 : (0 : Int) ≤ (h : Int) := by omega
      have q1 : (h : Int) ≤ (m : Int) := by omega
      have q2 : (h : Int) ≤ (ca : Int) := by omega
      have hA := fun (w' : World) (hb : Below w9.heap.size w9 w') => HA.out.up (up_trans HB9.out hb)
      rcases Decidable.em (ca = h) with hek | hne
      · have h0 : h = 0 := by omega
        have m0 : m = h := by omega
        subst hek
        subst m0
        have KJ := fun (w' : World) (hb : Below w9.heap.size w9 w') => joined_n (L := LW) (n := nw) (a := a) (b := b) (c := a) (ca := m) (cb := cb) (cc := 0) (na := m) (nb := n) (nc := 0) (la := la.take m) (lc := la.drop m) ⟨(hA w' hb).1.take m, (hA w' hb).2⟩ (HBb.out.up (up_trans HB9.out hb)) ⟨by rw [List.eq_nil_of_length_eq_zero (show (la.drop m).length = 0 by rw [List.length_drop, HM.out]; omega)]; exact Nums.nil, fun _ => rfl⟩ (by rw [List.length_take, HM.out]; omega) HN.out (by rw [List.length_drop, HM.out]; omega) e NW.out (by omega) (by omega) (by omega)
        clear h0
        have HK := Lib.hid KJ
        clear KJ hA hh
        go_wp2_with fail
        go_region_held3 (fun _ => True) (trivial) (first | (go_at_call 8; (refine (HK.out _ (up_drew (Below.refl _ _))).mono ?_); rintro e w10 ⟨a10, c10, rfl, h10, _, hb10⟩))
        all_goals
          go_wp2
          go_meet
          exact ⟨a10, c10, rfl, h10, up_trans (up_drew (Below.refl _ _)) hb10⟩
      · have KJ := fun (w' : World) (hb : Below w9.heap.size w9 w') => joined_n (L := LW) (n := nw) (a := a) (b := b) (c := a.map fun x => x.add h) (ca := ca) (cb := cb) (cc := ca - h) (na := h) (nb := n) (nc := m - h) ⟨(hA w' hb).1.take h, (hA w' hb).2⟩ (HBb.out.up (up_trans HB9.out hb)) ⟨(hA w' hb).1.dropTo h, fun e => by have := (hA w' hb).2 (by simpa using e); omega⟩ (by rw [List.length_take, HM.out]; omega) HN.out (by rw [List.length_drop, HM.out]) e NW.out (by omega) (by omega) (by omega)
        have HK := Lib.hid KJ
        clear KJ hA hh
        go_wp2_with fail
        go_region_held3 (fun _ => True) (trivial) (first | (go_at_call 8; (refine (HK.out _ (up_drew (Below.refl _ _))).mono ?_); rintro e w10 ⟨a10, c10, rfl, h10, _, hb10⟩))
        all_goals
          go_wp2
          go_meet
          exact ⟨a10, c10, rfl, h10, up_trans (up_drew (Below.refl _ _)) hb10⟩
  case rest =>
    obtain ⟨aw, cw, rfl, hw, hb⟩ := hcut
    have HB10 := Lib.hid (up_trans HB9.out hb); have HO10 := Lib.hid (HO9.out.up hb); have HU10 := Lib.hid (HU9.out.up hb); have HQ10 := Lib.hid (HQ9.out.up hb); have HW := Lib.hid hw
    have HK := Lib.hid (list_m (HI9.out.up hb) NW.out (by omega))
    clear hw hb HB9 HO9 HU9 HI9 HQ9 H9
    go_wp2_with fail
    refine HK.out.mono ?_
    clear HK
    rintro e w11 ⟨a11, c11, rfl, h11, hb⟩
    have HB11 := Lib.hid (up_trans HB10.out hb); have HO11 := Lib.hid (HO10.out.up hb); have HU11 := Lib.hid (HU10.out.up hb); have HQ11 := Lib.hid (HQ10.out.up hb)
    have HK := Lib.hid (ints_m NW.out c11 cw h11 (HW.out.up hb) (by omega))
    clear hb h11 HB10 HO10 HU10 HQ10 HW
    go_wp2_with fail
    refine HK.out.mono ?_
    clear HK
    rintro e w12 ⟨rfl, hb⟩
    have HB12 := Lib.hid (up_trans HB11.out hb); have HO12 := Lib.hid (HO11.out.up hb); have HU12 := Lib.hid (HU11.out.up hb)
    have HK := Lib.hid (list_m (HQ11.out.up hb) HN.out (by omega))
    clear hb HB11 HO11 HU11 HQ11
    go_wp2_with fail
    refine HK.out.mono ?_
    clear HK
    rintro e w13 ⟨a13, c13, rfl, h13, hb⟩
    have HB13 := Lib.hid (up_trans HB12.out hb); have HO13 := Lib.hid (HO12.out.up hb); have HU13 := Lib.hid (HU12.out.up hb)
    have HK := Lib.hid (ints_m HN.out c13 cb h13 (HBb.out.up HB13.out).1 (by omega))
    clear hb h13 HB12 HO12 HU12
    go_wp2_with fail
    refine HK.out.mono ?_
    clear HK
    rintro e w14 ⟨rfl, hb⟩
    have HB14 := Lib.hid (up_trans HB13.out hb); have HO14 := Lib.hid (HO13.out.up hb); have HU14 := Lib.hid (HU13.out.up hb)
    clear hb HB13 HO13 HU13
    obtain ⟨k, hk⟩ : ∃ k : Nat, 1 + many % 60 = (k : Int) := ⟨(1 + many % 60).toNat, by omega⟩
    have k1 : 1 ≤ k := by omega
    have k2 : k ≤ 60 := by omega
    have wk : IntKind.i64.wrap (1 + many % 60) = (k : Int) := by rw [hk]; exact IntWalk.i64_in _ (by omega)
    have wm : IntKind.i64.wrap many = many := IntWalk.i64_in _ (by omega)
    obtain ⟨LQ, hLQ⟩ : ∃ L, LO.take k = L := ⟨_, rfl⟩
    obtain ⟨q, hq⟩ : ∃ q, min k (n + m) = q := ⟨_, rfl⟩
    have lq : LQ.length = q := by rw [← hLQ, List.length_take, NO.out]; exact hq
    have eq : LO.take q = LQ := by
      rw [← hLQ, ← hq]
      by_cases h : k ≤ n + m
      · rw [Nat.min_eq_left h]
      · rw [Nat.min_eq_right (by omega), List.take_of_length_le (by rw [NO.out]; exact Nat.le_refl _), List.take_of_length_le (by rw [NO.out]; omega)]
    have HK := Lib.hid (walked_n HO14.out (by rw [NO.out]; omega) k k1 (by omega) hLQ lq)
    have HQ := Lib.hid hq; have NQ := Lib.hid lq; have EQ := Lib.hid eq
    clear hLQ hq lq eq hk
    go_wp2_with fail
    refine HK.out.mono ?_
    clear HK
    rintro e w15 ⟨a15, c15, rfl, h15, hb⟩
    have HB15 := Lib.hid (up_trans HB14.out hb); have HO15 := Lib.hid (HO14.out.up hb); have HU15 := Lib.hid (HU14.out.up hb); have H15 := Lib.hid h15
    have HK := Lib.hid (joined_n (L := LO) (n := n + m) (HBb.out.up HB15.out) (HA.out.up HB15.out) (Arg.nil w15) HN.out HM.out rfl (by rw [List.append_nil]; exact EO.out) NO.out (by omega) (by omega) (by simp))
    clear hb h15 HB14 HO14 HU14 wk wm
    go_wp2_with fail
    refine HK.out.mono ?_
    clear HK
    rintro e w16 ⟨a16, c16, rfl, h16, hc16, hb⟩
    have HB16 := Lib.hid (up_trans HB15.out hb); have HO16 := Lib.hid (HO15.out.up hb); have HU16 := Lib.hid (HU15.out.up hb); have H16 := Lib.hid h16; have HL16 := Lib.hid (H15.out.up hb)
    clear hb h16 HB15 HO15 HU15 H15
    go_upto_if 98 with fail
    go_cut [13] (fun s13 wx => s13 = .int .i64 (q : Int) ∧ wx = w16)
    case first =>
      by_cases hbig : ((n + m : Nat) : Int) < (k : Int)
      · go_wp2
        go_meet
        exact ⟨by congr 1; have := HQ.out; omega, rfl⟩
      · go_wp2
        go_meet
        exact ⟨by congr 1; have := HQ.out; omega, rfl⟩
    case rest =>
      obtain ⟨rfl, rfl⟩ := hcut
      have y0 : (0 : Int) ≤ (q : Int) := by omega
      have y1 : (q : Int) ≤ (c16 : Int) := by have := HQ.out; omega
      have bq : q ≤ 80 := by have := HQ.out; omega
      have hs := H16.out.take q
      rw [EQ.out] at hs
      have HK := Lib.hid (ints_m NQ.out c15 c16 HL16.out hs (by omega))
      clear hs HL16
      go_wp2_with fail
      refine HK.out.mono ?_
      clear HK
      rintro e w17 ⟨rfl, hb⟩
      have HB17 := Lib.hid (up_trans HB16.out hb); have HU17 := Lib.hid (HU16.out.up hb); have H17 := Lib.hid (H16.out.up hb)
      have HK := Lib.hid (list_m (HO16.out.up hb) NO.out (by omega))
      clear hb HB16 HO16 HU16 H16
      go_wp2_with fail
      refine HK.out.mono ?_
      clear HK
      rintro e w18 ⟨a18, c18, rfl, h18, hb⟩
      have HB18 := Lib.hid (up_trans HB17.out hb); have HU18 := Lib.hid (HU17.out.up hb)
      have HK := Lib.hid (ints_m NO.out c18 c16 h18 (H17.out.up hb) (by omega))
      clear hb h18 HB17 HU17 H17
      go_wp2_with fail
      refine HK.out.mono ?_
      clear HK
      rintro e w19 ⟨rfl, hb⟩
      have HB19 := Lib.hid (up_trans HB18.out hb)
      have HK := Lib.hid (list_m (HU18.out.up hb) NU.out (by omega))
      clear hb HB18 HU18
      go_wp2_with fail
      refine HK.out.mono ?_
      clear HK
      rintro e w20 ⟨a20, c20, rfl, h20, hb⟩
      have HB20 := Lib.hid (up_trans HB19.out hb); have H20 := Lib.hid h20
      have HK := Lib.hid (joined_n (L := LU) (n := m + n) (HA.out.up HB20.out) (HBb.out.up HB20.out) (Arg.nil w20) HM.out HN.out rfl (by rw [List.append_nil]; exact EU.out) NU.out (by omega) (by omega) (by simp))
      clear hb h20 HB19
      go_wp2_with fail
      refine HK.out.mono ?_
      clear HK
      rintro e w21 ⟨a21, c21, rfl, h21, _, hb⟩
      have HB21 := Lib.hid (up_trans HB20.out hb)
      have HK := Lib.hid (ints_m NU.out c20 c21 (H20.out.up hb) h21 (by omega))
      clear hb h21 HB20 H20
      go_wp2_with fail
      refine HK.out.mono ?_
      clear HK
      rintro e w22 ⟨rfl, hb⟩
      have HB22 := Lib.hid (up_trans HB21.out hb)
      clear hb HB21
      go_wp2
      go_ret
      exact ⟨rfl, HB22.out⟩

theorem walkDeckLays (a : Option Addr) (len cap : Nat) (zs : List Int) (b : Option Addr) (len' cap' : Nat) (zs' : List Int) (many : Int) (w : World)
    (h : (a = none ∧ len = 0 ∧ cap = 0 ∧ zs = []) ∨ ∃ x, a = some x ∧ len ≤ cap ∧ cap ≤ maxLen ∧ zs.length = cap ∧ (∀ i, i < zs.length → w.cell? (x.add i) = some (.int .i64 (zs.getD i 0))) ∧ ∀ n ∈ zs, (Lit.int .i64 n).wf = true)
    (h' : (b = none ∧ len' = 0 ∧ cap' = 0 ∧ zs' = []) ∨ ∃ x, b = some x ∧ len' ≤ cap' ∧ cap' ≤ maxLen ∧ zs'.length = cap' ∧ (∀ i, i < zs'.length → w.cell? (x.add i) = some (.int .i64 (zs'.getD i 0))) ∧ ∀ n ∈ zs', (Lit.int .i64 n).wf = true)
    (hmany : (Lit.int .u8 many).wf = true) :
    Calls Try.prog 4 #[.slice a len cap, .slice b len' cap', .int .u8 many] w fun e w' => e = .returned (.bool true) ∧ Below w.heap.size w w' := by
  by_cases hbig : 40 < len ∨ 40 < len'
  · exact lays_big a b len cap len' cap' many w hbig
  · obtain ⟨h1, h2, h3⟩ := arg_of h
    obtain ⟨h4, h5, _⟩ := arg_of h'
    have hu : 0 ≤ many ∧ many ≤ 255 := by
      have h1 : IntKind.u8.min = 0 := by decide
      have h2 : IntKind.u8.max = 255 := by decide
      have := hmany
      simp [Lit.wf] at this
      omega
    have := lays_core a b cap cap' (zs.take len) (zs'.take len') many w h1 h4 (by omega) (by omega) (by omega) hu
    rwa [h2, h5] at this
end Go.Proofs.Ytiekhpeekhibeaa
