/- Part 10 of the texts that the proofs of this seat share: RefEdges. -/
import Derived.Test.YtffnngmiaihkeaaPart9
/- What the reference's Edge and Nests answer, for every scheme and every two ints. -/
namespace Go.Proofs.Ytffnngmiaihkeaa
open Go.RowKit
set_option linter.unusedVariables false

theorem refFold_any (s : Sc) (a : Option Addr) (cap : Nat) (w : World) (hc : s.c ≤ 9223372036854775807) (hr : s.r ≤ 9223372036854775807) (hl : s.l.length ≤ 1000000) (hI : InL w a s.l) :
    Calls Try.prog 13 #[.agg #[.int .i64 s.c, .int .i64 s.r, .slice a s.l.length cap]] w fun e w' => ∃ b cp, e = .returned (.slice b (pcR s).length cp) ∧ Below w.heap.size w w' := by
  cases h : rightM s
  · have e : pcR s = [] := by unfold pcR; rw [if_neg (by simp [h])]
    rw [e]
    exact (refFold_no s a cap w hc hr hl hI h).mono fun _ _ ⟨h1, h2⟩ => ⟨none, 0, h1, h2⟩
  · have e : pcR s = pcL s := by unfold pcR; rw [if_pos h]
    have e2 : (pcR s).length = (foldL s).length := by rw [e]; unfold pcL; rw [List.length_map]
    rw [e2]
    exact (refFold_yes s a cap w hI h).mono fun _ _ ⟨g, c', h1, h2, h3, h4⟩ => ⟨_, c', h1, h4⟩
theorem refFold_two (s : Sc) (a : Option Addr) (cap : Nat) (i k : Nat) (p q : Pc) (hp : (pcR s)[i]? = some p) (hq : (pcR s)[k]? = some q) :
    ∃ px py qx qy : Int, ∀ w, InL w a s.l → Calls Try.prog 13 #[.agg #[.int .i64 s.c, .int .i64 s.r, .slice a s.l.length cap]] w fun e w' => ∃ g cp, e = .returned (.slice (some ⟨g, 0, none⟩) (pcR s).length cp) ∧ (w'.cell? ⟨g, i * 5, none⟩ = some (.int .i64 p.n) ∧ w'.cell? ⟨g, i * 5 + 1, none⟩ = some (.int .i64 px) ∧ w'.cell? ⟨g, i * 5 + 2, none⟩ = some (.int .i64 py) ∧ w'.cell? ⟨g, i * 5 + 3, none⟩ = some (.bool p.fx) ∧ w'.cell? ⟨g, i * 5 + 4, none⟩ = some (.bool p.fy)) ∧
      (w'.cell? ⟨g, k * 5, none⟩ = some (.int .i64 q.n) ∧ w'.cell? ⟨g, k * 5 + 1, none⟩ = some (.int .i64 qx) ∧ w'.cell? ⟨g, k * 5 + 2, none⟩ = some (.int .i64 qy) ∧ w'.cell? ⟨g, k * 5 + 3, none⟩ = some (.bool q.fx) ∧ w'.cell? ⟨g, k * 5 + 4, none⟩ = some (.bool q.fy)) ∧ Below w.heap.size w w' := by
  by_cases h : rightM s = true
  · have e : pcR s = (foldL s).map toPc := by unfold pcR; rw [if_pos h]; rfl
    rw [e, List.getElem?_map, Option.map_eq_some_iff] at hp hq
    obtain ⟨P, hP, rfl⟩ := hp
    obtain ⟨Q, hQ, rfl⟩ := hq
    refine ⟨P.col, P.row, Q.col, Q.row, fun w hI => ?_⟩
    rw [e, List.length_map]
    exact (refFold_yes s a cap w hI h).mono fun _ _ ⟨g, c', h1, h2, h3, h4⟩ => ⟨g, c', h1, h2.cells hP, h2.cells hQ, h4⟩
  · have e : pcR s = [] := by unfold pcR; rw [if_neg h]
    rw [e] at hp
    simp at hp

set_option maxHeartbeats 1000000 in
set_option maxRecDepth 100000 in
theorem refEdge_out (c r a b : Int) (ad : Option Addr) (n cap m : Nat) (w : World) (hm : m ≤ 64) (h : ¬ ((0 ≤ a ∧ a < (m : Int)) ∧ 0 ≤ b ∧ b < (m : Int)))
    (KF : ∀ w1, Below w.heap.size w w1 → Calls Try.prog 13 #[.agg #[.int .i64 c, .int .i64 r, .slice ad n cap]] w1 fun e w' => ∃ g cp, e = .returned (.slice g m cp) ∧ Below w1.heap.size w1 w') :
    Calls Try.prog 9 #[.agg #[.int .i64 c, .int .i64 r, .slice ad n cap], .int .i64 a, .int .i64 b] w fun e w' => e = .returned (.int .i64 0) ∧ Below w.heap.size w w' := by
  have HB0 := Lib.hid (up_alloc (Below.refl _ w) (.cells #[.int .i64 c, .int .i64 r, .slice ad n cap] 24))
  have HF := Lib.hid KF
  clear KF
  obtain ⟨t1, e1⟩ : ∃ t, decide (a < 0) = t := ⟨_, rfl⟩
  obtain ⟨t2, e2⟩ : ∃ t, decide (b < 0) = t := ⟨_, rfl⟩
  obtain ⟨t3, e3⟩ : ∃ t, decide ((m : Int) ≤ a) = t := ⟨_, rfl⟩
  obtain ⟨t4, e4⟩ : ∃ t, decide ((m : Int) ≤ b) = t := ⟨_, rfl⟩
  have ht : t1 = true ∨ t2 = true ∨ t3 = true ∨ t4 = true := by
    subst e1 e2 e3 e4
    simp only [decide_eq_true_eq]
    omega
  clear h
  go_enter Try.func9, Try.ntmps9
  go_wp2_with fail
  refine (HF.out _ HB0.out).mono ?_
  rintro e w1 ⟨g, cp, rfl, hb1⟩
  have B1 := Lib.hid (up_trans HB0.out hb1)
  clear hb1
  cases t1
  · cases t2
    · cases t3
      · obtain rfl : t4 = true := by simpa using ht
        go_wp2
        go_ret
        exact ⟨rfl, B1.out⟩
      · go_wp2
        go_ret
        exact ⟨rfl, B1.out⟩
    · go_wp2
      go_ret
      exact ⟨rfl, B1.out⟩
  · go_wp2
    go_ret
    exact ⟨rfl, B1.out⟩

theorem edgN_placesB {c x y : Int} (fx fy : Bool) (hc : 1 ≤ c) (hx : 0 ≤ x) (hxy : x ≤ y) :
    edgN c x y fx fy = if ((x.tdiv c == y.tdiv c) && (y.tmod c == x.tmod c + 1)) = true then (if fx = true then 1 else 2) else if ((x.tmod c == y.tmod c) && (y.tdiv c == x.tdiv c + 1)) = true then (if fy = true then 3 else 4) else 0 := by
  rw [edgN_places fx fy hc hx hxy]
  simp only [Bool.and_eq_true, beq_iff_eq]
theorem place_in {c x : Int} (hc : 1 ≤ c ∧ c ≤ 64) (hx : 0 ≤ x ∧ x ≤ 64) : (0 ≤ x.tmod c ∧ x.tmod c ≤ 64) ∧ 0 ≤ x.tdiv c ∧ x.tdiv c ≤ 64 := by
  have h1 := Int.tmod_nonneg c hx.1
  have h2 := Int.tmod_lt_of_pos x (show 0 < c by omega)
  have h3 := Int.tdiv_nonneg hx.1 (show 0 ≤ c by omega)
  have h4 := Int.tdiv_le_self c hx.1
  omega

theorem refEdge_any (s : Sc) (a : Option Addr) (cap : Nat) (x y : Int) (w : World) (hc : s.c ≤ 9223372036854775807) (hr : s.r ≤ 9223372036854775807) (hl : s.l.length ≤ 1000000) (hI : InL w a s.l) :
    Calls Try.prog 9 #[.agg #[.int .i64 s.c, .int .i64 s.r, .slice a s.l.length cap], .int .i64 x, .int .i64 y] w fun e w' => e = .returned (.int .i64 (edgM s.c (pcR s) x y)) ∧ Below w.heap.size w w' := by
  have hm := pcR_small s
  by_cases h : (0 ≤ x ∧ x < (pcR s).length) ∧ 0 ≤ y ∧ y < (pcR s).length
  · obtain ⟨⟨ha0, ha1⟩, hb0, hb1⟩ := h
    obtain ⟨i, rfl⟩ := Int.eq_ofNat_of_zero_le ha0
    obtain ⟨k, rfl⟩ := Int.eq_ofNat_of_zero_le hb0
    have hi : i < (pcR s).length := by omega
    have hk : k < (pcR s).length := by omega
    obtain ⟨p, hp⟩ : ∃ p, (pcR s)[i]? = some p := ⟨_, List.getElem?_eq_getElem hi⟩
    obtain ⟨q, hq⟩ : ∃ q, (pcR s)[k]? = some q := ⟨_, List.getElem?_eq_getElem hk⟩
    obtain ⟨jp, hjp, ep, _⟩ := pcR_at s i p hp
    obtain ⟨jq, hjq, eq, _⟩ := pcR_at s k q hq
    have hc' := pcR_c s (by omega)
    rw [edgM_in hp hq]
    obtain ⟨px, py, qx, qy, KF⟩ := refFold_two s a cap i k p q hp hq
    have hP : 0 ≤ p.n ∧ p.n ≤ 64 := by omega
    have hQ : 0 ≤ q.n ∧ q.n ≤ 64 := by omega
    obtain ⟨b1, b2⟩ := place_in hc' hP
    obtain ⟨b3, b4⟩ := place_in hc' hQ
    unfold edgP
    by_cases hle : p.n ≤ q.n
    · rw [if_pos hle]
      exact refEdge_up s.c s.r p.n q.n px py qx qy _ _ _ _ _ p.fx p.fy q.fx q.fy _ _ _ _ a _ cap i k _ w hm hc' hi hk hP hQ (by omega) rfl rfl rfl rfl b1 b2 b3 b4 rfl rfl rfl rfl (edgN_placesB p.fx p.fy hc'.1 hP.1 hle) (fun w1 hb => KF w1 (hI.up hb))
    · rw [if_neg hle]
      exact refEdge_down s.c s.r p.n q.n px py qx qy _ _ _ _ _ p.fx p.fy q.fx q.fy _ _ _ _ a _ cap i k _ w hm hc' hi hk hP hQ (by omega) rfl rfl rfl rfl b3 b4 b1 b2 rfl rfl rfl rfl (edgN_placesB q.fx q.fy hc'.1 hQ.1 (by omega)) (fun w1 hb => KF w1 (hI.up hb))
  · rw [edgM_out h]
    exact refEdge_out _ _ _ _ _ _ _ _ _ hm h (fun w1 hb => refFold_any s a cap w1 hc hr hl (hI.up hb))

set_option maxHeartbeats 1000000 in
theorem refNests_any (s : Sc) (a : Option Addr) (cap : Nat) (w : World) (hc : s.c ≤ 9223372036854775807) (hr : s.r ≤ 9223372036854775807) (hl : s.l.length ≤ 1000000) (hI : InL w a s.l) :
    Calls Try.prog 11 #[.agg #[.int .i64 s.c, .int .i64 s.r, .slice a s.l.length cap]] w fun e w' => e = .returned (.bool (nestM s.c (pcR s))) ∧ Below w.heap.size w w' := by
  have K1 := fun w1 (h : Below w.heap.size w w1) => refFold_any s a cap w1 hc hr hl (hI.up h)
  have KE := fun w1 (h : Below w.heap.size w w1) (x y : Int) => refEdge_any s a cap x y w1 hc hr hl (hI.up h)
  have hm := pcR_small s
  have HB0 := Lib.hid (up_alloc (Below.refl _ w) (.cells #[.int .i64 s.c, .int .i64 s.r, .slice a s.l.length cap] 24))
  have hno := fun k (hk : k < (pcR s).length / 2) => @nest_no s.c (pcR s) k hk
  have hyes := @nest_yes s.c (pcR s)
  have hodd := @nest_odd s.c (pcR s)
  unfold NestRel at *
  generalize pcR s = L at *
  obtain ⟨m, hmm⟩ : ∃ m, L.length = m := ⟨_, rfl⟩
  rw [hmm] at hm hno hyes hodd K1
  obtain ⟨c, hcc⟩ : ∃ c, s.c = c := ⟨_, rfl⟩
  obtain ⟨r, hrr⟩ : ∃ r, s.r = r := ⟨_, rfl⟩
  obtain ⟨n, hnn⟩ : ∃ n, s.l.length = n := ⟨_, rfl⟩
  rw [hcc, hrr, hnn] at K1 HB0 KE
  rw [hcc] at hno hyes hodd
  rw [hcc, hrr, hnn]
  obtain ⟨V, hV⟩ : ∃ V, nestM c L = V := ⟨_, rfl⟩
  rw [hV] at hno hyes hodd ⊢
  obtain ⟨h, hh⟩ : ∃ h, m / 2 = h := ⟨_, rfl⟩
  rw [hh] at hno hyes
  have H1 := Lib.hid K1; have HE := Lib.hid KE; have HNo := Lib.hid hno; have HYes := Lib.hid hyes; have HOdd := Lib.hid hodd
  clear K1 KE hno hyes hodd hI hc hr hl hcc hrr hnn hV
  have e3 : (m : Int) / 2 = (h : Int) := by omega
  have e4 : (m : Int).tdiv 2 = (h : Int) := by rw [Int.tdiv_eq_ediv_of_nonneg (by omega)]; omega
  have hhm : h ≤ m := by omega
  have HH := Lib.hid hh
  clear hh
  have HM := Lib.hid hmm
  clear hmm
  go_enter Try.func11, Try.ntmps11
  go_wp2_with fail
  refine (H1.out _ HB0.out).mono ?_
  rintro e w1 ⟨b, cp, rfl, hb⟩
  have HA := Lib.hid ((Bx.new w 24 [.int .i64 c, .int .i64 r, .slice a n cap]).up hb)
  have B1 := Lib.hid (up_trans HB0.out hb)
  clear hb
  go_wp2
  go_loopw [4] (fun i wr => NestRel w1 c L h i wr) (fun i _ => h - (intOf i).toNat)
  case atStart => exact ⟨0, by omega, by go_num, Lib.hid (fun j hj => absurd hj (Nat.not_lt_zero _)), Below.refl _ _⟩
  case round =>
    obtain ⟨k, hk, rfl, hall, hb⟩ := hrel
    have A := HA.out.up hb
    have f0 := A.cell 0 rfl; have f1 := A.cell 1 rfl; have f2 := A.cell 2 rfl
    have HB := Lib.hid (up_trans B1.out hb)
    have HB9 := Lib.hid hb
    clear hb A
    by_cases hlt : k < h
    · have z1 : (k : Int) < (h : Int) := by omega
      have KE := HE.out _ HB.out (k : Int) ((m : Int) - 1 - (k : Int))
      have hno := HNo.out k hlt
      obtain ⟨E, hE⟩ : ∃ E, edgM c L (k : Int) ((m : Int) - 1 - (k : Int)) = E := ⟨_, rfl⟩
      rw [hE] at KE
      rw [hE] at hno
      have HKE := Lib.hid KE; have HNk := Lib.hid hno; have HEk := Lib.hid hE
      clear KE hno hE
      by_cases h1 : E = 1
      · subst h1
        go_wp2_with fail
        refine HKE.out.mono ?_
        rintro e w3 ⟨rfl, hb3⟩
        have HB3 := Lib.hid (up_trans HB9.out hb3)
        clear hb3 f0 f1 f2
        go_wp2
        refine ⟨⟨k + 1, by omega, by go_num, Lib.hid (fun j hj => ?_), HB3.out⟩, by simp [intOf]; omega⟩
        by_cases hjk : j < k
        · exact hall.out j hjk
        · obtain rfl : j = k := by omega
          rw [HM.out]
          exact HEk.out
      · have h1' : (E != 1) = true := bne_iff_ne.2 h1
        obtain rfl := HNk.out h1
        go_wp2_with fail
        refine HKE.out.mono ?_
        rintro e w3 ⟨rfl, hb3⟩
        have HB3 := Lib.hid (up_trans HB.out hb3)
        clear hb3 f0 f1 f2
        go_wp2
        go_ret
        exact ⟨rfl, HB3.out⟩
    · obtain rfl : k = h := by omega
      have hHH := HH.out
      rcases (by omega : m = 0 ∨ (0 < m ∧ m % 2 = 1) ∨ (0 < m ∧ m % 2 = 0)) with rfl | ⟨h0, h2⟩ | ⟨h0, h2⟩
      · obtain rfl := HOdd.out (.inl rfl)
        clear hHH
        go_wp2
        go_ret
        exact ⟨rfl, HB.out⟩
      · obtain rfl := HOdd.out (.inr (by omega))
        have q0 : (0 : Int) < (m : Int) := by omega
        have q1 : (m : Int) % 2 = 1 := by omega
        have q2 : (m : Int).tmod 2 = 1 := by rw [Int.tmod_eq_emod_of_nonneg (by omega)]; omega
        clear hHH
        go_wp2
        go_ret
        exact ⟨rfl, HB.out⟩
      · obtain rfl := HYes.out h0 h2 (by have := hall.out; rwa [HM.out] at this)
        have q0 : (0 : Int) < (m : Int) := by omega
        have q1 : (m : Int) % 2 = 0 := by omega
        have q2 : (m : Int).tmod 2 = 0 := by rw [Int.tmod_eq_emod_of_nonneg (by omega)]; omega
        clear hHH
        go_wp2
        go_ret
        exact ⟨rfl, HB.out⟩
end Go.Proofs.Ytffnngmiaihkeaa
