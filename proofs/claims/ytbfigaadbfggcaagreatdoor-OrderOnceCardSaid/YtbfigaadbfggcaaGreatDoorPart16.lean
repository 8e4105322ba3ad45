/- Part 16 of the texts that the proofs of this seat share: RefEdges, RefSplitLast, LiG, RefSplitOf, RefOrder. -/
import Derived.Test.YtbfigaadbfggcaaGreatDoorPart15
import Derived.Test.YtbfigaadbfggcaaGreatDoorPart13
import Derived.Test.YtbfigaadbfggcaaGreatDoorPart14
import Derived.Test.YtbfigaadbfggcaaGreatDoorPart4
import Derived.Test.YtbfigaadbfggcaaGreatDoorPart12
/- What the reference's Edge and Nests answer, for every scheme and every two ints. -/
namespace Go.Proofs.YtbfigaadbfggcaaGreatDoor
open Go.RowKit
set_option linter.unusedVariables false

theorem refFold_any (s : Sc) (a : Option Addr) (cap : Nat) (w : World) (hc : s.c ≤ 9223372036854775807) (hr : s.r ≤ 9223372036854775807) (hl : s.l.length ≤ 1000000) (hI : InL w a s.l) :
    Calls Tryz.prog 46 #[.agg #[.int .i64 s.c, .int .i64 s.r, .slice a s.l.length cap]] w fun e w' => ∃ b cp, e = .returned (.slice b (pcR s).length cp) ∧ Below w.heap.size w w' := by
  cases h : rightM s
  · have e : pcR s = [] := by unfold pcR; rw [if_neg (by simp [h])]
    rw [e]
    exact (refFold_no s a cap w hc hr hl hI h).mono fun _ _ ⟨h1, h2⟩ => ⟨none, 0, h1, h2⟩
  · have e : pcR s = pcL s := by unfold pcR; rw [if_pos h]
    have e2 : (pcR s).length = (foldL s).length := by rw [e]; unfold pcL; rw [List.length_map]
    rw [e2]
    exact (refFold_yes s a cap w hI h).mono fun _ _ ⟨g, c', h1, h2, h3, h4⟩ => ⟨_, c', h1, h4⟩
theorem refFold_two (s : Sc) (a : Option Addr) (cap : Nat) (i k : Nat) (p q : Pc) (hp : (pcR s)[i]? = some p) (hq : (pcR s)[k]? = some q) :
    ∃ px py qx qy : Int, ∀ w, InL w a s.l → Calls Tryz.prog 46 #[.agg #[.int .i64 s.c, .int .i64 s.r, .slice a s.l.length cap]] w fun e w' => ∃ g cp, e = .returned (.slice (some ⟨g, 0, none⟩) (pcR s).length cp) ∧ (w'.cell? ⟨g, i * 5, none⟩ = some (.int .i64 p.n) ∧ w'.cell? ⟨g, i * 5 + 1, none⟩ = some (.int .i64 px) ∧ w'.cell? ⟨g, i * 5 + 2, none⟩ = some (.int .i64 py) ∧ w'.cell? ⟨g, i * 5 + 3, none⟩ = some (.bool p.fx) ∧ w'.cell? ⟨g, i * 5 + 4, none⟩ = some (.bool p.fy)) ∧
      (w'.cell? ⟨g, k * 5, none⟩ = some (.int .i64 q.n) ∧ w'.cell? ⟨g, k * 5 + 1, none⟩ = some (.int .i64 qx) ∧ w'.cell? ⟨g, k * 5 + 2, none⟩ = some (.int .i64 qy) ∧ w'.cell? ⟨g, k * 5 + 3, none⟩ = some (.bool q.fx) ∧ w'.cell? ⟨g, k * 5 + 4, none⟩ = some (.bool q.fy)) ∧ Below w.heap.size w w' := by
  by_cases h : rightM s = true
  · have e : pcR s = (foldL s).map toPc := by unfold pcR; rw [if_pos h]; rfl
    rw [e, List.getElem?_map, Option.map_eq_some_iff] at hp hq
    obtain ⟨P, hP, rfl⟩ := hp
    obtain ⟨Q, hQ, rfl⟩ := hq
    refine ⟨P.col, P.row, Q.col, Q.row, fun w hI => ?_⟩
    rw [e, List.length_map]
    exact (refFold_yes s a cap w hI h).mono fun _ _ ⟨g, c', h1, h2, h3, h4⟩ => ⟨g, c', h1, h2.cells hP, h2.cells hQ, h4⟩
  · have e : pcR s = [] := by unfold pcR; rw [if_neg h]
    rw [e] at hp
    simp at hp

set_option maxHeartbeats 1000000 in
set_option maxRecDepth 100000 in
theorem refEdge_out (c r a b : Int) (ad : Option Addr) (n cap m : Nat) (w : World) (hm : m ≤ 64) (h : ¬ ((0 ≤ a ∧ a < (m : Int)) ∧ 0 ≤ b ∧ b < (m : Int)))
    (KF : ∀ w1, Below w.heap.size w w1 → Calls Tryz.prog 46 #[.agg #[.int .i64 c, .int .i64 r, .slice ad n cap]] w1 fun e w' => ∃ g cp, e = .returned (.slice g m cp) ∧ Below w1.heap.size w1 w') :
    Calls Tryz.prog 47 #[.agg #[.int .i64 c, .int .i64 r, .slice ad n cap], .int .i64 a, .int .i64 b] w fun e w' => e = .returned (.int .i64 0) ∧ Below w.heap.size w w' := by
  have HB0 := Lib.hid (up_alloc (Below.refl _ w) (.cells #[.int .i64 c, .int .i64 r, .slice ad n cap] 26))
  have HF := Lib.hid KF
  clear KF
  obtain ⟨t1, e1⟩ : ∃ t, decide (a < 0) = t := ⟨_, rfl⟩
  obtain ⟨t2, e2⟩ : ∃ t, decide (b < 0) = t := ⟨_, rfl⟩
  obtain ⟨t3, e3⟩ : ∃ t, decide ((m : Int) ≤ a) = t := ⟨_, rfl⟩
  obtain ⟨t4, e4⟩ : ∃ t, decide ((m : Int) ≤ b) = t := ⟨_, rfl⟩
  have ht : t1 = true ∨ t2 = true ∨ t3 = true ∨ t4 = true := by
    subst e1 e2 e3 e4
    simp only [decide_eq_true_eq]
    omega
  clear h
  go_enter Tryz.func47, Tryz.ntmps47
  go_wp2_with fail
  refine (HF.out _ HB0.out).mono ?_
  rintro e w1 ⟨g, cp, rfl, hb1⟩
  have B1 := Lib.hid (up_trans HB0.out hb1)
  clear hb1
  cases t1
  · cases t2
    · cases t3
      · obtain rfl : t4 = true := by simpa using ht
        go_wp2
        go_ret
        exact ⟨rfl, B1.out⟩
      · go_wp2
        go_ret
        exact ⟨rfl, B1.out⟩
    · go_wp2
      go_ret
      exact ⟨rfl, B1.out⟩
  · go_wp2
    go_ret
    exact ⟨rfl, B1.out⟩

theorem edgN_placesB {c x y : Int} (fx fy : Bool) (hc : 1 ≤ c) (hx : 0 ≤ x) (hxy : x ≤ y) :
    edgN c x y fx fy = if ((x.tdiv c == y.tdiv c) && (y.tmod c == x.tmod c + 1)) = true then (if fx = true then 1 else 2) else if ((x.tmod c == y.tmod c) && (y.tdiv c == x.tdiv c + 1)) = true then (if fy = true then 3 else 4) else 0 := by
  rw [edgN_places fx fy hc hx hxy]
  simp only [Bool.and_eq_true, beq_iff_eq]
theorem place_in {c x : Int} (hc : 1 ≤ c ∧ c ≤ 64) (hx : 0 ≤ x ∧ x ≤ 64) : (0 ≤ x.tmod c ∧ x.tmod c ≤ 64) ∧ 0 ≤ x.tdiv c ∧ x.tdiv c ≤ 64 := by
  have h1 := Int.tmod_nonneg c hx.1
  have h2 := Int.tmod_lt_of_pos x (show 0 < c by omega)
  have h3 := Int.tdiv_nonneg hx.1 (show 0 ≤ c by omega)
  have h4 := Int.tdiv_le_self c hx.1
  omega

theorem refEdge_any (s : Sc) (a : Option Addr) (cap : Nat) (x y : Int) (w : World) (hc : s.c ≤ 9223372036854775807) (hr : s.r ≤ 9223372036854775807) (hl : s.l.length ≤ 1000000) (hI : InL w a s.l) :
    Calls Tryz.prog 47 #[.agg #[.int .i64 s.c, .int .i64 s.r, .slice a s.l.length cap], .int .i64 x, .int .i64 y] w fun e w' => e = .returned (.int .i64 (edgM s.c (pcR s) x y)) ∧ Below w.heap.size w w' := by
  have hm := pcR_small s
  by_cases h : (0 ≤ x ∧ x < (pcR s).length) ∧ 0 ≤ y ∧ y < (pcR s).length
  · obtain ⟨⟨ha0, ha1⟩, hb0, hb1⟩ := h
    obtain ⟨i, rfl⟩ := Int.eq_ofNat_of_zero_le ha0
    obtain ⟨k, rfl⟩ := Int.eq_ofNat_of_zero_le hb0
    have hi : i < (pcR s).length := by omega
    have hk : k < (pcR s).length := by omega
    obtain ⟨p, hp⟩ : ∃ p, (pcR s)[i]? = some p := ⟨_, List.getElem?_eq_getElem hi⟩
    obtain ⟨q, hq⟩ : ∃ q, (pcR s)[k]? = some q := ⟨_, List.getElem?_eq_getElem hk⟩
    obtain ⟨jp, hjp, ep, _⟩ := pcR_at s i p hp
    obtain ⟨jq, hjq, eq, _⟩ := pcR_at s k q hq
    have hc' := pcR_c s (by omega)
    rw [edgM_in hp hq]
    obtain ⟨px, py, qx, qy, KF⟩ := refFold_two s a cap i k p q hp hq
    have hP : 0 ≤ p.n ∧ p.n ≤ 64 := by omega
    have hQ : 0 ≤ q.n ∧ q.n ≤ 64 := by omega
    obtain ⟨b1, b2⟩ := place_in hc' hP
    obtain ⟨b3, b4⟩ := place_in hc' hQ
    unfold edgP
    by_cases hle : p.n ≤ q.n
    · rw [if_pos hle]
      exact refEdge_up s.c s.r p.n q.n px py qx qy _ _ _ _ _ p.fx p.fy q.fx q.fy _ _ _ _ a _ cap i k _ w hm hc' hi hk hP hQ (by omega) rfl rfl rfl rfl b1 b2 b3 b4 rfl rfl rfl rfl (edgN_placesB p.fx p.fy hc'.1 hP.1 hle) (fun w1 hb => KF w1 (hI.up hb))
    · rw [if_neg hle]
      exact refEdge_down s.c s.r p.n q.n px py qx qy _ _ _ _ _ p.fx p.fy q.fx q.fy _ _ _ _ a _ cap i k _ w hm hc' hi hk hP hQ (by omega) rfl rfl rfl rfl b3 b4 b1 b2 rfl rfl rfl rfl (edgN_placesB q.fx q.fy hc'.1 hQ.1 (by omega)) (fun w1 hb => KF w1 (hI.up hb))
  · rw [edgM_out h]
    exact refEdge_out _ _ _ _ _ _ _ _ _ hm h (fun w1 hb => refFold_any s a cap w1 hc hr hl (hI.up hb))

set_option maxHeartbeats 1000000 in
theorem refNests_any (s : Sc) (a : Option Addr) (cap : Nat) (w : World) (hc : s.c ≤ 9223372036854775807) (hr : s.r ≤ 9223372036854775807) (hl : s.l.length ≤ 1000000) (hI : InL w a s.l) :
    Calls Tryz.prog 36 #[.agg #[.int .i64 s.c, .int .i64 s.r, .slice a s.l.length cap]] w fun e w' => e = .returned (.bool (nestM s.c (pcR s))) ∧ Below w.heap.size w w' := by
  have K1 := fun w1 (h : Below w.heap.size w w1) => refFold_any s a cap w1 hc hr hl (hI.up h)
  have KE := fun w1 (h : Below w.heap.size w w1) (x y : Int) => refEdge_any s a cap x y w1 hc hr hl (hI.up h)
  have hm := pcR_small s
  have HB0 := Lib.hid (up_alloc (Below.refl _ w) (.cells #[.int .i64 s.c, .int .i64 s.r, .slice a s.l.length cap] 26))
  have hno := fun k (hk : k < (pcR s).length / 2) => @nest_no s.c (pcR s) k hk
  have hyes := @nest_yes s.c (pcR s)
  have hodd := @nest_odd s.c (pcR s)
  unfold NestRel at *
  generalize pcR s = L at *
  obtain ⟨m, hmm⟩ : ∃ m, L.length = m := ⟨_, rfl⟩
  rw [hmm] at hm hno hyes hodd K1
  obtain ⟨c, hcc⟩ : ∃ c, s.c = c := ⟨_, rfl⟩
  obtain ⟨r, hrr⟩ : ∃ r, s.r = r := ⟨_, rfl⟩
  obtain ⟨n, hnn⟩ : ∃ n, s.l.length = n := ⟨_, rfl⟩
  rw [hcc, hrr, hnn] at K1 HB0 KE
  rw [hcc] at hno hyes hodd
  rw [hcc, hrr, hnn]
  obtain ⟨V, hV⟩ : ∃ V, nestM c L = V := ⟨_, rfl⟩
  rw [hV] at hno hyes hodd ⊢
  obtain ⟨h, hh⟩ : ∃ h, m / 2 = h := ⟨_, rfl⟩
  rw [hh] at hno hyes
  have H1 := Lib.hid K1; have HE := Lib.hid KE; have HNo := Lib.hid hno; have HYes := Lib.hid hyes; have HOdd := Lib.hid hodd
  clear K1 KE hno hyes hodd hI hc hr hl hcc hrr hnn hV
  have e3 : (m : Int) / 2 = (h : Int) := by omega
  have e4 : (m : Int).tdiv 2 = (h : Int) := by rw [Int.tdiv_eq_ediv_of_nonneg (by omega)]; omega
  have hhm : h ≤ m := by omega
  have HH := Lib.hid hh
  clear hh
  have HM := Lib.hid hmm
  clear hmm
  go_enter Tryz.func36, Tryz.ntmps36
  go_wp2_with fail
  refine (H1.out _ HB0.out).mono ?_
  rintro e w1 ⟨b, cp, rfl, hb⟩
  have HA := Lib.hid ((Bx.new w 26 [.int .i64 c, .int .i64 r, .slice a n cap]).up hb)
  have B1 := Lib.hid (up_trans HB0.out hb)
  clear hb
  go_wp2
  go_loopw [4] (fun i wr => NestRel w1 c L h i wr) (fun i _ => h - (intOf i).toNat)
  case atStart => exact ⟨0, by omega, by go_num, Lib.hid (fun j hj => absurd hj (Nat.not_lt_zero _)), Below.refl _ _⟩
  case round =>
    obtain ⟨k, hk, rfl, hall, hb⟩ := hrel
    have A := HA.out.up hb
    have f0 := A.cell 0 rfl; have f1 := A.cell 1 rfl; have f2 := A.cell 2 rfl
    have HB := Lib.hid (up_trans B1.out hb)
    have HB9 := Lib.hid hb
    clear hb A
    by_cases hlt : k < h
    · have z1 : (k : Int) < (h : Int) := by omega
      have KE := HE.out _ HB.out (k : Int) ((m : Int) - 1 - (k : Int))
      have hno := HNo.out k hlt
      obtain ⟨E, hE⟩ : ∃ E, edgM c L (k : Int) ((m : Int) - 1 - (k : Int)) = E := ⟨_, rfl⟩
      rw [hE] at KE
      rw [hE] at hno
      have HKE := Lib.hid KE; have HNk := Lib.hid hno; have HEk := Lib.hid hE
      clear KE hno hE
      by_cases h1 : E = 1
      · subst h1
        go_wp2_with fail
        refine HKE.out.mono ?_
        rintro e w3 ⟨rfl, hb3⟩
        have HB3 := Lib.hid (up_trans HB9.out hb3)
        clear hb3 f0 f1 f2
        go_wp2
        refine ⟨⟨k + 1, by omega, by go_num, Lib.hid (fun j hj => ?_), HB3.out⟩, by simp [intOf]; omega⟩
        by_cases hjk : j < k
        · exact hall.out j hjk
        · obtain rfl : j = k := by omega
          rw [HM.out]
          exact HEk.out
      · have h1' : (E != 1) = true := bne_iff_ne.2 h1
        obtain rfl := HNk.out h1
        go_wp2_with fail
        refine HKE.out.mono ?_
        rintro e w3 ⟨rfl, hb3⟩
        have HB3 := Lib.hid (up_trans HB.out hb3)
        clear hb3 f0 f1 f2
        go_wp2
        go_ret
        exact ⟨rfl, HB3.out⟩
    · obtain rfl : k = h := by omega
      have hHH := HH.out
      rcases (by omega : m = 0 ∨ (0 < m ∧ m % 2 = 1) ∨ (0 < m ∧ m % 2 = 0)) with rfl | ⟨h0, h2⟩ | ⟨h0, h2⟩
      · obtain rfl := HOdd.out (.inl rfl)
        clear hHH
        go_wp2
        go_ret
        exact ⟨rfl, HB.out⟩
      · obtain rfl := HOdd.out (.inr (by omega))
        have q0 : (0 : Int) < (m : Int) := by omega
        have q1 : (m : Int) % 2 = 1 := by omega
        have q2 : (m : Int).tmod 2 = 1 := by rw [Int.tmod_eq_emod_of_nonneg (by omega)]; omega
        clear hHH
        go_wp2
        go_ret
        exact ⟨rfl, HB.out⟩
      · obtain rfl := HYes.out h0 h2 (by have := hall.out; rwa [HM.out] at this)
        have q0 : (0 : Int) < (m : Int) := by omega
        have q1 : (m : Int) % 2 = 0 := by omega
        have q2 : (m : Int).tmod 2 = 0 := by rw [Int.tmod_eq_emod_of_nonneg (by omega)]; omega
        clear hHH
        go_wp2
        go_ret
        exact ⟨rfl, HB.out⟩
end Go.Proofs.YtbfigaadbfggcaaGreatDoor
/- What gatherumref17.Last answers. -/
namespace Go.Proofs.YtbfigaadbfggcaaGreatDoor
open Go.RowKit
set_option linter.unusedVariables false
set_option linter.unusedSimpArgs false

set_option maxHeartbeats 2000000 in
theorem refSpLast_out (cs : List Value) (b : Int) (a : Option Addr) (k cap : Nat) (t1 t2 t3 t4 : Bool) (w : World) (h11 : cs[11]? = some (.int .i64 b)) (h15 : cs[15]? = some (.slice a k cap))
    (e1 : decide ((4 : Int) < (k : Int)) = t1) (f1 : decide (4 < k) = t1) (e2 : decide ((0 : Int) < (k : Int)) = t2) (f2 : decide (0 < k) = t2) (e3 : decide (3 ≤ b) = t3) (e4 : decide (b ≤ 4) = t4)
    (h : (t1 || (t2 && t3 && t4)) = true) :
    Calls Tryz.prog 38 #[.agg cs.toArray] w fun e w' => e = .returned (.bool false) ∧ Below w.heap.size w w' := by
  have HX := Bx.new w 29 cs
  have HB := Lib.hid (up_alloc (Below.refl w.heap.size w) (.cells cs.toArray 29))
  have c11 := HX.cell 11 h11; have c15 := HX.cell 15 h15
  have HH := Lib.hid h
  clear h HX h11 h15
  generalize cs.toArray = ca at *
  cases t1
  · cases t2
    · exact absurd HH.out (by simp)
    · cases t3
      · exact absurd HH.out (by simp)
      · cases t4
        · exact absurd HH.out (by simp)
        · go_enter Tryz.func38, Tryz.ntmps38
          go_wp2
          go_ret
          exact ⟨rfl, HB.out⟩
  · go_enter Tryz.func38, Tryz.ntmps38
    go_wp2
    go_ret
    exact ⟨rfl, HB.out⟩

/-- What one name's turn asks. -/
def NameE (E : List UInt8 → Bool) (b q : Int) (nm : List UInt8) : Prop :=
  E nm = ((findM nm).isSome && (!(decide (q ≤ panM ((findM nm).getD zeroSc).c ((findM nm).getD zeroSc).r)) && (!(b == 1) || nestM ((findM nm).getD zeroSc).c (pcR ((findM nm).getD zeroSc)))))

set_option maxRecDepth 100000 in
set_option maxHeartbeats 4000000 in
theorem refSpLast_in (cs : List Value) (b c r q : Int) (a a0 : Option Addr) (n cap0 k cap : Nat) (ls : List (List UInt8)) (E : List UInt8 → Bool) (t2 t3 t4 v : Bool) (w : World) (hL : cs.length = 33) (h11 : cs[11]? = some (.int .i64 b)) (h12 : cs[12]? = some (.int .i64 c)) (h13 : cs[13]? = some (.int .i64 r)) (h14 : cs[14]? = some (.slice a0 n cap0)) (h15 : cs[15]? = some (.slice a k cap))
    (hk : ls.length = k) (hT : TxA w a cap ls) (hE : ∀ x, NameE E b q x) (hv : (b == 1) = v)
    (e1 : decide ((4 : Int) < (k : Int)) = false) (f1 : decide (4 < k) = false) (e2 : decide ((0 : Int) < (k : Int)) = t2) (f2 : decide (0 < k) = t2) (e3 : decide (3 ≤ b) = t3) (e4 : decide (b ≤ 4) = t4)
    (h : (t2 && t3 && t4) = false)
    (KQ : ∀ w1, Calls Tryz.prog 22 #[.agg #[.int .i64 c, .int .i64 r, .slice a0 n cap0]] w1 fun e w' => e = .returned (.int .i64 q) ∧ Below w1.heap.size w1 w') :
    Calls Tryz.prog 38 #[.agg cs.toArray] w fun e w' => e = .returned (.bool (ls.all E)) ∧ Below w.heap.size w w' := by
  have HX := Lib.hid (Bx.new w 29 cs)
  have HB := Lib.hid (up_alloc (Below.refl w.heap.size w) (.cells cs.toArray 29))
  have c11 := HX.out.cell 11 h11; have c12 := HX.out.cell 12 h12; have c13 := HX.out.cell 13 h13; have c14 := HX.out.cell 14 h14; have c15 := HX.out.cell 15 h15
  have HA := Lib.hid (hT.up HB.out)
  have HN := Lib.hid hk; have HE := Lib.hid hE; have HQ := Lib.hid KQ; have HH := Lib.hid h
  have hk4 : k ≤ 4 := by simp only [decide_eq_false_iff_not] at f1; omega
  clear h hT hk hE KQ h11 h12 h13 h14 h15
  go_enter Tryz.func38, Tryz.ntmps38
  cases t2 <;> cases t3 <;> cases t4 <;> first | (exact absurd HH.out (by decide)) | skip
  all_goals
    clear HH
    go_wp2
    obtain ⟨w1, hw1⟩ : ∃ w1, w.alloc (.cells cs.toArray 29) = w1 := ⟨_, rfl⟩
    rw [hw1] at c11 c12 c13 c14 c15 HA HB HX ⊢
    clear hw1 e1 f1 e2 f2 e3 e4
    have j11 := fun x : Later w1 => x.cell c11
    have j12 := fun x : Later w1 => x.cell c12
    have j13 := fun x : Later w1 => x.cell c13
    have j14 := fun x : Later w1 => x.cell c14
    have j15 := Lib.hid (fun x : Later w1 => x.cell c15)
    clear c11 c12 c13 c14 c15
    go_loopw [3] (fun i wr => ∃ j : Nat, j ≤ k ∧ i = .int .i64 (j : Int) ∧ Hid ((ls.take j).all E = true) ∧ ∃ y : Later w1, wr = y.now) (fun i _ => k - (intOf i).toNat)
    case atStart => exact ⟨0, by omega, by go_num, Lib.hid rfl, ⟨w1, Below.refl _ _⟩, rfl⟩
    case round =>
      obtain ⟨j, hj, rfl, HS, y, rfl⟩ := hrel
      have d15 := j15.out y
      by_cases hlt : j < k
      · obtain ⟨z, hx⟩ : ∃ x, ls[j]? = some x := ⟨ls[j]'(by rw [HN.out]; exact hlt), List.getElem?_eq_getElem _⟩
        obtain ⟨g, o, rfl, hc, -, -⟩ := HA.out.resolve_left (by rintro rfl; cases hx)
        have hcx := y.cell (hc j z hx)
        have z0 : (0 : Int) ≤ (j : Int) := by omega
        have z3 : (j : Int) < (k : Int) := by omega
        have htk := Lib.hid (take_next hx)
        have HZ := Lib.hid (List.mem_of_getElem? hx)
        have HF := Lib.hid (refFind_any z y.now)
        obtain ⟨g1, g2, g3⟩ := found_bounds z
        have hez := HE.out z
        unfold NameE at hez
        unfold GivesS at HF
        have HNe := Lib.hid (fun a1 k1 w1 hI1 => refNests_any ((findM z).getD zeroSc) a1 k1 w1 g1 g2 (by omega) hI1)
        have HP := Lib.hid (fun a1 k1 w1 => refPanels_any ((findM z).getD zeroSc).c ((findM z).getD zeroSc).r a1 ((findM z).getD zeroSc).l.length k1 w1)
        generalize (findM z).getD zeroSc = t at *
        generalize nestM t.c (pcR t) = V at *
        generalize panM t.c t.r = p at *
        generalize (findM z).isSome = fb at *
        generalize tx z = Z at *
        obtain ⟨u, hu⟩ : ∃ u, decide (q ≤ p) = u := ⟨_, rfl⟩
        rw [hu, hv] at hez
        have HEZ := Lib.hid hez
        clear hx hc hez g1 g2 g3
        go_wp2_with fail
        refine HF.out.mono ?_
        rintro e w3 ⟨a3, c3, rfl, hF, hb⟩
        have S := Bx.new w3 26 [.int .i64 t.c, .int .i64 t.r, .slice a3 t.l.length c3]
        have U := up_alloc (Below.refl w3.heap.size w3) (.cells #[.int .i64 t.c, .int .i64 t.r, .slice a3 t.l.length c3] 26)
        have B4 := Lib.hid (up_trans y.up (up_trans hb U))
        have HI4 := Lib.hid (hF.inL.up U)
        clear hb U hF hcx d15
        go_wp2_with fail
        obtain ⟨w4, hw4⟩ : ∃ w4, w3.alloc (.cells #[.int .i64 t.c, .int .i64 t.r, .slice a3 t.l.length c3] 26) = w4 := ⟨_, rfl⟩
        rw [hw4] at S B4 HI4 ⊢
        clear hw4
        have i0 := fun x : Later w4 => x.cell (S.cell 0 rfl)
        have i1 := fun x : Later w4 => x.cell (S.cell 1 rfl)
        have i2 := fun x : Later w4 => x.cell (S.cell 2 rfl)
        have i11 := fun x : Later w4 => x.cell (j11 ⟨w4, B4.out⟩)
        have i12 := fun x : Later w4 => x.cell (j12 ⟨w4, B4.out⟩)
        have i13 := fun x : Later w4 => x.cell (j13 ⟨w4, B4.out⟩)
        have i14 := fun x : Later w4 => x.cell (j14 ⟨w4, B4.out⟩)
        clear S
        cases fb
        · have hno := all_not HZ.out (show E z = false from HEZ.out)
          have HNO := Lib.hid hno
          clear hno hu hv i0 i1 i2 i11 i12 i13 i14
          refine later_start (w := w4) ?_
          intro x
          refine wp_region_later (by kernel_rfl) (by kernel_rfl) ?_
          repeat (go_big_quiet_step (fail))
          refine wpQuiet_nil ?_
          rintro _ ⟨x2, rfl⟩
          go_wp2
          go_ret
          exact ⟨by rw [HNO.out]; rfl, up_trans (up_trans HB.out B4.out) x2.up⟩
        cases u
        · cases v
          · have HY := Lib.hid (show E z = true from HEZ.out)
            refine later_start (w := w4) ?_
            intro x
            refine wp_region_later (by kernel_rfl) (by kernel_rfl) ?_
            repeat (go_big_quiet_step ((go_at_call 22; first | with_reducible exact Later.call (HP.out _ _ _) | with_reducible exact Later.call (HQ.out _))))
            refine wpQuiet_nil ?_
            rintro _ ⟨x2, rfl⟩
            clear i0 i1 i2 i11 i12 i13 i14
            go_wp2
            go_roundw
            case rel => exact ⟨j + 1, by omega, by go_num, Lib.hid (by rw [htk.out]; exact all_snoc HS.out HY.out), ⟨x2.now, up_trans B4.out x2.up⟩, rfl⟩
            case measure => simp [intOf]; omega
          · refine later_start (w := w4) ?_
            intro x
            cases V
            · have HNO := Lib.hid (all_not HZ.out (show E z = false from HEZ.out))
              refine wp_region_later (by kernel_rfl) (by kernel_rfl) ?_
              repeat (go_big_quiet_step ((first | (go_at_call 22; first | with_reducible exact Later.call (HP.out _ _ _) | with_reducible exact Later.call (HQ.out _)) | (go_at_call 36; with_reducible exact Later.call (HNe.out _ _ _ (HI4.out.up (Later.up _)))))))
              refine wpQuiet_nil ?_
              rintro _ ⟨x2, rfl⟩
              clear i0 i1 i2 i11 i12 i13 i14
              go_wp2
              go_ret
              exact ⟨by rw [HNO.out]; rfl, up_trans (up_trans HB.out B4.out) x2.up⟩
            · have HY := Lib.hid (show E z = true from HEZ.out)
              refine wp_region_later (by kernel_rfl) (by kernel_rfl) ?_
              repeat (go_big_quiet_step ((first | (go_at_call 22; first | with_reducible exact Later.call (HP.out _ _ _) | with_reducible exact Later.call (HQ.out _)) | (go_at_call 36; with_reducible exact Later.call (HNe.out _ _ _ (HI4.out.up (Later.up _)))))))
              refine wpQuiet_nil ?_
              rintro _ ⟨x2, rfl⟩
              clear i0 i1 i2 i11 i12 i13 i14
              go_wp2
              go_roundw
              case rel => exact ⟨j + 1, by omega, by go_num, Lib.hid (by rw [htk.out]; exact all_snoc HS.out HY.out), ⟨x2.now, up_trans B4.out x2.up⟩, rfl⟩
              case measure => simp [intOf]; omega
        · have HNO := Lib.hid (all_not HZ.out (show E z = false from HEZ.out))
          refine later_start (w := w4) ?_
          intro x
          refine wp_region_later (by kernel_rfl) (by kernel_rfl) ?_
          repeat (go_big_quiet_step ((go_at_call 22; first | with_reducible exact Later.call (HP.out _ _ _) | with_reducible exact Later.call (HQ.out _))))
          refine wpQuiet_nil ?_
          rintro _ ⟨x2, rfl⟩
          clear i0 i1 i2 i11 i12 i13 i14
          go_wp2
          go_ret
          exact ⟨by rw [HNO.out]; rfl, up_trans (up_trans HB.out B4.out) x2.up⟩
      · obtain rfl : j = k := by omega
        have hall : ls.take j = ls := List.take_of_length_le (by rw [HN.out]; omega)
        have HHa := Lib.hid (hall ▸ HS.out)
        clear hall
        go_wp2
        go_ret
        exact ⟨by rw [HHa.out]; rfl, up_trans HB.out y.up⟩

theorem refSpLast_any (cs : List Value) (j : Jb) (w : World) (h : JobA w cs j) :
    Calls Tryz.prog 38 #[.agg cs.toArray] w fun e w' => e = .returned (.bool (endsM j)) ∧ Below w.heap.size w w' := by
  obtain ⟨a, c, a', c', h12, h13, h14, h15, hI, hT⟩ := h.cells
  have h11 := h.num (k := 10) (by decide)
  have n1 : ∀ k : Nat, decide ((4 : Int) < (k : Int)) = decide (4 < k) := fun k => by rw [Bool.eq_iff_iff]; simp; omega
  have n2 : ∀ k : Nat, decide ((0 : Int) < (k : Int)) = decide (0 < k) := fun k => by rw [Bool.eq_iff_iff]; simp
  by_cases ho : (decide (4 < j.ls.length) || (decide (0 < j.ls.length) && decide (3 ≤ j.n 10) && decide (j.n 10 ≤ 4))) = true
  · have he : endsM j = false := by
      unfold endsM mostM
      rw [Bool.and_eq_false_iff, decide_eq_false_iff_not]
      simp only [Bool.or_eq_true, Bool.and_eq_true, decide_eq_true_eq] at ho
      left
      split <;> omega
    rw [he]
    exact refSpLast_out cs _ a' _ c' _ _ _ _ w h11 h15 (n1 _) rfl (n2 _) rfl rfl rfl ho
  · have ho1 : decide (4 < j.ls.length) = false := by
      cases hq : decide (4 < j.ls.length) with
      | false => rfl
      | true => rw [hq] at ho; simp at ho
    have ho2 : (decide (0 < j.ls.length) && decide (3 ≤ j.n 10) && decide (j.n 10 ≤ 4)) = false := by
      rw [ho1] at ho
      simpa using ho
    have he : endsM j = j.ls.all (endB (j.n 10) (panS j.f)) := by
      unfold endsM
      have : decide (j.ls.length ≤ mostM (j.n 10)) = true := by
        unfold mostM
        rw [decide_eq_true_eq]
        simp only [decide_eq_false_iff_not] at ho1
        rw [Bool.and_eq_false_iff, Bool.and_eq_false_iff] at ho2
        simp only [decide_eq_false_iff_not] at ho2
        split <;> omega
      rw [this, Bool.true_and]
    rw [he]
    exact refSpLast_in cs (j.n 10) j.f.c j.f.r (panM j.f.c j.f.r) a' a _ c _ c' j.ls _ _ _ _ _ w h.length h11 h12 h13 h14 h15 rfl hT (fun x => by unfold NameE; rw [may_eq]; rfl) rfl ((n1 _).trans ho1) ho1 (n2 _) rfl rfl rfl ho2 (fun w1 => refPanels_any _ _ _ _ _ w1)
end Go.Proofs.YtbfigaadbfggcaaGreatDoor
/- Steps that lie in a block of which something is known. -/
namespace Go.Proofs.YtbfigaadbfggcaaGreatDoor
open Go.RowKit
set_option linter.unusedVariables false

/-- The steps lie where the slice says, in a block of which G is true. -/
def LiG (G : Nat → Prop) (w : World) (a : Option Addr) (l : List Sp) : Prop := l = [] ∨ ∃ b off, a = some ⟨b, off, none⟩ ∧ G b ∧ InS w b off l
section
variable {G G' : Nat → Prop} {w w' : World} {a : Option Addr} {c : Nat} {l : List Sp} {base : Nat}
theorem LiG.inL (h : LiG G w a l) : InL w a l := h.imp id fun ⟨b, off, e, _, h⟩ => ⟨b, off, e, h⟩
theorem LiG.mono (h : LiG G w a l) (hG : ∀ b, G b → G' b) : LiG G' w a l := h.imp id fun ⟨b, off, e, g, h⟩ => ⟨b, off, e, hG _ g, h⟩
theorem LiG.up (h : LiG G w a l) (hb : Below w.heap.size w w') : LiG G w' a l := h.imp id fun ⟨b, off, e, g, h⟩ => ⟨b, off, e, g, h.up hb⟩
theorem LiG.old (h : LiG G w a l) : LiG (fun b => G b ∧ b < w.heap.size) w a l := by
  rcases h with h | ⟨b, off, e, g, h⟩
  · exact .inl h
  · cases l with
    | nil => exact .inl rfl
    | cons p r => exact .inr ⟨b, off, e, ⟨g, World.block_lt_of_cell? w _ (h 0 p rfl).1⟩, h⟩
theorem LiG.keep {B : Nat} (h : LiG G w a l) (hB : ¬ G B) (hk : ∀ p : Addr, p.block ≠ B → ∀ v, w.cell? p = some v → w'.cell? p = some v) : LiG G w' a l :=
  h.imp id fun ⟨b, off, e, g, h⟩ => ⟨b, off, e, g, fun i q hq => by
    have hne : b ≠ B := fun e => hB (e ▸ g)
    obtain ⟨c0, c1, c2⟩ := h i q hq
    exact ⟨hk _ hne _ c0, hk _ hne _ c1, hk _ hne _ c2⟩⟩
theorem LiG.set (h : LiG G w a l) {p : Addr} (hp : ¬ G p.block) (x : Value) : LiG G (w.setCell p x) a l :=
  h.keep hp fun q hq v hv => (World.cell?_setCell_far _ _ _ _ (Ne.symm hq)).trans hv
theorem InF.liG (h : InF base w a l) : LiG (base ≤ ·) w a l := h
theorem InL.liG (h : InL w a l) : LiG (· < w.heap.size) w a l := (show LiG (fun _ => True) w a l from h.imp id fun ⟨b, off, e, h⟩ => ⟨b, off, e, trivial, h⟩).old.mono fun _ h => h.2
end
end Go.Proofs.YtbfigaadbfggcaaGreatDoor
/- What gatherumref17.Of answers. -/
namespace Go.Proofs.YtbfigaadbfggcaaGreatDoor
open Go.RowKit
set_option linter.unusedVariables false
set_option linter.unusedSimpArgs false

set_option maxRecDepth 100000 in
set_option maxHeartbeats 1000000 in
theorem refSpOf_no (cs : List Value) (N : Int) (u1 u2 u3 : Bool) (w : World) (hL : cs.length = 33) (h1 : cs[1]? = some (.int .i64 N)) (h : (u1 && (u2 && u3)) = false)
    (KF : ∀ w1, Below w.heap.size w w1 → Calls Tryz.prog 37 #[.agg cs.toArray] w1 fun e w' => e = .returned (.bool u1) ∧ Below w1.heap.size w1 w')
    (KL : ∀ w1, Below w.heap.size w w1 → Calls Tryz.prog 38 #[.agg cs.toArray] w1 fun e w' => e = .returned (.bool u2) ∧ Below w1.heap.size w1 w')
    (KI : ∀ w1, Calls Tryz.prog 35 #[.int .i64 N, .int .i64 1, .int .i64 100000] w1 fun e w' => e = .returned (.bool u3) ∧ w' = w1) :
    Calls Tryz.prog 20 #[.agg cs.toArray] w fun e w' => e = .returned (.slice none 0 0) ∧ Below w.heap.size w w' := by
  have HX := Lib.hid (Bx.new w 29 cs)
  have HB := Lib.hid (up_alloc (Below.refl w.heap.size w) (.cells cs.toArray 29))
  have HL := Lib.hid hL; have H1 := Lib.hid h1; have HF := Lib.hid KF; have HLa := Lib.hid KL; have HI := Lib.hid KI; have HH := Lib.hid h
  clear hL h1 KF KL KI h
  go_enter Tryz.func20, Tryz.ntmps20
  go_wp2_with (refine wpList_load_job rfl _ rfl w.heap.size rfl cs HX.out HL.out ?_; simp only [Act.put, List.setIfInBounds_toArray, List.set_cons_succ, List.set_cons_zero])
  refine (HF.out _ HB.out).mono ?_
  rintro e w1 ⟨rfl, hb⟩
  have HX1 := Lib.hid (HX.out.later (by rw [HL.out]; decide) hb)
  have HB1 := Lib.hid (up_trans HB.out hb)
  clear hb
  cases u1
  · go_wp2
    go_ret
    exact ⟨rfl, HB1.out⟩
  go_wp2_with (refine wpList_load_job_want _ rfl rfl w.heap.size rfl cs HX1.out HL.out ?_; simp only [Act.put, List.setIfInBounds_toArray, List.set_cons_succ, List.set_cons_zero])
  refine (HLa.out _ HB1.out).mono ?_
  rintro e w2 ⟨rfl, hb⟩
  have X2 := HX1.out.later (by rw [HL.out]; decide) hb
  have HB2 := Lib.hid (up_trans HB1.out hb)
  have c1 := X2.cell 1 H1.out
  clear hb X2
  cases u2
  · go_wp2
    go_ret
    exact ⟨rfl, HB2.out⟩
  obtain rfl : u3 = false := HH.out
  go_wp2_with fail
  refine (HI.out _).mono ?_
  rintro e w3 ⟨rfl, rfl⟩
  go_wp2
  go_ret
  exact ⟨rfl, HB2.out⟩

def OfRelA (f : Sc) (N q : Int) (w1 : World) (v i : Value) (wr : World) : Prop :=
  ∃ (k : Nat) (R : Int), i = .int .i64 R ∧ Hid (R + (k : Int) * q = N) ∧ 1 ≤ R ∧ R ≤ 100000 ∧ k ≤ 50000 ∧ Hid (OwnL wr w1.heap.size v (List.replicate k f)) ∧ Hid (Below w1.heap.size w1 wr)
def OfRelB (G : Nat → Prop) (R : Int) (f : Sc) (ls : List (List UInt8)) (K : Nat) (V : World) (i : Value) (wr : World) : Prop :=
  ∃ (j : Nat) (s : Sc) (a1 : Option Addr) (c1 : Nat), j ≤ K ∧ i = .int .i64 (j : Int) ∧ Hid ((ls.take j).foldl (lessM R) f = s) ∧ Hid (Bx wr V.heap.size [.int .i64 s.c, .int .i64 s.r, .slice a1 s.l.length c1]) ∧ Hid (LiG G wr a1 s.l) ∧ Hid (Below V.heap.size V wr)
theorem rep_snoc (f : Sc) (k : Nat) : List.replicate k f ++ [f] = List.replicate (k + 1) f := (List.replicate_succ').symm
theorem k_bound {R N q : Int} {k : Nat} (h : R + (k : Int) * q = N) (h1 : 1 ≤ R) (hN : N ≤ 100000) (hq : 2 ≤ q) : k < 50000 := by
  have : (k : Int) * 2 ≤ (k : Int) * q := Int.mul_le_mul_of_nonneg_left hq (by omega)
  omega

theorem lessR_no (p : Int) (b s : Sc) (nm : List UInt8) (h : (findM nm).getD zeroSc = s) (u v : Bool) (e1 : decide (p ≤ 2 * panM s.c s.r) = u) (e2 : decide (panM s.c s.r < panM b.c b.r) = v) (hn : (u && v) = false) : lessM p b nm = b := by
  unfold lessM
  rw [h]
  refine if_neg fun ⟨h1, h2⟩ => ?_
  rw [← e1, ← e2] at hn
  unfold panS at h1 h2
  rw [decide_eq_true h1, decide_eq_true h2] at hn
  cases hn
theorem lessR_yes (p : Int) (b s : Sc) (nm : List UInt8) (h : (findM nm).getD zeroSc = s) (e1 : decide (p ≤ 2 * panM s.c s.r) = true) (e2 : decide (panM s.c s.r < panM b.c b.r) = true) : lessM p b nm = s := by
  unfold lessM
  rw [h]
  rw [decide_eq_true_eq] at e1 e2
  exact if_pos ⟨e1, e2⟩

set_option maxRecDepth 100000 in
set_option maxHeartbeats 4000000 in
theorem refSpOf_yes (cs : List Value) (N p q : Int) (f : Sc) (a a' : Option Addr) (n cap K cap' : Nat) (ls : List (List UInt8)) (w : World) (hL : cs.length = 33) (h1 : cs[1]? = some (.int .i64 N)) (h12 : cs[12]? = some (.int .i64 f.c)) (h13 : cs[13]? = some (.int .i64 f.r)) (h14 : cs[14]? = some (.slice a n cap)) (h15 : cs[15]? = some (.slice a' K cap'))
    (hn : f.l.length = n) (hn6 : n ≤ 6) (hI : InL w a f.l) (hk : ls.length = K) (hK : K ≤ 4) (hT : TxA w a' cap' ls) (n1 : 1 ≤ N) (n2 : N ≤ 100000) (p1 : 1 ≤ p) (p2 : p ≤ 64) (hp : panM f.c f.r = p) (hq : 2 * p = q)
    (KF : ∀ w1, Below w.heap.size w w1 → Calls Tryz.prog 37 #[.agg cs.toArray] w1 fun e w' => e = .returned (.bool true) ∧ Below w1.heap.size w1 w')
    (KL : ∀ w1, Below w.heap.size w w1 → Calls Tryz.prog 38 #[.agg cs.toArray] w1 fun e w' => e = .returned (.bool true) ∧ Below w1.heap.size w1 w')
    (KI : ∀ w1, Calls Tryz.prog 35 #[.int .i64 N, .int .i64 1, .int .i64 100000] w1 fun e w' => e = .returned (.bool true) ∧ w' = w1) :
    Calls Tryz.prog 20 #[.agg cs.toArray] w fun e w' => ∃ (k : Nat) (s : Sc) (R : Int) (a2 : Option Addr) (c2 : Nat), e = .returned (.slice a2 (k + 1) c2) ∧ ScsA w' a2 (List.replicate k f ++ [s]) ∧ (R + (k : Int) * q = N ∧ 1 ≤ R ∧ R ≤ q ∧ ls.foldl (lessM R) f = s) ∧ Below w.heap.size w w' := by
  have HX := Lib.hid (Bx.new w 29 cs)
  have HB := Lib.hid (up_alloc (Below.refl w.heap.size w) (.cells cs.toArray 29))
  have HL := Lib.hid hL; have H1 := Lib.hid h1; have HF := Lib.hid KF; have HLa := Lib.hid KL; have HI := Lib.hid KI
  have H12 := Lib.hid h12; have H13 := Lib.hid h13; have H14 := Lib.hid h14; have H15 := Lib.hid h15
  have HG := Lib.hid hI.liG; have HT := Lib.hid hT; have HK := Lib.hid hk; have HN := Lib.hid hn
  have KP := fun w1 => refPanels_any f.c f.r a n cap w1
  rw [hp] at KP
  have HP := Lib.hid KP; have HPP := Lib.hid hp
  clear hL h1 KF KL KI h12 h13 h14 h15 hI hT hk hn KP hp
  go_enter Tryz.func20, Tryz.ntmps20
  go_wp2_with (refine wpList_load_job rfl _ rfl w.heap.size rfl cs HX.out HL.out ?_; simp only [Act.put, List.setIfInBounds_toArray, List.set_cons_succ, List.set_cons_zero])
  refine (HF.out _ HB.out).mono ?_
  rintro e w1 ⟨rfl, hb⟩
  have HX1 := Lib.hid (HX.out.later (by rw [HL.out]; decide) hb)
  have HB1 := Lib.hid (up_trans HB.out hb)
  clear hb
  go_wp2_with (refine wpList_load_job_want _ rfl rfl w.heap.size rfl cs HX1.out HL.out ?_; simp only [Act.put, List.setIfInBounds_toArray, List.set_cons_succ, List.set_cons_zero])
  refine (HLa.out _ HB1.out).mono ?_
  rintro e w2 ⟨rfl, hb⟩
  have HX2 := Lib.hid (HX1.out.later (by rw [HL.out]; decide) hb)
  have HB2 := Lib.hid (up_trans HB1.out hb)
  have c1 := HX2.out.cell 1 H1.out
  clear hb
  go_wp2_with fail
  refine (HI.out _).mono ?_
  rintro e w3 ⟨rfl, hw3⟩
  obtain rfl : w2 = w3 := hw3.symm
  clear hw3
  go_wp2
  have hlow := HX2.out.lowE (by rw [HL.out]; decide)
  clear c1
  go_loopw [3, 4] (fun v i wr => OfRelA f N q w2 v i wr) (fun _ i _ => (intOf i).toNat)
  case atStart => exact ⟨0, N, by go_num, Lib.hid (by simp), n1, n2, by omega, Lib.hid (OwnL.nil _ _), Lib.hid (Below.refl _ _)⟩
  case round =>
    obtain ⟨k, R, rfl, HR, r1, r2, k1, HO, HW⟩ := hrel
    have X := HX2.out.later (by rw [HL.out]; decide) HW.out
    have c12 := X.cell 12 H12.out; have c13 := X.cell 13 H13.out; have c14 := X.cell 14 H14.out
    obtain ⟨av, cv, rfl, -⟩ := HO.out.tells
    rw [List.length_replicate] at HO ⊢
    by_cases hlt : q < R
    · go_wp2_with fail
      refine (HP.out _).mono ?_
      rintro e w3 ⟨rfl, hb⟩
      have d12 := bl_cell hb c12; have d13 := bl_cell hb c13; have d14 := bl_cell hb c14
      have HO3 := Lib.hid (HO.out.up hb)
      have HW3 := Lib.hid (up_trans HW.out hb)
      have hbs : w2.heap.size ≤ w3.heap.size := by have := hb.size; have := HW.out.size; omega
      have HIN : Hid (InN (Value.slice av k cv).ownBlock w3 a f.l) := Lib.hid (by
        rcases HG.out with h | ⟨b, off, rfl, h0, h1⟩
        · exact .inl h
        · exact .inr ⟨b, off, rfl, fun e => by have := (HO.out.block b e).1; omega, (h1.up HB2.out).up HW3.out⟩)
      clear hb c12 c13 c14 X
      go_wp2_with (at_builtin; refine wpList_append_sc rfl _ _ rfl w2.heap.size (.slice av k cv) (List.replicate k f) rfl HO3.out hbs f a cap n HN.out HIN.out w3.heap.size rfl rfl ?ln ?_)
      case ln => rw [List.length_replicate]; omega
      intro g2 cap2 w4 hO4 hb4
      rw [rep_snoc] at hO4
      have HO4 := Lib.hid hO4
      have HW4 := Lib.hid (show Below w2.heap.size w2 w4 from HW3.out.trans hb4)
      have X := HX2.out.later (by rw [HL.out]; decide) HW4.out
      have c12 := X.cell 12 H12.out; have c13 := X.cell 13 H13.out; have c14 := X.cell 14 H14.out
      clear hO4 hb4 d12 d13 d14 X
      go_wp2_with fail
      refine (HP.out _).mono ?_
      rintro e w5 ⟨rfl, hb⟩
      have HO5 := Lib.hid (HO4.out.up hb)
      have HW5 := Lib.hid (up_trans HW4.out hb)
      clear hb c12 c13 c14
      have hq2 : R - q ≤ 100000 := by omega
      have hRq : (R - q) + ((k + 1 : Nat) : Int) * q = N := by
        have := HR.out
        rw [Int.natCast_succ, Int.add_mul]
        omega
      have hkb := k_bound hRq (by omega) n2 (by omega)
      go_wp2
      go_roundw
      case rel => exact ⟨k + 1, R - q, by go_num, Lib.hid hRq, by omega, hq2, by omega, HO5, HW5⟩
      case measure => simp [intOf]; omega
    · go_wp2_with fail
      refine (HP.out _).mono ?_
      rintro e V ⟨rfl, hb⟩
      have HOV := Lib.hid (HO.out.up hb)
      have HWV := Lib.hid (up_trans HW.out hb)
      have XV := HX2.out.later (by rw [HL.out]; decide) HWV.out
      have HXV := Lib.hid XV
      have hVs : w2.heap.size ≤ V.heap.size := HWV.out.size
      clear hb c12 c13 c14 X
      have v12 := XV.cell 12 H12.out; have v13 := XV.cell 13 H13.out; have v14 := XV.cell 14 H14.out
      have L6 := Bx.new V 26 [.int .i64 f.c, .int .i64 f.r, .slice a n cap]
      have U6 := up_alloc (Below.refl V.heap.size V) (.cells #[.int .i64 f.c, .int .i64 f.r, .slice a n cap] 26)
      have G6 := (((HG.out.mono (G' := fun b => b < w2.heap.size ∨ V.heap.size < b) (fun b hb => .inl (by omega))).up HB2.out).up HWV.out).up U6
      clear XV
      go_wp2
      clear v12 v13 v14
      obtain ⟨w6, hw6⟩ : ∃ w6, V.alloc (.cells #[.int .i64 f.c, .int .i64 f.r, .slice a n cap] 26) = w6 := ⟨_, rfl⟩
      rw [hw6] at L6 U6 G6 ⊢
      clear hw6
      have HL6 := Lib.hid L6; have HU6 := Lib.hid U6; have HG6 := Lib.hid G6
      clear L6 U6 G6
      go_loopw [6] (OfRelB (fun b => b < w2.heap.size ∨ V.heap.size < b) R f ls K V) (fun i _ => K - (intOf i).toNat)
      case atStart => exact ⟨0, f, a, cap, by omega, by go_num, Lib.hid rfl, by rw [HN.out]; exact HL6, HG6, HU6⟩
      case round =>
        obtain ⟨j, s, a1, c1, hj, rfl, HS, HLb, HGb, HBb⟩ := hrel
        have d15 := (HXV.out.later (by rw [HL.out]; decide) HBb.out).cell 15 H15.out
        by_cases hjl : j < K
        · obtain ⟨z, hx⟩ : ∃ x, ls[j]? = some x := ⟨ls[j]'(by rw [HK.out]; exact hjl), List.getElem?_eq_getElem _⟩
          obtain ⟨g, o, rfl, hc, -, -⟩ := HT.out.resolve_left (by rintro rfl; cases hx)
          have hcx := bl_cell HBb.out (bl_cell HWV.out (bl_cell HB2.out (hc j z hx)))
          have z0 : (0 : Int) ≤ (j : Int) := by omega
          have z3 : (j : Int) < (K : Int) := by omega
          have htk := Lib.hid (take_next hx)
          have HFi := Lib.hid (refFind_any z wr)
          obtain ⟨t, ht⟩ : ∃ t, (findM z).getD zeroSc = t := ⟨_, rfl⟩
          unfold GivesS at HFi
          rw [ht] at HFi
          have HTS := Lib.hid ht
          generalize (findM z).isSome = fb at *
          generalize tx z = Z at *
          clear hx hc ht
          go_wp2_with fail
          refine HFi.out.mono ?_
          rintro e w7 ⟨a3, c3, rfl, hF, hb⟩
          have S := Bx.new w7 26 [.int .i64 t.c, .int .i64 t.r, .slice a3 t.l.length c3]
          have U := up_alloc (Below.refl w7.heap.size w7) (.cells #[.int .i64 t.c, .int .i64 t.r, .slice a3 t.l.length c3] 26)
          have B8 := Lib.hid (up_trans HBb.out (up_trans hb U))
          have HL8 := Lib.hid ((HLb.out.up hb).up U)
          have HI8 := Lib.hid ((HGb.out.up hb).up U)
          have hlw := HLb.out.lt
          have HF8 := Lib.hid ((hF.liG.mono (G' := fun b => b < w2.heap.size ∨ V.heap.size < b) (fun b hb => .inr (by omega))).up U)
          have hne : V.heap.size ≠ w7.heap.size := by have := hb.size; omega
          clear hb U hF hcx d15
          go_wp2_with fail
          obtain ⟨w8, hw8⟩ : ∃ w8, w7.alloc (.cells #[.int .i64 t.c, .int .i64 t.r, .slice a3 t.l.length c3] 26) = w8 := ⟨_, rfl⟩
          rw [hw8] at S B8 HL8 HI8 HF8 ⊢
          clear hw8
          have j0 := fun x : Later w8 => x.cell (S.cell 0 rfl)
          have j1 := fun x : Later w8 => x.cell (S.cell 1 rfl)
          have j2 := fun x : Later w8 => x.cell (S.cell 2 rfl)
          have i0 := fun x : Later w8 => x.cell (HL8.out.cell 0 rfl)
          have i1 := fun x : Later w8 => x.cell (HL8.out.cell 1 rfl)
          have i2 := fun x : Later w8 => x.cell (HL8.out.cell 2 rfl)
          have K1 := fun w1 => refPanels_any t.c t.r a3 t.l.length c3 w1
          have K2 := fun w1 => refPanels_any s.c s.r a1 s.l.length c1 w1
          have hno := lessR_no R s t z HTS.out
          have hye := lessR_yes R s t z HTS.out
          obtain ⟨pt0, pt1⟩ : 0 ≤ panM t.c t.r ∧ panM t.c t.r ≤ 4096 := pan_ge t
          obtain ⟨q3, hq3⟩ : ∃ q3, 2 * panM t.c t.r = q3 := ⟨_, rfl⟩
          rw [hq3] at hno hye
          generalize panM t.c t.r = pt at *
          generalize panM s.c s.r = ps at *
          obtain ⟨u, hu⟩ : ∃ u, decide (R ≤ q3) = u := ⟨_, rfl⟩
          obtain ⟨v, hv⟩ : ∃ v, decide (pt < ps) = v := ⟨_, rfl⟩
          have HNo := Lib.hid (hno u v hu hv)
          rw [hu, hv] at hye
          have HY := Lib.hid hye
          have HK1 := Lib.hid K1; have HK2 := Lib.hid K2
          clear K1 K2 hno hye S
          cases u
          · clear hv i0 i1 i2
            refine later_start (w := w8) ?_
            intro x
            refine wp_region_later (by kernel_rfl) (by kernel_rfl) ?_
            repeat (go_big_quiet_step ((go_at_call 22; with_reducible exact Later.call (HK1.out _))))
            refine wpQuiet_nil ?_
            rintro _ ⟨x2, rfl⟩
            clear j0 j1 j2
            go_wp2
            go_roundw
            case rel => exact ⟨j + 1, s, a1, c1, by omega, by go_num, Lib.hid (by rw [htk.out, List.foldl_append, HS.out]; exact HNo.out rfl), Lib.hid (HL8.out.up x2.up), Lib.hid (HI8.out.up x2.up), Lib.hid (up_trans B8.out x2.up)⟩
            case measure => simp [intOf]; omega
          cases v
          · refine later_start (w := w8) ?_
            intro x
            refine wp_region_later (by kernel_rfl) (by kernel_rfl) ?_
            repeat (go_big_quiet_step ((go_at_call 22; first | with_reducible exact Later.call (HK1.out _) | with_reducible exact Later.call (HK2.out _))))
            refine wpQuiet_nil ?_
            rintro _ ⟨x2, rfl⟩
            clear j0 j1 j2 i0 i1 i2
            go_wp2
            go_roundw
            case rel => exact ⟨j + 1, s, a1, c1, by omega, by go_num, Lib.hid (by rw [htk.out, List.foldl_append, HS.out]; exact HNo.out rfl), Lib.hid (HL8.out.up x2.up), Lib.hid (HI8.out.up x2.up), Lib.hid (up_trans B8.out x2.up)⟩
            case measure => simp [intOf]; omega
          · refine later_start (w := w8) ?_
            intro x
            refine wp_region_later (by kernel_rfl) (by kernel_rfl) ?_
            repeat (go_big_quiet_step ((go_at_call 22; first | with_reducible exact Later.call (HK1.out _) | with_reducible exact Later.call (HK2.out _))))
            refine wpQuiet_nil ?_
            rintro _ ⟨x2, rfl⟩
            have L5 := HL8.out.up x2.up
            have BB := up_trans B8.out x2.up
            have F5 := HF8.out.up x2.up
            have d0 := j0 x2; have d1 := j1 x2; have d2 := j2 x2
            have lf := L5.free
            have l0 := L5.cell 0 rfl; have l1 := L5.cell 1 rfl; have l2 := L5.cell 2 rfl
            clear j0 j1 j2 i0 i1 i2
            go_wp2
            go_roundw
            case rel =>
              refine ⟨j + 1, t, a3, c3, by omega, by go_num, Lib.hid (by rw [htk.out, List.foldl_append, HS.out]; exact HY.out rfl rfl), Lib.hid (L5.set3 _ _ _), Lib.hid ?_, Lib.hid ?_⟩
              · exact ((F5.set (p := ⟨V.heap.size, 0, none⟩) (by simp only; omega) _).set (p := ⟨V.heap.size, 1, none⟩) (by simp only; omega) _).set (p := ⟨V.heap.size, 2, none⟩) (by simp only; omega) _
              · exact up_set (up_set (up_set BB (by simp only; omega) _) (by simp only; omega) _) (by simp only; omega) _
            case measure => simp [intOf]; omega
        · obtain rfl : j = K := by omega
          have hall : ls.take j = ls := List.take_of_length_le (by rw [HK.out]; omega)
          have hs := HS.out
          rw [hall] at hs
          have HSS := Lib.hid hs
          have l0 := HLb.out.cell 0 rfl; have l1 := HLb.out.cell 1 rfl; have l2 := HLb.out.cell 2 rfl
          have HOE := Lib.hid (HOV.out.up HBb.out)
          have HIN : Hid (InN (Value.slice av k cv).ownBlock wr a1 s.l) := Lib.hid (by
            rcases HGb.out with h | ⟨b, off, rfl, h0, h1⟩
            · exact .inl h
            · exact .inr ⟨b, off, rfl, fun e => by have := HOV.out.block b e; omega, h1⟩)
          have hbs : w2.heap.size ≤ wr.heap.size := by have := HBb.out.size; omega
          clear hall hs
          go_wp2_with (at_builtin; refine wpList_append_sc rfl _ _ rfl w2.heap.size (.slice av k cv) (List.replicate k f) rfl HOE.out hbs s a1 c1 _ rfl HIN.out wr.heap.size rfl rfl ?ln2 ?_)
          case ln2 => rw [List.length_replicate]; omega
          intro g2 cap2 w8 hO8 hb8
          obtain ⟨a2, cc2, e2, hS⟩ := hO8.tells
          injection e2 with e2a e2b e2c
          rw [← e2a] at hS
          have B8 : Below w.heap.size w w8 := up_trans HB2.out (show Below w2.heap.size w2 w8 from (up_trans HWV.out HBb.out).trans hb8)
          have HS8 := Lib.hid hS; have HB8 := Lib.hid B8
          clear hO8 hb8 e2a e2b e2c hS B8
          go_wp2
          exact bodyPost_ret (v := .slice (some ⟨g2, 0, none⟩) (k + 1) cap2) (by simp [results, Tryz.results20, go_sem]) rfl ⟨k, s, R, _, _, rfl, HS8.out, ⟨HR.out, r1, by omega, HSS.out⟩, HB8.out⟩

theorem refSpOf_any (cs : List Value) (j : Jb) (w : World) (h : JobA w cs j) (hf : WfF j) (hl : j.f.l.length ≤ 1000000) :
    Calls Tryz.prog 20 #[.agg cs.toArray] w fun e w' => ∃ a cap, e = .returned (.slice a (ofM j).length cap) ∧ ScsA w' a (ofM j) ∧ Below w.heap.size w w' := by
  obtain ⟨a, c, a', c', h12, h13, h14, h15, hI, hT⟩ := h.cells
  have h1 : cs[1]? = some (.int .i64 (j.n 0)) := h.num (k := 0) (by decide)
  have KF := fun w1 (hb : Below w.heap.size w w1) => refSpFolds_any cs j w1 (h.up hb) hf hl
  have KL := fun w1 (hb : Below w.heap.size w w1) => refSpLast_any cs j w1 (h.up hb)
  have KI := fun w1 => refIn_any (j.n 0) 1 100000 w1
  by_cases hp : partB j = true
  · have hp2 := hp
    unfold partB lastM at hp2
    rw [Bool.and_eq_true, Bool.and_eq_true] at hp2
    obtain ⟨p1, p2, p3, p4, -⟩ := part_facts hp
    simp only [hp2.1.1] at KF
    simp only [hp2.1.2] at KL
    have e3 : inB (j.n 0) 1 100000 = true := hp2.2
    rw [e3] at KI
    refine (refSpOf_yes cs (j.n 0) (panM j.f.c j.f.r) _ j.f a a' _ c _ c' j.ls w h.length h1 h12 h13 h14 h15 rfl p2 hI rfl p4 hT p3.1 p3.2 p1.1 p1.2 rfl rfl KF KL KI).mono ?_
    rintro e w' ⟨k, s, R, a2, c2, rfl, hS, ⟨hR, r1, r2, hs⟩, hb⟩
    have ho : othersM (j.n 0) (panS j.f) = k := others_one p3.1 p1.1 (by show 1 ≤ j.n 0 - (k : Int) * (2 * panM j.f.c j.f.r); omega) (by show j.n 0 - (k : Int) * (2 * panM j.f.c j.f.r) ≤ 2 * panM j.f.c j.f.r; omega) (by omega)
    have hr : restM2 (j.n 0) (panS j.f) = R := by
      unfold restM2
      rw [ho]
      show j.n 0 - (k : Int) * (2 * panM j.f.c j.f.r) = R
      omega
    have e : ofM j = List.replicate k j.f ++ [s] := by
      unfold ofM
      rw [if_pos hp, ho, Int.toNat_natCast]
      unfold lastS endM
      rw [hr, hs]
    rw [e]
    refine ⟨a2, c2, ?_, hS, hb⟩
    rw [List.length_append, List.length_replicate]
    rfl
  · have hp2 : (foldsM j && (endsM j && inB (j.n 0) 1 100000)) = false := by
      rw [← Bool.and_assoc]
      rw [← Bool.not_eq_true]
      exact hp
    have e : ofM j = [] := by unfold ofM; rw [if_neg hp]
    rw [e]
    exact (refSpOf_no cs (j.n 0) _ _ _ w h.length h1 hp2 KF KL KI).mono fun e w' ⟨he, hb⟩ => ⟨none, 0, he, .inl rfl, hb⟩

/-- What gatherumref17.Leaves answers: the sum of all panels. -/
def LeavesRel (l : List Sc) (N : Nat) (w : World) (s i : Value) (wr : World) : Prop :=
  ∃ k : Nat, k ≤ N ∧ i = .int .i64 (k : Int) ∧ s = .int .i64 (sumS (l.take k)) ∧ ∃ y : Later w, wr = y.now
theorem sum_bounds : ∀ l : List Sc, 0 ≤ sumS l ∧ sumS l ≤ 4096 * (l.length : Int)
  | [] => by decide
  | s :: l => by
    have h1 := sum_bounds l
    have h2 := pan_ge s
    have e : sumS (s :: l) = panS s + sumS l := rfl
    rw [e, List.length_cons]
    omega
end Go.Proofs.YtbfigaadbfggcaaGreatDoor
/- What gatherumref18's leaves, May, Copies, Find and Page answer. -/
namespace Go.Proofs.YtbfigaadbfggcaaGreatDoor
open Go.RowKit
set_option linter.unusedVariables false
set_option linter.unusedSimpArgs false

def LeavesFRel (s m : Nat) (w : World) (v i : Value) (wr : World) : Prop :=
  ∃ k : Nat, k ≤ m ∧ i = .int .i64 (k : Int) ∧ Hid (OwnF wr w.heap.size v (ownF s k)) ∧ Hid (Below w.heap.size w wr)
theorem refLeavesF_any (s m : Nat) (w : World) (hm : m ≤ 1000000) :
    Calls Tryz.prog 21 #[.int .i64 (s : Int), .int .i64 (m : Int)] w fun e w' => ∃ v, e = .returned v ∧ OwnF w' w.heap.size v (ownF s m) ∧ Below w.heap.size w w' := by
  go_enter Tryz.func21, Tryz.ntmps21
  go_wp2
  go_loopw [5, 6] (fun v i wr => LeavesFRel s m w v i wr) (fun _ i _ => m - (intOf i).toNat)
  case atStart => exact ⟨0, by omega, by go_num, Lib.hid (OwnF.nil _ _), Lib.hid (Below.refl _ _)⟩
  case round =>
    obtain ⟨k, hk, rfl, HO, HB⟩ := hrel
    obtain ⟨av, cv, rfl, -⟩ := HO.out.tells
    rw [ownF_length] at HO ⊢
    by_cases hlt : k < m
    · have hbs : w.heap.size ≤ wr.heap.size := HB.out.size
      go_wp2_with (at_builtin; refine wpList_append_lf rfl _ _ rfl w.heap.size (.slice av k cv) (ownF s k) rfl HO.out hbs s k wr.heap.size rfl rfl ?ln ?_)
      case ln => rw [ownF_length]; omega
      intro g2 cap2 w4 hO4 hb4
      rw [← ownF_succ, ownF_length] at hO4
      have HO4 := Lib.hid hO4
      have HB4 := Lib.hid (show Below w.heap.size w w4 from HB.out.trans hb4)
      clear hO4 hb4
      go_wp2
      go_roundw
      case rel => exact ⟨k + 1, by omega, by go_num, by rw [ownF_length]; exact HO4, HB4⟩
      case measure => simp [intOf]; omega
    · obtain rfl : k = m := by omega
      go_wp2
      go_ret
      exact ⟨_, rfl, HO.out, HB.out⟩

set_option maxRecDepth 100000 in
set_option maxHeartbeats 1000000 in
theorem refMay_core (cs : List Value) (b c r : Int) (a : Option Addr) (k cap : Nat) (n : Nat) (u1 u2 v z : Bool) (w : World) (hL : cs.length = 33) (h11 : cs[11]? = some (.int .i64 b)) (h12 : cs[12]? = some (.int .i64 c)) (h13 : cs[13]? = some (.int .i64 r)) (h14 : cs[14]? = some (.slice a k cap))
    (e2 : decide (0 < n) = u2) (e3 : (b != 1) = v)
    (KI : ∀ w1, Calls Tryz.prog 35 #[.int .i64 b, .int .i64 1, .int .i64 4] w1 fun e w' => e = .returned (.bool u1) ∧ w' = w1)
    (KO : ∀ w1, Below w.heap.size w w1 → Calls Tryz.prog 20 #[.agg cs.toArray] w1 fun e w' => (∃ a cap, e = .returned (.slice a n cap)) ∧ Below w1.heap.size w1 w')
    (KN : ∀ w1, Below w.heap.size w w1 → Calls Tryz.prog 36 #[.agg #[.int .i64 c, .int .i64 r, .slice a k cap]] w1 fun e w' => e = .returned (.bool z) ∧ Below w1.heap.size w1 w') :
    Calls Tryz.prog 19 #[.agg cs.toArray] w fun e w' => e = .returned (.bool (u1 && (u2 && (v || z)))) ∧ Below w.heap.size w w' := by
  have HX := Lib.hid (Bx.new w 29 cs)
  have HB := Lib.hid (up_alloc (Below.refl w.heap.size w) (.cells cs.toArray 29))
  have HL := Lib.hid hL; have HI := Lib.hid KI; have HO := Lib.hid KO; have HN := Lib.hid KN
  have H11 := Lib.hid h11; have H12 := Lib.hid h12; have H13 := Lib.hid h13; have H14 := Lib.hid h14
  have c11 := HX.out.cell 11 h11
  have e2' : decide ((0 : Int) < (n : Int)) = u2 := by rw [← e2, Bool.eq_iff_iff]; simp
  clear hL KI KO KN h11 h12 h13 h14
  cases u1
  · clear e2 e2' e3
    go_enter Tryz.func19, Tryz.ntmps19
    go_wp2_with fail
    refine (HI.out _).mono ?_
    rintro e w1 ⟨rfl, rfl⟩
    go_wp2
    go_ret
    exact ⟨rfl, HB.out⟩
  cases u2
  · clear e3
    go_enter Tryz.func19, Tryz.ntmps19
    go_wp2_with fail
    refine (HI.out _).mono ?_
    rintro e w1 ⟨rfl, hw1⟩
    subst hw1
    go_wp2_with (refine wpList_load_job_want _ rfl rfl w.heap.size rfl cs HX.out HL.out ?_; simp only [Act.put, List.setIfInBounds_toArray, List.set_cons_succ, List.set_cons_zero])
    refine (HO.out _ HB.out).mono ?_
    rintro e w2 ⟨⟨a2, cp2, rfl⟩, hb⟩
    have HB2 := Lib.hid (up_trans HB.out hb)
    clear hb
    go_wp2
    go_ret
    exact ⟨rfl, HB2.out⟩
  cases v
  · go_enter Tryz.func19, Tryz.ntmps19
    go_wp2_with fail
    refine (HI.out _).mono ?_
    rintro e w1 ⟨rfl, hw1⟩
    subst hw1
    go_wp2_with (refine wpList_load_job_want _ rfl rfl w.heap.size rfl cs HX.out HL.out ?_; simp only [Act.put, List.setIfInBounds_toArray, List.set_cons_succ, List.set_cons_zero])
    refine (HO.out _ HB.out).mono ?_
    rintro e w2 ⟨⟨a2, cp2, rfl⟩, hb⟩
    have X2 := HX.out.later (by rw [HL.out]; decide) hb
    have d11 := X2.cell 11 H11.out; have d12 := X2.cell 12 H12.out; have d13 := X2.cell 13 H13.out; have d14 := X2.cell 14 H14.out
    have HB2 := Lib.hid (up_trans HB.out hb)
    clear hb X2 c11
    go_wp2_with fail
    refine (HN.out _ HB2.out).mono ?_
    rintro e w3 ⟨rfl, hb⟩
    have HB3 := Lib.hid (up_trans HB2.out hb)
    clear hb
    go_wp2
    go_ret
    exact ⟨by simp, HB3.out⟩
  · go_enter Tryz.func19, Tryz.ntmps19
    go_wp2_with fail
    refine (HI.out _).mono ?_
    rintro e w1 ⟨rfl, hw1⟩
    subst hw1
    go_wp2_with (refine wpList_load_job_want _ rfl rfl w.heap.size rfl cs HX.out HL.out ?_; simp only [Act.put, List.setIfInBounds_toArray, List.set_cons_succ, List.set_cons_zero])
    refine (HO.out _ HB.out).mono ?_
    rintro e w2 ⟨⟨a2, cp2, rfl⟩, hb⟩
    have X2 := HX.out.later (by rw [HL.out]; decide) hb
    have d11 := X2.cell 11 H11.out
    have HB2 := Lib.hid (up_trans HB.out hb)
    clear hb X2 c11
    go_wp2
    go_ret
    exact ⟨rfl, HB2.out⟩
theorem refMay_any (cs : List Value) (j : Jb) (w : World) (h : JobA w cs j) (hf : WfF j) (hl : j.f.l.length ≤ 1000000) :
    Calls Tryz.prog 19 #[.agg cs.toArray] w fun e w' => e = .returned (.bool (mayM j)) ∧ Below w.heap.size w w' := by
  obtain ⟨a, c, a', c', h12, h13, h14, h15, hI, hT⟩ := h.cells
  have := refMay_core cs (j.n 10) j.f.c j.f.r a _ c (ofM j).length _ _ _ (nestS j.f) w h.length (h.num (k := 10) (by decide)) h12 h13 h14 rfl rfl (fun w1 => refIn_any _ 1 4 w1)
    (fun w1 hb => (refSpOf_any cs j w1 (h.up hb) hf hl).mono fun e w' ⟨a, cap, he, _, hb⟩ => ⟨⟨a, cap, he⟩, hb⟩) (fun w1 hb => refNests_any j.f a c w1 hf.1 hf.2 hl (hI.up hb))
  have e : ∀ x : Int, (!decide (x = 1)) = (x != 1) := fun x => by rw [Bool.eq_iff_iff]; simp
  unfold mayM
  rw [e]
  exact this

set_option maxRecDepth 100000 in
theorem refCopies_core (cs : List Value) (b : Int) (m v : Bool) (w : World) (hL : cs.length = 33) (h11 : cs[11]? = some (.int .i64 b)) (e1 : (b == 4) = v)
    (KM : ∀ w1, Below w.heap.size w w1 → Calls Tryz.prog 19 #[.agg cs.toArray] w1 fun e w' => e = .returned (.bool m) ∧ Below w1.heap.size w1 w') :
    Calls Tryz.prog 10 #[.agg cs.toArray] w fun e w' => e = .returned (.int .i64 (if m = true then (if v = true then 2 else 1) else 0)) ∧ Below w.heap.size w w' := by
  have HX := Lib.hid (Bx.new w 29 cs)
  have HB := Lib.hid (up_alloc (Below.refl w.heap.size w) (.cells cs.toArray 29))
  have HL := Lib.hid hL; have HM := Lib.hid KM; have H11 := Lib.hid h11
  clear hL KM h11
  go_enter Tryz.func10, Tryz.ntmps10
  go_wp2_with (refine wpList_load_job rfl _ rfl w.heap.size rfl cs HX.out HL.out ?_; simp only [Act.put, List.setIfInBounds_toArray, List.set_cons_succ, List.set_cons_zero])
  refine (HM.out _ HB.out).mono ?_
  rintro e w1 ⟨rfl, hb⟩
  have c11 := (HX.out.later (by rw [HL.out]; decide) hb).cell 11 H11.out
  have HB1 := Lib.hid (up_trans HB.out hb)
  clear hb
  cases m
  · go_wp2
    go_ret
    exact ⟨rfl, HB1.out⟩
  cases v
  all_goals
    go_wp2
    go_ret
    exact ⟨rfl, HB1.out⟩
theorem refCopies_any (cs : List Value) (j : Jb) (w : World) (h : JobA w cs j) (hf : WfF j) (hl : j.f.l.length ≤ 1000000) :
    Calls Tryz.prog 10 #[.agg cs.toArray] w fun e w' => e = .returned (.int .i64 (copM j)) ∧ Below w.heap.size w w' := by
  have := refCopies_core cs (j.n 10) _ _ w h.length (h.num (k := 10) (by decide)) rfl (fun w1 hb => refMay_any cs j w1 (h.up hb) hf hl)
  unfold copM
  simp only [beq_iff_eq] at this
  exact this
/-- What Find answers: where a leaf stands first; -1, if it doesn't. -/
def findF (s a : Int) : List (Nat × Nat) → Int → Int
  | [], _ => -1
  | p :: l, k => if (p.1 : Int) = s ∧ (p.2 : Int) = a then k else findF s a l (k + 1)
theorem findF_no {s a : Int} : ∀ {l : List (Nat × Nat)} {k : Int}, (∀ p ∈ l, ¬ ((p.1 : Int) = s ∧ (p.2 : Int) = a)) → findF s a l k = -1
  | [], _, _ => rfl
  | p :: l, k, h => by
    unfold findF
    rw [if_neg (h p (List.mem_cons_self ..))]
    exact findF_no fun q hq => h q (List.mem_cons_of_mem _ hq)
theorem findF_yes {s a : Int} : ∀ {l : List (Nat × Nat)} {k : Int} {x : Nat} {p : Nat × Nat}, l[x]? = some p → (p.1 : Int) = s ∧ (p.2 : Int) = a → (∀ (y : Nat) (q : Nat × Nat), l[y]? = some q → (q.1 : Int) = s ∧ (q.2 : Int) = a → y = x) → findF s a l k = k + x
  | [], k, x, p, h, _, _ => by simp at h
  | q :: l, k, 0, p, h, hp, hu => by
    simp only [List.getElem?_cons_zero, Option.some.injEq] at h
    subst h
    unfold findF
    rw [if_pos hp]
    simp
  | q :: l, k, x + 1, p, h, hp, hu => by
    unfold findF
    rw [if_neg fun hq => by have := hu 0 q rfl hq; omega]
    rw [List.getElem?_cons_succ] at h
    rw [findF_yes h hp fun y r hy hr => by have := hu (y + 1) r (by rw [List.getElem?_cons_succ]; exact hy) hr; omega]
    omega
def FindFRel (l : List (Nat × Nat)) (n : Nat) (s a F : Int) (w : World) (i : Value) (wr : World) : Prop :=
  ∃ k : Nat, k ≤ n ∧ i = .int .i64 (k : Int) ∧ Hid (findF s a (l.drop k) (k : Int) = F) ∧ Hid (Below w.heap.size w wr)
theorem run_eqLf (x y s a : Int) (V : Bool) (hV : (decide (x = s) && decide (y = a)) = V) (w : World) : (binOp .eql 38 (.agg #[.int .i64 x, .int .i64 y]) (.agg #[.int .i64 s, .int .i64 a])).run Tryz.prog w = .ok (.bool V) w := by
  subst hV
  by_cases h1 : x = s <;> by_cases h2 : y = a <;> simp [go_sem, h1, h2]
theorem refFindF_any (l : List (Nat × Nat)) (a : Option Addr) (n cap : Nat) (s x : Int) (w : World) (hn : l.length = n) (hl : n ≤ 10000000) (hA : LfA w a l) :
    Calls Tryz.prog 14 #[.slice a n cap, .int .i64 s, .int .i64 x] w fun e w' => e = .returned (.int .i64 (findF s x l 0)) ∧ Below w.heap.size w w' := by
  have HN := Lib.hid hn; have HA := Lib.hid hA
  obtain ⟨F, hF⟩ : ∃ F, findF s x l 0 = F := ⟨_, rfl⟩
  have HF := Lib.hid hF
  rw [hF]
  clear hn hA hF
  go_enter Tryz.func14, Tryz.ntmps14
  go_wp2
  go_loopw [7] (FindFRel l n s x F w) (fun i _ => n - (intOf i).toNat)
  case atStart => exact ⟨0, by omega, by go_num, Lib.hid (by simpa using HF.out), Lib.hid (Below.refl _ _)⟩
  case round =>
    obtain ⟨k, hk, rfl, HR, HB⟩ := hrel
    by_cases hlt : k < n
    · obtain ⟨p, hp⟩ : ∃ p, l[k]? = some p := ⟨l[k]'(by rw [HN.out]; exact hlt), List.getElem?_eq_getElem _⟩
      obtain ⟨b, off, rfl, h0, h1⟩ := HA.out.cells hp
      have d0 := bl_cell HB.out h0; have d1 := bl_cell HB.out h1
      have z0 : (0 : Int) ≤ (k : Int) := by omega
      have z3 : (k : Int) < (n : Int) := by omega
      have hr := HR.out
      rw [List.drop_eq_getElem_cons (by rw [HN.out]; exact hlt)] at hr
      obtain ⟨hp1, hp2⟩ := List.getElem?_eq_some_iff.1 hp
      rw [hp2] at hr
      unfold findF at hr
      obtain ⟨V, hV⟩ : ∃ V, (decide ((p.1 : Int) = s) && decide ((p.2 : Int) = x)) = V := ⟨_, rfl⟩
      have KE := fun w => run_eqLf (p.1 : Int) (p.2 : Int) s x V hV w
      have hV2 : ((p.1 : Int) = s ∧ (p.2 : Int) = x) ↔ V = true := by rw [← hV, Bool.and_eq_true, decide_eq_true_eq, decide_eq_true_eq]
      simp only [hV2] at hr
      have HR2 := Lib.hid hr
      clear hr hV hV2 h0 h1 hp hp1 hp2
      generalize (p.1 : Int) = p1 at *
      generalize (p.2 : Int) = p2 at *
      cases V
      · go_wp2
        go_roundw
        case rel => exact ⟨k + 1, by omega, by go_num, Lib.hid (by simpa using HR2.out), HB⟩
        case measure => simp [intOf]; omega
      · go_wp2
        go_ret
        exact ⟨by rw [← HR2.out]; rfl, HB.out⟩
    · obtain rfl : k = n := by omega
      have hr := HR.out
      rw [List.drop_eq_nil_of_le (by rw [HN.out]; omega)] at hr
      go_wp2
      go_ret
      exact ⟨by rw [← hr]; rfl, HB.out⟩
/-- The page of a leaf, or 0. -/
def pageM (N leaf : Int) (recto : Bool) : Int := if N < (if recto = true then 2 * leaf + 1 else 2 * leaf + 2) then 0 else (if recto = true then 2 * leaf + 1 else 2 * leaf + 2)
theorem refPageF_any (cs : List Value) (N leaf : Int) (recto : Bool) (w : World) (h1 : cs[1]? = some (.int .i64 N)) (l0 : 0 ≤ leaf) (l1 : leaf ≤ 1000000000) :
    Calls Tryz.prog 16 #[.agg cs.toArray, .int .i64 leaf, .bool recto] w fun e w' => e = .returned (.int .i64 (pageM N leaf recto)) ∧ Below w.heap.size w w' := by
  have HX := Bx.new w 29 cs
  have HB := Lib.hid (up_alloc (Below.refl w.heap.size w) (.cells cs.toArray 29))
  have c1 := HX.cell 1 h1
  clear h1 HX
  generalize cs.toArray = ca at *
  unfold pageM
  cases recto
  · obtain ⟨q, hq⟩ : ∃ q, 2 * leaf + 2 = q := ⟨_, rfl⟩
    by_cases hN : N < q
    all_goals
      simp only [Bool.false_eq_true, if_false, hq, hN, if_true]
      go_enter Tryz.func16, Tryz.ntmps16
      go_wp2
      go_ret
      exact ⟨rfl, HB.out⟩
  · obtain ⟨q, hq⟩ : ∃ q, 2 * leaf + 1 = q := ⟨_, rfl⟩
    by_cases hN : N < q
    all_goals
      simp only [if_true, hq, hN, if_false]
      go_enter Tryz.func16, Tryz.ntmps16
      go_wp2
      go_ret
      exact ⟨rfl, HB.out⟩
end Go.Proofs.YtbfigaadbfggcaaGreatDoor
