/- gatherumlaw12.SchemeBack answers true, for every scheme and every list of texts. -/
import Derived.Test.YtaphkplidnepaaaDoorSchemeAlive
import Derived.Test.YtaphkplidnepaaaDoorSchemeRefThree
import Derived.Test.YtaphkplidnepaaaDoorStepArg
import Derived.Test.YtaphkplidnepaaaDoorSchemeLaid
import Derived.OpenShut
namespace Go.Proofs.YtaphkplidnepaaaDoor
open Go.RowKit DecMath
set_option linter.unusedVariables false

/-- The texts that came in, as a list. -/
theorem texts_of (a : Option Addr) (len cap : Nat) (w : World)
    (h : (a = none ∧ len = 0 ∧ cap = 0) ∨ ∃ x, a = some x ∧ len ≤ cap ∧ cap ≤ maxLen ∧ ∀ i, i < len → ∃ z : ByteArray, w.cell? (x.add i) = some (.string z) ∧ z.size ≤ maxLen) :
    ∃ ls : List (List UInt8), ls.length = len ∧ TxA w a cap ls ∧ ∀ x ∈ ls, x.length ≤ maxLen := by
  rcases h with ⟨rfl, rfl, rfl⟩ | ⟨x, rfl, hl, hm, hc⟩
  · exact ⟨[], rfl, .inl rfl, by simp⟩
  · by_cases h0 : len = 0
    · subst h0; exact ⟨[], rfl, .inl rfl, by simp⟩
    obtain ⟨b, off, spot⟩ := x
    have hspot : spot = none := by
      obtain ⟨z, hz, _⟩ := hc 0 (by omega)
      simpa [Addr.add] using World.cell?_spot hz
    subst hspot
    obtain ⟨l, e, hq⟩ := list_of (Q := fun i (p : List UInt8) => w.cell? ⟨b, off + i, none⟩ = some (.string (tx p)) ∧ p.length ≤ maxLen) len (fun i hi => by
      obtain ⟨z, h1, h2⟩ := hc i hi
      rw [Go.WideShapes.add_plain] at h1
      exact ⟨z.data.toList, by rw [tx_data]; exact h1, by rw [size_data]; exact h2⟩)
    refine ⟨l, e, .inr ⟨b, off, rfl, fun i p hp => (hq i p hp).1, by omega, hm⟩, fun p hp => ?_⟩
    obtain ⟨i, hi⟩ := List.getElem?_of_mem hp
    exact (hq i p hi).2

theorem got_short (ls : List (List UInt8)) : ((getM ls).getD zeroSc).l.length ≤ 6 := by
  cases h : getM ls with
  | none => decide
  | some s =>
    unfold getM at h
    split at h
    · rename_i x hx
      obtain rfl := Option.some.inj h
      split at hx
      · exact (toldB_true (cat_told _ (find_some hx))).2.2.1
      · cases hx
    · split at h
      · rename_i y hy
        split at h
        · obtain rfl := Option.some.inj h
          exact (toldB_true (read_back hy).2).2.2.1
        · cases h
      · cases h
theorem put_len {s : Sc} {t : List UInt8} (h : putM s = some t) : t.length ≤ 300 := by
  unfold putM at h
  cases hn : nameM s with
  | some n =>
    rw [hn] at h
    obtain rfl := Option.some.inj h
    have := (cat_short _ (name_some hn)).1
    simp only [rowE, List.length_append] at this
    omega
  | none =>
    rw [hn] at h
    obtain ⟨ht, rfl⟩ := tell_some h
    have h1 := tell_len ht
    have h2 := (toldB_true ht).2.2.1
    rw [joinM_parts, List.length_append]
    omega

set_option maxRecDepth 100000 in
set_option maxHeartbeats 2000000 in
theorem back_long (c r : Int) (l : List Sp) (a : Option Addr) (cap : Nat) (a' : Option Addr) (n' cap' : Nat) (w : World) (hl : 100 < l.length ∨ 20 < n') (hg : GoodM w) :
    Calls Tryd.prog 6 #[.agg #[.int .i64 c, .int .i64 r, .slice a l.length cap], .slice a' n' cap'] w fun e w' => e = .returned (.bool true) ∧ Below w.heap.size w w' := by
  have HG := Lib.hid hg
  generalize l.length = m at *
  have B0 := Lib.hid (up_alloc (Below.refl _ w) (.cells #[.int .i64 c, .int .i64 r, .slice a m cap] 24))
  have A0 := Bx.new w 24 [.int .i64 c, .int .i64 r, .slice a m cap]
  by_cases h1 : 100 < m
  · have z1 : (100 : Int) < (m : Int) := by omega
    go_enter Tryd.func6, Tryd.ntmps6
    go_wp2_with fail
    refine (schAlive_any _ (HG.out.below B0.out)).mono ?_
    rintro e w1 ⟨rfl, hb⟩
    have a2 := (A0.up hb).cell 2 rfl
    have B1 := Lib.hid (up_trans B0.out hb)
    clear hb A0
    go_wp2
    go_ret
    exact ⟨rfl, B1.out⟩
  · have z1 : decide ((100 : Int) < (m : Int)) = false := by simp; omega
    have z2 : (20 : Int) < (n' : Int) := by omega
    go_enter Tryd.func6, Tryd.ntmps6
    go_wp2_with fail
    refine (schAlive_any _ (HG.out.below B0.out)).mono ?_
    rintro e w1 ⟨rfl, hb⟩
    have a2 := (A0.up hb).cell 2 rfl
    have B1 := Lib.hid (up_trans B0.out hb)
    clear hb A0
    go_wp2
    go_ret
    exact ⟨rfl, B1.out⟩

set_option maxRecDepth 100000 in
set_option maxHeartbeats 4000000 in
theorem back_core (c r : Int) (l : List Sp) (a : Option Addr) (cap : Nat) (a' : Option Addr) (cap' : Nat) (ls : List (List UInt8)) (w : World) (hl : l.length ≤ 100) (hn : ls.length ≤ 20) (h : InL w a l) (h' : TxA w a' cap' ls) (hz : ∀ x ∈ ls, x.length ≤ maxLen) (hg : GoodM w) :
    Calls Tryd.prog 6 #[.agg #[.int .i64 c, .int .i64 r, .slice a l.length cap], .slice a' ls.length cap'] w fun e w' => e = .returned (.bool true) ∧ Below w.heap.size w w' := by
  have HG := Lib.hid hg; have HI := Lib.hid h; have HA := Lib.hid h'; have HZ := Lib.hid hz
  obtain ⟨s, hs⟩ : ∃ s : Sc, s = ⟨c, r, l⟩ := ⟨_, rfl⟩
  have KP := fun w1 (h1 : InL w1 a l) h2 => schPut_any ⟨c, r, l⟩ a cap w1 h1 h2
  have KQ := fun w1 (h1 : InL w1 a l) => refSchPut_any ⟨c, r, l⟩ a cap w1 h1
  have KS := fun b d w1 (h1 : InL w1 b l) (h2 : InL w1 a l) => refSame_any ⟨c, r, l⟩ ⟨c, r, l⟩ b a d cap w1 (by simp only; omega) h1 h2
  rw [decide_eq_true rfl] at KS
  simp only at KP KQ KS
  have KB : (putM s).isSome = true → ∃ tt pl, putT s = tx tt ∧ tt.length ≤ 300 ∧ fieldsL tt = some pl ∧ getM pl = some s := by
    intro h
    obtain ⟨tt, ht⟩ := Option.isSome_iff_exists.1 h
    obtain ⟨pl, h1, h2⟩ := get_put ht
    exact ⟨tt, pl, by unfold putT; rw [ht], put_len ht, h1, h2⟩
  have KG := fun (hz60 : ∀ x ∈ ls, x.length ≤ 60) w1 (h1 : TxA w1 a' cap' ls) h2 => schGet_any a' cap' ls w1 h1 (fun x hx => by have := hz60 x hx; omega) h2
  have KH := fun (hz60 : ∀ x ∈ ls, x.length ≤ 60) w1 (h1 : TxA w1 a' cap' ls) => refSchGet_any a' cap' ls w1 h1 hz60 hn
  have hts := got_short ls
  unfold GivesS at KG KH
  generalize (getM ls).getD zeroSc = t at *
  generalize (getM ls).isSome = ig at *
  have KT := fun a b c d w1 (h1 : InL w1 a t.l) (h2 : InL w1 b t.l) => refSame_any t t a b c d w1 (by omega) h1 h2
  rw [decide_eq_true rfl] at KT
  rw [← hs] at KP KQ
  obtain ⟨T, hT⟩ : ∃ T, putT s = T := ⟨_, rfl⟩
  obtain ⟨ip, hip⟩ : ∃ ip, (putM s).isSome = ip := ⟨_, rfl⟩
  rw [hT, hip] at KP KQ KB
  obtain ⟨m, hm⟩ : ∃ m, l.length = m := ⟨_, rfl⟩
  obtain ⟨n, hnn⟩ : ∃ n, ls.length = n := ⟨_, rfl⟩
  rw [hm] at KP KQ KS hl ⊢
  rw [hnn] at KG KH hn ⊢
  have z1 : decide ((100 : Int) < (m : Int)) = false := by simp; omega
  have z2 : decide ((20 : Int) < (n : Int)) = false := by simp; omega
  have HN := Lib.hid hnn; have HP := Lib.hid KP; have HQ := Lib.hid KQ; have HS := Lib.hid KS; have HKB := Lib.hid KB; have HKG := Lib.hid KG; have HKH := Lib.hid KH; have HKT := Lib.hid KT; have HSS := Lib.hid hs; have HMM := Lib.hid hm
  clear KP KQ KS KB KG KH KT hs hnn hm hT hip h h' hz hg
  have B0 := Lib.hid (up_alloc (Below.refl _ w) (.cells #[.int .i64 c, .int .i64 r, .slice a m cap] 24))
  have A0 := Bx.new w 24 [.int .i64 c, .int .i64 r, .slice a m cap]
  go_enter Tryd.func6, Tryd.ntmps6
  go_wp2_with fail
  refine (schAlive_any _ (HG.out.below B0.out)).mono ?_
  rintro e w1 ⟨rfl, hb⟩
  have A1 := A0.up hb
  have B1 := Lib.hid (up_trans B0.out hb)
  have HI1 := Lib.hid (HI.out.up B1.out); have HA1 := Lib.hid (HA.out.up B1.out); have HG1 := Lib.hid (HG.out.below B1.out)
  have X1 := Lib.hid A1
  have a2 := A1.cell 2 rfl
  clear hb A0 A1
  go_wp2
  go_loopw [5] (fun i wr => ∃ k : Nat, k ≤ n ∧ i = .int .i64 (k : Int) ∧ Hid (∀ x ∈ ls.take k, x.length ≤ 60) ∧ wr = w1) (fun i _ => n - (intOf i).toNat)
  case atStart => exact ⟨0, by omega, by go_num, Lib.hid (by simp), rfl⟩
  case round =>
    obtain ⟨k, hk, rfl, H60, hwr⟩ := hrel
    obtain rfl : w1 = wr := hwr.symm
    clear hwr
    by_cases hlt : k < n
    · obtain ⟨x, hx⟩ : ∃ x, ls[k]? = some x := ⟨ls[k]'(by rw [HN.out]; exact hlt), List.getElem?_eq_getElem _⟩
      obtain ⟨g, o, rfl, hc, -, -⟩ := HA1.out.resolve_left (by rintro rfl; cases hx)
      have hcx := hc k x hx
      have hxz := HZ.out x (List.mem_of_getElem? hx)
      have z0 : (0 : Int) ≤ (k : Int) := by omega
      have z3 : (k : Int) < (n : Int) := by omega
      have htk := take_snoc hx
      obtain ⟨X, hX⟩ : ∃ X, tx x = X := ⟨_, rfl⟩
      have hXs : X.size = x.length := by rw [← hX, tx_size]
      rw [hX] at hcx
      unfold maxLen at hxz
      by_cases h60 : 60 < X.size
      · have z4 : (60 : Int) < (X.size : Int) := by omega
        clear hx hc htk hX
        go_wp2
        go_ret
        exact ⟨rfl, B1.out⟩
      · have z4 : decide ((60 : Int) < (X.size : Int)) = false := by simp; omega
        have H61 := Lib.hid (show ∀ y ∈ ls.take (k + 1), y.length ≤ 60 by
          rw [htk]
          intro y hy
          rcases List.mem_append.1 hy with h | h
          · exact H60.out y h
          · obtain rfl := List.mem_singleton.1 h; omega)
        clear hx hc htk hX
        go_wp2
        go_roundw
        case rel => exact ⟨k + 1, by omega, by go_num, H61, by trivial⟩
        case measure => simp [intOf]; omega
    · obtain rfl : k = n := by omega
      have hall : ls.take k = ls := List.take_of_length_le (by rw [HN.out]; omega)
      have hz60 := H60.out
      rw [hall] at hz60
      have HG2 := Lib.hid (HKG.out hz60); have HH2 := Lib.hid (HKH.out hz60)
      clear hall hz60 a2
      have a0 := X1.out.cell 0 rfl; have a1 := X1.out.cell 1 rfl; have a2 := X1.out.cell 2 rfl
      go_wp2_with fail
      refine (HP.out _ HI1.out HG1.out).mono ?_
      rintro e w2 ⟨rfl, hb⟩
      have X2 := Lib.hid (X1.out.up hb)
      have B2 := Lib.hid (up_trans B1.out hb)
      clear hb a0 a1 a2
      have a0 := X2.out.cell 0 rfl; have a1 := X2.out.cell 1 rfl; have a2 := X2.out.cell 2 rfl
      go_wp2_with fail
      refine (HQ.out _ (HI.out.up B2.out)).mono ?_
      rintro e w3 ⟨rfl, hb⟩
      have X3 := Lib.hid (X2.out.up hb)
      have B3 := Lib.hid (up_trans B2.out hb)
      clear hb a0 a1 a2
      go_wp2_with fail
      refine (HG2.out _ (HA.out.up B3.out) (HG.out.below B3.out)).mono ?_
      rintro e w4 ⟨a4, c4, rfl, hF, hb⟩
      have X4 := Lib.hid ((X3.out.up hb).alloc (.cells #[.int .i64 t.c, .int .i64 t.r, .slice a4 t.l.length c4] 24))
      have Y4 := Bx.new w4 24 [.int .i64 t.c, .int .i64 t.r, .slice a4 t.l.length c4]
      have I4 := Lib.hid ((InF.inL hF).up (up_alloc (Below.refl _ _) (.cells #[.int .i64 t.c, .int .i64 t.r, .slice a4 t.l.length c4] 24)))
      have B4 := Lib.hid (up_alloc (up_trans B3.out hb) (.cells #[.int .i64 t.c, .int .i64 t.r, .slice a4 t.l.length c4] 24))
      clear hF hb
      go_wp2_with fail
      refine (HH2.out _ (HA.out.up B4.out)).mono ?_
      rintro e w5 ⟨a5, c5, rfl, hF, hb⟩
      have X5 := Lib.hid ((X4.out.up hb).alloc (.cells #[.int .i64 t.c, .int .i64 t.r, .slice a5 t.l.length c5] 24))
      have Y5 := (Y4.up hb).alloc (.cells #[.int .i64 t.c, .int .i64 t.r, .slice a5 t.l.length c5] 24)
      have Z5 := Bx.new w5 24 [.int .i64 t.c, .int .i64 t.r, .slice a5 t.l.length c5]
      have I5 := Lib.hid ((I4.out.up hb).up (up_alloc (Below.refl _ _) (.cells #[.int .i64 t.c, .int .i64 t.r, .slice a5 t.l.length c5] 24)))
      have J5 := Lib.hid ((InF.inL hF).up (up_alloc (Below.refl _ _) (.cells #[.int .i64 t.c, .int .i64 t.r, .slice a5 t.l.length c5] 24)))
      have B5 := Lib.hid (up_alloc (up_trans B4.out hb) (.cells #[.int .i64 t.c, .int .i64 t.r, .slice a5 t.l.length c5] 24))
      clear hF hb Y4
      have y0 := Y5.cell 0 rfl; have y1 := Y5.cell 1 rfl; have y2 := Y5.cell 2 rfl
      have z0 := Z5.cell 0 rfl; have z1 := Z5.cell 1 rfl; have z2 := Z5.cell 2 rfl
      clear Y5 Z5
      have q1 : (ip != ip) = false := by simp
      have q2 : (ig != ig) = false := by simp
      go_wp2_with fail
      refine (HKT.out _ _ _ _ _ I5.out J5.out).mono ?_
      rintro e w6 ⟨rfl, hb⟩
      have X6 := Lib.hid (X5.out.up hb)
      have B6 := Lib.hid (up_trans B5.out hb)
      clear hb y0 y1 y2 z0 z1 z2 q1 q2
      cases ip
      · go_wp2
        go_ret
        exact ⟨rfl, B6.out⟩
      · obtain ⟨tt, pl, hTt, htl, hfl, hgl⟩ := HKB.out rfl
        have KF := fun w1 => refFields_any T w1 (by rw [hTt, tx_size]; omega)
        rw [hTt, data_tx, ← hTt, hfl] at KF
        unfold GivesF at KF
        simp only [Option.isSome_some, Option.getD_some] at KF
        have hplz : ∀ x ∈ pl, x.length ≤ 1000000 := by
          intro x hx
          have h1 := fieldsL_octets hfl
          have h2 : x.length ≤ pl.flatten.length := List.Sublist.length_le (List.sublist_flatten_of_mem hx)
          omega
        have KG := fun a c w1 (h1 : TxA w1 a c pl) h2 => schGet_any a c pl w1 h1 hplz h2
        rw [hgl, HSS.out] at KG
        unfold GivesS at KG
        simp only [Option.isSome_some, Option.getD_some] at KG
        rw [HMM.out] at KG
        have HKF := Lib.hid KF; have HKG2 := Lib.hid KG
        clear KF KG hTt htl hfl hgl hplz
        obtain ⟨np, hnp⟩ : ∃ np, pl.length = np := ⟨_, rfl⟩
        have HNP := Lib.hid hnp
        clear hnp
        go_wp2_with fail
        refine (HKF.out _).mono ?_
        rintro e w7 ⟨v, rfl, hTS, hb⟩
        obtain ⟨a7, c7, rfl, hA7⟩ := hTS.arg
        have X7 := Lib.hid (X6.out.up hb)
        have B7 := Lib.hid (up_trans B6.out hb)
        have HA7 := Lib.hid hA7
        clear hb hTS hA7
        go_wp2_with fail
        refine (HKG2.out _ _ _ HA7.out (HG.out.below B7.out)).mono ?_
        rintro e w8 ⟨a8, c8, rfl, hF, hb⟩
        have X8 := (X7.out.up hb).alloc (.cells #[.int .i64 c, .int .i64 r, .slice a8 m c8] 24)
        have Y8 := Bx.new w8 24 [.int .i64 c, .int .i64 r, .slice a8 m c8]
        have I8 := Lib.hid ((InF.inL hF).up (up_alloc (Below.refl _ _) (.cells #[.int .i64 c, .int .i64 r, .slice a8 m c8] 24)))
        have B8 := Lib.hid (up_alloc (up_trans B7.out hb) (.cells #[.int .i64 c, .int .i64 r, .slice a8 m c8] 24))
        have d0 := X8.cell 0 rfl; have d1 := X8.cell 1 rfl; have d2 := X8.cell 2 rfl
        have f0 := Y8.cell 0 rfl; have f1 := Y8.cell 1 rfl; have f2 := Y8.cell 2 rfl
        clear hF hb X8 Y8
        go_wp2_with fail
        refine (HS.out _ _ _ I8.out (HI.out.up B8.out)).mono ?_
        rintro e w9 ⟨rfl, hb⟩
        have B9 := Lib.hid (up_trans B8.out hb)
        clear hb d0 d1 d2 f0 f1 f2
        go_wp2
        go_ret
        exact ⟨rfl, B9.out⟩

theorem walkSchemeBack (c r : Int) (a : Option Addr) (len cap : Nat) (a' : Option Addr) (len' cap' : Nat) (w : World) (x0 : (Lit.int .i64 c).wf = true) (x1 : (Lit.int .i64 r).wf = true)
    (h : (a = none ∧ len = 0 ∧ cap = 0) ∨ ∃ x, a = some x ∧ len ≤ cap ∧ cap ≤ maxLen ∧ ∀ i, i < len → (∃ z, w.cell? (x.add (i * 3 + 0)) = some (.int .i64 z) ∧ (Lit.int .i64 z).wf = true) ∧ (∃ z, w.cell? (x.add (i * 3 + 1)) = some (.int .i64 z) ∧ (Lit.int .i64 z).wf = true) ∧ (∃ z, w.cell? (x.add (i * 3 + 2)) = some (.bool z)))
    (h' : (a' = none ∧ len' = 0 ∧ cap' = 0) ∨ ∃ x, a' = some x ∧ len' ≤ cap' ∧ cap' ≤ maxLen ∧ ∀ i, i < len' → ∃ z : ByteArray, w.cell? (x.add i) = some (.string z) ∧ z.size ≤ maxLen) (hg : GoodM w) :
    Calls Tryd.prog 6 #[.agg #[.int .i64 c, .int .i64 r, .slice a len cap], .slice a' len' cap'] w fun e w' => e = .returned (.bool true) ∧ Below w.heap.size w w' := by
  obtain ⟨l, rfl, hp⟩ := steps_of a len cap w h
  obtain ⟨ls, rfl, hp', hz⟩ := texts_of a' len' cap' w h'
  by_cases hl : 100 < l.length ∨ 20 < ls.length
  · exact back_long c r l a cap a' _ cap' w hl hg
  · exact back_core c r l a cap a' cap' ls w (by omega) (by omega) hp hp' hz hg
end Go.Proofs.YtaphkplidnepaaaDoor
