/- Part 15 of the texts that the proofs of this seat share: TicketRefPut4, TextsSame, JobSame, Laid, DecLaid, SchemeLaid, JobWant, RefLight, OpenCells, StepArg, OpenJob, LexRefLines. -/
import Derived.Test.YtenigkjonegdmaaGreatDoorPart14
import Derived.Test.YtenigkjonegdmaaGreatDoorPart4
import Derived.WalkKit
import Derived.BigQuiet
import Derived.Test.YtenigkjonegdmaaGreatDoorPart5
import Derived.Test.YtenigkjonegdmaaGreatDoorPart13
import Derived.Test.YtenigkjonegdmaaGreatDoorPart9
import Derived.Test.YtenigkjonegdmaaGreatDoorPart1
import Derived.Lib.LaidTab
import Derived.Stop.LaidErr
import Derived.MakeChecks
import Derived.Test.YtenigkjonegdmaaGreatDoorPart2
import Derived.Shelf.Vars
import Derived.Deep.Slices
import Derived.Deep.Fields
import Derived.OpenShut
import Derived.Lib.SmallJoins
import Derived.SliceStrings
import Derived.Test.YtenigkjonegdmaaGreatDoorPart11
/- What the reference's Put of tickets answers: what can't be told, none; else its text. -/
namespace Go.Proofs.YtenigkjonegdmaaGreatDoor
open Go.RowKit
set_option linter.unusedVariables false
set_option linter.unusedSimpArgs false

theorem part_len {j : Jb} (hw : WfJ j) (ht : tellB j = true) {x : Ky} (hx : x ∈ keyL) (h5 : x.d ≠ 5) : ∀ q ∈ (prtM x j).1, q.length ≤ 200 := by
  have e : prtM x { j with ls := [] } = prtM x j := by
    unfold prtM
    simp only [h5, if_false]
  have h2 : (prtM x j).2 = true := by
    unfold tellB at ht
    exact List.all_eq_true.1 ht x hx
  have := (prt_len (j := { j with ls := [] }) hw hx (by rw [e]; exact h2) 0 (by simp)).2
  rw [e] at this
  exact this
theorem refTPut_any (cs : List Value) (j : Jb) (w : World) (h : JobA w cs j) (hw : WfJ j) (B : Nat) (hz : ∀ l ∈ j.ls, l.length ≤ B) (hB : B ≤ 100000) (hls : j.ls.length ≤ 1000000) (htl : j.t.length ≤ 999999) :
    Calls Tryz.prog 8 #[.agg cs.toArray] w fun e w' => e = .returned (.tuple #[.string (tx (putT' j)), .bool (tellB j)]) ∧ Below w.heap.size w w' := by
  have hl := h.length
  have hv := fun k (hk : k < 28) => h.num hk
  have h0 := h.title
  obtain ⟨sa, sc, la, lc, e, hI, hT⟩ := h
  have h12 : cs[12]? = some (.int .i64 j.f.c) := by rw [e]; rfl
  have h13 : cs[13]? = some (.int .i64 j.f.r) := by rw [e]; rfl
  have h14 : cs[14]? = some (.slice sa j.f.l.length sc) := by rw [e]; rfl
  have h15 : cs[15]? = some (.slice la j.ls.length lc) := by rw [e]; rfl
  have KF := fun w1 (hb : Below w.heap.size w w1) => refSchPut_any j.f sa sc w1 (hI.up hb)
  have KN := fun w1 (hb : Below w.heap.size w w1) => refNames16_any la lc j.ls w1 (hT.up hb) (fun l hl => by have := hz l hl; omega) hls
  have ht := tellB_eq j
  by_cases hb : tellB j = true
  · have hb2 := hb
    rw [ht] at hb2
    simp only [Bool.and_eq_true, Bool.not_eq_true', decide_eq_true_eq, decide_eq_false_iff_not] at hb2
    obtain ⟨⟨⟨⟨⟨b1, b2⟩, b3⟩, b4, b4'⟩, b5⟩, b6⟩ := hb2
    obtain ⟨Q, hq⟩ := Option.isSome_iff_exists.1 b1
    obtain ⟨F, hp⟩ := Option.isSome_iff_exists.1 b2
    have k0 := part_len hw hb (x := ⟨[116, 105, 116, 108, 101], 0, 0, 1, 1⟩) (by decide) (by decide) Q (by
      unfold prtM
      rw [if_pos rfl, if_neg b3, hq]
      simp)
    have k6 := part_len hw hb (x := ⟨[98, 105, 110, 100, 105, 110, 103], 2, 10, 1, 1⟩) (by decide) (by decide) (word (tab 1) (j.n 10)).data.toList (by
      unfold prtM
      rw [if_neg (by decide), if_pos rfl]
      simp [wprM])
    have k7 := part_len hw hb (x := ⟨[102, 111, 108, 100, 115], 4, 0, 1, 7⟩) (by decide) (by decide) F (by
      unfold prtM
      rw [if_neg (by decide), if_neg (by decide), if_neg (by decide), if_pos rfl, hp]
      simp)
    have k9 := part_len hw hb (x := ⟨[115, 116, 121, 108, 101], 3, 11, 1, 1⟩) (by decide) (by decide) (word (tab 2) (j.n 11)).data.toList (by
      unfold prtM
      rw [if_neg (by decide), if_neg (by decide), if_pos rfl]
      simp [wprM])
    rw [size_data] at k6 k9
    have hpt : putT j.f = tx F := by unfold putT; rw [hp]
    rw [hpt, b2] at KF
    rw [decide_eq_true b4, b4'] at KN
    have := refTPut_good cs j Q F _ _ j.f.c j.f.r sa j.f.l.length sc la j.ls.length lc B w hl h0 hv h12 h13 h14 h15 rfl hT b4 hw hz hB hb hq hp b3 rfl rfl b5 b6 (by omega) (by omega) (by omega) (by omega) KF KN
    unfold putT'
    rw [hb, if_pos rfl]
    exact this
  · simp only [Bool.not_eq_true] at hb
    rw [hb] at ht
    have KQ := fun w1 => refQuote_any j.t w1 (by omega)
    unfold GivesQ at KQ
    have e3 : decide ((60 : Int) < ((tx j.t).size : Int)) = decide (60 < j.t.length) := by rw [tx_size]; exact decide_eq_decide.2 (by omega)
    have := refTPut_bad cs (tx j.t) _ _ _ _ _ _ _ _ _ _ _ _ j.f.c j.f.r sa j.f.l.length sc la j.ls.length lc w hl h0 (hv 10 (by decide)) h12 h13 h14 h15 (hv 11 (by decide)) KQ KF KN (fun w1 => refWord_any 1 (j.n 10) w1) (fun w1 => refWord_any 2 (j.n 11) w1) e3 rfl rfl ht.symm
    unfold putT'
    rw [hb, if_neg (by simp)]
    exact this
end Go.Proofs.YtenigkjonegdmaaGreatDoor
/- What the reference's comparison of two lists of texts answers, of a list twice, wherever it lies. -/
namespace Go.Proofs.YtenigkjonegdmaaGreatDoor
open Go.RowKit
set_option linter.unusedVariables false

set_option maxHeartbeats 1000000 in
theorem texts_same_at {w : World} {a b : Option Addr} {ca cb : Nat} {ls : List (List UInt8)} (ha : TxA w a ca ls) (hb : TxA w b cb ls) (hl : ls.length ≤ 1000000) :
    Calls Tryz.prog 35 #[.slice a ls.length ca, .slice b ls.length cb] w fun e w' => e = .returned (.bool true) ∧ Below w.heap.size w w' := by
  have HA := Lib.hid ha; have HB := Lib.hid hb
  clear ha hb
  obtain ⟨m, hm⟩ : ∃ m, ls.length = m := ⟨_, rfl⟩
  have HM := Lib.hid hm
  rw [hm] at hl ⊢
  clear hm
  go_enter Tryz.func35, Tryz.ntmps35
  go_wp2
  go_loopw [5] (fun i wr => ∃ k : Nat, k ≤ m ∧ i = .int .i64 (k : Int) ∧ ∃ u : Later w, wr = u.now) (fun i _ => m - (intOf i).toNat)
  case atStart => exact ⟨0, by omega, by go_num, ⟨w, Below.refl _ _⟩, rfl⟩
  case round =>
    obtain ⟨k, hk, rfl, u, rfl⟩ := hrel
    by_cases hlt : k < m
    · obtain ⟨x, hx⟩ : ∃ x, ls[k]? = some x := ⟨ls[k]'(by rw [HM.out]; exact hlt), List.getElem?_eq_getElem _⟩
      obtain h | ⟨g1, o1, rfl, h1, _⟩ := HA.out
      · have := HM.out; rw [h] at this; simp at this; omega
      obtain h | ⟨g2, o2, rfl, h2, _⟩ := HB.out
      · have := HM.out; rw [h] at this; simp at this; omega
      have c1 := fun u : Later w => u.cell (h1 k x hx)
      have c2 := fun u : Later w => u.cell (h2 k x hx)
      generalize tx x = p at *
      have z0 : (0 : Int) ≤ (k : Int) := by omega
      have z1 : (k : Int) < (m : Int) := by omega
      clear h1 h2 hx
      go_wp2
      refine wp_region_later (by kernel_rfl) (by kernel_rfl) ?_
      repeat (go_big_quiet_step (fail))
      refine wpQuiet_nil ?_
      rintro _ ⟨u2, rfl⟩
      clear c1 c2
      go_wp2
      go_roundw
      case rel => exact ⟨k + 1, by omega, by go_num, u2, rfl⟩
      case measure => simp [intOf]; omega
    · have hk2 : m ≤ k := by omega
      go_wp2
      go_ret
      exact ⟨rfl, u.up⟩
end Go.Proofs.YtenigkjonegdmaaGreatDoor
/- What the reference's comparison of two jobs answers, of a job twice, wherever its lists lie. -/
namespace Go.Proofs.YtenigkjonegdmaaGreatDoor
open Go.RowKit
set_option linter.unusedVariables false
set_option linter.unusedSimpArgs false

theorem nums_of {w : World} {g : Nat} {l : List Int} (h : Bx w g (enc l)) : Nums w (some ⟨g, 0, none⟩) l := .inr ⟨g, 0, rfl, fun j x hx => by
  rw [Nat.zero_add]
  exact h.1 j _ (by unfold enc; rw [List.getElem?_map, hx]; rfl)⟩

set_option maxRecDepth 100000 in
set_option maxHeartbeats 4000000 in
theorem jobSame_core (T : ByteArray) (n : Nat → Int) (c r : Int) (a1 a2 b1 b2 : Option Addr) (x d1 d2 y e1 e2 : Nat) (w : World)
    (KF : ∀ u, Below w.heap.size w u → Calls Tryz.prog 34 #[.agg #[.int .i64 c, .int .i64 r, .slice a1 x d1], .agg #[.int .i64 c, .int .i64 r, .slice a2 x d2]] u fun e w' => e = .returned (.bool true) ∧ Below u.heap.size u w')
    (KT : ∀ u, Below w.heap.size w u → Calls Tryz.prog 35 #[.slice b1 y e1, .slice b2 y e2] u fun e w' => e = .returned (.bool true) ∧ Below u.heap.size u w') :
    Calls Tryz.prog 10 #[.agg (jobL T n c r (.slice a1 x d1) (.slice b1 y e1)).toArray, .agg (jobL T n c r (.slice a2 x d2) (.slice b2 y e2)).toArray] w fun e w' => e = .returned (.bool true) ∧ Below w.heap.size w w' := by
  obtain ⟨cs, hcs⟩ : ∃ cs, jobL T n c r (.slice a1 x d1) (.slice b1 y e1) = cs := ⟨_, rfl⟩
  obtain ⟨ds, hds⟩ : ∃ ds, jobL T n c r (.slice a2 x d2) (.slice b2 y e2) = ds := ⟨_, rfl⟩
  have hlc : cs.length = 33 := by rw [← hcs]; rfl
  have hld : ds.length = 33 := by rw [← hds]; rfl
  have HA := Lib.hid (fun w1 => refAll_any cs n w1 (fun k hk => by rw [← hcs]; exact job_at _ _ _ _ _ _ hk))
  have HD := Lib.hid (fun w1 => refAll_any ds n w1 (fun k hk => by rw [← hds]; exact job_at _ _ _ _ _ _ hk))
  have HF := Lib.hid KF; have HT := Lib.hid KT
  have X1 := (Bx.new w 29 cs).later (by rw [hlc]; decide) (up_alloc (Below.refl _ _) (.cells ds.toArray 29))
  have X2 := Bx.new (w.alloc (.cells cs.toArray 29)) 29 ds
  have B0 := up_alloc (up_alloc (Below.refl w.heap.size w) (.cells cs.toArray 29)) (.cells ds.toArray 29)
  rw [World.size_alloc] at X2
  have HC := Lib.hid hcs; have HE := Lib.hid hds; have HLC := Lib.hid hlc; have HLD := Lib.hid hld
  rw [hcs, hds]
  clear KF KT hcs hds hlc hld
  have X1 := Lib.hid X1; have X2 := Lib.hid X2; have B0 := Lib.hid B0
  go_enter Tryz.func10, Tryz.ntmps10
  go_wp2
  obtain ⟨w0, hw0⟩ : ∃ w0, (w.alloc (.cells cs.toArray 29)).alloc (.cells ds.toArray 29) = w0 := ⟨_, rfl⟩
  rw [hw0] at X1 X2 B0 ⊢
  clear hw0
  refine wp_region_calls [([0, 1, 2, 3, 4, 5, 6, 8], 7), ([], 9), ([], 10), ([11, 12, 13, 14, 15, 16], 17), ([18, 19, 20, 21, 22, 23], 24)] [25, 26] (by kernel_rfl) (by kernel_rfl) rfl (fun _ _ d _ _ h => by cases d <;> exact h) ?_
  refine walkC_take _ rfl (fun K0 hK0 => ?_)
  simp only [List.map_cons, List.map_nil, List.getD_cons_zero, List.getD_cons_succ]
  have t1 := fun u : Later w0 => u.cell (X1.out.cell 0 (by rw [← HC.out]; rfl))
  have t2 := fun u : Later w0 => u.cell (X2.out.cell 0 (by rw [← HE.out]; rfl))
  have R1 := Lib.hid (later_range X1.out (by rw [HLC.out]; decide))
  have R2 := Lib.hid (later_range X2.out (by rw [HLD.out]; decide))
  repeat (first
    | (go_big_quiet_want; refine quiet_load_job _ rfl w.heap.size rfl cs HLC.out R1.out ?_; simp only [Act.put, List.setIfInBounds_toArray, List.set_cons_succ, List.set_cons_zero]; go_big_quiet_on)
    | (go_big_quiet_want; refine quiet_load_job _ rfl (w.heap.size + 1) rfl ds HLD.out R2.out ?_; simp only [Act.put, List.setIfInBounds_toArray, List.set_cons_succ, List.set_cons_zero]; go_big_quiet_on)
    | go_big_quiet_step (fail))
  refine wpQuiet_nil (hK0.out _ (fun K hK => ?_))
  go_simp
  refine (HA.out _).mono ?_
  rintro e w1 ⟨g1, rfl, -, N1, hb⟩
  have C1 := Lib.hid (up_trans (up_drew (Below.refl _ w0)) hb)
  refine hK.out _ _ ⟨⟨w1, C1.out⟩, rfl⟩ ?_
  clear hK K hK0 K0 hb
  try simp only [List.setIfInBounds_toArray, List.set_cons_zero, List.set_cons_succ]
  refine walkC_take _ rfl (fun K0 hK0 => ?_)
  simp only [List.map_cons, List.map_nil, List.getD_cons_zero, List.getD_cons_succ]
  refine wpQuiet_nil (hK0.out _ (fun K hK => ?_))
  go_simp
  refine (HD.out _).mono ?_
  rintro e w2 ⟨g2, rfl, -, N2, hb⟩
  have C2 := Lib.hid (up_trans C1.out hb)
  have M1 := N1.later (by rw [enc_length, numsL_length]; decide) hb
  refine hK.out _ _ ⟨⟨w2, C2.out⟩, rfl⟩ ?_
  clear hK K hK0 K0 hb
  try simp only [List.setIfInBounds_toArray, List.set_cons_zero, List.set_cons_succ]
  have KI := ints_same (l := numsL n) 28 28 (nums_of M1) (nums_of N2) (by rw [numsL_length]; decide)
  rw [numsL_length] at KI
  refine walkC_take _ rfl (fun K0 hK0 => ?_)
  simp only [List.map_cons, List.map_nil, List.getD_cons_zero, List.getD_cons_succ]
  refine wpQuiet_nil (hK0.out _ (fun K hK => ?_))
  go_simp
  refine (KI).mono ?_
  rintro e w3 ⟨rfl, hb⟩
  have C3 := Lib.hid (up_trans C2.out hb)
  refine hK.out _ _ ⟨⟨w3, C3.out⟩, rfl⟩ ?_
  clear hK K hK0 K0 hb
  try simp only [List.setIfInBounds_toArray, List.set_cons_zero, List.set_cons_succ]
  have p1 := fun u : Later w0 => u.cell (X1.out.cell 12 (by rw [← HC.out]; rfl)); have p2 := fun u : Later w0 => u.cell (X1.out.cell 13 (by rw [← HC.out]; rfl)); have p3 := fun u : Later w0 => u.cell (X1.out.cell 14 (by rw [← HC.out]; rfl)); have p4 := fun u : Later w0 => u.cell (X1.out.cell 15 (by rw [← HC.out]; rfl))
  have q1 := fun u : Later w0 => u.cell (X2.out.cell 12 (by rw [← HE.out]; rfl)); have q2 := fun u : Later w0 => u.cell (X2.out.cell 13 (by rw [← HE.out]; rfl)); have q3 := fun u : Later w0 => u.cell (X2.out.cell 14 (by rw [← HE.out]; rfl)); have q4 := fun u : Later w0 => u.cell (X2.out.cell 15 (by rw [← HE.out]; rfl))
  clear t1 t2 N1 N2 M1 KI
  refine walkC_take _ rfl (fun K0 hK0 => ?_)
  simp only [List.map_cons, List.map_nil, List.getD_cons_zero, List.getD_cons_succ]
  repeat (go_big_quiet_step (fail))
  refine wpQuiet_nil (hK0.out _ (fun K hK => ?_))
  go_simp
  refine (HF.out _ (up_trans B0.out C3.out)).mono ?_
  rintro e w4 ⟨rfl, hb⟩
  have C4 := Lib.hid (up_trans C3.out hb)
  refine hK.out _ _ ⟨⟨w4, C4.out⟩, rfl⟩ ?_
  clear hK K hK0 K0 hb
  try simp only [List.setIfInBounds_toArray, List.set_cons_zero, List.set_cons_succ]
  refine walkC_take _ rfl (fun K0 hK0 => ?_)
  simp only [List.map_cons, List.map_nil, List.getD_cons_zero, List.getD_cons_succ]
  repeat (go_big_quiet_step (fail))
  refine wpQuiet_nil (hK0.out _ (fun K hK => ?_))
  go_simp
  refine (HT.out _ (up_trans B0.out C4.out)).mono ?_
  rintro e w5 ⟨rfl, hb⟩
  have C5 := Lib.hid (up_trans C4.out hb)
  refine hK.out _ _ ⟨⟨w5, C5.out⟩, rfl⟩ ?_
  clear hK K hK0 K0 hb
  try simp only [List.setIfInBounds_toArray, List.set_cons_zero, List.set_cons_succ]
  refine walkC_last (fun K0 hK0 => ?_)
  simp only [List.map_cons, List.map_nil, List.getD_cons_zero, List.getD_cons_succ]
  repeat (go_big_quiet_step (fail))
  refine wpQuiet_nil (hK0.out _ ?_)
  clear hK0 K0 p1 p2 p3 p4 q1 q2 q3 q4
  go_wp2
  go_ret
  exact ⟨rfl, up_trans B0.out C5.out⟩

/-- Of a job twice, Same answers true. -/
theorem jobSame_any (cs ds : List Value) (j : Jb) (w : World) (h1 : JobA w cs j) (h2 : JobA w ds j) (hl : j.f.l.length ≤ 1000000) (hls : j.ls.length ≤ 1000000) :
    Calls Tryz.prog 10 #[.agg cs.toArray, .agg ds.toArray] w fun e w' => e = .returned (.bool true) ∧ Below w.heap.size w w' := by
  obtain ⟨a1, d1, b1, e1, rfl, hs1, ht1⟩ := h1
  obtain ⟨a2, d2, b2, e2, rfl, hs2, ht2⟩ := h2
  refine jobSame_core (tx j.t) j.n j.f.c j.f.r a1 a2 b1 b2 _ d1 d2 _ e1 e2 w (fun u hu => ?_) (fun u hu => texts_same_at (ht1.up hu) (ht2.up hu) hls)
  have := refSame_any j.f j.f a1 a2 d1 d2 u hl (hs1.up hu) (hs2.up hu)
  rwa [decide_eq_true rfl] at this
end Go.Proofs.YtenigkjonegdmaaGreatDoor
/- What a row's list of variables gives dec.Put: the library's table of powers. -/
namespace Go.Proofs.YtenigkjonegdmaaGreatDoor
open Go.RowKit

theorem laid_drop {P : Program} {W : World} : ∀ (i : Nat) {l : List (String × DataW Unit)}, laidMet P l W → laidMet P (l.drop i) W
  | 0, _, h => h
  | _ + 1, [], h => h
  | i + 1, _ :: _, h => laid_drop i h.tail
theorem gPow : Tryz.prog.globalNamed "internal/strconv.uint64pow10" = some 1 := by kernel_rfl
theorem tPow : (Tryz.prog.globals[1]?).map (·.type) = some 160 := by kernel_rfl
theorem cU64 : Tryz.prog.cellsOf 143 = 1 := by kernel_rfl
theorem cPow : Tryz.prog.cellsOf 160 = 20 := by kernel_rfl
/-- i: where the table stands in the list. -/
theorem tab_of {l : List (String × DataW Unit)} {W : World} (h : laidMet Tryz.prog l W) (i : Nat)
    (e1 : l.drop i = ("internal/strconv.uint64pow10", Lib.tabData .u64 Lib.pow10Tab) :: l.drop (i + 1)) : Tab W := by
  have h1 := laid_drop i h
  rw [e1] at h1
  exact Lib.tabIs_of_head gPow tPow Tryz.underlying160 Tryz.underlying143 cU64 cPow h1
end Go.Proofs.YtenigkjonegdmaaGreatDoor
/- What a row's list of variables gives dec's calls: the library's table of powers and its two errors. -/
namespace Go.Proofs.YtenigkjonegdmaaGreatDoor
open Go.RowKit DecMath

theorem gSyn : Tryz.prog.globalNamed "strconv.ErrSyntax" = some 2 := by kernel_rfl
theorem gRng : Tryz.prog.globalNamed "strconv.ErrRange" = some 3 := by kernel_rfl
theorem tSyn : (Tryz.prog.globals[2]?).map (·.type) = some 56 := by kernel_rfl
theorem tRng : (Tryz.prog.globals[3]?).map (·.type) = some 56 := by kernel_rfl
theorem cErr : Tryz.prog.cellsOf 179 = 1 := by kernel_rfl
theorem cStr : Tryz.prog.cellsOf 9 = 1 := by kernel_rfl
theorem star : "*" ++ "errors.errorString" = "*errors.errorString" := by decide
theorem rowErr (u : TypeId) (h : Tryz.prog.typeName? 3 u = some "*errors.errorString") : u = 177 :=
  typeName_ptr_named (nm := "errors.errorString") (by rw [star]; kernel_rfl) (by kernel_rfl) (by decide) u (by rw [star]; exact h)

/-- i, j, k: where the table, the range's error and the syntax's error stand in the list. -/
theorem good_of {l : List (String × DataW Unit)} {W : World} (h : laidMet Tryz.prog l W) (i j k : Nat)
    (e1 : l.drop i = ("internal/strconv.uint64pow10", Lib.tabData .u64 Lib.pow10Tab) :: l.drop (i + 1))
    (e2 : l.drop j = ("strconv.ErrRange", .iface "*errors.errorString" (.ptr (.agg [.lit (.string [118, 97, 108, 117, 101, 32, 111, 117, 116, 32, 111, 102, 32, 114, 97, 110, 103, 101])]))) :: l.drop (j + 1))
    (e3 : l.drop k = ("strconv.ErrSyntax", .iface "*errors.errorString" (.ptr (.agg [.lit (.string [105, 110, 118, 97, 108, 105, 100, 32, 115, 121, 110, 116, 97, 120])]))) :: l.drop (k + 1)) : Good W := by
  have h1 := laid_drop i h
  have h2 := laid_drop j h
  have h3 := laid_drop k h
  rw [e1] at h1
  rw [e2] at h2
  rw [e3] at h3
  obtain ⟨a2, s2, v2, -, -, -⟩ := laid_sentinel h2 gRng tRng Tryz.underlying56 rowErr Tryz.underlying177 Tryz.underlying179 rfl rfl Tryz.underlying9 cErr cStr
  obtain ⟨a3, s3, v3, -, -, -⟩ := laid_sentinel h3 gSyn tSyn Tryz.underlying56 rowErr Tryz.underlying177 Tryz.underlying179 rfl rfl Tryz.underlying9 cErr cStr
  exact ⟨Lib.tabIs_of_head gPow tPow Tryz.underlying160 Tryz.underlying143 cU64 cPow h1, ⟨_, _, v3⟩, _, _, v2⟩
end Go.Proofs.YtenigkjonegdmaaGreatDoor
/- What a row's list of variables and the world's shape give scheme's calls. -/
namespace Go.Proofs.YtenigkjonegdmaaGreatDoor
open Go.RowKit DecMath

/-- In every world of the program's shape the variable that Cut and Split read holds some number. -/
theorem mx_of {W : World} (h : W.ShapedOpen Tryz.prog) : Mx W :=
  cell_of_shapedOpen_int (g := 0) (t := 3) (zero := #[.int .i64 0]) h (of_decide_eq_true (by kernel_rfl)) (by kernel_rfl) rfl (by kernel_rfl) (by kernel_rfl) Tryz.underlying3
end Go.Proofs.YtenigkjonegdmaaGreatDoor
/- A load of a job by an operation that bears a guard. -/
namespace Go.Proofs.YtenigkjonegdmaaGreatDoor
open Go.RowKit
set_option linter.unusedVariables false
section
variable {ops : Array Oper} {rest : List Oper} {o : Oper} {a : Act} {w : World} {Q : Exit → Act → World → Prop} {C : World → Prop} {K : Act → Prop}
/-- A job is loaded by an operation that bears a guard, and is wanted. -/
theorem wpList_load_job_want (x : Operand) (ho : o.op = .load 29 x) (hw : Region.wanted o (yielded ops a.tmps) = true) (b : Nat) (hx : a.eval x = .pointer (some ⟨b, 0, none⟩)) (cs : List Value) (hb : Bx w b cs) (hl : cs.length = 33)
    (h : wpList Tryz.prog ops Q rest (a.put o.dst (.agg cs.toArray)) w) : wpList Tryz.prog ops Q (o :: rest) a w := by
  unfold wpList
  rw [if_pos hw]
  refine .inl ?_
  unfold Oper.wp execOp
  simp only [ho, hx, Instr.loadAt, Instr.sureAddr, Sem.run_bind, Sem.run_pure, Result.andThen_ok, run_loadVar_mid w b 0 29 cs _ hb.range Tryz.underlying29 rfl (by rw [hl]; exact infoJob)]
  exact h
end
end Go.Proofs.YtenigkjonegdmaaGreatDoor
/- What the reference's Light tells of a job: where it answers true, the job is small. -/
namespace Go.Proofs.YtenigkjonegdmaaGreatDoor
open Go.RowKit
set_option linter.unusedVariables false
set_option linter.unusedSimpArgs false

theorem take_next {α : Type} {l : List α} {k : Nat} {x : α} (h : l[k]? = some x) : l.take (k + 1) = l.take k ++ [x] := by
  rw [List.take_add_one, h]; rfl
/-- A job is small enough to be gone through. -/
def SmallJ (j : Jb) : Prop := j.t.length ≤ 100 ∧ j.ls.length ≤ 6 ∧ j.f.l.length ≤ 10 ∧ (j.n 0 ≤ 300 ∨ 100000 < j.n 0) ∧ ∀ x ∈ j.ls, x.length ≤ 60

theorem light_out (T : ByteArray) (n : Nat → Int) (c r : Int) (a a' : Option Addr) (m d k d' : Nat) (b1 b2 b3 b4 b5 : Bool) (w : World) (h1 : decide ((100 : Int) < (T.size : Int)) = b1) (h2 : decide ((6 : Int) < (k : Int)) = b2) (h3 : decide ((10 : Int) < (m : Int)) = b3) (h4 : decide ((300 : Int) < n 0) = b4) (h5 : decide (n 0 ≤ 100000) = b5)
    (h : (b1 || b2 || b3 || (b4 && b5)) = true) :
    Calls Tryz.prog 12 #[.agg (jobL T n c r (.slice a m d) (.slice a' k d')).toArray] w fun e w' => e = .returned (.bool false) ∧ Below w.heap.size w w' := by
  have HX := Bx.new w 29 (jobL T n c r (.slice a m d) (.slice a' k d'))
  have c0 := HX.cell 0 rfl; have c1 := HX.cell 1 rfl; have c14 := HX.cell 14 rfl; have c15 := HX.cell 15 rfl
  have HB := Lib.hid (up_alloc (Below.refl w.heap.size w) (.cells (jobL T n c r (.slice a m d) (.slice a' k d')).toArray 29))
  clear HX
  generalize n 0 = p at *
  generalize (jobL T n c r (.slice a m d) (.slice a' k d')).toArray = cs at *
  have HH := Lib.hid h
  clear h
  cases b1
  · cases b2
    · cases b3
      · cases b4
        · exact absurd HH.out (by simp)
        · cases b5
          · exact absurd HH.out (by decide)
          · go_enter Tryz.func12, Tryz.ntmps12
            go_wp2
            go_ret
            exact ⟨rfl, HB.out⟩
      · go_enter Tryz.func12, Tryz.ntmps12
        go_wp2
        go_ret
        exact ⟨rfl, HB.out⟩
    · go_enter Tryz.func12, Tryz.ntmps12
      go_wp2
      go_ret
      exact ⟨rfl, HB.out⟩
  · go_enter Tryz.func12, Tryz.ntmps12
    go_wp2
    go_ret
    exact ⟨rfl, HB.out⟩

theorem light_in (T : ByteArray) (n : Nat → Int) (c r : Int) (a a' : Option Addr) (m d k d' : Nat) (ls : List (List UInt8)) (b4 b5 : Bool) (w : World) (hk : ls.length = k) (hT : TxA w a' d' ls) (hz : ∀ x ∈ ls, x.length ≤ maxLen)
    (h1 : decide ((100 : Int) < (T.size : Int)) = false) (h2 : decide ((6 : Int) < (k : Int)) = false) (h3 : decide ((10 : Int) < (m : Int)) = false) (h4 : decide ((300 : Int) < n 0) = b4) (h5 : decide (n 0 ≤ 100000) = b5)
    (h : (b4 && b5) = false) :
    Calls Tryz.prog 12 #[.agg (jobL T n c r (.slice a m d) (.slice a' k d')).toArray] w fun e w' => ∃ b, e = .returned (.bool b) ∧ (b = true → ∀ x ∈ ls, x.length ≤ 60) ∧ Below w.heap.size w w' := by
  have HX := Bx.new w 29 (jobL T n c r (.slice a m d) (.slice a' k d'))
  have c0 := HX.cell 0 rfl; have c1 := HX.cell 1 rfl; have c14 := HX.cell 14 rfl; have c15 := HX.cell 15 rfl
  have HB := Lib.hid (up_alloc (Below.refl w.heap.size w) (.cells (jobL T n c r (.slice a m d) (.slice a' k d')).toArray 29))
  have HA := Lib.hid (hT.up HB.out)
  have HN := Lib.hid hk; have HZ := Lib.hid hz
  have hk6 : k ≤ 6 := by simp only [decide_eq_false_iff_not] at h2; omega
  clear HX hT hk hz
  generalize n 0 = p at *
  generalize (jobL T n c r (.slice a m d) (.slice a' k d')).toArray = cs at *
  go_enter Tryz.func12, Tryz.ntmps12
  cases b4 <;> cases b5 <;> first | (exact absurd h (by decide)) | skip
  all_goals
    clear h
    go_wp2
    obtain ⟨w1, hw1⟩ : ∃ w1, w.alloc (.cells cs 29) = w1 := ⟨_, rfl⟩
    rw [hw1] at c0 c1 c14 c15 HB HA ⊢
    clear hw1 h1 h2 h3 h4 h5 c0 c1 c14
    go_loopw [3] (fun i wr => ∃ j : Nat, j ≤ k ∧ i = .int .i64 (j : Int) ∧ Hid (∀ x ∈ ls.take j, x.length ≤ 60) ∧ wr = w1) (fun i _ => k - (intOf i).toNat)
    case atStart => exact ⟨0, by omega, by go_num, Lib.hid (by simp), rfl⟩
    case round =>
      obtain ⟨j, hj, rfl, H60, hwr⟩ := hrel
      obtain rfl : w1 = wr := hwr.symm
      clear hwr
      by_cases hlt : j < k
      · obtain ⟨x, hx⟩ : ∃ x, ls[j]? = some x := ⟨ls[j]'(by rw [HN.out]; exact hlt), List.getElem?_eq_getElem _⟩
        obtain ⟨g, o, rfl, hc, -, -⟩ := HA.out.resolve_left (by rintro rfl; cases hx)
        have hcx := hc j x hx
        have hxz := HZ.out x (List.mem_of_getElem? hx)
        have z0 : (0 : Int) ≤ (j : Int) := by omega
        have z3 : (j : Int) < (k : Int) := by omega
        have htk := take_next hx
        obtain ⟨X, hX⟩ : ∃ X, tx x = X := ⟨_, rfl⟩
        have hXs : X.size = x.length := by rw [← hX, tx_size]
        rw [hX] at hcx
        unfold maxLen at hxz
        by_cases h60 : 60 < X.size
        · have z4 : (60 : Int) < (X.size : Int) := by omega
          clear hx hc htk hX
          go_wp2
          go_ret
          exact ⟨false, rfl, fun h => (nomatch h), HB.out⟩
        · have z4 : decide ((60 : Int) < (X.size : Int)) = false := by simp; omega
          have H61 := Lib.hid (show ∀ y ∈ ls.take (j + 1), y.length ≤ 60 by
            rw [htk]
            intro y hy
            rcases List.mem_append.1 hy with h | h
            · exact H60.out y h
            · obtain rfl := List.mem_singleton.1 h; omega)
          clear hx hc htk hX
          go_wp2
          go_roundw
          case rel => exact ⟨j + 1, by omega, by go_num, H61, by trivial⟩
          case measure => simp [intOf]; omega
      · obtain rfl : j = k := by omega
        have hall : ls.take j = ls := List.take_of_length_le (by rw [HN.out]; omega)
        have hz60 := H60.out
        rw [hall] at hz60
        have HH := Lib.hid hz60
        clear hall hz60
        go_wp2
        go_ret
        exact ⟨true, rfl, fun _ => HH.out, HB.out⟩

/-- What Light answers; where it is true, the job is small. -/
theorem refLight_any (cs : List Value) (j : Jb) (w : World) (h : JobA w cs j) (ht : j.t.length ≤ maxLen) (hz : ∀ x ∈ j.ls, x.length ≤ maxLen) :
    Calls Tryz.prog 12 #[.agg cs.toArray] w fun e w' => ∃ b, e = .returned (.bool b) ∧ (b = true → SmallJ j) ∧ Below w.heap.size w w' := by
  obtain ⟨a, d, a', d', rfl, h1, h2⟩ := h
  by_cases hs : (decide ((100 : Int) < ((tx j.t).size : Int)) || decide ((6 : Int) < (j.ls.length : Int)) || decide ((10 : Int) < (j.f.l.length : Int)) || (decide ((300 : Int) < j.n 0) && decide (j.n 0 ≤ 100000))) = true
  · exact (light_out _ _ _ _ _ _ _ _ _ _ _ _ _ _ _ w rfl rfl rfl rfl rfl hs).mono fun e w' ⟨he, hb⟩ => ⟨false, he, fun h => (by cases h), hb⟩
  · simp only [Bool.or_eq_true, not_or, Bool.not_eq_true] at hs
    obtain ⟨⟨⟨s1, s2⟩, s3⟩, s4⟩ := hs
    refine (light_in _ _ _ _ _ _ _ _ _ _ j.ls _ _ w rfl h2 hz s1 s2 s3 rfl rfl s4).mono ?_
    rintro e w' ⟨b, he, hh, hb⟩
    refine ⟨b, he, fun h => ⟨?_, ?_, ?_, ?_, hh h⟩, hb⟩
    · rw [tx_size] at s1; simp only [decide_eq_false_iff_not] at s1; omega
    · simp only [decide_eq_false_iff_not] at s2; omega
    · simp only [decide_eq_false_iff_not] at s3; omega
    · simp only [Bool.and_eq_false_iff, decide_eq_false_iff_not] at s4; omega
end Go.Proofs.YtenigkjonegdmaaGreatDoor
/- A slice of structs whose fields are ints, bools or strings that came in, read cell by cell. -/
namespace Go.Proofs.YtenigkjonegdmaaGreatDoor
open Go.Deep Go.ChangeShapes Go.WideShapes
set_option linter.unusedVariables false

/-- What is known of a cell of this type. -/
def FitV (u : Option TypeDesc) (v : Value) : Prop := match u with
  | some (.int k) => ∃ z, v = .int k z ∧ (Lit.int k z).wf = true
  | some .bool => ∃ b, v = .bool b
  | some .string => ∃ s : ByteArray, v = .string s ∧ s.size ≤ maxLen
  | _ => True

/-- Of each number below n there is one: a list of them. -/
theorem list_of {α : Type} {Q : Nat → α → Prop} : ∀ (n : Nat), (∀ i, i < n → ∃ x, Q i x) → ∃ l : List α, l.length = n ∧ ∀ i x, l[i]? = some x → Q i x
  | 0, _ => ⟨[], rfl, fun i x h => by simp at h⟩
  | n + 1, h => by
    obtain ⟨l, hl, hq⟩ := list_of n (fun i hi => h i (by omega))
    obtain ⟨x, hx⟩ := h n (by omega)
    refine ⟨l ++ [x], by simp [hl], fun i y hy => ?_⟩
    rcases Nat.lt_or_ge i n with hi | hi
    · rw [List.getElem?_append_left (by omega)] at hy
      exact hq i y hy
    · rw [List.getElem?_append_right (by omega), List.getElem?_singleton] at hy
      split at hy
      · cases hy
        obtain rfl : i = n := by omega
        exact hx
      · cases hy

section
variable {H : Type} {enc : TypeId × Value → H} {P : Program} {w : World} {base : Nat} {spare : Nat → Bool} {held : Bool}

theorem trod_fit {t : TypeId} {fuel : Nat} {cs : List Value} {x : DataW H × List MemPlace} (hc : cs.length = 1) (h : DataW.trod enc P w base spare held fuel t cs = some x) : ∃ v, cs = [v] ∧ FitV (P.underlying t) v := by
  obtain ⟨v, rfl⟩ := List.length_eq_one_iff.1 hc
  refine ⟨v, rfl, ?_⟩
  unfold FitV
  split
  · rename_i k hk
    obtain ⟨z, hz, _, hw⟩ := DataW.trod_int hk h
    exact ⟨z, by simpa using hz, hw⟩
  · rename_i hk
    obtain ⟨b, hb, _⟩ := DataW.trod_bool hk h
    exact ⟨b, by simpa using hb⟩
  · rename_i hk
    obtain ⟨s, hs, _, hw⟩ := DataW.trod_string hk h
    exact ⟨s, by simpa using hs, hw⟩
  · trivial

theorem fit_int {t : TypeId} {k : IntKind} {p : Addr} (ht : P.underlying t = some (.int k)) (h : ∃ v, w.cell? p = some v ∧ FitV (P.underlying t) v) : ∃ z, w.cell? p = some (.int k z) ∧ (Lit.int k z).wf = true := by
  obtain ⟨v, hc, hv⟩ := h
  rw [ht] at hv
  obtain ⟨z, rfl, hz⟩ := hv
  exact ⟨z, hc, hz⟩
theorem fit_bool {t : TypeId} {p : Addr} (ht : P.underlying t = some .bool) (h : ∃ v, w.cell? p = some v ∧ FitV (P.underlying t) v) : ∃ z, w.cell? p = some (.bool z) := by
  obtain ⟨v, hc, hv⟩ := h
  rw [ht] at hv
  obtain ⟨z, rfl⟩ := hv
  exact ⟨z, hc⟩
theorem fit_text {t : TypeId} {p : Addr} (ht : P.underlying t = some .string) (h : ∃ v, w.cell? p = some v ∧ FitV (P.underlying t) v) : ∃ z : ByteArray, w.cell? p = some (.string z) ∧ z.size ≤ maxLen := by
  obtain ⟨v, hc, hv⟩ := h
  rw [ht] at hv
  obtain ⟨z, rfl, hz⟩ := hv
  exact ⟨z, hc, hz⟩

/-- Every field of every element holds what its type says. -/
theorem open_cell_structs {t e : TypeId} {fs : Array Field} {fuel : Nat} {cs : List Value} {x : DataW H × List MemPlace} (ht : P.underlying t = some (.slice e)) (he : P.underlying e = some (.struct fs))
    (hone : oneCellFields P fs = true) (ce : P.cellsOf e = fs.size) (h : DataW.trod enc P w base spare held fuel t cs = some x) :
    cs = [.slice none 0 0] ∨ ∃ (a : Addr) (len cap : Nat), cs = [.slice (some a) len cap] ∧ len ≤ cap ∧ cap ≤ maxLen ∧
      ∀ i, i < len → ∀ j f, fs[j]? = some f → ∃ v, w.cell? (a.add (i * fs.size + j)) = some v ∧ FitV (P.underlying f.type) v := by
  rcases open_slice ht h with ⟨h0, _⟩ | ⟨a, len, cap, m, n, D, Pl, rfl, hb, hl, hm, hmm, rfl, hx⟩
  · exact .inl h0
  right
  have hlm : len ≤ m := by rw [hmm]; split <;> omega
  refine ⟨a, len, cap, rfl, hl, hm, fun i hi j f hfj => ?_⟩
  have hj : j < fs.size := (Array.getElem?_eq_some_iff.1 hfj).1
  obtain ⟨cs', h1, h2⟩ := hx i (by omega)
  rw [ce] at h1
  obtain ⟨_, hlen, hcell⟩ := World.cells?_some h1
  obtain ⟨xs, k, _, _, _, hxl, hf⟩ := DataW.trod_struct he h2
  obtain ⟨o, c⟩ := hone_of hone j _ hfj
  have g := hf j _ hfj
  rw [o, c, List.getElem?_eq_getElem (by omega)] at g
  obtain ⟨v, hv, hw⟩ := trod_fit (by rw [List.length_take, List.length_drop]; omega) g
  have e1 := hcell j hj
  rw [Go.Deep.add_add] at e1
  have e2 : cs'[j]? = some v := by
    have : ((cs'.drop j).take 1)[0]? = some v := by rw [hv]; rfl
    simpa using this
  exact ⟨v, e1.trans e2, hw⟩
end
end Go.Proofs.YtenigkjonegdmaaGreatDoor
/- Steps that came in, as a list. -/
namespace Go.Proofs.YtenigkjonegdmaaGreatDoor
open Go.RowKit
set_option linter.unusedVariables false

/-- The steps that came in, as a list. -/
theorem steps_of (a : Option Addr) (len cap : Nat) (w : World)
    (h : (a = none ∧ len = 0 ∧ cap = 0) ∨ ∃ x, a = some x ∧ len ≤ cap ∧ cap ≤ maxLen ∧ ∀ i, i < len → (∃ z, w.cell? (x.add (i * 3 + 0)) = some (.int .i64 z) ∧ (Lit.int .i64 z).wf = true) ∧ (∃ z, w.cell? (x.add (i * 3 + 1)) = some (.int .i64 z) ∧ (Lit.int .i64 z).wf = true) ∧ (∃ z, w.cell? (x.add (i * 3 + 2)) = some (.bool z))) :
    ∃ l : List Sp, l.length = len ∧ (l = [] ∨ ∃ b off, a = some ⟨b, off, none⟩ ∧ InS w b off l) := by
  rcases h with ⟨rfl, rfl, rfl⟩ | ⟨x, rfl, hl, hm, hc⟩
  · exact ⟨[], rfl, .inl rfl⟩
  · by_cases h0 : len = 0
    · subst h0; exact ⟨[], rfl, .inl rfl⟩
    obtain ⟨b, off, spot⟩ := x
    have hspot : spot = none := by
      obtain ⟨⟨z, hz, _⟩, _⟩ := hc 0 (by omega)
      simpa [Addr.add] using World.cell?_spot hz
    subst hspot
    obtain ⟨l, e, hq⟩ := list_of (Q := fun i (p : Sp) => w.cell? ⟨b, off + i * 3, none⟩ = some (.int .i64 p.d) ∧ w.cell? ⟨b, off + i * 3 + 1, none⟩ = some (.int .i64 p.n) ∧ w.cell? ⟨b, off + i * 3 + 2, none⟩ = some (.bool p.u)) len (fun i hi => by
      obtain ⟨⟨d, h1, _⟩, ⟨n, h2, _⟩, u, h3⟩ := hc i hi
      rw [Go.WideShapes.add_plain] at h1 h2 h3
      exact ⟨⟨d, n, u⟩, by simpa using h1, by rw [Nat.add_assoc]; exact h2, by rw [Nat.add_assoc]; exact h3⟩)
    exact ⟨l, e, .inr ⟨b, off, rfl, hq⟩⟩
end Go.Proofs.YtenigkjonegdmaaGreatDoor
/- A job that came in, read cell by cell. -/
namespace Go.Proofs.YtenigkjonegdmaaGreatDoor
open Go.RowKit Go.Deep Go.ChangeShapes Go.WideShapes
set_option linter.unusedVariables false
set_option linter.unusedSimpArgs false
set_option maxRecDepth 100000

section
variable {H : Type} {enc : TypeId × Value → H} {w : World} {base : Nat} {spare : Nat → Bool} {held : Bool}

/-- The texts that came in, as a list. -/
theorem textsA_of (a : Option Addr) (len cap : Nat) (w : World)
    (h : (a = none ∧ len = 0 ∧ cap = 0) ∨ ∃ x, a = some x ∧ len ≤ cap ∧ cap ≤ maxLen ∧ ∀ i, i < len → ∃ z : ByteArray, w.cell? (x.add i) = some (.string z) ∧ z.size ≤ maxLen) :
    ∃ ls : List (List UInt8), ls.length = len ∧ TxA w a cap ls ∧ ∀ x ∈ ls, x.length ≤ maxLen := by
  rcases h with ⟨rfl, rfl, rfl⟩ | ⟨x, rfl, hl, hm, hc⟩
  · exact ⟨[], rfl, .inl rfl, by simp⟩
  · by_cases h0 : len = 0
    · subst h0; exact ⟨[], rfl, .inl rfl, by simp⟩
    obtain ⟨b, off, spot⟩ := x
    have hspot : spot = none := by
      obtain ⟨z, hz, _⟩ := hc 0 (by omega)
      simpa [Addr.add] using World.cell?_spot hz
    subst hspot
    obtain ⟨l, e, hq⟩ := list_of (Q := fun i (p : List UInt8) => w.cell? ⟨b, off + i, none⟩ = some (.string (tx p)) ∧ p.length ≤ maxLen) len (fun i hi => by
      obtain ⟨z, h1, h2⟩ := hc i hi
      rw [Go.WideShapes.add_plain] at h1
      exact ⟨z.data.toList, by rw [tx_data]; exact h1, by rw [size_data]; exact h2⟩)
    refine ⟨l, e, .inr ⟨b, off, rfl, fun i p hp => (hq i p hp).1, by omega, hm⟩, fun p hp => ?_⟩
    obtain ⟨i, hi⟩ := List.getElem?_of_mem hp
    exact (hq i p hi).2

/-- An int among the cells. -/
theorem trod_int_at {fuel o : Nat} {cs : List Value} {y : DataW H × List MemPlace} (ho : o < cs.length) (h : DataW.trod enc Tryz.prog w base spare held fuel 3 ((cs.drop o).take 1) = some y) : ∃ z, cs[o]? = some (.int .i64 z) ∧ (Lit.int .i64 z).wf = true := by
  obtain ⟨v, hv, hw⟩ := trod_fit (by rw [List.length_take, List.length_drop]; omega) h
  rw [Tryz.underlying3] at hw
  obtain ⟨z, rfl, hz⟩ := hw
  refine ⟨z, ?_, hz⟩
  have : ((cs.drop o).take 1)[0]? = some (.int .i64 z) := by rw [hv]; rfl
  simpa [ho] using this
theorem take_take_drop {cs : List Value} {o k i : Nat} (h : i < k) : (((cs.drop o).take k).drop i).take 1 = (cs.drop (o + i)).take 1 := by
  rw [List.drop_take, List.take_take, List.drop_drop, Nat.min_eq_left (by omega)]

/-- A field of a struct, as it is read. -/
theorem trod_at {t ft : TypeId} {i o fuel : Nat} {cs : List Value} {x : DataW H × List MemPlace} (hs : (match Tryz.prog.underlying t with | some (.struct fs) => (fs[i]?).map fun f => (f.type, f.offset) | _ => none) = some (ft, o))
    (h : DataW.trod enc Tryz.prog w base spare held fuel t cs = some x) : ∃ m y, DataW.trod enc Tryz.prog w base spare held m ft ((cs.drop o).take (Tryz.prog.cellsOf ft)) = some y := by
  cases hu : Tryz.prog.underlying t with
  | none => rw [hu] at hs; cases hs
  | some d =>
    rw [hu] at hs
    cases d
    case struct fs =>
      simp only [Option.map_eq_some_iff, Prod.mk.injEq] at hs
      obtain ⟨f, hf0, rfl, rfl⟩ := hs
      obtain ⟨xs, m, _, _, _, hxl, hf⟩ := DataW.trod_struct hu h
      have g := hf i f hf0
      have hi : i < xs.length := by rw [hxl]; exact (Array.getElem?_eq_some_iff.1 hf0).1
      rw [List.getElem?_eq_getElem hi] at g
      exact ⟨m, _, g⟩
    all_goals cases hs
theorem trod_int_field {t : TypeId} {i o fuel : Nat} {cs : List Value} {x : DataW H × List MemPlace} (hs : (match Tryz.prog.underlying t with | some (.struct fs) => (fs[i]?).map fun f => (f.type, f.offset) | _ => none) = some (3, o)) (ho : o < cs.length)
    (h : DataW.trod enc Tryz.prog w base spare held fuel t cs = some x) : ∃ z, cs[o]? = some (.int .i64 z) ∧ (Lit.int .i64 z).wf = true := by
  obtain ⟨m, y, g⟩ := trod_at hs h
  rw [show Tryz.prog.cellsOf 3 = 1 by kernel_rfl] at g
  exact trod_int_at ho g

theorem wf_int {z : Int} (h : (Lit.int .i64 z).wf = true) : -9223372036854775808 ≤ z ∧ z ≤ 9223372036854775807 := by
  simp [Lit.wf, IntKind.min, IntKind.max, IntKind.bits, IntKind.signed] at h
  omega
/-- Its job; all its numbers are ints. -/
theorem open_jobW {fuel : Nat} {cs : List Value} {x : DataW H × List MemPlace} (hl : cs.length = 33) (h : DataW.trod enc Tryz.prog w base spare held fuel 29 cs = some x) :
    ∃ j : Jb, (JobA w cs j ∧ j.t.length ≤ maxLen ∧ ∀ p ∈ j.ls, p.length ≤ maxLen) ∧ ∀ i, -9223372036854775808 ≤ j.n i ∧ j.n i ≤ 9223372036854775807 := by
  obtain ⟨z0, h0, g0⟩ := trod_int_field (i := 1) (o := 1) (by kernel_rfl) (by omega) h
  obtain ⟨z3, h3, g3⟩ := trod_int_field (i := 3) (o := 4) (by kernel_rfl) (by omega) h
  obtain ⟨z4, h4, g4⟩ := trod_int_field (i := 4) (o := 5) (by kernel_rfl) (by omega) h
  obtain ⟨z5, h5, g5⟩ := trod_int_field (i := 5) (o := 6) (by kernel_rfl) (by omega) h
  obtain ⟨z6, h6, g6⟩ := trod_int_field (i := 6) (o := 7) (by kernel_rfl) (by omega) h
  obtain ⟨z7, h7, g7⟩ := trod_int_field (i := 7) (o := 8) (by kernel_rfl) (by omega) h
  obtain ⟨z8, h8, g8⟩ := trod_int_field (i := 8) (o := 9) (by kernel_rfl) (by omega) h
  obtain ⟨z9, h9, g9⟩ := trod_int_field (i := 9) (o := 10) (by kernel_rfl) (by omega) h
  obtain ⟨z10, h10, g10⟩ := trod_int_field (i := 10) (o := 11) (by kernel_rfl) (by omega) h
  obtain ⟨z11, h11, g11⟩ := trod_int_field (i := 13) (o := 16) (by kernel_rfl) (by omega) h
  obtain ⟨z12, h12, g12⟩ := trod_int_field (i := 14) (o := 17) (by kernel_rfl) (by omega) h
  obtain ⟨z13, h13, g13⟩ := trod_int_field (i := 15) (o := 18) (by kernel_rfl) (by omega) h
  obtain ⟨z14, h14, g14⟩ := trod_int_field (i := 16) (o := 19) (by kernel_rfl) (by omega) h
  obtain ⟨z15, h15, g15⟩ := trod_int_field (i := 17) (o := 20) (by kernel_rfl) (by omega) h
  obtain ⟨z16, h16, g16⟩ := trod_int_field (i := 18) (o := 21) (by kernel_rfl) (by omega) h
  obtain ⟨z17, h17, g17⟩ := trod_int_field (i := 19) (o := 22) (by kernel_rfl) (by omega) h
  obtain ⟨z18, h18, g18⟩ := trod_int_field (i := 20) (o := 23) (by kernel_rfl) (by omega) h
  obtain ⟨z19, h19, g19⟩ := trod_int_field (i := 21) (o := 24) (by kernel_rfl) (by omega) h
  obtain ⟨z20, h20, g20⟩ := trod_int_field (i := 22) (o := 25) (by kernel_rfl) (by omega) h
  obtain ⟨z21, h21, g21⟩ := trod_int_field (i := 23) (o := 26) (by kernel_rfl) (by omega) h
  obtain ⟨z22, h22, g22⟩ := trod_int_field (i := 24) (o := 27) (by kernel_rfl) (by omega) h
  obtain ⟨z23, h23, g23⟩ := trod_int_field (i := 25) (o := 28) (by kernel_rfl) (by omega) h
  obtain ⟨z24, h24, g24⟩ := trod_int_field (i := 26) (o := 29) (by kernel_rfl) (by omega) h
  obtain ⟨z25, h25, g25⟩ := trod_int_field (i := 27) (o := 30) (by kernel_rfl) (by omega) h
  obtain ⟨z26, h26, g26⟩ := trod_int_field (i := 28) (o := 31) (by kernel_rfl) (by omega) h
  obtain ⟨z27, h27, g27⟩ := trod_int_field (i := 29) (o := 32) (by kernel_rfl) (by omega) h
  obtain ⟨mb, yb, gb⟩ := trod_at (i := 2) (o := 2) (ft := 23) (by kernel_rfl) h
  rw [show Tryz.prog.cellsOf 23 = 2 by kernel_rfl] at gb
  obtain ⟨z1, h1, g1⟩ := trod_int_field (i := 0) (o := 0) (by kernel_rfl) (by rw [List.length_take, List.length_drop]; omega) gb
  obtain ⟨z2, h2, g2⟩ := trod_int_field (i := 1) (o := 1) (by kernel_rfl) (by rw [List.length_take, List.length_drop]; omega) gb
  obtain ⟨mf, yf, gf⟩ := trod_at (i := 11) (o := 12) (ft := 26) (by kernel_rfl) h
  rw [show Tryz.prog.cellsOf 26 = 3 by kernel_rfl] at gf
  obtain ⟨c, hc, -⟩ := trod_int_field (i := 0) (o := 0) (by kernel_rfl) (by rw [List.length_take, List.length_drop]; omega) gf
  obtain ⟨r, hr, -⟩ := trod_int_field (i := 1) (o := 1) (by kernel_rfl) (by rw [List.length_take, List.length_drop]; omega) gf
  obtain ⟨ms, ys, gs⟩ := trod_at (i := 2) (o := 2) (ft := 24) (by kernel_rfl) gf
  rw [show Tryz.prog.cellsOf 24 = 1 by kernel_rfl, take_take_drop (by omega)] at gs
  obtain ⟨ml, yl, gl⟩ := trod_at (i := 12) (o := 15) (ft := 27) (by kernel_rfl) h
  rw [show Tryz.prog.cellsOf 27 = 1 by kernel_rfl] at gl
  obtain ⟨mt, yt, gt⟩ := trod_at (i := 0) (o := 0) (ft := 9) (by kernel_rfl) h
  rw [show Tryz.prog.cellsOf 9 = 1 by kernel_rfl] at gt
  obtain ⟨T, hT, _, hTz⟩ := DataW.trod_string Tryz.underlying9 gt
  have hT0 : cs[0]? = some (.string T) := by
    have : ((cs.drop 0).take 1)[0]? = some (.string T) := by rw [hT]; rfl
    simpa using this
  obtain ⟨a, len, cap, es, ws⟩ : ∃ (a : Option Addr) (len cap : Nat), (cs.drop 14).take 1 = [Value.slice a len cap] ∧ ((a = none ∧ len = 0 ∧ cap = 0) ∨ ∃ x, a = some x ∧ len ≤ cap ∧ cap ≤ maxLen ∧ ∀ i, i < len → (∃ z, w.cell? (x.add (i * 3 + 0)) = some (.int .i64 z) ∧ (Lit.int .i64 z).wf = true) ∧ (∃ z, w.cell? (x.add (i * 3 + 1)) = some (.int .i64 z) ∧ (Lit.int .i64 z).wf = true) ∧ (∃ z, w.cell? (x.add (i * 3 + 2)) = some (.bool z))) := by
    rcases open_cell_structs Tryz.underlying24 Tryz.underlying78 (by kernel_rfl) (by kernel_rfl) gs with hcs | ⟨x, l, c, hcs, hl, hm, hV⟩
    · exact ⟨none, 0, 0, hcs, .inl ⟨rfl, rfl, rfl⟩⟩
    · exact ⟨some x, l, c, hcs, .inr ⟨x, rfl, hl, hm, fun i hi => ⟨fit_int Tryz.underlying3 (hV i hi 0 _ rfl), fit_int Tryz.underlying3 (hV i hi 1 _ rfl), fit_bool Tryz.underlying4 (hV i hi 2 _ rfl)⟩⟩⟩
  obtain ⟨a', len', cap', el, wl⟩ : ∃ (a : Option Addr) (len cap : Nat), (cs.drop 15).take 1 = [Value.slice a len cap] ∧ ((a = none ∧ len = 0 ∧ cap = 0) ∨ ∃ x, a = some x ∧ len ≤ cap ∧ cap ≤ maxLen ∧ ∀ i, i < len → ∃ z : ByteArray, w.cell? (x.add i) = some (.string z) ∧ z.size ≤ maxLen) := by
    rcases open_strings Tryz.underlying27 Tryz.underlying9 (by kernel_rfl) gl with ⟨hcs, _⟩ | ⟨x, l, c, ss, hcs, _, hl, hm, hz, _, hcell, hwz⟩
    · exact ⟨none, 0, 0, hcs, .inl ⟨rfl, rfl, rfl⟩⟩
    · refine ⟨some x, l, c, hcs, .inr ⟨x, rfl, hl, hm, fun i hi => ?_⟩⟩
      have hlen : i < ss.length := by rw [hz]; split <;> omega
      exact ⟨_, hcell i hlen, hwz _ (by simp [List.getD_eq_getElem?_getD, List.getElem?_eq_getElem hlen])⟩
  have e14 : cs[14]? = some (.slice a len cap) := by
    have : ((cs.drop 14).take 1)[0]? = some (.slice a len cap) := by rw [es]; rfl
    simpa using this
  have e15 : cs[15]? = some (.slice a' len' cap') := by
    have : ((cs.drop 15).take 1)[0]? = some (.slice a' len' cap') := by rw [el]; rfl
    simpa using this
  have e2 : cs[2]? = some (.int .i64 z1) := by simpa using h1
  have e3 : cs[3]? = some (.int .i64 z2) := by simpa using h2
  have e12 : cs[12]? = some (.int .i64 c) := by simpa using hc
  have e13 : cs[13]? = some (.int .i64 r) := by simpa using hr
  obtain ⟨l, hll, hI⟩ := steps_of a len cap w ws
  obtain ⟨ls, hls, hA, hz⟩ := textsA_of a' len' cap' w wl
  subst hll hls
  have hall : ∀ z ∈ [z0, z1, z2, z3, z4, z5, z6, z7, z8, z9, z10, z11, z12, z13, z14, z15, z16, z17, z18, z19, z20, z21, z22, z23, z24, z25, z26, z27], -9223372036854775808 ≤ z ∧ z ≤ 9223372036854775807 := by
    simp only [List.mem_cons, List.not_mem_nil, or_false, forall_eq_or_imp, forall_eq]
    exact ⟨wf_int g0, wf_int g1, wf_int g2, wf_int g3, wf_int g4, wf_int g5, wf_int g6, wf_int g7, wf_int g8, wf_int g9, wf_int g10, wf_int g11, wf_int g12, wf_int g13, wf_int g14, wf_int g15, wf_int g16, wf_int g17, wf_int g18, wf_int g19, wf_int g20, wf_int g21, wf_int g22, wf_int g23, wf_int g24, wf_int g25, wf_int g26, wf_int g27⟩
  obtain ⟨n, hn⟩ : ∃ n : Nat → Int, n = fun i => ([z0, z1, z2, z3, z4, z5, z6, z7, z8, z9, z10, z11, z12, z13, z14, z15, z16, z17, z18, z19, z20, z21, z22, z23, z24, z25, z26, z27] : List Int).getD i 0 := ⟨_, rfl⟩
  refine ⟨⟨T.data.toList, n, ⟨c, r, l⟩, ls⟩, ⟨⟨a, cap, a', cap', ?_, hI, hA⟩, by simp only; rw [size_data]; exact hTz, hz⟩, fun i => by
    simp only [hn, List.getD_eq_getElem?_getD]
    by_cases hi : i < [z0, z1, z2, z3, z4, z5, z6, z7, z8, z9, z10, z11, z12, z13, z14, z15, z16, z17, z18, z19, z20, z21, z22, z23, z24, z25, z26, z27].length
    · rw [List.getElem?_eq_getElem hi]
      exact hall _ (List.getElem_mem hi)
    · rw [List.getElem?_eq_none (by omega)]
      decide⟩
  rw [tx_data]
  subst hn
  apply List.ext_getElem?
  intro k
  by_cases hk : k < 33
  · have hw : k = 0 ∨ k = 1 ∨ k = 2 ∨ k = 3 ∨ k = 4 ∨ k = 5 ∨ k = 6 ∨ k = 7 ∨ k = 8 ∨ k = 9 ∨ k = 10 ∨ k = 11 ∨ k = 12 ∨ k = 13 ∨ k = 14 ∨ k = 15 ∨ k = 16 ∨ k = 17 ∨ k = 18 ∨ k = 19 ∨ k = 20 ∨ k = 21 ∨ k = 22 ∨ k = 23 ∨ k = 24 ∨ k = 25 ∨ k = 26 ∨ k = 27 ∨ k = 28 ∨ k = 29 ∨ k = 30 ∨ k = 31 ∨ k = 32 := by omega
    rcases hw with rfl | rfl | rfl | rfl | rfl | rfl | rfl | rfl | rfl | rfl | rfl | rfl | rfl | rfl | rfl | rfl | rfl | rfl | rfl | rfl | rfl | rfl | rfl | rfl | rfl | rfl | rfl | rfl | rfl | rfl | rfl | rfl | rfl
    all_goals first
      | exact hT0
      | exact e2
      | exact e3
      | exact e12
      | exact e13
      | exact e14
      | exact e15
      | exact h0
      | exact h3
      | exact h4
      | exact h5
      | exact h6
      | exact h7
      | exact h8
      | exact h9
      | exact h10
      | exact h11
      | exact h12
      | exact h13
      | exact h14
      | exact h15
      | exact h16
      | exact h17
      | exact h18
      | exact h19
      | exact h20
      | exact h21
      | exact h22
      | exact h23
      | exact h24
      | exact h25
      | exact h26
      | exact h27
  · rw [List.getElem?_eq_none (by omega), List.getElem?_eq_none (by rw [jobL_length]; omega)]
/-- Its job. -/
theorem open_job {fuel : Nat} {cs : List Value} {x : DataW H × List MemPlace} (hl : cs.length = 33) (h : DataW.trod enc Tryz.prog w base spare held fuel 29 cs = some x) :
    ∃ j : Jb, JobA w cs j ∧ j.t.length ≤ maxLen ∧ ∀ p ∈ j.ls, p.length ≤ maxLen := by
  obtain ⟨j, hj, -⟩ := open_jobW hl h
  exact ⟨j, hj⟩
end
end Go.Proofs.YtenigkjonegdmaaGreatDoor
/- What the reference's Lines answers. -/
namespace Go.Proofs.YtenigkjonegdmaaGreatDoor
open Go.RowKit
set_option linter.unusedVariables false
set_option linter.unusedSimpArgs false

set_option maxHeartbeats 1000000 in
theorem refLines_any (s : ByteArray) (w : World) (hs : s.size ≤ 999999) :
    Calls Tryz.prog 13 #[.string s] w (GivesT w.heap.size (linesM s.data.toList []) w) := by
  go_enter Tryz.func13, Tryz.ntmps13
  go_wp2
  go_loopw [3, 4, 5] (fun l f i wr => LinesRel s w l f i wr) (fun _ _ i _ => s.size - (intOf i).toNat)
  case atStart => exact ⟨0, 0, [], Nat.zero_le _, Nat.le_refl _, Nat.le_refl _, rfl, rfl, rowT_nil _ _, Below.refl _ _, by simp⟩
  case round =>
    obtain ⟨k, f, out, hk, hf, ho, rfl, rfl, hrow, hb, hF⟩ := hrel
    have HR := Lib.hid hrow; have HB := Lib.hid hb; have HF := Lib.hid hF
    clear hrow hb hF
    by_cases hlt : k < s.size
    · have z1 : (k : Int) < (s.size : Int) := by omega
      have DO := Lib.hid (drop_octet hlt)
      have CO := Lib.hid (cur_octet hf hlt)
      obtain ⟨c, hc⟩ : ∃ c, s[k] = c := ⟨_, rfl⟩
      rw [hc] at DO CO
      have hx : ((s[k].toNat : Nat) : Int) = (c.toNat : Int) := by rw [hc]
      have e1 := oct_eq c 10
      rw [show (((10 : UInt8).toNat : Nat) : Int) = 10 from rfl] at e1
      generalize (c.toNat : Int) = x at *
      by_cases h10 : c = 10
      · have e2 : (x == 10) = true := by rw [e1]; simpa using h10
        obtain ⟨p, hp⟩ : ∃ p, s.extract f k = p := ⟨_, rfl⟩
        have HP := Lib.hid ((hp.symm).trans (tx_extract s f k))
        clear e1 hc
        go_wp2_with (at_builtin; refine wpList_append_text rfl _ _ rfl w.heap.size _ out rfl HR.out ?c1 p _ HP.out rfl ?c2 ?_)
        case c1 => have := HB.out.size; omega
        case c2 => omega
        intro v1 w2 h1 hb2
        have H1 := Lib.hid h1; have HB2 := Lib.hid hb2
        clear h1 hb2
        go_wp2
        go_roundw
        case rel =>
          refine ⟨k + 1, k + 1, out ++ [(s.data.toList.take k).drop f], by omega, Nat.le_refl _, by simp; omega, by go_num, by go_num, H1.out, HB.out.trans HB2.out, ?_⟩
          rw [cur_none, ← HF.out, DO.out, h10, lines_feed, List.append_assoc]
          rfl
        case measure => simp [intOf]; omega
      · have e2 : (x == 10) = false := by rw [e1]; simpa using h10
        clear e1 hc
        go_wp2
        go_roundw
        case rel =>
          refine ⟨k + 1, f, out, by omega, by omega, by omega, by go_num, rfl, HR.out, HB.out, ?_⟩
          rw [← HF.out, DO.out, lines_other _ _ h10, CO.out]
        case measure => simp [intOf]; omega
    · obtain rfl : k = s.size := by omega
      obtain ⟨p, hp⟩ : ∃ p, s.extract f s.size = p := ⟨_, rfl⟩
      have HP := Lib.hid ((hp.symm).trans (tx_extract s f s.size))
      go_wp2_with (at_builtin; refine wpList_append_text rfl _ _ rfl w.heap.size _ out rfl HR.out ?c3 p _ HP.out rfl ?c4 ?_)
      case c3 => have := HB.out.size; omega
      case c4 => omega
      intro v1 w2 h1 hb2
      have H1 := Lib.hid h1; have HB2 := Lib.hid hb2
      clear h1 hb2
      go_wp2
      go_ret
      refine ⟨v1, rfl, ?_, HB.out.trans HB2.out⟩
      rw [← HF.out, List.drop_of_length_le (by rw [size_data]; exact Nat.le_refl _)]
      exact H1.out
end Go.Proofs.YtenigkjonegdmaaGreatDoor
