/- What the reference's step answers: all panels behind a step, from above. -/
import Derived.Deep.RegionHeld3
import Derived.Deep.AppendLies
import Derived.Deep.DeepCutAuto
import Derived.Maps.AppendAt
import Derived.OwnWalk
import Derived.Test.YtnofncibplgmpaaRefRows
import Derived.Test.YtnofncibplgmpaaLater
import Derived.Test.YtnofncibplgmpaaQuietTail
namespace Go.Proofs.Ytnofncibplgmpaa
open Go.RowKit Go.Lib
set_option linter.unusedVariables false

theorem over_snoc (d n c r : Int) (l : List Rp) (p : Rp) : overM d n c r (l ++ [p]) = if movedM d n c r p = true then overM d n c r l ++ [turnedM d n c r p] else overM d n c r l := by
  unfold overM
  rw [List.filter_append, List.map_append]
  cases h : movedM d n c r p <;> simp [h]
theorem rest_snoc (d n c r : Int) (l : List Rp) (p : Rp) : restM d n c r (l ++ [p]) = if movedM d n c r p = true then restM d n c r l else restM d n c r l ++ [p] := by
  unfold restM
  rw [List.filter_append]
  cases h : movedM d n c r p <;> simp [h]
theorem over_le (d n c r : Int) (l : List Rp) : (overM d n c r l).length ≤ l.length := by unfold overM; rw [List.length_map]; exact List.length_filter_le _ _
theorem rest_le (d n c r : Int) (l : List Rp) : (restM d n c r l).length ≤ l.length := List.length_filter_le _ _

/-- One of two lists grew: the other one is as it was, and they lie apart. -/
theorem app_side {W0 W w6 : World} {tmp : Obj} {B : Nat} {rv ov v' : Value} {R O R' : List Rp} (hr : OwnR W B rv R) (ho : OwnR W B ov O) (hne : ∀ b, rv.ownBlock = some b → ov.ownBlock ≠ some b) (hown : OwnR w6 B v' R') (hg : (W.alloc tmp).grownBy w6 rv.ownBlock) (hat : v'.ownBlock = rv.ownBlock ∨ v'.ownBlock = some (W.alloc tmp).heap.size) (hb : Below B W0 W) (hB : B ≤ W0.heap.size) :
    OwnR w6 B ov O ∧ (∀ b, v'.ownBlock = some b → ov.ownBlock ≠ some b) ∧ Below B W0 w6 := by
  have ho2 := ho.up (up_alloc (Below.refl _ W) tmp)
  refine ⟨World.ownsRow.kept ho2 hg ?_, fun b h1 h2 => ?_, ?_⟩
  · rcases h : ov.ownBlock with _ | b
    · exact .inl rfl
    · exact .inr fun e => hne b e.symm h
  · rcases hat with e | e
    · exact hne b (by rw [← e]; exact h1) h2
    · rw [h1] at e
      have e' : b = W.heap.size + 1 := by simpa using e
      have := (World.ownsRow.lt ho b h2).2
      omega
  · exact Below.grown (hb.alloc (by have := hb.size; omega) tmp) hg (by have := hb.size; simp; omega) (fun k hk => (World.ownsRow.lt hr k hk).1)

theorem part_length (d n c r : Int) (l : List Rp) : (overM d n c r l).length + (restM d n c r l).length = l.length := by
  unfold overM restM
  rw [List.length_map]
  induction l with
  | nil => rfl
  | cons p l ih => cases h : movedM d n c r p <;> simp [h] <;> omega
theorem RpsAt.add {w : World} {b : Nat} {l : List Rp} (h : RpsAt w b l) : ∀ j u, (rps l)[j]? = some u → w.cell? ((⟨b, 0, none⟩ : Addr).add j) = some u := fun j u hu => by
  rw [show (⟨b, 0, none⟩ : Addr).add j = ⟨b, j, none⟩ by unfold Addr.add; split <;> simp_all]
  exact h j u hu

/-- The two lists that the first loop makes. -/
def PartRel (w1 : World) (l : List Rp) (d n c r : Int) (ov rv i : Value) (wr : World) : Prop :=
  ∃ k : Nat, k ≤ l.length ∧ i = .int .i64 (k : Int) ∧ OwnR wr w1.heap.size ov (overM d n c r (l.take k)) ∧ OwnR wr w1.heap.size rv (restM d n c r (l.take k)) ∧ (∀ b, ov.ownBlock = some b → rv.ownBlock ≠ some b) ∧ Below w1.heap.size w1 wr

/-- What was turned over is laid down again, the last one first. -/
def BackRel (w0 : World) (O P : List Rp) (s i : Value) (wx : World) : Prop :=
  ∃ t : Nat, t ≤ O.length ∧ i = .int .i64 ((t : Int) - 1) ∧ OwnR wx w0.heap.size s (P ++ (O.drop t).reverse) ∧ Below w0.heap.size w0 wx

theorem List.set_same {α : Type} {l : List α} {j : Nat} {p : α} (h : l[j]? = some p) : l.set j p = l := by
  obtain ⟨hj, rfl⟩ := List.getElem?_eq_some_iff.1 h
  exact List.set_getElem_self hj
/-- The first j panels are told by the rest's places. -/
def shl (d n : Int) (J : List Rp) (j : Nat) : List Rp := (J.take j).map (shiftM d n) ++ J.drop j
theorem shl_length (d n : Int) (J : List Rp) (j : Nat) : (shl d n J j).length = J.length := by
  have h : J.length = (J.take j).length + (J.drop j).length := by rw [← List.length_append, List.take_append_drop]
  unfold shl
  rw [List.length_append, List.length_map]
  omega
theorem shl_at {d n : Int} {J : List Rp} {j : Nat} {p : Rp} (h : J[j]? = some p) : (shl d n J j)[j]? = some p := by
  obtain ⟨hj, rfl⟩ := List.getElem?_eq_some_iff.1 h
  unfold shl
  rw [List.getElem?_append_right (by simp; omega)]
  simp [List.length_take, Nat.min_eq_left (Nat.le_of_lt hj)]
theorem shl_succ {d n : Int} {J : List Rp} {j : Nat} {p : Rp} (h : J[j]? = some p) : (shl d n J j).set j (shiftM d n p) = shl d n J (j + 1) := by
  obtain ⟨hj, rfl⟩ := List.getElem?_eq_some_iff.1 h
  unfold shl
  have e1 : ((J.take j).map (shiftM d n)).length = j := by simp; omega
  rw [List.set_append_right _ _ (by omega), e1, Nat.sub_self, List.drop_eq_getElem_cons hj, List.set_cons_zero, List.take_add_one, List.getElem?_eq_getElem hj]
  simp only [Option.toList_some, List.map_append, List.map_cons, List.map_nil, List.append_assoc, List.singleton_append]
theorem shl_all (d n : Int) (J : List Rp) : shl d n J J.length = J.map (shiftM d n) := by simp [shl]
def ShiftRel (w0 : World) (g cap : Nat) (d n : Int) (J : List Rp) (i : Value) (wx : World) : Prop :=
  ∃ j : Nat, j ≤ J.length ∧ i = .int .i64 (j : Int) ∧ Rw wx w0.heap.size g cap (shl d n J j) ∧ Below w0.heap.size w0 wx
theorem join_bounds {d n c r : Int} {u : Bool} {l : List Rp} (hin : InR c r l) (hn : 1 ≤ n ∧ n ≤ 64) (hc : 1 ≤ c ∧ c ≤ 64) (hr : 1 ≤ r ∧ r ≤ 64) (p : Rp) (hp : p ∈ joinU u (restM d n c r l) (overM d n c r l).reverse) : (-256 ≤ p.col ∧ p.col ≤ 256) ∧ -256 ≤ p.row ∧ p.row ≤ 256 := by
  have hq : p ∈ restM d n c r l ∨ p ∈ overM d n c r l := by
    unfold joinU at hp
    cases u
    · simp at hp; exact hp.symm
    · simpa using hp
  rcases hq with hq | hq
  · have := hin p (List.mem_filter.1 hq).1
    omega
  · obtain ⟨q, h0, rfl⟩ := List.mem_map.1 hq
    have := hin q (List.mem_filter.1 h0).1
    unfold turnedM
    split <;> (try split) <;> (try split) <;> simp only <;> omega

set_option maxRecDepth 100000 in
set_option maxHeartbeats 2000000 in
theorem refStep_any (l : List Rp) (g cap : Nat) (d n : Int) (u : Bool) (c r : Int) (w : World) (hA : RpsAt w g l) (hl0 : 0 < l.length) (hl : l.length ≤ 64) (hd : 1 ≤ d ∧ d ≤ 4) (hn : 1 ≤ n ∧ n ≤ 64) (hc : 1 ≤ c ∧ c ≤ 64) (hr : 1 ≤ r ∧ r ≤ 64) (hin : InR c r l) (ho : 0 < (overM d n c r l).length) (hre : 0 < (restM d n c r l).length) :
    Calls Try.prog 26 #[.slice (some ⟨g, 0, none⟩) l.length cap, .agg #[.int .i64 d, .int .i64 n, .bool u], .int .i64 c, .int .i64 r] w fun e w' => ∃ g' cap', e = .returned (.slice (some ⟨g', 0, none⟩) l.length cap') ∧ Rw w' w.heap.size g' cap' (stepR d n u c r l) ∧ Below w.heap.size w w' := by
  obtain ⟨i0, hi, hz0, hz1, hz2⟩ := info_parts Try.infoRp
  have KM := fun p w => refMoved_any p d n u c r w hd hn hc hr
  have KT := fun (p : Rp) (hp : p ∈ l) w => refTurned_any p d n u c r w hd hn hc hr (by have := hin p hp; omega)
  simp only [Rp.val] at KM KT
  have HM := Lib.hid KM; have HT := Lib.hid KT; have HA := Lib.hid hA; have HO := Lib.hid ho; have HR := Lib.hid hre
  obtain ⟨m, hm⟩ : ∃ m, l.length = m := ⟨_, rfl⟩
  rw [hm] at hl hl0 ⊢
  have HL := Lib.hid hm; have HIn := Lib.hid hin
  clear KM KT hA ho hre hin hm
  have A1 := Bx.new w 37 [.int .i64 d, .int .i64 n, .bool u]
  have B1 := Lib.hid (up_alloc (Below.refl _ w) (.cells #[.int .i64 d, .int .i64 n, .bool u] 37))
  go_enter Try.func26, Try.ntmps26
  go_wp2
  obtain ⟨w1, hw1⟩ : ∃ w1, w.alloc (.cells #[.int .i64 d, .int .i64 n, .bool u] 37) = w1 := ⟨_, rfl⟩
  have hs1 : w1.heap.size = w.heap.size + 1 := by rw [← hw1]; simp
  rw [hw1] at A1 B1 ⊢
  clear hw1
  go_loopw [9, 10, 11] (fun ov rv i wr => PartRel w1 l d n c r ov rv i wr) (fun _ _ i _ => m - (intOf i).toNat)
  case atStart => exact ⟨0, by omega, by go_num, OwnR.nil _ _, OwnR.nil _ _, fun b h => by simp [Value.ownBlock] at h, Below.refl _ _⟩
  case round =>
    obtain ⟨k, hk, rfl, hov, hrv, hne, hb⟩ := hrel
    rw [HL.out] at hk
    by_cases hlt : k < m
    · obtain ⟨p, hp⟩ : ∃ p, l[k]? = some p := ⟨l[k]'(by rw [HL.out]; exact hlt), List.getElem?_eq_getElem _⟩
      have hmem : p ∈ l := List.mem_of_getElem? hp
      have KS : ∀ w' : World, Below w1.heap.size w1 w' → w'.cell? ⟨g, k * 5, none⟩ = some (.int .i64 p.n) ∧ w'.cell? ⟨g, k * 5 + 1, none⟩ = some (.int .i64 p.col) ∧ w'.cell? ⟨g, k * 5 + 2, none⟩ = some (.int .i64 p.row) ∧ w'.cell? ⟨g, k * 5 + 3, none⟩ = some (.bool p.fx) ∧ w'.cell? ⟨g, k * 5 + 4, none⟩ = some (.bool p.fy) ∧ w'.cell? ⟨w.heap.size, 0, none⟩ = some (.int .i64 d) ∧ w'.cell? ⟨w.heap.size, 1, none⟩ = some (.int .i64 n) ∧ w'.cell? ⟨w.heap.size, 2, none⟩ = some (.bool u) := fun w' h => by
        obtain ⟨p0, p1, p2, p3, p4⟩ := (HA.out.up (up_trans B1.out h)).cells hp
        have X := A1.up h
        exact ⟨p0, p1, p2, p3, p4, X.cell 0 rfl, X.cell 1 rfl, X.cell 2 rfl⟩
      have HKS := Lib.hid KS
      obtain ⟨p0, p1, p2, p3, p4, x0, x1, x2⟩ := KS _ hb
      have z0 : (0 : Int) ≤ (k : Int) := by omega
      have z1 : (k : Int) < (m : Int) := by omega
      have htk : l.take (k + 1) = l.take k ++ [p] := by rw [List.take_add_one, hp]; rfl
      have ho1 := over_snoc d n c r (l.take k) p
      have hr1 := rest_snoc d n c r (l.take k) p
      rw [← htk] at ho1 hr1
      obtain ⟨O, hO⟩ : ∃ O, overM d n c r (l.take k) = O := ⟨_, rfl⟩
      obtain ⟨R, hR⟩ : ∃ R, restM d n c r (l.take k) = R := ⟨_, rfl⟩
      have hOl : O.length ≤ 64 := by rw [← hO]; have := over_le d n c r (l.take k); rw [List.length_take] at this; omega
      have hRl : R.length ≤ 64 := by rw [← hR]; have := rest_le d n c r (l.take k); rw [List.length_take] at this; omega
      rw [hO] at hov ho1
      rw [hR] at hrv hr1
      have KM := fun w => HM.out p w
      have KT := fun w => HT.out p hmem w
      generalize movedM d n c r p = mv at *
      obtain ⟨q, hq⟩ : ∃ q, turnedM d n c r p = q := ⟨_, rfl⟩
      rw [hq] at KT ho1
      have HM1 := Lib.hid KM; have HT1 := Lib.hid KT; have HOV := Lib.hid hov; have HRV := Lib.hid hrv; have HNE := Lib.hid hne; have HB := Lib.hid hb; have HO1 := Lib.hid ho1; have HR1 := Lib.hid hr1
      clear KM KT hov hrv hne hb ho1 hr1 hO hR htk hq hmem hp KS
      go_wp2_with fail
      refine later_start (w := wr) ?_
      intro v
      have j0 := fun v : Later wr => v.cell p0
      have j1 := fun v : Later wr => v.cell p1
      have j2 := fun v : Later wr => v.cell p2
      have j3 := fun v : Later wr => v.cell p3
      have j4 := fun v : Later wr => v.cell p4
      have i0' := fun v : Later wr => v.cell x0
      have i1' := fun v : Later wr => v.cell x1
      have i2' := fun v : Later wr => v.cell x2
      refine wp_region_later (by kernel_rfl) (by kernel_rfl) ?_
      repeat (go_big_quiet_step ((go_at_call 43; with_reducible exact Later.call (HM1.out _))))
      refine wpQuiet_nil ?_
      rintro _ ⟨v2, rfl⟩
      have hb5 := v2.up
      replace p0 := v2.cell p0; replace p1 := v2.cell p1; replace p2 := v2.cell p2; replace p3 := v2.cell p3; replace p4 := v2.cell p4
      replace x0 := v2.cell x0; replace x1 := v2.cell x1; replace x2 := v2.cell x2
      clear j0 j1 j2 j3 j4 i0' i1' i2'
      generalize v2.now = w5 at *
      have HB5 := Lib.hid hb5
      clear hb5 v v2
      have HOV5 := Lib.hid (HOV.out.up HB5.out); have HRV5 := Lib.hid (HRV.out.up HB5.out)
      have hbb := up_trans HB.out HB5.out
      have hs5 := hbb.size
      have HBB := Lib.hid hbb
      clear hbb
      cases mv
      · simp only [Bool.false_eq_true, if_false] at HO1 HR1
        go_wp2_with (at_builtin; refine wpList_append_own_at _ rfl _ _ 46 rfl w1.heap.size 49 i0 _ 5 32 Try.underlying46 hi hz0 hz1 hz2 rfl (by omega) _ R.length (rps R) rfl (HRV5.out.up (up_alloc (Below.refl _ _) _)) ⟨w5.heap.size, 0, none⟩ 1 1 p.cells rfl rfl (World.news_of_block (cs := #[.int .i64 p.n, .int .i64 p.col, .int .i64 p.row, .bool p.fx, .bool p.fy]) (t := 49) (fr := (0, 0)) (heap_alloc_new w5 _)) (by simp [Value.oneCell', Rp.cells]) (by unfold maxLen; omega) (by omega) (by simp; omega) ?_; intro v' w6 hown hgrow _ hat)
        obtain ⟨e1, e2, e3⟩ := app_side HRV5.out HOV5.out (fun b h1 h2 => HNE.out b h2 h1) (show OwnR w6 w1.heap.size v' (R ++ [p]) by unfold OwnR; rw [List.length_append, rps_append]; exact hown) hgrow hat HBB.out (Nat.le_refl _)
        refine ⟨⟨k + 1, by rw [HL.out]; omega, by go_num, ?_, ?_, fun b h1 h2 => e2 b h2 h1, e3⟩, by simp [intOf]; omega⟩
        · rw [HO1.out]; exact e1
        · rw [HR1.out]; unfold OwnR; rw [List.length_append, rps_append]; exact hown
      · simp only [if_true] at HO1 HR1
        clear p0 p1 p2 p3 p4 x0 x1 x2
        have hlen : O.length + 1 ≤ maxLen := by unfold maxLen; omega
        have hbytes : (O.length + 1) * 32 ≤ 140737488355328 := by omega
        go_wp2_with fail
        go_region_held3 (fun w' => w'.cell? ⟨g, k * 5, none⟩ = some (.int .i64 p.n) ∧ w'.cell? ⟨g, k * 5 + 1, none⟩ = some (.int .i64 p.col) ∧ w'.cell? ⟨g, k * 5 + 2, none⟩ = some (.int .i64 p.row) ∧ w'.cell? ⟨g, k * 5 + 3, none⟩ = some (.bool p.fx) ∧ w'.cell? ⟨g, k * 5 + 4, none⟩ = some (.bool p.fy) ∧ w'.cell? ⟨w.heap.size, 0, none⟩ = some (.int .i64 d) ∧ w'.cell? ⟨w.heap.size, 1, none⟩ = some (.int .i64 n) ∧ w'.cell? ⟨w.heap.size, 2, none⟩ = some (.bool u))
          ((refine HKS.out _ ?_; first | exact hbw6 | exact up_drew HBB.out | exact hb7 | exact up_alloc hb7 _))
          (first
            | (go_at_call 44; (refine Calls.mono (HT1.out _) ?_); rintro e w7 ⟨rfl, hb7⟩; have hb57 := up_trans (up_drew (Below.refl _ w5)) hb7; replace hb7 := up_trans (up_drew HBB.out) hb7)
            | (refine step_append_lies _ (by rfl) _ _ _ (by rfl) w1.heap.size 49 i0 _ 5 32 Try.underlying46 hi hz0 hz1 hz2 rfl (by omega) _ O.length (rps O) (by rfl) (HOV5.out.up (up_alloc hb57 _)) ⟨w7.heap.size, 0, none⟩ 1 1 q.cells (by rfl) (by rfl) (World.news_of_block (cs := #[.int .i64 q.n, .int .i64 q.col, .int .i64 q.row, .bool q.fx, .bool q.fy]) (t := 49) (fr := (0, 0)) (heap_alloc_new w7 _)) (by simp [Value.oneCell', Rp.cells]) (by omega) hlen hbytes (by have := hb57.size; simp; omega) _ rfl ?_
               intro g' cap' w6 hown hgrow hat hglt
               have hbw6 : Below w1.heap.size w1 w6 := Below.grown (up_alloc hb7 _) hgrow (by have := hb57.size; simp; omega) (fun k hk => (World.ownsRow.lt HOV5.out k hk).1)))
        rename_i hHeld
        clear hHeld
        have HOW := Lib.hid (show OwnR w6 w1.heap.size (.slice (some ⟨g', 0, none⟩) (O.length + 1) cap') (O ++ [q]) by unfold OwnR; rw [List.length_append, rps_append]; exact hown)
        obtain ⟨e1, e2, e3⟩ := app_side (HOV5.out.up hb57) (HRV5.out.up hb57) HNE.out HOW.out hgrow (by rcases hat with e | e; exact .inl e.symm; exact .inr (by rw [e]; rfl)) hb7 (Nat.le_refl _)
        have E1 := Lib.hid e1; have E2 := Lib.hid e2; have E3 := Lib.hid e3
        clear hown hgrow hat hglt hbw6 hb7 hb57 e1 e2 e3
        go_wp2
        refine ⟨⟨k + 1, by rw [HL.out]; omega, by go_num, ?_, ?_, E2.out, E3.out⟩, by simp [intOf]; omega⟩
        · rw [HO1.out]; exact HOW.out
        · rw [HR1.out]; exact E1.out
    · have hk2 : k = m := by omega
      subst hk2
      obtain ⟨V, hV⟩ : ∃ V, V = wr := ⟨_, rfl⟩
      subst hV
      rw [List.take_of_length_le (by rw [HL.out]; exact Nat.le_refl _)] at hov hrv
      obtain ⟨g1, cap1, rfl, hO⟩ := OwnR.form hov HO.out
      obtain ⟨g2, cap2, rfl, hR⟩ := OwnR.form hrv HR.out
      obtain ⟨O, hOe⟩ : ∃ O, overM d n c r l = O := ⟨_, rfl⟩
      obtain ⟨R, hRe⟩ : ∃ R, restM d n c r l = R := ⟨_, rfl⟩
      have hsum : O.length + R.length = k := by rw [← hOe, ← hRe, ← HL.out]; exact part_length d n c r l
      rw [hOe] at hO
      rw [hRe] at hR
      rw [hOe, hRe]
      have KS : ∀ w' : World, Below V.heap.size V w' → w'.cell? ⟨w.heap.size, 0, none⟩ = some (.int .i64 d) ∧ w'.cell? ⟨w.heap.size, 1, none⟩ = some (.int .i64 n) ∧ w'.cell? ⟨w.heap.size, 2, none⟩ = some (.bool u) := fun w' h =>
        have X := A1.up (up_trans hb h)
        ⟨X.cell 0 rfl, X.cell 1 rfl, X.cell 2 rfl⟩
      obtain ⟨x0, x1, x2⟩ := KS V (Below.refl _ _)
      have HKS := Lib.hid KS; have HOr := Lib.hid hO; have HRr := Lib.hid hR; have HB := Lib.hid hb; have HOe := Lib.hid hOe; have HRe := Lib.hid hRe
      rw [hOe] at HO
      rw [hRe] at HR
      have hO0 := HO.out; have hR0 := HR.out
      clear KS hov hrv hne hO hR hb hOe hRe hlt HM HT HA
      obtain ⟨B2, hB2⟩ : ∃ B, V.heap.size = B := ⟨_, rfl⟩
      go_upto_if 48 with fail
      go_cut [12] (fun s wx => OwnR wx V.heap.size s (if u = true then R else []) ∧ Below V.heap.size V wx)
      case first =>
        cases u
        · go_wp2
          go_meet
          exact ⟨OwnR.nil _ _, Below.refl _ _⟩
        · go_wp2_with (at_builtin; refine wpList_append_own_at _ rfl _ _ 46 rfl V.heap.size 49 i0 _ 5 32 Try.underlying46 hi hz0 hz1 hz2 rfl (by omega) _ 0 [] rfl (OwnR.nil _ _) ⟨g2, 0, none⟩ R.length cap2 (rps R) rfl (rps_length R) (RpsAt.add HRr.out.at) rps_one (by unfold maxLen; omega) (by omega) (Nat.le_refl _) ?_; intro v' w6 hown hgrow _ hat)
          go_meet
          refine ⟨?_, (Below.refl _ _).grown hgrow (Nat.le_refl _) (fun k hk => by have hk' : (Value.slice none 0 0).ownBlock = some k := hk; simp [Value.ownBlock] at hk')⟩
          simpa [OwnR] using hown
      case rest =>
        obtain ⟨hrow, hbc⟩ := hcut
        obtain ⟨P, hP⟩ : ∃ P, (if u = true then R else []) = P := ⟨_, rfl⟩
        rw [hP] at hrow
        have hPl : P.length ≤ R.length := by rw [← hP]; cases u <;> simp
        obtain ⟨y0, y1, y2⟩ := HKS.out wc hbc
        have HW := Lib.hid hrow; have HBc := Lib.hid hbc; have HP := Lib.hid hP
        have w1' : wrap64 ((O.length : Int) - 1) = (O.length : Int) - 1 := IntWalk.wrap64_in _ (by omega)
        clear hrow hbc hP x0 x1 x2
        go_wp2
        go_loopw [12, 13] (fun s i wx => BackRel V O P s i wx) (fun _ i _ => (intOf i + 1).toNat)
        case atStart => exact ⟨O.length, Nat.le_refl _, by go_num, by rw [List.drop_length]; simpa using HW.out, HBc.out⟩
        case round =>
          obtain ⟨t, ht, rfl, hrow, hbx⟩ := hrel
          cases t with
          | succ t =>
            have e1 : ((t + 1 : Nat) : Int) - 1 = (t : Int) := by omega
            rw [e1]
            obtain ⟨p, hp⟩ : ∃ p, O[t]? = some p := ⟨O[t]'(by omega), List.getElem?_eq_getElem _⟩
            obtain ⟨p0, p1, p2, p3, p4⟩ := (HOr.out.at.up hbx).cells hp
            have hdr : (O.drop t).reverse = (O.drop (t + 1)).reverse ++ [p] := by
              rw [List.drop_eq_getElem_cons (by omega), List.reverse_cons]
              rw [List.getElem?_eq_getElem (by omega)] at hp
              rw [Option.some.inj hp]
            have HD := Lib.hid hdr; have HX := Lib.hid hrow; have HBx := Lib.hid hbx
            obtain ⟨D, hD⟩ : ∃ D, P ++ (O.drop (t + 1)).reverse = D := ⟨_, rfl⟩
            have hDl : D.length ≤ 64 := by rw [← hD]; simp; omega
            have HDe := Lib.hid hD
            rw [hD] at HX
            have z0 : (0 : Int) ≤ (t : Int) := by omega
            have z1 : (t : Int) < (O.length : Int) := by omega
            have hsx := hbx.size
            have wt : wrap64 ((t : Int) - 1) = (t : Int) - 1 := IntWalk.wrap64_in _ (by omega)
            clear hdr hrow hbx hD hp e1
            go_wp2_with (at_builtin; refine wpList_append_own_at _ rfl _ _ 46 rfl V.heap.size 49 i0 _ 5 32 Try.underlying46 hi hz0 hz1 hz2 rfl (by omega) _ D.length (rps D) rfl (HX.out.up (up_alloc (Below.refl _ _) _)) ⟨wr.heap.size, 0, none⟩ 1 1 p.cells rfl rfl (World.news_of_block (cs := #[.int .i64 p.n, .int .i64 p.col, .int .i64 p.row, .bool p.fx, .bool p.fy]) (t := 49) (fr := (0, 0)) (heap_alloc_new wr _)) (by simp [Value.oneCell', Rp.cells]) (by unfold maxLen; omega) (by omega) (by simp; omega) ?_; intro v' w6 hown hgrow _ hat)
            have hlt6 := fun k hk => (World.ownsRow.lt HX.out k hk).1
            have hb6 := Below.grown (HBx.out.alloc hsx _) hgrow (by simp; omega) hlt6
            refine ⟨⟨t, by omega, rfl, ?_, hb6⟩, by simp [intOf]⟩
            rw [HD.out, ← List.append_assoc, HDe.out]
            unfold OwnR
            rw [List.length_append, rps_append]
            exact hown
          | zero =>
            have e1 : ((0 : Nat) : Int) - 1 = -1 := rfl
            rw [e1]
            rw [List.drop_zero] at hrow
            obtain ⟨D, hD⟩ : ∃ D, P ++ O.reverse = D := ⟨_, rfl⟩
            rw [hD] at hrow
            have hDl : D.length ≤ 64 := by rw [← hD]; simp; omega
            have hJ : (if u = true then D else D ++ R) = joinU u R O.reverse := by rw [← hD, ← HP.out]; unfold joinU; cases u <;> simp
            have HX := Lib.hid hrow; have HBx := Lib.hid hbx; have HJ := Lib.hid hJ
            obtain ⟨y0, y1, y2⟩ := HKS.out wr hbx
            have HR3 := Lib.hid (HRr.out.up hbx)
            have hsx := hbx.size
            clear hrow hbx hJ hD e1
            go_upto_if 68 with fail
            go_cut [12] (fun s wx => OwnR wx V.heap.size s (joinU u R O.reverse) ∧ Below V.heap.size V wx)
            case first =>
              cases u
              · go_wp2_with (at_builtin; refine wpList_append_own_at _ rfl _ _ 46 rfl V.heap.size 49 i0 _ 5 32 Try.underlying46 hi hz0 hz1 hz2 rfl (by omega) _ D.length (rps D) rfl HX.out ⟨g2, 0, none⟩ R.length cap2 (rps R) rfl (rps_length R) (RpsAt.add HR3.out.at) rps_one (by unfold maxLen; omega) (by omega) hsx ?_; intro v' w6 hown hgrow _ hat)
                go_meet
                have hlt6 := fun k hk => (World.ownsRow.lt HX.out k hk).1
                refine ⟨?_, HBx.out.grown hgrow hsx hlt6⟩
                rw [← HJ.out]
                unfold OwnR
                simp only [Bool.false_eq_true, if_false]
                rw [List.length_append, rps_append]
                exact hown
              · go_wp2
                go_meet
                refine ⟨?_, HBx.out⟩
                rw [← HJ.out]
                exact HX.out
            case rest =>
              obtain ⟨hrow, hbc⟩ := hcut
              have hJl : (joinU u R O.reverse).length = k := by unfold joinU; cases u <;> simp <;> omega
              have hJb : ∀ p ∈ joinU u R O.reverse, (-256 ≤ p.col ∧ p.col ≤ 256) ∧ -256 ≤ p.row ∧ p.row ≤ 256 := fun p hp => join_bounds (u := u) HIn.out hn hc hr p (by rw [HRe.out, HOe.out]; exact hp)
              obtain ⟨J, hJe⟩ : ∃ J, joinU u R O.reverse = J := ⟨_, rfl⟩
              rw [hJe] at hrow hJl hJb
              have HJe := Lib.hid hJe
              obtain ⟨g3, cap3, rfl, hRw⟩ := hrow.form (by rw [hJl]; exact hl0)
              rw [hJl]
              have HRw := Lib.hid hRw; have HBc := Lib.hid hbc; have HJl := Lib.hid hJl; have HJb := Lib.hid hJb
              clear hrow hbc hJl hRw hJb hJe y0 y1 y2
              go_wp2
              go_loopw [14] (fun i wx => ShiftRel V g3 cap3 d n J i wx) (fun i _ => k - (intOf i).toNat)
              case atStart => exact ⟨0, by omega, by go_num, HRw.out, HBc.out⟩
              case round =>
                obtain ⟨j, hj, rfl, hRw, hbx⟩ := hrel
                rw [HJl.out] at hj
                by_cases hlt : j < k
                · obtain ⟨p, hp⟩ : ∃ p, J[j]? = some p := ⟨J[j]'(by rw [HJl.out]; exact hlt), List.getElem?_eq_getElem _⟩
                  have hpb := HJb.out p (List.mem_of_getElem? hp)
                  obtain ⟨p0, p1, p2, p3, p4⟩ := hRw.at.cells (shl_at (d := d) (n := n) hp)
                  have f1 := hRw.free (j * 5 + 1); have f2 := hRw.free (j * 5 + 2)
                  obtain ⟨y0, y1, y2⟩ := HKS.out wr hbx
                  have z0 : (0 : Int) ≤ (j : Int) := by omega
                  have z1 : (j : Int) < (k : Int) := by omega
                  have wc1 : wrap64 (p.col - n) = p.col - n := IntWalk.wrap64_in _ (by omega)
                  have wr1 : wrap64 (p.row - n) = p.row - n := IntWalk.wrap64_in _ (by omega)
                  have HSu := Lib.hid (shl_succ (d := d) (n := n) hp); have HSa := Lib.hid (shl_at (d := d) (n := n) hp)
                  have HRj := Lib.hid hRw; have HBj := Lib.hid hbx
                  have hsx := hbx.size
                  have hg3 := hRw.lt
                  clear hRw hbx hp hpb
                  have hd' := hd
                  obtain rfl | rfl | rfl | rfl : d = 1 ∨ d = 2 ∨ d = 3 ∨ d = 4 := by omega
                  · go_wp2_with fail
                    refine later_start (w := wr) ?_
                    intro v
                    have j0 := fun v : Later wr => v.cell y1
                    have j1 := fun v : Later wr => v.cell p1
                    refine wp_region_later_tail 12 (by kernel_rfl) (by kernel_rfl) ?_
                    simp only [List.take_succ_cons, List.take_zero, List.drop_succ_cons, List.drop_zero]
                    repeat (go_big_quiet_step (fail))
                    refine wpQuiet_nil ?_
                    rintro _ ⟨v2, rfl⟩
                    have hR5 := HRj.out.up v2.up
                    have p1' := v2.cell p1
                    have f1' := hR5.free (j * 5 + 1)
                    have y0' := v2.cell y0
                    have B5 := Lib.hid (up_trans HBj.out v2.up)
                    clear j0 j1
                    generalize v2.now = w5 at *
                    have HR5 := Lib.hid hR5
                    have hVs := HB.out.size
                    have y0'' : (w5.setCell ⟨g3, j * 5 + 1, none⟩ (.int .i64 (p.col - n))).cell? ⟨w.heap.size, 0, none⟩ = some (.int .i64 1) := (World.cell?_setCell_far _ _ _ _ (by simp only; omega)).trans y0'
                    clear v v2 hR5
                    go_wp2
                    refine ⟨⟨j + 1, by rw [HJl.out]; omega, by go_num, ?_, HR5.out.set_but _ _ B5.out HR5.out.lt.1⟩, by simp [intOf]; omega⟩
                    rw [← HSu.out]
                    exact HR5.out.set HSa.out 1 (by omega) _ _ rfl
                  · go_wp2
                    refine ⟨⟨j + 1, by rw [HJl.out]; omega, by go_num, ?_, HBj.out⟩, by simp [intOf]; omega⟩
                    rw [← HSu.out, show shiftM 2 n p = p from rfl, List.set_same HSa.out]
                    exact HRj.out
                  · go_wp2_with fail
                    refine later_start (w := wr) ?_
                    intro v
                    have j0 := fun v : Later wr => v.cell y1
                    have j1 := fun v : Later wr => v.cell p2
                    refine wp_region_later_tail 12 (by kernel_rfl) (by kernel_rfl) ?_
                    simp only [List.take_succ_cons, List.take_zero, List.drop_succ_cons, List.drop_zero]
                    repeat (go_big_quiet_step (fail))
                    refine wpQuiet_nil ?_
                    rintro _ ⟨v2, rfl⟩
                    have hR5 := HRj.out.up v2.up
                    have p1' := v2.cell p2
                    have f1' := hR5.free (j * 5 + 2)
                    have y0' := v2.cell y0
                    have B5 := Lib.hid (up_trans HBj.out v2.up)
                    clear j0 j1
                    generalize v2.now = w5 at *
                    have HR5 := Lib.hid hR5
                    have hVs := HB.out.size
                    have y0'' : (w5.setCell ⟨g3, j * 5 + 2, none⟩ (.int .i64 (p.row - n))).cell? ⟨w.heap.size, 0, none⟩ = some (.int .i64 3) := (World.cell?_setCell_far _ _ _ _ (by simp only; omega)).trans y0'
                    clear v v2 hR5
                    go_wp2
                    refine ⟨⟨j + 1, by rw [HJl.out]; omega, by go_num, ?_, HR5.out.set_but _ _ B5.out HR5.out.lt.1⟩, by simp [intOf]; omega⟩
                    rw [← HSu.out]
                    exact HR5.out.set HSa.out 2 (by omega) _ _ rfl
                  · go_wp2
                    refine ⟨⟨j + 1, by rw [HJl.out]; omega, by go_num, ?_, HBj.out⟩, by simp [intOf]; omega⟩
                    rw [← HSu.out, show shiftM 4 n p = p from rfl, List.set_same HSa.out]
                    exact HRj.out
                · have hj2 : j = k := by omega
                  subst hj2
                  have e := shl_all d n J
                  rw [HJl.out] at e
                  rw [e] at hRw
                  have HRj := Lib.hid hRw; have HBj := Lib.hid hbx
                  clear hRw hbx e
                  go_wp2
                  go_ret
                  have hs := HBj.out.size
                  refine ⟨g3, cap3, rfl, ?_, up_trans (up_trans B1.out HB.out) HBj.out⟩
                  unfold stepR
                  rw [HRe.out, HOe.out, HJe.out]
                  exact HRj.out.base _ (by have := HRj.out.lt; have := (up_trans B1.out HB.out).size; omega)
end Go.Proofs.Ytnofncibplgmpaa
