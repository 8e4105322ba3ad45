/- What grid.All hands back: a function that yields each place and the thing there, as they stood when the walk began, as long as they are wanted, whatever is done with each. -/
import Derived.RangeFuncNested
import Derived.RangeFuncBound
import Derived.RangeFuncCalls
import Derived.RangeFuncLeaves
import Derived.Shelf.Abstract
import Derived.Shelf.RegionOpen
import Derived.WalkKit
import Derived.OwnWalkIn
import Derived.TacticsInMore
import Derived.LoopNIn
import Derived.LoopIn
import Derived.Maps.AppendAt
import Derived.Lib.SliceRun
import Derived.Deep.RegionHeld3
import Derived.Test.YtnofncibplgmpaaSheetCode
import Derived.Test.YtnofncibplgmpaaRoundQuiet
import Derived.Test.YtnofncibplgmpaaGridPlaces
namespace Go.Proofs.Ytnofncibplgmpaa
open Go.RowKit Go.Shelf
set_option linter.unusedVariables false

set_option maxHeartbeats 2000000 in
theorem shClone_any {w : World} {A : Nat} {l : List Ptr} (h : Bx w A (encS l)) (hm : l.length ≤ 4096) :
    Calls Try.prog 50 #[.slice (some ⟨A, 0, none⟩) l.length l.length] w fun e w' => ∃ v', e = .returned v' ∧ w'.ownsRow w.heap.size 38 1 v' l.length (encS l) ∧ Below w.heap.size w w' := by
  obtain ⟨i0, hi, hz0, hz1, hz2⟩ := info_parts Try.infoPtr
  have q : ∀ (w : World) (a : Option Addr) (n c n' c' : Nat), (binOp .eql 80 (.slice a n c) (.slice none n' c')).run Try.prog w = .ok (.bool a.isNone) w := fun w a n c n' c' => Lib.run_eql_slice_nil w _ _ a n c n' c' Try.underlying80
  have A' := Lib.hid h
  clear h
  obtain ⟨n, hn⟩ : ∃ n, l.length = n := ⟨_, rfl⟩
  have HN := Lib.hid hn
  rw [hn] at hm ⊢
  clear hn
  go_enter Try.func50, Try.ntmps50
  go_wp2_with (at_builtin; refine wpList_append_own _ rfl _ _ 80 rfl w.heap.size 38 i0 (.pointer none) 1 8 Try.underlying80 hi hz0 hz1 hz2 rfl (by decide) _ _ _ rfl (World.ownsRow_made w #[] 0 (Nat.le_refl _) (Nat.zero_le _) rfl) ⟨A, 0, none⟩ n n (encS l) rfl ?qc1 ?qc2 ?qc3 ?qc4 ?qc5 ?qc6 ?_)
  case qc1 => simp [encS]; exact HN.out
  case qc2 =>
    intro j u hj
    rw [show (⟨A, 0, none⟩ : Addr).add j = ⟨A, j, none⟩ by unfold Addr.add; split <;> simp_all]
    exact bl_cell (up_alloc (Below.refl _ _) _) (A'.out.cell j hj)
  case qc3 => intro u hu; obtain ⟨x, _, rfl⟩ := List.mem_map.1 hu; rfl
  case qc4 => unfold maxLen; omega
  case qc5 => omega
  case qc6 => simp
  intro v' w1 hown hgrow hnil
  go_wp2
  go_ret
  refine ⟨v', rfl, by simpa using hown, ?_⟩
  exact ((Below.refl _ w).alloc (Nat.le_refl _) _).grown hgrow (by simp) (by intro k hk; simp [Value.ownBlock] at hk; omega)

/-- What a round may do: lists of pointers to piles that lie there, but for the body's own (O), stay as they are; what is not the body's own does not become so. -/
def KeepS (O : World → Nat → Prop) (W W' : World) : Prop :=
  W.heap.size ≤ W'.heap.size ∧ (∀ b, b < W.heap.size → O W' b → O W b) ∧ ∀ b cur fr, ¬ O W b → W.heap[b]? = some (.cells cur 38 fr) → W'.heap[b]? = some (.cells cur 38 fr)
theorem KeepS.trans {O : World → Nat → Prop} {A B C : World} (h : KeepS O A B) (k : KeepS O B C) : KeepS O A C :=
  ⟨Nat.le_trans h.1 k.1, fun b hb ho => h.2.1 b hb (k.2.1 b (by have := h.1; omega) ho), fun b cur fr hn hc =>
    have hB := h.2.2 b cur fr hn hc
    k.2.2 b cur fr (fun ho => hn (h.2.1 b (Array.getElem?_eq_some_iff.1 hc).1 ho)) hB⟩

/-- A place, and the thing there, as a loop's two variables. -/
def encV (x : (Int × Int) × Ptr) : Array Value := #[.agg #[.int .i64 x.1.1, .int .i64 x.1.2], .pointer x.2]
/-- The first k places, and what stands there. -/
def ptS (c : Int) (l : List Ptr) (k : Nat) : List ((Int × Int) × Ptr) := (List.range k).map fun (i : Nat) => (((i : Int).tmod c, (i : Int).tdiv c), l[i]?.getD none)
theorem ptS_succ (c : Int) (l : List Ptr) (k : Nat) : ptS c l (k + 1) = ptS c l k ++ [((((k : Int).tmod c), ((k : Int).tdiv c)), l[k]?.getD none)] := by simp [ptS, List.range_succ]
theorem ptS_length (c : Int) (l : List Ptr) (k : Nat) : (ptS c l k).length = k := by simp [ptS]

/-- The iterator's copy: its cells. -/
def CopyS (W : World) (D : Nat) (l : List Ptr) : Prop := ∃ cur fr, W.heap[D]? = some (.cells cur 38 fr) ∧ cur.toList.take l.length = encS l
theorem CopyS.lt {W : World} {D : Nat} {l : List Ptr} (h : CopyS W D l) : D < W.heap.size := by
  obtain ⟨cur, fr, hc, _⟩ := h
  exact (Array.getElem?_eq_some_iff.1 hc).1
theorem CopyS.cell {W : World} {D : Nat} {l : List Ptr} (h : CopyS W D l) (k : Nat) (x : Ptr) (hx : l[k]? = some x) : W.cell? ⟨D, k, none⟩ = some (.pointer x) := by
  obtain ⟨cur, fr, hc, ht⟩ := h
  have e : (encS l)[k]? = some (.pointer x) := by simp [encS, hx]
  rw [← ht, List.getElem?_take_of_lt (List.getElem?_eq_some_iff.1 hx).1] at e
  simp [World.cell?, hc]
  simpa using e
theorem CopyS.keep {O : World → Nat → Prop} {W W' : World} {D : Nat} {l : List Ptr} (h : CopyS W D l) (hk : KeepS O W W') (ho : ¬ O W D) : CopyS W' D l ∧ ¬ O W' D := by
  obtain ⟨cur, fr, hc, ht⟩ := h
  exact ⟨⟨cur, fr, hk.2.2 D cur fr ho hc, ht⟩, fun h => ho (hk.2.1 D (Array.getElem?_eq_some_iff.1 hc).1 h)⟩

set_option maxRecDepth 100000 in
set_option maxHeartbeats 4000000 in
theorem shAll_in (n : Nat) (O : World → Nat → Prop) (l0 B G A : Nat) (c r : Int) (l : List Ptr) (J Jx : Nat → World → Prop)
    (hal : ∀ k W W', J k W → W.grownBy W' none → J k W')
    (hY : ∀ (k : Nat) x W, l[k]? = some x → J k W → YieldAt Fence.wide (n - 1) Try.prog l0 (encV (((k : Int).tmod c, (k : Int).tdiv c), x)) W fun e W' =>
      (e = .returned (.bool true) ∧ J (k + 1) W' ∧ KeepS O W W') ∨ (e = .returned (.bool false) ∧ Jx (k + 1) W'))
    (W : World) (hB : W.cell? ⟨B, 0, none⟩ = some (.pointer (some ⟨G, 0, none⟩))) (hG : Gs W G A c r l) (hO : ∀ W', Below W.heap.size W W' → ∀ b, O W' b → b < W.heap.size) (hOu : ∀ V V', W.heap.size ≤ V.heap.size → Below V.heap.size V V' → KeepS O V V') (h0 : J 0 W) :
    CallsIn Fence.wide n Try.prog 49 #[.func (.yield l0) #[] #[], .pointer (some ⟨B, 0, none⟩)] W fun e W' => (∃ v, e = .returned v) ∧
      (J l.length W' ∨ (∃ k, k < l.length ∧ Jx (k + 1) W')) := by
  refine callsIn_of_wp Try.func49 rfl trivial ?_ rfl
  simp only [Try.ntmps49, List.size_toArray, List.length_cons, List.length_nil, Nat.reduceAdd, Nat.reduceSub, Array.replicate_succ, Array.replicate_zero, List.push_toArray, List.append_toArray, List.nil_append, List.cons_append]
  have b0 := hG.box.cell 0 rfl
  have b2 := hG.box.cell 2 rfl
  have hl := hG.pos
  have hle := hG.le
  have c1 := hG.c1
  have c0 : c ≠ 0 := by omega
  have HA := Lib.hid hG
  have KC := fun (W' : World) (h : Below W.heap.size W W') => shClone_any (hG.up h).row hle
  have HC := Lib.hid KC
  clear KC hG
  obtain ⟨m, hm⟩ : ∃ m, l.length = m := ⟨_, rfl⟩
  have HM := Lib.hid hm
  rw [hm] at b2 hl hle
  rw [hm] at HC
  clear hm
  gi_wp2
  refine wpIn_wide.2 ?_
  go_region_held3 (fun w' => w'.cell? ⟨B, 0, none⟩ = some (.pointer (some ⟨G, 0, none⟩)) ∧ w'.cell? ⟨G, 0, none⟩ = some (.int .i64 c) ∧ w'.cell? ⟨G, 2, none⟩ = some (.slice (some ⟨A, 0, none⟩) m m))
    (first | exact ⟨bl_cell hbc hB, bl_cell hbc b0, bl_cell hbc b2⟩ | exact ⟨hB, b0, b2⟩)
    ((go_at_call 50; refine (HC.out _ (up_drew (Below.refl _ _))).mono ?_; rintro e w1 ⟨v, rfl, hrow, hbc⟩))
  rename_i hK hH
  refine hK _ _ ?_
  clear hH hK
  have hbW : Below W.heap.size W w1 := up_trans (up_drew (Below.refl _ _)) hbc
  obtain ⟨D, cap, rfl, hDo, hDc, hDg⟩ : ∃ D cap, v = .slice (some ⟨D, 0, none⟩) m cap ∧ ¬ O w1 D ∧ CopyS w1 D l ∧ W.heap.size ≤ D := by
    rcases hrow.2 with ⟨_, h0⟩ | ⟨g, cap, cur, rfl, hb, hg, hcap, hmax, hsz, htk⟩
    · omega
    · exact ⟨g, cap, rfl, fun ho => by have := hO w1 hbW g ho; have : W.heap.size ≤ g := hb; omega, ⟨cur, (0, 0), hg, by rw [HM.out]; simpa using htk⟩, hb⟩
  have hJ1 : J 0 w1 := hal 0 W w1 h0 ⟨hbW.os, hbW.tape, hbW.output, hbW.size, fun k hk _ => hbW.block k hk⟩
  clear hrow hbc hbW h0 hB b0 b2 HA HC hO
  have hU : ∀ V V', Below V.heap.size V V' → CopyS V D l → ¬ O V D → CopyS V' D l ∧ ¬ O V' D := fun V V' h h1 h2 => h1.keep (hOu V V' (Nat.le_of_lt (Nat.lt_of_le_of_lt hDg h1.lt)) h) h2
  have HU := Lib.hid hU
  clear hU hOu hDg
  have HY := Lib.hid hY; have HJ := Lib.hid hJ1; have HD := Lib.hid hDc; have HO := Lib.hid hDo; have HL := Lib.hid hal
  clear hY hJ1 hDc hDo hal
  gi_wp2
  gi_loopw [20] (fun i wr => ∃ k : Nat, k ≤ m ∧ i = .int .i64 (k : Int) ∧ J k wr ∧ CopyS wr D l ∧ ¬ O wr D) (fun i _ => m - (intOf i).toNat)
  case atStart => exact ⟨0, by omega, by go_num, HJ.out, HD.out, HO.out⟩
  case round =>
    obtain ⟨k, hk, rfl, hJs, hC, hOo⟩ := hrel
    by_cases hlt : k < m
    · obtain ⟨x, hx⟩ : ∃ x, l[k]? = some x := ⟨l[k]'(by rw [HM.out]; exact hlt), List.getElem?_eq_getElem _⟩
      have hcx := hC.cell k x hx
      have z0 : (0 : Int) ≤ (k : Int) := by omega
      have z1 : (k : Int) < (m : Int) := by omega
      obtain ⟨q1, hq1⟩ : ∃ q, (k : Int).tmod c = q := ⟨_, rfl⟩
      obtain ⟨q2, hq2⟩ : ∃ q, (k : Int).tdiv c = q := ⟨_, rfl⟩
      have hw2 : wrap64 q2 = q2 := by
        have h1 : 0 ≤ q2 := by rw [← hq2]; exact Int.tdiv_nonneg (by omega) (by omega)
        have h2 : q2 ≤ k := by rw [← hq2]; exact Int.tdiv_le_self _ (by omega)
        exact IntWalk.wrap64_in q2 (by omega)
      have KY := fun W h => HY.out k x W hx h
      rw [hq1, hq2] at KY
      have HYk := Lib.hid KY; have HJ2 := Lib.hid hJs; have HC2 := Lib.hid hC; have HO2 := Lib.hid hOo
      clear KY hJs hC hOo hx
      gi_wp2
      refine later_start (w := wr) ?_
      intro u
      refine iter_tail 9 (by kernel_rfl) (by kernel_rfl) ?_ ?_
      · rintro ⟨a, w, h⟩
        obtain ⟨v, hv⟩ : ∃ v, Ending.outgrown = .returned v := (show (∃ v, Ending.outgrown = .returned v) ∧ _ from h).1
        cases hv
      · simp only [List.take_succ_cons, List.take_zero, List.drop_succ_cons, List.drop_zero]
        repeat (go_big_quiet_step (fail))
        refine wpQuiet_nil ?_
        rintro _ ⟨u2, rfl⟩
        have hg2 : wr.grownBy u2.now none := ⟨u2.up.os, u2.up.tape, u2.up.output, u2.up.size, fun k hk _ => u2.up.block k hk⟩
        have hJ3 := HL.out _ _ _ HJ2.out hg2
        have hk2 : CopyS u2.now D l ∧ ¬ O u2.now D := HU.out _ _ u2.up HC2.out HO2.out
        obtain ⟨fn, tmps, assign, body, hy, hR⟩ := HYk.out _ hJ3
        unfold encV at hy
        dsimp only at hy
        have HK2 := Lib.hid hk2
        clear hk2 hJ3 hg2 hcx
        generalize u2.now = w3 at *
        gi_wp2
        refine ⟨fun h => by simp [Fence.wide] at h, hR.mono ?_⟩
        rintro e W3 (⟨rfl, hJ3, hk3⟩ | ⟨rfl, hJx3⟩)
        · gi_wp2
          go_roundw
          case rel =>
            obtain ⟨h1, h2⟩ := HK2.out.1.keep hk3 HK2.out.2
            exact ⟨k + 1, by omega, by go_num, hJ3, h1, h2⟩
          case measure => simp [intOf]; omega
        · gi_wp2
          refine bodyPost_ret (results_none rfl _ _ _) rfl ?_
          exact ⟨⟨_, rfl⟩, .inr ⟨k, by rw [HM.out]; exact hlt, hJx3⟩⟩
    · have hk2 : m ≤ k := by omega
      have e : k = m := by omega
      subst e
      have HJ2 := Lib.hid hJs
      clear hJs hC hOo
      gi_wp2
      go_end0
      exact ⟨⟨_, rfl⟩, .inl (by rw [HM.out]; exact HJ2.out)⟩

/-- What All hands back, as a range over it sees it. -/
theorem shAll_stops (n : Nat) (O : World → Nat → Prop) (B G A : Nat) (c r : Int) (l : List Ptr) (w : World) (hB : w.cell? ⟨B, 0, none⟩ = some (.pointer (some ⟨G, 0, none⟩))) (hG : Gs w G A c r l) (hO : ∀ W', Below w.heap.size w W' → ∀ b, O W' b → b < w.heap.size) (hOu : ∀ V V', w.heap.size ≤ V.heap.size → Below V.heap.size V V' → KeepS O V V') :
    SeqStopsK Fence.wide n Try.prog 49 #[.pointer (some ⟨B, 0, none⟩)] encV (KeepS O) (fun ys => ys = ptS c l l.length) (fun pre => ∃ k, k < l.length ∧ pre = ptS c l (k + 1)) l.length w := fun l0 J Jx W hW hJ _ hY h0 =>
  (shAll_in n O l0 B G A c r l (fun k => J (ptS c l k)) (fun k => Jx (ptS c l k)) (fun k W W' h hg => hJ _ W W' none h hg (fun r e => by cases e))
    (fun k x W hx h => by
      have := hY (ptS c l k) (((k : Int).tmod c, (k : Int).tdiv c), x) W h (by rw [ptS_length]; exact (List.getElem?_eq_some_iff.1 hx).1)
      rwa [show ptS c l k ++ [(((k : Int).tmod c, (k : Int).tdiv c), x)] = ptS c l (k + 1) by rw [ptS_succ, hx]; rfl] at this)
    W (bl_cell hW hB) (hG.up hW) (fun W' h b ho => Nat.lt_of_lt_of_le (hO W' (up_trans hW h) b ho) hW.size) (fun V V' h => hOu V V' (Nat.le_trans hW.size h)) h0).mono
    fun e W' ⟨h1, h2⟩ => ⟨h1, h2.elim (fun h => .inl ⟨_, rfl, h⟩) (fun ⟨k, hk, h⟩ => .inr ⟨_, ⟨k, hk, rfl⟩, h⟩)⟩

/-- What is yielded of number k. -/
def encI (c : Int) (l : List Ptr) (k : Ix l.length) : Array Value := encV (((k.1 : Int).tmod c, (k.1 : Int).tdiv c), l[k.1]'k.2)
/-- The same, told by numbers: the body knows that what it is handed stands there. -/
theorem shAll_stopsI (n : Nat) (O : World → Nat → Prop) (B G A : Nat) (c r : Int) (l : List Ptr) (w : World) (hB : w.cell? ⟨B, 0, none⟩ = some (.pointer (some ⟨G, 0, none⟩))) (hG : Gs w G A c r l) (hO : ∀ W', Below w.heap.size w W' → ∀ b, O W' b → b < w.heap.size) (hOu : ∀ V V', w.heap.size ≤ V.heap.size → Below V.heap.size V V' → KeepS O V V') :
    SeqStopsK Fence.wide n Try.prog 49 #[.pointer (some ⟨B, 0, none⟩)] (encI c l) (KeepS O) (fun ys => ys = ixs l.length l.length) (fun pre => ∃ k, k < l.length ∧ pre = ixs l.length (k + 1)) l.length w := fun l0 J Jx W hW hJ _ hY h0 =>
  (shAll_in n O l0 B G A c r l (fun k => J (ixs l.length k)) (fun k => Jx (ixs l.length k)) (fun k W W' h hg => hJ _ W W' none h hg (fun r e => by cases e))
    (fun k x W hx h => by
      obtain ⟨hk, rfl⟩ := List.getElem?_eq_some_iff.1 hx
      have := hY (ixs l.length k) ⟨k, hk⟩ W h (by rw [ixs_length k (by omega)]; exact hk)
      rwa [← ixs_succ hk] at this)
    W (bl_cell hW hB) (hG.up hW) (fun W' h b ho => Nat.lt_of_lt_of_le (hO W' (up_trans hW h) b ho) hW.size) (fun V V' h => hOu V V' (Nat.le_trans hW.size h)) h0).mono
    fun e W' ⟨h1, h2⟩ => ⟨h1, h2.elim (fun h => .inl ⟨_, rfl, h⟩) (fun ⟨k, hk, h⟩ => .inr ⟨_, ⟨k, hk, rfl⟩, h⟩)⟩
end Go.Proofs.Ytnofncibplgmpaa
