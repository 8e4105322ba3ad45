/- What deck.Turn makes of a deck of pieces by the closure of unfold.after: its things from the end on, each flipped. -/
import Derived.Test.YtnofncibplgmpaaPileDeck
namespace Go.Proofs.Ytnofncibplgmpaa
open Go.RowKit
set_option linter.unusedVariables false

/-- A piece that is turned over at a line that goes up and down (up), or across. -/
def flipP (up : Bool) (p : Pc) : Pc := if up = true then ⟨p.n, !p.fx, p.fy⟩ else ⟨p.n, p.fx, !p.fy⟩
theorem over_any {w : World} {U : Nat} {up : Bool} (hU : w.cell? ⟨U, 0, none⟩ = some (.bool up)) (p : Pc) :
    Calls Try.prog 35 #[p.val, .pointer (some ⟨U, 0, none⟩)] w fun e w' => e = .returned (flipP up p).val ∧ Below w.heap.size w w' := by
  obtain ⟨n, fx, fy⟩ := p
  unfold Pc.val
  dsimp only
  have x0 := bl_cell (up_alloc (up_alloc (Below.refl _ w) (.cells #[.int .i64 n, .int .i64 0, .bool fx, .bool fy] 42)) (.cells #[.int .i64 0, .int .i64 0, .bool false, .bool false] 42)) hU
  clear hU
  cases up
  all_goals
    go_enter Try.func35, Try.ntmps35
    go_wp2
    refine bodyPost_ret (v := .agg _) (by simp [results, Try.results35, go_sem, flipP]) rfl ⟨rfl, ?_⟩
    repeat (first | with_reducible exact Below.refl _ _ | apply up_alloc | refine up_set ?_ (by simp) _)

theorem pcTurn_run (U : Nat) (w : World) : (binOp .neq 73 (.func (.func 35) #[] #[.pointer (some ⟨U, 0, none⟩)]) .nilFunc).run Try.prog w = .ok (.bool true) w := by kernel_rfl

/-- The first k flipped. -/
def partP (up : Bool) (k : Nat) (L : List Pc) : List Pc := (L.take k).map (flipP up) ++ L.drop k
theorem partP_length (up : Bool) (k : Nat) (L : List Pc) : (partP up k L).length = L.length := by simp [partP]; omega
theorem partP_at {up : Bool} {k : Nat} {L : List Pc} {x : Pc} (h : L[k]? = some x) : (partP up k L)[k]? = some x ∧ partP up (k + 1) L = (partP up k L).set k (flipP up x) := by
  obtain ⟨hk, rfl⟩ := List.getElem?_eq_some_iff.1 h
  have hl : ((L.take k).map (flipP up)).length = k := by simp; omega
  refine ⟨?_, ?_⟩
  · unfold partP
    rw [List.getElem?_append_right (by omega), hl, Nat.sub_self]
    simp [hk]
  · unfold partP
    rw [List.set_append_right _ _ (by omega), hl, Nat.sub_self, List.take_succ_eq_append_getElem hk, List.map_append, List.drop_eq_getElem_cons hk]
    simp only [List.set_cons_zero, List.map_cons, List.map_nil, List.append_assoc, List.singleton_append]
theorem partP_none (up : Bool) (L : List Pc) : partP up 0 L = L := by simp [partP]
theorem partP_all (up : Bool) (L : List Pc) : partP up L.length L = L.map (flipP up) := by simp [partP]

/-- A piece of a list of the call's own is written. -/
theorem Row.stored {w : World} {base g cap : Nat} {l : List Pc} (h : Row w base g cap l) {k : Nat} (hk : k < l.length) (q : Pc) : Row (w.setCells g (k * 4) q.cells) base g cap (l.set k q) := by
  obtain ⟨cur, h2, h3, h4, h5, h6, h1⟩ := h.block
  have hlen : (pcs l).length = l.length * 4 := pcs_length l
  have hq : q.cells.length = 4 := rfl
  obtain ⟨cur1, e1, e2⟩ := heap_setCells_list g q.cells (k * 4) w cur _ h2 (by rw [hq]; omega)
  have s1 : cur1.size = cap * 4 := by
    have := congrArg List.length e2
    simp [hq] at this
    omega
  refine Row.of_block h1 e1 (by simpa using h3) h4 s1 ?_
  have lt : (cur.toList.take (k * 4)).length = k * 4 := by rw [List.length_take]; simp; omega
  have t1 : (cur.toList.take (l.length * 4)).take (k * 4) = cur.toList.take (k * 4) := by rw [List.take_take, Nat.min_eq_left (by omega)]
  have t2 : (cur.toList.take (l.length * 4)).drop (k * 4 + 4) = (cur.toList.drop (k * 4 + 4)).take (l.length * 4 - (k * 4 + 4)) := List.drop_take ..
  have t3 : (cur.toList.take (k * 4) ++ q.cells).length = k * 4 + 4 := by rw [List.length_append, lt, hq]
  rw [List.length_set, e2, pcs_set hk, ← h6, hq, t1, t2, List.take_append, t3, List.take_of_length_le (i := l.length * 4) (by rw [t3]; omega)]

def TurnRelP (up : Bool) (w : World) (base g m c : Nat) (L : List Pc) (i : Value) (wr : World) : Prop :=
  ∃ k : Nat, k ≤ m ∧ i = .int .i64 (k : Int) ∧ Row wr w.heap.size g c (partP up k L) ∧ Below w.heap.size w wr

set_option maxHeartbeats 1000000 in
theorem pcTurn_any {w : World} {base D R : Nat} {l : List Pc} (h : Dp w base D R l) (hl0 : 0 < l.length) (hl : l.length ≤ 1000000) {U : Nat} {up : Bool} (hU : w.cell? ⟨U, 0, none⟩ = some (.bool up)) :
    Calls Try.prog 38 #[.pointer (some ⟨D, 0, none⟩), .func (.func 35) #[] #[.pointer (some ⟨U, 0, none⟩)]] w fun e w' => e = .returned (.tuple #[]) ∧ MadeP base w D R (l.reverse.map (flipP up)) w' := by
  have HL := Lib.hid (pcList_any h hl0 hl); have HD := Lib.hid h
  have hbase : base ≤ w.heap.size := Nat.le_of_lt (Nat.lt_of_le_of_lt h.low h.ltD)
  obtain ⟨cap0, h1, _⟩ := h.row
  have H1 := Lib.hid h1; have HU := Lib.hid hU; have HB0 := Lib.hid hbase
  clear h1 h hU hbase
  have q := pcTurn_run U
  obtain ⟨L, hL⟩ : ∃ L, l.reverse = L := ⟨_, rfl⟩
  have hLl : L.length = l.length := by rw [← hL]; exact List.length_reverse
  rw [hL]
  go_enter Try.func38, Try.ntmps38
  go_wp2_with fail
  refine HL.out.mono ?_
  rintro e w1 ⟨g, c, rfl, hrow, hb⟩
  have HV := Lib.hid (pcReverse_any hrow hl); have HB := Lib.hid hb
  clear hrow hb HL
  go_wp2_with fail
  refine HV.out.mono ?_
  rintro e w2 ⟨rfl, hrow, hb⟩
  have hb2 : Below w.heap.size w w2 := HB.out.trans hb
  rw [hL] at hrow
  have HR2 := Lib.hid hrow; have HB2 := Lib.hid hb2
  clear hrow hb hb2 HV HB
  clear hL
  generalize hmm : l.length = m at *
  have HLl := Lib.hid hLl
  clear hmm hLl
  go_wp2
  go_loopw [17] (fun i wr => TurnRelP up w base g m c L i wr) (fun i _ => m - (intOf i).toNat)
  case atStart => exact ⟨0, by omega, by go_num, by rw [partP_none]; exact HR2.out, HB2.out⟩
  case round =>
    obtain ⟨k, hk, rfl, hrow, hb⟩ := hrel
    by_cases hlt : k < m
    · obtain ⟨x, hx⟩ : ∃ x, L[k]? = some x := ⟨L[k]'(by rw [HLl.out]; exact hlt), List.getElem?_eq_getElem _⟩
      obtain ⟨p1, p2⟩ := partP_at (up := up) hx
      obtain ⟨c0, c1, c2, c3⟩ := hrow.at.cells p1
      have HRr := Lib.hid hrow; have HBr := Lib.hid hb; have HP := Lib.hid p2; have HC := Lib.hid (hrow.at.cells p1)
      have z0 : (0 : Int) ≤ (k : Int) := by omega
      have z1 : (k : Int) < (m : Int) := by omega
      have KO := fun (w' : World) (hb' : Below wr.heap.size wr w') => over_any (w := w') (U := U) (up := up) (bl_cell hb' (bl_cell HBr.out HU.out)) x
      have hkl : k < (partP up k L).length := by rw [partP_length, HLl.out]; exact hlt
      obtain ⟨q, hq⟩ : ∃ q, flipP up x = q := ⟨_, rfl⟩
      rw [hq] at KO
      have HQ := Lib.hid hq
      obtain ⟨xn, xx, xy⟩ := x
      obtain ⟨qn, qx, qy⟩ := q
      unfold Pc.val at KO
      dsimp only at KO c0 c1 c2 c3
      have HO := Lib.hid KO
      clear hrow hb p1 p2 hx HR2 HB2 KO hq
      go_wp2_with fail
      refine (HO.out _ ?_).mono ?_
      · repeat (first | with_reducible exact Below.refl _ _ | apply up_alloc | refine up_set ?_ (by simp) _)
      rintro e w3 ⟨rfl, hb3⟩
      have hbr : Below wr.heap.size wr w3 := up_trans (by repeat (first | with_reducible exact Below.refl _ _ | apply up_alloc | refine up_set ?_ (by simp) _)) hb3
      have hr3 := HRr.out.up hbr
      have f0 := hr3.free (k * 4); have f1 := hr3.free (k * 4 + 1); have f2 := hr3.free (k * 4 + 2); have f3 := hr3.free (k * 4 + 3)
      have d0 := bl_cell hbr c0; have d1 := bl_cell hbr c1; have d2 := bl_cell hbr c2; have d3 := bl_cell hbr c3
      have H3 := Lib.hid hr3; have HB3 := Lib.hid (HBr.out.trans (hbr.mono HBr.out.size))
      clear hb3 hbr hr3 c0 c1 c2 c3
      go_wp2
      go_roundw
      case rel =>
        refine ⟨k + 1, by omega, by go_num, ?_, ?_⟩
        · rw [HP.out]
          have := H3.out.stored hkl (flipP up ⟨xn, xx, xy⟩)
          rw [HQ.out] at this ⊢
          exact this
        · have hg := H3.out.lt.1
          repeat (first | with_reducible exact HB3.out | (refine Below.setCell ?_ (by simpa using hg) _))
      case measure => simp [intOf]; omega
    · obtain rfl : k = m := by omega
      have e : partP up k L = L.map (flipP up) := by rw [← HLl.out]; exact partP_all up L
      rw [e] at hrow
      have hD2 : Boxed wr D 61 (.slice (some ⟨R, 0, none⟩) k cap0) := (hb.block _ H1.out.lt).trans H1.out
      have b2 := hD2.cell; have f2 := hD2.frozen
      have HF := Lib.hid (HD.out.put (But.of hb) hD2 (hrow.base base (Nat.le_trans HB0.out hrow.lt.1)) (.inr hrow.lt.1))
      rw [List.length_map, HLl.out] at HF
      clear hrow hb hD2 HR2 HB2 e
      go_wp2
      go_end0
      exact ⟨rfl, HF.out⟩
end Go.Proofs.Ytnofncibplgmpaa
