/- What deck.Turn makes of a deck: its things from the end on, each as it is, or each from the other side. -/
import Derived.Test.YtiekhpeekhibeaaDeckCode
namespace Go.Proofs.Ytiekhpeekhibeaa
open Go.RowKit
set_option linter.unusedVariables false

/-- A number, from the other side. -/
def neg64 (n : Int) : Int := wrap64 (-n)
theorem negative_any (n : Int) (w : World) : Calls Try.prog 15 #[.int .i64 n] w fun e w' => e = .returned (.int .i64 (neg64 n)) ∧ w' = w := by
  go_enter Try.func15, Try.ntmps15
  go_wp2
  go_ret
  exact ⟨by simp [neg64], rfl⟩
theorem turn_none (f : Value) (w : World) : Calls Try.prog 13 #[.pointer none, f] w fun e w' => e = .returned (.tuple #[]) ∧ w' = w := by
  go_enter Try.func13, Try.ntmps13
  go_wp2
  exact bodyPost_ret (results_none rfl _ _ _) rfl ⟨rfl, rfl⟩

theorem run_nil_neq (w : World) : (binOp .neq 32 .nilFunc .nilFunc).run Try.prog w = .ok (.bool false) w := by kernel_rfl
theorem run_func_neq (w : World) : (binOp .neq 32 (.func (.func 15) #[] #[]) .nilFunc).run Try.prog w = .ok (.bool true) w := by kernel_rfl

/-- The new list is laid into the deck. -/
theorem turned_put {w w3 : World} {D R : Nat} {l l' : List Int} {v u : Value} (h : Dk w D R l) (hb : Below w.heap.size w w3) (hD : Boxed w3 D 43 v) (hu : w3.ownsRow w.heap.size 3 1 u l'.length (enc l')) : Made w D R l' (w3.setCell ⟨D, 0, none⟩ u) := by
  obtain ⟨R', hr, hR⟩ := RowAt.of hu D
  refine h.put (But.of hb) hD u hr (fun e => ?_) ?_
  · rcases hR with ⟨_, h2⟩ | ⟨_, _, h3⟩
    · exact h2
    · exact absurd e h3
  · rcases hR with ⟨_, h2⟩ | ⟨h1, _, h3⟩
    · exact .inl h2
    · exact .inr (.inr h1)

set_option maxHeartbeats 1000000 in
theorem turn_same {w : World} {D R : Nat} {l : List Int} (h : Dk w D R l) (hl : l.length ≤ 1000000) :
    Calls Try.prog 13 #[.pointer (some ⟨D, 0, none⟩), .nilFunc] w fun e w' => e = .returned (.tuple #[]) ∧ Made w D R l.reverse w' := by
  have HL := Lib.hid (list_any h hl); have HD := Lib.hid h
  obtain ⟨v0, h1, _, _⟩ := h
  have H1 := Lib.hid h1
  clear h1
  have q := run_nil_neq
  go_enter Try.func13, Try.ntmps13
  go_wp2_with fail
  refine HL.out.mono ?_
  rintro e w1 ⟨v, rfl, hrow, hb⟩
  have HV := Lib.hid (reverse_any w.heap.size v l w1 hrow hl); have HB := Lib.hid hb
  obtain ⟨a, c, rfl, _, _⟩ := Nums.own hrow
  clear hrow hb HL
  go_wp2_with fail
  refine HV.out.mono ?_
  rintro e w2 ⟨rfl, hrow, hb⟩
  have hb2 : Below w.heap.size w w2 := HB.out.trans hb
  have hD2 : Boxed w2 D 43 v0 := (hb2.block _ H1.out.lt).trans H1.out
  have b2 := hD2.cell; have f2 := hD2.frozen
  rw [← List.length_reverse] at hrow
  have HF := Lib.hid (turned_put HD.out hb2 hD2 hrow)
  rw [List.length_reverse] at HF
  clear hrow hb hb2 hD2 HV HB
  go_wp2
  go_end0
  exact ⟨rfl, HF.out⟩

/-- The first k from the other side. -/
def part (k : Nat) (L : List Int) : List Int := (L.take k).map neg64 ++ L.drop k
theorem part_length (k : Nat) (L : List Int) : (part k L).length = L.length := by simp [part]; omega
theorem part_at {k : Nat} {L : List Int} {x : Int} (h : L[k]? = some x) : (part k L)[k]? = some x ∧ part (k + 1) L = (part k L).set k (neg64 x) := by
  obtain ⟨hk, rfl⟩ := List.getElem?_eq_some_iff.1 h
  have hl : ((L.take k).map neg64).length = k := by simp; omega
  refine ⟨?_, ?_⟩
  · unfold part
    rw [List.getElem?_append_right (by omega), hl, Nat.sub_self]
    simp [hk]
  · unfold part
    rw [List.set_append_right _ _ (by omega), hl, Nat.sub_self, List.take_succ_eq_append_getElem hk, List.map_append, List.drop_eq_getElem_cons hk]
    simp only [List.set_cons_zero, List.map_cons, List.map_nil, List.append_assoc, List.singleton_append]
theorem part_none (L : List Int) : part 0 L = L := by simp [part]
theorem part_all (L : List Int) : part L.length L = L.map neg64 := by simp [part]

/-- A number of a list of the call's own is written. -/
theorem row_set {w : World} {base g m c k : Nat} {xs : List Int} (h : w.ownsRow base 3 1 (.slice (some ⟨g, 0, none⟩) m c) m (enc xs)) (hk : k < m) (y : Int) : (w.setCell ⟨g, k, none⟩ (.int .i64 y)).ownsRow base 3 1 (.slice (some ⟨g, 0, none⟩) m c) m (enc (xs.set k y)) := by
  refine ⟨by have := h.1; simpa [enc] using this, ?_⟩
  rcases h.2 with ⟨e, _⟩ | ⟨g', cap, cur, e, hb, hg, hcap, hmax, hsz, htk⟩
  · cases e
  · cases e
    refine .inr ⟨g, c, cur.setIfInBounds k (.int .i64 y), rfl, hb, ?_, hcap, hmax, by simpa using hsz, ?_⟩
    · obtain ⟨hlt, hk2⟩ := Array.getElem?_eq_some_iff.1 hg
      show (w.heap.modify g _)[g]? = _
      rw [Array.getElem?_eq_getElem (by rw [Array.size_modify]; exact hlt), Array.getElem_modify_self, hk2]
      rfl
    · have e1 : (cur.setIfInBounds k (.int .i64 y)).toList = cur.toList.set k (.int .i64 y) := by simp
      have e2 : enc (xs.set k y) = (enc xs).set k (.int .i64 y) := by simp [enc, List.map_set]
      rw [e1, e2, ← htk, List.take_set]

def TurnRel (w : World) (a : Option Addr) (m c : Nat) (L : List Int) (i : Value) (wr : World) : Prop :=
  ∃ k : Nat, k ≤ m ∧ i = .int .i64 (k : Int) ∧ wr.ownsRow w.heap.size 3 1 (.slice a m c) m (enc (part k L)) ∧ Below w.heap.size w wr

set_option maxHeartbeats 1000000 in
theorem turn_neg {w : World} {D R : Nat} {l : List Int} (h : Dk w D R l) (hl : l.length ≤ 1000000) :
    Calls Try.prog 13 #[.pointer (some ⟨D, 0, none⟩), .func (.func 15) #[] #[]] w fun e w' => e = .returned (.tuple #[]) ∧ Made w D R (l.reverse.map neg64) w' := by
  have HL := Lib.hid (list_any h hl); have HD := Lib.hid h
  obtain ⟨v0, h1, _, _⟩ := h
  have H1 := Lib.hid h1
  clear h1
  have q := run_func_neq
  obtain ⟨L, hL⟩ : ∃ L, l.reverse = L := ⟨_, rfl⟩
  have hLl : L.length = l.length := by rw [← hL]; exact List.length_reverse
  rw [hL]
  go_enter Try.func13, Try.ntmps13
  go_wp2_with fail
  refine HL.out.mono ?_
  rintro e w1 ⟨v, rfl, hrow, hb⟩
  have HV := Lib.hid (reverse_any w.heap.size v l w1 hrow hl); have HB := Lib.hid hb
  obtain ⟨a, c, rfl, _, _⟩ := Nums.own hrow
  clear hrow hb HL
  go_wp2_with fail
  refine HV.out.mono ?_
  rintro e w2 ⟨rfl, hrow, hb⟩
  have hb2 : Below w.heap.size w w2 := HB.out.trans hb
  rw [hL] at hrow
  have HR2 := Lib.hid hrow; have HB2 := Lib.hid hb2
  clear hrow hb hb2 HV HB
  clear hL
  obtain ⟨m, hm⟩ : ∃ m, l.length = m := ⟨_, rfl⟩
  rw [hm] at hl hLl HR2 ⊢
  have HLl := Lib.hid hLl
  clear hm hLl
  go_wp2
  go_loopw [17] (fun i wr => TurnRel w a m c L i wr) (fun i _ => m - (intOf i).toNat)
  case atStart => exact ⟨0, by omega, by go_num, by rw [part_none]; exact HR2.out, HB2.out⟩
  case round =>
    obtain ⟨k, hk, rfl, hrow, hb⟩ := hrel
    by_cases hlt : k < m
    · obtain ⟨x, hx⟩ : ∃ x, L[k]? = some x := ⟨L[k]'(by rw [HLl.out]; exact hlt), List.getElem?_eq_getElem _⟩
      obtain ⟨p1, p2⟩ := part_at hx
      have hr' := hrow
      obtain ⟨g, hga⟩ : ∃ g, a = some ⟨g, 0, none⟩ := by
        rcases hrow.2 with ⟨e, h0⟩ | ⟨g, cap, cur, e, _⟩
        · omega
        · cases e; exact ⟨g, rfl⟩
      subst hga
      have hn : Nums wr (some ⟨g, 0, none⟩) (part k L) := by
        obtain ⟨a', c', e, hn, _⟩ := Nums.own (l := part k L) (by rw [part_length, HLl.out]; exact hrow)
        cases e
        exact hn
      obtain ⟨b', off', e, hc⟩ := hn.cell (by rw [part_length, HLl.out]; omega)
      cases e
      have hcx := hc k x p1
      rw [Nat.zero_add] at hcx
      have hfx : wr.frozen? ⟨g, k, none⟩ = false := by
        rcases hrow.2 with ⟨e, _⟩ | ⟨g', cap, cur, e, _, hg, _⟩
        · cases e
        · cases e; exact row_frozen hg _
      have hgb : w.heap.size ≤ g := (hrow.lt g rfl).1
      have HRr := Lib.hid hrow; have HBr := Lib.hid hb; have HP := Lib.hid p2
      have z0 : (0 : Int) ≤ (k : Int) := by omega
      have z1 : (k : Int) < (m : Int) := by omega
      clear hrow hb p1 p2 hr' hn hc hx HR2 HB2
      go_wp2_with (go_at_call 15; refine (negative_any _ _).mono ?_; rintro e w' ⟨rfl, rfl⟩)
      go_roundw
      case rel =>
        refine ⟨k + 1, by omega, by go_num, ?_, HBr.out.setCell (p := ⟨g, k, none⟩) hgb _⟩
        rw [HP.out]
        exact row_set HRr.out hlt _
      case measure => simp [intOf]; omega
    · have hk2 : m ≤ k := by omega
      obtain rfl : k = m := by omega
      have e : part k L = L.map neg64 := by rw [← HLl.out]; exact part_all L
      rw [e] at hrow
      have hD2 : Boxed wr D 43 v0 := (hb.block _ H1.out.lt).trans H1.out
      have b2 := hD2.cell; have f2 := hD2.frozen
      have hl' : (L.map neg64).length = k := by rw [List.length_map]; exact HLl.out
      have HF := Lib.hid (turned_put (l' := L.map neg64) HD.out hb hD2 (by rw [hl']; exact hrow))
      clear hrow hb hD2 HR2 HB2 e
      go_wp2
      go_end0
      exact ⟨rfl, HF.out⟩
end Go.Proofs.Ytiekhpeekhibeaa
