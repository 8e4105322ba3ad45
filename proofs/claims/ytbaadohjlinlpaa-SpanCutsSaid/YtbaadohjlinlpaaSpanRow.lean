/- What span.appendFilled and span.Minus answer, whatever the spans are: a new list of spans, written out; and that the chapter's example holds. -/
import Derived.Test.YtbaadohjlinlpaaSpanCode
import Derived.Deep.AppendLies
import Derived.OwnWalk
import Derived.Laws.OwnMore
namespace Go.Proofs.Ytbaadohjlinlpaa
open Go.RowKit
set_option linter.unusedVariables false

theorem Try.infoSpan : (Try.prog.info? 23).map (fun i => (i.zero, i.size, i.bytes)) = some (some (.agg #[.int .i64 0, .int .i64 0]), 2, 16) := by kernel_rfl

theorem heap_new2 (w : World) (o1 o2 o3 : Obj) : (((w.alloc o1).alloc o2).alloc o3).heap[w.heap.size + 1 + 1]? = some o3 := by
  have h := heap_alloc_new ((w.alloc o1).alloc o2) o3
  have e : ((w.alloc o1).alloc o2).heap.size = w.heap.size + 1 + 1 := by simp
  rw [e] at h
  exact h
/-- The cells of a list of spans. -/
def flat : List (Int × Int) → List Value
  | [] => []
  | p :: l => .int .i64 p.1 :: .int .i64 p.2 :: flat l
theorem flat_snoc (l : List (Int × Int)) (p : Int × Int) : flat (l ++ [p]) = flat l ++ [.int .i64 p.1, .int .i64 p.2] := by
  induction l with
  | nil => rfl
  | cons q l ih => simp [flat, ih]
theorem flat_length (l : List (Int × Int)) : (flat l).length = l.length * 2 := by
  induction l with
  | nil => rfl
  | cons q l ih => simp [flat, ih]; omega
theorem flat_lo (l : List (Int × Int)) (i : Nat) (p : Int × Int) (h : l[i]? = some p) : (flat l)[i * 2]? = some (.int .i64 p.1) ∧ (flat l)[i * 2 + 1]? = some (.int .i64 p.2) := by
  induction l generalizing i with
  | nil => simp at h
  | cons q l ih =>
    cases i with
    | zero => simp at h; subst h; simp [flat]
    | succ i =>
      have := ih i (by simpa using h)
      rw [show (i + 1) * 2 = i * 2 + 1 + 1 by omega]
      simpa [flat] using this

/-- v is a slice of the call's own (from block base on) that holds the spans l. -/
def rowS (w : World) (base : Nat) (v : Value) (l : List (Int × Int)) : Prop := w.ownsRow base 23 2 v l.length (flat l)
theorem rowS_nil (w : World) (base : Nat) : rowS w base (.slice none 0 0) [] := World.ownsRow_nil _ _ _ _
theorem rowS_len {w : World} {base : Nat} {v : Value} {l : List (Int × Int)} (h : rowS w base v l) : ∃ a c, v = .slice a l.length c := by
  rcases h.2 with ⟨rfl, h0⟩ | ⟨g, cap, cur, rfl, _⟩
  · exact ⟨none, 0, by rw [h0]⟩
  · exact ⟨_, _, rfl⟩

/-- The list, with the span behind it, if that has a number. -/
def addS (l : List (Int × Int)) (lo hi : Int) : List (Int × Int) := if emp lo hi = true then l else l ++ [(lo, hi)]
/-- What a call answers that makes a list of spans. -/
def Filled (base : Nat) (l : List (Int × Int)) (w : World) (e : Ending) (w' : World) : Prop := ∃ v', e = .returned v' ∧ rowS w' base v' l ∧ Below base w w'

theorem ret_val {v v' : Value} (h : v = v') : Ending.returned v = .returned v' := by rw [h]
set_option maxHeartbeats 400000 in
theorem fill_any (base : Nat) (v : Value) (l : List (Int × Int)) (lo hi : Int) (w : World) (hown : rowS w base v l) (hbase : base ≤ w.heap.size) (hn : l.length ≤ 1000000) :
    Calls Try.prog 21 #[v, .agg #[.int .i64 lo, .int .i64 hi]] w (Filled base (addS l lo hi) w) := by
  have K := fun w => empty_any lo hi w
  have HO := Lib.hid hown
  clear hown
  cases h : emp lo hi
  · have E := Lib.hid (show addS l lo hi = l ++ [(lo, hi)] by simp [addS, h])
    rw [h] at K
    have HK := Lib.hid K
    clear K h
    obtain ⟨i0, hi0, hz0, hz1, hz2⟩ := info_parts Try.infoSpan
    go_enter Try.func21, Try.ntmps21
    go_wp2_with (first
      | (go_at_call 12; refine (HK.out _).mono ?_; rintro e w' ⟨rfl, rfl⟩)
      | (at_builtin; refine wpList_append_lies _ rfl _ _ 31 rfl base 23 i0 _ 2 16 Try.underlying31 hi0 hz0 hz1 hz2 rfl (by omega) v l.length (flat l) rfl (((HO.out.alloc _).alloc _).alloc _)
          ⟨w.heap.size + 1 + 1, 0, none⟩ 1 1 [.int .i64 lo, .int .i64 hi] rfl rfl ?c1 ?c2 (by omega) (by unfold maxLen; omega) (by omega) (by simp; omega) _ rfl ?_))
    case c1 => exact World.news_of_block (cs := #[.int .i64 lo, .int .i64 hi]) (t := 23) (fr := (0, 0)) (heap_new2 w _ _ _)
    case c2 => intro u hu; simp at hu; rcases hu with rfl | rfl <;> rfl
    intro g cap w1 hown hgrow hat hlt
    have HO1 := Lib.hid hown
    have HG := Lib.hid hgrow
    clear hown hgrow hat
    go_wp2
    go_ret
    refine ⟨_, rfl, ?_, ?_⟩
    · rw [E.out]
      unfold rowS
      rw [flat_snoc, List.length_append]
      exact HO1.out
    · refine Below.grown ?_ HG.out (by simp; omega) (fun k hk => (HO.out.lt k hk).1)
      refine ((((Below.refl _ _).alloc hbase _).alloc (by simp; omega) _).alloc (by simp; omega) _)
  · have E := Lib.hid (show addS l lo hi = l by simp [addS, h])
    rw [h] at K
    have HK := Lib.hid K
    clear K h
    go_enter Try.func21, Try.ntmps21
    go_wp2_with (go_at_call 12; refine (HK.out _).mono ?_; rintro e w' ⟨rfl, rfl⟩)
    go_ret
    refine ⟨v, rfl, ?_, ?_⟩
    · rw [E.out]
      exact (HO.out.alloc _).alloc _
    · exact ((Below.refl _ _).alloc hbase _).alloc (by simp; omega) _

/-- The numbers of a that are none of b. -/
def minusS (a0 a1 b0 b1 : Int) : List (Int × Int) := if emp (meetS a0 a1 b0 b1).1 (meetS a0 a1 b0 b1).2 = true then addS [] a0 a1 else addS (addS [] a0 b0) b1 a1
theorem addS_le (l : List (Int × Int)) (lo hi : Int) : (addS l lo hi).length ≤ l.length + 1 := by unfold addS; split <;> simp

set_option maxHeartbeats 1000000 in
theorem minus_any (a0 a1 b0 b1 : Int) (w : World) :
    Calls Try.prog 18 #[.agg #[.int .i64 a0, .int .i64 a1], .agg #[.int .i64 b0, .int .i64 b1]] w (Filled w.heap.size (minusS a0 a1 b0 b1) w) := by
  have K := fun w => apart_any a0 a1 b0 b1 w
  cases h : emp (meetS a0 a1 b0 b1).1 (meetS a0 a1 b0 b1).2
  · have E := Lib.hid (show minusS a0 a1 b0 b1 = addS (addS [] a0 b0) b1 a1 by simp [minusS, h])
    have l1 := addS_le [] a0 b0
    simp at l1
    have L1 := Lib.hid l1
    rw [h] at K
    have HK := Lib.hid K
    clear K h l1
    have i0 : ∀ w : World, (Instr.index 39 (.agg #[.int .i64 a0, .int .i64 b0, .int .i64 b1, .int .i64 a1]) (.int .i64 0)).run Try.prog w = .ok (.agg #[.int .i64 a0, .int .i64 b0]) w := fun _ => by kernel_rfl
    have i1 : ∀ w : World, (Instr.index 39 (.agg #[.int .i64 a0, .int .i64 b0, .int .i64 b1, .int .i64 a1]) (.int .i64 1)).run Try.prog w = .ok (.agg #[.int .i64 b1, .int .i64 a1]) w := fun _ => by kernel_rfl
    go_enter Try.func18, Try.ntmps18
    go_wp2_with (go_at_call 14; refine (HK.out _).mono ?_; rintro e w1 ⟨rfl, hb⟩; have hc := kept_cells hb; have hf := kept_marks hb; have HB := Lib.hid hb; clear hb)
    have z := HB.out.size
    simp at z
    refine wp_loop_rounds 3 ?_
    rw [rounds_succ]
    go_wp2_with fail
    refine Calls.mono (fill_any w.heap.size _ [] a0 b0 _ (rowS_nil _ _) ?h1 (by simp)) ?_
    case h1 => simp; omega
    rintro e w2 ⟨v, rfl, hr, hb2⟩
    have HR := Lib.hid hr
    have HB2 := Lib.hid hb2
    clear hr hb2
    have z2 := HB2.out.size
    simp at z2
    go_wp2_with fail
    rw [rounds_succ]
    go_wp2_with fail
    refine Calls.mono (fill_any w.heap.size _ (addS [] a0 b0) b1 a1 _ (HR.out.alloc _) ?h2 (by have := L1.out; omega)) ?_
    case h2 => simp; omega
    rintro e w3 ⟨v3, rfl, hr3, hb3⟩
    have HR3 := Lib.hid hr3
    have HB3 := Lib.hid hb3
    clear hr3 hb3
    go_wp2_with fail
    rw [rounds_succ]
    go_wp2
    go_ret
    refine ⟨v3, rfl, ?_, ?_⟩
    · rw [E.out]; exact HR3.out
    · refine Below.trans (Below.alloc (Below.trans (up_alloc (up_alloc (up_trans (up_alloc (up_alloc (Below.refl _ _) _) _) HB.out) _) _) HB2.out) (by omega) _) HB3.out
  · have E := Lib.hid (show minusS a0 a1 b0 b1 = addS [] a0 a1 by simp [minusS, h])
    rw [h] at K
    have HK := Lib.hid K
    clear K h
    go_enter Try.func18, Try.ntmps18
    go_wp2_with fail
    refine (HK.out _).mono ?_
    rintro e w1 ⟨rfl, hb⟩
    have hc := kept_cells hb; have hf := kept_marks hb
    have HB := Lib.hid hb
    clear hb
    go_wp2_with fail
    have z := HB.out.size
    simp at z
    refine (fill_any w.heap.size _ [] a0 a1 _ (rowS_nil _ _) (by omega) (by simp)).mono ?_
    rintro e w2 ⟨v, rfl, hr, hb2⟩
    have HR := Lib.hid hr
    have HB2 := Lib.hid hb2
    clear hr hb2
    go_wp2
    go_ret
    refine ⟨v, rfl, ?_, ?_⟩
    · rw [E.out]; exact HR.out
    · refine Below.trans ?_ HB2.out
      exact (up_trans (up_alloc (up_alloc (Below.refl _ _) _) _) HB.out)

theorem rowS_form {w : World} {base : Nat} {v : Value} {l : List (Int × Int)} (h : rowS w base v l) (hl : 0 < l.length) :
    ∃ g cap, v = .slice (some ⟨g, 0, none⟩) l.length cap ∧ base ≤ g ∧ g < w.heap.size ∧ ∀ i p, l[i]? = some p → w.cell? ⟨g, i * 2, none⟩ = some (.int .i64 p.1) ∧ w.cell? ⟨g, i * 2 + 1, none⟩ = some (.int .i64 p.2) := by
  obtain ⟨g, cap, hv, hb, hlt⟩ := World.ownsRow.form h hl
  subst hv
  have hc := World.ownsRow.cells h (g := g) rfl
  have ad : ∀ j, (⟨g, 0, none⟩ : Addr).add j = ⟨g, j, none⟩ := fun j => by unfold Addr.add; split <;> simp_all
  refine ⟨g, cap, rfl, hb, hlt, fun i p hp => ?_⟩
  obtain ⟨h0, h1⟩ := flat_lo l i p hp
  have c0 := hc _ _ h0
  have c1 := hc _ _ h1
  rw [ad] at c0 c1
  exact ⟨c0, c1⟩

set_option maxHeartbeats 400000 in
theorem alive_any (w : World) : Calls Try.prog 7 #[] w fun e w' => e = .returned (.bool true) ∧ Below w.heap.size w w' := by
  have K := minus_any 0 5 2 3 w
  rw [show minusS 0 5 2 3 = [(0, 2), (3, 5)] by decide] at K
  have HK := Lib.hid K
  clear K
  go_enter Try.func7, Try.ntmps7
  go_wp2_with fail
  refine HK.out.mono ?_
  rintro e w1 ⟨v, rfl, hr, hb⟩
  obtain ⟨g, cap, rfl, hg, hlt, hc⟩ := rowS_form hr (by simp)
  obtain ⟨c0, c1⟩ := hc 0 _ rfl
  obtain ⟨c2, c3⟩ := hc 1 _ rfl
  simp at c0 c1 c2 c3
  have HB := Lib.hid hb
  clear hb hr hc
  go_wp2_with (go_at_call 10; refine (has_any _ _ _ _).mono ?_; rintro e w' ⟨rfl, rfl⟩)
  go_ret
  exact ⟨rfl, up_alloc HB.out _⟩
end Go.Proofs.Ytbaadohjlinlpaa
