/- What the laws' own alive answers: true. -/
import Derived.Test.YtiekhpeekhibeaaDeckLaw
namespace Go.Proofs.Ytiekhpeekhibeaa
open Go.RowKit
set_option linter.unusedVariables false

theorem nums_new (w : World) (l : List Int) : Nums (w.alloc (.cells (enc l).toArray 3)) (some ⟨w.heap.size, 0, none⟩) l := by
  refine .inr ⟨w.heap.size, 0, rfl, fun j x hx => ?_⟩
  rw [cell_new, Nat.zero_add]
  simp [enc, hx]

set_option maxHeartbeats 1000000 in
theorem alive_any (w : World) : Calls Try.prog 7 #[] w fun e w' => e = .returned (.bool true) ∧ Below w.heap.size w w' := by
  have HO := Lib.hid (of_any 2 (nums_new w [1, 2]) (by simp))
  have b0 : Below w.heap.size w (w.alloc (.cells (enc [1, 2]).toArray 3)) := up_alloc (Below.refl _ _) _
  go_enter Try.func7, Try.ntmps7
  go_wp2_with fail
  refine HO.out.mono ?_
  rintro e w1 ⟨D, R, rfl, hD, hD1, hD2, hb⟩
  have hb1 : Below w.heap.size w w1 := up_trans b0 hb
  have s0 : (w.alloc (.cells (enc [1, 2]).toArray 3)).heap.size = w.heap.size + 1 := by simp
  rw [s0] at hD1 hD2
  have HT := Lib.hid (turn_same hD (by simp))
  have HB1 := Lib.hid hb1
  clear hD hb b0 hb1 HO s0
  go_wp2_with fail
  refine HT.out.mono ?_
  rintro e w2 ⟨rfl, R2, hD, hR2, hb⟩
  have hs := HB1.out.size
  have hb2 : Below w.heap.size w w2 := HB1.out.trans (hb.below hs (by omega) (by omega))
  have hR2' : w.heap.size ≤ R2 := by rcases hR2 with h | h | h <;> omega
  have HL := Lib.hid (list_any hD (by simp)); have HD := Lib.hid hD; have HB2 := Lib.hid hb2
  clear hD hb hR2 hb2 HB1 HT hs
  go_wp2_with fail
  refine HL.out.mono ?_
  rintro e w3 ⟨v, rfl, hrow, hb⟩
  have hb3 : Below w.heap.size w w3 := up_trans HB2.out hb
  have hD3 := HD.out.up hb
  obtain ⟨a, c, rfl, hn, _⟩ := Nums.own hrow
  obtain ⟨b', o', rfl, hc⟩ := hn.cell (by simp)
  have c0 := hc 0 2 rfl
  rw [Nat.add_zero] at c0
  have HI := Lib.hid (of_any (w := w3.alloc (.cells (enc [7]).toArray 3)) 1 (nums_new w3 [7]) (by simp))
  have b0 : Below w3.heap.size w3 (w3.alloc (.cells (enc [7]).toArray 3)) := up_alloc (Below.refl _ _) _
  have HD3 := Lib.hid hD3; have HB3 := Lib.hid hb3; have B0 := Lib.hid b0
  clear hn hc hrow hb hD3 hb3 HL HD HB2 b0
  go_wp2_with fail
  refine HI.out.mono ?_
  rintro e w4 ⟨C, RC, rfl, hC, hC1, hC2, hb⟩
  have hb4 : Below w3.heap.size w3 w4 := up_trans B0.out hb
  have hD4 := HD3.out.up hb4
  have HN := Lib.hid (into_even (p := some ⟨C, 0, none⟩) hD4 (.inr ⟨C, RC, rfl, hC⟩) (by simp) (by simp) (by simp))
  have HB4 := Lib.hid (up_trans HB3.out hb4)
  clear hC hb hb4 hD4 HI HD3 HB3 B0 c0
  go_wp2_with fail
  refine HN.out.mono ?_
  rintro e w5 ⟨rfl, R5, hD, hR5, hb⟩
  have HB5 := Lib.hid (HB4.out.trans (hb.below HB4.out.size (by omega) (by omega)))
  have hlen := len_any hD
  rw [show (ins (([1, 2] : List Int).reverse.length / 2) [7] [1, 2].reverse).length = 3 from rfl] at hlen
  have HL := Lib.hid hlen
  clear hD hb hR5 hlen HN HB4
  go_wp2_with (go_at_call 10; refine HL.out.mono ?_; rintro e w' ⟨rfl, rfl⟩)
  go_ret
  exact ⟨rfl, HB5.out⟩
end Go.Proofs.Ytiekhpeekhibeaa
