/- The law GridParts where a side is not small, or the part is not all there. -/
import Derived.Test.YtlbklfanphkacaaGridSetsWalk
namespace Go.Proofs.Ytlbklfanphkacaa
open Go.RowKit
set_option linter.unusedVariables false

set_option maxRecDepth 100000 in
set_option maxHeartbeats 4000000 in
theorem parts_large (c r : Int) (a : Option Addr) (n cap : Nat) (p0 p1 p2 p3 : Int) (w : World) (hs : smB c r n = false) :
    Calls Try.prog 5 #[.int .i64 c, .int .i64 r, .slice a n cap, .agg #[.int .i64 p0, .int .i64 p1, .int .i64 p2, .int .i64 p3]] w fun e w' => e = .returned (.bool true) ∧ Below w.heap.size w w' := by
  have KS := fun w => small_any c r a n cap w
  rw [hs] at KS
  have HS := Lib.hid KS
  clear hs KS
  go_enter Try.func5, Try.ntmps5
  go_wp2_with fail
  refine (alive_any _).mono ?_
  rintro e w1 ⟨rfl, hb⟩
  have HB := Lib.hid (up_trans (up_alloc (Below.refl _ _) _) hb)
  clear hb
  go_wp2_with (go_at_call 8; refine (HS.out _).mono ?_; rintro e w' ⟨rfl, rfl⟩)
  go_ret
  exact ⟨rfl, HB.out⟩

set_option maxRecDepth 100000 in
set_option maxHeartbeats 4000000 in
theorem parts_bad (c r : Int) (a : Option Addr) (cap : Nat) (l : List Pu) (p0 p1 p2 p3 : Int) (w : World) (hp : Puts w a l) (hs : smB c r l.length = true) (x2 : p2 ≤ 9223372036854775807) (x3 : p3 ≤ 9223372036854775807)
    (hbad : fitB p0 p2 c = false ∨ fitB p1 p3 r = false) :
    Calls Try.prog 5 #[.int .i64 c, .int .i64 r, .slice a l.length cap, .agg #[.int .i64 p0, .int .i64 p1, .int .i64 p2, .int .i64 p3]] w fun e w' => e = .returned (.bool true) ∧ Below w.heap.size w w' := by
  have KS := fun w => small_any c r a l.length cap w
  rw [hs] at KS
  have HS := Lib.hid KS
  simp only [smB, Bool.and_eq_true, decide_eq_true_eq] at hs
  obtain ⟨h1, h2, h3⟩ := hs
  have h1' := in_wide h1
  have h2' := in_wide h2
  have bc : 1 ≤ c ∧ c ≤ 12 := by simpa [inB] using h1
  have br : 1 ≤ r ∧ r ≤ 12 := by simpa [inB] using h2
  obtain ⟨bc1, bc2⟩ := bc
  obtain ⟨br1, br2⟩ := br
  have KL := fun (w' : World) (hb : Below w.heap.size w w') => laid_any c r a cap l w' h1' h2' (by omega) (hp.up hb)
  have HL := Lib.hid KL
  have hways : p0 < 0 ∨ (0 ≤ p0 ∧ p1 < 0) ∨ (0 ≤ p0 ∧ 0 ≤ p1 ∧ p2 < 1) ∨ (0 ≤ p0 ∧ 0 ≤ p1 ∧ 1 ≤ p2 ∧ p3 < 1) ∨ (0 ≤ p0 ∧ 0 ≤ p1 ∧ 1 ≤ p2 ∧ 1 ≤ p3 ∧ c ≤ p0) ∨ (0 ≤ p0 ∧ 0 ≤ p1 ∧ 1 ≤ p2 ∧ 1 ≤ p3 ∧ p0 < c ∧ r ≤ p1) ∨ (0 ≤ p0 ∧ 0 ≤ p1 ∧ 1 ≤ p2 ∧ 1 ≤ p3 ∧ p0 < c ∧ p1 < r ∧ c - p0 < p2) ∨ (0 ≤ p0 ∧ 0 ≤ p1 ∧ 1 ≤ p2 ∧ 1 ≤ p3 ∧ p0 < c ∧ p1 < r ∧ p2 ≤ c - p0 ∧ r - p1 < p3) := by
    have : ¬ (0 ≤ p0 ∧ 1 ≤ p2 ∧ p0 ≤ c - p2 ∧ 0 ≤ p1 ∧ 1 ≤ p3 ∧ p1 ≤ r - p3) := by
      rintro ⟨g1, g2, g3, g4, g5, g6⟩
      rcases hbad with h | h <;> simp [fitB] at h <;> omega
    omega
  have HW := Lib.hid hways; have HBad := Lib.hid hbad
  clear KL hp h1 h2 h3 h1' h2' KS hways hbad
  generalize l.length = n at *
  generalize putsL c r l = L at *
  go_enter Try.func5, Try.ntmps5
  go_wp2_with fail
  refine (alive_any _).mono ?_
  rintro e w1 ⟨rfl, hb⟩
  have hR := (Bx.new w 37 [.int .i64 p0, .int .i64 p1, .int .i64 p2, .int .i64 p3]).up hb
  have HB := Lib.hid (up_trans (up_alloc (Below.refl _ _) _) hb); have HR := Lib.hid hR
  clear hb hR
  go_wp2_with (go_at_call 8; refine (HS.out _).mono ?_; rintro e w' ⟨rfl, rfl⟩)
  refine (HL.out _ HB.out).mono ?_
  rintro e w2 ⟨G, A, rfl, hg, hlG, hlA, hb⟩
  have hR := HR.out.up hb
  have a0 := hR.cell 0 rfl; have a1 := hR.cell 1 rfl; have a2 := hR.cell 2 rfl; have a3 := hR.cell 3 rfl
  have KP := part_no (some ⟨G, 0, none⟩) c r p0 p1 p2 p3 w2 (by omega) (by omega) (by omega) (by omega) x2 x3 (fun w' h => cols_any (hg.up h)) (fun w' h => rows_any (hg.up h)) HBad.out
  have HR2 := Lib.hid hR; have HB2 := Lib.hid (up_trans HB.out hb); have HP := Lib.hid KP
  clear hR hb HR HB KP hg HL HS
  go_wp2_with fail
  refine HP.out.mono ?_
  rintro e w3 ⟨rfl, hb⟩
  have hR := HR2.out.up hb
  have HB3 := Lib.hid (up_trans HB2.out hb)
  clear a0 a1 a2 a3 hb HR2 HB2 HP
  have a0 := hR.cell 0 rfl; have a1 := hR.cell 1 rfl; have a2 := hR.cell 2 rfl; have a3 := hR.cell 3 rfl
  clear hR
  rcases HW.out with h | ⟨g1, h⟩ | ⟨g1, g2, h⟩ | ⟨g1, g2, g3, h⟩ | ⟨g1, g2, g3, g4, h⟩ | ⟨g1, g2, g3, g4, g5, h⟩ | ⟨g1, g2, g3, g4, g5, g6, h⟩ | ⟨g1, g2, g3, g4, g5, g6, g7, h⟩
  all_goals
    clear HW HBad
    go_wp2
    go_ret
    exact ⟨rfl, HB3.out⟩
end Go.Proofs.Ytlbklfanphkacaa
