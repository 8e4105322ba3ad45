/- What the laws' own alive answers: true. -/
import Derived.Test.YtlbklfanphkacaaGridMirror
namespace Go.Proofs.Ytlbklfanphkacaa
open Go.RowKit
set_option linter.unusedVariables false

set_option maxHeartbeats 1000000 in
theorem alive_any (w : World) : Calls Try.prog 7 #[] w fun e w' => e = .returned (.bool true) ∧ Below w.heap.size w w' := by
  have HN := Lib.hid (new_yes 2 2 rfl rfl w)
  have HZ := Lib.hid (fun w => new_no 0 1 (.inl rfl) w)
  go_enter Try.func7, Try.ntmps7
  go_wp2_with fail
  refine HN.out.mono ?_
  rintro e w1 ⟨rfl, hg, hb⟩
  have HG := Lib.hid (set_any hg 1 0 5); have HB := Lib.hid hb
  clear hg hb HN
  go_wp2_with fail
  refine HG.out.mono ?_
  rintro e w2 ⟨rfl, hg, hgr⟩
  have hb2 := HB.out.grown hgr HB.out.size (fun k e => by cases e; exact Nat.le_refl _)
  have eL : setL 2 2 (List.replicate ((2 : Int) * 2).toNat 0) 1 0 5 = [0, 5, 0, 0] := by decide +kernel
  rw [eL] at hg
  have HA := Lib.hid (at_yes hg 1 0 5 rfl rfl)
  have HG2 := Lib.hid hg; have HB2 := Lib.hid hb2
  clear hg hgr hb2 eL HG HB
  go_wp2_with fail
  refine HA.out.mono ?_
  rintro e w3 ⟨rfl, hb⟩
  have hg3 := HG2.out.up hb
  have HM := Lib.hid (mirror_yes hg3 true); have HB3 := Lib.hid (HB2.out.trans (hb.mono HB2.out.size))
  clear hg3 hb HG2 HB2 HA
  go_wp2_with fail
  refine HM.out.mono ?_
  rintro e w4 ⟨P, PA, rfl, hg, _, _, hb⟩
  have HA := Lib.hid (at_yes hg 0 0 5 rfl (by decide +kernel)); have HB4 := Lib.hid (HB3.out.trans (hb.mono HB3.out.size))
  clear hg hb HM HB3
  go_wp2_with fail
  refine HA.out.mono ?_
  rintro e w5 ⟨rfl, hb⟩
  have HB5 := Lib.hid (HB4.out.trans (hb.mono HB4.out.size))
  clear hb HA HB4
  go_wp2_with (go_at_call 9; refine (HZ.out _).mono ?_; rintro e w' ⟨rfl, rfl⟩)
  go_ret
  exact ⟨rfl, HB5.out⟩
end Go.Proofs.Ytlbklfanphkacaa
