/- gatherumlaw12.alive answers true, where the library's variables are as the program's text lays them. -/
import Derived.Test.YtaphkplidnepaaaDoorSchemeGet
import Derived.Test.YtaphkplidnepaaaDoorSchemeRefOne
namespace Go.Proofs.YtaphkplidnepaaaDoor
open Go.RowKit DecMath
set_option linter.unusedVariables false

def s41 : Sc := ⟨2, 1, [⟨1, 1, false⟩]⟩
def s81 : Sc := ⟨2, 2, [⟨3, 1, false⟩, ⟨1, 1, false⟩]⟩
theorem get_41 : getM [[50, 120, 49], [76, 49]] = none := by
  have h : partsM s41 = [[50, 120, 49], [76, 49]] := (parts_small s41 (by decide)).trans (by decide)
  rw [← h]
  exact get_named (n := [70, 52, 45, 49]) (fun n e => by unfold partsM s41 at e; injection e with _ e; cases e) (read_parts s41 (by decide)) (by decide +kernel)
theorem find_81 : findM [70, 56, 45, 49] = some s81 := by decide +kernel
theorem name_81 : nameM s81 = some [70, 56, 45, 49] := by decide +kernel
theorem right_81 : rightM s81 = true := by decide +kernel

theorem alive_get (w : World) (hg : GoodM w) :
    Calls Tryd.prog 22 #[.slice (some ⟨w.heap.size, 0, none⟩) 2 2] (w.alloc (.cells #[.string ⟨#[50, 120, 49]⟩, .string ⟨#[76, 49]⟩] 9)) fun e w' => ∃ a c, e = .returned (.tuple #[.agg #[.int .i64 0, .int .i64 0, .slice a 0 c], .bool false]) ∧ Below w.heap.size w w' := by
  have hb := up_alloc (Below.refl _ w) (.cells #[.string ⟨#[50, 120, 49]⟩, .string ⟨#[76, 49]⟩] 9)
  obtain ⟨a, c, e, hA⟩ := (cells_texts w [[50, 120, 49], [76, 49]] (by decide)).arg
  injection e with e1 e2 e3
  have K := schGet_any a c [[50, 120, 49], [76, 49]] _ hA (by decide) (hg.below hb)
  rw [get_41, ← e1, ← e3] at K
  refine K.mono fun e w' h => ?_
  obtain ⟨a, c, h1, h2⟩ := gives_no h
  exact ⟨a, c, h1, up_trans hb h2⟩

set_option maxHeartbeats 1000000 in
theorem schAlive_any (w : World) (hg : GoodM w) : Calls Tryd.prog 7 #[] w fun e w' => e = .returned (.bool true) ∧ Below w.heap.size w w' := by
  have HG := Lib.hid hg
  have KF := fun w1 h => schFind_any [70, 56, 45, 49] w1 h
  rw [find_81] at KF
  have KN := fun a c w1 (h : InL w1 a s81.l) h2 => schName_any s81 a c w1 h h2
  have e1 : nameT s81 = ⟨#[70, 56, 45, 49]⟩ := by unfold nameT; rw [name_81]; rfl
  rw [e1, name_81] at KN
  have KP := fun a n c w1 => schPanels_any s81.c s81.r a n c w1
  rw [show panM s81.c s81.r = 4 by decide] at KP
  have KR := fun a c w1 (h : InL w1 a s81.l) => schRight_any s81 a c w1 (by decide) (by decide) (by decide) h
  rw [right_81] at KR
  have HF := Lib.hid KF; have HN := Lib.hid KN; have HP := Lib.hid KP; have HR := Lib.hid KR
  clear KF KN KP KR hg
  go_enter Tryd.func7, Tryd.ntmps7
  go_wp2_with fail
  refine (alive_get w HG.out).mono ?_
  rintro e w1 ⟨a1, c1, rfl, hb⟩
  have B1 := Lib.hid (up_alloc hb (.cells #[.int .i64 0, .int .i64 0, .slice a1 0 c1] 24))
  clear hb
  go_wp2_with fail
  refine (HF.out _ (HG.out.below B1.out)).mono ?_
  rintro e w2 ⟨a2, c2, rfl, hF, hb⟩
  have hI : InL w2 a2 s81.l := hF.inL
  have HI := Lib.hid (hI.up (up_alloc (Below.refl _ _) (.cells #[.int .i64 s81.c, .int .i64 s81.r, .slice a2 s81.l.length c2] 24)))
  have X2 := Bx.new w2 24 [.int .i64 s81.c, .int .i64 s81.r, .slice a2 s81.l.length c2]
  have B2 := Lib.hid (up_alloc (up_trans B1.out hb) (.cells #[.int .i64 s81.c, .int .i64 s81.r, .slice a2 s81.l.length c2] 24))
  clear hF hI hb
  go_wp2_with fail
  refine (HN.out _ _ _ HI.out (HG.out.below B2.out)).mono ?_
  rintro e w3 ⟨rfl, hb⟩
  have X3 := X2.up hb
  have HI3 := Lib.hid (HI.out.up hb)
  have B3 := Lib.hid (up_trans B2.out hb)
  have x0 := X3.cell 0 rfl; have x1 := X3.cell 1 rfl; have x2 := X3.cell 2 rfl
  clear hb X2
  go_wp2_with fail
  refine (HP.out _ _ _ _).mono ?_
  rintro e w4 ⟨rfl, hb⟩
  have X4 := X3.up hb
  have HI4 := Lib.hid (HI3.out.up hb)
  have B4 := Lib.hid (up_trans B3.out hb)
  clear x0 x1 x2 X3 hb
  have x0 := X4.cell 0 rfl; have x1 := X4.cell 1 rfl; have x2 := X4.cell 2 rfl
  clear X4
  go_wp2_with fail
  refine (HR.out _ _ _ HI4.out).mono ?_
  rintro e w5 ⟨rfl, hb⟩
  have B5 := Lib.hid (up_trans B4.out hb)
  clear hb x0 x1 x2
  go_wp2
  go_ret
  exact ⟨rfl, B5.out⟩
end Go.Proofs.YtaphkplidnepaaaDoor
