/- What deck's calls answer (Of, Len, List, lay, Over, Under), at pieces, for decks that have something. -/
import Derived.Test.YtnofncibplgmpaaPileLib
import Derived.Deep.RegionHeld3
import Derived.BigRegion
namespace Go.Proofs.Ytnofncibplgmpaa
open Go.RowKit
set_option linter.unusedVariables false

/-- A deck that was made just now, of l. -/
def NewP (w : World) (l : List Pc) (e : Ending) (w' : World) : Prop := ∃ D R, e = .returned (.pointer (some ⟨D, 0, none⟩)) ∧ Dp w' w.heap.size D R l ∧ Below w.heap.size w w'
theorem pcOf_any {w : World} {b : Nat} {l : List Pc} (c : Nat) (h : PcsAt w b l) (h0 : 0 < l.length) (hm : l.length ≤ 1000000) :
    Calls Try.prog 34 #[.slice (some ⟨b, 0, none⟩) l.length c] w (NewP w l) := by
  have HK := Lib.hid (pcClone_any c h h0 hm)
  clear h
  go_enter Try.func34, Try.ntmps34
  go_wp2_with fail
  refine HK.out.mono ?_
  rintro e w1 ⟨g, cap, rfl, hrow, hb⟩
  have HR := Lib.hid hrow; have HB := Lib.hid hb
  clear hrow hb HK
  go_wp2
  go_ret
  exact ⟨w1.heap.size, g, rfl, ⟨HB.out.size, cap, Boxed.new w1 _ _, HR.out.kept (Below.heap_alloc _ _ _ HR.out.lt.2)⟩, up_alloc HB.out _⟩

theorem pcLen_any {w : World} {base D R : Nat} {l : List Pc} (h : Dp w base D R l) :
    Calls Try.prog 14 #[.pointer (some ⟨D, 0, none⟩)] w fun e w' => e = .returned (.int .i64 (l.length : Int)) ∧ w' = w := by
  obtain ⟨cap, h1, h2⟩ := h.row
  have b0 := h1.cell
  clear h h1 h2
  go_enter Try.func14, Try.ntmps14
  go_wp2
  go_ret
  exact ⟨rfl, rfl⟩

/-- A list that was made just now. -/
def ListP (w : World) (l : List Pc) (e : Ending) (w' : World) : Prop := ∃ g cap, e = .returned (.slice (some ⟨g, 0, none⟩) l.length cap) ∧ Row w' w.heap.size g cap l ∧ Below w.heap.size w w'
theorem pcList_any {w : World} {base D R : Nat} {l : List Pc} (h : Dp w base D R l) (h0 : 0 < l.length) (hm : l.length ≤ 1000000) :
    Calls Try.prog 25 #[.pointer (some ⟨D, 0, none⟩)] w (ListP w l) := by
  obtain ⟨cap, h1, h2⟩ := h.row
  have b0 := h1.cell
  have HK := Lib.hid (pcClone_any cap h2.at h0 hm)
  clear h h1 h2
  go_enter Try.func25, Try.ntmps25
  go_wp2_with fail
  refine HK.out.mono ?_
  rintro e w1 ⟨g, c, rfl, hrow, hb⟩
  have HR := Lib.hid hrow; have HB := Lib.hid hb
  clear hrow hb HK
  go_wp2
  go_ret
  exact ⟨g, c, rfl, HR.out, HB.out⟩

theorem pcInsert_front {w : World} {base g cap : Nat} {l xs : List Pc} (h : Row w base g cap l) (base2 u c2 : Nat) (hu : Row w base2 u c2 xs) (hne : u ≠ g) (hl0 : 0 < l.length) (hx0 : 0 < xs.length) (hl : l.length ≤ 1000000) (hx : xs.length ≤ 1000000) :
    Calls Try.prog 58 #[.slice (some ⟨g, 0, none⟩) l.length cap, .int .i64 0, .slice (some ⟨u, 0, none⟩) xs.length c2] w (InsP base w g (xs ++ l)) := by
  by_cases hroom : l.length + xs.length ≤ cap
  · exact pcInsert_room h base2 u c2 hu hne hl0 hx0 hl hx hroom
  · exact pcInsert_grow h base2 u c2 hu hl0 hx0 hl hx (by omega)

set_option maxHeartbeats 1000000 in
/-- lay, over what Insert makes of the two lists. -/
theorem pcLay_core {w : World} {base D R D2 R2 : Nat} {l xs L : List Pc} (h : Dp w base D R l) (ho : Dp w base D2 R2 xs) (k : Int) (hx0 : 0 < xs.length) (hx : xs.length ≤ 1000000)
    (KI : ∀ w' cap u c2, Below w.heap.size w w' → Row w' base R cap l → Row w' w.heap.size u c2 xs → Calls Try.prog 58 #[.slice (some ⟨R, 0, none⟩) l.length cap, .int .i64 k, .slice (some ⟨u, 0, none⟩) xs.length c2] w' (InsP base w' R L)) :
    Calls Try.prog 55 #[.pointer (some ⟨D, 0, none⟩), .int .i64 k, .pointer (some ⟨D2, 0, none⟩)] w fun e w' => e = .returned (.tuple #[]) ∧ MadeP base w D R L w' := by
  have HD := Lib.hid h
  have hne := h.ne
  obtain ⟨cap, h1, h2⟩ := h.row
  have KL := fun (w' : World) (hb : Below w.heap.size w w') => pcList_any (ho.up hb) hx0 hx
  have HL := Lib.hid KL; have HI := Lib.hid KI; have H1 := Lib.hid h1; have H2 := Lib.hid h2
  have b0 := h1.cell
  clear KL KI h1 h2 ho h
  go_enter Try.func55, Try.ntmps55
  go_wp2
  go_region_with (first
      | (go_at_call 25; refine (HL.out _ (up_drew (Below.refl _ _))).mono ?_; rintro e w1 ⟨u, c2, rfl, hu, hb1⟩; have hB1 : Below w.heap.size w w1 := up_trans (up_drew (Below.refl _ _)) hb1; have hD1 : Boxed w1 D 61 (.slice (some ⟨R, 0, none⟩) l.length cap) := (hB1.block _ H1.out.lt).trans H1.out; have b1 := hD1.cell)
      | (go_at_call 58; refine (HI.out _ _ _ _ hB1 (H2.out.up hB1) hu).mono ?_; rintro e w2 ⟨g', cap', rfl, hr', hR', hb2⟩; have hD2 : Boxed w2 D 61 (.slice (some ⟨R, 0, none⟩) l.length cap) := (hb2.block D hD1.lt (fun e => hne e.symm) (fun e => hne e.symm)).trans hD1; have b2 := hD2.cell; have f2 := hD2.frozen))
  all_goals
    go_end0
    exact ⟨rfl, HD.out.put ((But.of hB1).trans hb2.more (.inr (.inl rfl))) hD2 hr' (hR'.elim .inl (fun h => .inr (Nat.le_trans hB1.size h)))⟩

theorem pcOver_any {w : World} {base D R D2 R2 : Nat} {l xs : List Pc} (h : Dp w base D R l) (ho : Dp w base D2 R2 xs) (hl0 : 0 < l.length) (hx0 : 0 < xs.length) (hl : l.length ≤ 1000000) (hx : xs.length ≤ 1000000) :
    Calls Try.prog 40 #[.pointer (some ⟨D, 0, none⟩), .pointer (some ⟨D2, 0, none⟩)] w fun e w' => e = .returned (.tuple #[]) ∧ MadeP base w D R (xs ++ l) w' := by
  have HK := Lib.hid (pcLay_core h ho 0 hx0 hx (fun w' cap u c2 hb hr hu => pcInsert_front hr _ u c2 hu (by have := hu.lt; have := h.ltR; omega) hl0 hx0 hl hx))
  clear h ho
  go_enter Try.func40, Try.ntmps40
  go_wp2_with fail
  refine HK.out.mono ?_
  rintro e w1 ⟨rfl, hm⟩
  have HM := Lib.hid hm
  clear hm HK
  go_wp2
  go_end0
  exact ⟨rfl, HM.out⟩
theorem pcUnder_any {w : World} {base D R D2 R2 : Nat} {l xs : List Pc} (h : Dp w base D R l) (ho : Dp w base D2 R2 xs) (hl0 : 0 < l.length) (hx0 : 0 < xs.length) (hl : l.length ≤ 1000000) (hx : xs.length ≤ 1000000) :
    Calls Try.prog 39 #[.pointer (some ⟨D, 0, none⟩), .pointer (some ⟨D2, 0, none⟩)] w fun e w' => e = .returned (.tuple #[]) ∧ MadeP base w D R (l ++ xs) w' := by
  have HK := Lib.hid (pcLay_core h ho (l.length : Int) hx0 hx (fun w' cap u c2 hb hr hu => pcInsert_end hr u c2 hu.at hl0 hx0 hl hx))
  have HN := Lib.hid (pcLen_any h)
  clear h ho
  go_enter Try.func39, Try.ntmps39
  go_wp2_with (go_at_call 14; refine HN.out.mono ?_; rintro e w' ⟨rfl, rfl⟩)
  refine HK.out.mono ?_
  rintro e w1 ⟨rfl, hm⟩
  have HM := Lib.hid hm
  clear hm HK
  go_wp2
  go_end0
  exact ⟨rfl, HM.out⟩
end Go.Proofs.Ytnofncibplgmpaa
