/- What step.All and the document's own After answer, for every list of steps that came in. -/
import Derived.Test.YtnofncibplgmpaaStepSp
namespace Go.Proofs.Ytnofncibplgmpaa
open Go.RowKit
set_option linter.unusedVariables false

/-- Steps one behind the other. -/
def allM : Int → Int → List Sp → Int × Int × Bool
  | c, r, [] => (c, r, true)
  | c, r, p :: l => if (aft c r p.d p.n).2.2 = true then allM (aft c r p.d p.n).1 (aft c r p.d p.n).2.1 l else (0, 0, false)
def allS (c r : Int) (l : List Sp) : Int × Int × Bool := if 1 ≤ c ∧ 1 ≤ r then allM c r l else (0, 0, false)
theorem allM_yes {c r c' r' : Int} {p : Sp} {l : List Sp} (h : aft c r p.d p.n = (c', r', true)) : allM c r (p :: l) = allM c' r' l := by simp [allM, h]
theorem allM_no {c r : Int} {p : Sp} {l : List Sp} (h : aft c r p.d p.n = (0, 0, false)) : allM c r (p :: l) = (0, 0, false) := by simp [allM, h]
theorem allS_one (c r : Int) (p : Sp) : allS c r [p] = aft c r p.d p.n := by
  unfold allS
  by_cases h : (aft c r p.d p.n).2.2 = true
  · obtain ⟨⟨h0, _⟩, h1⟩ := aft_yes h
    rw [if_pos h0]
    rcases h1 with ⟨_, _, e⟩ | ⟨_, _, e⟩
    all_goals rw [allM_yes (e), allM, e]
  · have h := aft_no (by simpa using h)
    rw [allM_no h, h]
    split <;> rfl

/-- The steps that came in lie at block b, from off on. -/
def InS (w : World) (b off : Nat) (l : List Sp) : Prop := ∀ j p, l[j]? = some p → w.cell? ⟨b, off + j * 3, none⟩ = some (.int .i64 p.d) ∧ w.cell? ⟨b, off + j * 3 + 1, none⟩ = some (.int .i64 p.n) ∧ w.cell? ⟨b, off + j * 3 + 2, none⟩ = some (.bool p.u)
theorem InS.up {w w' : World} {b off : Nat} {l : List Sp} (h : InS w b off l) (hb : Below w.heap.size w w') : InS w' b off l := fun j p hp => by
  obtain ⟨c0, c1, c2⟩ := h j p hp
  exact ⟨bl_cell hb c0, bl_cell hb c1, bl_cell hb c2⟩

theorem stepAll_bad (c r : Int) (v : Value) (w : World) (h : ¬ (1 ≤ c ∧ 1 ≤ r)) :
    Calls Try.prog 30 #[.int .i64 c, .int .i64 r, v] w fun e w' => e = .returned (.tuple #[.int .i64 0, .int .i64 0, .bool false]) ∧ Below w.heap.size w w' := by
  have KT := fun w => stepThere_any c r w
  rw [show (decide (1 ≤ c) && decide (1 ≤ r)) = false by simp; omega] at KT
  have HT := Lib.hid KT
  clear KT h
  go_enter Try.func30, Try.ntmps30
  go_wp2_with fail
  refine (HT.out _).mono ?_
  rintro e w1 ⟨rfl, rfl⟩
  go_wp2
  go_ret3
  exact ⟨rfl, Below.refl _ _⟩

def AllRel (l : List Sp) (F : Int × Int × Bool) (w : World) (x y i : Value) (wr : World) : Prop :=
  ∃ (k : Nat) (c r : Int), k ≤ l.length ∧ x = .int .i64 c ∧ y = .int .i64 r ∧ i = .int .i64 (k : Int) ∧ (1 ≤ c ∧ c ≤ 9223372036854775807) ∧ (1 ≤ r ∧ r ≤ 9223372036854775807) ∧ Hid (allM c r (l.drop k) = F) ∧ Below w.heap.size w wr

theorem drop_step {l : List Sp} {k : Nat} {p : Sp} (h : l[k]? = some p) : l.drop k = p :: l.drop (k + 1) := by
  obtain ⟨hlt, rfl⟩ := List.getElem?_eq_some_iff.1 h
  exact List.drop_eq_getElem_cons hlt
theorem aft_in {c r d n c' r' : Int} (h : aft c r d n = (c', r', true)) (c1 : c ≤ 9223372036854775807) (r1 : r ≤ 9223372036854775807) : (1 ≤ c' ∧ c' ≤ 9223372036854775807) ∧ 1 ≤ r' ∧ r' ≤ 9223372036854775807 := by
  obtain ⟨⟨h0, _⟩, h1⟩ := aft_yes (c := c) (r := r) (d := d) (n := n) (by rw [h])
  rcases h1 with ⟨_, _, e⟩ | ⟨_, _, e⟩
  all_goals
    rw [h] at e
    simp only [Prod.mk.injEq] at e
    omega

set_option maxHeartbeats 1000000 in
theorem stepAll_good (a : Option Addr) (cap : Nat) (c r : Int) (l : List Sp) (w : World) (c0 : 1 ≤ c) (c1 : c ≤ 9223372036854775807) (r0 : 1 ≤ r) (r1 : r ≤ 9223372036854775807) (hm : l.length ≤ 1000000) (ha : l = [] ∨ ∃ b off, a = some ⟨b, off, none⟩ ∧ InS w b off l) :
    Calls Try.prog 30 #[.int .i64 c, .int .i64 r, .slice a l.length cap] w fun e w' => e = .returned (.tuple #[.int .i64 (allM c r l).1, .int .i64 (allM c r l).2.1, .bool (allM c r l).2.2]) ∧ Below w.heap.size w w' := by
  have KT := fun w => stepThere_any c r w
  rw [show (decide (1 ≤ c) && decide (1 ≤ r)) = true by simp [c0, r0]] at KT
  obtain ⟨F, hF⟩ : ∃ F, allM c r l = F := ⟨_, rfl⟩
  rw [hF]
  have HF := Lib.hid hF; have HT := Lib.hid KT
  clear hF KT
  have HC := Lib.hid ha; clear ha
  generalize hn : l.length = n at *
  have HN := Lib.hid hn; clear hn
  go_enter Try.func30, Try.ntmps30
  go_wp2_with fail
  refine (HT.out _).mono ?_
  rintro e w1 ⟨rfl, rfl⟩
  go_wp2
  go_loopw [0, 1, 18] (fun x y i wr => AllRel l F w1 x y i wr) (fun _ _ i _ => n - (intOf i).toNat)
  case atStart => exact ⟨0, c, r, by omega, rfl, rfl, by go_num, ⟨c0, c1⟩, ⟨r0, r1⟩, HF.out, Below.refl _ _⟩
  case round =>
    obtain ⟨k, x, y, hk, rfl, rfl, rfl, ⟨x0, x1⟩, ⟨y0, y1⟩, HM, hb⟩ := hrel
    rw [HN.out] at hk
    by_cases hlt : k < n
    · obtain ⟨p, hp⟩ : ∃ p, l[k]? = some p := ⟨l[k]'(by rw [HN.out]; exact hlt), List.getElem?_eq_getElem _⟩
      obtain ⟨b, off, rfl, hc⟩ := HC.out.resolve_left (by rintro rfl; cases hp)
      obtain ⟨d0, d1, d2⟩ := hc.up hb k p hp
      have hd := drop_step hp
      have KA := fun w => stepAfter_any x y p.d p.n p.u w x1 y1
      have z0 : (0 : Int) ≤ (k : Int) := by omega
      have z1 : (k : Int) < (n : Int) := by omega
      cases hz : (aft x y p.d p.n).2.2
      · have E := Lib.hid (show F = (0, 0, false) by rw [← HM.out, hd]; exact allM_no (aft_no hz))
        rw [aft_no hz] at KA
        obtain ⟨pd, pn, pu⟩ := p
        simp only at d0 d1 d2 KA
        have HA := Lib.hid KA; have HB := Lib.hid hb
        clear KA hb hc hp hd hz
        go_wp2_with fail
        refine (HA.out _).mono ?_
        rintro e w2 ⟨rfl, hb2⟩
        go_wp2
        go_ret3
        exact ⟨ret3 E.out, up_trans (up_alloc HB.out _) hb2⟩
      · obtain ⟨x', y', hz'⟩ : ∃ x' y', aft x y p.d p.n = (x', y', true) := ⟨(aft x y p.d p.n).1, (aft x y p.d p.n).2.1, by rw [← hz]⟩
        have hin := aft_in hz' x1 y1
        have E := Lib.hid (show allM x' y' (l.drop (k + 1)) = F by rw [← HM.out, hd]; exact (allM_yes hz').symm)
        rw [hz'] at KA
        obtain ⟨pd, pn, pu⟩ := p
        simp only at d0 d1 d2 KA
        have HA := Lib.hid KA; have HB := Lib.hid hb; have HI := Lib.hid hin
        clear KA hb hc hp hd hz hz' hin
        go_wp2_with fail
        refine (HA.out _).mono ?_
        rintro e w2 ⟨rfl, hb2⟩
        go_wp2
        go_roundw
        case rel => exact ⟨k + 1, x', y', by rw [HN.out]; omega, rfl, rfl, by go_num, HI.out.1, HI.out.2, E.out, up_trans (up_alloc HB.out _) hb2⟩
        case measure => simp [intOf]; omega
    · obtain rfl : k = n := by omega
      have E := Lib.hid (show F = (x, y, true) by rw [← HM.out, List.drop_of_length_le (by rw [HN.out]; omega), allM])
      go_wp2
      go_ret3
      exact ⟨ret3 E.out, hb⟩

theorem stepAll_any (a : Option Addr) (cap : Nat) (c r : Int) (l : List Sp) (w : World) (c1 : c ≤ 9223372036854775807) (r1 : r ≤ 9223372036854775807) (hm : l.length ≤ 1000000) (ha : l = [] ∨ ∃ b off, a = some ⟨b, off, none⟩ ∧ InS w b off l) :
    Calls Try.prog 30 #[.int .i64 c, .int .i64 r, .slice a l.length cap] w fun e w' => e = .returned (.tuple #[.int .i64 (allS c r l).1, .int .i64 (allS c r l).2.1, .bool (allS c r l).2.2]) ∧ Below w.heap.size w w' := by
  unfold allS
  by_cases h : 1 ≤ c ∧ 1 ≤ r
  · rw [if_pos h]; exact stepAll_good a cap c r l w h.1 c1 h.2 r1 hm ha
  · rw [if_neg h]; exact stepAll_bad c r _ w h

theorem refAfter_bad (c r : Int) (v : Value) (w : World) (h : ¬ (1 ≤ c ∧ 1 ≤ r)) :
    Calls Try.prog 17 #[.int .i64 c, .int .i64 r, v] w fun e w' => e = .returned (.tuple #[.int .i64 0, .int .i64 0, .bool false]) ∧ Below w.heap.size w w' := by
  by_cases h1 : c < 1
  · clear h
    go_enter Try.func17, Try.ntmps17
    go_wp2
    go_ret3
    exact ⟨rfl, Below.refl _ _⟩
  · have h2 : r < 1 := by omega
    clear h
    go_enter Try.func17, Try.ntmps17
    go_wp2
    go_ret3
    exact ⟨rfl, Below.refl _ _⟩

theorem aft_wrong {c r d n : Int} (h : rightB d n = false) : aft c r d n = (0, 0, false) := by unfold aft; rw [if_neg (by simp [h])]
theorem aft_col {c r d n : Int} (hc : 1 ≤ c) (hr : 1 ≤ r) (h : rightB d n = true) (hd : d ≤ 2) : aft c r d n = if 2 * n ≤ c then (c - n, r, true) else (0, 0, false) := by unfold aft; rw [if_pos ⟨⟨hc, hr⟩, h⟩, if_pos hd]
theorem aft_row {c r d n : Int} (hc : 1 ≤ c) (hr : 1 ≤ r) (h : rightB d n = true) (hd : ¬ d ≤ 2) : aft c r d n = if 2 * n ≤ r then (c, r - n, true) else (0, 0, false) := by unfold aft; rw [if_pos ⟨⟨hc, hr⟩, h⟩, if_neg hd]

set_option maxHeartbeats 2000000 in
set_option maxRecDepth 100000 in
theorem refAfter_good (a : Option Addr) (cap : Nat) (c r : Int) (l : List Sp) (w : World) (c0 : 1 ≤ c) (c1 : c ≤ 9223372036854775807) (r0 : 1 ≤ r) (r1 : r ≤ 9223372036854775807) (hm : l.length ≤ 1000000) (ha : l = [] ∨ ∃ b off, a = some ⟨b, off, none⟩ ∧ InS w b off l) :
    Calls Try.prog 17 #[.int .i64 c, .int .i64 r, .slice a l.length cap] w fun e w' => e = .returned (.tuple #[.int .i64 (allM c r l).1, .int .i64 (allM c r l).2.1, .bool (allM c r l).2.2]) ∧ Below w.heap.size w w' := by
  obtain ⟨F, hF⟩ : ∃ F, allM c r l = F := ⟨_, rfl⟩
  rw [hF]
  have HF := Lib.hid hF
  clear hF
  have HC := Lib.hid ha; clear ha
  generalize hn : l.length = n at *
  have HN := Lib.hid hn; clear hn
  go_enter Try.func17, Try.ntmps17
  go_wp2
  go_loopw [0, 1, 9] (fun x y i wr => AllRel l F w x y i wr) (fun _ _ i _ => n - (intOf i).toNat)
  case atStart => exact ⟨0, c, r, by omega, rfl, rfl, by go_num, ⟨c0, c1⟩, ⟨r0, r1⟩, HF.out, Below.refl _ _⟩
  case round =>
    obtain ⟨k, x, y, hk, rfl, rfl, rfl, ⟨x0, x1⟩, ⟨y0, y1⟩, HM, hb⟩ := hrel
    rw [HN.out] at hk
    by_cases hlt : k < n
    · obtain ⟨p, hp⟩ : ∃ p, l[k]? = some p := ⟨l[k]'(by rw [HN.out]; exact hlt), List.getElem?_eq_getElem _⟩
      obtain ⟨b, off, rfl, hc⟩ := HC.out.resolve_left (by rintro rfl; cases hp)
      obtain ⟨d0, d1, d2⟩ := hc.up hb k p hp
      have hd := drop_step hp
      have KA := fun w => refRight_any p.d p.n p.u w
      have z0 : (0 : Int) ≤ (k : Int) := by omega
      have z1 : (k : Int) < (n : Int) := by omega
      have HB := Lib.hid hb
      obtain ⟨pd, pn, pu⟩ := p
      simp only at d0 d1 d2 KA
      clear hb hc hp
      cases hg : rightB pd pn
      · have E := Lib.hid (show F = (0, 0, false) by rw [← HM.out, hd]; exact allM_no (aft_wrong hg))
        rw [hg] at KA
        have HA := Lib.hid KA
        clear KA hd hg
        go_wp2_with fail
        refine (HA.out _).mono ?_
        rintro e w2 ⟨rfl, hb2⟩
        go_wp2
        go_ret3
        exact ⟨ret3 E.out, up_trans HB.out hb2⟩
      · obtain ⟨⟨g0, g1⟩, g2, g3⟩ := rightB_true hg
        rw [hg] at KA
        have HA := Lib.hid KA
        clear KA
        by_cases hs : pd ≤ 2
        · have ea := aft_col x0 y0 hg hs
          by_cases hq : 2 * pn ≤ x
          · rw [if_pos hq] at ea
            have E := Lib.hid (show allM (x - pn) y (l.drop (k + 1)) = F by rw [← HM.out, hd]; exact (allM_yes ea).symm)
            clear hd hg ea
            go_wp2_with fail
            refine (HA.out _).mono ?_
            rintro e w2 ⟨rfl, hb2⟩
            have e0 := bl_cell hb2 d0; have e1 := bl_cell hb2 d1
            have B2 := Lib.hid (up_trans HB.out hb2)
            clear hb2
            go_wp2
            go_roundw
            case rel => exact ⟨k + 1, x - pn, y, by rw [HN.out]; omega, rfl, rfl, by go_num, by omega, by omega, E.out, B2.out⟩
            case measure => simp [intOf]; omega
          · rw [if_neg hq] at ea
            have E := Lib.hid (show F = (0, 0, false) by rw [← HM.out, hd]; exact allM_no ea)
            have hq' : x - pn < pn := by omega
            clear hd hg ea
            go_wp2_with fail
            refine (HA.out _).mono ?_
            rintro e w2 ⟨rfl, hb2⟩
            have e0 := bl_cell hb2 d0; have e1 := bl_cell hb2 d1
            have B2 := Lib.hid (up_trans HB.out hb2)
            clear hb2
            go_wp2
            go_ret3
            exact ⟨ret3 E.out, B2.out⟩
        · have ea := aft_row x0 y0 hg hs
          by_cases hq : 2 * pn ≤ y
          · rw [if_pos hq] at ea
            have E := Lib.hid (show allM x (y - pn) (l.drop (k + 1)) = F by rw [← HM.out, hd]; exact (allM_yes ea).symm)
            clear hd hg ea
            go_wp2_with fail
            refine (HA.out _).mono ?_
            rintro e w2 ⟨rfl, hb2⟩
            have e0 := bl_cell hb2 d0; have e1 := bl_cell hb2 d1
            have B2 := Lib.hid (up_trans HB.out hb2)
            clear hb2
            go_wp2
            go_roundw
            case rel => exact ⟨k + 1, x, y - pn, by rw [HN.out]; omega, rfl, rfl, by go_num, by omega, by omega, E.out, B2.out⟩
            case measure => simp [intOf]; omega
          · rw [if_neg hq] at ea
            have E := Lib.hid (show F = (0, 0, false) by rw [← HM.out, hd]; exact allM_no ea)
            have hq' : y - pn < pn := by omega
            clear hd hg ea
            go_wp2_with fail
            refine (HA.out _).mono ?_
            rintro e w2 ⟨rfl, hb2⟩
            have e0 := bl_cell hb2 d0; have e1 := bl_cell hb2 d1
            have B2 := Lib.hid (up_trans HB.out hb2)
            clear hb2
            go_wp2
            go_ret3
            exact ⟨ret3 E.out, B2.out⟩
    · obtain rfl : k = n := by omega
      have E := Lib.hid (show F = (x, y, true) by rw [← HM.out, List.drop_of_length_le (by rw [HN.out]; omega), allM])
      go_wp2
      go_ret3
      exact ⟨ret3 E.out, hb⟩

theorem refAfter_any (a : Option Addr) (cap : Nat) (c r : Int) (l : List Sp) (w : World) (c1 : c ≤ 9223372036854775807) (r1 : r ≤ 9223372036854775807) (hm : l.length ≤ 1000000) (ha : l = [] ∨ ∃ b off, a = some ⟨b, off, none⟩ ∧ InS w b off l) :
    Calls Try.prog 17 #[.int .i64 c, .int .i64 r, .slice a l.length cap] w fun e w' => e = .returned (.tuple #[.int .i64 (allS c r l).1, .int .i64 (allS c r l).2.1, .bool (allS c r l).2.2]) ∧ Below w.heap.size w w' := by
  unfold allS
  by_cases h : 1 ≤ c ∧ 1 ≤ r
  · rw [if_pos h]; exact refAfter_good a cap c r l w h.1 c1 h.2 r1 hm ha
  · rw [if_neg h]; exact refAfter_bad c r _ w h
end Go.Proofs.Ytnofncibplgmpaa
