/- The law BoxCorners answers true for every rectangle and every number: a rectangle's corners come in order, as long as they are wanted, and again; no condition. -/
import Derived.Test.YtgfbgmkooflhbaaBoxWalked
import Derived.Test.YtgfbgmkooflhbaaBoxAlive
import Derived.IntWalk
import Derived.Deep.AppendLies
namespace Go.Proofs.Ytgfbgmkooflhbaa
open Go.RowKit
set_option linter.unusedVariables false

theorem and3 (x : Int) : ∃ q : Nat, bits .and .i64 x 3 = (q : Int) ∧ q ≤ 3 := by
  have h : (BitVec.ofInt 64 x &&& BitVec.ofInt 64 3).toNat ≤ 3 := by
    rw [BitVec.toNat_and]
    exact Nat.and_le_right
  refine ⟨(BitVec.ofInt 64 x &&& BitVec.ofInt 64 3).toNat, ?_, h⟩
  show IntKind.i64.wrap (((BitVec.ofInt 64 x &&& BitVec.ofInt 64 3).toNat : Nat) : Int) = _
  generalize (BitVec.ofInt 64 x &&& BitVec.ofInt 64 3).toNat = z at *
  exact IntWalk.i64_in _ (by omega)

theorem flatP_at (l : List (Int × Int)) (i : Nat) (p : Int × Int) (h : l[i]? = some p) : (flatP l)[i * 2]? = some (.int .i64 p.1) ∧ (flatP l)[i * 2 + 1]? = some (.int .i64 p.2) := by
  induction l generalizing i with
  | nil => simp at h
  | cons q l ih =>
    cases i with
    | zero => simp at h; subst h; simp [flatP]
    | succ i =>
      have := ih i (by simpa using h)
      rw [show (i + 1) * 2 = i * 2 + 1 + 1 by omega]
      simpa [flatP] using this
theorem rowP_form {w : World} {base : Nat} {v : Value} {l : List (Int × Int)} (h : w.ownsRow base 42 2 v l.length (flatP l)) (hl : 0 < l.length) :
    ∃ g cap, v = .slice (some ⟨g, 0, none⟩) l.length cap ∧ ∀ i p, l[i]? = some p → w.cell? ⟨g, i * 2, none⟩ = some (.int .i64 p.1) ∧ w.cell? ⟨g, i * 2 + 1, none⟩ = some (.int .i64 p.2) := by
  obtain ⟨g, cap, hv, hb, hlt⟩ := World.ownsRow.form h hl
  subst hv
  have hc := World.ownsRow.cells h (g := g) rfl
  have ad : ∀ j, (⟨g, 0, none⟩ : Addr).add j = ⟨g, j, none⟩ := fun j => by unfold Addr.add; split <;> simp_all
  refine ⟨g, cap, rfl, fun i p hp => ?_⟩
  obtain ⟨h0, h1⟩ := flatP_at l i p hp
  have c0 := hc _ _ h0
  have c1 := hc _ _ h1
  rw [ad] at c0 c1
  exact ⟨c0, c1⟩
/-- The corners, all four, lie at block B. -/
def AtP (w : World) (B : Nat) (l : List (Int × Int)) : Prop := ∀ i p, l[i]? = some p → w.cell? ⟨B, i * 2, none⟩ = some (.int .i64 p.1) ∧ w.cell? ⟨B, i * 2 + 1, none⟩ = some (.int .i64 p.2)
theorem AtP.up {w w' : World} {B : Nat} {l : List (Int × Int)} (h : AtP w B l) (hb : Below w.heap.size w w') : AtP w' B l := fun i p hp => ⟨bl_cell hb (h i p hp).1, bl_cell hb (h i p hp).2⟩

def TimeRel (w3 : World) (t : Value) (wr : World) : Prop := ∃ k : Nat, k ≤ 2 ∧ t = .int .i64 (k : Int) ∧ ∃ u : Later w3, wr = u.now
def EachRel (M : Nat) (w3 : World) (t : Value) (wr : World) : Prop := ∃ k : Nat, k ≤ M ∧ t = .int .i64 (k : Int) ∧ ∃ u : Later w3, wr = u.now

set_option maxRecDepth 100000 in
set_option maxHeartbeats 4000000 in
theorem corners_core (a0 a1 a2 a3 many : Int) (w : World) :
    Calls Try.prog 7 #[.agg #[.int .i64 a0, .int .i64 a1, .int .i64 a2, .int .i64 a3], .int .i64 many] w fun e w' => e = .returned (.bool true) ∧ Below w.heap.size w w' := by
  obtain ⟨q, hq, hq3⟩ := and3 many
  have KW := fun w => walked_any a0 a1 a2 a3 (1 + (q : Int)) (by omega) w
  have K9 := fun w => walked_any a0 a1 a2 a3 9 (by omega) w
  rw [show (1 + (q : Int)).toNat = q + 1 by omega] at KW
  have HW := Lib.hid KW; have H9 := Lib.hid K9
  clear KW K9
  go_enter Try.func7, Try.ntmps7
  go_wp2_with (go_at_call 8; refine (alive_any _).mono ?_; rintro e w1 ⟨rfl, hb⟩; obtain ⟨A0, A1, A2, A3, hb2⟩ := one_box4 _ _ _ _ _ _ _ hb; have HU := Lib.hid hb2; clear hb hb2)
  have R : C4 w1 w.heap.size a0 a1 a2 a3 := ⟨A0, A1, A2, A3⟩
  have R := R.alloc (.cells #[.int .i64 a0, .int .i64 a1, .int .i64 a2, .int .i64 a1, .int .i64 a2, .int .i64 a3, .int .i64 a0, .int .i64 a3] 42)
  have T : AtP (w1.alloc (.cells #[.int .i64 a0, .int .i64 a1, .int .i64 a2, .int .i64 a1, .int .i64 a2, .int .i64 a3, .int .i64 a0, .int .i64 a3] 42)) w1.heap.size (corners a0 a1 a2 a3) := by
    intro i p hp
    match i, hp with
    | 0, hp => simp [corners] at hp; subst hp; simp [go_sem]
    | 1, hp => simp [corners] at hp; subst hp; simp [go_sem]
    | 2, hp => simp [corners] at hp; subst hp; simp [go_sem]
    | 3, hp => simp [corners] at hp; subst hp; simp [go_sem]
    | i + 4, hp => simp [corners] at hp
  have hup := up_alloc HU.out (.cells #[.int .i64 a0, .int .i64 a1, .int .i64 a2, .int .i64 a1, .int .i64 a2, .int .i64 a3, .int .i64 a0, .int .i64 a3] 42)
  clear A0 A1 A2 A3 HU hq
  generalize (w1.alloc (.cells #[.int .i64 a0, .int .i64 a1, .int .i64 a2, .int .i64 a1, .int .i64 a2, .int .i64 a3, .int .i64 a0, .int .i64 a3] 42)) = w3 at *
  generalize w1.heap.size = B5 at *
  have HU := Lib.hid hup; have HT := Lib.hid T
  clear hup T
  have jR0 := fun u : Later w3 => u.cell R.1; have jR1 := fun u : Later w3 => u.cell R.2.1; have jR2 := fun u : Later w3 => u.cell R.2.2.1; have jR3 := fun u : Later w3 => u.cell R.2.2.2
  clear R
  go_loopw [6] (fun t wr => TimeRel w3 t wr) (fun t _ => 2 - (intOf t).toNat)
  case atStart => exact ⟨0, by omega, by go_num, ⟨w3, Below.refl _ _⟩, rfl⟩
  case round =>
    obtain ⟨k, hk, rfl, u, rfl⟩ := hrel
    by_cases hlt : k < 2
    · go_wp2_with fail
      refine (HW.out _).mono ?_
      rintro e w4 ⟨v, rfl, hrow, hb⟩
      have hl : ((corners a0 a1 a2 a3).take (q + 1)).length = q + 1 := by simp [corners]; omega
      obtain ⟨g, cap, rfl, hc⟩ := rowP_form hrow (by omega)
      rw [hl]
      have L : AtP w4 g ((corners a0 a1 a2 a3).take (q + 1)) := hc
      have HL := Lib.hid L
      have HT4 := Lib.hid ((HT.out.up u.up).up hb)
      have HB4 := Lib.hid (up_trans u.up hb)
      clear hrow hb hc L hl
      have dq : ((q : Int) + 1 != 1 + (q : Int)) = false := by simp; omega
      go_wp2_with fail
      go_loopw [8] (fun t wr => EachRel (q + 1) w4 t wr) (fun t _ => q + 1 - (intOf t).toNat)
      case atStart => exact ⟨0, by omega, by go_num, ⟨w4, Below.refl _ _⟩, rfl⟩
      case round =>
        obtain ⟨i, hi, rfl, u5, rfl⟩ := hrel
        by_cases hil : i < q + 1
        · obtain ⟨p, hp⟩ : ∃ p, (corners a0 a1 a2 a3)[i]? = some p := ⟨(corners a0 a1 a2 a3)[i]'(by simp [corners]; omega), List.getElem?_eq_getElem _⟩
          have hp' : ((corners a0 a1 a2 a3).take (q + 1))[i]? = some p := by rw [List.getElem?_take_of_lt hil]; exact hp
          obtain ⟨c0, c1⟩ := HL.out i p hp'
          obtain ⟨d0, d1⟩ := HT4.out i p hp
          obtain ⟨px, py⟩ := p
          simp only at c0 c1 d0 d1
          have jc0 := fun u : Later w4 => u.cell c0; have jc1 := fun u : Later w4 => u.cell c1; have jd0 := fun u : Later w4 => u.cell d0; have jd1 := fun u : Later w4 => u.cell d1
          have z0 : (0 : Int) ≤ (i : Int) := by omega
          have z1 : (i : Int) < (q : Int) + 1 := by omega
          have z2 : (i : Int) < 4 := by omega
          have z3 : (i : Int) < 1 + (q : Int) := by omega
          clear hp hp' c0 c1 d0 d1
          go_wp2_with fail
          refine wp_region_later (by kernel_rfl) (by kernel_rfl) ?_
          repeat (go_big_quiet_step (fail))
          refine wpQuiet_nil ?_
          rintro _ ⟨u6, rfl⟩
          clear jc0 jc1 jd0 jd1
          go_wp2_with fail
          go_roundw
          case rel => exact ⟨i + 1, by omega, by go_num, u6, rfl⟩
          case measure => simp [intOf]; omega
        · have hi2 : q + 1 ≤ i := by omega
          have z3 : decide ((i : Int) < 1 + (q : Int)) = false := by simp; omega
          go_wp2_with fail
          go_roundw
          case rel => exact ⟨k + 1, by omega, by go_num, ⟨u5.now, up_trans HB4.out u5.up⟩, rfl⟩
          case measure => simp [intOf]; omega
    · have hk2 : 2 ≤ k := by omega
      go_wp2_with fail
      refine (H9.out _).mono ?_
      rintro e w4 ⟨v, rfl, hrow, hb⟩
      obtain ⟨g, cap, rfl, hc⟩ := rowP_form hrow (by simp [corners])
      have hl : ((corners a0 a1 a2 a3).take (9 : Int).toNat).length = 4 := by simp [corners]
      rw [hl]
      have HB4 := Lib.hid (up_trans (up_trans HU.out u.up) hb)
      clear hrow hc hb hl
      go_wp2
      go_ret
      exact ⟨rfl, HB4.out⟩

theorem walkBoxCorners (a0 a1 a2 a3 many : Int) (w : World) (x0 : (Lit.int .i64 a0).wf = true) (x1 : (Lit.int .i64 a1).wf = true) (x2 : (Lit.int .i64 a2).wf = true) (x3 : (Lit.int .i64 a3).wf = true) (x4 : (Lit.int .i64 many).wf = true) :
    Calls Try.prog 7 #[.agg #[.int .i64 a0, .int .i64 a1, .int .i64 a2, .int .i64 a3], .int .i64 many] w fun e w' => e = .returned (.bool true) ∧ Below w.heap.size w w' := corners_core a0 a1 a2 a3 many w
end Go.Proofs.Ytgfbgmkooflhbaa
