/- The law SpanTells answers true for every two spans and every number: a number is in both, or in the hull, as the spans say; no condition. -/
import Derived.Test.YtbaadohjlinlpaaSpanMath
import Derived.Deep.RegionHeld3
import Derived.Deep.DeepCutAuto
import Derived.Deep.Light
namespace Go.Proofs.Ytbaadohjlinlpaa
open Go.RowKit
set_option linter.unusedVariables false

/-- The two spans lie in blocks B and B + 1. -/
def Boxes (B : Nat) (a0 a1 b0 b1 : Int) (w' : World) : Prop := w'.cell? ⟨B, 0, none⟩ = some (.int .i64 a0) ∧ w'.cell? ⟨B, 1, none⟩ = some (.int .i64 a1) ∧ w'.cell? ⟨B + 1, 0, none⟩ = some (.int .i64 b0) ∧ w'.cell? ⟨B + 1, 1, none⟩ = some (.int .i64 b1)
theorem Boxes.up {B : Nat} {a0 a1 b0 b1 : Int} {w w' : World} (h : Boxes B a0 a1 b0 b1 w) (hb : Below w.heap.size w w') : Boxes B a0 a1 b0 b1 w' := ⟨bl_cell hb h.1, bl_cell hb h.2.1, bl_cell hb h.2.2.1, bl_cell hb h.2.2.2⟩
/-- Where what two spans have both, and their hull, lie. -/
def Both (w1 : World) (m0 m1 h0 h1 : Int) (s7 s8 : Value) (wx : World) : Prop := ∃ gm gh : Nat, s7 = .pointer (some ⟨gm, 0, none⟩) ∧ s8 = .pointer (some ⟨gh, 0, none⟩) ∧ wx.cell? ⟨gm, 0, none⟩ = some (.int .i64 m0) ∧ wx.cell? ⟨gm, 1, none⟩ = some (.int .i64 m1) ∧ wx.cell? ⟨gh, 0, none⟩ = some (.int .i64 h0) ∧ wx.cell? ⟨gh, 1, none⟩ = some (.int .i64 h1) ∧ Below w1.heap.size w1 wx
/-- The slot holds v, in a later world. -/
def LaterOf {w : World} (_ : Later w) (v s : Value) (wx : World) : Prop := s = v ∧ ∃ u : Later w, wx = u.now

theorem far2 {w : World} {p0 p1 a : Addr} {v0 v1 : Value} {r : Option Value} (h : w.cell? a = r) (n0 : p0.block ≠ a.block) (n1 : p1.block ≠ a.block) : ((w.setCell p0 v0).setCell p1 v1).cell? a = r :=
  (World.cell?_setCell_far _ _ _ _ n1).trans ((World.cell?_setCell_far _ _ _ _ n0).trans h)
theorem far2x {w : World} {p0 p1 a : Addr} {v0 v1 : Value} (h : ∃ x, w.cell? a = some x) (n0 : p0.block ≠ a.block) (n1 : p1.block ≠ a.block) : ∃ x, ((w.setCell p0 v0).setCell p1 v1).cell? a = some x :=
  h.elim fun x hx => ⟨x, far2 hx n0 n1⟩
theorem near0 {w : World} {g : Nat} {v0 v1 : Value} (h : ∃ x, w.cell? ⟨g, 0, none⟩ = some x) : ((w.setCell ⟨g, 0, none⟩ v0).setCell ⟨g, 1, none⟩ v1).cell? ⟨g, 0, none⟩ = some v0 := by
  obtain ⟨x, hx⟩ := h
  rw [World.cell?_setCell_other _ _ _ _ (by simp)]
  exact World.cell?_setCell_same _ _ _ hx
theorem near1 {w : World} {g : Nat} {v0 v1 : Value} (h : ∃ x, w.cell? ⟨g, 1, none⟩ = some x) : ((w.setCell ⟨g, 0, none⟩ v0).setCell ⟨g, 1, none⟩ v1).cell? ⟨g, 1, none⟩ = some v1 := by
  obtain ⟨x, hx⟩ := h
  have e : (w.setCell ⟨g, 0, none⟩ v0).cell? ⟨g, 1, none⟩ = some x := (World.cell?_setCell_other _ _ _ _ (by simp)).trans hx
  exact World.cell?_setCell_same _ _ _ e

set_option maxHeartbeats 8000000 in
set_option maxRecDepth 100000 in
theorem tells_core (a0 a1 b0 b1 n m0 m1 h0 h1 : Int) (A B X EA EB EM W : Bool) (w : World)
    (KM : ∀ w, Calls Try.prog 8 #[.agg #[.int .i64 a0, .int .i64 a1], .agg #[.int .i64 b0, .int .i64 b1]] w fun e w' => e = .returned (.agg #[.int .i64 m0, .int .i64 m1]) ∧ Below w.heap.size w w')
    (KH : ∀ w, Calls Try.prog 9 #[.agg #[.int .i64 a0, .int .i64 a1], .agg #[.int .i64 b0, .int .i64 b1]] w fun e w' => e = .returned (.agg #[.int .i64 h0, .int .i64 h1]) ∧ Below w.heap.size w w')
    (KhA : ∀ w, Calls Try.prog 10 #[.agg #[.int .i64 a0, .int .i64 a1], .int .i64 n] w fun e w' => e = .returned (.bool A) ∧ Below w.heap.size w w')
    (KlA : ∀ w, Calls Try.prog 11 #[.agg #[.int .i64 a0, .int .i64 a1], .int .i64 n] w fun e w' => e = .returned (.bool A) ∧ Below w.heap.size w w')
    (KlB : ∀ w, Calls Try.prog 11 #[.agg #[.int .i64 b0, .int .i64 b1], .int .i64 n] w fun e w' => e = .returned (.bool B) ∧ Below w.heap.size w w')
    (KlM : ∀ w, Calls Try.prog 11 #[.agg #[.int .i64 m0, .int .i64 m1], .int .i64 n] w fun e w' => e = .returned (.bool (A && B)) ∧ Below w.heap.size w w')
    (KlH : ∀ w, Calls Try.prog 11 #[.agg #[.int .i64 h0, .int .i64 h1], .int .i64 n] w fun e w' => e = .returned (.bool (A || B || X)) ∧ Below w.heap.size w w')
    (KeA : ∀ w, Calls Try.prog 12 #[.agg #[.int .i64 a0, .int .i64 a1]] w fun e w' => e = .returned (.bool EA) ∧ Below w.heap.size w w')
    (KleA : ∀ w, Calls Try.prog 13 #[.agg #[.int .i64 a0, .int .i64 a1]] w fun e w' => e = .returned (.bool EA) ∧ Below w.heap.size w w')
    (KleB : ∀ w, Calls Try.prog 13 #[.agg #[.int .i64 b0, .int .i64 b1]] w fun e w' => e = .returned (.bool EB) ∧ Below w.heap.size w w')
    (KleM : ∀ w, Calls Try.prog 13 #[.agg #[.int .i64 m0, .int .i64 m1]] w fun e w' => e = .returned (.bool EM) ∧ Below w.heap.size w w')
    (Kap : ∀ w, Calls Try.prog 14 #[.agg #[.int .i64 a0, .int .i64 a1], .agg #[.int .i64 b0, .int .i64 b1]] w fun e w' => e = .returned (.bool EM) ∧ Below w.heap.size w w')
    (KwA : ∀ w, Calls Try.prog 15 #[.agg #[.int .i64 a0, .int .i64 a1], .agg #[.int .i64 h0, .int .i64 h1]] w fun e w' => e = .returned (.bool true) ∧ Below w.heap.size w w')
    (KwB : ∀ w, Calls Try.prog 15 #[.agg #[.int .i64 b0, .int .i64 b1], .agg #[.int .i64 h0, .int .i64 h1]] w fun e w' => e = .returned (.bool true) ∧ Below w.heap.size w w')
    (KwC : ∀ w, Calls Try.prog 15 #[.agg #[.int .i64 a0, .int .i64 a1], .agg #[.int .i64 b0, .int .i64 b1]] w fun e w' => e = .returned (.bool W) ∧ Below w.heap.size w w')
    (f3 : EM = true → m0 = 0 ∧ m1 = 0) (f5 : EA = true → EB = true → h0 = 0 ∧ h1 = 0)
    (f6 : (EA = true → EB = true → False) → ((EA = false ∧ h0 = a0) ∨ (EB = false ∧ h0 = b0)) ∧ ((EA = false ∧ h1 = a1) ∨ (EB = false ∧ h1 = b1)))
    (f7 : W = true → A = true → B = true) (f8 : a0 = b0 → a1 = b1 → EA = EB) :
    Calls Try.prog 3 #[.agg #[.int .i64 a0, .int .i64 a1], .agg #[.int .i64 b0, .int .i64 b1], .int .i64 n] w fun e w' => e = .returned (.bool true) ∧ Below w.heap.size w w' := by
  have HM := Lib.hid KM; have HH := Lib.hid KH; have HhA := Lib.hid KhA; have HlA := Lib.hid KlA; have HlB := Lib.hid KlB; have HlM := Lib.hid KlM; have HlH := Lib.hid KlH; have HeA := Lib.hid KeA; have HleA := Lib.hid KleA; have HleB := Lib.hid KleB; have HleM := Lib.hid KleM; have Hap := Lib.hid Kap; have HwA := Lib.hid KwA; have HwB := Lib.hid KwB; have HwC := Lib.hid KwC
  clear KM KH KhA KlA KlB KlM KlH KeA KleA KleB KleM Kap KwA KwB KwC
  have F3 := Lib.hid f3; have F5 := Lib.hid f5; have F6 := Lib.hid f6; have F7 := Lib.hid f7; have F8 := Lib.hid f8
  clear f3 f5 f6 f7 f8
  go_enter Try.func3, Try.ntmps3
  go_upto_region 3 with (go_at_call 7; refine (alive_any _).mono ?_; rintro e w1 ⟨rfl, hb⟩; obtain ⟨k0, k1, k2, k3, hb2⟩ := two_boxes _ _ _ _ _ _ hb; have HB2 := Lib.hid hb2; clear hb hb2)
  go_cut [7, 8] (fun s7 s8 wx => Both w1 m0 m1 h0 h1 s7 s8 wx)
  case first =>
    as_aux_lemma =>
      have HX : Hid (Boxes w.heap.size a0 a1 b0 b1 w1) := Lib.hid ⟨k0, k1, k2, k3⟩
      go_region_held3 (fun w' => w'.cell? ⟨w.heap.size, 0, none⟩ = some (.int .i64 a0) ∧ w'.cell? ⟨w.heap.size, 1, none⟩ = some (.int .i64 a1) ∧ w'.cell? ⟨w.heap.size + 1, 0, none⟩ = some (.int .i64 b0) ∧ w'.cell? ⟨w.heap.size + 1, 1, none⟩ = some (.int .i64 b1))
        (exact HX.out.up (by repeat (first | exact Below.refl _ _ | apply up_drew | apply up_alloc | (refine up_trans ?_ hbh) | (refine up_trans ?_ hbm) | (refine up_set ?_ (by simp <;> omega) _))))
        (first
          | (go_at_call 8; ((with_reducible refine (HM.out _).mono ?_); rintro e wm ⟨rfl, hbm⟩; have hcm := kept_cells hbm; have hfm := kept_marks hbm; have zm := hbm.size; (try simp at zm); (try (have q1 : w1.heap.size < wm.heap.size := by omega)); (try (have q2 : w1.heap.size + 1 < wm.heap.size := by omega))))
          | (go_at_call 9; ((with_reducible refine (HH.out _).mono ?_); rintro e wh ⟨rfl, hbh⟩; have hch := kept_cells hbh; have hfh := kept_marks hbh; have zh := hbh.size; (try simp at zh); (try (have q3 : w1.heap.size < wh.heap.size := by omega)); (try (have q4 : w1.heap.size + 1 < wh.heap.size := by omega)); (try (have q5 : wm.heap.size < wh.heap.size := by omega)); (try (have q6 : wm.heap.size + 1 < wh.heap.size := by omega)))))
      all_goals
        go_wp2_with fail
        go_meet
        go_light
        clear HX HB2 k0 k1 k2 k3 F3 F5 F6 F7 F8 HM HH HhA HlA HlB HlM HlH HeA HleA HleB HleM Hap HwA HwB HwC
        refine ⟨_, _, rfl, rfl, ?_, ?_, ?_, ?_, by repeat (first | exact Below.refl _ _ | apply up_drew | apply up_alloc | (refine up_trans ?_ hbh) | (refine up_trans ?_ hbm) | (refine up_set ?_ (by simp <;> omega) _))⟩
        all_goals first
          | (simp [go_sem, *]; done)
          | ((with_reducible first | refine near0 ?_ | refine near1 ?_)
             first | (simp [go_sem, *]; done) | ((with_reducible refine far2x ?_ ?_ ?_) <;> first | (simp [go_sem, *]; done) | (simp; omega)))
          | ((with_reducible refine far2 ?_ ?_ ?_) <;> first
              | ((with_reducible first | refine near0 ?_ | refine near1 ?_)
                 (simp [go_sem, *]; done))
              | (simp; done)
              | (simp; omega))
  case rest =>
    obtain ⟨gm, gh, rfl, rfl, m0c, m1c, h0c, h1c, hbw⟩ := hcut
    have HBW := Lib.hid hbw
    have j0 := fun u : Later wc => u.cell (bl_cell hbw k0)
    have j1 := fun u : Later wc => u.cell (bl_cell hbw k1)
    have j2 := fun u : Later wc => u.cell (bl_cell hbw k2)
    have j3 := fun u : Later wc => u.cell (bl_cell hbw k3)
    have j4 := fun u : Later wc => u.cell m0c
    have j5 := fun u : Later wc => u.cell m1c
    have j6 := fun u : Later wc => u.cell h0c
    have j7 := fun u : Later wc => u.cell h1c
    clear hbw k0 k1 k2 k3 m0c m1c h0c h1c
    refine later_start (w := wc) ?_
    intro u
    go_upto_region 4 with fail
    go_cut [45] (fun s wx => LaterOf u (.bool false) s wx)
    case first =>
      cases A <;> cases B
      all_goals as_aux_lemma =>
        refine wp_region_later (by kernel_rfl) (by kernel_rfl) ?_
        repeat (go_big_quiet_step (first
        | (go_at_call 10; with_reducible exact Later.call (HhA.out _))
        | (go_at_call 11; with_reducible exact Later.call (HlA.out _))
        | (go_at_call 11; with_reducible exact Later.call (HlB.out _))
        | (go_at_call 11; with_reducible exact Later.call (HlM.out _))
        | (go_at_call 12; with_reducible exact Later.call (HeA.out _))
        | (go_at_call 13; with_reducible exact Later.call (HleA.out _))))
        refine wpQuiet_nil ?_
        rintro _ ⟨u2, rfl⟩
        go_wp2_with fail
        go_meet
        exact ⟨rfl, u2, rfl⟩
    case rest =>
      obtain ⟨rfl, u, rfl⟩ := hcut
      go_upto_region 6 with fail
      go_cut [76] (fun s wx => LaterOf u (.bool false) s wx)
      case first =>
        cases A <;> cases B <;> cases EM
        all_goals as_aux_lemma =>
          first
            | (obtain ⟨rfl, rfl⟩ := F3.out rfl)
            | skip
          refine wp_region_later (by kernel_rfl) (by kernel_rfl) ?_
          repeat (go_big_quiet_step (first
        | (go_at_call 11; with_reducible exact Later.call (HlA.out _))
        | (go_at_call 11; with_reducible exact Later.call (HlB.out _))
        | (go_at_call 11; with_reducible exact Later.call (HlH.out _))
        | (go_at_call 13; with_reducible exact Later.call (HleM.out _))
        | (go_at_call 14; with_reducible exact Later.call (Hap.out _))))
          refine wpQuiet_nil ?_
          rintro _ ⟨u2, rfl⟩
          go_wp2_with fail
          go_meet
          exact ⟨rfl, u2, rfl⟩
      case rest =>
        obtain ⟨rfl, u, rfl⟩ := hcut
        obtain ⟨E, hE⟩ : ∃ E, (EA && EB) = E := ⟨_, rfl⟩
        have HE := Lib.hid hE
        clear hE
        go_upto_region 8 with fail
        go_cut [82] (fun s wx => LaterOf u (.bool E) s wx)
        case first =>
          obtain rfl := HE.out
          clear HE
          cases EA <;> cases EB
          all_goals
            as_aux_lemma =>
              go_wp2_with (first
          | (go_at_call 13; ((with_reducible refine (HleA.out _).mono ?_); rintro e w' ⟨rfl, hb⟩; obtain ⟨u', rfl⟩ := Later.next hb; clear hb))
          | (go_at_call 13; ((with_reducible refine (HleB.out _).mono ?_); rintro e w' ⟨rfl, hb⟩; obtain ⟨u', rfl⟩ := Later.next hb; clear hb)))
              go_meet
              exact ⟨rfl, u', rfl⟩
        case rest =>
          obtain ⟨rfl, u, rfl⟩ := hcut
          cases E
          · have hn : EA = true → EB = true → False := fun p q => by have := HE.out; rw [p, q] at this; cases this
            have F6' := Lib.hid (F6.out hn)
            clear hn HE F6 F5 F3
            go_upto_region 10 with fail
            go_cut [9] (fun s wx => LaterOf u (.bool true) s wx)
            case first =>
              obtain ⟨p, q⟩ := F6'.out
              clear F6'
              cases EA
              · by_cases x0 : h0 = a0 <;> by_cases x1 : h1 = a1
                · subst x0 x1
                  clear p q
                  as_aux_lemma =>
                    go_wp2_with (first
          | (go_at_call 13; ((with_reducible refine (HleA.out _).mono ?_); rintro e w' ⟨rfl, hb⟩; obtain ⟨u', rfl⟩ := Later.next hb; clear hb))
          | (go_at_call 13; ((with_reducible refine (HleB.out _).mono ?_); rintro e w' ⟨rfl, hb⟩; obtain ⟨u', rfl⟩ := Later.next hb; clear hb)))
                    go_meet
                    exact ⟨rfl, u', rfl⟩
                · obtain ⟨rfl, rfl⟩ : EB = false ∧ h1 = b1 := by rcases q with ⟨_, q⟩ | q; exact absurd q x1; exact q
                  have g1 : (h1 == a1) = false := by simpa using x1
                  subst x0
                  clear p q x1
                  as_aux_lemma =>
                    go_wp2_with (first
          | (go_at_call 13; ((with_reducible refine (HleA.out _).mono ?_); rintro e w' ⟨rfl, hb⟩; obtain ⟨u', rfl⟩ := Later.next hb; clear hb))
          | (go_at_call 13; ((with_reducible refine (HleB.out _).mono ?_); rintro e w' ⟨rfl, hb⟩; obtain ⟨u', rfl⟩ := Later.next hb; clear hb)))
                    go_meet
                    exact ⟨rfl, u', rfl⟩
                · obtain ⟨rfl, rfl⟩ : EB = false ∧ h0 = b0 := by rcases p with ⟨_, q⟩ | q; exact absurd q x0; exact q
                  have g1 : (h0 == a0) = false := by simpa using x0
                  subst x1
                  clear p q x0
                  as_aux_lemma =>
                    go_wp2_with (first
          | (go_at_call 13; ((with_reducible refine (HleA.out _).mono ?_); rintro e w' ⟨rfl, hb⟩; obtain ⟨u', rfl⟩ := Later.next hb; clear hb))
          | (go_at_call 13; ((with_reducible refine (HleB.out _).mono ?_); rintro e w' ⟨rfl, hb⟩; obtain ⟨u', rfl⟩ := Later.next hb; clear hb)))
                    go_meet
                    exact ⟨rfl, u', rfl⟩
                · obtain ⟨rfl, rfl⟩ : EB = false ∧ h0 = b0 := by rcases p with ⟨_, q⟩ | q; exact absurd q x0; exact q
                  obtain rfl : h1 = b1 := by rcases q with ⟨_, q⟩ | q; exact absurd q x1; exact q.2
                  have g0 : (h0 == a0) = false := by simpa using x0
                  have g1 : (h1 == a1) = false := by simpa using x1
                  clear p q x0 x1
                  as_aux_lemma =>
                    go_wp2_with (first
          | (go_at_call 13; ((with_reducible refine (HleA.out _).mono ?_); rintro e w' ⟨rfl, hb⟩; obtain ⟨u', rfl⟩ := Later.next hb; clear hb))
          | (go_at_call 13; ((with_reducible refine (HleB.out _).mono ?_); rintro e w' ⟨rfl, hb⟩; obtain ⟨u', rfl⟩ := Later.next hb; clear hb)))
                    go_meet
                    exact ⟨rfl, u', rfl⟩
              · obtain ⟨rfl, rfl⟩ : EB = false ∧ h0 = b0 := by rcases p with ⟨p, _⟩ | p; cases p; exact p
                obtain rfl : h1 = b1 := by rcases q with ⟨q, _⟩ | q; cases q; exact q.2
                clear p q
                by_cases x0 : h0 = a0 <;> by_cases x1 : h1 = a1
                · exact absurd (F8.out x0.symm x1.symm) (by decide)
                · subst x0
                  have g1 : (h1 == a1) = false := by simpa using x1
                  clear x1
                  as_aux_lemma =>
                    go_wp2_with (first
          | (go_at_call 13; ((with_reducible refine (HleA.out _).mono ?_); rintro e w' ⟨rfl, hb⟩; obtain ⟨u', rfl⟩ := Later.next hb; clear hb))
          | (go_at_call 13; ((with_reducible refine (HleB.out _).mono ?_); rintro e w' ⟨rfl, hb⟩; obtain ⟨u', rfl⟩ := Later.next hb; clear hb)))
                    go_meet
                    exact ⟨rfl, u', rfl⟩
                · subst x1
                  have g0 : (h0 == a0) = false := by simpa using x0
                  clear x0
                  as_aux_lemma =>
                    go_wp2_with (first
          | (go_at_call 13; ((with_reducible refine (HleA.out _).mono ?_); rintro e w' ⟨rfl, hb⟩; obtain ⟨u', rfl⟩ := Later.next hb; clear hb))
          | (go_at_call 13; ((with_reducible refine (HleB.out _).mono ?_); rintro e w' ⟨rfl, hb⟩; obtain ⟨u', rfl⟩ := Later.next hb; clear hb)))
                    go_meet
                    exact ⟨rfl, u', rfl⟩
                · have g0 : (h0 == a0) = false := by simpa using x0
                  have g1 : (h1 == a1) = false := by simpa using x1
                  clear x0 x1
                  as_aux_lemma =>
                    go_wp2_with (first
          | (go_at_call 13; ((with_reducible refine (HleA.out _).mono ?_); rintro e w' ⟨rfl, hb⟩; obtain ⟨u', rfl⟩ := Later.next hb; clear hb))
          | (go_at_call 13; ((with_reducible refine (HleB.out _).mono ?_); rintro e w' ⟨rfl, hb⟩; obtain ⟨u', rfl⟩ := Later.next hb; clear hb)))
                    go_meet
                    exact ⟨rfl, u', rfl⟩
            case rest =>
              obtain ⟨rfl, u, rfl⟩ := hcut
              clear F6'
              cases W
              · clear F7
                as_aux_lemma =>
                  go_wp2_with (first
          | (go_at_call 15; ((with_reducible refine (HwA.out _).mono ?_); rintro e w' ⟨rfl, hb⟩; obtain ⟨u', rfl⟩ := Later.next hb; clear hb))
          | (go_at_call 15; ((with_reducible refine (HwB.out _).mono ?_); rintro e w' ⟨rfl, hb⟩; obtain ⟨u', rfl⟩ := Later.next hb; clear hb))
          | (go_at_call 15; ((with_reducible refine (HwC.out _).mono ?_); rintro e w' ⟨rfl, hb⟩; obtain ⟨u', rfl⟩ := Later.next hb; clear hb))
          | (go_at_call 11; ((with_reducible refine (HlA.out _).mono ?_); rintro e w' ⟨rfl, hb⟩; obtain ⟨u', rfl⟩ := Later.next hb; clear hb))
          | (go_at_call 11; ((with_reducible refine (HlB.out _).mono ?_); rintro e w' ⟨rfl, hb⟩; obtain ⟨u', rfl⟩ := Later.next hb; clear hb)))
                  go_ret
                  exact ⟨rfl, up_trans HB2.out (up_trans HBW.out u'.up)⟩
              · cases A
                · clear F7
                  as_aux_lemma =>
                    go_wp2_with (first
          | (go_at_call 15; ((with_reducible refine (HwA.out _).mono ?_); rintro e w' ⟨rfl, hb⟩; obtain ⟨u', rfl⟩ := Later.next hb; clear hb))
          | (go_at_call 15; ((with_reducible refine (HwB.out _).mono ?_); rintro e w' ⟨rfl, hb⟩; obtain ⟨u', rfl⟩ := Later.next hb; clear hb))
          | (go_at_call 15; ((with_reducible refine (HwC.out _).mono ?_); rintro e w' ⟨rfl, hb⟩; obtain ⟨u', rfl⟩ := Later.next hb; clear hb))
          | (go_at_call 11; ((with_reducible refine (HlA.out _).mono ?_); rintro e w' ⟨rfl, hb⟩; obtain ⟨u', rfl⟩ := Later.next hb; clear hb))
          | (go_at_call 11; ((with_reducible refine (HlB.out _).mono ?_); rintro e w' ⟨rfl, hb⟩; obtain ⟨u', rfl⟩ := Later.next hb; clear hb)))
                    go_ret
                    exact ⟨rfl, up_trans HB2.out (up_trans HBW.out u'.up)⟩
                · obtain rfl := F7.out rfl rfl
                  clear F7
                  as_aux_lemma =>
                    go_wp2_with (first
          | (go_at_call 15; ((with_reducible refine (HwA.out _).mono ?_); rintro e w' ⟨rfl, hb⟩; obtain ⟨u', rfl⟩ := Later.next hb; clear hb))
          | (go_at_call 15; ((with_reducible refine (HwB.out _).mono ?_); rintro e w' ⟨rfl, hb⟩; obtain ⟨u', rfl⟩ := Later.next hb; clear hb))
          | (go_at_call 15; ((with_reducible refine (HwC.out _).mono ?_); rintro e w' ⟨rfl, hb⟩; obtain ⟨u', rfl⟩ := Later.next hb; clear hb))
          | (go_at_call 11; ((with_reducible refine (HlA.out _).mono ?_); rintro e w' ⟨rfl, hb⟩; obtain ⟨u', rfl⟩ := Later.next hb; clear hb))
          | (go_at_call 11; ((with_reducible refine (HlB.out _).mono ?_); rintro e w' ⟨rfl, hb⟩; obtain ⟨u', rfl⟩ := Later.next hb; clear hb)))
                    go_ret
                    exact ⟨rfl, up_trans HB2.out (up_trans HBW.out u'.up)⟩
          · obtain ⟨rfl, rfl⟩ : EA = true ∧ EB = true := by simpa using HE.out
            obtain ⟨rfl, rfl⟩ := F5.out rfl rfl
            clear HE F5 F6 F7 F3
            go_wp2
            go_ret
            exact ⟨rfl, up_trans HB2.out (up_trans HBW.out u.up)⟩

theorem walkSpanTells (a0 a1 b0 b1 n : Int) (w : World) (x0 : (Lit.int .i64 a0).wf = true) (x1 : (Lit.int .i64 a1).wf = true) (x2 : (Lit.int .i64 b0).wf = true) (x3 : (Lit.int .i64 b1).wf = true) (x4 : (Lit.int .i64 n).wf = true) :
    Calls Try.prog 3 #[.agg #[.int .i64 a0, .int .i64 a1], .agg #[.int .i64 b0, .int .i64 b1], .int .i64 n] w fun e w' => e = .returned (.bool true) ∧ Below w.heap.size w w' := by
  have im := in_meet a0 a1 b0 b1 n
  have ih := in_hull a0 a1 b0 b1 n
  obtain ⟨wa, wb⟩ := within_hull a0 a1 b0 b1
  refine tells_core a0 a1 b0 b1 n (meetS a0 a1 b0 b1).1 (meetS a0 a1 b0 b1).2 (hullS a0 a1 b0 b1).1 (hullS a0 a1 b0 b1).2 (inS a0 a1 n) (inS b0 b1 n) (inS (hullS a0 a1 b0 b1).1 (hullS a0 a1 b0 b1).2 n) (emp a0 a1) (emp b0 b1) (emp (meetS a0 a1 b0 b1).1 (meetS a0 a1 b0 b1).2) (withinS a0 a1 b0 b1) w
    (fun w => meet_any a0 a1 b0 b1 w) (fun w => hull_any a0 a1 b0 b1 w) (fun w => has_b a0 a1 n w) (fun w => lawHas_b a0 a1 n w) (fun w => lawHas_b b0 b1 n w) (fun w => ?_) (fun w => ?_)
    (fun w => empty_b a0 a1 w) (fun w => lawEmpty_b a0 a1 w) (fun w => lawEmpty_b b0 b1 w) (fun w => lawEmpty_b _ _ w) (fun w => apart_any a0 a1 b0 b1 w) (fun w => ?_) (fun w => ?_) (fun w => within_any a0 a1 b0 b1 w)
    (meet_none a0 a1 b0 b1) (hull_none a0 a1 b0 b1) (hull_ends a0 a1 b0 b1) (within_in a0 a1 b0 b1 n) (emp_same a0 a1 b0 b1)
  · rw [← im]; exact lawHas_b _ _ n w
  · rw [← ih]; exact lawHas_b _ _ n w
  · rw [← wa]; exact within_any _ _ _ _ w
  · rw [← wb]; exact within_any _ _ _ _ w
end Go.Proofs.Ytbaadohjlinlpaa
