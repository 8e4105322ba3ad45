/- What slices.Equal at steps, scheme.Same and the document's own Same answer: for all schemes. -/
import Derived.Test.YtaphkplidnepaaaDoorSchemeCode
namespace Go.Proofs.YtaphkplidnepaaaDoor
open Go.RowKit
set_option linter.unusedVariables false

theorem run_neP (p q : Sp) (w : World) : (binOp .neq 48 (.agg #[.int .i64 p.d, .int .i64 p.n, .bool p.u]) (.agg #[.int .i64 q.d, .int .i64 q.n, .bool q.u])).run Tryd.prog w = .ok (.bool (!decide (p = q))) w := by
  obtain ⟨a, b, c⟩ := p
  obtain ⟨a', b', c'⟩ := q
  by_cases h0 : a = a' <;> by_cases h1 : b = b' <;> by_cases h2 : c = c'
  all_goals simp [go_sem, h0, h1, h2]

def EqRel (l1 l2 : List Sp) (F : Bool) (n : Nat) (w : World) (i : Value) (wr : World) : Prop :=
  ∃ k : Nat, k ≤ n ∧ i = .int .i64 (k : Int) ∧ Hid (decide (l1.drop k = l2.drop k) = F) ∧ ∃ u : Later w, wr = u.now
theorem eq_step {l1 l2 : List Sp} {k : Nat} {p q : Sp} (h1 : l1[k]? = some p) (h2 : l2[k]? = some q) : decide (l1.drop k = l2.drop k) = (decide (p = q) && decide (l1.drop (k + 1) = l2.drop (k + 1))) := by
  rw [drop_step h1, drop_step h2, Bool.eq_iff_iff]
  simp

set_option maxHeartbeats 1000000 in
theorem stepsEqual_lens (a b : Option Addr) (n m c d : Nat) (w : World) (h : n ≠ m) :
    Calls Tryd.prog 30 #[.slice a n c, .slice b m d] w fun e w' => e = .returned (.bool false) ∧ Below w.heap.size w w' := by
  have z1 : ((n : Int) != (m : Int)) = true := by simp; omega
  clear h
  go_enter Tryd.func30, Tryd.ntmps30
  go_wp2
  go_ret
  exact ⟨rfl, Below.refl _ _⟩

set_option maxHeartbeats 1000000 in
theorem stepsEqual_same (a b : Option Addr) (l1 l2 : List Sp) (n c d : Nat) (w : World) (hl : n ≤ 1000000) (hn1 : l1.length = n) (hn2 : l2.length = n) (h1 : InL w a l1) (h2 : InL w b l2) :
    Calls Tryd.prog 30 #[.slice a n c, .slice b n d] w fun e w' => e = .returned (.bool (decide (l1 = l2))) ∧ Below w.heap.size w w' := by
  obtain ⟨F, hF⟩ : ∃ F, decide (l1 = l2) = F := ⟨_, rfl⟩
  rw [hF]
  have HF := Lib.hid hF; have H1 := Lib.hid h1; have H2 := Lib.hid h2; have N1 := Lib.hid hn1; have N2 := Lib.hid hn2
  clear hF h1 h2 hn1 hn2
  go_enter Tryd.func30, Tryd.ntmps30
  go_wp2
  go_loopw [13] (fun i wr => EqRel l1 l2 F n w i wr) (fun i _ => n - (intOf i).toNat)
  case atStart => exact ⟨0, by omega, by go_num, HF.out, ⟨w, Below.refl _ _⟩, rfl⟩
  case round =>
    obtain ⟨k, hk, rfl, HM, u, rfl⟩ := hrel
    by_cases hlt : k < n
    · obtain ⟨p, hp⟩ : ∃ p, l1[k]? = some p := ⟨l1[k]'(by rw [N1.out]; exact hlt), List.getElem?_eq_getElem _⟩
      obtain ⟨q, hq⟩ : ∃ q, l2[k]? = some q := ⟨l2[k]'(by rw [N2.out]; exact hlt), List.getElem?_eq_getElem _⟩
      obtain ⟨b1, o1, rfl, hc1⟩ := H1.out.resolve_left (by rintro rfl; cases hp)
      obtain ⟨b2, o2, rfl, hc2⟩ := H2.out.resolve_left (by rintro rfl; cases hq)
      obtain ⟨p0, p1, p2⟩ := hc1 k p hp
      obtain ⟨q0, q1, q2⟩ := hc2 k q hq
      have j0 := fun u : Later w => u.cell p0
      have j1 := fun u : Later w => u.cell p1
      have j2 := fun u : Later w => u.cell p2
      have i0 := fun u : Later w => u.cell q0
      have i1 := fun u : Later w => u.cell q1
      have i2 := fun u : Later w => u.cell q2
      have hd := eq_step hp hq
      have hne := fun w => run_neP p q w
      have z0 : (0 : Int) ≤ (k : Int) := by omega
      have z1 : (k : Int) < (n : Int) := by omega
      have HH := Lib.hid HM.out
      rw [hd] at HH
      clear hc1 hc2 p0 p1 p2 q0 q1 q2 hp hq hd HM
      generalize decide (p = q) = e at *
      obtain ⟨pd, pn, pu⟩ := p
      obtain ⟨qd, qn, qu⟩ := q
      simp only at j0 j1 j2 i0 i1 i2 hne
      cases e
      · have E := Lib.hid (show F = false by rw [← HH.out]; rfl)
        clear HH
        simp only [Bool.not_false] at hne
        go_wp2
        refine wp_region_later (by kernel_rfl) (by kernel_rfl) ?_
        repeat (go_big_quiet_step (fail))
        refine wpQuiet_nil ?_
        rintro _ ⟨u2, rfl⟩
        clear j0 j1 j2 i0 i1 i2 hne
        go_wp2
        go_ret
        exact ⟨by rw [E.out]; rfl, u2.up⟩
      · have E := Lib.hid (show decide (l1.drop (k + 1) = l2.drop (k + 1)) = F by rw [← HH.out]; simp)
        clear HH
        simp only [Bool.not_true] at hne
        go_wp2
        refine wp_region_later (by kernel_rfl) (by kernel_rfl) ?_
        repeat (go_big_quiet_step (fail))
        refine wpQuiet_nil ?_
        rintro _ ⟨u2, rfl⟩
        clear j0 j1 j2 i0 i1 i2 hne
        go_wp2
        go_roundw
        case rel => exact ⟨k + 1, by omega, by go_num, E, u2, rfl⟩
        case measure => simp [intOf]; omega
    · obtain rfl : k = n := by omega
      have E := Lib.hid (show F = true by rw [← HM.out, List.drop_of_length_le (by rw [N1.out]; omega), List.drop_of_length_le (by rw [N2.out]; omega)]; simp)
      clear HM
      go_wp2
      go_ret
      exact ⟨by rw [E.out]; rfl, u.up⟩

theorem stepsEqual_any (a b : Option Addr) (l1 l2 : List Sp) (c d : Nat) (w : World) (hl : l1.length ≤ 1000000) (h1 : InL w a l1) (h2 : InL w b l2) :
    Calls Tryd.prog 30 #[.slice a l1.length c, .slice b l2.length d] w fun e w' => e = .returned (.bool (decide (l1 = l2))) ∧ Below w.heap.size w w' := by
  by_cases h : l1.length = l2.length
  · rw [← h]
    exact stepsEqual_same a b l1 l2 _ c d w hl rfl h.symm h1 h2
  · rw [show decide (l1 = l2) = false by simp; rintro rfl; exact h rfl]
    exact stepsEqual_lens a b _ _ c d w h

theorem eqSc (s t : Sc) : decide (s = t) = ((s.c == t.c) && ((s.r == t.r) && decide (s.l = t.l))) := by
  obtain ⟨a, b, c⟩ := s
  obtain ⟨a', b', c'⟩ := t
  rw [Bool.eq_iff_iff]
  simp

set_option maxHeartbeats 1000000 in
theorem schSame_core (c r c' r' : Int) (a b : Option Addr) (n m k d : Nat) (w : World) (u1 u2 u3 : Bool) (e1 : (c == c') = u1) (e2 : (r == r') = u2)
    (KE : ∀ w1, Below w.heap.size w w1 → Calls Tryd.prog 30 #[.slice a n k, .slice b m d] w1 fun e w' => e = .returned (.bool u3) ∧ Below w1.heap.size w1 w') :
    Calls Tryd.prog 12 #[.agg #[.int .i64 c, .int .i64 r, .slice a n k], .agg #[.int .i64 c', .int .i64 r', .slice b m d]] w fun e w' => e = .returned (.bool (u1 && (u2 && u3))) ∧ Below w.heap.size w w' := by
  have HE := Lib.hid KE
  clear KE
  cases u1
  · clear e2
    go_enter Tryd.func12, Tryd.ntmps12
    go_wp2
    go_ret
    exact ⟨rfl, up_alloc (up_alloc (Below.refl _ _) _) _⟩
  cases u2
  · go_enter Tryd.func12, Tryd.ntmps12
    go_wp2
    go_ret
    exact ⟨rfl, up_alloc (up_alloc (Below.refl _ _) _) _⟩
  · go_enter Tryd.func12, Tryd.ntmps12
    go_wp2_with fail
    refine (HE.out _ (up_alloc (up_alloc (Below.refl _ _) _) _)).mono ?_
    rintro e w1 ⟨rfl, hb⟩
    have B1 := Lib.hid (up_trans (up_alloc (up_alloc (Below.refl _ w) _) _) hb)
    clear hb
    go_wp2
    go_ret
    exact ⟨rfl, B1.out⟩

theorem schSame_any (s t : Sc) (a b : Option Addr) (k d : Nat) (w : World) (hl : s.l.length ≤ 1000000) (h1 : InL w a s.l) (h2 : InL w b t.l) :
    Calls Tryd.prog 12 #[.agg #[.int .i64 s.c, .int .i64 s.r, .slice a s.l.length k], .agg #[.int .i64 t.c, .int .i64 t.r, .slice b t.l.length d]] w fun e w' => e = .returned (.bool (decide (s = t))) ∧ Below w.heap.size w w' := by
  rw [eqSc]
  exact schSame_core s.c s.r t.c t.r a b _ _ k d w _ _ _ rfl rfl (fun w1 hb => stepsEqual_any a b s.l t.l k d w1 hl (h1.up hb) (h2.up hb))

def EqRel2 (l1 l2 : List Sp) (F : Bool) (n : Nat) (w : World) (i : Value) (wr : World) : Prop :=
  ∃ k : Nat, k ≤ n ∧ i = .int .i64 (k : Int) ∧ Hid (decide (l1.drop k = l2.drop k) = F) ∧ ∃ u : Later w, wr = u.now

set_option maxHeartbeats 1000000 in
theorem refSame_no (c r c' r' : Int) (a b : Option Addr) (n m k d : Nat) (w : World) (u1 u2 u3 : Bool) (e1 : (c != c') = u1) (e2 : (r != r') = u2) (e3 : ((n : Int) != (m : Int)) = u3) (h : u1 = true ∨ u2 = true ∨ u3 = true) :
    Calls Tryd.prog 13 #[.agg #[.int .i64 c, .int .i64 r, .slice a n k], .agg #[.int .i64 c', .int .i64 r', .slice b m d]] w fun e w' => e = .returned (.bool false) ∧ Below w.heap.size w w' := by
  cases u1
  · cases u2
    · obtain rfl : u3 = true := by simpa using h
      clear h
      go_enter Tryd.func13, Tryd.ntmps13
      go_wp2
      go_ret
      exact ⟨rfl, up_alloc (up_alloc (Below.refl _ _) _) _⟩
    · clear h e3
      go_enter Tryd.func13, Tryd.ntmps13
      go_wp2
      go_ret
      exact ⟨rfl, up_alloc (up_alloc (Below.refl _ _) _) _⟩
  · clear h e2 e3
    go_enter Tryd.func13, Tryd.ntmps13
    go_wp2
    go_ret
    exact ⟨rfl, up_alloc (up_alloc (Below.refl _ _) _) _⟩

set_option maxHeartbeats 2000000 in
theorem refSame_yes (c r : Int) (a b : Option Addr) (l1 l2 : List Sp) (n m d : Nat) (w : World) (hl : n ≤ 1000000) (hn1 : l1.length = n) (hn2 : l2.length = n) (h1 : InL w a l1) (h2 : InL w b l2) :
    Calls Tryd.prog 13 #[.agg #[.int .i64 c, .int .i64 r, .slice a n m], .agg #[.int .i64 c, .int .i64 r, .slice b n d]] w fun e w' => e = .returned (.bool (decide (l1 = l2))) ∧ Below w.heap.size w w' := by
  obtain ⟨F, hF⟩ : ∃ F, decide (l1 = l2) = F := ⟨_, rfl⟩
  rw [hF]
  have HF := Lib.hid hF; have H1 := Lib.hid h1; have H2 := Lib.hid h2; have N1 := Lib.hid hn1; have N2 := Lib.hid hn2
  clear hF h1 h2 hn1 hn2
  go_enter Tryd.func13, Tryd.ntmps13
  go_wp2
  have A0 := (Bx.new w 24 [.int .i64 c, .int .i64 r, .slice a n m]).alloc (.cells #[.int .i64 c, .int .i64 r, .slice b n d] 24)
  have A1 := Bx.new (w.alloc (.cells #[.int .i64 c, .int .i64 r, .slice a n m] 24)) 24 [.int .i64 c, .int .i64 r, .slice b n d]
  have B1 : Below w.heap.size w ((w.alloc (.cells #[.int .i64 c, .int .i64 r, .slice a n m] 24)).alloc (.cells #[.int .i64 c, .int .i64 r, .slice b n d] 24)) := up_alloc (up_alloc (Below.refl _ _) _) _
  simp only [World.size_alloc] at A1
  have x2 := A0.cell 2 rfl; have y2 := A1.cell 2 rfl
  have HB1 := Lib.hid B1
  clear A0 A1 B1
  generalize hw0 : ((w.alloc (.cells #[.int .i64 c, .int .i64 r, .slice a n m] 24)).alloc (.cells #[.int .i64 c, .int .i64 r, .slice b n d] 24)) = w0 at *
  clear hw0
  go_loopw [5] (fun i wr => EqRel2 l1 l2 F n w0 i wr) (fun i _ => n - (intOf i).toNat)
  case atStart => exact ⟨0, by omega, by go_num, HF.out, ⟨w0, Below.refl _ _⟩, rfl⟩
  case round =>
    obtain ⟨k, hk, rfl, HM, u, rfl⟩ := hrel
    have s2 := u.cell x2
    by_cases hlt : k < n
    · obtain ⟨p, hp⟩ : ∃ p, l1[k]? = some p := ⟨l1[k]'(by rw [N1.out]; exact hlt), List.getElem?_eq_getElem _⟩
      obtain ⟨q, hq⟩ : ∃ q, l2[k]? = some q := ⟨l2[k]'(by rw [N2.out]; exact hlt), List.getElem?_eq_getElem _⟩
      obtain ⟨b1, o1, rfl, hc1⟩ := H1.out.resolve_left (by rintro rfl; cases hp)
      obtain ⟨b2, o2, rfl, hc2⟩ := H2.out.resolve_left (by rintro rfl; cases hq)
      obtain ⟨p0, p1, p2⟩ := (hc1.up HB1.out) k p hp
      obtain ⟨q0, q1, q2⟩ := (hc2.up HB1.out) k q hq
      have j0 := fun u : Later w0 => u.cell p0
      have j1 := fun u : Later w0 => u.cell p1
      have j2 := fun u : Later w0 => u.cell p2
      have i0 := fun u : Later w0 => u.cell q0
      have i1 := fun u : Later w0 => u.cell q1
      have i2 := fun u : Later w0 => u.cell q2
      have g0 := fun u : Later w0 => u.cell x2
      have g1 := fun u : Later w0 => u.cell y2
      have hd := eq_step hp hq
      have hne := fun w => run_neP p q w
      have z0 : (0 : Int) ≤ (k : Int) := by omega
      have z1 : (k : Int) < (n : Int) := by omega
      have HH := Lib.hid HM.out
      rw [hd] at HH
      clear hc1 hc2 p0 p1 p2 q0 q1 q2 hp hq hd HM
      generalize decide (p = q) = e at *
      obtain ⟨pd, pn, pu⟩ := p
      obtain ⟨qd, qn, qu⟩ := q
      simp only at j0 j1 j2 i0 i1 i2 hne
      cases e
      · have E := Lib.hid (show F = false by rw [← HH.out]; rfl)
        clear HH
        simp only [Bool.not_false] at hne
        go_wp2
        refine wp_region_later (by kernel_rfl) (by kernel_rfl) ?_
        repeat (go_big_quiet_step (fail))
        refine wpQuiet_nil ?_
        rintro _ ⟨u2, rfl⟩
        clear j0 j1 j2 i0 i1 i2 g0 g1 hne
        go_wp2
        go_ret
        exact ⟨by rw [E.out]; rfl, up_trans HB1.out u2.up⟩
      · have E := Lib.hid (show decide (l1.drop (k + 1) = l2.drop (k + 1)) = F by rw [← HH.out]; simp)
        clear HH
        simp only [Bool.not_true] at hne
        go_wp2
        refine wp_region_later (by kernel_rfl) (by kernel_rfl) ?_
        repeat (go_big_quiet_step (fail))
        refine wpQuiet_nil ?_
        rintro _ ⟨u2, rfl⟩
        clear j0 j1 j2 i0 i1 i2 g0 g1 hne
        go_wp2
        go_roundw
        case rel => exact ⟨k + 1, by omega, by go_num, E, u2, rfl⟩
        case measure => simp [intOf]; omega
    · obtain rfl : k = n := by omega
      have E := Lib.hid (show F = true by rw [← HM.out, List.drop_of_length_le (by rw [N1.out]; omega), List.drop_of_length_le (by rw [N2.out]; omega)]; simp)
      clear HM
      go_wp2
      go_ret
      exact ⟨by rw [E.out]; rfl, up_trans HB1.out u.up⟩

theorem refSame_any (s t : Sc) (a b : Option Addr) (k d : Nat) (w : World) (hl : s.l.length ≤ 1000000) (h1 : InL w a s.l) (h2 : InL w b t.l) :
    Calls Tryd.prog 13 #[.agg #[.int .i64 s.c, .int .i64 s.r, .slice a s.l.length k], .agg #[.int .i64 t.c, .int .i64 t.r, .slice b t.l.length d]] w fun e w' => e = .returned (.bool (decide (s = t))) ∧ Below w.heap.size w w' := by
  by_cases h : s.c = t.c ∧ s.r = t.r ∧ s.l.length = t.l.length
  · obtain ⟨e1, e2, e3⟩ := h
    have hd : decide (s = t) = decide (s.l = t.l) := by rw [eqSc, e1, e2]; simp
    rw [hd, e1, e2, ← e3]
    exact refSame_yes _ _ a b s.l t.l _ k d w hl rfl e3.symm h1 h2
  · have hd : decide (s = t) = false := by
      rw [decide_eq_false_iff_not]
      rintro rfl
      exact h ⟨rfl, rfl, rfl⟩
    rw [hd]
    refine refSame_no s.c s.r t.c t.r a b _ _ k d w _ _ _ rfl rfl rfl ?_
    simp only [bne_iff_ne, ne_eq]
    omega
end Go.Proofs.YtaphkplidnepaaaDoor
