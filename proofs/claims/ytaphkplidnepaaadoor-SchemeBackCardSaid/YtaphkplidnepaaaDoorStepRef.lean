/- What the document's own Text and Step answer: of a right step its text; of any text its step. -/
import Derived.Test.YtaphkplidnepaaaDoorStepText
import Derived.Test.YtaphkplidnepaaaDoorDecRef
import Derived.LoopN
namespace Go.Proofs.YtaphkplidnepaaaDoor
open Go.RowKit DecMath
set_option linter.unusedVariables false

set_option maxHeartbeats 1000000 in
theorem refText_core (d n : Int) (u : Bool) (P q R S T : ByteArray) (w : World) (hd : d = 1 ∧ P = ⟨#[76]⟩ ∨ d = 2 ∧ P = ⟨#[82]⟩ ∨ d = 3 ∧ P = ⟨#[66]⟩ ∨ d = 4 ∧ P = ⟨#[84]⟩) (hR : P ++ q = R) (hS : R ++ ⟨#[117]⟩ = S) (hT : (if u = true then S else R) = T) (q1 : q.size ≤ 100) (r1 : R.size ≤ 200)
    (KD : ∀ w, Calls Tryd.prog 37 #[.int .i64 n] w fun e w' => e = .returned (.string q) ∧ w = w') :
    Calls Tryd.prog 39 #[.agg #[.int .i64 d, .int .i64 n, .bool u]] w fun e w' => e = .returned (.string T) ∧ Below w.heap.size w w' := by
  have HD := Lib.hid KD
  clear KD
  have sl : ∀ w, (Instr.slice 9 (.string ⟨#[76, 82, 66, 84]⟩) (some (.int .i64 (d - 1))) (some (.int .i64 d)) none).run Tryd.prog w = .ok (.string P) w := by
    intro w
    rcases hd with ⟨rfl, rfl⟩ | ⟨rfl, rfl⟩ | ⟨rfl, rfl⟩ | ⟨rfl, rfl⟩
    all_goals kernel_rfl
  have p1 : P.size ≤ 1 := by rcases hd with ⟨rfl, rfl⟩ | ⟨rfl, rfl⟩ | ⟨rfl, rfl⟩ | ⟨rfl, rfl⟩ <;> decide
  have d1 : 1 ≤ d ∧ d ≤ 4 := by omega
  clear hd
  go_enter Tryd.func39, Tryd.ntmps39
  go_wp2_with fail
  have A := Bx.new w 48 [.int .i64 d, .int .i64 n, .bool u]
  have B1 := Lib.hid (up_alloc (Below.refl _ w) (.cells #[.int .i64 d, .int .i64 n, .bool u] 48))
  have k0 := A.cell 0 rfl; have k1 := A.cell 1 rfl; have k2 := A.cell 2 rfl
  clear A
  generalize hw : w.alloc _ = w1 at *
  clear hw
  refine later_start (w := w1) ?_
  intro v
  have j0 := fun v : Later w1 => v.cell k0
  have j1 := fun v : Later w1 => v.cell k1
  have j2 := fun v : Later w1 => v.cell k2
  clear k0 k1 k2
  refine wp_region_later (by kernel_rfl) (by kernel_rfl) ?_
  repeat (go_big_quiet_step ((
    (go_at_call 37; with_reducible exact Later.call ((HD.out _).mono fun _ _ h => ⟨h.1, h.2 ▸ Below.refl _ _⟩)))))
  refine wpQuiet_nil ?_
  rintro _ ⟨v2, rfl⟩
  cases u
  all_goals
    simp only [Bool.false_eq_true, if_false, if_true] at hT
    subst hT
    go_wp2
    go_ret
    exact ⟨rfl, up_trans B1.out v2.up⟩

theorem refText_any (p : Sp) (w : World) (h : rightB p.d p.n = true) :
    Calls Tryd.prog 39 #[.agg #[.int .i64 p.d, .int .i64 p.n, .bool p.u]] w fun e w' => e = .returned (.string (tx (textS p))) ∧ Below w.heap.size w w' := by
  obtain ⟨⟨d0, d1⟩, n0, n1⟩ := rightB_true h
  have hl := itoa_len p.n (by omega) (by omega)
  have hp : p.d = 1 ∧ tx [sideC p.d] = ⟨#[76]⟩ ∨ p.d = 2 ∧ tx [sideC p.d] = ⟨#[82]⟩ ∨ p.d = 3 ∧ tx [sideC p.d] = ⟨#[66]⟩ ∨ p.d = 4 ∧ tx [sideC p.d] = ⟨#[84]⟩ := by
    obtain e | e | e | e : p.d = 1 ∨ p.d = 2 ∨ p.d = 3 ∨ p.d = 4 := by omega
    all_goals (rw [e]; decide +kernel)
  refine refText_core p.d p.n p.u (tx [sideC p.d]) (tx (Lib.itoa p.n)) _ _ _ w hp rfl rfl ?_ (by rw [tx_size]; omega) (by rw [tx_append, tx_size]; simp; omega) (fun w => refPut_any p.n w (by omega) (by omega))
  unfold textS
  cases p.u
  · simp [tx_append]
  · have e : (⟨#[117]⟩ : ByteArray) = tx [117] := rfl
    simp [tx_append, e]

theorem refStep_short (t : ByteArray) (w : World) (h : t.size < 2) :
    Calls Tryd.prog 49 #[.string t] w fun e w' => e = .returned (.tuple #[.agg #[.int .i64 0, .int .i64 0, .bool false], .bool false]) ∧ Below w.heap.size w w' := by
  have z1 : (t.size : Int) < 2 := by omega
  go_enter Tryd.func49, Tryd.ntmps49
  go_wp2
  refine bodyPost_ret (v := .tuple #[.agg #[.int .i64 0, .int .i64 0, .bool false], .bool false]) (by simp [results, Tryd.results49, go_sem]) rfl ⟨rfl, ?_⟩
  repeat (first | (with_reducible exact Below.refl _ _) | (with_reducible apply up_alloc) | (with_reducible refine up_set ?_ (by simp only; omega) _))

theorem lr0 : (((⟨#[76, 82, 66, 84]⟩ : ByteArray)[0].toNat : Nat) : Int) = 76 := rfl
theorem lr1 : (((⟨#[76, 82, 66, 84]⟩ : ByteArray)[1].toNat : Nat) : Int) = 82 := rfl
theorem lr2 : (((⟨#[76, 82, 66, 84]⟩ : ByteArray)[2].toNat : Nat) : Int) = 66 := rfl
theorem lr3 : (((⟨#[76, 82, 66, 84]⟩ : ByteArray)[3].toNat : Nat) : Int) = 84 := rfl

set_option maxRecDepth 100000 in
set_option maxHeartbeats 2000000 in
theorem refStep_core (t r g : ByteArray) (x y s n : Int) (k f u : Bool) (w : World) (t0 : 2 ≤ t.size) (t1 : t.size ≤ 9223372036854775807) (hx : ((t[0].toNat : Nat) : Int) = x)
    (hs : ((x == 76) = true ∧ (x == 82) = false ∧ (x == 66) = false ∧ (x == 84) = false ∧ s = 1) ∨ ((x == 76) = false ∧ (x == 82) = true ∧ (x == 66) = false ∧ (x == 84) = false ∧ s = 2) ∨ ((x == 76) = false ∧ (x == 82) = false ∧ (x == 66) = true ∧ (x == 84) = false ∧ s = 3) ∨ ((x == 76) = false ∧ (x == 82) = false ∧ (x == 66) = false ∧ (x == 84) = true ∧ s = 4) ∨ ((x == 76) = false ∧ (x == 82) = false ∧ (x == 66) = false ∧ (x == 84) = false ∧ s = 0))
    (hr : t.extract 1 t.size = r) (r0 : 1 ≤ r.size) (r1 : r.size ≤ 9223372036854775807) (F : Sp × Bool) (hF : (if k = true ∧ f = true then ((⟨s, n, u⟩ : Sp), true) else (⟨0, 0, false⟩, false)) = F)
    (hu : ((r[r.size - 1].toNat : Nat) : Int) = y) (hy : (y == 117) = u) (hg : (u = true ∧ r.extract 0 (r.size - 1) = g) ∨ (u = false ∧ r = g))
    (KD : ∀ w, Calls Tryd.prog 48 #[.string g] w fun e w' => e = .returned (.tuple #[.int .i64 n, .bool k]) ∧ w = w')
    (KR : ∀ w, Calls Tryd.prog 38 #[.agg #[.int .i64 s, .int .i64 n, .bool u]] w fun e w' => e = .returned (.bool f) ∧ Below w.heap.size w w') :
    Calls Tryd.prog 49 #[.string t] w fun e w' => e = .returned (.tuple #[.agg #[.int .i64 F.1.d, .int .i64 F.1.n, .bool F.1.u], .bool F.2]) ∧ Below w.heap.size w w' := by
  have HD := Lib.hid KD; have HR := Lib.hid KR; have HF := Lib.hid hF
  clear KD KR hF
  have z1 : decide ((t.size : Int) < 2) = false := by simp; omega
  have c0 := lr0; have c1 := lr1; have c2 := lr2; have c3 := lr3
  rcases hg with ⟨rfl, hg⟩ | ⟨rfl, rfl⟩
  all_goals
    rcases hs with ⟨b1, b2, b3, b4, rfl⟩ | ⟨b1, b2, b3, b4, rfl⟩ | ⟨b1, b2, b3, b4, rfl⟩ | ⟨b1, b2, b3, b4, rfl⟩ | ⟨b1, b2, b3, b4, rfl⟩
  all_goals
    as_aux_lemma =>
      go_enter Tryd.func49, Tryd.ntmps49
      go_wp2
      refine wp_loop_rounds 5 ?_
      rw [rounds_succ]; go_wp2; go_region; go_wp2
      rw [rounds_succ]; go_wp2; go_region; go_wp2
      rw [rounds_succ]; go_wp2; go_region; go_wp2
      rw [rounds_succ]; go_wp2; go_region; go_wp2
      rw [rounds_succ]; go_wp2_with fail
      refine (HD.out _).mono ?_
      rintro e w' ⟨rfl, rfl⟩
      cases k
      · go_wp2
        refine bodyPost_ret (v := .tuple #[.agg #[.int .i64 0, .int .i64 0, .bool false], .bool false]) (by simp [results, Tryd.results49, go_sem]) rfl ⟨retS (p := ⟨0, 0, false⟩) (by rw [← HF.out, if_neg (by simp)]), ?_⟩
        repeat (first | (with_reducible exact Below.refl _ _) | (with_reducible apply up_drew) | (with_reducible apply up_alloc) | (with_reducible refine up_set ?_ (by simp only; omega) _))
      · go_wp2_with fail
        refine (HR.out _).mono ?_
        rintro e w2 ⟨rfl, hb⟩
        have A0 := (((((((Bx.new w 48 [.int .i64 0, .int .i64 0, .bool false]).alloc _).drew).drew).drew).drew).up hb)
        have A1 := ((((((Bx.new (w.alloc _) 48 [.int .i64 _, .int .i64 n, .bool _]).drew).drew).drew).drew).up hb)
        simp only [World.size_alloc] at A1
        have B1 := up_trans (up_drew (up_drew (up_drew (up_drew (up_alloc (up_alloc (Below.refl _ w) _) _))))) hb
        have HB := Lib.hid B1
        have m0 := A0.cell 0 rfl; have m1 := A0.cell 1 rfl; have m2 := A0.cell 2 rfl; have mf := A0.free
        have n0 := A1.cell 0 rfl; have n1 := A1.cell 1 rfl; have n2 := A1.cell 2 rfl; have nf := A1.free
        clear hb B1 A0 A1
        cases f
        · go_wp2
          refine bodyPost_ret (v := .tuple #[.agg #[.int .i64 0, .int .i64 0, .bool false], .bool false]) (by simp [results, Tryd.results49, go_sem, m0, m1, m2]) rfl ⟨retS (p := ⟨0, 0, false⟩) (by rw [← HF.out, if_neg (by simp)]), ?_⟩
          have B4 := HB.out
          repeat (first | (with_reducible exact B4) | (with_reducible refine up_set ?_ (by simp only; omega) _))
        · go_wp2
          have e := HF.out
          simp only [and_self, if_true] at e
          subst e
          refine bodyPost_ret ?_ rfl ⟨rfl, ?_⟩
          · simp [results, Tryd.results49, go_sem, m0, m1, m2]
          have B4 := HB.out
          repeat (first | (with_reducible exact B4) | (with_reducible refine up_set ?_ (by simp only; omega) _))

theorem numIn (l : List UInt8) (d : Int) (d0 : 0 ≤ d) (d1 : d ≤ 4) : ((numOf l).2 = true ∧ rightB d (numOf l).1 = true) ↔ (d ≠ 0 ∧ (inOf l 1 64).2 = true) := by
  unfold inOf
  split
  · rename_i h
    constructor
    · rintro ⟨h1, h2⟩
      have := rightB_true h2
      exact ⟨by omega, h1⟩
    · rintro ⟨h1, h2⟩
      exact ⟨h2, by simp [rightB]; omega⟩
  · rename_i h
    constructor
    · rintro ⟨h1, h2⟩
      have := rightB_true h2
      exact absurd ⟨h1, by omega, by omega⟩ h
    · rintro ⟨h1, h2⟩
      cases h2
theorem inOf_num {l : List UInt8} {lo hi : Int} (h : (inOf l lo hi).2 = true) : (inOf l lo hi).1 = (numOf l).1 := by
  unfold inOf at h ⊢
  split at h
  · rename_i h2; rw [if_pos h2]
  · cases h
theorem sideO_cases (c : UInt8) : ((((c.toNat : Nat) : Int) == 76) = true ∧ (((c.toNat : Nat) : Int) == 82) = false ∧ (((c.toNat : Nat) : Int) == 66) = false ∧ (((c.toNat : Nat) : Int) == 84) = false ∧ sideO c = 1) ∨ ((((c.toNat : Nat) : Int) == 76) = false ∧ (((c.toNat : Nat) : Int) == 82) = true ∧ (((c.toNat : Nat) : Int) == 66) = false ∧ (((c.toNat : Nat) : Int) == 84) = false ∧ sideO c = 2) ∨ ((((c.toNat : Nat) : Int) == 76) = false ∧ (((c.toNat : Nat) : Int) == 82) = false ∧ (((c.toNat : Nat) : Int) == 66) = true ∧ (((c.toNat : Nat) : Int) == 84) = false ∧ sideO c = 3) ∨ ((((c.toNat : Nat) : Int) == 76) = false ∧ (((c.toNat : Nat) : Int) == 82) = false ∧ (((c.toNat : Nat) : Int) == 66) = false ∧ (((c.toNat : Nat) : Int) == 84) = true ∧ sideO c = 4) ∨ ((((c.toNat : Nat) : Int) == 76) = false ∧ (((c.toNat : Nat) : Int) == 82) = false ∧ (((c.toNat : Nat) : Int) == 66) = false ∧ (((c.toNat : Nat) : Int) == 84) = false ∧ sideO c = 0) := by
  have e1 := oct_eq c 76; have e2 := oct_eq c 82; have e3 := oct_eq c 66; have e4 := oct_eq c 84
  simp only [show (((76 : UInt8).toNat : Nat) : Int) = 76 from rfl, show (((82 : UInt8).toNat : Nat) : Int) = 82 from rfl, show (((66 : UInt8).toNat : Nat) : Int) = 66 from rfl, show (((84 : UInt8).toNat : Nat) : Int) = 84 from rfl] at e1 e2 e3 e4
  rw [e1, e2, e3, e4]
  by_cases h1 : c = 76
  · subst h1; left; decide
  by_cases h2 : c = 82
  · subst h2; right; left; decide
  by_cases h3 : c = 66
  · subst h3; right; right; left; decide
  by_cases h4 : c = 84
  · subst h4; right; right; right; left; decide
  right; right; right; right
  refine ⟨by simpa using h1, by simpa using h2, by simpa using h3, by simpa using h4, ?_⟩
  unfold sideO
  rw [if_neg h1, if_neg h2, if_neg h3, if_neg h4]
theorem getS_short (l : List UInt8) (h : l.length < 2) : getS l = (⟨0, 0, false⟩, false) := by
  match l, h with
  | [], _ => rfl
  | [c], _ =>
    have : (inOf (stripU []).1 1 64).2 = false := by
      unfold inOf stripU
      simp only [List.getLast?_nil, reduceCtorEq, if_false]
      rw [numOf_len [] (by simp)]
      rfl
    simp [getS, this]
theorem last_octet (r : ByteArray) (h : 1 ≤ r.size) : r.data.toList.getLast? = some (r[r.size - 1]'(by omega)) := by
  rw [List.getLast?_eq_getElem?, size_data, List.getElem?_eq_getElem (by rw [size_data]; omega)]
  rfl
theorem refStep_any (t : ByteArray) (w : World) (ht : t.size ≤ 9223372036854775807) :
    Calls Tryd.prog 49 #[.string t] w fun e w' => e = .returned (.tuple #[.agg #[.int .i64 (getS t.data.toList).1.d, .int .i64 (getS t.data.toList).1.n, .bool (getS t.data.toList).1.u], .bool (getS t.data.toList).2]) ∧ Below w.heap.size w w' := by
  by_cases h2 : t.size < 2
  · rw [getS_short _ (by rw [size_data]; exact h2)]
    exact refStep_short t w h2
  · obtain ⟨c, r, hl⟩ : ∃ c r, t.data.toList = c :: r := by
      cases h : t.data.toList with
      | nil => have := size_data t; rw [h] at this; simp at this; omega
      | cons c r => exact ⟨c, r, rfl⟩
    obtain rfl : t = tx (c :: r) := by rw [← hl, tx_data]
    rw [tx_size] at h2 ht
    simp only [List.length_cons] at h2 ht
    have hc : (tx (c :: r))[0]'(by rw [tx_size]; simp) = c := rfl
    have hlast := last_octet (tx r) (by rw [tx_size]; omega)
    rw [data_tx] at hlast
    have hb := sideO_bounds c
    refine refStep_core (tx (c :: r)) (tx r) (tx (stripU r).1) (((tx (c :: r))[0]'(by rw [tx_size]; simp)).toNat : Nat) _ (sideO c) (numOf (stripU r).1).1 (numOf (stripU r).1).2 (rightB (sideO c) (numOf (stripU r).1).1) (stripU r).2 w (by rw [tx_size, List.length_cons]; omega) (by rw [tx_size, List.length_cons]; omega) rfl (by rw [hc]; exact sideO_cases c) (by rw [tx_extract, tx_size, data_tx]; simp) (by rw [tx_size]; omega) (by rw [tx_size]; omega) _ ?_ rfl ?_ ?_ (fun w => ?_) (fun w => refRight_any _ _ _ w)
    · rw [data_tx]
      simp only [getS]
      have hn := numIn (stripU r).1 (sideO c) hb.1 hb.2
      by_cases h : sideO c ≠ 0 ∧ (inOf (stripU r).1 1 64).2 = true
      · rw [if_pos h, if_pos (hn.2 h), inOf_num h.2]
      · rw [if_neg h, if_neg (fun e => h (hn.1 e))]
    · have e := oct_eq ((tx r)[(tx r).size - 1]'(by rw [tx_size]; omega)) 117
      simp only [show (((117 : UInt8).toNat : Nat) : Int) = 117 from rfl] at e
      rw [e]
      unfold stripU
      rw [hlast]
      split
      · rename_i h; simpa using h
      · rename_i h; simpa using h
    · unfold stripU
      split
      · left
        refine ⟨rfl, ?_⟩
        rw [tx_extract, tx_size, data_tx, List.drop_zero, List.dropLast_eq_take]
      · right; exact ⟨rfl, rfl⟩
    · have := refGet_any (tx (stripU r).1) w (by
        have : (stripU r).1.length ≤ r.length := by
          unfold stripU
          split
          · simp
          · exact Nat.le_refl _
        rw [tx_size]; omega)
      rw [data_tx] at this
      exact this
end Go.Proofs.YtaphkplidnepaaaDoor
