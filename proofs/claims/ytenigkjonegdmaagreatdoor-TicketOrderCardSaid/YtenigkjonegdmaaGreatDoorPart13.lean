/- Part 13 of the texts that the proofs of this seat share: StepRef, SchemeRefOne, SchemeSame. -/
import Derived.Test.YtenigkjonegdmaaGreatDoorPart3
import Derived.Test.YtenigkjonegdmaaGreatDoorPart2
import Derived.LoopN
import Derived.Test.YtenigkjonegdmaaGreatDoorPart4
import Derived.Test.YtenigkjonegdmaaGreatDoorPart6
import Derived.Test.YtenigkjonegdmaaGreatDoorPart8
import Derived.Test.YtenigkjonegdmaaGreatDoorPart1
/- What the document's own Text and Step answer: of a right step its text; of any text its step. -/
namespace Go.Proofs.YtenigkjonegdmaaGreatDoor
open Go.RowKit DecMath
set_option linter.unusedVariables false

set_option maxHeartbeats 1000000 in
theorem refText_core (d n : Int) (u : Bool) (P q R S T : ByteArray) (w : World) (hd : d = 1 ∧ P = ⟨#[76]⟩ ∨ d = 2 ∧ P = ⟨#[82]⟩ ∨ d = 3 ∧ P = ⟨#[66]⟩ ∨ d = 4 ∧ P = ⟨#[84]⟩) (hR : P ++ q = R) (hS : R ++ ⟨#[117]⟩ = S) (hT : (if u = true then S else R) = T) (q1 : q.size ≤ 100) (r1 : R.size ≤ 200)
    (KD : ∀ w, Calls Tryz.prog 14 #[.int .i64 n] w fun e w' => e = .returned (.string q) ∧ w = w') :
    Calls Tryz.prog 49 #[.agg #[.int .i64 d, .int .i64 n, .bool u]] w fun e w' => e = .returned (.string T) ∧ Below w.heap.size w w' := by
  have HD := Lib.hid KD
  clear KD
  have sl : ∀ w, (Instr.slice 9 (.string ⟨#[76, 82, 66, 84]⟩) (some (.int .i64 (d - 1))) (some (.int .i64 d)) none).run Tryz.prog w = .ok (.string P) w := by
    intro w
    rcases hd with ⟨rfl, rfl⟩ | ⟨rfl, rfl⟩ | ⟨rfl, rfl⟩ | ⟨rfl, rfl⟩
    all_goals kernel_rfl
  have p1 : P.size ≤ 1 := by rcases hd with ⟨rfl, rfl⟩ | ⟨rfl, rfl⟩ | ⟨rfl, rfl⟩ | ⟨rfl, rfl⟩ <;> decide
  have d1 : 1 ≤ d ∧ d ≤ 4 := by omega
  clear hd
  go_enter Tryz.func49, Tryz.ntmps49
  go_wp2_with fail
  have A := Bx.new w 78 [.int .i64 d, .int .i64 n, .bool u]
  have B1 := Lib.hid (up_alloc (Below.refl _ w) (.cells #[.int .i64 d, .int .i64 n, .bool u] 78))
  have k0 := A.cell 0 rfl; have k1 := A.cell 1 rfl; have k2 := A.cell 2 rfl
  clear A
  generalize hw : w.alloc _ = w1 at *
  clear hw
  refine later_start (w := w1) ?_
  intro v
  have j0 := fun v : Later w1 => v.cell k0
  have j1 := fun v : Later w1 => v.cell k1
  have j2 := fun v : Later w1 => v.cell k2
  clear k0 k1 k2
  refine wp_region_later (by kernel_rfl) (by kernel_rfl) ?_
  repeat (go_big_quiet_step ((
    (go_at_call 14; with_reducible exact Later.call ((HD.out _).mono fun _ _ h => ⟨h.1, h.2 ▸ Below.refl _ _⟩)))))
  refine wpQuiet_nil ?_
  rintro _ ⟨v2, rfl⟩
  cases u
  all_goals
    simp only [Bool.false_eq_true, if_false, if_true] at hT
    subst hT
    go_wp2
    go_ret
    exact ⟨rfl, up_trans B1.out v2.up⟩

theorem refText_any (p : Sp) (w : World) (h : rightB p.d p.n = true) :
    Calls Tryz.prog 49 #[.agg #[.int .i64 p.d, .int .i64 p.n, .bool p.u]] w fun e w' => e = .returned (.string (tx (textS p))) ∧ Below w.heap.size w w' := by
  obtain ⟨⟨d0, d1⟩, n0, n1⟩ := rightB_true h
  have hl := itoa_len p.n (by omega) (by omega)
  have hp : p.d = 1 ∧ tx [sideC p.d] = ⟨#[76]⟩ ∨ p.d = 2 ∧ tx [sideC p.d] = ⟨#[82]⟩ ∨ p.d = 3 ∧ tx [sideC p.d] = ⟨#[66]⟩ ∨ p.d = 4 ∧ tx [sideC p.d] = ⟨#[84]⟩ := by
    obtain e | e | e | e : p.d = 1 ∨ p.d = 2 ∨ p.d = 3 ∨ p.d = 4 := by omega
    all_goals (rw [e]; decide +kernel)
  refine refText_core p.d p.n p.u (tx [sideC p.d]) (tx (Lib.itoa p.n)) _ _ _ w hp rfl rfl ?_ (by rw [tx_size]; omega) (by rw [tx_append, tx_size]; simp; omega) (fun w => refPut_any p.n w (by omega) (by omega))
  unfold textS
  cases p.u
  · simp [tx_append]
  · have e : (⟨#[117]⟩ : ByteArray) = tx [117] := rfl
    simp [tx_append, e]

theorem refStep_short (t : ByteArray) (w : World) (h : t.size < 2) :
    Calls Tryz.prog 93 #[.string t] w fun e w' => e = .returned (.tuple #[.agg #[.int .i64 0, .int .i64 0, .bool false], .bool false]) ∧ Below w.heap.size w w' := by
  have z1 : (t.size : Int) < 2 := by omega
  go_enter Tryz.func93, Tryz.ntmps93
  go_wp2
  refine bodyPost_ret (v := .tuple #[.agg #[.int .i64 0, .int .i64 0, .bool false], .bool false]) (by simp [results, Tryz.results93, go_sem]) rfl ⟨rfl, ?_⟩
  repeat (first | (with_reducible exact Below.refl _ _) | (with_reducible apply up_alloc) | (with_reducible refine up_set ?_ (by simp only; omega) _))

theorem lr0 : (((⟨#[76, 82, 66, 84]⟩ : ByteArray)[0].toNat : Nat) : Int) = 76 := rfl
theorem lr1 : (((⟨#[76, 82, 66, 84]⟩ : ByteArray)[1].toNat : Nat) : Int) = 82 := rfl
theorem lr2 : (((⟨#[76, 82, 66, 84]⟩ : ByteArray)[2].toNat : Nat) : Int) = 66 := rfl
theorem lr3 : (((⟨#[76, 82, 66, 84]⟩ : ByteArray)[3].toNat : Nat) : Int) = 84 := rfl

set_option maxRecDepth 100000 in
set_option maxHeartbeats 2000000 in
theorem refStep_core (t r g : ByteArray) (x y s n : Int) (k f u : Bool) (w : World) (t0 : 2 ≤ t.size) (t1 : t.size ≤ 9223372036854775807) (hx : ((t[0].toNat : Nat) : Int) = x)
    (hs : ((x == 76) = true ∧ (x == 82) = false ∧ (x == 66) = false ∧ (x == 84) = false ∧ s = 1) ∨ ((x == 76) = false ∧ (x == 82) = true ∧ (x == 66) = false ∧ (x == 84) = false ∧ s = 2) ∨ ((x == 76) = false ∧ (x == 82) = false ∧ (x == 66) = true ∧ (x == 84) = false ∧ s = 3) ∨ ((x == 76) = false ∧ (x == 82) = false ∧ (x == 66) = false ∧ (x == 84) = true ∧ s = 4) ∨ ((x == 76) = false ∧ (x == 82) = false ∧ (x == 66) = false ∧ (x == 84) = false ∧ s = 0))
    (hr : t.extract 1 t.size = r) (r0 : 1 ≤ r.size) (r1 : r.size ≤ 9223372036854775807) (F : Sp × Bool) (hF : (if k = true ∧ f = true then ((⟨s, n, u⟩ : Sp), true) else (⟨0, 0, false⟩, false)) = F)
    (hu : ((r[r.size - 1].toNat : Nat) : Int) = y) (hy : (y == 117) = u) (hg : (u = true ∧ r.extract 0 (r.size - 1) = g) ∨ (u = false ∧ r = g))
    (KD : ∀ w, Calls Tryz.prog 92 #[.string g] w fun e w' => e = .returned (.tuple #[.int .i64 n, .bool k]) ∧ w = w')
    (KR : ∀ w, Calls Tryz.prog 48 #[.agg #[.int .i64 s, .int .i64 n, .bool u]] w fun e w' => e = .returned (.bool f) ∧ Below w.heap.size w w') :
    Calls Tryz.prog 93 #[.string t] w fun e w' => e = .returned (.tuple #[.agg #[.int .i64 F.1.d, .int .i64 F.1.n, .bool F.1.u], .bool F.2]) ∧ Below w.heap.size w w' := by
  have HD := Lib.hid KD; have HR := Lib.hid KR; have HF := Lib.hid hF
  clear KD KR hF
  have z1 : decide ((t.size : Int) < 2) = false := by simp; omega
  have c0 := lr0; have c1 := lr1; have c2 := lr2; have c3 := lr3
  rcases hg with ⟨rfl, hg⟩ | ⟨rfl, rfl⟩
  all_goals
    rcases hs with ⟨b1, b2, b3, b4, rfl⟩ | ⟨b1, b2, b3, b4, rfl⟩ | ⟨b1, b2, b3, b4, rfl⟩ | ⟨b1, b2, b3, b4, rfl⟩ | ⟨b1, b2, b3, b4, rfl⟩
  all_goals
    as_aux_lemma =>
      go_enter Tryz.func93, Tryz.ntmps93
      go_wp2
      refine wp_loop_rounds 5 ?_
      rw [rounds_succ]; go_wp2; go_region; go_wp2
      rw [rounds_succ]; go_wp2; go_region; go_wp2
      rw [rounds_succ]; go_wp2; go_region; go_wp2
      rw [rounds_succ]; go_wp2; go_region; go_wp2
      rw [rounds_succ]; go_wp2_with fail
      refine (HD.out _).mono ?_
      rintro e w' ⟨rfl, rfl⟩
      cases k
      · go_wp2
        refine bodyPost_ret (v := .tuple #[.agg #[.int .i64 0, .int .i64 0, .bool false], .bool false]) (by simp [results, Tryz.results93, go_sem]) rfl ⟨retS (p := ⟨0, 0, false⟩) (by rw [← HF.out, if_neg (by simp)]), ?_⟩
        repeat (first | (with_reducible exact Below.refl _ _) | (with_reducible apply up_drew) | (with_reducible apply up_alloc) | (with_reducible refine up_set ?_ (by simp only; omega) _))
      · go_wp2_with fail
        refine (HR.out _).mono ?_
        rintro e w2 ⟨rfl, hb⟩
        have A0 := (((((((Bx.new w 78 [.int .i64 0, .int .i64 0, .bool false]).alloc _).drew).drew).drew).drew).up hb)
        have A1 := ((((((Bx.new (w.alloc _) 78 [.int .i64 _, .int .i64 n, .bool _]).drew).drew).drew).drew).up hb)
        simp only [World.size_alloc] at A1
        have B1 := up_trans (up_drew (up_drew (up_drew (up_drew (up_alloc (up_alloc (Below.refl _ w) _) _))))) hb
        have HB := Lib.hid B1
        have m0 := A0.cell 0 rfl; have m1 := A0.cell 1 rfl; have m2 := A0.cell 2 rfl; have mf := A0.free
        have n0 := A1.cell 0 rfl; have n1 := A1.cell 1 rfl; have n2 := A1.cell 2 rfl; have nf := A1.free
        clear hb B1 A0 A1
        cases f
        · go_wp2
          refine bodyPost_ret (v := .tuple #[.agg #[.int .i64 0, .int .i64 0, .bool false], .bool false]) (by simp [results, Tryz.results93, go_sem, m0, m1, m2]) rfl ⟨retS (p := ⟨0, 0, false⟩) (by rw [← HF.out, if_neg (by simp)]), ?_⟩
          have B4 := HB.out
          repeat (first | (with_reducible exact B4) | (with_reducible refine up_set ?_ (by simp only; omega) _))
        · go_wp2
          have e := HF.out
          simp only [and_self, if_true] at e
          subst e
          refine bodyPost_ret ?_ rfl ⟨rfl, ?_⟩
          · simp [results, Tryz.results93, go_sem, m0, m1, m2]
          have B4 := HB.out
          repeat (first | (with_reducible exact B4) | (with_reducible refine up_set ?_ (by simp only; omega) _))

theorem numIn (l : List UInt8) (d : Int) (d0 : 0 ≤ d) (d1 : d ≤ 4) : ((numOf l).2 = true ∧ rightB d (numOf l).1 = true) ↔ (d ≠ 0 ∧ (inOf l 1 64).2 = true) := by
  unfold inOf
  split
  · rename_i h
    constructor
    · rintro ⟨h1, h2⟩
      have := rightB_true h2
      exact ⟨by omega, h1⟩
    · rintro ⟨h1, h2⟩
      exact ⟨h2, by simp [rightB]; omega⟩
  · rename_i h
    constructor
    · rintro ⟨h1, h2⟩
      have := rightB_true h2
      exact absurd ⟨h1, by omega, by omega⟩ h
    · rintro ⟨h1, h2⟩
      cases h2
theorem inOf_num {l : List UInt8} {lo hi : Int} (h : (inOf l lo hi).2 = true) : (inOf l lo hi).1 = (numOf l).1 := by
  unfold inOf at h ⊢
  split at h
  · rename_i h2; rw [if_pos h2]
  · cases h
theorem sideO_cases (c : UInt8) : ((((c.toNat : Nat) : Int) == 76) = true ∧ (((c.toNat : Nat) : Int) == 82) = false ∧ (((c.toNat : Nat) : Int) == 66) = false ∧ (((c.toNat : Nat) : Int) == 84) = false ∧ sideO c = 1) ∨ ((((c.toNat : Nat) : Int) == 76) = false ∧ (((c.toNat : Nat) : Int) == 82) = true ∧ (((c.toNat : Nat) : Int) == 66) = false ∧ (((c.toNat : Nat) : Int) == 84) = false ∧ sideO c = 2) ∨ ((((c.toNat : Nat) : Int) == 76) = false ∧ (((c.toNat : Nat) : Int) == 82) = false ∧ (((c.toNat : Nat) : Int) == 66) = true ∧ (((c.toNat : Nat) : Int) == 84) = false ∧ sideO c = 3) ∨ ((((c.toNat : Nat) : Int) == 76) = false ∧ (((c.toNat : Nat) : Int) == 82) = false ∧ (((c.toNat : Nat) : Int) == 66) = false ∧ (((c.toNat : Nat) : Int) == 84) = true ∧ sideO c = 4) ∨ ((((c.toNat : Nat) : Int) == 76) = false ∧ (((c.toNat : Nat) : Int) == 82) = false ∧ (((c.toNat : Nat) : Int) == 66) = false ∧ (((c.toNat : Nat) : Int) == 84) = false ∧ sideO c = 0) := by
  have e1 := oct_eq c 76; have e2 := oct_eq c 82; have e3 := oct_eq c 66; have e4 := oct_eq c 84
  simp only [show (((76 : UInt8).toNat : Nat) : Int) = 76 from rfl, show (((82 : UInt8).toNat : Nat) : Int) = 82 from rfl, show (((66 : UInt8).toNat : Nat) : Int) = 66 from rfl, show (((84 : UInt8).toNat : Nat) : Int) = 84 from rfl] at e1 e2 e3 e4
  rw [e1, e2, e3, e4]
  by_cases h1 : c = 76
  · subst h1; left; decide
  by_cases h2 : c = 82
  · subst h2; right; left; decide
  by_cases h3 : c = 66
  · subst h3; right; right; left; decide
  by_cases h4 : c = 84
  · subst h4; right; right; right; left; decide
  right; right; right; right
  refine ⟨by simpa using h1, by simpa using h2, by simpa using h3, by simpa using h4, ?_⟩
  unfold sideO
  rw [if_neg h1, if_neg h2, if_neg h3, if_neg h4]
theorem getS_short (l : List UInt8) (h : l.length < 2) : getS l = (⟨0, 0, false⟩, false) := by
  match l, h with
  | [], _ => rfl
  | [c], _ =>
    have : (inOf (stripU []).1 1 64).2 = false := by
      unfold inOf stripU
      simp only [List.getLast?_nil, reduceCtorEq, if_false]
      rw [numOf_len [] (by simp)]
      rfl
    simp [getS, this]
theorem last_octet (r : ByteArray) (h : 1 ≤ r.size) : r.data.toList.getLast? = some (r[r.size - 1]'(by omega)) := by
  rw [List.getLast?_eq_getElem?, size_data, List.getElem?_eq_getElem (by rw [size_data]; omega)]
  rfl
theorem refStep_any (t : ByteArray) (w : World) (ht : t.size ≤ 9223372036854775807) :
    Calls Tryz.prog 93 #[.string t] w fun e w' => e = .returned (.tuple #[.agg #[.int .i64 (getS t.data.toList).1.d, .int .i64 (getS t.data.toList).1.n, .bool (getS t.data.toList).1.u], .bool (getS t.data.toList).2]) ∧ Below w.heap.size w w' := by
  by_cases h2 : t.size < 2
  · rw [getS_short _ (by rw [size_data]; exact h2)]
    exact refStep_short t w h2
  · obtain ⟨c, r, hl⟩ : ∃ c r, t.data.toList = c :: r := by
      cases h : t.data.toList with
      | nil => have := size_data t; rw [h] at this; simp at this; omega
      | cons c r => exact ⟨c, r, rfl⟩
    obtain rfl : t = tx (c :: r) := by rw [← hl, tx_data]
    rw [tx_size] at h2 ht
    simp only [List.length_cons] at h2 ht
    have hc : (tx (c :: r))[0]'(by rw [tx_size]; simp) = c := rfl
    have hlast := last_octet (tx r) (by rw [tx_size]; omega)
    rw [data_tx] at hlast
    have hb := sideO_bounds c
    refine refStep_core (tx (c :: r)) (tx r) (tx (stripU r).1) (((tx (c :: r))[0]'(by rw [tx_size]; simp)).toNat : Nat) _ (sideO c) (numOf (stripU r).1).1 (numOf (stripU r).1).2 (rightB (sideO c) (numOf (stripU r).1).1) (stripU r).2 w (by rw [tx_size, List.length_cons]; omega) (by rw [tx_size, List.length_cons]; omega) rfl (by rw [hc]; exact sideO_cases c) (by rw [tx_extract, tx_size, data_tx]; simp) (by rw [tx_size]; omega) (by rw [tx_size]; omega) _ ?_ rfl ?_ ?_ (fun w => ?_) (fun w => refRight_any _ _ _ w)
    · rw [data_tx]
      simp only [getS]
      have hn := numIn (stripU r).1 (sideO c) hb.1 hb.2
      by_cases h : sideO c ≠ 0 ∧ (inOf (stripU r).1 1 64).2 = true
      · rw [if_pos h, if_pos (hn.2 h), inOf_num h.2]
      · rw [if_neg h, if_neg (fun e => h (hn.1 e))]
    · have e := oct_eq ((tx r)[(tx r).size - 1]'(by rw [tx_size]; omega)) 117
      simp only [show (((117 : UInt8).toNat : Nat) : Int) = 117 from rfl] at e
      rw [e]
      unfold stripU
      rw [hlast]
      split
      · rename_i h; simpa using h
      · rename_i h; simpa using h
    · unfold stripU
      split
      · left
        refine ⟨rfl, ?_⟩
        rw [tx_extract, tx_size, data_tx, List.drop_zero, List.dropLast_eq_take]
      · right; exact ⟨rfl, rfl⟩
    · have := refGet_any (tx (stripU r).1) w (by
        have : (stripU r).1.length ≤ r.length := by
          unfold stripU
          split
          · simp
          · exact Nat.le_refl _
        rw [tx_size]; omega)
      rw [data_tx] at this
      exact this
end Go.Proofs.YtenigkjonegdmaaGreatDoor
/- What the document's own Names, plans, words and Plain answer: for every text. -/
namespace Go.Proofs.YtenigkjonegdmaaGreatDoor
open Go.RowKit DecMath
set_option linter.unusedVariables false

theorem cells_texts (w : World) (ls : List (List UInt8)) (hm : ls.length ≤ 1000000) : TxS (w.alloc (.cells (ls.map fun l => Value.string (tx l)).toArray 9)) (.slice (some ⟨w.heap.size, 0, none⟩) ls.length ls.length) ls := by
  refine ⟨_, _, rfl, .inr ⟨w.heap.size, rfl, fun i l hi => ?_, Nat.le_refl _, by unfold maxLen; omega⟩⟩
  have hc : (w.alloc (.cells (ls.map fun l => Value.string (tx l)).toArray 9)).heap[w.heap.size]? = some (.cells (ls.map fun l => Value.string (tx l)).toArray 9 (0, 0)) := heap_alloc_new w _
  unfold World.cell?
  simp only [hc]
  simp [hi]
def plansL : List (List UInt8) := catS.map fun e => joinM (partsC e.2)

set_option maxHeartbeats 1000000 in
set_option maxRecDepth 100000 in
theorem refNames_any (w : World) : Calls Tryz.prog 45 #[] w fun e w' => ∃ v, e = .returned v ∧ TxS w' v namesL ∧ Below w.heap.size w w' := by
  go_enter Tryz.func45, Tryz.ntmps45
  go_wp2
  go_ret
  exact ⟨_, rfl, cells_texts w namesL (by decide), up_alloc (Below.refl _ _) _⟩
set_option maxHeartbeats 1000000 in
set_option maxRecDepth 100000 in
theorem refPlans_any (w : World) : Calls Tryz.prog 71 #[] w fun e w' => ∃ v, e = .returned v ∧ TxS w' v plansL ∧ Below w.heap.size w w' := by
  go_enter Tryz.func71, Tryz.ntmps71
  go_wp2
  go_ret
  exact ⟨_, rfl, cells_texts w plansL (by decide +kernel), up_alloc (Below.refl _ _) _⟩

theorem refWords_any (s : ByteArray) (w : World) (hs : s.size ≤ 999999) : Calls Tryz.prog 91 #[.string s] w fun e w' => ∃ v, e = .returned v ∧ TxS w' v ((fieldsL s.data.toList).getD []) ∧ Below w.heap.size w w' := by
  have K := Lib.hid (refFields_any s w hs)
  go_enter Tryz.func91, Tryz.ntmps91
  go_wp2_with fail
  refine K.out.mono ?_
  rintro e w1 ⟨v, rfl, hv, hb⟩
  have HV := Lib.hid hv; have HB := Lib.hid hb
  clear hv hb
  go_wp2
  go_ret
  exact ⟨v, rfl, HV.out, HB.out⟩

theorem refPlain_len (X : ByteArray) (ls : List (List UInt8)) (w : World) (h : ls.length = 0 ∨ 7 < ls.length) (hl : ls.length ≤ 1000001)
    (KW : ∀ w, Calls Tryz.prog 91 #[.string X] w fun e w' => ∃ v, e = .returned v ∧ TxS w' v ls ∧ Below w.heap.size w w') :
    Calls Tryz.prog 70 #[.string X] w (GivesS none w) := by
  have HW := Lib.hid KW
  clear KW
  obtain ⟨n, hn⟩ : ∃ n, ls.length = n := ⟨_, rfl⟩
  rw [hn] at h hl
  rcases h with rfl | h7
  · go_enter Tryz.func70, Tryz.ntmps70
    go_wp2_with fail
    refine (HW.out _).mono ?_
    rintro e w1 ⟨v, rfl, hv, hb⟩
    obtain ⟨a, c, rfl, hA⟩ := hv.arg
    have A1 := ((Bx.new w 26 [.int .i64 0, .int .i64 0, .slice none 0 0]).up hb).alloc (.cells #[.int .i64 0, .int .i64 0, .slice none 0 0] 26)
    have B1 := Lib.hid (up_alloc (up_trans (up_alloc (Below.refl _ w) _) hb) (.cells #[.int .i64 0, .int .i64 0, .slice none 0 0] 26))
    have a0 := A1.cell 0 rfl; have a1 := A1.cell 1 rfl; have a2 := A1.cell 2 rfl; have af := A1.free
    clear hv hA hb A1
    go_wp2
    refine bodyPost_ret (v := .tuple #[.agg #[.int .i64 0, .int .i64 0, .slice none 0 0], .bool false]) (by simp [results, Tryz.results70, go_sem, a0, a1, a2]) rfl (gives_none ?_)
    have B3 := B1.out
    repeat (first | (with_reducible exact B3) | (with_reducible refine up_set ?_ (by simp only; omega) _))
  · have z0 : ((n : Int) == 0) = false := by simp; omega
    have z7 : (7 : Int) < (n : Int) := by omega
    go_enter Tryz.func70, Tryz.ntmps70
    go_wp2_with fail
    refine (HW.out _).mono ?_
    rintro e w1 ⟨v, rfl, hv, hb⟩
    obtain ⟨a, c, rfl, hA⟩ := hv.arg
    have A1 := ((Bx.new w 26 [.int .i64 0, .int .i64 0, .slice none 0 0]).up hb).alloc (.cells #[.int .i64 0, .int .i64 0, .slice none 0 0] 26)
    have B1 := Lib.hid (up_alloc (up_trans (up_alloc (Below.refl _ w) _) hb) (.cells #[.int .i64 0, .int .i64 0, .slice none 0 0] 26))
    have a0 := A1.cell 0 rfl; have a1 := A1.cell 1 rfl; have a2 := A1.cell 2 rfl; have af := A1.free
    clear hv hA hb A1
    go_wp2
    refine bodyPost_ret (v := .tuple #[.agg #[.int .i64 0, .int .i64 0, .slice none 0 0], .bool false]) (by simp [results, Tryz.results70, go_sem, a0, a1, a2]) rfl (gives_none ?_)
    have B3 := B1.out
    repeat (first | (with_reducible exact B3) | (with_reducible refine up_set ?_ (by simp only; omega) _))

/-- The first x of a text stands at k0; there is none: k0 is its length. -/
def FirstX (s : ByteArray) (k0 : Nat) : Prop := k0 ≤ s.size ∧ ∀ k (h : k < s.size), k < k0 → ((((s[k].toNat : Nat) : Int)) != 120) = true

set_option maxRecDepth 100000 in
set_option maxHeartbeats 2000000 in
theorem refPlain_nox (X H : ByteArray) (x : List UInt8) (t : List (List UInt8)) (w : World) (hn7 : t.length ≤ 6) (hH : tx x = H) (hx : FirstX H H.size) (hz : H.size ≤ 1000000)
    (KW : ∀ w, Calls Tryz.prog 91 #[.string X] w fun e w' => ∃ v, e = .returned v ∧ TxS w' v (x :: t) ∧ Below w.heap.size w w') :
    Calls Tryz.prog 70 #[.string X] w (GivesS none w) := by
  have HW := Lib.hid KW; have HX := Lib.hid hx; have HHH := Lib.hid hH
  clear KW hx hH
  obtain ⟨n, hn⟩ : ∃ n, (x :: t).length = n := ⟨_, rfl⟩
  have z0 : ((n : Int) == 0) = false := by simp; rw [← hn]; simp
  have z7 : decide ((7 : Int) < (n : Int)) = false := by simp; rw [← hn]; simp; omega
  have n0 : 0 < n := by rw [← hn]; simp
  go_enter Tryz.func70, Tryz.ntmps70
  go_wp2_with fail
  refine (HW.out _).mono ?_
  rintro e w1 ⟨v, rfl, hv, hb⟩
  obtain ⟨a, c, rfl, hA⟩ := hv.arg
  obtain ⟨g, o, rfl, hc, hcap, hmax⟩ := hA.resolve_left (by simp)
  have c0 := hc 0 x rfl
  rw [HHH.out, Nat.add_zero] at c0
  rw [hn] at hcap ⊢
  have hTS := fun i l (hi : t[i]? = some l) => hc (i + 1) l (by simpa using hi)
  have HTS := Lib.hid hTS
  have hRB := Bx.new w 26 [.int .i64 0, .int .i64 0, .slice none 0 0]
  have A1 := (hRB.up hb).alloc (.cells #[.int .i64 0, .int .i64 0, .slice none 0 0] 26)
  have A9 := Lib.hid (hRB.up hb)
  have hbw := up_trans (up_alloc (Below.refl _ w) _) hb
  have B9 := Lib.hid hbw
  have B1 := Lib.hid (up_alloc hbw (.cells #[.int .i64 0, .int .i64 0, .slice none 0 0] 26))
  have c1 := bl_cell (up_alloc (Below.refl _ w1) (.cells #[.int .i64 0, .int .i64 0, .slice none 0 0] 26)) c0
  have a0 := A1.cell 0 rfl; have a1 := A1.cell 1 rfl; have a2 := A1.cell 2 rfl; have af := A1.free
  have N0 := Lib.hid hn
  clear hv hA hb A1 hc hn hTS hbw hRB
  go_wp2
  go_loopw [6] (fun i wr => ∃ k : Nat, k ≤ H.size ∧ i = .int .i64 (k : Int) ∧ wr = w1.alloc (.cells #[.int .i64 0, .int .i64 0, .slice none 0 0] 26)) (fun i _ => H.size - (intOf i).toNat)
  case atStart => exact ⟨0, Nat.zero_le _, by go_num, rfl⟩
  case round =>
    obtain ⟨k, hk, rfl, rfl⟩ := hrel
    by_cases hlt : k < H.size
    · have hzk := HX.out.1
      have hxk := HX.out.2 k (by omega) hlt
      obtain ⟨q, hq⟩ : ∃ q : Int, ((H[k].toNat : Nat) : Int) = q := ⟨_, rfl⟩
      rw [hq] at hxk
      have z1 : (k : Int) < (H.size : Int) := by omega
      go_wp2
      go_roundw
      case rel => exact ⟨k + 1, by omega, by go_num, by trivial⟩
      case measure => simp [intOf]; omega
    · have hk2 : k = H.size := by omega
      go_wp2
      refine bodyPost_ret (v := .tuple #[.agg #[.int .i64 0, .int .i64 0, .slice none 0 0], .bool false]) (by simp [results, Tryz.results70, go_sem, a0, a1, a2]) rfl (gives_none ?_)
      have B3 := B1.out
      repeat (first | (with_reducible exact B3) | (with_reducible refine up_set ?_ (by simp only; omega) _))

set_option maxRecDepth 100000 in
set_option maxHeartbeats 4000000 in
theorem refPlain_sides (X H : ByteArray) (x : List UInt8) (t : List (List UInt8)) (w : World) (hn7 : t.length ≤ 6) (hH : tx x = H) (k0 : Nat) (hk0 : k0 < H.size) (h120 : ((H[k0].toNat : Nat) : Int) = 120) (hx : FirstX H k0) (hz : H.size ≤ 1000000) (P Q : ByteArray) (hP : H.extract 0 k0 = P) (hQ : ∀ w, (Instr.slice 9 (.string H) (some (.int .i64 ((k0 : Int) + 1))) none none).run Tryz.prog w = .ok (.string Q) w) (c r : Int) (u1 u2 v1 v2 : Bool) (hbad : u1 = false ∨ u2 = false ∨ v1 = false ∨ v2 = false)
    (KP : ∀ w, Calls Tryz.prog 92 #[.string P] w fun e w' => e = .returned (.tuple #[.int .i64 c, .bool u1]) ∧ w = w')
    (KQ : ∀ w, Calls Tryz.prog 92 #[.string Q] w fun e w' => e = .returned (.tuple #[.int .i64 r, .bool u2]) ∧ w = w')
    (KC : ∀ w, Calls Tryz.prog 72 #[.int .i64 c, .int .i64 1, .int .i64 64] w fun e w' => e = .returned (.bool v1) ∧ w' = w)
    (KR : ∀ w, Calls Tryz.prog 72 #[.int .i64 r, .int .i64 1, .int .i64 64] w fun e w' => e = .returned (.bool v2) ∧ w' = w)
    (KW : ∀ w, Calls Tryz.prog 91 #[.string X] w fun e w' => ∃ v, e = .returned v ∧ TxS w' v (x :: t) ∧ Below w.heap.size w w') :
    Calls Tryz.prog 70 #[.string X] w (GivesS none w) := by
  have HP := Lib.hid KP; have HQ := Lib.hid KQ; have HC := Lib.hid KC; have HR := Lib.hid KR
  clear KP KQ KC KR
  have z1 : (k0 : Int) < (H.size : Int) := by omega
  cases u1
  · clear hbad
    have HW := Lib.hid KW; have HX := Lib.hid hx; have HHH := Lib.hid hH
    clear KW hx hH
    obtain ⟨n, hn⟩ : ∃ n, (x :: t).length = n := ⟨_, rfl⟩
    have z0 : ((n : Int) == 0) = false := by simp; rw [← hn]; simp
    have z7 : decide ((7 : Int) < (n : Int)) = false := by simp; rw [← hn]; simp; omega
    have n0 : 0 < n := by rw [← hn]; simp
    go_enter Tryz.func70, Tryz.ntmps70
    go_wp2_with fail
    refine (HW.out _).mono ?_
    rintro e w1 ⟨v, rfl, hv, hb⟩
    obtain ⟨a, c, rfl, hA⟩ := hv.arg
    obtain ⟨g, o, rfl, hc, hcap, hmax⟩ := hA.resolve_left (by simp)
    have c0 := hc 0 x rfl
    rw [HHH.out, Nat.add_zero] at c0
    rw [hn] at hcap ⊢
    have hTS := fun i l (hi : t[i]? = some l) => hc (i + 1) l (by simpa using hi)
    have HTS := Lib.hid hTS
    have hRB := Bx.new w 26 [.int .i64 0, .int .i64 0, .slice none 0 0]
    have A1 := (hRB.up hb).alloc (.cells #[.int .i64 0, .int .i64 0, .slice none 0 0] 26)
    have A9 := Lib.hid (hRB.up hb)
    have hbw := up_trans (up_alloc (Below.refl _ w) _) hb
    have B9 := Lib.hid hbw
    have B1 := Lib.hid (up_alloc hbw (.cells #[.int .i64 0, .int .i64 0, .slice none 0 0] 26))
    have c1 := bl_cell (up_alloc (Below.refl _ w1) (.cells #[.int .i64 0, .int .i64 0, .slice none 0 0] 26)) c0
    have a0 := A1.cell 0 rfl; have a1 := A1.cell 1 rfl; have a2 := A1.cell 2 rfl; have af := A1.free
    have N0 := Lib.hid hn
    clear hv hA hb A1 hc hn hTS hbw hRB
    go_wp2
    go_loopw [6] (fun i wr => ∃ k : Nat, k ≤ k0 ∧ i = .int .i64 (k : Int) ∧ wr = w1.alloc (.cells #[.int .i64 0, .int .i64 0, .slice none 0 0] 26)) (fun i _ => k0 - (intOf i).toNat)
    case atStart => exact ⟨0, Nat.zero_le _, by go_num, rfl⟩
    case round =>
      obtain ⟨k, hk, rfl, rfl⟩ := hrel
      by_cases hlt : k < k0
      · have hzk := HX.out.1
        have hxk := HX.out.2 k (by omega) hlt
        obtain ⟨q, hq⟩ : ∃ q : Int, ((H[k].toNat : Nat) : Int) = q := ⟨_, rfl⟩
        rw [hq] at hxk
        have z1 : (k : Int) < (H.size : Int) := by omega
        go_wp2
        go_roundw
        case rel => exact ⟨k + 1, by omega, by go_num, by trivial⟩
        case measure => simp [intOf]; omega
      · obtain rfl : k = k0 := by omega
        go_wp2_with (first
          | (go_at_call 92; with_reducible refine (HP.out _).mono ?_; rintro e w' ⟨rfl, rfl⟩)
          | (go_at_call 92; with_reducible refine (HQ.out _).mono ?_; rintro e w' ⟨rfl, rfl⟩)
          | (go_at_call 72; with_reducible refine (HC.out _).mono ?_; rintro e w' ⟨rfl, rfl⟩)
          | (go_at_call 72; with_reducible refine (HR.out _).mono ?_; rintro e w' ⟨rfl, rfl⟩))
        refine bodyPost_ret (v := .tuple #[.agg #[.int .i64 0, .int .i64 0, .slice none 0 0], .bool false]) (by simp [results, Tryz.results70, go_sem, a0, a1, a2]) rfl (gives_none ?_)
        have B3 := B1.out
        repeat (first | (with_reducible exact B3) | (with_reducible refine up_set ?_ (by simp only; omega) _))
  cases u2
  · clear hbad
    have HW := Lib.hid KW; have HX := Lib.hid hx; have HHH := Lib.hid hH
    clear KW hx hH
    obtain ⟨n, hn⟩ : ∃ n, (x :: t).length = n := ⟨_, rfl⟩
    have z0 : ((n : Int) == 0) = false := by simp; rw [← hn]; simp
    have z7 : decide ((7 : Int) < (n : Int)) = false := by simp; rw [← hn]; simp; omega
    have n0 : 0 < n := by rw [← hn]; simp
    go_enter Tryz.func70, Tryz.ntmps70
    go_wp2_with fail
    refine (HW.out _).mono ?_
    rintro e w1 ⟨v, rfl, hv, hb⟩
    obtain ⟨a, c, rfl, hA⟩ := hv.arg
    obtain ⟨g, o, rfl, hc, hcap, hmax⟩ := hA.resolve_left (by simp)
    have c0 := hc 0 x rfl
    rw [HHH.out, Nat.add_zero] at c0
    rw [hn] at hcap ⊢
    have hTS := fun i l (hi : t[i]? = some l) => hc (i + 1) l (by simpa using hi)
    have HTS := Lib.hid hTS
    have hRB := Bx.new w 26 [.int .i64 0, .int .i64 0, .slice none 0 0]
    have A1 := (hRB.up hb).alloc (.cells #[.int .i64 0, .int .i64 0, .slice none 0 0] 26)
    have A9 := Lib.hid (hRB.up hb)
    have hbw := up_trans (up_alloc (Below.refl _ w) _) hb
    have B9 := Lib.hid hbw
    have B1 := Lib.hid (up_alloc hbw (.cells #[.int .i64 0, .int .i64 0, .slice none 0 0] 26))
    have c1 := bl_cell (up_alloc (Below.refl _ w1) (.cells #[.int .i64 0, .int .i64 0, .slice none 0 0] 26)) c0
    have a0 := A1.cell 0 rfl; have a1 := A1.cell 1 rfl; have a2 := A1.cell 2 rfl; have af := A1.free
    have N0 := Lib.hid hn
    clear hv hA hb A1 hc hn hTS hbw hRB
    go_wp2
    go_loopw [6] (fun i wr => ∃ k : Nat, k ≤ k0 ∧ i = .int .i64 (k : Int) ∧ wr = w1.alloc (.cells #[.int .i64 0, .int .i64 0, .slice none 0 0] 26)) (fun i _ => k0 - (intOf i).toNat)
    case atStart => exact ⟨0, Nat.zero_le _, by go_num, rfl⟩
    case round =>
      obtain ⟨k, hk, rfl, rfl⟩ := hrel
      by_cases hlt : k < k0
      · have hzk := HX.out.1
        have hxk := HX.out.2 k (by omega) hlt
        obtain ⟨q, hq⟩ : ∃ q : Int, ((H[k].toNat : Nat) : Int) = q := ⟨_, rfl⟩
        rw [hq] at hxk
        have z1 : (k : Int) < (H.size : Int) := by omega
        go_wp2
        go_roundw
        case rel => exact ⟨k + 1, by omega, by go_num, by trivial⟩
        case measure => simp [intOf]; omega
      · obtain rfl : k = k0 := by omega
        go_wp2_with (first
          | (go_at_call 92; with_reducible refine (HP.out _).mono ?_; rintro e w' ⟨rfl, rfl⟩)
          | (go_at_call 92; with_reducible refine (HQ.out _).mono ?_; rintro e w' ⟨rfl, rfl⟩)
          | (go_at_call 72; with_reducible refine (HC.out _).mono ?_; rintro e w' ⟨rfl, rfl⟩)
          | (go_at_call 72; with_reducible refine (HR.out _).mono ?_; rintro e w' ⟨rfl, rfl⟩))
        refine bodyPost_ret (v := .tuple #[.agg #[.int .i64 0, .int .i64 0, .slice none 0 0], .bool false]) (by simp [results, Tryz.results70, go_sem, a0, a1, a2]) rfl (gives_none ?_)
        have B3 := B1.out
        repeat (first | (with_reducible exact B3) | (with_reducible refine up_set ?_ (by simp only; omega) _))
  cases v1
  · clear hbad
    have HW := Lib.hid KW; have HX := Lib.hid hx; have HHH := Lib.hid hH
    clear KW hx hH
    obtain ⟨n, hn⟩ : ∃ n, (x :: t).length = n := ⟨_, rfl⟩
    have z0 : ((n : Int) == 0) = false := by simp; rw [← hn]; simp
    have z7 : decide ((7 : Int) < (n : Int)) = false := by simp; rw [← hn]; simp; omega
    have n0 : 0 < n := by rw [← hn]; simp
    go_enter Tryz.func70, Tryz.ntmps70
    go_wp2_with fail
    refine (HW.out _).mono ?_
    rintro e w1 ⟨v, rfl, hv, hb⟩
    obtain ⟨a, c, rfl, hA⟩ := hv.arg
    obtain ⟨g, o, rfl, hc, hcap, hmax⟩ := hA.resolve_left (by simp)
    have c0 := hc 0 x rfl
    rw [HHH.out, Nat.add_zero] at c0
    rw [hn] at hcap ⊢
    have hTS := fun i l (hi : t[i]? = some l) => hc (i + 1) l (by simpa using hi)
    have HTS := Lib.hid hTS
    have hRB := Bx.new w 26 [.int .i64 0, .int .i64 0, .slice none 0 0]
    have A1 := (hRB.up hb).alloc (.cells #[.int .i64 0, .int .i64 0, .slice none 0 0] 26)
    have A9 := Lib.hid (hRB.up hb)
    have hbw := up_trans (up_alloc (Below.refl _ w) _) hb
    have B9 := Lib.hid hbw
    have B1 := Lib.hid (up_alloc hbw (.cells #[.int .i64 0, .int .i64 0, .slice none 0 0] 26))
    have c1 := bl_cell (up_alloc (Below.refl _ w1) (.cells #[.int .i64 0, .int .i64 0, .slice none 0 0] 26)) c0
    have a0 := A1.cell 0 rfl; have a1 := A1.cell 1 rfl; have a2 := A1.cell 2 rfl; have af := A1.free
    have N0 := Lib.hid hn
    clear hv hA hb A1 hc hn hTS hbw hRB
    go_wp2
    go_loopw [6] (fun i wr => ∃ k : Nat, k ≤ k0 ∧ i = .int .i64 (k : Int) ∧ wr = w1.alloc (.cells #[.int .i64 0, .int .i64 0, .slice none 0 0] 26)) (fun i _ => k0 - (intOf i).toNat)
    case atStart => exact ⟨0, Nat.zero_le _, by go_num, rfl⟩
    case round =>
      obtain ⟨k, hk, rfl, rfl⟩ := hrel
      by_cases hlt : k < k0
      · have hzk := HX.out.1
        have hxk := HX.out.2 k (by omega) hlt
        obtain ⟨q, hq⟩ : ∃ q : Int, ((H[k].toNat : Nat) : Int) = q := ⟨_, rfl⟩
        rw [hq] at hxk
        have z1 : (k : Int) < (H.size : Int) := by omega
        go_wp2
        go_roundw
        case rel => exact ⟨k + 1, by omega, by go_num, by trivial⟩
        case measure => simp [intOf]; omega
      · obtain rfl : k = k0 := by omega
        go_wp2_with (first
          | (go_at_call 92; with_reducible refine (HP.out _).mono ?_; rintro e w' ⟨rfl, rfl⟩)
          | (go_at_call 92; with_reducible refine (HQ.out _).mono ?_; rintro e w' ⟨rfl, rfl⟩)
          | (go_at_call 72; with_reducible refine (HC.out _).mono ?_; rintro e w' ⟨rfl, rfl⟩)
          | (go_at_call 72; with_reducible refine (HR.out _).mono ?_; rintro e w' ⟨rfl, rfl⟩))
        refine bodyPost_ret (v := .tuple #[.agg #[.int .i64 0, .int .i64 0, .slice none 0 0], .bool false]) (by simp [results, Tryz.results70, go_sem, a0, a1, a2]) rfl (gives_none ?_)
        have B3 := B1.out
        repeat (first | (with_reducible exact B3) | (with_reducible refine up_set ?_ (by simp only; omega) _))
  · obtain rfl : v2 = false := by simpa using hbad
    clear hbad
    have HW := Lib.hid KW; have HX := Lib.hid hx; have HHH := Lib.hid hH
    clear KW hx hH
    obtain ⟨n, hn⟩ : ∃ n, (x :: t).length = n := ⟨_, rfl⟩
    have z0 : ((n : Int) == 0) = false := by simp; rw [← hn]; simp
    have z7 : decide ((7 : Int) < (n : Int)) = false := by simp; rw [← hn]; simp; omega
    have n0 : 0 < n := by rw [← hn]; simp
    go_enter Tryz.func70, Tryz.ntmps70
    go_wp2_with fail
    refine (HW.out _).mono ?_
    rintro e w1 ⟨v, rfl, hv, hb⟩
    obtain ⟨a, c, rfl, hA⟩ := hv.arg
    obtain ⟨g, o, rfl, hc, hcap, hmax⟩ := hA.resolve_left (by simp)
    have c0 := hc 0 x rfl
    rw [HHH.out, Nat.add_zero] at c0
    rw [hn] at hcap ⊢
    have hTS := fun i l (hi : t[i]? = some l) => hc (i + 1) l (by simpa using hi)
    have HTS := Lib.hid hTS
    have hRB := Bx.new w 26 [.int .i64 0, .int .i64 0, .slice none 0 0]
    have A1 := (hRB.up hb).alloc (.cells #[.int .i64 0, .int .i64 0, .slice none 0 0] 26)
    have A9 := Lib.hid (hRB.up hb)
    have hbw := up_trans (up_alloc (Below.refl _ w) _) hb
    have B9 := Lib.hid hbw
    have B1 := Lib.hid (up_alloc hbw (.cells #[.int .i64 0, .int .i64 0, .slice none 0 0] 26))
    have c1 := bl_cell (up_alloc (Below.refl _ w1) (.cells #[.int .i64 0, .int .i64 0, .slice none 0 0] 26)) c0
    have a0 := A1.cell 0 rfl; have a1 := A1.cell 1 rfl; have a2 := A1.cell 2 rfl; have af := A1.free
    have N0 := Lib.hid hn
    clear hv hA hb A1 hc hn hTS hbw hRB
    go_wp2
    go_loopw [6] (fun i wr => ∃ k : Nat, k ≤ k0 ∧ i = .int .i64 (k : Int) ∧ wr = w1.alloc (.cells #[.int .i64 0, .int .i64 0, .slice none 0 0] 26)) (fun i _ => k0 - (intOf i).toNat)
    case atStart => exact ⟨0, Nat.zero_le _, by go_num, rfl⟩
    case round =>
      obtain ⟨k, hk, rfl, rfl⟩ := hrel
      by_cases hlt : k < k0
      · have hzk := HX.out.1
        have hxk := HX.out.2 k (by omega) hlt
        obtain ⟨q, hq⟩ : ∃ q : Int, ((H[k].toNat : Nat) : Int) = q := ⟨_, rfl⟩
        rw [hq] at hxk
        have z1 : (k : Int) < (H.size : Int) := by omega
        go_wp2
        go_roundw
        case rel => exact ⟨k + 1, by omega, by go_num, by trivial⟩
        case measure => simp [intOf]; omega
      · obtain rfl : k = k0 := by omega
        go_wp2_with (first
          | (go_at_call 92; with_reducible refine (HP.out _).mono ?_; rintro e w' ⟨rfl, rfl⟩)
          | (go_at_call 92; with_reducible refine (HQ.out _).mono ?_; rintro e w' ⟨rfl, rfl⟩)
          | (go_at_call 72; with_reducible refine (HC.out _).mono ?_; rintro e w' ⟨rfl, rfl⟩)
          | (go_at_call 72; with_reducible refine (HR.out _).mono ?_; rintro e w' ⟨rfl, rfl⟩))
        refine bodyPost_ret (v := .tuple #[.agg #[.int .i64 0, .int .i64 0, .slice none 0 0], .bool false]) (by simp [results, Tryz.results70, go_sem, a0, a1, a2]) rfl (gives_none ?_)
        have B3 := B1.out
        repeat (first | (with_reducible exact B3) | (with_reducible refine up_set ?_ (by simp only; omega) _))

def PlainRel (ts : List (List UInt8)) (m : Nat) (c r : Int) (F : Option (List Sp)) (R B base : Nat) (w w1 : World) (i : Value) (wr : World) : Prop :=
  ∃ (k : Nat) (l : List Sp) (v : Value), k ≤ m ∧ i = .int .i64 ((k : Int) + 1) ∧ l.length = k ∧ Bx wr B [.int .i64 c, .int .i64 r, v] ∧ rowP wr base v l ∧ Bx wr R [.int .i64 0, .int .i64 0, .slice none 0 0] ∧ base ≤ wr.heap.size ∧ Below w.heap.size w wr ∧ Below w1.heap.size w1 wr ∧ Hid ((stepsM (ts.drop k)).map (fun q => l ++ q) = F)

set_option maxRecDepth 100000 in
set_option maxHeartbeats 4000000 in
theorem refPlain_good (X H : ByteArray) (x : List UInt8) (t : List (List UInt8)) (w : World) (hn7 : t.length ≤ 6) (hH : tx x = H) (k0 : Nat) (hk0 : k0 < H.size) (h120 : ((H[k0].toNat : Nat) : Int) = 120) (hx : FirstX H k0) (hz : H.size ≤ 1000000) (P Q : ByteArray) (hP : H.extract 0 k0 = P) (hQ : ∀ w, (Instr.slice 9 (.string H) (some (.int .i64 ((k0 : Int) + 1))) none none).run Tryz.prog w = .ok (.string Q) w) (c r : Int) (F : Option (List Sp)) (hF : stepsM t = F) (hsz : ∀ y ∈ t, y.length ≤ 1000000)
    (KP : ∀ w, Calls Tryz.prog 92 #[.string P] w fun e w' => e = .returned (.tuple #[.int .i64 c, .bool true]) ∧ w = w')
    (KQ : ∀ w, Calls Tryz.prog 92 #[.string Q] w fun e w' => e = .returned (.tuple #[.int .i64 r, .bool true]) ∧ w = w')
    (KC : ∀ w, Calls Tryz.prog 72 #[.int .i64 c, .int .i64 1, .int .i64 64] w fun e w' => e = .returned (.bool true) ∧ w' = w)
    (KR : ∀ w, Calls Tryz.prog 72 #[.int .i64 r, .int .i64 1, .int .i64 64] w fun e w' => e = .returned (.bool true) ∧ w' = w)
    (KW : ∀ w, Calls Tryz.prog 91 #[.string X] w fun e w' => ∃ v, e = .returned v ∧ TxS w' v (x :: t) ∧ Below w.heap.size w w') :
    Calls Tryz.prog 70 #[.string X] w (GivesS (F.map fun l => ⟨c, r, l⟩) w) := by
  have HP := Lib.hid KP; have HQ := Lib.hid KQ; have HC := Lib.hid KC; have HR := Lib.hid KR; have HF := Lib.hid hF; have HZ := Lib.hid hsz
  clear KP KQ KC KR hF hsz
  have z1 : (k0 : Int) < (H.size : Int) := by omega
  have HW := Lib.hid KW; have HX := Lib.hid hx; have HHH := Lib.hid hH
  clear KW hx hH
  obtain ⟨n, hn⟩ : ∃ n, (x :: t).length = n := ⟨_, rfl⟩
  have z0 : ((n : Int) == 0) = false := by simp; rw [← hn]; simp
  have z7 : decide ((7 : Int) < (n : Int)) = false := by simp; rw [← hn]; simp; omega
  have n0 : 0 < n := by rw [← hn]; simp
  go_enter Tryz.func70, Tryz.ntmps70
  go_wp2_with fail
  refine (HW.out _).mono ?_
  rintro e w1 ⟨v, rfl, hv, hb⟩
  obtain ⟨a, c9, rfl, hA⟩ := hv.arg
  obtain ⟨g, o, rfl, hc, hcap, hmax⟩ := hA.resolve_left (by simp)
  have c0 := hc 0 x rfl
  rw [HHH.out, Nat.add_zero] at c0
  rw [hn] at hcap ⊢
  have hTS := fun i l (hi : t[i]? = some l) => hc (i + 1) l (by simpa using hi)
  have HTS := Lib.hid hTS
  have hRB := Bx.new w 26 [.int .i64 0, .int .i64 0, .slice none 0 0]
  have A1 := (hRB.up hb).alloc (.cells #[.int .i64 0, .int .i64 0, .slice none 0 0] 26)
  have A9 := Lib.hid (hRB.up hb)
  have hbw := up_trans (up_alloc (Below.refl _ w) _) hb
  have B9 := Lib.hid hbw
  have B1 := Lib.hid (up_alloc hbw (.cells #[.int .i64 0, .int .i64 0, .slice none 0 0] 26))
  have c1 := bl_cell (up_alloc (Below.refl _ w1) (.cells #[.int .i64 0, .int .i64 0, .slice none 0 0] 26)) c0
  have a0 := A1.cell 0 rfl; have a1 := A1.cell 1 rfl; have a2 := A1.cell 2 rfl; have af := A1.free
  have N0 := Lib.hid hn
  clear hv hA hb A1 hc hn hTS hbw hRB
  go_wp2
  go_loopw [6] (fun i wr => ∃ k : Nat, k ≤ k0 ∧ i = .int .i64 (k : Int) ∧ wr = w1.alloc (.cells #[.int .i64 0, .int .i64 0, .slice none 0 0] 26)) (fun i _ => k0 - (intOf i).toNat)
  case atStart => exact ⟨0, Nat.zero_le _, by go_num, rfl⟩
  case round =>
    obtain ⟨k, hk, rfl, rfl⟩ := hrel
    by_cases hlt : k < k0
    · have hzk := HX.out.1
      have hxk := HX.out.2 k (by omega) hlt
      obtain ⟨q, hq⟩ : ∃ q : Int, ((H[k].toNat : Nat) : Int) = q := ⟨_, rfl⟩
      rw [hq] at hxk
      have z1 : (k : Int) < (H.size : Int) := by omega
      go_wp2
      go_roundw
      case rel => exact ⟨k + 1, by omega, by go_num, by trivial⟩
      case measure => simp [intOf]; omega
    · obtain rfl : k = k0 := by omega
      go_wp2_with (first
        | (go_at_call 92; with_reducible refine (HP.out _).mono ?_; rintro e w' ⟨rfl, rfl⟩)
        | (go_at_call 92; with_reducible refine (HQ.out _).mono ?_; rintro e w' ⟨rfl, rfl⟩)
        | (go_at_call 72; with_reducible refine (HC.out _).mono ?_; rintro e w' ⟨rfl, rfl⟩)
        | (go_at_call 72; with_reducible refine (HR.out _).mono ?_; rintro e w' ⟨rfl, rfl⟩))
      clear c1 a0 a1 a2 af c0
      have AR := A9.out.alloc (.cells #[.int .i64 c, .int .i64 r, .slice none 0 0] 26)
      have AB := Bx.new w1 26 [.int .i64 c, .int .i64 r, .slice none 0 0]
      have HB4 := Lib.hid (up_alloc B9.out (.cells #[.int .i64 c, .int .i64 r, .slice none 0 0] 26))
      have HB1 := Lib.hid (up_alloc (Below.refl _ w1) (.cells #[.int .i64 c, .int .i64 r, .slice none 0 0] 26))
      have hs4 : (w1.alloc (.cells #[.int .i64 c, .int .i64 r, .slice none 0 0] 26)).heap.size = w1.heap.size + 1 := by simp
      have hlt1 : w.heap.size < w1.heap.size := A9.out.lt
      obtain ⟨m, hm⟩ : ∃ m, t.length = m := ⟨_, rfl⟩
      obtain rfl : n = m + 1 := by have := N0.out; simp at this; omega
      have HM := Lib.hid hm; have HAR := Lib.hid AR; have HAB := Lib.hid AB; have HS4 := Lib.hid hs4
      clear AR AB hs4 z0 z7 n0
      generalize hw4 : (w1.alloc (.cells #[.int .i64 c, .int .i64 r, .slice none 0 0] 26)) = w4 at *
      clear hw4
      go_loopw [11] (fun i wr => PlainRel t m c r F w.heap.size w1.heap.size (w1.heap.size + 1) w w1 i wr) (fun i _ => m + 1 - (intOf i).toNat)
      case atStart => exact ⟨0, [], _, by omega, by go_num, rfl, HAB.out, rowP_nil _ _, HAR.out, by rw [HS4.out]; omega, HB4.out, HB1.out, Lib.hid (by rw [← HF.out]; simp)⟩
      case round =>
        obtain ⟨k, l, v, hk, rfl, hlk, AB, hrow, AR, hbase, hb, hb1, HMk⟩ := hrel
        by_cases hlt2 : k < m
        · obtain ⟨y, hy⟩ : ∃ y, t[k]? = some y := ⟨t[k]'(by rw [HM.out]; exact hlt2), List.getElem?_eq_getElem _⟩
          have hcx := bl_cell hb1 (HTS.out k y hy)
          have hzx := HZ.out y (List.mem_of_getElem? hy)
          have hd := drop_one hy
          have KS := fun w => refStep_any (tx y) w (by rw [tx_size]; omega)
          rw [data_tx] at KS
          have z0 : (0 : Int) ≤ (k : Int) + 1 := by omega
          have z2 : (k : Int) + 1 < (m : Int) + 1 := by omega
          obtain ⟨av, cv, rfl, -⟩ := hrow.steps
          have HRw := Lib.hid hrow; have HBB := Lib.hid hb; have HB1k := Lib.hid hb1; have HABk := Lib.hid AB; have HARk := Lib.hid AR; have HLK := Lib.hid hlk
          clear hrow hb hb1 AB AR hlk
          cases hs : (getS y).2
          · have E := Lib.hid (show F = none by rw [← HMk.out, hd]; exact steps_no hs)
            rw [hs] at KS
            generalize (getS y).1 = p at *
            obtain ⟨pd, pn, pu⟩ := p
            generalize tx y = T at *
            simp only at KS
            have HS := Lib.hid KS
            clear KS hs hd HMk hzx
            go_wp2_with fail
            refine (HS.out _).mono ?_
            rintro e w5 ⟨rfl, hb5⟩
            have A5 := (HARk.out.up hb5).alloc (.cells #[.int .i64 pd, .int .i64 pn, .bool pu] 78)
            have B5 := Lib.hid (up_alloc (up_trans HBB.out hb5) (.cells #[.int .i64 pd, .int .i64 pn, .bool pu] 78))
            have a0 := A5.cell 0 rfl; have a1 := A5.cell 1 rfl; have a2 := A5.cell 2 rfl; have af := A5.free
            clear A5 hb5 hcx
            go_wp2
            refine bodyPost_ret (v := .tuple #[.agg #[.int .i64 0, .int .i64 0, .slice none 0 0], .bool false]) (by simp [results, Tryz.results70, go_sem, a0, a1, a2]) rfl ?_
            rw [E.out]
            refine gives_none ?_
            have B6 := B5.out
            repeat (first | (with_reducible exact B6) | (with_reducible refine up_set ?_ (by simp only; omega) _))
          · have E := Lib.hid (show (stepsM (t.drop (k + 1))).map (fun q => (l ++ [(getS y).1]) ++ q) = F by rw [← HMk.out, hd]; exact (steps_yes hs).symm)
            rw [hs] at KS
            generalize (getS y).1 = p at *
            obtain ⟨pd, pn, pu⟩ := p
            generalize tx y = T at *
            simp only at KS
            have HS := Lib.hid KS
            clear KS hs hd HMk hzx
            go_wp2_with fail
            refine (HS.out _).mono ?_
            rintro e w5 ⟨rfl, hb5⟩
            have A5 := (HABk.out.up hb5).alloc (.cells #[.int .i64 pd, .int .i64 pn, .bool pu] 78)
            have R5 := (HARk.out.up hb5).alloc (.cells #[.int .i64 pd, .int .i64 pn, .bool pu] 78)
            have B5 := Lib.hid (up_alloc (up_trans HBB.out hb5) (.cells #[.int .i64 pd, .int .i64 pn, .bool pu] 78))
            have C5 := Lib.hid (up_alloc (up_trans HB1k.out hb5) (.cells #[.int .i64 pd, .int .i64 pn, .bool pu] 78))
            have P5 := Lib.hid ((HRw.out.up hb5).up (up_alloc (Below.refl _ _) (.cells #[.int .i64 pd, .int .i64 pn, .bool pu] 78)))
            have S5 : w1.heap.size + 1 ≤ (w5.alloc (.cells #[.int .i64 pd, .int .i64 pn, .bool pu] 78)).heap.size := by have := hb5.size; simp; omega
            have a2 := A5.cell 2 rfl
            have HA5 := Lib.hid A5; have HR5 := Lib.hid R5; have HS5 := Lib.hid S5
            clear hb5 hcx A5 R5 S5
            go_wp2_with (at_builtin; refine wpList_append_step rfl _ _ rfl (w1.heap.size + 1) (.slice av l.length cv) l rfl P5.out HS5.out pd pn pu _ (World.size_alloc _ _) rfl ?c1 ?_)
            case c1 => rw [HLK.out]; omega
            intro g6 cap6 w6 hrow6 hb6
            have A6 := HA5.out.low (Nat.lt_succ_self _) hb6
            have R6 := HR5.out.low (by omega) hb6
            have a2' := A6.cell 2 rfl; have af := A6.free
            have HA6 := Lib.hid A6; have HR6 := Lib.hid R6; have HB6 := Lib.hid hb6; have HW6 := Lib.hid hrow6
            clear A6 R6 hb6 hrow6 a2
            go_wp2
            go_roundw
            case rel =>
              repeat (apply Exists.intro)
              refine ⟨?_, rfl⟩
              refine ⟨k + 1, l ++ [⟨pd, pn, pu⟩], _, by omega, by go_num, by simp [HLK.out], HA6.out.set 2 _, HW6.out.set (by simp only; omega) _, HR6.out.far (by simp only; omega) _, ?_, ?_, ?_, E⟩
              · have := HB6.out.size; have := HS5.out; simp [World.setCell]; omega
              · exact up_set (B5.out.trans (HB6.out.mono (by omega))) (by simp only; omega) _
              · exact up_set (C5.out.trans (HB6.out.mono (by omega))) (by simp only; omega) _
            case measure => simp [intOf]; omega
        · obtain rfl : k = m := by omega
          have E := Lib.hid (show F = some l by rw [← HMk.out, List.drop_of_length_le (by rw [HM.out]; omega)]; simp [stepsM])
          obtain ⟨av, cv, rfl, -⟩ := hrow.steps
          subst hlk
          have HRw := Lib.hid hrow; have HBB := Lib.hid hb
          have b0 := AB.cell 0 rfl; have b1 := AB.cell 1 rfl; have b2 := AB.cell 2 rfl
          have a0 := AR.cell 0 rfl; have a1 := AR.cell 1 rfl; have a2 := AR.cell 2 rfl; have af := AR.free
          clear hrow AB AR hb hb1
          go_wp2
          rw [E.out]
          refine bodyPost_ret (v := .tuple #[.agg #[.int .i64 c, .int .i64 r, .slice av l.length cv], .bool true]) (by simp [results, Tryz.results70, go_sem, a0, a1, a2]) rfl ⟨av, cv, rfl, ?_, ?_⟩
          · have HR6 := HRw.out
            show InF _ _ av l
            refine InF.mono (base := w1.heap.size + 1) (rowP.inF (n := l.length) (c := cv) ?_) (by omega)
            repeat (first | (with_reducible exact HR6) | (with_reducible refine rowP.set ?_ (by simp only; omega) _))
          · have B6 := HBB.out
            repeat (first | (with_reducible exact B6) | (with_reducible refine up_set ?_ (by simp only; omega) _))

theorem cutX_split (x : List UInt8) : ((120 : UInt8) ∉ x ∧ cutX x = (x, [])) ∨ ∃ a b, x = a ++ 120 :: b ∧ (120 : UInt8) ∉ a ∧ cutX x = (a, b) := by
  induction x with
  | nil => left; exact ⟨by simp, rfl⟩
  | cons c r ih =>
    by_cases e : c = 120
    · subst e; right; exact ⟨[], r, rfl, by simp, by simp [cutX]⟩
    · have e2 : ¬ (120 : UInt8) = c := fun h => e h.symm
      rcases ih with ⟨h1, h2⟩ | ⟨a, b, rfl, h1, h2⟩
      · left
        exact ⟨by simp [e2, h1], by rw [cutX, if_neg e, h2]⟩
      · right
        exact ⟨c :: a, b, rfl, by simp [e2, h1], by rw [cutX, if_neg e, h2]⟩
theorem tx_at (x : List UInt8) (k : Nat) (h : k < (tx x).size) : (tx x)[k] = x[k]'(by rw [tx_size] at h; exact h) := rfl
theorem oct_ne {c : UInt8} (h : c ≠ 120) : (((c.toNat : Nat) : Int) != 120) = true := by
  have e := oct_eq c 120
  rw [show (((120 : UInt8).toNat : Nat) : Int) = 120 from rfl] at e
  unfold bne
  rw [e]
  simpa using h
theorem firstX_all {x : List UInt8} (h : (120 : UInt8) ∉ x) : FirstX (tx x) (tx x).size := ⟨Nat.le_refl _, fun k hk _ => by
  rw [tx_at]
  exact oct_ne fun e => h (e ▸ List.getElem_mem _)⟩
theorem firstX_at {a : List UInt8} (b : List UInt8) (h : (120 : UInt8) ∉ a) : FirstX (tx (a ++ 120 :: b)) a.length := ⟨by rw [tx_size]; simp, fun k hk h2 => by
  rw [tx_at, List.getElem_append_left h2]
  exact oct_ne fun e => h (e ▸ List.getElem_mem _)⟩
theorem slice_from (H : ByteArray) (k : Nat) (h : k < H.size) (w : World) : (Instr.slice 9 (.string H) (some (.int .i64 ((k : Int) + 1))) none none).run Tryz.prog w = .ok (.string (H.extract (k + 1) H.size)) w := by
  rw [run_slice_string_from_if w 9 H .i64 _ Tryz.underlying9, if_pos (by omega)]
  simp
theorem inOf_of {l : List UInt8} : (inOf l 1 64).2 = ((numOf l).2 && inB (numOf l).1 1 64) ∧ ((inOf l 1 64).2 = true → (inOf l 1 64).1 = (numOf l).1) := by
  unfold inOf inB
  split
  · rename_i h
    exact ⟨by simp [h], fun _ => rfl⟩
  · rename_i h
    refine ⟨?_, fun e => by cases e⟩
    cases h2 : (numOf l).2
    · rfl
    · simp only [Bool.true_and]
      rw [eq_comm, Bool.and_eq_false_iff, decide_eq_false_iff_not, decide_eq_false_iff_not]
      by_cases h3 : 1 ≤ (numOf l).1
      · right; intro h4; exact h ⟨h2, h3, h4⟩
      · exact .inl h3

theorem refPlain_any (X : ByteArray) (w : World) (hs : X.size ≤ 999999) : Calls Tryz.prog 70 #[.string X] w (GivesS (plainM X.data.toList) w) := by
  have KW := fun w => refWords_any X w hs
  have hz : ∀ p ∈ (fieldsL X.data.toList).getD [], p.length ≤ 999999 := by
    cases hf : fieldsL X.data.toList with
    | none => intro p hp; cases hp
    | some l =>
      intro p hp
      have h1 := fieldsL_octets hf
      rw [size_data] at h1
      have h2 : p.length ≤ l.flatten.length := (List.Sublist.length_le (List.sublist_flatten_of_mem hp))
      omega
  have hl : ((fieldsL X.data.toList).getD []).length ≤ 1000000 := by
    cases hf : fieldsL X.data.toList with
    | none => simp
    | some l =>
      have h1 := fieldsL_length hf
      rw [size_data] at h1
      simp; omega
  unfold plainM
  generalize (fieldsL X.data.toList).getD [] = ls at *
  cases ls with
  | nil => exact refPlain_len X [] w (.inl rfl) (by simp) KW
  | cons x t =>
    by_cases h6 : t.length ≤ 6
    · have hxz : (tx x).size ≤ 1000000 := by have := hz x (by simp); rw [tx_size]; omega
      rcases cutX_split x with ⟨hx, hcx⟩ | ⟨a, b, rfl, ha, hcx⟩
      · have e : readM (x :: t) = none := by
          simp only [readM]
          rw [if_neg]
          rintro ⟨-, -, h⟩
          rw [hcx] at h
          have := (inOf_true h).1
          have h2 := (inOf_true h).2
          exact itoa_some _ (by omega) this
        rw [e]
        exact refPlain_nox X (tx x) x t w h6 rfl (firstX_all hx) hxz KW
      · have hk0 : a.length < (tx (a ++ 120 :: b)).size := by rw [tx_size]; simp
        have h120 : (((tx (a ++ 120 :: b))[a.length].toNat : Nat) : Int) = 120 := by
          rw [tx_at, List.getElem_append_right (Nat.le_refl _)]
          simp
        have hP : (tx (a ++ 120 :: b)).extract 0 a.length = tx a := by rw [tx_extract, data_tx]; simp
        have hQ : (tx (a ++ 120 :: b)).extract (a.length + 1) (tx (a ++ 120 :: b)).size = tx b := by
          rw [tx_extract, data_tx, tx_size, List.take_of_length_le (Nat.le_refl _)]
          simp
        have hQ2 := fun w => slice_from (tx (a ++ 120 :: b)) a.length hk0 w
        rw [hQ] at hQ2
        rw [tx_size] at hxz
        simp only [List.length_append, List.length_cons] at hxz
        have KP := fun w => refGet_any (tx a) w (by rw [tx_size]; omega)
        have KQ := fun w => refGet_any (tx b) w (by rw [tx_size]; omega)
        rw [data_tx] at KP KQ
        have KC := fun w => refIn_any (numOf a).1 1 64 w
        have KR := fun w => refIn_any (numOf b).1 1 64 w
        have ia := @inOf_of a
        have ib := @inOf_of b
        by_cases hin : (inOf a 1 64).2 = true ∧ (inOf b 1 64).2 = true
        · have e : readM ((a ++ 120 :: b) :: t) = (stepsM t).map fun l => ⟨(numOf a).1, (numOf b).1, l⟩ := by
            simp only [readM]
            rw [hcx, if_pos ⟨h6, hin⟩, ia.2 hin.1, ib.2 hin.2]
          rw [e]
          have ja := ia.1.symm.trans hin.1
          have jb := ib.1.symm.trans hin.2
          rw [Bool.and_eq_true] at ja jb
          rw [ja.1] at KP
          rw [jb.1] at KQ
          rw [ja.2] at KC
          rw [jb.2] at KR
          exact refPlain_good X _ _ t w h6 rfl a.length hk0 h120 (firstX_at b ha) (by rw [tx_size]; simp; omega) (tx a) (tx b) hP hQ2 _ _ _ rfl (fun y hy => by have := hz y (by simp [hy]); omega) KP KQ KC KR KW
        · have e : readM ((a ++ 120 :: b) :: t) = none := by
            simp only [readM]
            rw [hcx, if_neg fun h => hin h.2]
          rw [e]
          refine refPlain_sides X _ _ t w h6 rfl a.length hk0 h120 (firstX_at b ha) (by rw [tx_size]; simp; omega) (tx a) (tx b) hP hQ2 _ _ _ _ _ _ ?_ KP KQ KC KR KW
          rw [ia.1, ib.1, Bool.and_eq_true, Bool.and_eq_true] at hin
          cases h1 : (numOf a).2
          · exact .inl rfl
          right
          cases h2 : (numOf b).2
          · exact .inl rfl
          right
          cases h3 : inB (numOf a).1 1 64
          · exact .inl rfl
          right
          cases h4 : inB (numOf b).1 1 64
          · rfl
          · exact absurd ⟨⟨h1, h3⟩, h2, h4⟩ hin
    · have e : readM (x :: t) = none := by simp only [readM]; rw [if_neg fun h => h6 h.1]
      rw [e]
      exact refPlain_len X (x :: t) w (.inr (by simp; omega)) (by omega) KW
end Go.Proofs.YtenigkjonegdmaaGreatDoor
/- What slices.Equal at steps, scheme.Same and the document's own Same answer: for all schemes. -/
namespace Go.Proofs.YtenigkjonegdmaaGreatDoor
open Go.RowKit
set_option linter.unusedVariables false

theorem run_neP (p q : Sp) (w : World) : (binOp .neq 78 (.agg #[.int .i64 p.d, .int .i64 p.n, .bool p.u]) (.agg #[.int .i64 q.d, .int .i64 q.n, .bool q.u])).run Tryz.prog w = .ok (.bool (!decide (p = q))) w := by
  obtain ⟨a, b, c⟩ := p
  obtain ⟨a', b', c'⟩ := q
  by_cases h0 : a = a' <;> by_cases h1 : b = b' <;> by_cases h2 : c = c'
  all_goals simp [go_sem, h0, h1, h2]

def EqRel (l1 l2 : List Sp) (F : Bool) (n : Nat) (w : World) (i : Value) (wr : World) : Prop :=
  ∃ k : Nat, k ≤ n ∧ i = .int .i64 (k : Int) ∧ Hid (decide (l1.drop k = l2.drop k) = F) ∧ ∃ u : Later w, wr = u.now
theorem eq_step {l1 l2 : List Sp} {k : Nat} {p q : Sp} (h1 : l1[k]? = some p) (h2 : l2[k]? = some q) : decide (l1.drop k = l2.drop k) = (decide (p = q) && decide (l1.drop (k + 1) = l2.drop (k + 1))) := by
  rw [drop_step h1, drop_step h2, Bool.eq_iff_iff]
  simp

theorem eqSc (s t : Sc) : decide (s = t) = ((s.c == t.c) && ((s.r == t.r) && decide (s.l = t.l))) := by
  obtain ⟨a, b, c⟩ := s
  obtain ⟨a', b', c'⟩ := t
  rw [Bool.eq_iff_iff]
  simp

def EqRel2 (l1 l2 : List Sp) (F : Bool) (n : Nat) (w : World) (i : Value) (wr : World) : Prop :=
  ∃ k : Nat, k ≤ n ∧ i = .int .i64 (k : Int) ∧ Hid (decide (l1.drop k = l2.drop k) = F) ∧ ∃ u : Later w, wr = u.now

set_option maxHeartbeats 1000000 in
theorem refSame_no (c r c' r' : Int) (a b : Option Addr) (n m k d : Nat) (w : World) (u1 u2 u3 : Bool) (e1 : (c != c') = u1) (e2 : (r != r') = u2) (e3 : ((n : Int) != (m : Int)) = u3) (h : u1 = true ∨ u2 = true ∨ u3 = true) :
    Calls Tryz.prog 34 #[.agg #[.int .i64 c, .int .i64 r, .slice a n k], .agg #[.int .i64 c', .int .i64 r', .slice b m d]] w fun e w' => e = .returned (.bool false) ∧ Below w.heap.size w w' := by
  cases u1
  · cases u2
    · obtain rfl : u3 = true := by simpa using h
      clear h
      go_enter Tryz.func34, Tryz.ntmps34
      go_wp2
      go_ret
      exact ⟨rfl, up_alloc (up_alloc (Below.refl _ _) _) _⟩
    · clear h e3
      go_enter Tryz.func34, Tryz.ntmps34
      go_wp2
      go_ret
      exact ⟨rfl, up_alloc (up_alloc (Below.refl _ _) _) _⟩
  · clear h e2 e3
    go_enter Tryz.func34, Tryz.ntmps34
    go_wp2
    go_ret
    exact ⟨rfl, up_alloc (up_alloc (Below.refl _ _) _) _⟩

set_option maxHeartbeats 2000000 in
theorem refSame_yes (c r : Int) (a b : Option Addr) (l1 l2 : List Sp) (n m d : Nat) (w : World) (hl : n ≤ 1000000) (hn1 : l1.length = n) (hn2 : l2.length = n) (h1 : InL w a l1) (h2 : InL w b l2) :
    Calls Tryz.prog 34 #[.agg #[.int .i64 c, .int .i64 r, .slice a n m], .agg #[.int .i64 c, .int .i64 r, .slice b n d]] w fun e w' => e = .returned (.bool (decide (l1 = l2))) ∧ Below w.heap.size w w' := by
  obtain ⟨F, hF⟩ : ∃ F, decide (l1 = l2) = F := ⟨_, rfl⟩
  rw [hF]
  have HF := Lib.hid hF; have H1 := Lib.hid h1; have H2 := Lib.hid h2; have N1 := Lib.hid hn1; have N2 := Lib.hid hn2
  clear hF h1 h2 hn1 hn2
  go_enter Tryz.func34, Tryz.ntmps34
  go_wp2
  have A0 := (Bx.new w 26 [.int .i64 c, .int .i64 r, .slice a n m]).alloc (.cells #[.int .i64 c, .int .i64 r, .slice b n d] 26)
  have A1 := Bx.new (w.alloc (.cells #[.int .i64 c, .int .i64 r, .slice a n m] 26)) 26 [.int .i64 c, .int .i64 r, .slice b n d]
  have B1 : Below w.heap.size w ((w.alloc (.cells #[.int .i64 c, .int .i64 r, .slice a n m] 26)).alloc (.cells #[.int .i64 c, .int .i64 r, .slice b n d] 26)) := up_alloc (up_alloc (Below.refl _ _) _) _
  simp only [World.size_alloc] at A1
  have x2 := A0.cell 2 rfl; have y2 := A1.cell 2 rfl
  have HB1 := Lib.hid B1
  clear A0 A1 B1
  generalize hw0 : ((w.alloc (.cells #[.int .i64 c, .int .i64 r, .slice a n m] 26)).alloc (.cells #[.int .i64 c, .int .i64 r, .slice b n d] 26)) = w0 at *
  clear hw0
  go_loopw [5] (fun i wr => EqRel2 l1 l2 F n w0 i wr) (fun i _ => n - (intOf i).toNat)
  case atStart => exact ⟨0, by omega, by go_num, HF.out, ⟨w0, Below.refl _ _⟩, rfl⟩
  case round =>
    obtain ⟨k, hk, rfl, HM, u, rfl⟩ := hrel
    have s2 := u.cell x2
    by_cases hlt : k < n
    · obtain ⟨p, hp⟩ : ∃ p, l1[k]? = some p := ⟨l1[k]'(by rw [N1.out]; exact hlt), List.getElem?_eq_getElem _⟩
      obtain ⟨q, hq⟩ : ∃ q, l2[k]? = some q := ⟨l2[k]'(by rw [N2.out]; exact hlt), List.getElem?_eq_getElem _⟩
      obtain ⟨b1, o1, rfl, hc1⟩ := H1.out.resolve_left (by rintro rfl; cases hp)
      obtain ⟨b2, o2, rfl, hc2⟩ := H2.out.resolve_left (by rintro rfl; cases hq)
      obtain ⟨p0, p1, p2⟩ := (hc1.up HB1.out) k p hp
      obtain ⟨q0, q1, q2⟩ := (hc2.up HB1.out) k q hq
      have j0 := fun u : Later w0 => u.cell p0
      have j1 := fun u : Later w0 => u.cell p1
      have j2 := fun u : Later w0 => u.cell p2
      have i0 := fun u : Later w0 => u.cell q0
      have i1 := fun u : Later w0 => u.cell q1
      have i2 := fun u : Later w0 => u.cell q2
      have g0 := fun u : Later w0 => u.cell x2
      have g1 := fun u : Later w0 => u.cell y2
      have hd := eq_step hp hq
      have hne := fun w => run_neP p q w
      have z0 : (0 : Int) ≤ (k : Int) := by omega
      have z1 : (k : Int) < (n : Int) := by omega
      have HH := Lib.hid HM.out
      rw [hd] at HH
      clear hc1 hc2 p0 p1 p2 q0 q1 q2 hp hq hd HM
      generalize decide (p = q) = e at *
      obtain ⟨pd, pn, pu⟩ := p
      obtain ⟨qd, qn, qu⟩ := q
      simp only at j0 j1 j2 i0 i1 i2 hne
      cases e
      · have E := Lib.hid (show F = false by rw [← HH.out]; rfl)
        clear HH
        simp only [Bool.not_false] at hne
        go_wp2
        refine wp_region_later (by kernel_rfl) (by kernel_rfl) ?_
        repeat (go_big_quiet_step (fail))
        refine wpQuiet_nil ?_
        rintro _ ⟨u2, rfl⟩
        clear j0 j1 j2 i0 i1 i2 g0 g1 hne
        go_wp2
        go_ret
        exact ⟨by rw [E.out]; rfl, up_trans HB1.out u2.up⟩
      · have E := Lib.hid (show decide (l1.drop (k + 1) = l2.drop (k + 1)) = F by rw [← HH.out]; simp)
        clear HH
        simp only [Bool.not_true] at hne
        go_wp2
        refine wp_region_later (by kernel_rfl) (by kernel_rfl) ?_
        repeat (go_big_quiet_step (fail))
        refine wpQuiet_nil ?_
        rintro _ ⟨u2, rfl⟩
        clear j0 j1 j2 i0 i1 i2 g0 g1 hne
        go_wp2
        go_roundw
        case rel => exact ⟨k + 1, by omega, by go_num, E, u2, rfl⟩
        case measure => simp [intOf]; omega
    · obtain rfl : k = n := by omega
      have E := Lib.hid (show F = true by rw [← HM.out, List.drop_of_length_le (by rw [N1.out]; omega), List.drop_of_length_le (by rw [N2.out]; omega)]; simp)
      clear HM
      go_wp2
      go_ret
      exact ⟨by rw [E.out]; rfl, up_trans HB1.out u.up⟩

theorem refSame_any (s t : Sc) (a b : Option Addr) (k d : Nat) (w : World) (hl : s.l.length ≤ 1000000) (h1 : InL w a s.l) (h2 : InL w b t.l) :
    Calls Tryz.prog 34 #[.agg #[.int .i64 s.c, .int .i64 s.r, .slice a s.l.length k], .agg #[.int .i64 t.c, .int .i64 t.r, .slice b t.l.length d]] w fun e w' => e = .returned (.bool (decide (s = t))) ∧ Below w.heap.size w w' := by
  by_cases h : s.c = t.c ∧ s.r = t.r ∧ s.l.length = t.l.length
  · obtain ⟨e1, e2, e3⟩ := h
    have hd : decide (s = t) = decide (s.l = t.l) := by rw [eqSc, e1, e2]; simp
    rw [hd, e1, e2, ← e3]
    exact refSame_yes _ _ a b s.l t.l _ k d w hl rfl e3.symm h1 h2
  · have hd : decide (s = t) = false := by
      rw [decide_eq_false_iff_not]
      rintro rfl
      exact h ⟨rfl, rfl, rfl⟩
    rw [hd]
    refine refSame_no s.c s.r t.c t.r a b _ _ k d w _ _ _ rfl rfl rfl ?_
    simp only [bne_iff_ne, ne_eq]
    omega
end Go.Proofs.YtenigkjonegdmaaGreatDoor
