/- What step.Put and step.Get answer, for every step and every text, where the library's variables are as the program's text lays them. -/
import Derived.Test.YtaphkplidnepaaaDoorStepMath
namespace Go.Proofs.YtaphkplidnepaaaDoor
open Go.RowKit DecMath
set_option linter.unusedVariables false

theorem stepPut_no (d n : Int) (u : Bool) (w : World)
    (KR : ∀ w, Calls Tryd.prog 52 #[.agg #[.int .i64 d, .int .i64 n, .bool u]] w fun e w' => e = .returned (.bool false) ∧ Below w.heap.size w w') :
    Calls Tryd.prog 51 #[.agg #[.int .i64 d, .int .i64 n, .bool u]] w fun e w' => e = .returned (.tuple #[.string ⟨#[]⟩, .bool false]) ∧ Below w.heap.size w w' := by
  have HR := Lib.hid KR
  clear KR
  go_enter Tryd.func51, Tryd.ntmps51
  go_wp2_with fail
  refine (HR.out _).mono ?_
  rintro e w1 ⟨rfl, hb⟩
  go_wp2
  go_ret2
  exact ⟨rfl, up_trans (up_alloc (Below.refl _ _) _) hb⟩

set_option maxHeartbeats 1000000 in
theorem stepPut_core (d n : Int) (u : Bool) (P q R S T : ByteArray) (w : World) (hR : P ++ q = R) (hS : R ++ ⟨#[117]⟩ = S) (hT : (if u = true then S else R) = T) (p1 : P.size ≤ 100) (q1 : q.size ≤ 100) (r1 : R.size ≤ 200) (hg : Tab w)
    (KR : ∀ w, Calls Tryd.prog 52 #[.agg #[.int .i64 d, .int .i64 n, .bool u]] w fun e w' => e = .returned (.bool true) ∧ Below w.heap.size w w')
    (KW : ∀ w, Calls Tryd.prog 61 #[.int .i64 3, .int .i64 d] w fun e w' => e = .returned (.string P) ∧ Below w.heap.size w w')
    (KD : ∀ w, Tab w → Calls Tryd.prog 50 #[.int .i64 n] w fun e w' => e = .returned (.string q) ∧ Below w.heap.size w w') :
    Calls Tryd.prog 51 #[.agg #[.int .i64 d, .int .i64 n, .bool u]] w fun e w' => e = .returned (.tuple #[.string T, .bool true]) ∧ Below w.heap.size w w' := by
  have HR := Lib.hid KR; have HW := Lib.hid KW; have HD := Lib.hid KD; have G := Lib.hid hg
  clear KR KW KD hg
  cases u
  all_goals
    simp only [Bool.false_eq_true, if_false, if_true] at hT
    subst hT
    go_enter Tryd.func51, Tryd.ntmps51
    go_wp2_with fail
    refine (HR.out _).mono ?_
    rintro e w1 ⟨rfl, hb⟩
    have A := (Bx.new w 48 [.int .i64 d, .int .i64 n, .bool _]).up hb
    have k0 := A.cell 0 rfl; have k1 := A.cell 1 rfl; have k2 := A.cell 2 rfl
    have B1 := Lib.hid (up_trans (up_alloc (Below.refl _ w) _) hb)
    have G1 := Lib.hid (G.out.below B1.out)
    clear hb A
    go_wp2_with fail
    refine later_start (w := w1) ?_
    intro v
    have j0 := fun v : Later w1 => v.cell k0
    have j1 := fun v : Later w1 => v.cell k1
    have j2 := fun v : Later w1 => v.cell k2
    clear k0 k1 k2
    refine wp_region_later (by kernel_rfl) (by kernel_rfl) ?_
    repeat (go_big_quiet_step ((first
      | (go_at_call 61; with_reducible exact Later.call (HW.out _))
      | (go_at_call 50; with_reducible exact Later.call (HD.out _ (G1.out.below (Later.up _)))))))
    refine wpQuiet_nil ?_
    rintro _ ⟨v2, rfl⟩
    go_wp2
    go_ret2
    exact ⟨rfl, up_trans B1.out v2.up⟩

theorem stepPut_any (p : Sp) (w : World) (hg : Tab w) :
    Calls Tryd.prog 51 #[.agg #[.int .i64 p.d, .int .i64 p.n, .bool p.u]] w fun e w' => e = .returned (.tuple #[.string (if rightB p.d p.n = true then tx (textS p) else ⟨#[]⟩), .bool (rightB p.d p.n)]) ∧ Below w.heap.size w w' := by
  have KR := fun w => stepRight_any p.d p.n p.u w
  cases h : rightB p.d p.n
  · rw [h] at KR
    exact stepPut_no p.d p.n p.u w KR
  · rw [h] at KR
    obtain ⟨⟨d0, d1⟩, n0, n1⟩ := rightB_true h
    have hl := itoa_len p.n (by omega) (by omega)
    have hw : word (tab 3) p.d = tx [sideC p.d] := by
      obtain e | e | e | e : p.d = 1 ∨ p.d = 2 ∨ p.d = 3 ∨ p.d = 4 := by omega
      all_goals (rw [e]; decide +kernel)
    refine stepPut_core p.d p.n p.u (tx [sideC p.d]) (tx (Lib.itoa p.n)) _ _ _ w rfl rfl ?_ (by rw [tx_size]; simp) (by rw [tx_size]; omega) (by rw [tx_append, tx_size]; simp; omega) hg KR (fun w => hw ▸ wordsPut_any 3 p.d w) (fun w hw => decPut_any p.n w (by omega) (by omega) hw)
    rw [if_pos rfl]
    unfold textS
    cases p.u
    · simp [tx_append]
    · have e : (⟨#[117]⟩ : ByteArray) = tx [117] := rfl
      simp [tx_append, e]

theorem retS {F : Sp × Bool} {p : Sp} {b : Bool} (h : F = (p, b)) : Ending.returned (.tuple #[.agg #[.int .i64 p.d, .int .i64 p.n, .bool p.u], .bool b]) = .returned (.tuple #[.agg #[.int .i64 F.1.d, .int .i64 F.1.n, .bool F.1.u], .bool F.2]) := by rw [h]

theorem stepGet_nil (w : World) :
    Calls Tryd.prog 45 #[.string ⟨#[]⟩] w fun e w' => e = .returned (.tuple #[.agg #[.int .i64 0, .int .i64 0, .bool false], .bool false]) ∧ Below w.heap.size w w' := by
  go_enter Tryd.func45, Tryd.ntmps45
  go_wp2
  refine bodyPost_ret (v := .tuple #[.agg #[.int .i64 0, .int .i64 0, .bool false], .bool false]) (by simp [results, Tryd.results45, go_sem]) rfl ⟨rfl, ?_⟩
  repeat (first | (with_reducible exact Below.refl _ _) | (with_reducible apply up_alloc) | (with_reducible refine up_set ?_ (by simp only; omega) _))

set_option maxHeartbeats 1000000 in
theorem stepGet_core (t c r g : ByteArray) (s n : Int) (k b f : Bool) (w : World) (t0 : 1 ≤ t.size) (t1 : t.size ≤ 9223372036854775807) (hne : (t.toList == []) = false) (hc : t.extract 0 1 = c) (hr : t.extract 1 t.size = r) (hg : Good w) (F : Sp × Bool) (hF : (if k = true ∧ f = true then ((⟨s, n, b⟩ : Sp), true) else (⟨0, 0, false⟩, false)) = F)
    (KW : ∀ w, Calls Tryd.prog 55 #[.int .i64 3, .string c] w fun e w' => e = .returned (.tuple #[.int .i64 s, .bool k]) ∧ Below w.heap.size w w')
    (KC : ∀ w, Calls Tryd.prog 56 #[.string r, .string ⟨#[117]⟩] w fun e w' => e = .returned (.tuple #[.string g, .bool b]) ∧ w' = w)
    (KD : ∀ w, Good w → Calls Tryd.prog 44 #[.string g, .int .i64 1, .int .i64 64] w fun e w' => e = .returned (.tuple #[.int .i64 n, .bool f]) ∧ Below w.heap.size w w') :
    Calls Tryd.prog 45 #[.string t] w fun e w' => e = .returned (.tuple #[.agg #[.int .i64 F.1.d, .int .i64 F.1.n, .bool F.1.u], .bool F.2]) ∧ Below w.heap.size w w' := by
  have HW := Lib.hid KW; have HC := Lib.hid KC; have HD := Lib.hid KD; have G := Lib.hid hg; have HF := Lib.hid hF
  clear KW KC KD hg hF
  go_enter Tryd.func45, Tryd.ntmps45
  go_wp2_with fail
  refine (HW.out _).mono ?_
  rintro e w1 ⟨rfl, hb⟩
  have A := (Bx.new w 48 [.int .i64 0, .int .i64 0, .bool false]).up hb
  have B1 := Lib.hid (up_trans (up_alloc (Below.refl _ w) _) hb)
  clear hb
  go_wp2_with fail
  refine (HC.out _).mono ?_
  rintro e w2 ⟨rfl, rfl⟩
  go_wp2_with fail
  refine (HD.out _ (G.out.below B1.out)).mono ?_
  rintro e w3 ⟨rfl, hb⟩
  have A3 := A.up hb
  have B3 := Lib.hid (up_trans B1.out hb)
  clear hb A
  have a0 := A3.cell 0 rfl; have a1 := A3.cell 1 rfl; have a2 := A3.cell 2 rfl; have af := A3.free
  clear A3
  cases k
  · go_wp2
    refine bodyPost_ret (v := .tuple #[.agg #[.int .i64 0, .int .i64 0, .bool false], .bool false]) (by simp [results, Tryd.results45, go_sem, a0, a1, a2]) rfl ⟨retS (p := ⟨0, 0, false⟩) (by rw [← HF.out, if_neg (by simp)]), ?_⟩
    have B4 := B3.out
    repeat (first | (with_reducible exact B4) | (with_reducible refine up_set ?_ (by simp only; omega) _))
  cases f
  · go_wp2
    refine bodyPost_ret (v := .tuple #[.agg #[.int .i64 0, .int .i64 0, .bool false], .bool false]) (by simp [results, Tryd.results45, go_sem, a0, a1, a2]) rfl ⟨retS (p := ⟨0, 0, false⟩) (by rw [← HF.out, if_neg (by simp)]), ?_⟩
    have B4 := B3.out
    repeat (first | (with_reducible exact B4) | (with_reducible refine up_set ?_ (by simp only; omega) _))
  · go_wp2
    refine bodyPost_ret (v := .tuple #[.agg #[.int .i64 s, .int .i64 n, .bool b], .bool true]) (by simp [results, Tryd.results45, go_sem, a0, a1, a2]) rfl ⟨retS (p := ⟨s, n, b⟩) (by rw [← HF.out, if_pos (by simp)]), ?_⟩
    have B4 := B3.out
    repeat (first | (with_reducible exact B4) | (with_reducible refine up_set ?_ (by simp only; omega) _))

theorem wordsGet_side (c : UInt8) (w : World) :
    Calls Tryd.prog 55 #[.int .i64 3, .string (tx [c])] w fun e w' => e = .returned (.tuple #[.int .i64 (sideO c), .bool (decide (sideO c ≠ 0))]) ∧ Below w.heap.size w w' := by
  by_cases h1 : c = 76
  · subst h1; exact wordsGet_yes (t := 3) (k := 0) (by decide +kernel) w
  by_cases h2 : c = 82
  · subst h2; exact wordsGet_yes (t := 3) (k := 1) (by decide +kernel) w
  by_cases h3 : c = 66
  · subst h3; exact wordsGet_yes (t := 3) (k := 2) (by decide +kernel) w
  by_cases h4 : c = 84
  · subst h4; exact wordsGet_yes (t := 3) (k := 3) (by decide +kernel) w
  have e : sideO c = 0 := by unfold sideO; rw [if_neg h1, if_neg h2, if_neg h3, if_neg h4]
  rw [e]
  refine wordsGet_no ?_ w
  have ht : tab 3 = [tx [76], tx [82], tx [66], tx [84]] := by decide +kernel
  rw [ht]
  intro hm
  have key : ∀ x : UInt8, tx [c] = tx [x] → c = x := fun x hx => by have := tx_inj hx; simpa using this
  simp only [List.mem_cons, List.not_mem_nil, or_false] at hm
  rcases hm with hm | hm | hm | hm
  · exact h1 (key _ hm)
  · exact h2 (key _ hm)
  · exact h3 (key _ hm)
  · exact h4 (key _ hm)

theorem stepGet_any (t : ByteArray) (w : World) (ht : t.size ≤ 9223372036854775807) (hg : Good w) :
    Calls Tryd.prog 45 #[.string t] w fun e w' => e = .returned (.tuple #[.agg #[.int .i64 (getS t.data.toList).1.d, .int .i64 (getS t.data.toList).1.n, .bool (getS t.data.toList).1.u], .bool (getS t.data.toList).2]) ∧ Below w.heap.size w w' := by
  obtain ⟨l, rfl⟩ : ∃ l, t = tx l := ⟨_, (tx_data t).symm⟩
  rw [tx_size] at ht
  rw [data_tx]
  cases l with
  | nil => exact stepGet_nil w
  | cons c r =>
    have hs := stripU_trim r
    have hr : (stripU r).1.length ≤ r.length := by
      unfold stripU
      split
      · simp
      · exact Nat.le_refl _
    simp only [List.length_cons] at ht
    refine stepGet_core (tx (c :: r)) (tx [c]) (tx r) (tx (stripU r).1) (sideO c) (inOf (stripU r).1 1 64).1 (decide (sideO c ≠ 0)) (stripU r).2 (inOf (stripU r).1 1 64).2 w (by rw [tx_size]; simp) (by rw [tx_size]; simpa using ht) (by rw [tx_toList]; rfl)
      (by rw [tx_extract, data_tx]; simp) (by rw [tx_extract, tx_size, data_tx]; simp) hg _ ?_ (fun w => wordsGet_side c w) (fun w => ?_) (fun w h => ?_)
    · unfold getS
      simp only [decide_eq_true_eq]
    · have := Tryd.strings_CutSuffix (tx r) ⟨#[117]⟩ w (by rw [tx_size]; omega)
      rw [data_tx, show (⟨#[117]⟩ : ByteArray).data.toList = [117] from rfl, hs.1, hs.2] at this
      exact this
    · have := decWithin_any (tx (stripU r).1) 1 64 w (by rw [tx_size]; omega) h
      rw [data_tx] at this
      exact this
end Go.Proofs.YtaphkplidnepaaaDoor
