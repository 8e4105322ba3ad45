/- The law GridSets answers true for every two ints and every list of puts: what stands in a grid is what was laid there last; no condition. -/
import Derived.Test.YtlbklfanphkacaaGridAlive
import Derived.Test.YtlbklfanphkacaaGridLaw
import Derived.Test.YtlbklfanphkacaaGridIs
namespace Go.Proofs.Ytlbklfanphkacaa
open Go.RowKit
set_option linter.unusedVariables false

/-- The puts that came in, as a list. -/
theorem puts_of (a : Option Addr) (len cap : Nat) (V : Nat → Nat → Int) (w : World)
    (h : (a = none ∧ len = 0 ∧ cap = 0) ∨ ∃ x, a = some x ∧ len ≤ cap ∧ cap ≤ maxLen ∧ ∀ i, i < len → ∀ j, j < 3 → w.cell? (x.add (i * 3 + j)) = some (.int .i64 (V i j)) ∧ (Lit.int .i64 (V i j)).wf = true) :
    ∃ l : List Pu, l.length = len ∧ Puts w a l := by
  refine ⟨(List.range len).map fun i => ⟨V i 0, V i 1, V i 2⟩, by simp, ?_⟩
  rcases h with ⟨rfl, rfl, rfl⟩ | ⟨x, rfl, hl, hm, hc⟩
  · exact .inl rfl
  · by_cases h0 : len = 0
    · subst h0; exact .inl rfl
    obtain ⟨b, off, spot⟩ := x
    have hspot : spot = none := by simpa [Addr.add] using World.cell?_spot (hc 0 (by omega) 0 (by omega)).1
    subst hspot
    refine .inr ⟨b, off, rfl, fun j p hp => ?_⟩
    have hj : j < len := by
      have := (List.getElem?_eq_some_iff.1 hp).1
      simpa using this
    have hpe : p = ⟨V j 0, V j 1, V j 2⟩ := by
      rw [List.getElem?_map, List.getElem?_range hj] at hp
      simpa using hp.symm
    subst hpe
    have ad : ∀ i, i < 3 → w.cell? ⟨b, off + j * 3 + i, none⟩ = some (.int .i64 (V j i)) := fun i hi => by
      have := (hc j hj i hi).1
      rw [Go.WideShapes.add_plain] at this
      rw [Nat.add_assoc]
      exact this
    exact ⟨ad 0 (by omega), ad 1 (by omega), ad 2 (by omega)⟩

theorem in_wide {n : Int} (h : inB n 1 12 = true) : inB n 1 64 = true := by simp [inB] at *; omega

set_option maxHeartbeats 2000000 in
theorem sets_core (c r : Int) (a : Option Addr) (cap : Nat) (l : List Pu) (w : World) (hp : Puts w a l) :
    Calls Try.prog 3 #[.int .i64 c, .int .i64 r, .slice a l.length cap] w fun e w' => e = .returned (.bool true) ∧ Below w.heap.size w w' := by
  have HA := Lib.hid (alive_any w)
  have KS := fun w => small_any c r a l.length cap w
  cases hs : smB c r l.length
  · rw [hs] at KS
    have HS := Lib.hid KS
    have KC := fun w => refIn_any c 1 64 w
    have KR := fun w => refIn_any r 1 64 w
    have hno := new_no c r
    have hyes := new_yes c r
    generalize inB c 1 64 = x at *
    generalize inB r 1 64 = y at *
    have HC := Lib.hid KC; have HR := Lib.hid KR
    clear KC KR hs KS hp
    generalize l.length = n at *
    cases x
    · have HN := Lib.hid (hno (.inl rfl))
      clear hno hyes
      go_enter Try.func3, Try.ntmps3
      go_wp2_with (go_at_call 7; refine HA.out.mono ?_; rintro e w1 ⟨rfl, hb⟩; have HB := Lib.hid hb; clear hb)
      refine (HS.out _).mono ?_
      rintro e w' ⟨rfl, rfl⟩
      go_wp2_with (first | (go_at_call 9; refine (HN.out _).mono ?_; rintro e w' ⟨rfl, rfl⟩) | (go_at_call 10; refine (HC.out _).mono ?_; rintro e w' ⟨rfl, rfl⟩))
      go_ret
      exact ⟨rfl, HB.out⟩
    · cases y
      · have HN := Lib.hid (hno (.inr rfl))
        clear hno hyes
        go_enter Try.func3, Try.ntmps3
        go_wp2_with (go_at_call 7; refine HA.out.mono ?_; rintro e w1 ⟨rfl, hb⟩; have HB := Lib.hid hb; clear hb)
        refine (HS.out _).mono ?_
        rintro e w' ⟨rfl, rfl⟩
        go_wp2_with (first | (go_at_call 9; refine (HN.out _).mono ?_; rintro e w' ⟨rfl, rfl⟩) | (go_at_call 10; first | (with_reducible refine (HC.out _).mono ?_; rintro e w' ⟨rfl, rfl⟩) | (with_reducible refine (HR.out _).mono ?_; rintro e w' ⟨rfl, rfl⟩)))
        go_ret
        exact ⟨rfl, HB.out⟩
      · have HN := Lib.hid (hyes rfl rfl)
        clear hno hyes
        go_enter Try.func3, Try.ntmps3
        go_wp2_with (go_at_call 7; refine HA.out.mono ?_; rintro e w1 ⟨rfl, hb⟩; have HB := Lib.hid hb; clear hb)
        refine (HS.out _).mono ?_
        rintro e w' ⟨rfl, rfl⟩
        go_wp2_with (first | (go_at_call 9; refine (HN.out _).mono ?_; rintro e w3 ⟨rfl, _, hb⟩; have HB3 := Lib.hid (up_trans HB.out hb); clear hb) | (go_at_call 10; first | (with_reducible refine (HC.out _).mono ?_; rintro e w' ⟨rfl, rfl⟩) | (with_reducible refine (HR.out _).mono ?_; rintro e w' ⟨rfl, rfl⟩)))
        go_ret
        exact ⟨rfl, HB3.out⟩
  · rw [hs] at KS
    have HS := Lib.hid KS
    simp only [smB, Bool.and_eq_true, decide_eq_true_eq] at hs
    obtain ⟨h1, h2, h3⟩ := hs
    have h1' := in_wide h1
    have h2' := in_wide h2
    have KL := fun (w' : World) (hb : Below w.heap.size w w') => laid_any c r a cap l w' h1' h2' (by omega) (hp.up hb)
    have KC := fun (w' : World) (hb : Below w.heap.size w w') => cells_any c r a cap l w' h1' h2' (by omega) (hp.up hb)
    have HL := Lib.hid KL; have HC := Lib.hid KC
    have hlen := putsL_length c r l
    have HE := Lib.hid hlen
    clear KL KC hp h1 h2 h3 h1' h2' KS hlen
    generalize l.length = n at *
    go_enter Try.func3, Try.ntmps3
    go_wp2_with (go_at_call 7; refine HA.out.mono ?_; rintro e w1 ⟨rfl, hb⟩; have HB := Lib.hid hb; clear hb)
    refine (HS.out _).mono ?_
    rintro e w' ⟨rfl, rfl⟩
    go_wp2_with fail
    refine (HL.out _ HB.out).mono ?_
    rintro e w2 ⟨G, A, rfl, hg, hlG, hlA, hb⟩
    have HB2 := Lib.hid (up_trans HB.out hb); have HG := Lib.hid hg
    clear hg hb HB
    go_wp2_with fail
    refine (HC.out _ HB2.out).mono ?_
    rintro e w3 ⟨rfl, hx, hb⟩
    have KI := is_any (HG.out.up hb) _ (c * r).toNat (Li.of hx)
    rw [HE.out] at KI
    have HI := Lib.hid KI; have HB3 := Lib.hid (up_trans HB2.out hb)
    clear KI hx hb HB2 HG
    go_wp2_with fail
    refine HI.out.mono ?_
    rintro e w4 ⟨rfl, hb⟩
    have HB4 := Lib.hid (up_trans HB3.out hb)
    clear hb HB3 HI
    go_wp2
    go_ret
    exact ⟨rfl, HB4.out⟩

theorem walkGridSets (c r : Int) (a : Option Addr) (len cap : Nat) (V : Nat → Nat → Int) (w : World) (x0 : (Lit.int .i64 c).wf = true) (x1 : (Lit.int .i64 r).wf = true)
    (h : (a = none ∧ len = 0 ∧ cap = 0) ∨ ∃ x, a = some x ∧ len ≤ cap ∧ cap ≤ maxLen ∧ ∀ i, i < len → ∀ j, j < 3 → w.cell? (x.add (i * 3 + j)) = some (.int .i64 (V i j)) ∧ (Lit.int .i64 (V i j)).wf = true) :
    Calls Try.prog 3 #[.int .i64 c, .int .i64 r, .slice a len cap] w fun e w' => e = .returned (.bool true) ∧ Below w.heap.size w w' := by
  obtain ⟨l, rfl, hp⟩ := puts_of a len cap V w h
  exact sets_core c r a cap l w hp
end Go.Proofs.Ytlbklfanphkacaa
