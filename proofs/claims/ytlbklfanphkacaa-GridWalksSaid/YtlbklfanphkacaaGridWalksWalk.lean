/- The law GridWalks answers true for every two ints, every list of puts and every octet: a grid is gone through row by row, as far as it is wanted, and again; no condition. -/
import Derived.Test.YtlbklfanphkacaaGridSetsWalk
import Derived.Test.YtlbklfanphkacaaGridWalked
import Derived.Test.YtlbklfanphkacaaRowI
namespace Go.Proofs.Ytlbklfanphkacaa
open Go.RowKit
set_option linter.unusedVariables false

set_option maxHeartbeats 1000000 in
/-- Two lists of numbers that are the same. -/
theorem ints_any (L : List Int) (B C capB capC : Nat) (w : World) (hm : L.length ≤ 100000) (hB : Li w B L) (hC : Li w C L) :
    Calls Try.prog 15 #[.slice (some ⟨B, 0, none⟩) L.length capB, .slice (some ⟨C, 0, none⟩) L.length capC] w fun e w' => e = .returned (.bool true) ∧ Below w.heap.size w w' := by
  obtain ⟨n, hn⟩ : ∃ n, L.length = n := ⟨_, rfl⟩
  have HN := Lib.hid hn; have HB := Lib.hid hB; have HC := Lib.hid hC
  rw [hn] at hm ⊢
  clear hn hB hC
  go_enter Try.func15, Try.ntmps15
  go_wp2
  go_loopw [5] (fun i wr => ∃ k : Nat, k ≤ n ∧ i = .int .i64 (k : Int) ∧ ∃ u : Later w, wr = u.now) (fun i _ => n - (intOf i).toNat)
  case atStart => exact ⟨0, by omega, by go_num, ⟨w, Below.refl _ _⟩, rfl⟩
  case round =>
    obtain ⟨k, hk, rfl, u, rfl⟩ := hrel
    by_cases hlt : k < n
    · obtain ⟨x, hx⟩ : ∃ x, L[k]? = some x := ⟨L[k]'(by rw [HN.out]; exact hlt), List.getElem?_eq_getElem _⟩
      have jB := fun u : Later w => u.cell (HB.out k x hx); have jC := fun u : Later w => u.cell (HC.out k x hx)
      have z0 : (0 : Int) ≤ (k : Int) := by omega
      have z1 : (k : Int) < (n : Int) := by omega
      clear hx
      go_wp2
      refine wp_region_later (by kernel_rfl) (by kernel_rfl) ?_
      repeat (go_big_quiet_step (fail))
      refine wpQuiet_nil ?_
      rintro _ ⟨u2, rfl⟩
      clear jB jC
      go_wp2
      go_roundw
      case rel => exact ⟨k + 1, by omega, by go_num, u2, rfl⟩
      case measure => simp [intOf]; omega
    · have hk2 : n ≤ k := by omega
      go_wp2
      go_ret
      exact ⟨rfl, u.up⟩

set_option maxRecDepth 100000 in
set_option maxHeartbeats 4000000 in
theorem walks_core (c r : Int) (a : Option Addr) (cap : Nat) (l : List Pu) (many : Nat) (hmany : many ≤ 255) (w : World) (hp : Puts w a l) :
    Calls Try.prog 4 #[.int .i64 c, .int .i64 r, .slice a l.length cap, .int .u8 (many : Int)] w fun e w' => e = .returned (.bool true) ∧ Below w.heap.size w w' := by
  have HA := Lib.hid (alive_any w)
  have KS := fun w => small_any c r a l.length cap w
  cases hs : smB c r l.length
  · rw [hs] at KS
    have HS := Lib.hid KS
    clear hs KS hp
    generalize l.length = n at *
    go_enter Try.func4, Try.ntmps4
    go_wp2_with (go_at_call 7; refine HA.out.mono ?_; rintro e w1 ⟨rfl, hb⟩; have HB := Lib.hid hb; clear hb)
    refine (HS.out _).mono ?_
    rintro e w' ⟨rfl, rfl⟩
    go_wp2
    go_ret
    exact ⟨rfl, HB.out⟩
  · rw [hs] at KS
    have HS := Lib.hid KS
    simp only [smB, Bool.and_eq_true, decide_eq_true_eq] at hs
    obtain ⟨h1, h2, h3⟩ := hs
    have h1' := in_wide h1
    have h2' := in_wide h2
    have bc : 1 ≤ c ∧ c ≤ 12 := by simpa [inB] using h1
    have br : 1 ≤ r ∧ r ≤ 12 := by simpa [inB] using h2
    obtain ⟨bc1, bc2⟩ := bc
    obtain ⟨br1, br2⟩ := br
    have hm0 : 0 < c * r := Int.mul_pos (by omega) (by omega)
    have hm1 : c * r ≤ 12 * 12 := Int.mul_le_mul bc2 br2 (by omega) (by omega)
    have KL := fun (w' : World) (hb : Below w.heap.size w w') => laid_any c r a cap l w' h1' h2' (by omega) (hp.up hb)
    have KC := fun (w' : World) (hb : Below w.heap.size w w') => cells_any c r a cap l w' h1' h2' (by omega) (hp.up hb)
    have HL := Lib.hid KL; have HC := Lib.hid KC
    have hlen := putsL_length c r l
    clear KL KC hp h1 h2 h3 h1' h2' KS
    generalize l.length = n at *
    generalize putsL c r l = L at *
    obtain ⟨m, hm⟩ : ∃ m : Nat, c * r = (m : Int) := ⟨(c * r).toNat, by omega⟩
    rw [hm] at hm0 hm1 hlen
    rw [Int.toNat_natCast] at hlen
    have HE := Lib.hid hlen; have HM := Lib.hid hm
    rw [hm, Int.toNat_natCast] at HC
    clear hlen hm
    obtain ⟨t, ht⟩ : ∃ t : Nat, (many : Int).tmod (m : Int) = (t : Int) := ⟨((many : Int).tmod (m : Int)).toNat, by have := Int.tmod_nonneg (m : Int) (show (0 : Int) ≤ (many : Int) by omega); omega⟩
    have htm : t < m := by have := Int.tmod_lt_of_pos (many : Int) hm0; omega
    have m0 : (m : Int) ≠ 0 := by omega
    have e1 : (1 : Int) + (t : Int) = ((t + 1 : Nat) : Int) := by omega
    go_enter Try.func4, Try.ntmps4
    go_wp2_with (go_at_call 7; refine HA.out.mono ?_; rintro e w1 ⟨rfl, hb⟩; have HB := Lib.hid hb; clear hb)
    refine (HS.out _).mono ?_
    rintro e w' ⟨rfl, rfl⟩
    go_wp2_with fail
    refine (HL.out _ HB.out).mono ?_
    rintro e w2 ⟨G, A, rfl, hg, hlG, hlA, hb⟩
    have HB2 := Lib.hid (up_trans HB.out hb); have HG := Lib.hid hg
    clear hg hb HB
    go_wp2_with fail
    refine (HC.out _ HB2.out).mono ?_
    rintro e w3 ⟨rfl, hx, hb⟩
    have HX := Lib.hid (Li.of hx); have HB3 := Lib.hid (up_trans HB2.out hb); have HG3 := Lib.hid (HG.out.up hb)
    clear hx hb HB2 HG
    generalize w2.heap.size = CB at *
    have hE := HE.out
    have KW := fun (w' : World) (h : Below w3.heap.size w3 w') => walked_any (HG3.out.up h) (t + 1) (by omega) (by omega)
    have KV := fun (w' : World) (h : Below w3.heap.size w3 w') => walked_any (HG3.out.up h) m (by omega) (by omega)
    rw [show ((t + 1 : Nat) : Int) = (t : Int) + 1 by omega] at KW
    have HW := Lib.hid KW; have HV := Lib.hid KV
    clear KW KV hE
    go_wp2_with fail
    with_reducible refine (HW.out _ (Below.refl _ _)).mono ?_
    rintro e w4 ⟨v, rfl, hrow, hb⟩
    have hl4 : (L.take (t + 1)).length = t + 1 := by rw [List.length_take, HE.out]; omega
    obtain ⟨g, cg, rfl, _, _, hgc⟩ := rowI_form (l := L.take (t + 1)) (base := w3.heap.size) (v := v) (by unfold rowI; rw [hl4]; exact hrow) (by omega)
    rw [hl4]
    have HG4 := Lib.hid (show Li w4 g (L.take (t + 1)) from hgc); have HU4 := Lib.hid hb
    clear hrow hgc hb
    go_wp2_with fail
    with_reducible refine (HV.out _ HU4.out).mono ?_
    rintro e w5 ⟨v, rfl, hrow, hb⟩
    have hl5 : L.take m = L := List.take_of_length_le (by rw [HE.out]; exact Nat.le_refl _)
    rw [hl5] at hrow
    obtain ⟨g2, cg2, rfl, _, _, hgc⟩ := rowI_form (l := L) (base := w4.heap.size) (v := v) (by unfold rowI; rw [HE.out]; exact hrow) (by rw [HE.out]; omega)
    rw [HE.out]
    have HH5 := Lib.hid (show Li w5 g2 L from hgc); have HG5 := Lib.hid (HG4.out.up hb); have HU5 := Lib.hid (up_trans HU4.out hb)
    clear hrow hgc hb HG4 HU4 hl5
    have hX5 := HX.out.up HU5.out
    have hX5' : Li w5 CB (L.take (t + 1)) := fun i x hx => hX5 i x (by
      have hi := (List.getElem?_eq_some_iff.1 hx).1
      rw [hl4] at hi
      rwa [List.getElem?_take_of_lt hi] at hx)
    have K1 := ints_any (L.take (t + 1)) g CB cg m w5 (by omega) HG5.out hX5'
    rw [hl4] at K1
    have K2 := fun (w' : World) (h : Below w5.heap.size w5 w') => ints_any L g2 CB cg2 m w' (by rw [HE.out]; omega) (HH5.out.up h) (hX5.up h)
    rw [HE.out] at K2
    have H1 := Lib.hid K1; have H2 := Lib.hid K2; have HB5 := Lib.hid (up_trans HB3.out HU5.out)
    clear K1 K2 hX5 hX5' hl4 HG5 HH5 HU5 HX HB3 HW HV HG3
    have y0 : (0 : Int) ≤ (t : Int) + 1 := by omega
    have y1 : (t : Int) + 1 ≤ (m : Int) := by omega
    have y2 : ((t : Int) + 1).toNat = t + 1 := by omega
    go_wp2_with fail
    with_reducible refine H1.out.mono ?_
    rintro e w6 ⟨rfl, hb⟩
    have HU6 := Lib.hid hb; have HB6 := Lib.hid (up_trans HB5.out hb)
    clear hb H1 HB5
    go_wp2_with fail
    with_reducible refine (H2.out _ HU6.out).mono ?_
    rintro e w7 ⟨rfl, hb⟩
    have HB7 := Lib.hid (up_trans HB6.out hb)
    clear hb H2 HB6 HU6
    go_wp2
    go_ret
    exact ⟨rfl, HB7.out⟩

theorem walkGridWalks (c r : Int) (a : Option Addr) (len cap : Nat) (V : Nat → Nat → Int) (many : Int) (w : World) (x0 : (Lit.int .i64 c).wf = true) (x1 : (Lit.int .i64 r).wf = true)
    (h : (a = none ∧ len = 0 ∧ cap = 0) ∨ ∃ x, a = some x ∧ len ≤ cap ∧ cap ≤ maxLen ∧ ∀ i, i < len → ∀ j, j < 3 → w.cell? (x.add (i * 3 + j)) = some (.int .i64 (V i j)) ∧ (Lit.int .i64 (V i j)).wf = true)
    (y0 : (Lit.int .u8 many).wf = true) :
    Calls Try.prog 4 #[.int .i64 c, .int .i64 r, .slice a len cap, .int .u8 many] w fun e w' => e = .returned (.bool true) ∧ Below w.heap.size w w' := by
  obtain ⟨l, rfl, hp⟩ := puts_of a len cap V w h
  have b : 0 ≤ many ∧ many ≤ 255 := by
    have h1 : IntKind.u8.min = 0 := by decide
    have h2 : IntKind.u8.max = 255 := by decide
    have := y0
    simp [Lit.wf, h1, h2] at this
    omega
  obtain ⟨k, rfl⟩ : ∃ k : Nat, many = (k : Int) := ⟨many.toNat, by omega⟩
  exact walks_core c r a cap l k (by omega) w hp
end Go.Proofs.Ytlbklfanphkacaa
