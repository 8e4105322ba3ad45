/- What the laws' own is answers of a grid that has just these things: true. -/
import Derived.Test.YtlbklfanphkacaaGridCode
import Derived.BigRegion
namespace Go.Proofs.Ytlbklfanphkacaa
open Go.RowKit
set_option linter.unusedVariables false

/-- The numbers lie at B, from its first cell on. -/
def Li (w : World) (B : Nat) (L : List Int) : Prop := ∀ i x, L[i]? = some x → w.cell? ⟨B, i, none⟩ = some (.int .i64 x)
theorem Li.up {w w' : World} {B : Nat} {L : List Int} (h : Li w B L) (hb : Below w.heap.size w w') : Li w' B L := fun i x hx => bl_cell hb (h i x hx)
theorem Li.of {w : World} {B : Nat} {L : List Int} (h : Bx w B (enc L)) : Li w B L := fun i x hx => h.cell i (by simp [enc, hx])
theorem Li.kept {w w' : World} {B : Nat} {L : List Int} (h : Li w B L) {row : Option Nat} (hg : w.grownBy w' row) (hr : some B ≠ row) : Li w' B L := fun i x hx => hg.cell (h i x hx) hr

theorem div_mod (k : Nat) (c r : Int) (hc : 1 ≤ c) (hk : (k : Int) < c * r) : hasB c r ((k : Int).tmod c) ((k : Int).tdiv c) = true ∧ at1 c ((k : Int).tmod c) ((k : Int).tdiv c) = k := by
  have h1 := Int.mul_tdiv_add_tmod (k : Int) c
  have h2 : 0 ≤ (k : Int).tmod c := Int.tmod_nonneg _ (by omega)
  have h3 : (k : Int).tmod c < c := Int.tmod_lt_of_pos _ (by omega)
  have h4 : 0 ≤ (k : Int).tdiv c := Int.tdiv_nonneg (by omega) (by omega)
  generalize (k : Int).tmod c = m at *
  generalize (k : Int).tdiv c = d at *
  refine ⟨?_, ?_⟩
  · have : d < r := by
      have : c * d < c * r := by omega
      exact Int.lt_of_mul_lt_mul_left this (by omega)
    simp [hasB]
    omega
  · unfold at1
    rw [Int.mul_comm d c, h1]
    simp

set_option maxHeartbeats 2000000 in
theorem is_any {w : World} {G A : Nat} {c r : Int} {L : List Int} (h : Gd w G A c r L) (B cap : Nat) (hB : Li w B L) :
    Calls Try.prog 12 #[.pointer (some ⟨G, 0, none⟩), .int .i64 c, .int .i64 r, .slice (some ⟨B, 0, none⟩) L.length cap] w fun e w' => e = .returned (.bool true) ∧ Below w.heap.size w w' := by
  have KC := cols_any h
  have KR := rows_any h
  have KA := fun (k : Nat) (x : Int) (hx : L[k]? = some x) (u : Later w) => at_yes (h.up u.up) ((k : Int).tmod c) ((k : Int).tdiv c) x (div_mod k c r h.c1 (by have := (List.getElem?_eq_some_iff.1 hx).1; have := h.len; omega)).1 (by rw [(div_mod k c r h.c1 (by have := (List.getElem?_eq_some_iff.1 hx).1; have := h.len; omega)).2]; exact hx)
  have KL := fun u : Later w => at_no (.pointer (some ⟨G, 0, none⟩)) (-1) 0 u.now (by have := has_any (h.up u.up) (-1) 0; rwa [show hasB c r (-1) 0 = false by simp [hasB]] at this)
  have KU := fun u : Later w => at_no (.pointer (some ⟨G, 0, none⟩)) 0 r u.now (by have := has_any (h.up u.up) 0 r; rwa [show hasB c r 0 r = false by simp [hasB]] at this)
  have hlen := h.len
  have hle := h.le
  have c1 := h.c1
  obtain ⟨n, hn⟩ : ∃ n, L.length = n := ⟨_, rfl⟩
  rw [hn] at hlen hle ⊢
  have wn : IntKind.i64.wrap (c * r) = (n : Int) := by rw [← hlen]; exact IntWalk.i64_in _ (by omega)
  have HC := Lib.hid KC; have HR := Lib.hid KR; have HA := Lib.hid KA; have HL := Lib.hid KL; have HU := Lib.hid KU; have HN := Lib.hid hn; have HB := Lib.hid hB
  clear KC KR KA KL KU h hlen hn hB
  go_enter Try.func12, Try.ntmps12
  go_wp2_with (first | (go_at_call 19; refine HC.out.mono ?_; rintro e w' ⟨rfl, rfl⟩) | (go_at_call 22; refine HR.out.mono ?_; rintro e w' ⟨rfl, rfl⟩))
  clear HC HR
  go_loopw [9] (fun i wr => ∃ k : Nat, k ≤ n ∧ i = .int .i64 (k : Int) ∧ ∃ u : Later w', wr = u.now) (fun i _ => n - (intOf i).toNat)
  case atStart => exact ⟨0, by omega, by go_num, ⟨w', Below.refl _ _⟩, rfl⟩
  case round =>
    obtain ⟨k, hk, rfl, u, rfl⟩ := hrel
    by_cases hlt : k < n
    · obtain ⟨x, hx⟩ : ∃ x, L[k]? = some x := ⟨L[k]'(by rw [HN.out]; exact hlt), List.getElem?_eq_getElem _⟩
      have KA := HA.out k x hx
      have hcx := fun u : Later w' => u.cell (HB.out k x hx)
      have z0 : (0 : Int) ≤ (k : Int) := by omega
      have z1 : (k : Int) < (n : Int) := by omega
      obtain ⟨q1, hq1⟩ : ∃ q, (k : Int).tmod c = q := ⟨_, rfl⟩
      obtain ⟨q2, hq2⟩ : ∃ q, (k : Int).tdiv c = q := ⟨_, rfl⟩
      rw [hq1, hq2] at KA
      have hw2 : wrap64 q2 = q2 := by
        have h1 : 0 ≤ q2 := by rw [← hq2]; exact Int.tdiv_nonneg (by omega) (by omega)
        have h2 : q2 ≤ k := by rw [← hq2]; exact Int.tdiv_le_self _ (by omega)
        exact IntWalk.wrap64_in q2 (by omega)
      have c0 : c ≠ 0 := by omega
      have HK := Lib.hid KA
      clear KA hx HA HL HU
      go_wp2
      refine wp_region_later (by kernel_rfl) (by kernel_rfl) ?_
      repeat (go_big_quiet_step ((go_at_call 20; with_reducible exact Later.call (HK.out _))))
      refine wpQuiet_nil ?_
      rintro _ ⟨u2, rfl⟩
      have hx2 := hcx u2
      clear hcx
      go_wp2
      go_roundw
      case rel => exact ⟨k + 1, by omega, by go_num, u2, rfl⟩
      case measure => simp [intOf]; omega
    · have hk2 : n ≤ k := by omega
      clear HA HB
      go_wp2_with fail
      refine (HL.out u).mono ?_
      rintro e w2 ⟨rfl, hb⟩
      obtain ⟨u2, rfl⟩ := Later.next hb
      clear hb
      go_wp2_with fail
      refine (HU.out u2).mono ?_
      rintro e w2 ⟨rfl, hb⟩
      obtain ⟨u3, rfl⟩ := Later.next hb
      clear hb
      go_wp2
      go_ret
      exact ⟨rfl, u3.up⟩
end Go.Proofs.Ytlbklfanphkacaa
