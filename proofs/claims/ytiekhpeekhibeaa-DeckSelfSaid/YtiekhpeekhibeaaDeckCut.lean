/- What deck.Cut answers: the first things, as a deck of their own; the deck has what is left. -/
import Derived.Test.YtiekhpeekhibeaaDeckCode
import Derived.Lib.SliceRun
namespace Go.Proofs.Ytiekhpeekhibeaa
open Go.RowKit
set_option linter.unusedVariables false

/-- n, at least 0, at most all. -/
def clamp (n : Int) (l : List Int) : Nat := (min (max n 0) (l.length : Int)).toNat
theorem clamp_le (n : Int) (l : List Int) : clamp n l ≤ l.length := by unfold clamp; omega
theorem clamp_is (n : Int) (l : List Int) : min (max n 0) (l.length : Int) = (clamp n l : Int) := by unfold clamp; omega

theorem cut_nil (n : Int) (w : World) : Calls Try.prog 20 #[.pointer none, .int .i64 n] w fun e w' => e = .returned (.pointer none) ∧ w' = w := by
  go_enter Try.func20, Try.ntmps20
  go_wp2
  go_ret
  exact ⟨rfl, rfl⟩

/-- What Cut answers. -/
def Cuts (w : World) (D R k : Nat) (l : List Int) (e : Ending) (w' : World) : Prop :=
  ∃ C RC, e = .returned (.pointer (some ⟨C, 0, none⟩)) ∧ Dk w' C RC (l.take k) ∧ w.heap.size ≤ C ∧ w.heap.size ≤ RC ∧ Dk w' D R (l.drop k) ∧ But D R w w'

theorem run_clear_none (w : World) (ty : TypeId) (a : Option Addr) (c : Nat) : (Builtin.clear_ #[22] ty #[.slice a 0 c]).run Try.prog w = .ok (.tuple #[]) w := by
  cases a <;> simp [Builtin.clear_, run_underlying Try.underlying22]

/-- A slice without its first k. -/
def rest (a : Option Addr) (m c k : Nat) : Value := if c = k then .slice a (m - k) (c - k) else .slice (a.map (·.add k)) (m - k) (c - k)
theorem add_zero' (p : Addr) : p.add 0 = p := by
  obtain ⟨b, o, s⟩ := p
  unfold Addr.add
  cases s <;> rfl
theorem rest_zero (a : Option Addr) (m c : Nat) : rest a m c 0 = .slice a m c := by
  have : (a.map (·.add 0)) = a := by cases a <;> simp [add_zero']
  unfold rest
  split <;> simp [this]
theorem add_at (R off k : Nat) : (⟨R, off, none⟩ : Addr).add k = ⟨R, off + k, none⟩ := by unfold Addr.add; split <;> simp_all

theorem clear_row {w1 : World} {D R : Nat} {a : Option Addr} {m c : Nat} {l : List Int} (h1 : Boxed w1 D 43 (.slice a m c)) (h2 : RowAt w1 R (.slice a m c) l) (h3 : Value.slice a m c = .slice none 0 0 → R = D) (k : Nat) (hk : k ≤ l.length) :
    ∃ w2, (∀ ty, (Builtin.clear_ #[22] ty #[.slice a k c]).run Try.prog w1 = .ok (.tuple #[]) w2) ∧ Boxed w2 D 43 (.slice a m c) ∧ But D R w1 w2 ∧ RowAt w2 R (rest a m c k) (l.drop k) ∧ (rest a m c k = .slice none 0 0 → R = D) := by
  by_cases hk0 : k = 0
  · subst hk0
    rw [rest_zero]
    exact ⟨w1, fun ty => run_clear_none w1 ty a c, h1, But.refl _ _ _, by simpa using h2, h3⟩
  · rcases h2 with ⟨_, rfl⟩ | ⟨off, c', cur, e, hc, q1, q2, q3, q4⟩
    · simp at hk; omega
    · cases e
      have hne := box_row h1 hc
      obtain ⟨c2, hc2, hs2⟩ := heap_setCells_at R (List.replicate k (.int .i64 0)) off w1 cur 3 hc
      refine ⟨_, fun ty => Lib.run_clear_slice w1 _ _ ty _ Try.underlying22 Try.zeroValue3 rfl rfl R off k c (by omega) (fun j hj => row_some hc _ (by omega)) (fun j hj => row_frozen hc _), ?_, setCells_but D R _ _ _, ?_, ?_⟩
      · exact ((setCells_but R R off _ w1).block D h1.lt (Ne.symm hne) (Ne.symm hne)).trans h1
      · have hdl : (l.drop k).length = l.length - k := by simp
        unfold rest
        split
        · rename_i hck
          refine .inr ⟨off, c - k, c2, by rw [hdl], hc2, by omega, by omega, by omega, fun j x hx => ?_⟩
          have := (List.getElem?_eq_some_iff.1 hx).1
          omega
        · rw [Option.map_some, add_at]
          refine .inr ⟨off + k, c - k, c2, by rw [hdl], hc2, by omega, by omega, by omega, fun j x hx => ?_⟩
          rw [cells_out (.inr (by rw [List.length_replicate]; omega))]
          rw [List.getElem?_drop] at hx
          rw [Nat.add_assoc]
          exact q4 _ x hx
      · unfold rest
        split <;> (intro e; cases e)

set_option maxHeartbeats 1000000 in
theorem cut_any {w : World} {D R : Nat} {l : List Int} (h : Dk w D R l) (hl : l.length ≤ 1000000) (n : Int) :
    Calls Try.prog 20 #[.pointer (some ⟨D, 0, none⟩), .int .i64 n] w (Cuts w D R (clamp n l) l) := by
  have HN := Lib.hid (len_any h); have HD := Lib.hid h
  have hltD := h.ltD; have hltR := h.ltR
  have hK := clamp_is n l
  have hkl := clamp_le n l
  generalize clamp n l = k at *
  obtain ⟨v, h1, h2, h3⟩ := h
  have H1 := Lib.hid h1; have H2 := Lib.hid h2; have H3 := Lib.hid h3
  have b0 := h1.cell
  obtain ⟨a, c, rfl, hn, hc, _⟩ := h2.nums
  have HO := of_any c (hn.take k) (by simp; omega)
  rw [List.length_take_of_le hkl] at HO
  have HO := Lib.hid HO
  clear h1 h2 h3 hn
  obtain ⟨m, hm⟩ : ∃ m, l.length = m := ⟨_, rfl⟩
  have HL := Lib.hid hkl
  rw [hm] at b0 hc HN hK H1 H2 H3 hkl
  have HM := Lib.hid hm
  have z0 : (0 : Int) ≤ (k : Int) := by omega
  have z1 : (k : Int) ≤ (m : Int) := by omega
  have z2 : (k : Int) ≤ (c : Int) := by omega
  clear hm
  have hcut : ∀ (w1 : World) (C RC : Nat), Dk w1 C RC (l.take k) → w.heap.size ≤ C → w.heap.size ≤ RC → Below w.heap.size w w1 → ∀ w2, Boxed w2 D 43 (.slice a m c) → But D R w1 w2 → RowAt w2 R (rest a m c k) (l.drop k) → (rest a m c k = .slice none 0 0 → R = D) → Cuts w D R k l (.returned (.pointer (some ⟨C, 0, none⟩))) (w2.setCell ⟨D, 0, none⟩ (rest a m c k)) := by
    intro w1 C RC hC hC1 hC2 hb w2 hD2 hb2 hr2 hn2
    have hb3 : But D R w (w2.setCell ⟨D, 0, none⟩ (rest a m c k)) := ((But.of hb).trans hb2 (.inr (.inl rfl))).set 0 _
    refine ⟨C, RC, rfl, ?_, hC1, hC2, ?_, hb3⟩
    · exact hC.but (hb2.set 0 _) (by omega) (by omega) (by omega) (by omega)
    · refine ⟨_, hD2.set _, ?_, hn2⟩
      rcases hr2 with h0 | ⟨off, c', cur, hv, hc', p1, p2, p3, p4⟩
      · exact .inl h0
      · have e : (w2.setCell ⟨D, 0, none⟩ (rest a m c k)).heap[R]? = w2.heap[R]? := Below.heap_setCell _ _ _ _ (box_row hD2 hc')
        exact .inr ⟨off, c', cur, hv, e.trans hc', p1, p2, p3, fun j x hx => (World.cell?_of_block (a := ⟨R, off + j, none⟩) e).trans (p4 j x hx)⟩
  have HC := Lib.hid hcut
  clear hcut hl
  rcases Decidable.em (c = k) with rfl | hne
  all_goals
    go_enter Try.func20, Try.ntmps20
    go_wp2_with (go_at_call 10; refine HN.out.mono ?_; rintro e w' ⟨rfl, rfl⟩)
    refine HO.out.mono ?_
    rintro e w1 ⟨C, RC, rfl, hC, hC1, hC2, hb⟩
    have hD1 : Boxed w1 D 43 (.slice a m _) := (hb.block _ H1.out.lt).trans H1.out
    obtain ⟨w2, hcl, hD2, hb2, hr2, hn2⟩ := clear_row hD1 (H2.out.kept (fun hr => hb.block R hr)) H3.out _ HL.out
    have b2 := hD2.cell; have f2 := hD2.frozen
    have HF := Lib.hid (HC.out w1 C RC hC hC1 hC2 hb w2 hD2 hb2 hr2 hn2)
    clear hC hC1 hC2 hb hD1 hD2 hb2 hr2 hn2 b0
    go_wp2
    go_ret
    have hF := HF.out
    unfold rest at hF
    first
      | simpa [hne] using hF
      | (have e : m - c = 0 := by omega); simpa [e] using hF
end Go.Proofs.Ytiekhpeekhibeaa
