/- What the document's own Same, and lex.Lines, answer. -/
import Derived.Test.YtfmhhacnhmjjmaaLexSmall
namespace Go.Proofs.Ytfmhhacnhmjjmaa
open Go.RowKit
set_option linter.unusedVariables false

set_option maxHeartbeats 1000000 in
/-- Of a list of texts twice, Same answers true. -/
theorem texts_same {w : World} {va vb : Value} {ls : List (List UInt8)} (ha : TxS w va ls) (hb : TxS w vb ls) (hl : ls.length ≤ 1000000) :
    Calls Try.prog 11 #[va, vb] w fun e w' => e = .returned (.bool true) ∧ Below w.heap.size w w' := by
  obtain ⟨a, ca, rfl, ha⟩ := ha
  obtain ⟨b, cb, rfl, hb⟩ := hb
  have HA := Lib.hid ha; have HB := Lib.hid hb
  clear ha hb
  obtain ⟨m, hm⟩ : ∃ m, ls.length = m := ⟨_, rfl⟩
  have HM := Lib.hid hm
  rw [hm] at hl ⊢
  clear hm
  go_enter Try.func11, Try.ntmps11
  go_wp2
  go_loopw [5] (fun i wr => ∃ k : Nat, k ≤ m ∧ i = .int .i64 (k : Int) ∧ ∃ u : Later w, wr = u.now) (fun i _ => m - (intOf i).toNat)
  case atStart => exact ⟨0, by omega, by go_num, ⟨w, Below.refl _ _⟩, rfl⟩
  case round =>
    obtain ⟨k, hk, rfl, u, rfl⟩ := hrel
    by_cases hlt : k < m
    · obtain ⟨x, hx⟩ : ∃ x, ls[k]? = some x := ⟨ls[k]'(by rw [HM.out]; exact hlt), List.getElem?_eq_getElem _⟩
      obtain h | ⟨g1, rfl, h1⟩ := HA.out
      · have := HM.out; rw [h] at this; simp at this; omega
      obtain h | ⟨g2, rfl, h2⟩ := HB.out
      · have := HM.out; rw [h] at this; simp at this; omega
      have c1 := fun u : Later w => u.cell (h1 k x hx)
      have c2 := fun u : Later w => u.cell (h2 k x hx)
      generalize tx x = p at *
      have z0 : (0 : Int) ≤ (k : Int) := by omega
      have z1 : (k : Int) < (m : Int) := by omega
      clear h1 h2 hx
      go_wp2
      refine wp_region_later (by kernel_rfl) (by kernel_rfl) ?_
      repeat (go_big_quiet_step (fail))
      refine wpQuiet_nil ?_
      rintro _ ⟨u2, rfl⟩
      clear c1 c2
      go_wp2
      go_roundw
      case rel => exact ⟨k + 1, by omega, by go_num, u2, rfl⟩
      case measure => simp [intOf]; omega
    · have hk2 : m ≤ k := by omega
      go_wp2
      go_ret
      exact ⟨rfl, u.up⟩

def LinesRel (s : ByteArray) (w : World) (l f i : Value) (wr : World) : Prop :=
  ∃ (k from_ : Nat) (out : List (List UInt8)), k ≤ s.size ∧ from_ ≤ k ∧ out.length ≤ k ∧ i = .int .i64 (k : Int) ∧ f = .int .i64 (from_ : Int) ∧ rowT wr w.heap.size l out ∧ Below w.heap.size w wr ∧
    out ++ linesM (s.data.toList.drop k) ((s.data.toList.take k).drop from_) = linesM s.data.toList []

set_option maxHeartbeats 1000000 in
theorem lexLines_any (s : ByteArray) (w : World) (hs : s.size ≤ 999999) :
    Calls Try.prog 8 #[.string s] w (GivesT w.heap.size (linesM s.data.toList []) w) := by
  go_enter Try.func8, Try.ntmps8
  go_wp2
  go_loopw [3, 4, 8] (fun l f i wr => LinesRel s w l f i wr) (fun _ _ i _ => s.size - (intOf i).toNat)
  case atStart => exact ⟨0, 0, [], Nat.zero_le _, Nat.le_refl _, Nat.le_refl _, rfl, rfl, rowT_nil _ _, Below.refl _ _, by simp⟩
  case round =>
    obtain ⟨k, f, out, hk, hf, ho, rfl, rfl, hrow, hb, hF⟩ := hrel
    have HR := Lib.hid hrow; have HB := Lib.hid hb; have HF := Lib.hid hF
    clear hrow hb hF
    by_cases hlt : k < s.size
    · have z1 : (k : Int) < (s.size : Int) := by omega
      have DO := Lib.hid (drop_octet hlt)
      have CO := Lib.hid (cur_octet hf hlt)
      obtain ⟨c, hc⟩ : ∃ c, s[k] = c := ⟨_, rfl⟩
      rw [hc] at DO CO
      have hx : ((s[k].toNat : Nat) : Int) = (c.toNat : Int) := by rw [hc]
      have e1 := oct_eq c 10
      rw [show (((10 : UInt8).toNat : Nat) : Int) = 10 from rfl] at e1
      generalize (c.toNat : Int) = x at *
      by_cases h10 : c = 10
      · have e2 : (x == 10) = true := by rw [e1]; simpa using h10
        obtain ⟨p, hp⟩ : ∃ p, s.extract f k = p := ⟨_, rfl⟩
        have HP := Lib.hid ((hp.symm).trans (tx_extract s f k))
        have hz : p.size ≤ 1000000000 := by
          rw [HP.out, tx_size, List.length_drop, List.length_take, size_data]; omega
        have KC := Lib.hid (clone_text p wr hz)
        clear e1 hc hz
        go_wp2_with fail
        refine KC.out.mono ?_
        rintro e w1 ⟨rfl, hb1⟩
        have HB1 := Lib.hid hb1
        clear hb1
        go_wp2_with (at_builtin; refine wpList_append_text rfl _ _ rfl w.heap.size _ out rfl (HR.out.up HB1.out) ?c1 p _ HP.out rfl ?c2 ?_)
        case c1 => have := HB1.out.size; have := HB.out.size; omega
        case c2 => omega
        intro v1 w2 h1 hb2
        have H1 := Lib.hid h1; have HB2 := Lib.hid hb2
        clear h1 hb2
        go_wp2
        go_roundw
        case rel =>
          refine ⟨k + 1, k + 1, out ++ [(s.data.toList.take k).drop f], by omega, Nat.le_refl _, by simp; omega, by go_num, by go_num, H1.out, (HB.out.trans (HB1.out.mono HB.out.size)).trans HB2.out, ?_⟩
          rw [cur_none, ← HF.out, DO.out, h10, lines_feed, List.append_assoc]
          rfl
        case measure => simp [intOf]; omega
      · have e2 : (x == 10) = false := by rw [e1]; simpa using h10
        clear e1 hc
        go_wp2
        go_roundw
        case rel =>
          refine ⟨k + 1, f, out, by omega, by omega, by omega, by go_num, rfl, HR.out, HB.out, ?_⟩
          rw [← HF.out, DO.out, lines_other _ _ h10, CO.out]
        case measure => simp [intOf]; omega
    · obtain rfl : k = s.size := by omega
      obtain ⟨p, hp⟩ : ∃ p, s.extract f s.size = p := ⟨_, rfl⟩
      have HP := Lib.hid ((hp.symm).trans (tx_extract s f s.size))
      have hz : p.size ≤ 1000000000 := by
        rw [HP.out, tx_size, List.length_drop, List.length_take, size_data]; omega
      have KC := Lib.hid (clone_text p wr hz)
      clear hz
      go_wp2_with fail
      refine KC.out.mono ?_
      rintro e w1 ⟨rfl, hb1⟩
      have HB1 := Lib.hid hb1
      clear hb1
      go_wp2_with (at_builtin; refine wpList_append_text rfl _ _ rfl w.heap.size _ out rfl (HR.out.up HB1.out) ?c3 p _ HP.out rfl ?c4 ?_)
      case c3 => have := HB1.out.size; have := HB.out.size; omega
      case c4 => omega
      intro v1 w2 h1 hb2
      have H1 := Lib.hid h1; have HB2 := Lib.hid hb2
      clear h1 hb2
      go_wp2
      go_ret
      refine ⟨v1, rfl, ?_, (HB.out.trans (HB1.out.mono HB.out.size)).trans HB2.out⟩
      rw [← HF.out, List.drop_of_length_le (by rw [size_data]; exact Nat.le_refl _)]
      exact H1.out
end Go.Proofs.Ytfmhhacnhmjjmaa
