/- Part 8 of the texts that the proofs of this seat share: LexRefFields, LexQuote, SchemeNames, SchemeGet, StillRun. -/
import Derived.Test.YtenigkjonegdmaaGreatDoorPart7
import Derived.Maps.AppendAt
import Derived.Maps.OwnIn
import Derived.BigQuiet
/- What the document's own Fields answers. -/
namespace Go.Proofs.YtenigkjonegdmaaGreatDoor
open Go.RowKit
set_option linter.unusedVariables false

def RefFieldsRel (s : ByteArray) (w : World) (F : Option (List (List UInt8))) (o p a b i : Value) (wr : World) : Prop :=
  ∃ (k : Nat) (out : List (List UInt8)) (cur : List UInt8) (wi fr : Bool), k ≤ s.size ∧ cur.length ≤ k ∧ out.length ≤ k ∧ i = .int .i64 (k : Int) ∧ p = .string (tx cur) ∧ a = .bool wi ∧ b = .bool fr ∧ rowT wr w.heap.size o out ∧ Below w.heap.size w wr ∧
    (wi = false → fr = false) ∧ fieldsM (s.data.toList.drop k) out cur wi fr = F

theorem one_octet {s : ByteArray} {k : Nat} (h : k < s.size) : s.extract k (k + 1) = tx [s[k]] := by
  rw [tx_extract, cur_octet (Nat.le_refl _) h, cur_none]
  rfl
theorem add_octet (cur : List UInt8) (c : UInt8) : tx cur ++ tx [c] = tx (cur ++ [c]) := tx_append _ _
theorem slice_one {s : ByteArray} {k : Nat} (h : k < s.size) (hs : s.size ≤ 999999) (w : World) : (Instr.slice 9 (.string s) (some (.int .i64 (k : Int))) (some (.int .i64 ((k : Int) + 1))) none).run Tryz.prog w = .ok (.string (tx [s[k]])) w := by
  rw [run_slice_string_if w 9 s .i64 .i64 _ _ Tryz.underlying9, if_pos (by omega), if_pos (by omega), ← one_octet h]
  simp

theorem oct32 (c : UInt8) : ((c.toNat : Int) == 32) = (c == 32) := oct_eq c 32
theorem oct9 (c : UInt8) : ((c.toNat : Int) == 9) = (c == 9) := oct_eq c 9

set_option maxRecDepth 100000 in
set_option maxHeartbeats 2000000 in
theorem refFields_any (s : ByteArray) (w : World) (hs : s.size ≤ 999999) :
    Calls Tryz.prog 102 #[.string s] w (GivesF (fieldsL s.data.toList) w) := by
  obtain ⟨F, hF0⟩ : ∃ F, fieldsL s.data.toList = F := ⟨_, rfl⟩
  have HF0 := Lib.hid hF0
  rw [hF0]
  clear hF0
  go_enter Tryz.func102, Tryz.ntmps102
  go_wp2
  go_loopw [4, 5, 6, 7, 8] (fun o p a b i wr => RefFieldsRel s w F o p a b i wr) (fun _ _ _ _ i _ => s.size - (intOf i).toNat)
  case atStart =>
    refine ⟨0, [], [], false, false, Nat.zero_le _, Nat.le_refl _, Nat.le_refl _, rfl, rfl, rfl, rfl, rowT_nil _ _, Below.refl _ _, fun _ => rfl, ?_⟩
    rw [← HF0.out]
    rfl
  case round =>
    obtain ⟨k, out, cur, wi, fr, hk, hcur, ho, rfl, rfl, rfl, rfl, hrow, hb, hwf, hF⟩ := hrel
    have HR := Lib.hid hrow; have HB := Lib.hid hb; have HF := Lib.hid hF; have HW := Lib.hid hwf
    clear hrow hb hF hwf
    have eP := toList_none cur
    have hPz : (tx cur).size ≤ 999999 := by rw [tx_size]; omega
    by_cases hlt : k < s.size
    · have z1 : (k : Int) < (s.size : Int) := by omega
      have DO := Lib.hid (drop_octet hlt)
      have hsl := slice_one hlt hs
      obtain ⟨c, hc⟩ : ∃ c, s[k] = c := ⟨_, rfl⟩
      rw [hc] at DO hsl
      have hx : ((s[k].toNat : Nat) : Int) = (c.toNat : Int) := by rw [hc]
      clear hc
      have hadd := add_octet cur c
      have hqz : (tx [c]).size ≤ 1 := by rw [tx_size]; exact Nat.le_refl _
      have HX := Lib.hid (rfl : tx (cur ++ [c]) = tx (cur ++ [c]))
      obtain ⟨R, hR⟩ : ∃ R, tx (cur ++ [c]) = R := ⟨_, rfl⟩
      rw [hR] at hadd
      have HRR := Lib.hid hR
      obtain ⟨P, hP⟩ : ∃ P, tx cur = P := ⟨_, rfl⟩
      have HPP := Lib.hid hP
      rw [hP] at hadd hPz eP
      rw [hP]
      clear hP hR HX
      generalize tx [c] = q at *
      have KS := fun w => refSeen_any c w
      have e35 := oct35 c; have e34 := oct34 c; have e92 := oct92 c; have e32 := oct32 c; have e9 := oct9 c
      generalize (c.toNat : Int) = x at *
      cases wi
      · obtain rfl := HW.out rfl
        cases hbl : blankB c
        · have hbl2 := hbl
          unfold blankB at hbl2
          rw [Bool.or_eq_false_iff] at hbl2
          rw [hbl2.1] at e32; rw [hbl2.2] at e9
          by_cases h35 : c = 35
          · have HH := Lib.hid HF.out
            rw [DO.out, h35, f_stop] at HH
            have e1 : (x == 35) = true := by rw [e35, h35]; rfl
            by_cases hcn : cur = []
            · rw [decide_eq_true hcn] at eP
              rw [hcn, addF_nil] at HH
              clear KS e35 e34 e92 hbl hbl2 hcn h35
              go_wp2
              go_ret2
              refine ⟨_, ret_fields HH.out rfl, ?_, HB.out⟩
              rw [← HH.out]
              exact HR.out.texts
            · rw [decide_eq_false hcn] at eP
              rw [addF_some hcn] at HH
              clear KS e35 e34 e92 hbl hbl2 hcn h35
              go_wp2_with (at_builtin; refine wpList_append_text rfl _ _ rfl w.heap.size _ out rfl HR.out ?c1 _ cur HPP.out.symm rfl ?c2 ?_)
              case c1 => exact HB.out.size
              case c2 => omega
              intro v1 w2 h1 hb2
              have H1 := Lib.hid h1; have HB2 := Lib.hid hb2
              clear h1 hb2
              go_wp2
              go_ret2
              refine ⟨_, ret_fields HH.out rfl, ?_, HB.out.trans HB2.out⟩
              rw [← HH.out]
              exact H1.out.texts
          · have e1 : (x == 35) = false := by rw [e35]; simpa using h35
            cases hse : seenB c
            · rw [hse] at KS
              have HKS := Lib.hid KS
              have HH := Lib.hid HF.out
              rw [DO.out, f_out_bad _ _ _ _ hbl h35 hse] at HH
              clear KS e35 e34 e92 hbl hbl2 hse
              go_wp2_with (go_at_call 44; refine (HKS.out _).mono ?_; rintro e w' ⟨rfl, rfl⟩)
              go_ret2
              refine ⟨_, ret_fields HH.out rfl, ?_, HB.out⟩
              rw [← HH.out]
              exact TxS.nil _
            · rw [hse] at KS
              have HKS := Lib.hid KS
              have HH := Lib.hid HF.out
              rw [DO.out, f_out _ _ _ _ hbl h35 hse] at HH
              generalize (c == 34) = b34 at *
              clear KS e35 e92 hbl hbl2 hse
              go_wp2_with (go_at_call 44; refine (HKS.out _).mono ?_; rintro e w' ⟨rfl, rfl⟩)
              go_roundw
              case rel => exact ⟨k + 1, out, cur ++ [c], b34, false, by omega, by simp; omega, by omega, by go_num, by rw [HRR.out], rfl, rfl, HR.out, HB.out, fun _ => rfl, HH.out⟩
              case measure => simp [intOf]; omega
        · have HH := Lib.hid HF.out
          rw [DO.out, f_blank _ _ _ _ hbl] at HH
          unfold blankB at hbl
          generalize (c == 32) = b32 at *
          generalize (c == 9) = b9 at *
          clear KS e35 e34 e92
          by_cases hcn : cur = []
          · rw [decide_eq_true hcn] at eP
            rw [hcn, addF_nil] at HH
            clear hcn
            cases b32 <;> cases b9
            · cases hbl
            all_goals
              go_wp2
              go_roundw
              case rel => exact ⟨k + 1, out, [], false, false, by omega, by simp, by omega, by go_num, rfl, rfl, rfl, HR.out, HB.out, fun _ => rfl, HH.out⟩
              case measure => simp [intOf]; omega
          · rw [decide_eq_false hcn] at eP
            rw [addF_some hcn] at HH
            clear hcn
            cases b32 <;> cases b9
            · cases hbl
            all_goals
              go_wp2_with (at_builtin; refine wpList_append_text rfl _ _ rfl w.heap.size _ out rfl HR.out HB.out.size _ cur HPP.out.symm rfl (by omega) ?_)
              intro v1 w2 h1 hb2
              have H1 := Lib.hid h1; have HB2 := Lib.hid hb2
              clear h1 hb2
              go_wp2
              go_roundw
              case rel => exact ⟨k + 1, out ++ [cur], [], false, false, by omega, by simp, by simp; omega, by go_num, rfl, rfl, rfl, H1.out, HB.out.trans HB2.out, fun _ => rfl, HH.out⟩
              case measure => simp [intOf]; omega
      · cases hse : seenB c
        · rw [hse] at KS
          have HKS := Lib.hid KS
          have HH := Lib.hid HF.out
          rw [DO.out, f_in_bad _ _ _ _ hse] at HH
          clear KS e35 e34 e92 e32 e9 hse
          go_wp2_with (go_at_call 44; refine (HKS.out _).mono ?_; rintro e w' ⟨rfl, rfl⟩)
          go_ret2
          refine ⟨_, ret_fields HH.out rfl, ?_, HB.out⟩
          rw [← HH.out]
          exact TxS.nil _
        · rw [hse] at KS
          have HKS := Lib.hid KS
          have HH := Lib.hid HF.out
          rw [DO.out, f_in _ _ _ _ hse, show (c != 34) = !(c == 34) from rfl] at HH
          have hap := oct_apart c
          generalize (c == 34) = b34 at *
          generalize (c == 92) = b92 at *
          clear KS e35 e32 e9 hse
          have n34 : (x != 34) = !b34 := by rw [← e34]; rfl
          cases fr
          · cases b34 <;> cases b92
            · go_wp2_with (go_at_call 44; refine (HKS.out _).mono ?_; rintro e w' ⟨rfl, rfl⟩)
              go_roundw
              case rel => exact ⟨k + 1, out, cur ++ [c], true, false, by omega, by simp; omega, by omega, by go_num, by rw [HRR.out], rfl, rfl, HR.out, HB.out, fun _ => rfl, HH.out⟩
              case measure => simp [intOf]; omega
            · go_wp2_with (go_at_call 44; refine (HKS.out _).mono ?_; rintro e w' ⟨rfl, rfl⟩)
              go_roundw
              case rel => exact ⟨k + 1, out, cur ++ [c], true, true, by omega, by simp; omega, by omega, by go_num, by rw [HRR.out], rfl, rfl, HR.out, HB.out, (fun h => by cases h), HH.out⟩
              case measure => simp [intOf]; omega
            · go_wp2_with (go_at_call 44; refine (HKS.out _).mono ?_; rintro e w' ⟨rfl, rfl⟩)
              go_roundw
              case rel => exact ⟨k + 1, out, cur ++ [c], false, false, by omega, by simp; omega, by omega, by go_num, by rw [HRR.out], rfl, rfl, HR.out, HB.out, fun _ => rfl, HH.out⟩
              case measure => simp [intOf]; omega
            · exact absurd ⟨rfl, rfl⟩ hap
          · clear e34 e92 hap n34
            go_wp2_with (go_at_call 44; refine (HKS.out _).mono ?_; rintro e w' ⟨rfl, rfl⟩)
            go_roundw
            case rel => exact ⟨k + 1, out, cur ++ [c], true, false, by omega, by simp; omega, by omega, by go_num, by rw [HRR.out], rfl, rfl, HR.out, HB.out, fun _ => rfl, HH.out⟩
            case measure => simp [intOf]; omega
    · obtain rfl : k = s.size := by omega
      have HH := Lib.hid HF.out
      rw [List.drop_of_length_le (by rw [size_data]; exact Nat.le_refl _)] at HH
      by_cases hcn : cur = []
      · rw [decide_eq_true hcn] at eP
        have HC := Lib.hid hcn
        clear hcn
        generalize tx cur = P at *
        cases wi
        · rw [f_end, HC.out, addF_nil] at HH
          go_wp2
          go_ret2
          refine ⟨_, ret_fields HH.out rfl, ?_, HB.out⟩
          rw [← HH.out]
          exact HR.out.texts
        · rw [f_open] at HH
          go_wp2
          go_ret2
          refine ⟨_, ret_fields HH.out rfl, ?_, HB.out⟩
          rw [← HH.out]
          exact TxS.nil _
      · rw [decide_eq_false hcn] at eP
        obtain ⟨P, hP⟩ : ∃ P, tx cur = P := ⟨_, rfl⟩
        have HPP := Lib.hid hP
        have HC := Lib.hid hcn
        rw [hP] at eP hPz
        rw [hP]
        clear hP hcn
        cases wi
        · rw [f_end, addF_some HC.out] at HH
          go_wp2_with (at_builtin; refine wpList_append_text rfl _ _ rfl w.heap.size _ out rfl HR.out HB.out.size _ cur HPP.out.symm rfl (by omega) ?_)
          intro v1 w2 h1 hb2
          have H1 := Lib.hid h1; have HB2 := Lib.hid hb2
          clear h1 hb2
          go_wp2
          go_ret2
          refine ⟨_, ret_fields HH.out rfl, ?_, HB.out.trans HB2.out⟩
          rw [← HH.out]
          exact H1.out.texts
        · rw [f_open] at HH
          go_wp2_with (at_builtin; refine wpList_append_text rfl _ _ rfl w.heap.size _ out rfl HR.out HB.out.size _ cur HPP.out.symm rfl (by omega) ?_)
          intro v1 w2 h1 hb2
          have H1 := Lib.hid h1; have HB2 := Lib.hid hb2
          clear h1 hb2
          go_wp2
          go_ret2
          refine ⟨_, ret_fields HH.out rfl, ?_, HB.out.trans HB2.out⟩
          rw [← HH.out]
          exact TxS.nil _
end Go.Proofs.YtenigkjonegdmaaGreatDoor
/- What lex's Quote, bare and Unquote answer. -/
namespace Go.Proofs.YtenigkjonegdmaaGreatDoor
open Go.RowKit
set_option linter.unusedVariables false

/-- What a call answers that makes a text, or none. -/
def GivesQ (O : Option (List UInt8)) (w : World) (e : Ending) (w' : World) : Prop := e = .returned (.tuple #[.string (tx (O.getD [])), .bool O.isSome]) ∧ Below w.heap.size w w'
theorem ret_text {O G : Option (List UInt8)} {b : Bool} {p : ByteArray} (h : O = G) (hp : p = tx (O.getD [])) (hb : O.isSome = b) : Ending.returned (.tuple #[.string p, .bool b]) = .returned (.tuple #[.string (tx (G.getD [])), .bool G.isSome]) := by rw [← h, hb, hp]

theorem quote_yes {l : List UInt8} (h : l.all seenB = true) : quoteO l = some (quoteT l) := if_pos h
theorem quote_no {l : List UInt8} (h : l.all seenB = false) : quoteO l = none := if_neg (by rw [h]; decide)
theorem all_octet {s : ByteArray} {k : Nat} (h : k < s.size) (ha : (s.data.toList.take k).all seenB = true) (hc : seenB s[k] = true) : (s.data.toList.take (k + 1)).all seenB = true := by
  rw [take_octet h, List.all_append, ha]
  simp [hc]
theorem all_bad {s : ByteArray} {k : Nat} (h : k < s.size) (hc : seenB s[k] = false) : s.data.toList.all seenB = false := by
  rw [List.all_eq_false]
  refine ⟨s[k], ?_, by rw [hc]; decide⟩
  have e : s[k] = s.data.toList[k]'(by rw [size_data]; exact h) := rfl
  rw [e]
  exact List.getElem_mem _
theorem esc_octet {s : ByteArray} {k : Nat} (h : k < s.size) : (s.data.toList.take (k + 1)).flatMap escO = (s.data.toList.take k).flatMap escO ++ escO s[k] := by rw [take_octet h, esc_snoc]

def QuoteRel (s : ByteArray) (w : World) (b i : Value) (wr : World) : Prop :=
  ∃ k : Nat, k ≤ s.size ∧ i = .int .i64 (k : Int) ∧ rowB wr w.heap.size b (34 :: (s.data.toList.take k).flatMap escO) ∧ (s.data.toList.take k).all seenB = true ∧ Below w.heap.size w wr

set_option maxHeartbeats 2000000 in
theorem lexQuote_core (s : ByteArray) (w : World) (hs : s.size ≤ 9999999) :
    Calls Tryz.prog 36 #[.string s] w (GivesQ (quoteO s.data.toList) w) := by
  obtain ⟨F, hF0⟩ : ∃ F, quoteO s.data.toList = F := ⟨_, rfl⟩
  have HF := Lib.hid hF0
  rw [hF0]
  clear hF0
  go_enter Tryz.func36, Tryz.ntmps36
  go_wp2
  go_loopw [4, 10] (fun b i wr => QuoteRel s w b i wr) (fun _ i _ => s.size - (intOf i).toNat)
  case atStart => exact ⟨0, Nat.zero_le _, rfl, rowB_one w w.heap.size 34 (Nat.le_refl _), rfl, (Below.refl _ _).alloc (Nat.le_refl _) _⟩
  case round =>
    obtain ⟨k, hk, rfl, hrow, hall, hb⟩ := hrel
    have HR := Lib.hid hrow; have HB := Lib.hid hb; have HA := Lib.hid hall
    clear hrow hb hall
    have hEl : ((s.data.toList.take k).flatMap escO).length ≤ 99999999 := by
      have := esc_length (s.data.toList.take k)
      rw [List.length_take, size_data] at this
      omega
    by_cases hlt : k < s.size
    · have z1 : (k : Int) < (s.size : Int) := by omega
      have EO := Lib.hid (esc_octet hlt)
      have AO := Lib.hid (all_octet hlt HA.out)
      have AB := Lib.hid (all_bad hlt)
      obtain ⟨c, hc⟩ : ∃ c, s[k] = c := ⟨_, rfl⟩
      rw [hc] at EO AO AB
      have hx : ((s[k].toNat : Nat) : Int) = (c.toNat : Int) := by rw [hc]
      clear hc
      have KP := fun w => lexPrinted_any c w
      have e34 := oct34 c; have e92 := oct92 c
      have HCX := Lib.hid (rfl : (c.toNat : Int) = (c.toNat : Int))
      obtain ⟨x, hcx⟩ : ∃ x, (c.toNat : Int) = x := ⟨_, rfl⟩
      rw [hcx] at hx KP e34 e92
      have HX := Lib.hid hcx
      clear hcx HCX
      cases hse : seenB c
      · rw [hse] at KP
        have HKP := Lib.hid KP
        have HN := Lib.hid (quote_no (AB.out hse))
        rw [HF.out] at HN
        clear KP e34 e92 hse
        go_wp2_with (go_at_call 58; refine (HKP.out _).mono ?_; rintro e w' ⟨rfl, rfl⟩)
        go_ret2
        exact ⟨ret_text HN.out.symm rfl rfl, HB.out⟩
      · rw [hse] at KP
        have HKP := Lib.hid KP
        have HA1 := Lib.hid (AO.out hse)
        clear KP hse
        by_cases hq : c = 34 ∨ c = 92
        · have ES := Lib.hid (show escO c = [92, c] by rcases hq with rfl | rfl <;> decide)
          have b1 : (x == 34) = decide (c = 34) := by rw [e34, Bool.eq_iff_iff]; simp
          have b2 : (x == 92) = decide (c = 92) := by rw [e92, Bool.eq_iff_iff]; simp
          clear e34 e92
          rcases hq with hq | hq
          · rw [decide_eq_true hq] at b1
            clear b2 hq
            go_wp2_with (first
              | (go_at_call 58; refine (HKP.out _).mono ?_; rintro e w' ⟨rfl, rfl⟩)
              | (at_builtin; refine wpList_append_octet rfl _ _ rfl w.heap.size _ _ rfl HR.out HB.out.size 92 92 rfl rfl (by simp only [List.length_cons]; omega) ?_))
            intro v1 w1 h1 hb1
            have H1 := Lib.hid h1; have HB1 := Lib.hid (HB.out.trans hb1)
            clear h1 hb1
            go_wp2_with (at_builtin; refine wpList_append_octet rfl _ _ rfl w.heap.size _ _ rfl H1.out HB1.out.size x c HX.out.symm rfl (by simp only [List.length_append, List.length_cons, List.length_nil]; omega) ?_)
            intro v2 w2 h2 hb2
            have H2 := Lib.hid h2; have HB2 := Lib.hid (HB1.out.trans hb2)
            clear h2 hb2
            go_wp2
            go_roundw
            case rel =>
              refine ⟨k + 1, by omega, by go_num, ?_, HA1.out, HB2.out⟩
              rw [EO.out, ES.out]
              simpa using H2.out
            case measure => simp [intOf]; omega
          · have b1' : (x == 34) = false := by rw [b1, hq]; decide
            rw [decide_eq_true hq] at b2
            clear b1 hq
            go_wp2_with (first
              | (go_at_call 58; refine (HKP.out _).mono ?_; rintro e w' ⟨rfl, rfl⟩)
              | (at_builtin; refine wpList_append_octet rfl _ _ rfl w.heap.size _ _ rfl HR.out HB.out.size 92 92 rfl rfl (by simp only [List.length_cons]; omega) ?_))
            intro v1 w1 h1 hb1
            have H1 := Lib.hid h1; have HB1 := Lib.hid (HB.out.trans hb1)
            clear h1 hb1
            go_wp2_with (at_builtin; refine wpList_append_octet rfl _ _ rfl w.heap.size _ _ rfl H1.out HB1.out.size x c HX.out.symm rfl (by simp only [List.length_append, List.length_cons, List.length_nil]; omega) ?_)
            intro v2 w2 h2 hb2
            have H2 := Lib.hid h2; have HB2 := Lib.hid (HB1.out.trans hb2)
            clear h2 hb2
            go_wp2
            go_roundw
            case rel =>
              refine ⟨k + 1, by omega, by go_num, ?_, HA1.out, HB2.out⟩
              rw [EO.out, ES.out]
              simpa using H2.out
            case measure => simp [intOf]; omega
        · have ES := Lib.hid (escO_o (fun e => hq (.inl e)) (fun e => hq (.inr e)))
          have b1 : (x == 34) = false := by rw [e34]; simpa using fun e => hq (.inl e)
          have b2 : (x == 92) = false := by rw [e92]; simpa using fun e => hq (.inr e)
          clear e34 e92 hq
          go_wp2_with (first
            | (go_at_call 58; refine (HKP.out _).mono ?_; rintro e w' ⟨rfl, rfl⟩)
            | (at_builtin; refine wpList_append_octet rfl _ _ rfl w.heap.size _ _ rfl HR.out HB.out.size x c HX.out.symm rfl (by simp only [List.length_cons]; omega) ?_))
          intro v1 w1 h1 hb1
          have H1 := Lib.hid h1; have HB1 := Lib.hid (HB.out.trans hb1)
          clear h1 hb1
          go_wp2
          go_roundw
          case rel =>
            refine ⟨k + 1, by omega, by go_num, ?_, HA1.out, HB1.out⟩
            rw [EO.out, ES.out]
            simpa using H1.out
          case measure => simp [intOf]; omega
    · obtain rfl : k = s.size := by omega
      have HN := Lib.hid HA.out
      rw [List.take_of_length_le (by rw [size_data]; exact Nat.le_refl _)] at HN
      have HY := Lib.hid (quote_yes HN.out)
      rw [HF.out] at HY
      go_wp2_with (at_builtin; refine wpList_append_octet rfl _ _ rfl w.heap.size _ _ rfl HR.out HB.out.size 34 34 rfl rfl (by simp only [List.length_cons]; omega) ?_)
      intro v1 w1 h1 hb1
      have hcv := rowB.text h1
      have HB1 := Lib.hid (HB.out.trans hb1)
      clear h1 hb1
      rw [List.take_of_length_le (by rw [size_data]; exact Nat.le_refl _)] at hcv
      obtain ⟨p, hp⟩ : ∃ p, tx (34 :: (s.data.toList.flatMap escO ++ [34])) = p := ⟨_, rfl⟩
      rw [hp] at hcv
      have HP := Lib.hid hp
      clear hp
      go_wp2
      go_ret2
      exact ⟨ret_text HY.out.symm HP.out.symm rfl, HB1.out⟩
theorem lexQuote_any (l : List UInt8) (w : World) (hs : l.length ≤ 9999999) : Calls Tryz.prog 36 #[.string (tx l)] w (GivesQ (quoteO l) w) := by
  have := lexQuote_core (tx l) w (by rw [tx_size]; exact hs)
  rwa [data_tx] at this

theorem bare_yes (r : List UInt8) : bareM (92 :: r) false = bareM r true := by simp [bareM]
theorem bare_no {c : UInt8} (r : List UInt8) (e : Bool) (h : (c == 92 && !e) = false) : bareM (c :: r) e = c :: bareM r false := by
  rw [bareM, if_neg (by rw [h]; decide)]
def BareRel (s : ByteArray) (w : World) (b t i : Value) (wr : World) : Prop :=
  ∃ (k : Nat) (out : List UInt8) (e : Bool), k ≤ s.size ∧ out.length ≤ k ∧ i = .int .i64 (k : Int) ∧ t = .bool e ∧ rowB wr w.heap.size b out ∧ Below w.heap.size w wr ∧ out ++ bareM (s.data.toList.drop k) e = bareM s.data.toList false

set_option maxHeartbeats 2000000 in
theorem lexBare_core (s : ByteArray) (w : World) (hs : s.size ≤ 9999999) :
    Calls Tryz.prog 103 #[.string s] w fun e w' => e = .returned (.string (tx (bareM s.data.toList false))) ∧ Below w.heap.size w w' := by
  obtain ⟨F, hF0⟩ : ∃ F, bareM s.data.toList false = F := ⟨_, rfl⟩
  have HF0 := Lib.hid hF0
  rw [hF0]
  clear hF0
  obtain ⟨p, hp⟩ : ∃ p, tx F = p := ⟨_, rfl⟩
  have HP := Lib.hid hp
  rw [hp]
  clear hp
  go_enter Tryz.func103, Tryz.ntmps103
  go_wp2
  go_loopw [3, 4, 8] (fun b t i wr => BareRel s w b t i wr) (fun _ _ i _ => s.size - (intOf i).toNat)
  case atStart => exact ⟨0, [], false, Nat.zero_le _, Nat.le_refl _, rfl, rfl, rowB_nil _ _, Below.refl _ _, rfl⟩
  case round =>
    obtain ⟨k, out, e, hk, ho, rfl, rfl, hrow, hb, hF⟩ := hrel
    have HR := Lib.hid hrow; have HB := Lib.hid hb; have HF := Lib.hid hF
    clear hrow hb hF
    by_cases hlt : k < s.size
    · have z1 : (k : Int) < (s.size : Int) := by omega
      have DO := Lib.hid (drop_octet hlt)
      obtain ⟨c, hc⟩ : ∃ c, s[k] = c := ⟨_, rfl⟩
      rw [hc] at DO
      have hx : ((s[k].toNat : Nat) : Int) = (c.toNat : Int) := by rw [hc]
      clear hc
      have e92 := oct92 c
      obtain ⟨x, hcx⟩ : ∃ x, (c.toNat : Int) = x := ⟨_, rfl⟩
      rw [hcx] at hx e92
      have HX := Lib.hid hcx
      clear hcx
      by_cases h92 : c = 92
      · have b1 : (x == 92) = true := by rw [e92, h92]; rfl
        cases e
        · have HH := Lib.hid HF.out
          rw [DO.out, h92, bare_yes] at HH
          clear e92 h92
          go_wp2
          go_roundw
          case rel => exact ⟨k + 1, out, true, by omega, by omega, by go_num, rfl, HR.out, HB.out, HH.out⟩
          case measure => simp [intOf]; omega
        · have HH := Lib.hid HF.out
          rw [DO.out, bare_no _ _ (by rw [h92]; decide)] at HH
          clear e92 h92
          go_wp2_with (at_builtin; refine wpList_append_octet rfl _ _ rfl w.heap.size _ _ rfl HR.out HB.out.size x c HX.out.symm rfl (by omega) ?_)
          intro v1 w1 h1 hb1
          have H1 := Lib.hid h1; have HB1 := Lib.hid (HB.out.trans hb1)
          clear h1 hb1
          go_wp2
          go_roundw
          case rel => exact ⟨k + 1, out ++ [c], false, by omega, by simp; omega, by go_num, rfl, H1.out, HB1.out, by rw [← HH.out]; simp⟩
          case measure => simp [intOf]; omega
      · have b1 : (x == 92) = false := by rw [e92]; simpa using h92
        have HH := Lib.hid HF.out
        rw [DO.out, bare_no _ _ (by simp [h92])] at HH
        clear e92 h92
        go_wp2_with (at_builtin; refine wpList_append_octet rfl _ _ rfl w.heap.size _ _ rfl HR.out HB.out.size x c HX.out.symm rfl (by omega) ?_)
        intro v1 w1 h1 hb1
        have H1 := Lib.hid h1; have HB1 := Lib.hid (HB.out.trans hb1)
        clear h1 hb1
        go_wp2
        go_roundw
        case rel => exact ⟨k + 1, out ++ [c], false, by omega, by simp; omega, by go_num, rfl, H1.out, HB1.out, by rw [← HH.out]; simp⟩
        case measure => simp [intOf]; omega
    · obtain rfl : k = s.size := by omega
      have HH := Lib.hid HF.out
      rw [List.drop_of_length_le (by rw [size_data]; exact Nat.le_refl _), show bareM [] e = [] by rfl, List.append_nil, HF0.out] at HH
      have hcv := rowB.text HR.out
      rw [HH.out, HP.out] at hcv
      go_wp2
      go_ret
      exact ⟨rfl, HB.out⟩
theorem lexBare_any (l : List UInt8) (w : World) (hs : l.length ≤ 9999999) : Calls Tryz.prog 103 #[.string (tx l)] w fun e w' => e = .returned (.string (tx (bareM l false))) ∧ Below w.heap.size w w' := by
  have := lexBare_core (tx l) w (by rw [tx_size]; exact hs)
  rwa [data_tx] at this

theorem mid_extract {s : ByteArray} (h : 2 ≤ s.size) : s.extract 1 (s.size - 1) = tx (midL s.data.toList) := by
  rw [tx_extract]
  unfold midL
  rw [size_data]
theorem slice_mid {s : ByteArray} (h : 2 ≤ s.size) (hs : s.size ≤ 9999999) (w : World) : (Instr.slice 9 (.string s) (some (.int .i64 1)) (some (.int .i64 ((s.size : Int) - 1))) none).run Tryz.prog w = .ok (.string (tx (midL s.data.toList))) w := by
  rw [run_slice_string_if w 9 s .i64 .i64 _ _ Tryz.underlying9, if_pos (by omega), if_pos (by omega), ← mid_extract h]
  have e : ((s.size : Int) - 1).toNat = s.size - 1 := by omega
  rw [e]
  rfl
theorem mid_length (s : List UInt8) : (midL s).length ≤ s.length := by
  unfold midL
  rw [List.length_drop, List.length_take]
  omega

set_option maxHeartbeats 2000000 in
theorem lexUnquote_core (s : ByteArray) (w : World) (hs : s.size ≤ 999999) :
    Calls Tryz.prog 94 #[.string s] w (GivesQ (unqO s.data.toList) w) := by
  by_cases h2 : s.size < 2
  · have HN := Lib.hid (unq_short (s := s.data.toList) (by rw [size_data]; exact h2))
    obtain ⟨F, hF0⟩ : ∃ F, unqO s.data.toList = F := ⟨_, rfl⟩
    rw [hF0] at HN ⊢
    clear hF0
    have z1 : (s.size : Int) < 2 := by omega
    go_enter Tryz.func94, Tryz.ntmps94
    go_wp2
    go_ret2
    exact ⟨ret_text HN.out.symm rfl rfl, Below.refl _ _⟩
  · have z1 : decide ((s.size : Int) < 2) = false := by simp; omega
    have hsl := slice_mid (by omega) (by omega) (s := s)
    obtain ⟨m, hm⟩ : ∃ m, midL s.data.toList = m := ⟨_, rfl⟩
    have hml : m.length ≤ 999999 := by have := mid_length s.data.toList; rw [size_data, hm] at this; omega
    rw [hm] at hsl
    have HM := Lib.hid hm
    have KB := Lib.hid fun w => lexBare_any m w (by omega)
    have hul := bare_length m false
    have ES := Lib.hid (tx_data s)
    obtain ⟨u, hu⟩ : ∃ u, bareM m false = u := ⟨_, rfl⟩
    rw [hu] at KB hul
    have HU := Lib.hid hu
    clear hm hu
    have KQ := Lib.hid fun w => lexQuote_any u w (by omega)
    obtain ⟨F, hF0⟩ : ∃ F, unqO s.data.toList = F := ⟨_, rfl⟩
    have HF := Lib.hid hF0
    rw [hF0]
    clear hF0
    have cs := tx_same ((quoteO u).getD []) s.data.toList
    rw [ES.out] at cs
    obtain ⟨U, hU⟩ : ∃ U, tx u = U := ⟨_, rfl⟩
    have HUU := Lib.hid hU
    rw [hU] at KB KQ
    clear hU
    by_cases hq : quoteO u = some s.data.toList
    · have HH := Lib.hid (unq_code_yes (s := s.data.toList) (by rw [HM.out, HU.out]; exact hq))
      rw [HM.out, HU.out, HF.out] at HH
      unfold GivesQ at KQ
      rw [hq] at KQ
      rw [show (some s.data.toList).getD [] = s.data.toList from rfl, show (some s.data.toList).isSome = true from rfl, ES.out] at KQ
      clear hq cs
      generalize tx m = M at *
      go_enter Tryz.func94, Tryz.ntmps94
      go_wp2_with fail
      refine (KB.out _).mono ?_
      rintro e w1 ⟨rfl, hb⟩
      have HB := Lib.hid hb
      clear hb
      go_wp2_with fail
      refine (KQ.out _).mono ?_
      rintro e w2 ⟨rfl, hb⟩
      have HB2 := Lib.hid (up_trans HB.out hb)
      clear hb
      go_wp2
      go_ret2
      exact ⟨ret_text HH.out.symm HUU.out.symm rfl, HB2.out⟩
    · have HH := Lib.hid (unq_code_no (s := s.data.toList) (by rw [HM.out, HU.out]; exact hq))
      rw [HF.out] at HH
      cases hO : quoteO u with
      | none =>
        unfold GivesQ at KQ
        rw [hO] at KQ
        rw [show (none : Option (List UInt8)).getD [] = [] from rfl, show (none : Option (List UInt8)).isSome = false from rfl] at KQ
        clear hq cs hO
        generalize tx m = M at *
        generalize tx [] = E at *
        go_enter Tryz.func94, Tryz.ntmps94
        go_wp2_with fail
        refine (KB.out _).mono ?_
        rintro e w1 ⟨rfl, hb⟩
        have HB := Lib.hid hb
        clear hb
        go_wp2_with fail
        refine (KQ.out _).mono ?_
        rintro e w2 ⟨rfl, hb⟩
        have HB2 := Lib.hid (up_trans HB.out hb)
        clear hb
        go_wp2
        go_ret2
        exact ⟨ret_text HH.out.symm rfl rfl, HB2.out⟩
      | some q =>
        unfold GivesQ at KQ
        rw [hO] at KQ cs hq
        rw [show (some q).getD [] = q from rfl, show (some q).isSome = true from rfl] at KQ
        rw [show (some q).getD [] = q from rfl, decide_eq_false (fun e => hq (by rw [e]))] at cs
        clear hq hO
        generalize tx m = M at *
        generalize tx q = T at *
        go_enter Tryz.func94, Tryz.ntmps94
        go_wp2_with fail
        refine (KB.out _).mono ?_
        rintro e w1 ⟨rfl, hb⟩
        have HB := Lib.hid hb
        clear hb
        go_wp2_with fail
        refine (KQ.out _).mono ?_
        rintro e w2 ⟨rfl, hb⟩
        have HB2 := Lib.hid (up_trans HB.out hb)
        clear hb
        go_wp2
        go_ret2
        exact ⟨ret_text HH.out.symm rfl rfl, HB2.out⟩
end Go.Proofs.YtenigkjonegdmaaGreatDoor
/- What scheme.Names and scheme.Name answer: all names, in order; the first name of any scheme. -/
namespace Go.Proofs.YtenigkjonegdmaaGreatDoor
open Go.RowKit Go.Shelf
set_option linter.unusedVariables false
attribute [local go_sem] Oper.semAt_some

/-- The names that have come, as cells. -/
def namesV (pre : List CatE) : List Value := pre.map fun e => .string (tx e.1.1)
theorem namesV_snoc (pre : List CatE) (x : CatE) : namesV (pre ++ [x]) = namesV pre ++ [.string (tx x.1.1)] := by simp [namesV]
def namesL : List (List UInt8) := catS.map Prod.fst
theorem namesV_all : namesV catL = namesL.map fun l => .string (tx l) := by
  unfold namesV namesL catL
  rw [List.map_map]
  have : (fun e : CatE => Value.string (tx e.1.1)) = (fun e : List UInt8 × Sc => Value.string (tx e.1)) ∘ Subtype.val := rfl
  rw [this, ← List.map_map, List.attach_map_subtype_val]
  rfl
theorem cell_one (w : World) (x : Value) (t : TypeId) : ∀ j u, [x][j]? = some u → (w.alloc (.cells #[x] t)).cell? ((⟨w.heap.size, 0, none⟩ : Addr).add j) = some u := by
  intro j u hj
  match j, hj with
  | 0, hj => simp at hj; subst hj; simp [Addr.add]
  | j + 1, hj => simp at hj

/-- A scheme's first name; empty: it has none. -/
def nameT (s : Sc) : ByteArray := match nameM s with
  | some n => tx n
  | none => ⟨#[]⟩
theorem told_eq (s : Sc) (x : CatE) : ((tx (textE x)).toList == (tellT s).toList) = decide (x.1.2 = s) := by
  have hx := cat_told x.1 x.2
  have ht : textE x = headT x.1.2 ++ tailT x.1.2.l := joinM_parts _
  unfold tellT
  split
  · rename_i hs
    rw [tx_same, ht, Bool.eq_iff_iff, decide_eq_true_eq, decide_eq_true_eq]
    exact ⟨fun e => tell_inj hx hs e, fun e => by rw [e]⟩
  · rename_i hs
    rw [show (⟨#[]⟩ : ByteArray) = tx [] from rfl, tx_same, Bool.eq_iff_iff, decide_eq_true_eq, decide_eq_true_eq, ht]
    constructor
    · intro e; simp [headT] at e
    · intro e; rw [e] at hx; exact absurd hx hs

theorem name_own (c' : Code) (s : Sc) (w : World) (B : Nat) (hB : w.heap.size ≤ B) : OwnFrom B (fun (_ : List CatE) W => c' = .ret ∧ ∃ n : List UInt8, nameM s = some n ∧ W.cell? ⟨w.heap.size + 1, 0, none⟩ = some (.string (tx n)) ∧ W.cell? ⟨w.heap.size + 1 + 1, 0, none⟩ = some (.bool true) ∧ Below w.heap.size w W) := by
  rintro _ W W' row ⟨e, n, h1, h2, h3, h5⟩ hg hr
  have hr' : ∀ r, row = some r → ∃ o : Obj, W.heap[r]? = some o ∧ o.isCells = false := fun r e => (hr r e).2
  exact ⟨e, n, h1, cell_kept h2 hg hr', cell_kept h3 hg hr', h5.grown hg h5.size (fun k e => by have := (hr k e).1; omega)⟩

set_option maxRecDepth 100000 in
set_option maxHeartbeats 4000000 in
theorem schName_any (s : Sc) (a : Option Addr) (cap : Nat) (w : World) (h : InL w a s.l) (hg : GoodM w) :
    Calls Tryz.prog 62 #[.agg #[.int .i64 s.c, .int .i64 s.r, .slice a s.l.length cap]] w fun e w' => e = .returned (.tuple #[.string (nameT s), .bool (nameM s).isSome]) ∧ Below w.heap.size w w' := by
  obtain ⟨c, hc⟩ : ∃ c, s.c = c := ⟨_, rfl⟩
  obtain ⟨r, hr⟩ : ∃ r, s.r = r := ⟨_, rfl⟩
  obtain ⟨n, hn⟩ : ∃ n, s.l.length = n := ⟨_, rfl⟩
  obtain ⟨T, hT⟩ : ∃ T, tellT s = T := ⟨_, rfl⟩
  obtain ⟨b, hb⟩ : ∃ b, toldB s = b := ⟨_, rfl⟩
  have KT := fun w1 (h1 : InL w1 a s.l) (h2 : Tab w1) => schTell_any s a cap w1 h1 h2
  rw [hc, hr, hn, hT, hb] at KT
  rw [hc, hr, hn]
  have HT := Lib.hid hT; have HKT := Lib.hid KT; have HI := Lib.hid h; have HG := Lib.hid hg
  clear hc hr hn hT hb KT h hg
  refine (callsIn_wide (n := 3)).1 ?_
  refine callsIn_of_wp_marks Tryz.func62 rfl trivial ?_ rfl
  simp only [Tryz.ntmps62, List.size_toArray, List.length_cons, List.length_nil, Nat.reduceAdd, Nat.reduceSub, Array.replicate_succ, Array.replicate_zero, List.push_toArray, List.append_toArray, List.nil_append, List.cons_append]
  have x1 := (Bx.new (w.alloc (.cells #[.int .i64 c, .int .i64 r, .slice a n cap] 26)) 9 [.string ⟨#[]⟩]).alloc (.cells #[.bool false] 4)
  have x2 := Bx.new ((w.alloc (.cells #[.int .i64 c, .int .i64 r, .slice a n cap] 26)).alloc (.cells #[.string ⟨#[]⟩] 9)) 4 [.bool false]
  simp only [World.size_alloc] at x1 x2
  have upw : Below w.heap.size w (((w.alloc (.cells #[.int .i64 c, .int .i64 r, .slice a n cap] 26)).alloc (.cells #[.string ⟨#[]⟩] 9)).alloc (.cells #[.bool false] 4)) := up_alloc (up_alloc (up_alloc (Below.refl _ _) _) _) _
  gi_wp2
  refine ⟨trivial, (callsIn_wide.2 (HKT.out _ (HI.out.up upw) (HG.out.below upw).1.1)).mono ?_⟩
  rintro e w1 ⟨rfl, hb1⟩
  have X1 := (x1.up hb1).alloc (.cells #[.string T] 9)
  have X2 := (x2.up hb1).alloc (.cells #[.string T] 9)
  have X4 := Bx.new w1 9 [.string T]
  have hu := up_alloc (up_trans upw hb1) (.cells #[.string T] 9)
  obtain ⟨B, hB⟩ : ∃ B, w1.heap.size = B := ⟨_, rfl⟩
  have hsz : (w1.alloc (.cells #[.string T] 9)).heap.size = B + 1 := by rw [← hB]; simp
  have hlt : w.heap.size + 3 ≤ B := by have := hb1.size; simp at this; omega
  rw [hB] at X4
  gi_wp2
  obtain ⟨W0, hW0⟩ : ∃ W0, w1.alloc (.cells #[.string T] 9) = W0 := ⟨_, rfl⟩
  rw [hW0] at X1 X2 X4 hu hsz ⊢
  have G0 := (HG.out.below hu)
  clear hW0 upw x1 x2 hb1 hB
  have HU := Lib.hid hu; have HX1 := Lib.hid X1; have HX2 := Lib.hid X2; have HX4 := Lib.hid X4
  clear hu X1 X2 X4
  refine wpIn_rangeFunc_ownG_of_H rfl (by decide) (gf := 85) (lb := #[]) rfl trivial (enters_of Tryz.func85 (by kernel_rfl) rfl)
    (catalogue_stops 2 W0 G0.2) belowK_t (belowK_b (Nat.le_refl _)) (Below.refl _ _) (fun _ => rfl)
    (fun pre W => (∀ e ∈ pre, e.1.2 ≠ s) ∧ Below W0.heap.size W0 W)
    (fun c' pre W => c' = .ret ∧ ∃ n : List UInt8, nameM s = some n ∧ W.cell? ⟨w.heap.size + 1, 0, none⟩ = some (.string (tx n)) ∧ W.cell? ⟨w.heap.size + 1 + 1, 0, none⟩ = some (.bool true) ∧ Below w.heap.size w W)
    (OwnFrom.and (ownFrom_pure _ _) (ownFrom_below (Nat.le_refl _) (Nat.le_refl _)))
    (fun c' => name_own c' s w W0.heap.size (by omega))
    ⟨fun e he => (by cases he), Below.refl _ _⟩
    (fun x => { tmps := #[.agg #[.int .i64 c, .int .i64 r, .slice a n cap], .pointer (some ⟨w.heap.size, 0, none⟩), .pointer (some ⟨w.heap.size + 1, 0, none⟩), .pointer (some ⟨w.heap.size + 1 + 1, 0, none⟩), .pointer (some ⟨B, 0, none⟩), .bool b, .string (tx x.1.1), .string (tx (textE x)), .tuple #[.string T, .bool b], .agg #[.int .i64 c, .int .i64 r, .slice a n cap], .tuple #[.string T, .bool b], .string T, .bool b, .string (tx x.1.1), .string (tx (textE x)), undef, undef, undef, undef], defers := [] })
    ?assign ?body ?done ?stop (Below.refl _)
  case assign =>
    intro l x W K hK
    unfold encE
    gi_wp2
    exact hK
  case body =>
    rintro l0 pre x W ⟨hne, hB⟩ hlen
    have y1 := HX1.out.up hB
    have y2 := HX2.out.up hB
    have y4 := HX4.out.up hB
    have a0 := y4.cell 0 rfl
    have r0 := y1.cell 0 rfl; have rf := y1.free; have s0 := y2.cell 0 rfl; have sf := y2.free
    have HB := Lib.hid hB; have HNE := Lib.hid hne
    have e := told_eq s x
    rw [HT.out] at e
    by_cases hx : x.1.2 = s
    · rw [decide_eq_true hx] at e
      have HF := Lib.hid (show nameM s = some x.1.1 by rw [← hx]; exact (find_of_mem x.2).2)
      generalize tx (textE x) = R at *
      generalize x.1.1 = q at *
      obtain ⟨Q, hQ⟩ : ∃ Q, tx q = Q := ⟨_, rfl⟩
      have HQ := Lib.hid hQ
      rw [hQ]
      clear hne hB hx hQ
      gi_wp2
      have ho := (KeepsOthers.setCell W ⟨w.heap.size + 1, 0, none⟩ (.string Q)).trans (KeepsOthers.setCell _ ⟨w.heap.size + 1 + 1, 0, none⟩ (.bool true))
      refine ⟨ho.from _, rfl, q, HF.out, ?_, ?_, ?_⟩
      · rw [HQ.out]
        exact ((y1.set 0 (.string Q)).far (p := ⟨w.heap.size + 1 + 1, 0, none⟩) (by simp only; omega) _).cell 0 rfl
      · exact ((y2.far (p := ⟨w.heap.size + 1, 0, none⟩) (by simp only; omega) (.string Q)).set 0 (.bool true)).cell 0 rfl
      · have B2 := HU.out.trans (HB.out.mono (by omega))
        repeat (first | (with_reducible exact B2) | (with_reducible refine up_set ?_ (by simp only; omega) _))
    · rw [decide_eq_false hx] at e
      generalize tx (textE x) = R at *
      have HX := Lib.hid hx
      generalize tx x.1.1 = Q at *
      clear hne hB hx
      gi_wp2
      exact ⟨KeepsFrom.refl _ _, Below.refl _ _, fun y hy => by
        rcases List.mem_append.1 hy with h | h
        · exact HNE.out y h
        · obtain rfl := List.mem_singleton.1 h; exact HX.out, HB.out⟩
  case done =>
    rintro D ys W hD rfl ⟨hne, hB⟩ hK
    have E := Lib.hid (show nameM s = none from name_none fun e he h => hne ⟨e, he⟩ (List.mem_attach _ _) h)
    have y1 := HX1.out.up hB
    have y2 := HX2.out.up hB
    have r0 := y1.cell 0 rfl; have rf := y1.free; have s0 := y2.cell 0 rfl; have sf := y2.free
    have hB1 := Lib.hid (HU.out.trans (hB.mono (by omega)))
    clear hne hB
    gi_wp2
    have hK' := ((KeepsOthers.setCell W ⟨w.heap.size + 1, 0, none⟩ (.string ⟨#[]⟩)).trans (KeepsOthers.setCell _ ⟨w.heap.size + 1 + 1, 0, none⟩ (.bool false))).same D _ hK rfl
    refine ⟨by simp, .inl ⟨_, _, rfl, run_takeDeferred hK', ?_⟩⟩
    have p0 := cell_kept (((y1.set 0 (.string ⟨#[]⟩)).far (p := ⟨w.heap.size + 1 + 1, 0, none⟩) (by simp only; omega) (.bool false)).cell 0 rfl) (grownBy_putObj' _ D (.deferred none)) (fun r e => by cases e; exact ⟨_, hK', rfl⟩)
    have p1 := cell_kept (((y2.far (p := ⟨w.heap.size + 1, 0, none⟩) (by simp only; omega) (.string ⟨#[]⟩)).set 0 (.bool false)).cell 0 rfl) (grownBy_putObj' _ D (.deferred none)) (fun r e => by cases e; exact ⟨_, hK', rfl⟩)
    refine ⟨.tuple #[.string ⟨#[]⟩, .bool false], by simp [results, Tryz.results62, go_sem, p0, p1], by unfold nameT; rw [E.out]; rfl, ?_⟩
    refine Below.trans ?_ (belowK_b (w := w) (Nat.le_refl _) _ D _ _ (by omega) hK' rfl rfl)
    have B2 := hB1.out
    repeat (first | (with_reducible exact B2) | (with_reducible refine up_set ?_ (by simp only; omega) _))
  case stop =>
    rintro D c' pre W hD hpre ⟨rfl, q, h1, h2, h3, h5⟩ hK
    have H5 := Lib.hid h5; have H1 := Lib.hid h1
    clear h1 h5
    gi_wp2
    refine ⟨by simp, .inl ⟨_, _, rfl, run_takeDeferred hK, ?_⟩⟩
    have p0 := cell_kept h2 (grownBy_putObj' _ D (.deferred none)) (fun r e => by cases e; exact ⟨_, hK, rfl⟩)
    have p1 := cell_kept h3 (grownBy_putObj' _ D (.deferred none)) (fun r e => by cases e; exact ⟨_, hK, rfl⟩)
    refine ⟨.tuple #[.string (tx q), .bool true], by simp [results, Tryz.results62, go_sem, p0, p1], by unfold nameT; rw [H1.out]; rfl, H5.out.trans (belowK_b (w := w) (Nat.le_refl _) _ D _ _ (by omega) hK rfl rfl)⟩
end Go.Proofs.YtenigkjonegdmaaGreatDoor
/- What scheme.Put and scheme.Get answer: for every scheme and every list of texts. -/
namespace Go.Proofs.YtenigkjonegdmaaGreatDoor
open Go.RowKit
set_option linter.unusedVariables false

/-- A scheme's text; empty: it has none. -/
def putT (s : Sc) : ByteArray := match putM s with
  | some t => tx t
  | none => ⟨#[]⟩

theorem schPut_named (c r : Int) (a : Option Addr) (n cap : Nat) (T : ByteArray) (w : World)
    (KN : ∀ w1, Below w.heap.size w w1 → Calls Tryz.prog 62 #[.agg #[.int .i64 c, .int .i64 r, .slice a n cap]] w1 fun e w' => e = .returned (.tuple #[.string T, .bool true]) ∧ Below w1.heap.size w1 w') :
    Calls Tryz.prog 39 #[.agg #[.int .i64 c, .int .i64 r, .slice a n cap]] w fun e w' => e = .returned (.tuple #[.string T, .bool true]) ∧ Below w.heap.size w w' := by
  have HN := Lib.hid KN
  clear KN
  go_enter Tryz.func39, Tryz.ntmps39
  go_wp2_with fail
  refine (HN.out _ (up_alloc (Below.refl _ _) _)).mono ?_
  rintro e w1 ⟨rfl, hb⟩
  have B1 := Lib.hid (up_trans (up_alloc (Below.refl _ w) _) hb)
  clear hb
  go_wp2
  go_ret2
  exact ⟨rfl, B1.out⟩
theorem schPut_told (c r : Int) (a : Option Addr) (n cap : Nat) (S T : ByteArray) (b : Bool) (w : World)
    (KN : ∀ w1, Below w.heap.size w w1 → Calls Tryz.prog 62 #[.agg #[.int .i64 c, .int .i64 r, .slice a n cap]] w1 fun e w' => e = .returned (.tuple #[.string S, .bool false]) ∧ Below w1.heap.size w1 w')
    (KT : ∀ w1, Below w.heap.size w w1 → Calls Tryz.prog 63 #[.agg #[.int .i64 c, .int .i64 r, .slice a n cap]] w1 fun e w' => e = .returned (.tuple #[.string T, .bool b]) ∧ Below w1.heap.size w1 w') :
    Calls Tryz.prog 39 #[.agg #[.int .i64 c, .int .i64 r, .slice a n cap]] w fun e w' => e = .returned (.tuple #[.string T, .bool b]) ∧ Below w.heap.size w w' := by
  have HN := Lib.hid KN; have HT := Lib.hid KT
  clear KN KT
  go_enter Tryz.func39, Tryz.ntmps39
  go_wp2_with fail
  refine (HN.out _ (up_alloc (Below.refl _ _) _)).mono ?_
  rintro e w1 ⟨rfl, hb⟩
  have A1 := (Bx.new w 26 [.int .i64 c, .int .i64 r, .slice a n cap]).up hb
  have B1 := Lib.hid (up_trans (up_alloc (Below.refl _ w) _) hb)
  have a0 := A1.cell 0 rfl; have a1 := A1.cell 1 rfl; have a2 := A1.cell 2 rfl
  clear hb A1
  go_wp2_with fail
  refine (HT.out _ B1.out).mono ?_
  rintro e w2 ⟨rfl, hb⟩
  have B2 := Lib.hid (up_trans B1.out hb)
  clear hb
  go_wp2
  go_ret2
  exact ⟨rfl, B2.out⟩
theorem schPut_any (s : Sc) (a : Option Addr) (cap : Nat) (w : World) (h : InL w a s.l) (hg : GoodM w) :
    Calls Tryz.prog 39 #[.agg #[.int .i64 s.c, .int .i64 s.r, .slice a s.l.length cap]] w fun e w' => e = .returned (.tuple #[.string (putT s), .bool (putM s).isSome]) ∧ Below w.heap.size w w' := by
  have KN := fun w1 (hb : Below w.heap.size w w1) => schName_any s a cap w1 (h.up hb) (hg.below hb)
  have KT := fun w1 (hb : Below w.heap.size w w1) => schTell_any s a cap w1 (h.up hb) (hg.below hb).1.1
  unfold putT putM
  unfold nameT at KN
  cases hn : nameM s with
  | some n =>
    rw [hn] at KN
    exact schPut_named s.c s.r a _ cap (tx n) w KN
  | none =>
    rw [hn] at KN
    have hT : (match tellM s with | some t => tx t | none => ⟨#[]⟩) = tellT s ∧ (tellM s).isSome = toldB s := by
      cases hb : toldB s <;> simp [tellM, tellT, hb]
    show Calls _ _ _ w fun e w' => e = .returned (.tuple #[.string (match tellM s with | some t => tx t | none => ⟨#[]⟩), .bool (tellM s).isSome]) ∧ _
    rw [hT.1, hT.2]
    exact schPut_told s.c s.r a _ cap ⟨#[]⟩ (tellT s) (toldB s) w KN KT

theorem gives_no {w w' : World} {e : Ending} (h : GivesS none w e w') : ∃ a c, e = .returned (.tuple #[.agg #[.int .i64 0, .int .i64 0, .slice a 0 c], .bool false]) ∧ Below w.heap.size w w' := let ⟨a, c, h1, _, h2⟩ := h; ⟨a, c, h1, h2⟩
theorem gives_some {w w' : World} {a : Option Addr} {cap : Nat} {s : Sc} (h : InF w.heap.size w' a s.l) (hb : Below w.heap.size w w') : GivesS (some s) w (.returned (.tuple #[.agg #[.int .i64 s.c, .int .i64 s.r, .slice a s.l.length cap], .bool true])) w' := ⟨a, cap, rfl, h, hb⟩

set_option maxHeartbeats 1000000 in
theorem schGet_found (g o cap : Nat) (X : ByteArray) (s : Sc) (w : World) (hx : w.cell? ⟨g, o, none⟩ = some (.string X))
    (KF : ∀ w1, Below w.heap.size w w1 → Calls Tryz.prog 106 #[.string X] w1 (GivesS (some s) w1)) :
    Calls Tryz.prog 97 #[.slice (some ⟨g, o, none⟩) 1 cap] w (GivesS (some s) w) := by
  have HF := Lib.hid KF
  clear KF
  have B0 := Lib.hid (up_alloc (Below.refl _ w) (.cells #[.int .i64 0, .int .i64 0, .slice none 0 0] 26))
  have x0 := bl_cell B0.out hx
  go_enter Tryz.func97, Tryz.ntmps97
  go_wp2_with fail
  refine (HF.out _ B0.out).mono ?_
  rintro e w1 ⟨a, c, rfl, hF, hb⟩
  have hF' : InF (w.heap.size + 1) w1 a s.l := by simpa using hF
  have hr := hF'.up (up_alloc (Below.refl _ _) (.cells #[.int .i64 s.c, .int .i64 s.r, .slice a s.l.length c] 26))
  have A1 := ((Bx.new w 26 [.int .i64 0, .int .i64 0, .slice none 0 0]).up hb).alloc (.cells #[.int .i64 s.c, .int .i64 s.r, .slice a s.l.length c] 26)
  have B1 := Lib.hid (up_alloc (up_trans B0.out hb) (.cells #[.int .i64 s.c, .int .i64 s.r, .slice a s.l.length c] 26))
  have HR := Lib.hid hr
  have a0 := A1.cell 0 rfl; have a1 := A1.cell 1 rfl; have a2 := A1.cell 2 rfl; have af := A1.free
  clear hF hF' hr hb A1
  go_wp2
  refine bodyPost_ret (v := .tuple #[.agg #[.int .i64 s.c, .int .i64 s.r, .slice a s.l.length c], .bool true]) (by simp [results, Tryz.results97, go_sem, a0, a1, a2]) rfl (gives_some ?_ ?_)
  · have HR2 := HR.out
    refine InF.mono (base := w.heap.size + 1) ?_ (by omega)
    repeat (first | (with_reducible exact HR2) | (with_reducible refine InF.set ?_ (by simp only; omega) _))
  · have B2 := B1.out
    repeat (first | (with_reducible exact B2) | (with_reducible refine up_set ?_ (by simp only; omega) _))

set_option maxHeartbeats 2000000 in
theorem schGet_many_none (a0 : Option Addr) (n cap : Nat) (w : World) (hn : n ≠ 1)
    (KR : ∀ w1, Below w.heap.size w w1 → Calls Tryz.prog 107 #[.slice a0 n cap] w1 (GivesS none w1)) :
    Calls Tryz.prog 97 #[.slice a0 n cap] w (GivesS none w) := by
  have HR := Lib.hid KR
  clear KR
  have z1 : ((n : Int) == 1) = false := by simp; omega
  clear hn
  have B0 := Lib.hid (up_alloc (Below.refl _ w) (.cells #[.int .i64 0, .int .i64 0, .slice none 0 0] 26))
  go_enter Tryz.func97, Tryz.ntmps97
  go_wp2_with fail
  have A0 := Bx.new w 26 [.int .i64 0, .int .i64 0, .slice none 0 0]
  refine ((HR.out _ B0.out).mono fun _ _ => gives_no).mono ?_
  rintro e w2 ⟨a, c, rfl, hb⟩
  clear HR
  have A2 := (A0.up hb).alloc (.cells #[.int .i64 0, .int .i64 0, .slice a 0 c] 26)
  have B2 := Lib.hid (up_alloc (up_trans B0.out hb) (.cells #[.int .i64 0, .int .i64 0, .slice a 0 c] 26))
  have a0 := A2.cell 0 rfl; have a1 := A2.cell 1 rfl; have a2 := A2.cell 2 rfl; have af := A2.free
  clear hb A2
  go_wp2
  refine bodyPost_ret (v := .tuple #[.agg #[.int .i64 0, .int .i64 0, .slice none 0 0], .bool false]) (by simp [results, Tryz.results97, go_sem, a0, a1, a2]) rfl (gives_none ?_)
  have B3 := B2.out
  repeat (first | (with_reducible exact B3) | (with_reducible refine up_set ?_ (by simp only; omega) _))

set_option maxHeartbeats 2000000 in
theorem schGet_many_some (a0 : Option Addr) (n cap : Nat) (w : World) (hn : n ≠ 1)
    (s : Sc) (T : ByteArray) (b : Bool) (F : Option Sc) (hF : F = if b = true then none else some s)
    (KR : ∀ w1, Below w.heap.size w w1 → Calls Tryz.prog 107 #[.slice a0 n cap] w1 (GivesS (some s) w1))
    (KN : ∀ a c w1, InL w1 a s.l → Below w.heap.size w w1 → Calls Tryz.prog 62 #[.agg #[.int .i64 s.c, .int .i64 s.r, .slice a s.l.length c]] w1 fun e w' => e = .returned (.tuple #[.string T, .bool b]) ∧ Below w1.heap.size w1 w') :
    Calls Tryz.prog 97 #[.slice a0 n cap] w (GivesS F w) := by
  have HF := Lib.hid hF; have HR := Lib.hid KR; have HN := Lib.hid KN
  clear hF KR KN
  have z1 : ((n : Int) == 1) = false := by simp; omega
  clear hn
  have B0 := Lib.hid (up_alloc (Below.refl _ w) (.cells #[.int .i64 0, .int .i64 0, .slice none 0 0] 26))
  go_enter Tryz.func97, Tryz.ntmps97
  go_wp2_with fail
  have A0 := Bx.new w 26 [.int .i64 0, .int .i64 0, .slice none 0 0]
  refine (HR.out _ B0.out).mono ?_
  rintro e w2 ⟨a, c, rfl, hF, hb⟩
  clear HR
  have hF' : InF (w.heap.size + 1) w2 a s.l := InF.mono hF A0.lt
  have HR := Lib.hid (hF'.up (up_alloc (Below.refl _ _) (.cells #[.int .i64 s.c, .int .i64 s.r, .slice a s.l.length c] 26)))
  have A2 := (A0.up hb).alloc (.cells #[.int .i64 s.c, .int .i64 s.r, .slice a s.l.length c] 26)
  have C2 := Bx.new w2 26 [.int .i64 s.c, .int .i64 s.r, .slice a s.l.length c]
  have B2 := Lib.hid (up_alloc (up_trans B0.out hb) (.cells #[.int .i64 s.c, .int .i64 s.r, .slice a s.l.length c] 26))
  clear hF hF' hb
  go_wp2_with fail
  refine (HN.out _ _ _ HR.out.inL B2.out).mono ?_
  rintro e w3 ⟨rfl, hb⟩
  have A3 := A2.up hb
  have C3 := C2.up hb
  have HR3 := Lib.hid (HR.out.up hb)
  have B3 := Lib.hid (up_trans B2.out hb)
  have a0 := A3.cell 0 rfl; have a1 := A3.cell 1 rfl; have a2 := A3.cell 2 rfl; have af := A3.free
  have c0 := C3.cell 0 rfl; have c1 := C3.cell 1 rfl; have c2 := C3.cell 2 rfl
  clear hb A2 A3 C2 C3
  cases b
  · have E := Lib.hid (show F = some s by rw [HF.out]; rfl)
    go_wp2
    rw [E.out]
    refine bodyPost_ret (v := .tuple #[.agg #[.int .i64 s.c, .int .i64 s.r, .slice a s.l.length c], .bool true]) (by simp [results, Tryz.results97, go_sem, a0, a1, a2]) rfl (gives_some ?_ ?_)
    · have HR4 := HR3.out
      refine InF.mono (base := w.heap.size + 1) ?_ (by omega)
      repeat (first | (with_reducible exact HR4) | (with_reducible refine InF.set ?_ (by simp only; omega) _))
    · have B4 := B3.out
      repeat (first | (with_reducible exact B4) | (with_reducible refine up_set ?_ (by simp only; omega) _))
  · have E := Lib.hid (show F = none by rw [HF.out]; rfl)
    go_wp2
    rw [E.out]
    refine bodyPost_ret (v := .tuple #[.agg #[.int .i64 0, .int .i64 0, .slice none 0 0], .bool false]) (by simp [results, Tryz.results97, go_sem, a0, a1, a2]) rfl (gives_none ?_)
    have B4 := B3.out
    repeat (first | (with_reducible exact B4) | (with_reducible refine up_set ?_ (by simp only; omega) _))

set_option maxHeartbeats 2000000 in
theorem schGet_one_none (g o cap : Nat) (X : ByteArray) (w : World) (hx : w.cell? ⟨g, o, none⟩ = some (.string X))
    (KF : ∀ w1, Below w.heap.size w w1 → Calls Tryz.prog 106 #[.string X] w1 (GivesS none w1))
    (KR : ∀ w1, Below w.heap.size w w1 → Calls Tryz.prog 107 #[.slice (some ⟨g, o, none⟩) 1 cap] w1 (GivesS none w1)) :
    Calls Tryz.prog 97 #[.slice (some ⟨g, o, none⟩) 1 cap] w (GivesS none w) := by
  have HR := Lib.hid KR
  clear KR
  have HFi := Lib.hid KF
  clear KF
  have B0 := Lib.hid (up_alloc (Below.refl _ w) (.cells #[.int .i64 0, .int .i64 0, .slice none 0 0] 26))
  have x0 := bl_cell B0.out hx
  go_enter Tryz.func97, Tryz.ntmps97
  go_wp2_with fail
  have A0 := Bx.new w 26 [.int .i64 0, .int .i64 0, .slice none 0 0]
  refine ((HFi.out _ B0.out).mono fun _ _ => gives_no).mono ?_
  rintro e w1 ⟨a9, c9, rfl, hb⟩
  have A1 := (A0.up hb).alloc (.cells #[.int .i64 0, .int .i64 0, .slice a9 0 c9] 26)
  have B1 := Lib.hid (up_alloc (up_trans B0.out hb) (.cells #[.int .i64 0, .int .i64 0, .slice a9 0 c9] 26))
  clear hb A0
  go_wp2_with fail
  refine ((HR.out _ B1.out).mono fun _ _ => gives_no).mono ?_
  rintro e w2 ⟨a, c, rfl, hb⟩
  clear HR
  have A2 := (A1.up hb).alloc (.cells #[.int .i64 0, .int .i64 0, .slice a 0 c] 26)
  have B2 := Lib.hid (up_alloc (up_trans B1.out hb) (.cells #[.int .i64 0, .int .i64 0, .slice a 0 c] 26))
  have a0 := A2.cell 0 rfl; have a1 := A2.cell 1 rfl; have a2 := A2.cell 2 rfl; have af := A2.free
  clear hb A2
  go_wp2
  refine bodyPost_ret (v := .tuple #[.agg #[.int .i64 0, .int .i64 0, .slice none 0 0], .bool false]) (by simp [results, Tryz.results97, go_sem, a0, a1, a2]) rfl (gives_none ?_)
  have B3 := B2.out
  repeat (first | (with_reducible exact B3) | (with_reducible refine up_set ?_ (by simp only; omega) _))

set_option maxHeartbeats 2000000 in
theorem schGet_one_some (g o cap : Nat) (X : ByteArray) (w : World) (hx : w.cell? ⟨g, o, none⟩ = some (.string X))
    (KF : ∀ w1, Below w.heap.size w w1 → Calls Tryz.prog 106 #[.string X] w1 (GivesS none w1))
    (s : Sc) (T : ByteArray) (b : Bool) (F : Option Sc) (hF : F = if b = true then none else some s)
    (KR : ∀ w1, Below w.heap.size w w1 → Calls Tryz.prog 107 #[.slice (some ⟨g, o, none⟩) 1 cap] w1 (GivesS (some s) w1))
    (KN : ∀ a c w1, InL w1 a s.l → Below w.heap.size w w1 → Calls Tryz.prog 62 #[.agg #[.int .i64 s.c, .int .i64 s.r, .slice a s.l.length c]] w1 fun e w' => e = .returned (.tuple #[.string T, .bool b]) ∧ Below w1.heap.size w1 w') :
    Calls Tryz.prog 97 #[.slice (some ⟨g, o, none⟩) 1 cap] w (GivesS F w) := by
  have HF := Lib.hid hF; have HR := Lib.hid KR; have HN := Lib.hid KN
  clear hF KR KN
  have HFi := Lib.hid KF
  clear KF
  have B0 := Lib.hid (up_alloc (Below.refl _ w) (.cells #[.int .i64 0, .int .i64 0, .slice none 0 0] 26))
  have x0 := bl_cell B0.out hx
  go_enter Tryz.func97, Tryz.ntmps97
  go_wp2_with fail
  have A0 := Bx.new w 26 [.int .i64 0, .int .i64 0, .slice none 0 0]
  refine ((HFi.out _ B0.out).mono fun _ _ => gives_no).mono ?_
  rintro e w1 ⟨a9, c9, rfl, hb⟩
  have A1 := (A0.up hb).alloc (.cells #[.int .i64 0, .int .i64 0, .slice a9 0 c9] 26)
  have B1 := Lib.hid (up_alloc (up_trans B0.out hb) (.cells #[.int .i64 0, .int .i64 0, .slice a9 0 c9] 26))
  clear hb A0
  go_wp2_with fail
  refine (HR.out _ B1.out).mono ?_
  rintro e w2 ⟨a, c, rfl, hF, hb⟩
  clear HR
  have hF' : InF (w.heap.size + 1) w2 a s.l := InF.mono hF A1.lt
  have HR := Lib.hid (hF'.up (up_alloc (Below.refl _ _) (.cells #[.int .i64 s.c, .int .i64 s.r, .slice a s.l.length c] 26)))
  have A2 := (A1.up hb).alloc (.cells #[.int .i64 s.c, .int .i64 s.r, .slice a s.l.length c] 26)
  have C2 := Bx.new w2 26 [.int .i64 s.c, .int .i64 s.r, .slice a s.l.length c]
  have B2 := Lib.hid (up_alloc (up_trans B1.out hb) (.cells #[.int .i64 s.c, .int .i64 s.r, .slice a s.l.length c] 26))
  clear hF hF' hb
  go_wp2_with fail
  refine (HN.out _ _ _ HR.out.inL B2.out).mono ?_
  rintro e w3 ⟨rfl, hb⟩
  have A3 := A2.up hb
  have C3 := C2.up hb
  have HR3 := Lib.hid (HR.out.up hb)
  have B3 := Lib.hid (up_trans B2.out hb)
  have a0 := A3.cell 0 rfl; have a1 := A3.cell 1 rfl; have a2 := A3.cell 2 rfl; have af := A3.free
  have c0 := C3.cell 0 rfl; have c1 := C3.cell 1 rfl; have c2 := C3.cell 2 rfl
  clear hb A2 A3 C2 C3
  cases b
  · have E := Lib.hid (show F = some s by rw [HF.out]; rfl)
    go_wp2
    rw [E.out]
    refine bodyPost_ret (v := .tuple #[.agg #[.int .i64 s.c, .int .i64 s.r, .slice a s.l.length c], .bool true]) (by simp [results, Tryz.results97, go_sem, a0, a1, a2]) rfl (gives_some ?_ ?_)
    · have HR4 := HR3.out
      refine InF.mono (base := w.heap.size + 1) ?_ (by omega)
      repeat (first | (with_reducible exact HR4) | (with_reducible refine InF.set ?_ (by simp only; omega) _))
    · have B4 := B3.out
      repeat (first | (with_reducible exact B4) | (with_reducible refine up_set ?_ (by simp only; omega) _))
  · have E := Lib.hid (show F = none by rw [HF.out]; rfl)
    go_wp2
    rw [E.out]
    refine bodyPost_ret (v := .tuple #[.agg #[.int .i64 0, .int .i64 0, .slice none 0 0], .bool false]) (by simp [results, Tryz.results97, go_sem, a0, a1, a2]) rfl (gives_none ?_)
    have B4 := B3.out
    repeat (first | (with_reducible exact B4) | (with_reducible refine up_set ?_ (by simp only; omega) _))

theorem find_len {n : List UInt8} (h : findM n ≠ none) : n.length ≤ 100 := by
  cases hf : findM n with
  | none => exact absurd hf h
  | some s =>
    have := (cat_short _ (find_some hf)).1
    simp only [rowE, List.length_append] at this
    omega
theorem schGet_any (a : Option Addr) (c : Nat) (ls : List (List UInt8)) (w : World) (h : TxA w a c ls) (hz : ∀ x ∈ ls, x.length ≤ 1000000) (hg : GoodM w) :
    Calls Tryz.prog 97 #[.slice a ls.length c] w (GivesS (getM ls) w) := by
  have KR := fun w1 (hb : Below w.heap.size w w1) => schRead_any a c ls w1 (h.up hb) hz (hg.below hb)
  have KN := fun (s : Sc) a c w1 (hI : InL w1 a s.l) (hb : Below w.heap.size w w1) => schName_any s a c w1 hI (hg.below hb)
  by_cases h1 : ls.length = 1
  · obtain ⟨x, rfl⟩ := List.length_eq_one_iff.1 h1
    obtain ⟨g, o, rfl, hc, hcap, hmax⟩ := h.resolve_left (by simp)
    have c0 := hc 0 x rfl
    rw [Nat.add_zero] at c0
    have KF := fun w1 (hb : Below w.heap.size w w1) => schFind_any x w1 (hg.below hb)
    cases hf : findM x with
    | some s =>
      rw [hf] at KF
      rw [get_name hf]
      exact schGet_found g o c (tx x) s w c0 KF
    | none =>
      rw [hf] at KF
      have h0 : ∀ n, [x] = [n] → findM n = none := by rintro n e; injection e with e; rw [← e]; exact hf
      cases hr : readM [x] with
      | none =>
        rw [hr] at KR
        rw [get_no_read h0 hr]
        exact schGet_one_none g o c (tx x) w c0 KF KR
      | some s =>
        rw [hr] at KR
        refine schGet_one_some g o c (tx x) w c0 KF s (nameT s) (nameM s).isSome _ ?_ KR (KN s)
        cases hn : nameM s with
        | none => exact get_read h0 hr hn
        | some n => exact get_named h0 hr hn
  · have h0 : ∀ n, ls = [n] → findM n = none := by rintro n rfl; exact absurd rfl h1
    cases hr : readM ls with
    | none =>
      rw [hr] at KR
      rw [get_no_read h0 hr]
      exact schGet_many_none a _ c w h1 KR
    | some s =>
      rw [hr] at KR
      refine schGet_many_some a _ c w h1 s (nameT s) (nameM s).isSome _ ?_ KR (KN s)
      cases hn : nameM s with
      | none => exact get_read h0 hr hn
      | some n => exact get_named h0 hr hn
end Go.Proofs.YtenigkjonegdmaaGreatDoor
/- A run of operations that hand values on, reckon addresses and read cells that are known: the kernel carries them out, in one step. -/
namespace Go.Proofs.YtenigkjonegdmaaGreatDoor
open Go.RowKit
set_option linter.unusedVariables false

/-- What a piece of a program answers, if its loads answer vs one by one; what is left of them, and what stood where. -/
def stillSem {α : Type} (P : Program) : Sem α → List Value → Option (α × List Value × List (Addr × Value))
  | .pure a, vs => some (a, vs, [])
  | .program k, vs => stillSem P (k P) vs
  | .mark _ k, vs => stillSem P k vs
  | .load _ a k, v :: vs => (stillSem P (k v) vs).map fun x => (x.1, x.2.1, (a, v) :: x.2.2)
  | _, _ => none
theorem stillSem_run {α : Type} {P : Program} {m : Sem α} {vs : List Value} {x : α × List Value × List (Addr × Value)} (h : stillSem P m vs = some x) (w : World) (hw : ∀ p ∈ x.2.2, w.cell? p.1 = some p.2) : m.run P w = .ok x.1 w := by
  induction m generalizing vs x with
  | pure b => simp only [stillSem, Option.some.injEq] at h; rw [← h]; rfl
  | program k ih => exact ih P (by simpa only [stillSem] using h) hw
  | mark _ k ih => exact ih (by simpa only [stillSem] using h) hw
  | load md a k ih =>
    cases vs with
    | nil => simp only [stillSem] at h; cases h
    | cons v vs =>
      simp only [stillSem, Option.map_eq_some_iff] at h
      obtain ⟨y, hy, rfl⟩ := h
      have h0 : w.cell? a = some v := hw (a, v) (by simp)
      rw [Sem.run, h0]
      exact ih v (x := y) hy (fun p hp => hw p (by simp [hp]))
  | _ => simp only [stillSem] at h; cases h

/-- A frame's slots, read. -/
def evalL (s : List Value) : Operand → Value
  | .tmp t => s.getD t undef
  | .const v => v
  | .global g => .pointer (some ⟨g, 0, none⟩)
  | .func f => .func (.func f) #[] #[]
theorem evalL_eq (s : List Value) (ds : List Deferred) : Act.eval ⟨s.toArray, ds⟩ = evalL s := by
  funext x
  cases x <;> simp [Act.eval, evalL, List.getD]

def forceL {β : Type} : List Value → (List Value → β) → β
  | [], k => k []
  | x :: xs, k => forceL xs fun ys => k (x :: ys)
theorem forceL_eq {β : Type} (l : List Value) (k : List Value → β) : forceL l k = k l := by
  induction l generalizing k with
  | nil => rfl
  | cons x xs ih => simp only [forceL, ih]

/-- What one operation leaves in its slot. -/
def stillVal (P : Program) (s : List Value) (o : Oper) (vs : List Value) : Option (Value × List Value × List (Addr × Value)) :=
  match stillSem P (execOp (evalL s) o) vs with
  | some (.value v, r, ps) => some (v, r, ps)
  | _ => none
/-- The slots behind all of them; what was read where. -/
def stillRun (P : Program) : List Oper → List Value → List Value → Option (List Value × List (Addr × Value))
  | [], s, _ => some (s, [])
  | o :: rest, s, vs => if o.guard.isNone then (match stillVal P s o vs, o.dst with
    | some (v, r, ps), some d => forceL (s.set d v) fun s' => (stillRun P rest s' r).map fun x => (x.1, ps ++ x.2)
    | _, _ => none) else none

theorem stillRun_cons {P : Program} {o : Oper} {rest : List Oper} {s vs s' : List Value} {ps : List (Addr × Value)} (h : stillRun P (o :: rest) s vs = some (s', ps)) :
    o.guard = none ∧ ∃ (v : Value) (d : Nat) (r : List Value) (qs ts : List (Addr × Value)), o.dst = some d ∧ stillVal P s o vs = some (v, r, qs) ∧ stillRun P rest (s.set d v) r = some (s', ts) ∧ ps = qs ++ ts := by
  unfold stillRun at h
  split at h
  · rename_i hg
    have hg' : o.guard = none := by
      cases hh : o.guard with
      | none => rfl
      | some x => rw [hh] at hg; cases hg
    refine ⟨hg', ?_⟩
    split at h
    · rename_i v r qs d hv hd
      rw [forceL_eq, Option.map_eq_some_iff] at h
      obtain ⟨x, hx, he⟩ := h
      obtain ⟨rfl, rfl⟩ := Prod.mk.inj he
      exact ⟨v, d, r, qs, x.2, hd, hv, hx, rfl⟩
    · cases h
  · cases h
theorem stillVal_run {P : Program} {s vs r : List Value} {o : Oper} {v : Value} {ps : List (Addr × Value)} (ds : List Deferred) (h : stillVal P s o vs = some (v, r, ps)) (w : World) (hw : ∀ p ∈ ps, w.cell? p.1 = some p.2) :
    (execOp (Act.eval ⟨s.toArray, ds⟩) o).run P w = .ok (.value v) w := by
  rw [evalL_eq]
  unfold stillVal at h
  split at h
  · rename_i u r' ps' hu
    obtain ⟨rfl, e⟩ := Prod.mk.inj (Option.some.inj h)
    obtain ⟨rfl, rfl⟩ := Prod.mk.inj e
    exact stillSem_run hu w hw
  · cases h
theorem put_still {s : List Value} {ds : List Deferred} {o : Oper} {d : Nat} (hd : o.dst = some d) (v : Value) : Act.put ⟨s.toArray, ds⟩ o.dst v = ⟨(s.set d v).toArray, ds⟩ := by
  rw [hd]
  simp [Act.put]
theorem want_still {o : Oper} (hg : o.guard = none) (y : Nat → Option Bool) : Region.wanted o y = true := by
  unfold Region.wanted
  rw [hg]

/-- In a region that draws its order. -/
theorem wpQuiet_still {P : Program} {ops : Array Oper} {C : World → Prop} {Q : Act → Prop} {ds : List Deferred} {l m : List Oper} {s vs s' : List Value} {ps : List (Addr × Value)}
    (h : stillRun P l s vs = some (s', ps)) (hw : ∀ w, C w → ∀ p ∈ ps, w.cell? p.1 = some p.2) (hq : wpQuiet P ops C Q m ⟨s'.toArray, ds⟩) : wpQuiet P ops C Q (l ++ m) ⟨s.toArray, ds⟩ := by
  induction l generalizing s vs ps with
  | nil =>
    simp only [stillRun, Option.some.injEq, Prod.mk.injEq] at h
    obtain ⟨rfl, -⟩ := h
    exact hq
  | cons o rest ih =>
    obtain ⟨hg, v, d, r, qs, ts, hd, hv, hr, rfl⟩ := stillRun_cons h
    show wpQuiet P ops C Q (o :: (rest ++ m)) _
    unfold wpQuiet
    rw [if_pos (want_still hg _)]
    refine ⟨v, fun w hC => ?_, by rw [put_still hd]; exact ih hr (fun w hC p hp => hw w hC p (by simp [hp]))⟩
    unfold Oper.quietAt
    rw [stillVal_run ds hv w (fun p hp => hw w hC p (by simp [hp]))]
    exact ⟨rfl, rfl⟩
theorem wpQuiet_stills {P : Program} {ops : Array Oper} {C : World → Prop} {Q : Act → Prop} {ds : List Deferred} {l : List Oper} {s vs s' : List Value} {ps : List (Addr × Value)}
    (h : stillRun P l s vs = some (s', ps)) (hw : ∀ w, C w → ∀ p ∈ ps, w.cell? p.1 = some p.2) (hq : wpQuiet P ops C Q [] ⟨s'.toArray, ds⟩) : wpQuiet P ops C Q l ⟨s.toArray, ds⟩ := by
  have := wpQuiet_still (m := []) h hw hq
  rwa [List.append_nil] at this
/-- In one that does not. -/
theorem wpList_still {P : Program} {ops : Array Oper} {Q : Exit → Act → World → Prop} {ds : List Deferred} {l m : List Oper} {s vs s' : List Value} {ps : List (Addr × Value)} {w : World}
    (h : stillRun P l s vs = some (s', ps)) (hw : ∀ p ∈ ps, w.cell? p.1 = some p.2) (hq : wpList P ops Q m ⟨s'.toArray, ds⟩ w) : wpList P ops Q (l ++ m) ⟨s.toArray, ds⟩ w := by
  induction l generalizing s vs ps with
  | nil =>
    simp only [stillRun, Option.some.injEq, Prod.mk.injEq] at h
    obtain ⟨rfl, -⟩ := h
    exact hq
  | cons o rest ih =>
    obtain ⟨hg, v, d, r, qs, ts, hd, hv, hr, rfl⟩ := stillRun_cons h
    show wpList P ops Q (o :: (rest ++ m)) _ _
    unfold wpList
    rw [if_pos (want_still hg _)]
    refine .inl ?_
    unfold Oper.wp
    rw [stillVal_run ds hv w (fun p hp => hw p (by simp [hp]))]
    show wpList P ops Q (rest ++ m) _ _
    rw [put_still hd]
    exact ih hr (fun p hp => hw p (by simp [hp]))

theorem wpList_stills {P : Program} {ops : Array Oper} {Q : Exit → Act → World → Prop} {ds : List Deferred} {l : List Oper} {s vs s' : List Value} {ps : List (Addr × Value)} {w : World}
    (h : stillRun P l s vs = some (s', ps)) (hw : ∀ p ∈ ps, w.cell? p.1 = some p.2) (hq : wpList P ops Q [] ⟨s'.toArray, ds⟩ w) : wpList P ops Q l ⟨s.toArray, ds⟩ w := by
  have := wpList_still (m := []) h hw hq
  rwa [List.append_nil] at this

/-- What was read stands in one box. -/
theorem reads_box {w : World} {B : Nat} {cells : List Value} (hB : ∀ j v, cells[j]? = some v → w.cell? ⟨B, j, none⟩ = some v) {ps : List (Addr × Value)} (l : List Nat) (v : Nat → Value) (hl : ps = l.map fun j => (⟨B, j, none⟩, v j)) (h : ∀ j ∈ l, cells[j]? = some (v j)) : ∀ p ∈ ps, w.cell? p.1 = some p.2 := by
  subst hl
  intro p hp
  obtain ⟨j, hj, rfl⟩ := List.mem_map.1 hp
  exact hB j _ (h j hj)
end Go.Proofs.YtenigkjonegdmaaGreatDoor
