/- What the document's own Fields answers. -/
import Derived.Test.YtaphkplidnepaaaDoorLexFields
namespace Go.Proofs.YtaphkplidnepaaaDoor
open Go.RowKit
set_option linter.unusedVariables false

def RefFieldsRel (s : ByteArray) (w : World) (F : Option (List (List UInt8))) (o p a b i : Value) (wr : World) : Prop :=
  ∃ (k : Nat) (out : List (List UInt8)) (cur : List UInt8) (wi fr : Bool), k ≤ s.size ∧ cur.length ≤ k ∧ out.length ≤ k ∧ i = .int .i64 (k : Int) ∧ p = .string (tx cur) ∧ a = .bool wi ∧ b = .bool fr ∧ rowT wr w.heap.size o out ∧ Below w.heap.size w wr ∧
    (wi = false → fr = false) ∧ fieldsM (s.data.toList.drop k) out cur wi fr = F

theorem one_octet {s : ByteArray} {k : Nat} (h : k < s.size) : s.extract k (k + 1) = tx [s[k]] := by
  rw [tx_extract, cur_octet (Nat.le_refl _) h, cur_none]
  rfl
theorem add_octet (cur : List UInt8) (c : UInt8) : tx cur ++ tx [c] = tx (cur ++ [c]) := tx_append _ _
theorem slice_one {s : ByteArray} {k : Nat} (h : k < s.size) (hs : s.size ≤ 999999) (w : World) : (Instr.slice 9 (.string s) (some (.int .i64 (k : Int))) (some (.int .i64 ((k : Int) + 1))) none).run Tryd.prog w = .ok (.string (tx [s[k]])) w := by
  rw [run_slice_string_if w 9 s .i64 .i64 _ _ Tryd.underlying9, if_pos (by omega), if_pos (by omega), ← one_octet h]
  simp

theorem oct32 (c : UInt8) : ((c.toNat : Int) == 32) = (c == 32) := oct_eq c 32
theorem oct9 (c : UInt8) : ((c.toNat : Int) == 9) = (c == 9) := oct_eq c 9

set_option maxRecDepth 100000 in
set_option maxHeartbeats 2000000 in
theorem refFields_any (s : ByteArray) (w : World) (hs : s.size ≤ 999999) :
    Calls Tryd.prog 24 #[.string s] w (GivesF (fieldsL s.data.toList) w) := by
  obtain ⟨F, hF0⟩ : ∃ F, fieldsL s.data.toList = F := ⟨_, rfl⟩
  have HF0 := Lib.hid hF0
  rw [hF0]
  clear hF0
  go_enter Tryd.func24, Tryd.ntmps24
  go_wp2
  go_loopw [4, 5, 6, 7, 8] (fun o p a b i wr => RefFieldsRel s w F o p a b i wr) (fun _ _ _ _ i _ => s.size - (intOf i).toNat)
  case atStart =>
    refine ⟨0, [], [], false, false, Nat.zero_le _, Nat.le_refl _, Nat.le_refl _, rfl, rfl, rfl, rfl, rowT_nil _ _, Below.refl _ _, fun _ => rfl, ?_⟩
    rw [← HF0.out]
    rfl
  case round =>
    obtain ⟨k, out, cur, wi, fr, hk, hcur, ho, rfl, rfl, rfl, rfl, hrow, hb, hwf, hF⟩ := hrel
    have HR := Lib.hid hrow; have HB := Lib.hid hb; have HF := Lib.hid hF; have HW := Lib.hid hwf
    clear hrow hb hF hwf
    have eP := toList_none cur
    have hPz : (tx cur).size ≤ 999999 := by rw [tx_size]; omega
    by_cases hlt : k < s.size
    · have z1 : (k : Int) < (s.size : Int) := by omega
      have DO := Lib.hid (drop_octet hlt)
      have hsl := slice_one hlt hs
      obtain ⟨c, hc⟩ : ∃ c, s[k] = c := ⟨_, rfl⟩
      rw [hc] at DO hsl
      have hx : ((s[k].toNat : Nat) : Int) = (c.toNat : Int) := by rw [hc]
      clear hc
      have hadd := add_octet cur c
      have hqz : (tx [c]).size ≤ 1 := by rw [tx_size]; exact Nat.le_refl _
      have HX := Lib.hid (rfl : tx (cur ++ [c]) = tx (cur ++ [c]))
      obtain ⟨R, hR⟩ : ∃ R, tx (cur ++ [c]) = R := ⟨_, rfl⟩
      rw [hR] at hadd
      have HRR := Lib.hid hR
      obtain ⟨P, hP⟩ : ∃ P, tx cur = P := ⟨_, rfl⟩
      have HPP := Lib.hid hP
      rw [hP] at hadd hPz eP
      rw [hP]
      clear hP hR HX
      generalize tx [c] = q at *
      have KS := fun w => refSeen_any c w
      have e35 := oct35 c; have e34 := oct34 c; have e92 := oct92 c; have e32 := oct32 c; have e9 := oct9 c
      generalize (c.toNat : Int) = x at *
      cases wi
      · obtain rfl := HW.out rfl
        cases hbl : blankB c
        · have hbl2 := hbl
          unfold blankB at hbl2
          rw [Bool.or_eq_false_iff] at hbl2
          rw [hbl2.1] at e32; rw [hbl2.2] at e9
          by_cases h35 : c = 35
          · have HH := Lib.hid HF.out
            rw [DO.out, h35, f_stop] at HH
            have e1 : (x == 35) = true := by rw [e35, h35]; rfl
            by_cases hcn : cur = []
            · rw [decide_eq_true hcn] at eP
              rw [hcn, addF_nil] at HH
              clear KS e35 e34 e92 hbl hbl2 hcn h35
              go_wp2
              go_ret2
              refine ⟨_, ret_fields HH.out rfl, ?_, HB.out⟩
              rw [← HH.out]
              exact HR.out.texts
            · rw [decide_eq_false hcn] at eP
              rw [addF_some hcn] at HH
              clear KS e35 e34 e92 hbl hbl2 hcn h35
              go_wp2_with (at_builtin; refine wpList_append_text rfl _ _ rfl w.heap.size _ out rfl HR.out ?c1 _ cur HPP.out.symm rfl ?c2 ?_)
              case c1 => exact HB.out.size
              case c2 => omega
              intro v1 w2 h1 hb2
              have H1 := Lib.hid h1; have HB2 := Lib.hid hb2
              clear h1 hb2
              go_wp2
              go_ret2
              refine ⟨_, ret_fields HH.out rfl, ?_, HB.out.trans HB2.out⟩
              rw [← HH.out]
              exact H1.out.texts
          · have e1 : (x == 35) = false := by rw [e35]; simpa using h35
            cases hse : seenB c
            · rw [hse] at KS
              have HKS := Lib.hid KS
              have HH := Lib.hid HF.out
              rw [DO.out, f_out_bad _ _ _ _ hbl h35 hse] at HH
              clear KS e35 e34 e92 hbl hbl2 hse
              go_wp2_with (go_at_call 40; refine (HKS.out _).mono ?_; rintro e w' ⟨rfl, rfl⟩)
              go_ret2
              refine ⟨_, ret_fields HH.out rfl, ?_, HB.out⟩
              rw [← HH.out]
              exact TxS.nil _
            · rw [hse] at KS
              have HKS := Lib.hid KS
              have HH := Lib.hid HF.out
              rw [DO.out, f_out _ _ _ _ hbl h35 hse] at HH
              generalize (c == 34) = b34 at *
              clear KS e35 e92 hbl hbl2 hse
              go_wp2_with (go_at_call 40; refine (HKS.out _).mono ?_; rintro e w' ⟨rfl, rfl⟩)
              go_roundw
              case rel => exact ⟨k + 1, out, cur ++ [c], b34, false, by omega, by simp; omega, by omega, by go_num, by rw [HRR.out], rfl, rfl, HR.out, HB.out, fun _ => rfl, HH.out⟩
              case measure => simp [intOf]; omega
        · have HH := Lib.hid HF.out
          rw [DO.out, f_blank _ _ _ _ hbl] at HH
          unfold blankB at hbl
          generalize (c == 32) = b32 at *
          generalize (c == 9) = b9 at *
          clear KS e35 e34 e92
          by_cases hcn : cur = []
          · rw [decide_eq_true hcn] at eP
            rw [hcn, addF_nil] at HH
            clear hcn
            cases b32 <;> cases b9
            · cases hbl
            all_goals
              go_wp2
              go_roundw
              case rel => exact ⟨k + 1, out, [], false, false, by omega, by simp, by omega, by go_num, rfl, rfl, rfl, HR.out, HB.out, fun _ => rfl, HH.out⟩
              case measure => simp [intOf]; omega
          · rw [decide_eq_false hcn] at eP
            rw [addF_some hcn] at HH
            clear hcn
            cases b32 <;> cases b9
            · cases hbl
            all_goals
              go_wp2_with (at_builtin; refine wpList_append_text rfl _ _ rfl w.heap.size _ out rfl HR.out HB.out.size _ cur HPP.out.symm rfl (by omega) ?_)
              intro v1 w2 h1 hb2
              have H1 := Lib.hid h1; have HB2 := Lib.hid hb2
              clear h1 hb2
              go_wp2
              go_roundw
              case rel => exact ⟨k + 1, out ++ [cur], [], false, false, by omega, by simp, by simp; omega, by go_num, rfl, rfl, rfl, H1.out, HB.out.trans HB2.out, fun _ => rfl, HH.out⟩
              case measure => simp [intOf]; omega
      · cases hse : seenB c
        · rw [hse] at KS
          have HKS := Lib.hid KS
          have HH := Lib.hid HF.out
          rw [DO.out, f_in_bad _ _ _ _ hse] at HH
          clear KS e35 e34 e92 e32 e9 hse
          go_wp2_with (go_at_call 40; refine (HKS.out _).mono ?_; rintro e w' ⟨rfl, rfl⟩)
          go_ret2
          refine ⟨_, ret_fields HH.out rfl, ?_, HB.out⟩
          rw [← HH.out]
          exact TxS.nil _
        · rw [hse] at KS
          have HKS := Lib.hid KS
          have HH := Lib.hid HF.out
          rw [DO.out, f_in _ _ _ _ hse, show (c != 34) = !(c == 34) from rfl] at HH
          have hap := oct_apart c
          generalize (c == 34) = b34 at *
          generalize (c == 92) = b92 at *
          clear KS e35 e32 e9 hse
          have n34 : (x != 34) = !b34 := by rw [← e34]; rfl
          cases fr
          · cases b34 <;> cases b92
            · go_wp2_with (go_at_call 40; refine (HKS.out _).mono ?_; rintro e w' ⟨rfl, rfl⟩)
              go_roundw
              case rel => exact ⟨k + 1, out, cur ++ [c], true, false, by omega, by simp; omega, by omega, by go_num, by rw [HRR.out], rfl, rfl, HR.out, HB.out, fun _ => rfl, HH.out⟩
              case measure => simp [intOf]; omega
            · go_wp2_with (go_at_call 40; refine (HKS.out _).mono ?_; rintro e w' ⟨rfl, rfl⟩)
              go_roundw
              case rel => exact ⟨k + 1, out, cur ++ [c], true, true, by omega, by simp; omega, by omega, by go_num, by rw [HRR.out], rfl, rfl, HR.out, HB.out, (fun h => by cases h), HH.out⟩
              case measure => simp [intOf]; omega
            · go_wp2_with (go_at_call 40; refine (HKS.out _).mono ?_; rintro e w' ⟨rfl, rfl⟩)
              go_roundw
              case rel => exact ⟨k + 1, out, cur ++ [c], false, false, by omega, by simp; omega, by omega, by go_num, by rw [HRR.out], rfl, rfl, HR.out, HB.out, fun _ => rfl, HH.out⟩
              case measure => simp [intOf]; omega
            · exact absurd ⟨rfl, rfl⟩ hap
          · clear e34 e92 hap n34
            go_wp2_with (go_at_call 40; refine (HKS.out _).mono ?_; rintro e w' ⟨rfl, rfl⟩)
            go_roundw
            case rel => exact ⟨k + 1, out, cur ++ [c], true, false, by omega, by simp; omega, by omega, by go_num, by rw [HRR.out], rfl, rfl, HR.out, HB.out, fun _ => rfl, HH.out⟩
            case measure => simp [intOf]; omega
    · obtain rfl : k = s.size := by omega
      have HH := Lib.hid HF.out
      rw [List.drop_of_length_le (by rw [size_data]; exact Nat.le_refl _)] at HH
      by_cases hcn : cur = []
      · rw [decide_eq_true hcn] at eP
        have HC := Lib.hid hcn
        clear hcn
        generalize tx cur = P at *
        cases wi
        · rw [f_end, HC.out, addF_nil] at HH
          go_wp2
          go_ret2
          refine ⟨_, ret_fields HH.out rfl, ?_, HB.out⟩
          rw [← HH.out]
          exact HR.out.texts
        · rw [f_open] at HH
          go_wp2
          go_ret2
          refine ⟨_, ret_fields HH.out rfl, ?_, HB.out⟩
          rw [← HH.out]
          exact TxS.nil _
      · rw [decide_eq_false hcn] at eP
        obtain ⟨P, hP⟩ : ∃ P, tx cur = P := ⟨_, rfl⟩
        have HPP := Lib.hid hP
        have HC := Lib.hid hcn
        rw [hP] at eP hPz
        rw [hP]
        clear hP hcn
        cases wi
        · rw [f_end, addF_some HC.out] at HH
          go_wp2_with (at_builtin; refine wpList_append_text rfl _ _ rfl w.heap.size _ out rfl HR.out HB.out.size _ cur HPP.out.symm rfl (by omega) ?_)
          intro v1 w2 h1 hb2
          have H1 := Lib.hid h1; have HB2 := Lib.hid hb2
          clear h1 hb2
          go_wp2
          go_ret2
          refine ⟨_, ret_fields HH.out rfl, ?_, HB.out.trans HB2.out⟩
          rw [← HH.out]
          exact H1.out.texts
        · rw [f_open] at HH
          go_wp2_with (at_builtin; refine wpList_append_text rfl _ _ rfl w.heap.size _ out rfl HR.out HB.out.size _ cur HPP.out.symm rfl (by omega) ?_)
          intro v1 w2 h1 hb2
          have H1 := Lib.hid h1; have HB2 := Lib.hid hb2
          clear h1 hb2
          go_wp2
          go_ret2
          refine ⟨_, ret_fields HH.out rfl, ?_, HB.out.trans HB2.out⟩
          rw [← HH.out]
          exact TxS.nil _
end Go.Proofs.YtaphkplidnepaaaDoor
