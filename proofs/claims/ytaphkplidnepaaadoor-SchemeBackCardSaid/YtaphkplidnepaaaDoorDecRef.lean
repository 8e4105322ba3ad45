/- What the digit-by-digit writing and reading of a number answer, for every int and every text. -/
import Derived.Test.YtaphkplidnepaaaDoorProg
import Derived.Test.YtaphkplidnepaaaDoorDecMath
import Derived.WalkKit
import Derived.BigCall
import Derived.BigGuard
import Derived.Below
import Derived.Lib.Hide
import Derived.Lib.Walk
import Derived.Laws.DeepStrings4
import Derived.Laws.Concat
namespace Go.Proofs.YtaphkplidnepaaaDoor
open Go.RowKit DecMath
set_option linter.unusedVariables false

theorem str_size (l : List UInt8) : (ByteArray.mk l.toArray).size = l.length := by show l.toArray.size = _; simp

theorem str_ret {a b : ByteArray} (h : a = b) : Ending.returned (.string a) = .returned (.string b) := by rw [h]

theorem ret_pair2 {p : Int × Bool} {a : Int} {b : Bool} (h : p = (a, b)) : Ending.returned (.tuple #[.int .i64 a, .bool b]) = .returned (.tuple #[.int .i64 p.1, .bool p.2]) := by rw [h]

theorem not_empty (s : ByteArray) (h : s.size ≠ 0) : ¬ s = ByteArray.empty := fun e => h (by rw [e]; rfl)

theorem piece (d : Int) (h0 : 0 ≤ d) (h1 : d ≤ 9) (w : World) :
    (Instr.slice 9 (.string ⟨#[48, 49, 50, 51, 52, 53, 54, 55, 56, 57]⟩) (some (.int .i64 d)) (some (.int .i64 (d + 1))) none).run Tryd.prog w = .ok (.string ⟨[UInt8.ofNat (48 + d.toNat)].toArray⟩) w := by
  have key : ∀ m : Fin 10, (ByteArray.mk #[48, 49, 50, 51, 52, 53, 54, 55, 56, 57]).extract m.val (m.val + 1) = ⟨[UInt8.ofNat (48 + m.val)].toArray⟩ := by decide +kernel
  have sz : ((ByteArray.mk #[48, 49, 50, 51, 52, 53, 54, 55, 56, 57]).size : Int) = 10 := by decide
  rw [run_slice_string_if w _ _ _ _ _ _ Tryd.underlying9, if_pos (by omega), if_pos (by omega), show (d + 1).toNat = d.toNat + 1 from by omega]
  exact congrArg (fun b => Result.ok (Value.string b) w) (key ⟨d.toNat, by omega⟩)
theorem join (c : UInt8) (l : List UInt8) (h : l.length < 25) (w : World) :
    (Op.stringOp .add ⟨[c].toArray⟩ ⟨l.toArray⟩).run Tryd.prog w = .ok (.string ⟨(c :: l).toArray⟩) w := by
  rw [run_string_add_sum w _ _ (by rw [str_size, str_size]; simp; omega), ByteArray.mk_append_mk]
  simp

theorem tds (k q e : Int) (n : Nat) (l : List UInt8) (hk : k ≠ 0) (hq : q.natAbs = k.natAbs / 10) (he : e.toNat = k.natAbs % 10) (h : td n = td k.natAbs ++ l) :
    td n = td q.natAbs ++ UInt8.ofNat (48 + e.toNat) :: l := by
  rw [h, td_step _ (by omega), hq, he]; simp
theorem len_step (l : List UInt8) (c : UInt8) (a b n : Nat) (hb : b = a / 10) (h : 10 ^ l.length * a ≤ n) : 10 ^ (c :: l).length * b ≤ n := by
  rw [List.length_cons, Nat.pow_succ, Nat.mul_assoc]
  exact Nat.le_trans (Nat.mul_le_mul_left _ (by omega)) h
theorem len_bd (l : List UInt8) (a n : Nat) (ha : a ≠ 0) (hn : n ≤ 9223372036854775808) (h : 10 ^ l.length * a ≤ n) : l.length < 25 := by
  have h1 : 10 ^ l.length ≤ 10 ^ l.length * a := Nat.le_mul_of_pos_right _ (by omega)
  have h3 : (9223372036854775808 : Nat) < 10 ^ 25 := by decide
  have h2 : 10 ^ l.length < 10 ^ 25 := by omega
  exact (Nat.pow_lt_pow_iff_right (by decide)).1 h2

set_option maxRecDepth 100000 in
theorem refPut_any (n : Int) (w : World) (n0 : -9223372036854775808 ≤ n) (n1 : n ≤ 9223372036854775807) :
    Calls Tryd.prog 37 #[.int .i64 n] w fun e w' => e = .returned (.string ⟨(Lib.itoa n).toArray⟩) ∧ w = w' := by
  by_cases hz : n = 0
  · subst hz
    have e0 : Lib.itoa 0 = [48] := by rw [Lib.itoa, if_neg (by decide), Lib.decDigits, dif_pos (by decide)]; rfl
    rw [e0]
    go_enter Tryd.func37, Tryd.ntmps37
    go_wp2
    go_ret
    exact ⟨rfl, rfl⟩
  · go_enter Tryd.func37, Tryd.ntmps37
    go_wp2
    go_loop [3, 4, 5] (fun o m _ => ∃ (l : List UInt8) (k : Int), o = .string ⟨l.toArray⟩ ∧ m = .int .i64 k ∧ Hid (td n.natAbs = td k.natAbs ++ l ∧ (0 ≤ n → 0 ≤ k) ∧ (n < 0 → k ≤ 0) ∧ -9223372036854775808 ≤ k ∧ k ≤ 9223372036854775807 ∧ 10 ^ l.length * k.natAbs ≤ n.natAbs)) (fun _ m _ => (intOf m).natAbs)
    case atStart => exact ⟨[], n, rfl, rfl, by simp, fun h => h, by omega, n0, n1, by simp⟩
    case round =>
      obtain ⟨l, k, rfl, rfl, H⟩ := hrel
      by_cases hk : k = 0
      · subst hk
        have e1 : td (0 : Int).natAbs ++ l = l := by simp [td]
        have e2 : Lib.decDigits n.natAbs = l := by rw [← e1, ← H.out.1, td, if_neg (by omega)]
        have hl : l.length < 25 := by
          rw [← e2, Lib.decDigits_length]
          have := nDigits_le 18 n.natAbs (by omega)
          omega
        have hadd : (Op.stringOp .add ⟨#[45]⟩ ⟨l.toArray⟩).run Tryd.prog w = .ok (.string ⟨(45 :: l).toArray⟩) w := join 45 l hl w
        by_cases hn : n < 0
        · have e3 : Lib.itoa n = 45 :: l := by rw [Lib.itoa, if_pos hn, e2]
          have E3 := Lib.hid e3
          clear e1 e2 e3
          go_wp2
          go_ret
          exact ⟨str_ret (by rw [E3.out]), rfl⟩
        · have e3 : Lib.itoa n = l := by rw [Lib.itoa, if_neg hn, show n.toNat = n.natAbs from by omega, e2]
          have E3 := Lib.hid e3
          clear e1 e2 e3
          go_wp2
          go_ret
          exact ⟨str_ret (by rw [E3.out]), rfl⟩
      · obtain ⟨q, hq⟩ : ∃ q, k.tdiv 10 = q := ⟨_, rfl⟩
        have q0 : q.natAbs = k.natAbs / 10 := by rw [← hq, Int.natAbs_tdiv]; rfl
        have hl := len_bd l _ _ (by omega : k.natAbs ≠ 0) (by omega) H.out.2.2.2.2.2
        have qa : -9223372036854775808 ≤ q := by have := H.out; omega
        have qb : q ≤ 9223372036854775807 := by have := H.out; omega
        by_cases hs : 0 ≤ k
        · obtain ⟨d, hd⟩ : ∃ d, k.tmod 10 = d := ⟨_, rfl⟩
          have d2 : d = k % 10 := by rw [← hd, Int.tmod_eq_emod_of_nonneg hs]
          have q2 : q = k / 10 := by rw [← hq, Int.tdiv_eq_ediv_of_nonneg hs]
          have d0 : 0 ≤ d := by omega
          have d1 : d ≤ 9 := by omega
          have hp := piece d d0 d1 w
          have ha := join (UInt8.ofNat (48 + d.toNat)) l hl w
          have H1 := Lib.hid (tds k q d n.natAbs l hk q0 (by omega) H.out.1)
          have H2 := Lib.hid (len_step l (UInt8.ofNat (48 + d.toNat)) k.natAbs q.natAbs n.natAbs q0 H.out.2.2.2.2.2)
          have Q := Lib.hid (And.intro d2 (And.intro q2 q0))
          clear d2 q2 q0
          go_wp2
          go_round
          case rel => exact ⟨UInt8.ofNat (48 + d.toNat) :: l, q, by first | rfl | simp [ByteArray.mk_append_mk], rfl, H1.out, by have := Q.out; omega, by have := Q.out; have := H.out; omega, qa, qb, H2.out⟩
          case measure => have := Q.out; simp [intOf]; omega
        · obtain ⟨d, hd⟩ : ∃ d, k.tmod 10 = -d := ⟨_, (Int.neg_neg _).symm⟩
          have d2 : d = (-k) % 10 := by rw [tmod_eq_if, if_neg hs] at hd; omega
          have q2 : q = -((-k) / 10) := by rw [← hq, ← Int.neg_neg k, Int.neg_tdiv, Int.tdiv_eq_ediv_of_nonneg (by omega), Int.neg_neg]
          have d0 : 0 ≤ d := by omega
          have d1 : d ≤ 9 := by omega
          have hp := piece d d0 d1 w
          have ha := join (UInt8.ofNat (48 + d.toNat)) l hl w
          have H1 := Lib.hid (tds k q d n.natAbs l hk q0 (by omega) H.out.1)
          have H2 := Lib.hid (len_step l (UInt8.ofNat (48 + d.toNat)) k.natAbs q.natAbs n.natAbs q0 H.out.2.2.2.2.2)
          have Q := Lib.hid (And.intro d2 (And.intro q2 q0))
          clear d2 q2 q0
          by_cases hz : d = 0
          · subst hz
            go_wp2
            go_round
            case rel => exact ⟨UInt8.ofNat (48 + (0 : Int).toNat) :: l, q, by first | rfl | simp [ByteArray.mk_append_mk], rfl, H1.out, by have := Q.out; have := H.out; omega, by have := Q.out; omega, qa, qb, H2.out⟩
            case measure => have := Q.out; simp [intOf]; omega
          · have hz' : 0 < d := by omega
            go_wp2
            go_round
            case rel => exact ⟨UInt8.ofNat (48 + d.toNat) :: l, q, by first | rfl | simp [ByteArray.mk_append_mk], rfl, H1.out, by have := Q.out; have := H.out; omega, by have := Q.out; omega, qa, qb, H2.out⟩
            case measure => have := Q.out; simp [intOf]; omega
/-- The digit-by-digit reading of a whole text. -/
def refG (l : List UInt8) : Option Int :=
  match l with
  | [] => none
  | c :: r => if c.toNat = 45 then rg true 0 r else rg false 0 (c :: r)
theorem refG_itoa (n : Int) (n0 : -9223372036854775808 ≤ n) (n1 : n ≤ 9223372036854775807) : refG (Lib.itoa n) = some n := by
  unfold Lib.itoa
  split
  · simp only [refG]
    rw [if_pos (by decide), rg_digits true _ (.inr ⟨rfl, by omega⟩)]
    simp; omega
  · obtain ⟨c, r, e⟩ := List.exists_cons_of_ne_nil (digits_ne n.toNat)
    have hc := digits_each n.toNat c (by rw [e]; simp)
    have h := rg_digits false n.toNat (.inl (by omega))
    rw [e] at h ⊢
    simp only [refG]
    rw [if_neg (by omega), h]
    simp; omega
theorem numOf_bad (l : List UInt8) (h : refG l = none) : numOf l = (0, false) :=
  numOf_none l fun n a b e => by rw [← e, refG_itoa n a b] at h; cases h
theorem numOf_off (l : List UInt8) (v : Int) (h : refG l = some v) (hv : Lib.itoa v ≠ l) : numOf l = (0, false) :=
  numOf_none l fun n a b e => by rw [← e, refG_itoa n a b] at h; cases h; exact hv e
theorem numOf_len (l : List UInt8) (h : l.length = 0 ∨ 20 < l.length) : numOf l = (0, false) :=
  numOf_none l fun n a b e => by have := itoa_len n a b; rw [e] at this; omega

theorem bytes_list (s : ByteArray) : s.toList = s.data.toList := ByteArray.toList_eq s
theorem drop_at (s : ByteArray) (k : Nat) (h : k < s.size) : s.data.toList.drop k = s[k] :: s.data.toList.drop (k + 1) := by
  rw [List.drop_eq_getElem_cons (by simpa using h)]; rfl
theorem refG_neg (s : ByteArray) (h : 0 < s.size) (hn : ((s[0].toNat : Int) == 45) = true) : rg true 0 (s.data.toList.drop 1) = refG s.data.toList := by
  have e := drop_at s 0 h
  rw [List.drop_zero] at e
  rw [e]
  simp only [refG, List.drop_succ_cons, List.drop_zero]
  rw [if_pos (by simp at hn; omega)]
theorem refG_plain (s : ByteArray) (h : 0 < s.size) (hn : ((s[0].toNat : Int) == 45) = false) : rg false 0 (s.data.toList.drop 0) = refG s.data.toList := by
  have e := drop_at s 0 h
  rw [List.drop_zero] at e
  rw [List.drop_zero, e]
  simp only [refG]
  rw [if_neg (by simp at hn; omega)]
theorem rg_bad (neg : Bool) (v : Int) (s : ByteArray) (k : Nat) (h : k < s.size) (hb : (s[k].toNat : Int) < 48 ∨ 57 < (s[k].toNat : Int)) : rg neg v (s.data.toList.drop k) = none := by
  rw [drop_at s k h, rg, if_pos (by omega)]
theorem rg_good (neg : Bool) (v : Int) (s : ByteArray) (k : Nat) (h : k < s.size) (hb : ¬ ((s[k].toNat : Int) < 48 ∨ 57 < (s[k].toNat : Int))) : rg neg v (s.data.toList.drop k) = rg neg (w64 (rd neg v s[k])) (s.data.toList.drop (k + 1)) := by
  rw [drop_at s k h, rg, if_neg (by omega)]
theorem refG_end (neg : Bool) (v : Int) (s : ByteArray) (h : rg neg v (s.data.toList.drop s.size) = refG s.data.toList) : refG s.data.toList = some v := by
  rw [← h, List.drop_of_length_le (by simp), rg]
theorem rel_to {neg : Bool} {a b : Int} {l : List UInt8} {r : Option Int} (h : rg neg a l = r) (e : b = a) : rg neg b l = r := by rw [e]; exact h
theorem w64_bd (x y : Int) (h : y = wrap64 x) : -9223372036854775808 ≤ y ∧ y ≤ 9223372036854775807 := by rw [h]; unfold wrap64; omega

set_option maxRecDepth 100000 in
theorem refGet_any (s : ByteArray) (w : World) (hs : s.size ≤ 9223372036854775807) :
    Calls Tryd.prog 48 #[.string s] w fun e w' => e = .returned (.tuple #[.int .i64 (numOf s.data.toList).1, .bool (numOf s.data.toList).2]) ∧ w = w' := by
  by_cases hlen : s.size = 0 ∨ 20 < s.size
  · have H := Lib.hid (numOf_len s.data.toList (by simpa using hlen))
    rcases hlen with hlen | hlen
    · go_enter Tryd.func48, Tryd.ntmps48
      go_wp2
      go_ret2
      exact ⟨ret_pair2 H.out, rfl⟩
    · have he : ¬ s = ByteArray.empty := not_empty s (by omega)
      have hb : ((s.size : Int) == 0) = false := by simp; omega
      go_enter Tryd.func48, Tryd.ntmps48
      go_wp2
      go_ret2
      exact ⟨ret_pair2 H.out, rfl⟩
  · have h0 : 0 < s.size := by omega
    have h20 : s.size ≤ 20 := by omega
    clear hlen
    have he : ¬ s = ByteArray.empty := not_empty s (by omega)
    have hb : ((s.size : Int) == 0) = false := by simp; omega
    have hc : decide ((20 : Int) < s.size) = false := by simp; omega
    by_cases hneg : ((s[0].toNat : Int) == 45) = true
    · have HG := Lib.hid (refG_neg s h0 hneg)
      go_enter Tryd.func48, Tryd.ntmps48
      go_wp2
      go_loop [4, 5, 6] (fun n i _ => ∃ (k : Nat) (v : Int), k ≤ s.size ∧ i = .int .i64 k ∧ n = .int .i64 v ∧ (-9223372036854775808 ≤ v ∧ v ≤ 9223372036854775807) ∧ Hid ((k = 0 ∧ v = 0) ∨ (1 ≤ k ∧ rg true v (s.data.toList.drop k) = refG s.data.toList))) (fun _ i _ => s.size - (intOf i).toNat)
      case atStart => exact ⟨0, 0, Nat.zero_le _, rfl, rfl, ⟨by decide, by decide⟩, .inl ⟨rfl, rfl⟩⟩
      case round =>
        obtain ⟨k, v, hk, rfl, rfl, ⟨v0, v1⟩, H⟩ := hrel
        by_cases hlt : k < s.size
        · by_cases hk0 : k = 0
          · subst hk0
            go_wp2
            go_round
            case rel => exact ⟨1, v, by omega, rfl, rfl, ⟨v0, v1⟩, .inr ⟨by omega, by rcases H.out with ⟨_, rfl⟩ | ⟨h, _⟩; exact HG.out; omega⟩⟩
            case measure => simp [intOf]; omega
          have H2 := Lib.hid (H.out.resolve_left fun h => hk0 h.1).2
          have hk1 : ((k : Int) == 0) = false := by simp; omega
          clear H
          by_cases hbad : (s[k].toNat : Int) < 48 ∨ 57 < (s[k].toNat : Int)
          · have HR := Lib.hid (numOf_bad _ (H2.out.symm.trans (rg_bad true v s k hlt hbad)))
            rcases hbad with hbad | hbad
            all_goals
              go_wp2
              go_ret2
              exact ⟨ret_pair2 HR.out, rfl⟩
          · have hb1 : ¬ (s[k].toNat : Int) < 48 := by omega
            have hb2 : ¬ 57 < (s[k].toNat : Int) := by omega
            have HR := Lib.hid ((rg_good true v s k hlt hbad).symm.trans H2.out)
            clear hbad
            go_wp2
            all_goals
              go_round
              case rel => exact ⟨k + 1, _, by omega, by go_num, rfl, w64_bd _ _ rfl, .inr ⟨by omega, rel_to HR.out (by simp [rd, w64]; unfold wrap64; omega)⟩⟩
              case measure => simp [intOf]; omega
        · have hk' : k = s.size := by omega
          subst hk'
          have HR := Lib.hid (refG_end true v s (H.out.resolve_left fun h => by omega).2)
          by_cases heq : Lib.itoa v = s.data.toList
          · have E := Lib.hid (show numOf s.data.toList = (v, true) from by rw [← heq]; exact numOf_itoa v v0 v1)
            have h1 : (Lib.itoa v == s.toList) = true := by rw [bytes_list]; simpa using heq
            go_wp2_with fail
            refine (refPut_any v _ v0 v1).mono ?_
            rintro e w' ⟨rfl, rfl⟩
            go_wp2
            go_ret2
            exact ⟨ret_pair2 E.out, rfl⟩
          · have E := Lib.hid (numOf_off s.data.toList v HR.out heq)
            have h1 : (Lib.itoa v == s.toList) = false := by rw [bytes_list]; simpa using heq
            go_wp2_with fail
            refine (refPut_any v _ v0 v1).mono ?_
            rintro e w' ⟨rfl, rfl⟩
            go_wp2
            go_ret2
            exact ⟨ret_pair2 E.out, rfl⟩
    · replace hneg : ((s[0].toNat : Int) == 45) = false := by simpa using hneg
      have HG := Lib.hid (refG_plain s h0 hneg)
      go_enter Tryd.func48, Tryd.ntmps48
      go_wp2
      go_loop [4, 5, 6] (fun n i _ => ∃ (k : Nat) (v : Int), k ≤ s.size ∧ i = .int .i64 k ∧ n = .int .i64 v ∧ (-9223372036854775808 ≤ v ∧ v ≤ 9223372036854775807) ∧ Hid (rg false v (s.data.toList.drop k) = refG s.data.toList)) (fun _ i _ => s.size - (intOf i).toNat)
      case atStart => exact ⟨0, 0, Nat.zero_le _, rfl, rfl, ⟨by decide, by decide⟩, HG.out⟩
      case round =>
        obtain ⟨k, v, hk, rfl, rfl, ⟨v0, v1⟩, H⟩ := hrel
        by_cases hlt : k < s.size
        · have H2 := Lib.hid H.out
          clear H
          by_cases hk0 : k = 0
          · subst hk0
            by_cases hbad : (s[0].toNat : Int) < 48 ∨ 57 < (s[0].toNat : Int)
            · have HR := Lib.hid (numOf_bad _ (H2.out.symm.trans (rg_bad false v s 0 hlt hbad)))
              rcases hbad with hbad | hbad
              all_goals
                go_wp2
                go_ret2
                exact ⟨ret_pair2 HR.out, rfl⟩
            · have hb1 : ¬ (s[0].toNat : Int) < 48 := by omega
              have hb2 : ¬ 57 < (s[0].toNat : Int) := by omega
              have HR := Lib.hid ((rg_good false v s 0 hlt hbad).symm.trans H2.out)
              clear hbad
              go_wp2
              all_goals
                go_round
                case rel => exact ⟨0 + 1, _, by omega, by go_num, rfl, w64_bd _ _ rfl, rel_to HR.out (by simp [rd, w64]; unfold wrap64; omega)⟩
                case measure => simp [intOf]; omega
          · have hk1 : ((k : Int) == 0) = false := by simp; omega
            by_cases hbad : (s[k].toNat : Int) < 48 ∨ 57 < (s[k].toNat : Int)
            · have HR := Lib.hid (numOf_bad _ (H2.out.symm.trans (rg_bad false v s k hlt hbad)))
              rcases hbad with hbad | hbad
              all_goals
                go_wp2
                go_ret2
                exact ⟨ret_pair2 HR.out, rfl⟩
            · have hb1 : ¬ (s[k].toNat : Int) < 48 := by omega
              have hb2 : ¬ 57 < (s[k].toNat : Int) := by omega
              have HR := Lib.hid ((rg_good false v s k hlt hbad).symm.trans H2.out)
              clear hbad
              go_wp2
              all_goals
                go_round
                case rel => exact ⟨k + 1, _, by omega, by go_num, rfl, w64_bd _ _ rfl, rel_to HR.out (by simp [rd, w64]; unfold wrap64; omega)⟩
                case measure => simp [intOf]; omega
        · have hk' : k = s.size := by omega
          subst hk'
          have HR := Lib.hid (refG_end false v s H.out)
          by_cases heq : Lib.itoa v = s.data.toList
          · have E := Lib.hid (show numOf s.data.toList = (v, true) from by rw [← heq]; exact numOf_itoa v v0 v1)
            have h1 : (Lib.itoa v == s.toList) = true := by rw [bytes_list]; simpa using heq
            go_wp2_with fail
            refine (refPut_any v _ v0 v1).mono ?_
            rintro e w' ⟨rfl, rfl⟩
            go_wp2
            go_ret2
            exact ⟨ret_pair2 E.out, rfl⟩
          · have E := Lib.hid (numOf_off s.data.toList v HR.out heq)
            have h1 : (Lib.itoa v == s.toList) = false := by rw [bytes_list]; simpa using heq
            go_wp2_with fail
            refine (refPut_any v _ v0 v1).mono ?_
            rintro e w' ⟨rfl, rfl⟩
            go_wp2
            go_ret2
            exact ⟨ret_pair2 E.out, rfl⟩
end Go.Proofs.YtaphkplidnepaaaDoor
