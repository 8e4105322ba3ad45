/- Part 2 of the texts that the proofs of this seat share: DecMath, DecRef, DecCode, DecIn, WordsCode, Texts, StepMath. -/
import Derived.Lib.ItoaNum
import Derived.Lib.AtoiAllCases
import Derived.Test.YtbfigaadbfggcaaGreatDoorProg
import Derived.WalkKit
import Derived.BigCall
import Derived.BigGuard
import Derived.Below
import Derived.Lib.Hide
import Derived.Lib.Walk
import Derived.Laws.DeepStrings4
import Derived.Laws.Concat
import Derived.Test.YtbfigaadbfggcaaGreatDoorPart1
import Derived.Lib.AtoiErrMem
import Derived.Deep.AppendLies
import Derived.OwnWalk
import Derived.Laws.OwnMore
import Derived.Laws.IdiomStrings
import Derived.Laws.BytesArg
import Derived.IntWalk
import Derived.Lib.Strings
/- Plain arithmetic behind layer 2 (dec): the digits of a number come back as that number, by strconv's reading and by the digit-by-digit one; no condition but the range of an int. -/
namespace Go.Proofs.YtbfigaadbfggcaaGreatDoor.DecMath
open Go.Lib

theorem digit_toNat (d : Nat) (h : d < 10) : (UInt8.ofNat (48 + d)).toNat = 48 + d := by
  rw [UInt8.toNat_ofNat']; omega

theorem parse_snoc (c : UInt8) : ∀ (l : List UInt8) (acc m : Nat), parseUint10 acc l = .ok m → parseUint10 acc (l ++ [c]) = parseUint10 m [c]
  | [], acc, m, h => by simp only [parseUint10] at h; injection h with h; subst h; rfl
  | x :: r, acc, m, h => by
    simp only [parseUint10, List.cons_append] at h ⊢
    split at h
    · rename_i hx
      rw [if_pos hx]
      split at h
      · cases h
      · rename_i h2
        rw [if_neg h2]
        split at h
        · cases h
        · rename_i h3
          rw [if_neg h3]
          simpa [parseUint10] using parse_snoc c r _ m h
    · cases h

theorem parse_digits (u : Nat) (h : u < 18446744073709551616) : parseUint10 0 (decDigits u) = .ok u := by
  induction u using Nat.strongRecOn with
  | ind u ih =>
    rw [decDigits]
    by_cases hu : u < 10
    · rw [dif_pos hu]
      simp only [parseUint10, digit_toNat u hu]
      rw [if_pos (by omega), if_neg (by omega), if_neg (by omega)]
      congr 1; omega
    · rw [dif_neg hu, parse_snoc _ _ _ _ (ih (u / 10) (by omega) (by omega))]
      simp only [parseUint10, digit_toNat (u % 10) (by omega)]
      rw [if_pos (by omega), if_neg (by omega), if_neg (by omega)]
      congr 1; omega

theorem digits_ne (u : Nat) : decDigits u ≠ [] := by
  rw [decDigits]; split <;> simp

/-- Each octet of a number's digits is a digit. -/
theorem digits_each (u : Nat) : ∀ c ∈ decDigits u, 48 ≤ c.toNat ∧ c.toNat ≤ 57 := by
  induction u using Nat.strongRecOn with
  | ind u ih =>
    rw [decDigits]
    by_cases hu : u < 10
    · rw [dif_pos hu]
      intro c hc
      simp only [List.mem_singleton] at hc
      subst hc
      rw [digit_toNat u hu]; omega
    · rw [dif_neg hu]
      intro c hc
      simp only [List.mem_append, List.mem_singleton] at hc
      rcases hc with hc | rfl
      · exact ih (u / 10) (by omega) c hc
      · rw [digit_toNat (u % 10) (by omega)]; omega

theorem mag_digits (u : Nat) (h : u < 18446744073709551616) : parseMag (decDigits u) = .ok u := by
  rw [parseMag, if_neg (digits_ne u), parse_digits u h]

theorem atoi_itoa (n : Int) (n0 : -9223372036854775808 ≤ n) (n1 : n ≤ 9223372036854775807) : atoiAll (itoa n) = .ok n := by
  unfold itoa
  split
  · rw [atoiAll_minus, mag_digits _ (by omega)]
    simp only [signed]
    rw [if_neg (by omega)]
    congr 1; omega
  · obtain ⟨c, r, e⟩ := List.exists_cons_of_ne_nil (digits_ne n.toNat)
    have hc := digits_each n.toNat c (by rw [e]; simp)
    have hm := mag_digits n.toNat (by omega)
    rw [e] at hm ⊢
    rw [atoiAll_plain c r (by omega) (by omega), hm]
    simp only [signless]
    rw [if_neg (by omega)]
    congr 1; omega

/-- The number whose digits l are, and whether there is one. -/
def numOf (l : List UInt8) : Int × Bool :=
  match atoiAll l with
  | .ok v => if itoa v = l then (v, true) else (0, false)
  | _ => (0, false)

theorem numOf_itoa (n : Int) (n0 : -9223372036854775808 ≤ n) (n1 : n ≤ 9223372036854775807) : numOf (itoa n) = (n, true) := by
  simp [numOf, atoi_itoa n n0 n1]

theorem numOf_none (l : List UInt8) (h : ∀ n : Int, -9223372036854775808 ≤ n → n ≤ 9223372036854775807 → itoa n ≠ l) : numOf l = (0, false) := by
  unfold numOf
  split
  · rename_i v hv
    have := atoiAll_bounds hv
    rw [if_neg (h v this.1 this.2)]
  · rfl

theorem numOf_cases (l : List UInt8) : (∃ n : Int, (-9223372036854775808 ≤ n ∧ n ≤ 9223372036854775807) ∧ itoa n = l ∧ numOf l = (n, true)) ∨
    ((∀ n : Int, -9223372036854775808 ≤ n → n ≤ 9223372036854775807 → itoa n ≠ l) ∧ numOf l = (0, false)) := by
  by_cases h : ∃ n : Int, (-9223372036854775808 ≤ n ∧ n ≤ 9223372036854775807) ∧ itoa n = l
  · obtain ⟨n, hn, rfl⟩ := h
    exact .inl ⟨n, hn, rfl, numOf_itoa n hn.1 hn.2⟩
  · have h' : ∀ n : Int, -9223372036854775808 ≤ n → n ≤ 9223372036854775807 → itoa n ≠ l := fun n a b e => h ⟨n, ⟨a, b⟩, e⟩
    exact .inr ⟨h', numOf_none l h'⟩

theorem nDigits_le : ∀ (k u : Nat), u < 10 ^ (k + 1) → nDigits u ≤ k + 1
  | 0, u, h => by rw [nDigits_small (by omega)]; omega
  | k + 1, u, h => by
    by_cases hu : u < 10
    · rw [nDigits_small hu]; omega
    · rw [nDigits_big hu]
      have := nDigits_le k (u / 10) (by have : 10 ^ (k + 1 + 1) = 10 ^ (k + 1) * 10 := Nat.pow_succ ..; omega)
      omega

theorem itoa_len (n : Int) (n0 : -9223372036854775808 ≤ n) (n1 : n ≤ 9223372036854775807) : 1 ≤ (itoa n).length ∧ (itoa n).length ≤ 20 := by
  unfold itoa
  split
  · have := nDigits_le 18 n.natAbs (by omega)
    simp only [List.length_cons, decDigits_length]; omega
  · have := nDigits_le 18 n.toNat (by omega)
    have := nDigits_pos n.toNat
    simp only [decDigits_length]; omega

/-- One round of the digit-by-digit reading. -/
def rd (neg : Bool) (n : Int) (c : UInt8) : Int := if neg then n * 10 - (c.toNat - 48) else n * 10 + (c.toNat - 48)
def w64 (n : Int) : Int := (n + 9223372036854775808) % 18446744073709551616 - 9223372036854775808

/-- The digit-by-digit reading of what stands behind the sign. -/
def rg (neg : Bool) (n : Int) : List UInt8 → Option Int
  | [] => some n
  | c :: r => if c.toNat < 48 ∨ 57 < c.toNat then none else rg neg (w64 (rd neg n c)) r

theorem rg_snoc (neg : Bool) (c : UInt8) : ∀ (l : List UInt8) (n m : Int), rg neg n l = some m → rg neg n (l ++ [c]) = rg neg m [c]
  | [], n, m, h => by simp only [rg] at h; injection h with h; subst h; rfl
  | x :: r, n, m, h => by
    simp only [rg, List.cons_append] at h ⊢
    split at h
    · cases h
    · rename_i hx
      rw [if_neg hx]
      simpa [rg] using rg_snoc neg c r _ m h

theorem rg_digits (neg : Bool) (u : Nat) (h : u ≤ 9223372036854775807 ∨ (neg = true ∧ u ≤ 9223372036854775808)) :
    rg neg 0 (decDigits u) = some (if neg then -(u : Int) else u) := by
  induction u using Nat.strongRecOn with
  | ind u ih =>
    rw [decDigits]
    by_cases hu : u < 10
    · rw [dif_pos hu]
      simp only [rg, digit_toNat u hu]
      rw [if_neg (by omega)]
      have e := digit_toNat u hu
      cases neg
      · simp only [rd, w64, e, Bool.false_eq_true, if_false, Option.some.injEq]; omega
      · simp only [rd, w64, e, if_true, Option.some.injEq]; omega
    · rw [dif_neg hu, rg_snoc _ _ _ _ _ (ih (u / 10) (by omega) (by omega))]
      simp only [rg, digit_toNat (u % 10) (by omega)]
      rw [if_neg (by omega)]
      have e := digit_toNat (u % 10) (by omega)
      cases neg
      · have h' : u ≤ 9223372036854775807 := by simpa using h
        simp only [rd, w64, e, Bool.false_eq_true, if_false, Option.some.injEq]; omega
      · simp only [rd, w64, e, if_true, Option.some.injEq]; omega

theorem rg_bd (neg : Bool) : ∀ (l : List UInt8) (n m : Int), -9223372036854775808 ≤ n → n ≤ 9223372036854775807 → rg neg n l = some m → -9223372036854775808 ≤ m ∧ m ≤ 9223372036854775807
  | [], n, m, a, b, h => by simp only [rg] at h; injection h with h; subst h; exact ⟨a, b⟩
  | x :: r, n, m, a, b, h => by
    simp only [rg] at h
    split at h
    · cases h
    · refine rg_bd neg r _ m ?_ ?_ h <;> unfold w64 <;> omega

/-- The digits that are left to write: none for 0. -/
def td (u : Nat) : List UInt8 := if u = 0 then [] else decDigits u
theorem td_step (u : Nat) (h : u ≠ 0) : td u = td (u / 10) ++ [UInt8.ofNat (48 + u % 10)] := by
  unfold td
  rw [if_neg h]
  by_cases hu : u < 10
  · rw [if_pos (by omega), decDigits, dif_pos hu, show u % 10 = u from by omega]; rfl
  · rw [if_neg (by omega), decDigits, dif_neg hu]

end Go.Proofs.YtbfigaadbfggcaaGreatDoor.DecMath
/- What the digit-by-digit writing and reading of a number answer, for every int and every text. -/
namespace Go.Proofs.YtbfigaadbfggcaaGreatDoor
open Go.RowKit DecMath
set_option linter.unusedVariables false

theorem str_size (l : List UInt8) : (ByteArray.mk l.toArray).size = l.length := by show l.toArray.size = _; simp

theorem str_ret {a b : ByteArray} (h : a = b) : Ending.returned (.string a) = .returned (.string b) := by rw [h]

theorem ret_pair2 {p : Int × Bool} {a : Int} {b : Bool} (h : p = (a, b)) : Ending.returned (.tuple #[.int .i64 a, .bool b]) = .returned (.tuple #[.int .i64 p.1, .bool p.2]) := by rw [h]

theorem not_empty (s : ByteArray) (h : s.size ≠ 0) : ¬ s = ByteArray.empty := fun e => h (by rw [e]; rfl)

theorem piece (d : Int) (h0 : 0 ≤ d) (h1 : d ≤ 9) (w : World) :
    (Instr.slice 9 (.string ⟨#[48, 49, 50, 51, 52, 53, 54, 55, 56, 57]⟩) (some (.int .i64 d)) (some (.int .i64 (d + 1))) none).run Tryz.prog w = .ok (.string ⟨[UInt8.ofNat (48 + d.toNat)].toArray⟩) w := by
  have key : ∀ m : Fin 10, (ByteArray.mk #[48, 49, 50, 51, 52, 53, 54, 55, 56, 57]).extract m.val (m.val + 1) = ⟨[UInt8.ofNat (48 + m.val)].toArray⟩ := by decide +kernel
  have sz : ((ByteArray.mk #[48, 49, 50, 51, 52, 53, 54, 55, 56, 57]).size : Int) = 10 := by decide
  rw [run_slice_string_if w _ _ _ _ _ _ Tryz.underlying9, if_pos (by omega), if_pos (by omega), show (d + 1).toNat = d.toNat + 1 from by omega]
  exact congrArg (fun b => Result.ok (Value.string b) w) (key ⟨d.toNat, by omega⟩)
theorem join (c : UInt8) (l : List UInt8) (h : l.length < 25) (w : World) :
    (Op.stringOp .add ⟨[c].toArray⟩ ⟨l.toArray⟩).run Tryz.prog w = .ok (.string ⟨(c :: l).toArray⟩) w := by
  rw [run_string_add_sum w _ _ (by rw [str_size, str_size]; simp; omega), ByteArray.mk_append_mk]
  simp

theorem tds (k q e : Int) (n : Nat) (l : List UInt8) (hk : k ≠ 0) (hq : q.natAbs = k.natAbs / 10) (he : e.toNat = k.natAbs % 10) (h : td n = td k.natAbs ++ l) :
    td n = td q.natAbs ++ UInt8.ofNat (48 + e.toNat) :: l := by
  rw [h, td_step _ (by omega), hq, he]; simp
theorem len_step (l : List UInt8) (c : UInt8) (a b n : Nat) (hb : b = a / 10) (h : 10 ^ l.length * a ≤ n) : 10 ^ (c :: l).length * b ≤ n := by
  rw [List.length_cons, Nat.pow_succ, Nat.mul_assoc]
  exact Nat.le_trans (Nat.mul_le_mul_left _ (by omega)) h
theorem len_bd (l : List UInt8) (a n : Nat) (ha : a ≠ 0) (hn : n ≤ 9223372036854775808) (h : 10 ^ l.length * a ≤ n) : l.length < 25 := by
  have h1 : 10 ^ l.length ≤ 10 ^ l.length * a := Nat.le_mul_of_pos_right _ (by omega)
  have h3 : (9223372036854775808 : Nat) < 10 ^ 25 := by decide
  have h2 : 10 ^ l.length < 10 ^ 25 := by omega
  exact (Nat.pow_lt_pow_iff_right (by decide)).1 h2

set_option maxRecDepth 100000 in
theorem refPut_any (n : Int) (w : World) (n0 : -9223372036854775808 ≤ n) (n1 : n ≤ 9223372036854775807) :
    Calls Tryz.prog 73 #[.int .i64 n] w fun e w' => e = .returned (.string ⟨(Lib.itoa n).toArray⟩) ∧ w = w' := by
  by_cases hz : n = 0
  · subst hz
    have e0 : Lib.itoa 0 = [48] := by rw [Lib.itoa, if_neg (by decide), Lib.decDigits, dif_pos (by decide)]; rfl
    rw [e0]
    go_enter Tryz.func73, Tryz.ntmps73
    go_wp2
    go_ret
    exact ⟨rfl, rfl⟩
  · go_enter Tryz.func73, Tryz.ntmps73
    go_wp2
    go_loop [3, 4, 5] (fun o m _ => ∃ (l : List UInt8) (k : Int), o = .string ⟨l.toArray⟩ ∧ m = .int .i64 k ∧ Hid (td n.natAbs = td k.natAbs ++ l ∧ (0 ≤ n → 0 ≤ k) ∧ (n < 0 → k ≤ 0) ∧ -9223372036854775808 ≤ k ∧ k ≤ 9223372036854775807 ∧ 10 ^ l.length * k.natAbs ≤ n.natAbs)) (fun _ m _ => (intOf m).natAbs)
    case atStart => exact ⟨[], n, rfl, rfl, by simp, fun h => h, by omega, n0, n1, by simp⟩
    case round =>
      obtain ⟨l, k, rfl, rfl, H⟩ := hrel
      by_cases hk : k = 0
      · subst hk
        have e1 : td (0 : Int).natAbs ++ l = l := by simp [td]
        have e2 : Lib.decDigits n.natAbs = l := by rw [← e1, ← H.out.1, td, if_neg (by omega)]
        have hl : l.length < 25 := by
          rw [← e2, Lib.decDigits_length]
          have := nDigits_le 18 n.natAbs (by omega)
          omega
        have hadd : (Op.stringOp .add ⟨#[45]⟩ ⟨l.toArray⟩).run Tryz.prog w = .ok (.string ⟨(45 :: l).toArray⟩) w := join 45 l hl w
        by_cases hn : n < 0
        · have e3 : Lib.itoa n = 45 :: l := by rw [Lib.itoa, if_pos hn, e2]
          have E3 := Lib.hid e3
          clear e1 e2 e3
          go_wp2
          go_ret
          exact ⟨str_ret (by rw [E3.out]), rfl⟩
        · have e3 : Lib.itoa n = l := by rw [Lib.itoa, if_neg hn, show n.toNat = n.natAbs from by omega, e2]
          have E3 := Lib.hid e3
          clear e1 e2 e3
          go_wp2
          go_ret
          exact ⟨str_ret (by rw [E3.out]), rfl⟩
      · obtain ⟨q, hq⟩ : ∃ q, k.tdiv 10 = q := ⟨_, rfl⟩
        have q0 : q.natAbs = k.natAbs / 10 := by rw [← hq, Int.natAbs_tdiv]; rfl
        have hl := len_bd l _ _ (by omega : k.natAbs ≠ 0) (by omega) H.out.2.2.2.2.2
        have qa : -9223372036854775808 ≤ q := by have := H.out; omega
        have qb : q ≤ 9223372036854775807 := by have := H.out; omega
        by_cases hs : 0 ≤ k
        · obtain ⟨d, hd⟩ : ∃ d, k.tmod 10 = d := ⟨_, rfl⟩
          have d2 : d = k % 10 := by rw [← hd, Int.tmod_eq_emod_of_nonneg hs]
          have q2 : q = k / 10 := by rw [← hq, Int.tdiv_eq_ediv_of_nonneg hs]
          have d0 : 0 ≤ d := by omega
          have d1 : d ≤ 9 := by omega
          have hp := piece d d0 d1 w
          have ha := join (UInt8.ofNat (48 + d.toNat)) l hl w
          have H1 := Lib.hid (tds k q d n.natAbs l hk q0 (by omega) H.out.1)
          have H2 := Lib.hid (len_step l (UInt8.ofNat (48 + d.toNat)) k.natAbs q.natAbs n.natAbs q0 H.out.2.2.2.2.2)
          have Q := Lib.hid (And.intro d2 (And.intro q2 q0))
          clear d2 q2 q0
          go_wp2
          go_round
          case rel => exact ⟨UInt8.ofNat (48 + d.toNat) :: l, q, by first | rfl | simp [ByteArray.mk_append_mk], rfl, H1.out, by have := Q.out; omega, by have := Q.out; have := H.out; omega, qa, qb, H2.out⟩
          case measure => have := Q.out; simp [intOf]; omega
        · obtain ⟨d, hd⟩ : ∃ d, k.tmod 10 = -d := ⟨_, (Int.neg_neg _).symm⟩
          have d2 : d = (-k) % 10 := by rw [tmod_eq_if, if_neg hs] at hd; omega
          have q2 : q = -((-k) / 10) := by rw [← hq, ← Int.neg_neg k, Int.neg_tdiv, Int.tdiv_eq_ediv_of_nonneg (by omega), Int.neg_neg]
          have d0 : 0 ≤ d := by omega
          have d1 : d ≤ 9 := by omega
          have hp := piece d d0 d1 w
          have ha := join (UInt8.ofNat (48 + d.toNat)) l hl w
          have H1 := Lib.hid (tds k q d n.natAbs l hk q0 (by omega) H.out.1)
          have H2 := Lib.hid (len_step l (UInt8.ofNat (48 + d.toNat)) k.natAbs q.natAbs n.natAbs q0 H.out.2.2.2.2.2)
          have Q := Lib.hid (And.intro d2 (And.intro q2 q0))
          clear d2 q2 q0
          by_cases hz : d = 0
          · subst hz
            go_wp2
            go_round
            case rel => exact ⟨UInt8.ofNat (48 + (0 : Int).toNat) :: l, q, by first | rfl | simp [ByteArray.mk_append_mk], rfl, H1.out, by have := Q.out; have := H.out; omega, by have := Q.out; omega, qa, qb, H2.out⟩
            case measure => have := Q.out; simp [intOf]; omega
          · have hz' : 0 < d := by omega
            go_wp2
            go_round
            case rel => exact ⟨UInt8.ofNat (48 + d.toNat) :: l, q, by first | rfl | simp [ByteArray.mk_append_mk], rfl, H1.out, by have := Q.out; have := H.out; omega, by have := Q.out; omega, qa, qb, H2.out⟩
            case measure => have := Q.out; simp [intOf]; omega
/-- The digit-by-digit reading of a whole text. -/
def refG (l : List UInt8) : Option Int :=
  match l with
  | [] => none
  | c :: r => if c.toNat = 45 then rg true 0 r else rg false 0 (c :: r)
theorem refG_itoa (n : Int) (n0 : -9223372036854775808 ≤ n) (n1 : n ≤ 9223372036854775807) : refG (Lib.itoa n) = some n := by
  unfold Lib.itoa
  split
  · simp only [refG]
    rw [if_pos (by decide), rg_digits true _ (.inr ⟨rfl, by omega⟩)]
    simp; omega
  · obtain ⟨c, r, e⟩ := List.exists_cons_of_ne_nil (digits_ne n.toNat)
    have hc := digits_each n.toNat c (by rw [e]; simp)
    have h := rg_digits false n.toNat (.inl (by omega))
    rw [e] at h ⊢
    simp only [refG]
    rw [if_neg (by omega), h]
    simp; omega
theorem numOf_bad (l : List UInt8) (h : refG l = none) : numOf l = (0, false) :=
  numOf_none l fun n a b e => by rw [← e, refG_itoa n a b] at h; cases h
theorem numOf_off (l : List UInt8) (v : Int) (h : refG l = some v) (hv : Lib.itoa v ≠ l) : numOf l = (0, false) :=
  numOf_none l fun n a b e => by rw [← e, refG_itoa n a b] at h; cases h; exact hv e
theorem numOf_len (l : List UInt8) (h : l.length = 0 ∨ 20 < l.length) : numOf l = (0, false) :=
  numOf_none l fun n a b e => by have := itoa_len n a b; rw [e] at this; omega

theorem bytes_list (s : ByteArray) : s.toList = s.data.toList := ByteArray.toList_eq s
theorem drop_at (s : ByteArray) (k : Nat) (h : k < s.size) : s.data.toList.drop k = s[k] :: s.data.toList.drop (k + 1) := by
  rw [List.drop_eq_getElem_cons (by simpa using h)]; rfl
theorem refG_neg (s : ByteArray) (h : 0 < s.size) (hn : ((s[0].toNat : Int) == 45) = true) : rg true 0 (s.data.toList.drop 1) = refG s.data.toList := by
  have e := drop_at s 0 h
  rw [List.drop_zero] at e
  rw [e]
  simp only [refG, List.drop_succ_cons, List.drop_zero]
  rw [if_pos (by simp at hn; omega)]
theorem refG_plain (s : ByteArray) (h : 0 < s.size) (hn : ((s[0].toNat : Int) == 45) = false) : rg false 0 (s.data.toList.drop 0) = refG s.data.toList := by
  have e := drop_at s 0 h
  rw [List.drop_zero] at e
  rw [List.drop_zero, e]
  simp only [refG]
  rw [if_neg (by simp at hn; omega)]
theorem rg_bad (neg : Bool) (v : Int) (s : ByteArray) (k : Nat) (h : k < s.size) (hb : (s[k].toNat : Int) < 48 ∨ 57 < (s[k].toNat : Int)) : rg neg v (s.data.toList.drop k) = none := by
  rw [drop_at s k h, rg, if_pos (by omega)]
theorem rg_good (neg : Bool) (v : Int) (s : ByteArray) (k : Nat) (h : k < s.size) (hb : ¬ ((s[k].toNat : Int) < 48 ∨ 57 < (s[k].toNat : Int))) : rg neg v (s.data.toList.drop k) = rg neg (w64 (rd neg v s[k])) (s.data.toList.drop (k + 1)) := by
  rw [drop_at s k h, rg, if_neg (by omega)]
theorem refG_end (neg : Bool) (v : Int) (s : ByteArray) (h : rg neg v (s.data.toList.drop s.size) = refG s.data.toList) : refG s.data.toList = some v := by
  rw [← h, List.drop_of_length_le (by simp), rg]
theorem rel_to {neg : Bool} {a b : Int} {l : List UInt8} {r : Option Int} (h : rg neg a l = r) (e : b = a) : rg neg b l = r := by rw [e]; exact h
theorem w64_bd (x y : Int) (h : y = wrap64 x) : -9223372036854775808 ≤ y ∧ y ≤ 9223372036854775807 := by rw [h]; unfold wrap64; omega

set_option maxRecDepth 100000 in
theorem refGet_any (s : ByteArray) (w : World) (hs : s.size ≤ 9223372036854775807) :
    Calls Tryz.prog 60 #[.string s] w fun e w' => e = .returned (.tuple #[.int .i64 (numOf s.data.toList).1, .bool (numOf s.data.toList).2]) ∧ w = w' := by
  by_cases hlen : s.size = 0 ∨ 20 < s.size
  · have H := Lib.hid (numOf_len s.data.toList (by simpa using hlen))
    rcases hlen with hlen | hlen
    · go_enter Tryz.func60, Tryz.ntmps60
      go_wp2
      go_ret2
      exact ⟨ret_pair2 H.out, rfl⟩
    · have he : ¬ s = ByteArray.empty := not_empty s (by omega)
      have hb : ((s.size : Int) == 0) = false := by simp; omega
      go_enter Tryz.func60, Tryz.ntmps60
      go_wp2
      go_ret2
      exact ⟨ret_pair2 H.out, rfl⟩
  · have h0 : 0 < s.size := by omega
    have h20 : s.size ≤ 20 := by omega
    clear hlen
    have he : ¬ s = ByteArray.empty := not_empty s (by omega)
    have hb : ((s.size : Int) == 0) = false := by simp; omega
    have hc : decide ((20 : Int) < s.size) = false := by simp; omega
    by_cases hneg : ((s[0].toNat : Int) == 45) = true
    · have HG := Lib.hid (refG_neg s h0 hneg)
      go_enter Tryz.func60, Tryz.ntmps60
      go_wp2
      go_loop [4, 5, 6] (fun n i _ => ∃ (k : Nat) (v : Int), k ≤ s.size ∧ i = .int .i64 k ∧ n = .int .i64 v ∧ (-9223372036854775808 ≤ v ∧ v ≤ 9223372036854775807) ∧ Hid ((k = 0 ∧ v = 0) ∨ (1 ≤ k ∧ rg true v (s.data.toList.drop k) = refG s.data.toList))) (fun _ i _ => s.size - (intOf i).toNat)
      case atStart => exact ⟨0, 0, Nat.zero_le _, rfl, rfl, ⟨by decide, by decide⟩, .inl ⟨rfl, rfl⟩⟩
      case round =>
        obtain ⟨k, v, hk, rfl, rfl, ⟨v0, v1⟩, H⟩ := hrel
        by_cases hlt : k < s.size
        · by_cases hk0 : k = 0
          · subst hk0
            go_wp2
            go_round
            case rel => exact ⟨1, v, by omega, rfl, rfl, ⟨v0, v1⟩, .inr ⟨by omega, by rcases H.out with ⟨_, rfl⟩ | ⟨h, _⟩; exact HG.out; omega⟩⟩
            case measure => simp [intOf]; omega
          have H2 := Lib.hid (H.out.resolve_left fun h => hk0 h.1).2
          have hk1 : ((k : Int) == 0) = false := by simp; omega
          clear H
          by_cases hbad : (s[k].toNat : Int) < 48 ∨ 57 < (s[k].toNat : Int)
          · have HR := Lib.hid (numOf_bad _ (H2.out.symm.trans (rg_bad true v s k hlt hbad)))
            rcases hbad with hbad | hbad
            all_goals
              go_wp2
              go_ret2
              exact ⟨ret_pair2 HR.out, rfl⟩
          · have hb1 : ¬ (s[k].toNat : Int) < 48 := by omega
            have hb2 : ¬ 57 < (s[k].toNat : Int) := by omega
            have HR := Lib.hid ((rg_good true v s k hlt hbad).symm.trans H2.out)
            clear hbad
            go_wp2
            all_goals
              go_round
              case rel => exact ⟨k + 1, _, by omega, by go_num, rfl, w64_bd _ _ rfl, .inr ⟨by omega, rel_to HR.out (by simp [rd, w64]; unfold wrap64; omega)⟩⟩
              case measure => simp [intOf]; omega
        · have hk' : k = s.size := by omega
          subst hk'
          have HR := Lib.hid (refG_end true v s (H.out.resolve_left fun h => by omega).2)
          by_cases heq : Lib.itoa v = s.data.toList
          · have E := Lib.hid (show numOf s.data.toList = (v, true) from by rw [← heq]; exact numOf_itoa v v0 v1)
            have h1 : (Lib.itoa v == s.toList) = true := by rw [bytes_list]; simpa using heq
            go_wp2_with fail
            refine (refPut_any v _ v0 v1).mono ?_
            rintro e w' ⟨rfl, rfl⟩
            go_wp2
            go_ret2
            exact ⟨ret_pair2 E.out, rfl⟩
          · have E := Lib.hid (numOf_off s.data.toList v HR.out heq)
            have h1 : (Lib.itoa v == s.toList) = false := by rw [bytes_list]; simpa using heq
            go_wp2_with fail
            refine (refPut_any v _ v0 v1).mono ?_
            rintro e w' ⟨rfl, rfl⟩
            go_wp2
            go_ret2
            exact ⟨ret_pair2 E.out, rfl⟩
    · replace hneg : ((s[0].toNat : Int) == 45) = false := by simpa using hneg
      have HG := Lib.hid (refG_plain s h0 hneg)
      go_enter Tryz.func60, Tryz.ntmps60
      go_wp2
      go_loop [4, 5, 6] (fun n i _ => ∃ (k : Nat) (v : Int), k ≤ s.size ∧ i = .int .i64 k ∧ n = .int .i64 v ∧ (-9223372036854775808 ≤ v ∧ v ≤ 9223372036854775807) ∧ Hid (rg false v (s.data.toList.drop k) = refG s.data.toList)) (fun _ i _ => s.size - (intOf i).toNat)
      case atStart => exact ⟨0, 0, Nat.zero_le _, rfl, rfl, ⟨by decide, by decide⟩, HG.out⟩
      case round =>
        obtain ⟨k, v, hk, rfl, rfl, ⟨v0, v1⟩, H⟩ := hrel
        by_cases hlt : k < s.size
        · have H2 := Lib.hid H.out
          clear H
          by_cases hk0 : k = 0
          · subst hk0
            by_cases hbad : (s[0].toNat : Int) < 48 ∨ 57 < (s[0].toNat : Int)
            · have HR := Lib.hid (numOf_bad _ (H2.out.symm.trans (rg_bad false v s 0 hlt hbad)))
              rcases hbad with hbad | hbad
              all_goals
                go_wp2
                go_ret2
                exact ⟨ret_pair2 HR.out, rfl⟩
            · have hb1 : ¬ (s[0].toNat : Int) < 48 := by omega
              have hb2 : ¬ 57 < (s[0].toNat : Int) := by omega
              have HR := Lib.hid ((rg_good false v s 0 hlt hbad).symm.trans H2.out)
              clear hbad
              go_wp2
              all_goals
                go_round
                case rel => exact ⟨0 + 1, _, by omega, by go_num, rfl, w64_bd _ _ rfl, rel_to HR.out (by simp [rd, w64]; unfold wrap64; omega)⟩
                case measure => simp [intOf]; omega
          · have hk1 : ((k : Int) == 0) = false := by simp; omega
            by_cases hbad : (s[k].toNat : Int) < 48 ∨ 57 < (s[k].toNat : Int)
            · have HR := Lib.hid (numOf_bad _ (H2.out.symm.trans (rg_bad false v s k hlt hbad)))
              rcases hbad with hbad | hbad
              all_goals
                go_wp2
                go_ret2
                exact ⟨ret_pair2 HR.out, rfl⟩
            · have hb1 : ¬ (s[k].toNat : Int) < 48 := by omega
              have hb2 : ¬ 57 < (s[k].toNat : Int) := by omega
              have HR := Lib.hid ((rg_good false v s k hlt hbad).symm.trans H2.out)
              clear hbad
              go_wp2
              all_goals
                go_round
                case rel => exact ⟨k + 1, _, by omega, by go_num, rfl, w64_bd _ _ rfl, rel_to HR.out (by simp [rd, w64]; unfold wrap64; omega)⟩
                case measure => simp [intOf]; omega
        · have hk' : k = s.size := by omega
          subst hk'
          have HR := Lib.hid (refG_end false v s H.out)
          by_cases heq : Lib.itoa v = s.data.toList
          · have E := Lib.hid (show numOf s.data.toList = (v, true) from by rw [← heq]; exact numOf_itoa v v0 v1)
            have h1 : (Lib.itoa v == s.toList) = true := by rw [bytes_list]; simpa using heq
            go_wp2_with fail
            refine (refPut_any v _ v0 v1).mono ?_
            rintro e w' ⟨rfl, rfl⟩
            go_wp2
            go_ret2
            exact ⟨ret_pair2 E.out, rfl⟩
          · have E := Lib.hid (numOf_off s.data.toList v HR.out heq)
            have h1 : (Lib.itoa v == s.toList) = false := by rw [bytes_list]; simpa using heq
            go_wp2_with fail
            refine (refPut_any v _ v0 v1).mono ?_
            rintro e w' ⟨rfl, rfl⟩
            go_wp2
            go_ret2
            exact ⟨ret_pair2 E.out, rfl⟩
end Go.Proofs.YtbfigaadbfggcaaGreatDoor
/- What dec's Put, Get and Within answer, for every int and every text, where the library's table of powers and its two errors are as the program's text lays them. -/
namespace Go.Proofs.YtbfigaadbfggcaaGreatDoor
open Go.Shelf
open Go.RowKit DecMath
set_option linter.unusedVariables false

/-- The library's variables that dec reads are as the program's text lays them. -/
def Good (w : World) : Prop :=
  Tab w ∧
  (∃ tp p, w.var? Tryz.prog "strconv.ErrSyntax" = some #[.iface tp p]) ∧ (∃ tp p, w.var? Tryz.prog "strconv.ErrRange" = some #[.iface tp p])

theorem Good.below {w w' : World} (h : Good w) (hb : Below w.heap.size w w') : Good w' := by
  obtain ⟨a, ⟨t1, p1, b⟩, t2, p2, c⟩ := h
  exact ⟨var_below a hb, ⟨t1, p1, var_below b hb⟩, t2, p2, var_below c hb⟩
theorem numOf_ok (l : List UInt8) (v : Int) (h : Lib.atoiAll l = .ok v) (e : Lib.itoa v = l) : numOf l = (v, true) := by simp [numOf, h, e]
theorem numOf_no (l : List UInt8) (v : Int) (h : Lib.atoiAll l = .ok v) (e : ¬ Lib.itoa v = l) : numOf l = (0, false) := by simp [numOf, h, e]
theorem numOf_else (l : List UInt8) (h : ∀ v, Lib.atoiAll l ≠ .ok v) : numOf l = (0, false) := by
  unfold numOf
  split
  · rename_i v hv
    exact absurd hv (h v)
  · rfl
/-- Neither a number nor out of range: the other error. -/
theorem atoi_else (s : ByteArray) (hlim : s.size ≤ 281474976710656) (h1 : ∀ v, Lib.atoiAll s.data.toList ≠ .ok v) (h2 : Lib.atoiAll s.data.toList ≠ .range) (tp : TypeId) (p : Value) (w : World) (hvar : w.var? Tryz.prog "strconv.ErrSyntax" = some #[.iface tp p]) :
    Calls Tryz.prog 115 #[.string s] w fun e w' => ∃ N, e = .returned (.tuple #[.int .i64 0, .iface 175 (.pointer (some ⟨N, 0, none⟩))]) ∧ Below w.heap.size w w' := by
  cases h : Lib.atoiAll s.data.toList with
  | ok v => exact absurd h (h1 v)
  | range => exact absurd h h2
  | _ =>
    refine (Any.strconv_Atoi_syntax_var Tryz.laysC172 s hlim h tp p w hvar).mono ?_
    rintro e w' ⟨N, he, -, -, hb⟩
    exact ⟨N, he, hb⟩

set_option maxRecDepth 100000 in
theorem decGet_any (s : ByteArray) (w : World) (hs : s.size ≤ 9223372036854775807) (hg : Good w) :
    Calls Tryz.prog 95 #[.string s] w fun e w' => e = .returned (.tuple #[.int .i64 (numOf s.data.toList).1, .bool (numOf s.data.toList).2]) ∧ Below w.heap.size w w' := by
  by_cases hlen : 20 < s.size
  · have H := Lib.hid (numOf_len s.data.toList (by right; simpa using hlen))
    clear hg
    go_enter Tryz.func95, Tryz.ntmps95
    go_wp2
    go_ret2
    exact ⟨ret_pair2 H.out, Below.refl _ _⟩
  · have G := Lib.hid hg
    clear hg
    cases h : Lib.atoiAll s.data.toList with
    | ok v =>
      have hv := Lib.atoiAll_bounds h
      obtain ⟨v0, v1⟩ := hv
      by_cases heq : Lib.itoa v = s.data.toList
      · have E := Lib.hid (numOf_ok _ v h heq)
        have h1 : (Lib.itoa v == s.toList) = true := by rw [bytes_list]; simpa using heq
        have hA := Lib.hid h
        clear h heq
        go_enter Tryz.func95, Tryz.ntmps95
        go_wp2_with fail
        refine (Tryz.strconv_Atoi_ok s (by omega) v hA.out _).mono ?_
        rintro e w1 ⟨rfl, hw⟩
        have hb : Hid (Below w.heap.size w w1) := by
          rcases hw with rfl | ⟨t, rfl⟩
          · exact Below.refl _ _
          · exact Lib.bytesWorld_below _ _ _
        clear hw
        go_wp2_with fail
        refine (decPut_any v _ v0 v1 (G.out.below hb.out).1).mono ?_
        rintro e w2 ⟨rfl, hb2⟩
        go_wp2
        go_ret2
        exact ⟨ret_pair2 E.out, up_trans hb.out hb2⟩
      · have E := Lib.hid (numOf_no _ v h heq)
        have h1 : (Lib.itoa v == s.toList) = false := by rw [bytes_list]; simpa using heq
        have hA := Lib.hid h
        clear h heq
        go_enter Tryz.func95, Tryz.ntmps95
        go_wp2_with fail
        refine (Tryz.strconv_Atoi_ok s (by omega) v hA.out _).mono ?_
        rintro e w1 ⟨rfl, hw⟩
        have hb : Hid (Below w.heap.size w w1) := by
          rcases hw with rfl | ⟨t, rfl⟩
          · exact Below.refl _ _
          · exact Lib.bytesWorld_below _ _ _
        clear hw
        go_wp2_with fail
        refine (decPut_any v _ v0 v1 (G.out.below hb.out).1).mono ?_
        rintro e w2 ⟨rfl, hb2⟩
        go_wp2
        go_ret2
        exact ⟨ret_pair2 E.out, up_trans hb.out hb2⟩
    | range =>
      have E := Lib.hid (numOf_else _ (by intro v; rw [h]; intro x; cases x))
      obtain ⟨tp, p, hvar⟩ := G.out.2.2
      have hA := Lib.hid (And.intro h hvar)
      clear h hvar
      go_enter Tryz.func95, Tryz.ntmps95
      go_wp2_with fail
      refine (Tryz.strconv_Atoi_range_var s (by omega) hA.out.1 tp p _ hA.out.2).mono ?_
      rintro e w1 ⟨N, rfl, -, -, hb⟩
      go_wp2
      go_ret2
      exact ⟨ret_pair2 E.out, hb⟩
    | _ =>
      have h1 : ∀ v, Lib.atoiAll s.data.toList ≠ .ok v := by intro v; rw [h]; intro x; cases x
      have h2 : Lib.atoiAll s.data.toList ≠ .range := by rw [h]; intro x; cases x
      have E := Lib.hid (numOf_else _ h1)
      obtain ⟨tp, p, hvar⟩ := G.out.2.1
      have hA := Lib.hid (And.intro (And.intro h1 h2) hvar)
      clear h hvar h1 h2
      go_enter Tryz.func95, Tryz.ntmps95
      go_wp2_with fail
      refine (atoi_else s (by omega) hA.out.1.1 hA.out.1.2 tp p _ hA.out.2).mono ?_
      rintro e w1 ⟨N, rfl, hb⟩
      go_wp2
      go_ret2
      exact ⟨ret_pair2 E.out, hb⟩
end Go.Proofs.YtbfigaadbfggcaaGreatDoor
/- What dec's Within answers, and that the chapter's example holds. -/
namespace Go.Proofs.YtbfigaadbfggcaaGreatDoor
open Go.RowKit DecMath
set_option linter.unusedVariables false

/-- The number whose digits l are, if it is from lo to hi. -/
def inOf (l : List UInt8) (lo hi : Int) : Int × Bool := if (numOf l).2 = true ∧ lo ≤ (numOf l).1 ∧ (numOf l).1 ≤ hi then numOf l else (0, false)

set_option maxRecDepth 100000 in
theorem decWithin_any (s : ByteArray) (lo hi : Int) (w : World) (hs : s.size ≤ 9223372036854775807) (hg : Good w) :
    Calls Tryz.prog 84 #[.string s, .int .i64 lo, .int .i64 hi] w fun e w' => e = .returned (.tuple #[.int .i64 (inOf s.data.toList lo hi).1, .bool (inOf s.data.toList lo hi).2]) ∧ Below w.heap.size w w' := by
  have K := decGet_any s w hs hg
  have I := fun (v : Int) w => in_any v lo hi w
  have hr : inOf s.data.toList lo hi = if (numOf s.data.toList).2 = true ∧ lo ≤ (numOf s.data.toList).1 ∧ (numOf s.data.toList).1 ≤ hi then numOf s.data.toList else (0, false) := rfl
  generalize inOf s.data.toList lo hi = r at *
  generalize numOf s.data.toList = p at *
  obtain ⟨v, b⟩ := p
  simp only at K hr
  cases b
  · have HK := Lib.hid K
    have E := Lib.hid (show r = (0, false) from by rw [hr, if_neg (fun h => by cases h.1)])
    clear K hg I hr
    go_enter Tryz.func84, Tryz.ntmps84
    go_wp2_with fail
    refine HK.out.mono ?_
    rintro e w1 ⟨rfl, hb⟩
    go_wp2
    go_ret2
    exact ⟨ret_pair2 E.out, hb⟩
  · by_cases hin : lo ≤ v ∧ v ≤ hi
    · have HK := Lib.hid K
      have i1 : (decide (lo ≤ v) && decide (v ≤ hi)) = true := by simp [hin]
      have I1 := I v
      rw [i1] at I1
      have HI := Lib.hid I1
      have E := Lib.hid (show r = (v, true) from by rw [hr, if_pos ⟨rfl, hin⟩])
      clear K hg I i1 I1 hin hr
      go_enter Tryz.func84, Tryz.ntmps84
      go_wp2_with fail
      refine HK.out.mono ?_
      rintro e w1 ⟨rfl, hb⟩
      go_wp2_with fail
      refine (HI.out _).mono ?_
      rintro e w2 ⟨rfl, rfl⟩
      go_wp2
      go_ret2
      exact ⟨ret_pair2 E.out, hb⟩
    · have HK := Lib.hid K
      have i1 : (decide (lo ≤ v) && decide (v ≤ hi)) = false := by simp; omega
      have I1 := I v
      rw [i1] at I1
      have HI := Lib.hid I1
      have E := Lib.hid (show r = (0, false) from by rw [hr, if_neg (fun h => hin h.2)])
      clear K hg I i1 I1 hin hr
      go_enter Tryz.func84, Tryz.ntmps84
      go_wp2_with fail
      refine HK.out.mono ?_
      rintro e w1 ⟨rfl, hb⟩
      go_wp2_with fail
      refine (HI.out _).mono ?_
      rintro e w2 ⟨rfl, rfl⟩
      go_wp2
      go_ret2
      exact ⟨ret_pair2 E.out, hb⟩

theorem itoa_0 : Lib.itoa 0 = [48] := by rw [Lib.itoa, if_neg (by decide)]; exact Lib.decDigits_one (by decide)
theorem itoa_7 : Lib.itoa 7 = [55] := by rw [Lib.itoa, if_neg (by decide)]; exact Lib.decDigits_one (by decide)
theorem itoa_m42 : Lib.itoa (-42) = [45, 52, 50] := by rw [Lib.itoa, if_pos (by decide)]; exact congrArg _ (Lib.decDigits_two (by decide) (by decide))
theorem num_m42 : numOf [45, 52, 50] = (-42, true) := by rw [← itoa_m42]; exact numOf_itoa _ (by decide) (by decide)
theorem num_007 : numOf [48, 48, 55] = (0, false) := numOf_no _ 7 (by decide) (by rw [itoa_7]; decide)

end Go.Proofs.YtbfigaadbfggcaaGreatDoor
/- What the calls of package words answer: for every table, number and text. -/
namespace Go.Proofs.YtbfigaadbfggcaaGreatDoor
open Go.RowKit
set_option linter.unusedVariables false

/-- The words of a table, octet by octet. -/
def tab (t : Int) : List ByteArray :=
  if t = 1 then [⟨#[115, 97, 100, 100, 108, 101]⟩, ⟨#[112, 101, 114, 102, 101, 99, 116]⟩, ⟨#[115, 116, 97, 99, 107]⟩, ⟨#[99, 111, 109, 101, 103, 111]⟩]
  else if t = 2 then [⟨#[115, 104, 101, 101, 116, 119, 105, 115, 101]⟩, ⟨#[112, 101, 114, 102, 101, 99, 116, 105, 110, 103]⟩, ⟨#[116, 117, 114, 110]⟩, ⟨#[116, 117, 109, 98, 108, 101]⟩]
  else if t = 3 then [⟨#[76]⟩, ⟨#[82]⟩, ⟨#[66]⟩, ⟨#[84]⟩]
  else if t = 4 then [⟨#[112, 97, 103, 101]⟩, ⟨#[99, 114, 111, 112]⟩, ⟨#[99, 114, 101, 97, 115, 101]⟩, ⟨#[99, 101, 110, 116, 114, 101]⟩, ⟨#[115, 116, 97, 105, 114]⟩, ⟨#[98, 97, 114]⟩, ⟨#[110, 111, 116, 101]⟩]
  else []
/-- The texts stand in the block g, one a cell. -/
def InG (w : World) (g : Nat) (l : List ByteArray) : Prop := ∀ i p, l[i]? = some p → w.cell? ⟨g, i, none⟩ = some (.string p)
theorem InG.up {w w' : World} {g : Nat} {l : List ByteArray} (h : InG w g l) (hb : Below w.heap.size w w') : InG w' g l := fun i p hp => bl_cell hb (h i p hp)
/-- v is a slice that holds the texts l, m of them. -/
def Strs (w : World) (v : Value) (m : Nat) (l : List ByteArray) : Prop := l.length = m ∧ ((m = 0 ∧ v = .slice none 0 0) ∨ ∃ g, 0 < m ∧ v = .slice (some ⟨g, 0, none⟩) m m ∧ InG w g l)
theorem Strs.up {w w' : World} {v : Value} {m : Nat} {l : List ByteArray} (h : Strs w v m l) (hb : Below w.heap.size w w') : Strs w' v m l := by
  obtain ⟨h0, h1 | ⟨g, h1, h2, h3⟩⟩ := h
  · exact ⟨h0, .inl h1⟩
  · exact ⟨h0, .inr ⟨g, h1, h2, h3.up hb⟩⟩
theorem inG_cells (w : World) (l : List ByteArray) (T : TypeId) : InG (w.alloc (.cells (l.map Value.string).toArray T)) w.heap.size l := by
  intro i p hp
  simp [go_sem, hp]

theorem tab_none {t : Int} (h1 : t ≠ 1) (h2 : t ≠ 2) (h3 : t ≠ 3) (h4 : t ≠ 4) : tab t = [] := by unfold tab; rw [if_neg h1, if_neg h2, if_neg h3, if_neg h4]

theorem wordsAll_any (t : Int) (w : World) :
    Calls Tryz.prog 117 #[.int .i64 t] w fun e w' => ∃ v, e = .returned v ∧ Strs w' v (tab t).length (tab t) ∧ Below w.heap.size w w' := by
  by_cases h1 : t = 1
  · subst h1
    go_enter Tryz.func117, Tryz.ntmps117
    go_wp2
    go_ret
    exact ⟨_, rfl, ⟨rfl, .inr ⟨w.heap.size, by decide, rfl, inG_cells w (tab 1) _⟩⟩, up_alloc (Below.refl _ _) _⟩
  by_cases h2 : t = 2
  · subst h2
    go_enter Tryz.func117, Tryz.ntmps117
    go_wp2
    go_ret
    exact ⟨_, rfl, ⟨rfl, .inr ⟨w.heap.size, by decide, rfl, inG_cells w (tab 2) _⟩⟩, up_alloc (Below.refl _ _) _⟩
  by_cases h3 : t = 3
  · subst h3
    go_enter Tryz.func117, Tryz.ntmps117
    go_wp2
    go_ret
    exact ⟨_, rfl, ⟨rfl, .inr ⟨w.heap.size, by decide, rfl, inG_cells w (tab 3) _⟩⟩, up_alloc (Below.refl _ _) _⟩
  by_cases h4 : t = 4
  · subst h4
    go_enter Tryz.func117, Tryz.ntmps117
    go_wp2
    go_ret
    exact ⟨_, rfl, ⟨rfl, .inr ⟨w.heap.size, by decide, rfl, inG_cells w (tab 4) _⟩⟩, up_alloc (Below.refl _ _) _⟩
  rw [tab_none h1 h2 h3 h4]
  have e1 : (t == 1) = false := by simpa using h1
  have e2 : (t == 2) = false := by simpa using h2
  have e3 : (t == 3) = false := by simpa using h3
  have e4 : (t == 4) = false := by simpa using h4
  go_enter Tryz.func117, Tryz.ntmps117
  go_wp2
  go_ret
  exact ⟨_, rfl, ⟨rfl, .inl ⟨rfl, rfl⟩⟩, Below.refl _ _⟩

/-- The word of a number; empty: there is none. -/
def word (l : List ByteArray) (n : Int) : ByteArray := if 1 ≤ n then (l[(n - 1).toNat]?).getD ⟨#[]⟩ else ⟨#[]⟩
theorem word_low {l : List ByteArray} {n : Int} (h : n < 1) : word l n = ⟨#[]⟩ := if_neg (by omega)
theorem word_high {l : List ByteArray} {n : Int} (h : (l.length : Int) < n) : word l n = ⟨#[]⟩ := by
  unfold word
  split
  · rw [List.getElem?_eq_none (by omega)]; rfl
  · rfl
theorem word_at {l : List ByteArray} {k : Nat} {b : ByteArray} (h : l[k]? = some b) : word l ((k : Int) + 1) = b := by
  unfold word
  rw [if_pos (by omega), show ((k : Int) + 1 - 1).toNat = k by omega, h]
  rfl

def WordsGetRel (k : Nat) (w : World) (x : Value) (wr : World) : Prop := ∃ j : Nat, j ≤ k ∧ x = .int .i64 (j : Int) ∧ wr = w

theorem toList_ne {a b : ByteArray} (h : a ≠ b) : (a.toList == b.toList) = false := by
  rw [beq_eq_false_iff_ne]
  intro e
  rw [ByteArray.toList_eq, ByteArray.toList_eq] at e
  apply h
  obtain ⟨⟨a⟩⟩ := a
  obtain ⟨⟨b⟩⟩ := b
  simpa using e
theorem toList_some {s : ByteArray} (h : s ≠ ⟨#[]⟩) : (s.toList == []) = false := by
  have := toList_ne h
  simpa [ByteArray.toList_eq] using this

theorem wordsGet_core (t : Int) (s : ByteArray) (l : List ByteArray) (hl : l.length ≤ 1000000) (w : World) (k : Nat) (hk : l[k]? = some s) (hf : ∀ j b, j < k → l[j]? = some b → b ≠ s)
    (KA : ∀ w, Calls Tryz.prog 117 #[.int .i64 t] w fun e w' => ∃ v, e = .returned v ∧ Strs w' v l.length l ∧ Below w.heap.size w w') :
    Calls Tryz.prog 96 #[.int .i64 t, .string s] w fun e w' => e = .returned (.tuple #[.int .i64 ((k : Int) + 1), .bool true]) ∧ Below w.heap.size w w' := by
  have hkl : k < l.length := (List.getElem?_eq_some_iff.1 hk).1
  obtain ⟨m, hm⟩ : ∃ m, l.length = m := ⟨_, rfl⟩
  rw [hm] at KA hl hkl
  have HA := Lib.hid KA
  have HM := Lib.hid hm
  clear KA hm
  go_enter Tryz.func96, Tryz.ntmps96
  go_wp2_with fail
  refine (HA.out _).mono ?_
  rintro e w1 ⟨v, rfl, ⟨_, hs⟩, hb⟩
  rcases hs with ⟨_, rfl⟩ | ⟨g, h0, rfl, hc⟩
  · omega
  go_wp2_with fail
  go_loopw [11] (fun x wr => WordsGetRel k w1 x wr) (fun x _ => m - (intOf x).toNat)
  case atStart => exact ⟨0, by omega, by go_num, rfl⟩
  case round =>
    obtain ⟨j, hj, rfl, rfl⟩ := hrel
    have jm : (j : Int) < (m : Int) := by omega
    by_cases hjk : j = k
    · subst hjk
      have c1 := hc j s hk
      clear hc hf
      go_wp2
      go_ret2
      exact ⟨rfl, hb⟩
    · have hjl : j < l.length := by have := HM.out; omega
      have hb0 : l[j]? = some l[j] := by simp [hjl]
      generalize l[j] = b at *
      have hn := hf j b (by omega) hb0
      have c1 := hc j b hb0
      have h1 := toList_ne hn
      clear hb0 hn hc hf
      go_wp2_with fail
      go_roundw
      case rel => exact ⟨j + 1, by omega, by go_num, rfl⟩
      case measure => simp [intOf]; omega

theorem wordsGet_none (t : Int) (s : ByteArray) (l : List ByteArray) (hl : l.length ≤ 1000000) (w : World) (hf : ∀ (j : Nat) (b : ByteArray), l[j]? = some b → b ≠ s)
    (KA : ∀ w, Calls Tryz.prog 117 #[.int .i64 t] w fun e w' => ∃ v, e = .returned v ∧ Strs w' v l.length l ∧ Below w.heap.size w w') :
    Calls Tryz.prog 96 #[.int .i64 t, .string s] w fun e w' => e = .returned (.tuple #[.int .i64 0, .bool false]) ∧ Below w.heap.size w w' := by
  obtain ⟨m, hm⟩ : ∃ m, l.length = m := ⟨_, rfl⟩
  rw [hm] at KA hl
  have HA := Lib.hid KA
  have HM := Lib.hid hm
  clear KA hm
  go_enter Tryz.func96, Tryz.ntmps96
  go_wp2_with fail
  refine (HA.out _).mono ?_
  rintro e w1 ⟨v, rfl, ⟨_, hs⟩, hb⟩
  rcases hs with ⟨rfl, rfl⟩ | ⟨g, h0, rfl, hc⟩
  · go_wp2_with fail
    go_loopw [11] (fun x wr => WordsGetRel 0 w1 x wr) (fun x _ => 0)
    case atStart => exact ⟨0, by omega, by go_num, rfl⟩
    case round =>
      obtain ⟨j, hj, rfl, rfl⟩ := hrel
      obtain rfl : j = 0 := by omega
      go_wp2
      go_ret2
      exact ⟨rfl, hb⟩
  go_wp2_with fail
  go_loopw [11] (fun x wr => WordsGetRel m w1 x wr) (fun x _ => m - (intOf x).toNat)
  case atStart => exact ⟨0, by omega, by go_num, rfl⟩
  case round =>
    obtain ⟨j, hj, rfl, rfl⟩ := hrel
    by_cases hjm : j = m
    · subst hjm
      clear hc hf
      go_wp2
      go_ret2
      exact ⟨rfl, hb⟩
    · have jm : (j : Int) < (m : Int) := by omega
      have hjl : j < l.length := by have := HM.out; omega
      have hb0 : l[j]? = some l[j] := by simp [hjl]
      generalize l[j] = b at *
      have hn := hf j b hb0
      have c1 := hc j b hb0
      have h1 := toList_ne hn
      clear hb0 hn hc hf
      go_wp2_with fail
      go_roundw
      case rel => exact ⟨j + 1, by omega, by go_num, rfl⟩
      case measure => simp [intOf]; omega

theorem tab_short (t : Int) : (tab t).length ≤ 7 := by unfold tab; (repeat' split) <;> decide
theorem tab_nodup (t : Int) : (tab t).Nodup := by unfold tab; (repeat' split) <;> decide +kernel
theorem tab_full (t : Int) : ∀ b ∈ tab t, b ≠ ⟨#[]⟩ := by unfold tab; (repeat' split) <;> decide +kernel
theorem tab_first {t : Int} {k : Nat} {s : ByteArray} (hk : (tab t)[k]? = some s) (j : Nat) (b : ByteArray) (hj : j < k) (hb : (tab t)[j]? = some b) : b ≠ s := by
  rintro rfl
  have := (List.getElem?_inj (List.getElem?_eq_some_iff.1 hb).1 (tab_nodup t)).1 (hb.trans hk.symm)
  omega

theorem wordsGet_yes {t : Int} {k : Nat} {s : ByteArray} (hk : (tab t)[k]? = some s) (w : World) :
    Calls Tryz.prog 96 #[.int .i64 t, .string s] w fun e w' => e = .returned (.tuple #[.int .i64 ((k : Int) + 1), .bool true]) ∧ Below w.heap.size w w' :=
  wordsGet_core t s (tab t) (by have := tab_short t; omega) w k hk (tab_first hk) (fun w => wordsAll_any t w)
theorem wordsGet_no {t : Int} {s : ByteArray} (hs : s ∉ tab t) (w : World) :
    Calls Tryz.prog 96 #[.int .i64 t, .string s] w fun e w' => e = .returned (.tuple #[.int .i64 0, .bool false]) ∧ Below w.heap.size w w' :=
  wordsGet_none t s (tab t) (by have := tab_short t; omega) w (fun j b hb e => hs (e ▸ List.mem_of_getElem? hb)) (fun w => wordsAll_any t w)
end Go.Proofs.YtbfigaadbfggcaaGreatDoor
/- Texts, lists of texts and rows of octets in memory. -/
namespace Go.Proofs.YtbfigaadbfggcaaGreatDoor
open Go.RowKit
set_option linter.unusedVariables false

theorem Tryz.infoText : (Tryz.prog.info? 9).map (fun i => (i.zero, i.size, i.bytes)) = some (some (.string ⟨#[]⟩), 1, 16) := by kernel_rfl
theorem Tryz.infoOctet : (Tryz.prog.info? 5).map (fun i => (i.zero, i.size, i.bytes)) = some (some (.int .u8 0), 1, 1) := by kernel_rfl

/-- A text of these octets. -/
def tx (l : List UInt8) : ByteArray := ⟨l.toArray⟩
theorem tx_data (s : ByteArray) : tx s.data.toList = s := by simp [tx]
theorem data_tx (l : List UInt8) : (tx l).data.toList = l := by simp [tx]
theorem tx_size (l : List UInt8) : (tx l).size = l.length := by simp [tx, ByteArray.size]
theorem tx_append (a b : List UInt8) : tx a ++ tx b = tx (a ++ b) := ByteArray.mk_append_mk a b
theorem tx_toList (l : List UInt8) : (tx l).toList = l := by rw [ByteArray.toList_eq, data_tx]
theorem tx_same (a b : List UInt8) : ((tx a).toList == (tx b).toList) = decide (a = b) := by rw [tx_toList, tx_toList, Bool.eq_iff_iff]; simp
theorem tx_inj {a b : List UInt8} (h : tx a = tx b) : a = b := by rw [← data_tx a, h, data_tx]
theorem size_data (s : ByteArray) : s.data.toList.length = s.size := Array.length_toList
theorem tx_extract (s : ByteArray) (i j : Nat) : s.extract i j = tx ((s.data.toList.take j).drop i) := by
  apply ByteArray.ext
  apply Array.toList_inj.1
  simp [tx, List.drop_take]
theorem drop_octet {s : ByteArray} {k : Nat} (h : k < s.size) : s.data.toList.drop k = s[k] :: s.data.toList.drop (k + 1) := by
  rw [List.drop_eq_getElem_cons (by rw [size_data]; exact h)]
  rfl
theorem take_octet {s : ByteArray} {k : Nat} (h : k < s.size) : s.data.toList.take (k + 1) = s.data.toList.take k ++ [s[k]] := by
  rw [List.take_succ_eq_append_getElem (by rw [size_data]; exact h)]
  rfl
theorem cur_octet {s : ByteArray} {f k : Nat} (hf : f ≤ k) (h : k < s.size) : (s.data.toList.take (k + 1)).drop f = (s.data.toList.take k).drop f ++ [s[k]] := by
  rw [take_octet h, List.drop_append_of_le_length (by rw [List.length_take, size_data]; omega)]
theorem cur_none (s : ByteArray) (k : Nat) : (s.data.toList.take k).drop k = [] := List.drop_eq_nil_of_le (by rw [List.length_take]; omega)
theorem oct_eq (c : UInt8) (n : UInt8) : ((c.toNat : Int) == (n.toNat : Int)) = (c == n) := by
  rw [Bool.eq_iff_iff]
  simp [← UInt8.toNat_inj]
  omega

/-- v is a slice that holds the texts ls. -/
def TxS (w : World) (v : Value) (ls : List (List UInt8)) : Prop :=
  ∃ a c, v = .slice a ls.length c ∧ (ls = [] ∨ ∃ g, a = some ⟨g, 0, none⟩ ∧ (∀ i l, ls[i]? = some l → w.cell? ⟨g, i, none⟩ = some (.string (tx l))) ∧ ls.length ≤ c ∧ c ≤ maxLen)
theorem TxS.up {w w' : World} {v : Value} {ls : List (List UInt8)} (h : TxS w v ls) (hb : Below w.heap.size w w') : TxS w' v ls := by
  obtain ⟨a, c, h1, h2 | ⟨g, h2, h3, h4⟩⟩ := h
  · exact ⟨a, c, h1, .inl h2⟩
  · exact ⟨a, c, h1, .inr ⟨g, h2, fun i l hi => bl_cell hb (h3 i l hi), h4⟩⟩
theorem TxS.nil (w : World) : TxS w (.slice none 0 0) [] := ⟨none, 0, rfl, .inl rfl⟩
theorem TxS.cell {w : World} {a : Option Addr} {n c : Nat} {ls : List (List UInt8)} (h : TxS w (.slice a n c) ls) (h0 : 0 < n) : ls.length = n ∧ ∃ g, a = some ⟨g, 0, none⟩ ∧ ∀ i l, ls[i]? = some l → w.cell? ⟨g, i, none⟩ = some (.string (tx l)) := by
  obtain ⟨a', c', h1, h2⟩ := h
  injection h1 with e1 e2 e3
  subst e1 e2
  refine ⟨rfl, ?_⟩
  rcases h2 with rfl | ⟨g, h2, h3, _⟩
  · simp at h0
  · exact ⟨g, h2, h3⟩

/-- v is a slice of the call's own, from block base on, that holds the texts ls. -/
def rowT (w : World) (base : Nat) (v : Value) (ls : List (List UInt8)) : Prop := w.ownsRow base 9 1 v ls.length (ls.map fun l => .string (tx l))
theorem rowT_nil (w : World) (base : Nat) : rowT w base (.slice none 0 0) [] := World.ownsRow_nil _ _ _ _
theorem own_kept {w w' : World} {base : Nat} {e : TypeId} {z n : Nat} {v : Value} {xs : List Value} (h : w.ownsRow base e z v n xs) (hb : ∀ k, base ≤ k → k < w.heap.size → w'.heap[k]? = w.heap[k]?) : w'.ownsRow base e z v n xs := by
  obtain ⟨h0, h | ⟨g, cap, cur, h1, h2, h3, h4⟩⟩ := h
  · exact ⟨h0, .inl h⟩
  · exact ⟨h0, .inr ⟨g, cap, cur, h1, h2, (hb g h2 (Array.getElem?_eq_some_iff.1 h3).1).trans h3, h4⟩⟩
theorem rowT.kept {w w' : World} {base : Nat} {v : Value} {ls : List (List UInt8)} (h : rowT w base v ls) (hb : ∀ k, base ≤ k → k < w.heap.size → w'.heap[k]? = w.heap[k]?) : rowT w' base v ls := own_kept h hb
theorem rowT.up {w w' : World} {base : Nat} {v : Value} {ls : List (List UInt8)} (h : rowT w base v ls) (hb : Below w.heap.size w w') : rowT w' base v ls := h.kept fun k _ hk => hb.block k hk
theorem rowT.texts {w : World} {base : Nat} {v : Value} {ls : List (List UInt8)} (h : rowT w base v ls) : TxS w v ls := by
  rcases h.2 with ⟨rfl, h0⟩ | ⟨g, cap, cur, rfl, hb, hg, hcap, hmax, hsz, htk⟩
  · exact ⟨none, 0, by rw [h0], .inl (List.eq_nil_of_length_eq_zero h0)⟩
  · refine ⟨some ⟨g, 0, none⟩, cap, rfl, .inr ⟨g, rfl, fun i l hi => ?_, by omega, by omega⟩⟩
    have := h.cells (g := g) rfl i (.string (tx l)) (by simp [hi])
    rwa [show (⟨g, 0, none⟩ : Addr).add i = ⟨g, i, none⟩ by unfold Addr.add; split <;> simp_all] at this

/-- append, of one text, to a row of the call's own. -/
theorem wpList_append_text {u : World} {ops : Array Oper} {rest : List Oper} {o : Oper} {a : Act} {Q : Exit → Act → World → Prop} (hgd : o.guard = none) (s x : Operand)
    (ho : o.op = .call { callee := .builtin .append, args := #[s, x], argTypes := #[27, 27] })
    (base : Nat) (v : Value) (ls : List (List UInt8)) (hs : a.eval s = v) (hown : rowT u base v ls) (hbase : base ≤ u.heap.size)
    (p : ByteArray) (l : List UInt8) (hp : p = tx l) (hx : a.eval x = .slice (some ⟨u.heap.size, 0, none⟩) 1 1) (hl : ls.length ≤ 1000000)
    (h : ∀ v' w', rowT w' base v' (ls ++ [l]) → Below base u w' → wpList Tryz.prog ops Q rest (a.put o.dst v') w') : wpList Tryz.prog ops Q (o :: rest) a (u.alloc (.cells #[.string p] 9)) := by
  subst hp
  obtain ⟨i0, hi, hz0, hz1, hz2⟩ := info_parts Tryz.infoText
  refine wpList_append_lies _ hgd s x 27 ho base 9 i0 _ 1 16 Tryz.underlying27 hi hz0 hz1 hz2 rfl (by omega) v ls.length _ hs (World.ownsRow.alloc hown _) ⟨u.heap.size, 0, none⟩ 1 1 [.string (tx l)] hx rfl ?_ ?_ (by omega) (by unfold maxLen; omega) (by omega) (by simp; omega) _ rfl ?_
  · exact World.news_of_block (cs := #[.string (tx l)]) (t := 9) (fr := (0, 0)) (heap_alloc_new u _)
  · intro y hy; simp at hy; subst hy; rfl
  intro g cap w1 hown1 hgrow hat hlt
  refine h _ w1 ?_ (Below.grown ((Below.refl _ _).alloc hbase _) hgrow (by simp; omega) (fun k hk => (hown.lt k hk).1))
  unfold rowT
  rw [List.length_append, List.map_append]
  exact hown1

/-- v is a row of octets of the call's own, from block base on. -/
def encO (l : List UInt8) : List Value := l.map fun c => .int .u8 (c.toNat : Int)
def rowB (w : World) (base : Nat) (v : Value) (l : List UInt8) : Prop := w.ownsRow base 5 1 v l.length (encO l)
theorem rowB_nil (w : World) (base : Nat) : rowB w base (.slice none 0 0) [] := World.ownsRow_nil _ _ _ _
theorem rowB.kept {w w' : World} {base : Nat} {v : Value} {l : List UInt8} (h : rowB w base v l) (hb : ∀ k, base ≤ k → k < w.heap.size → w'.heap[k]? = w.heap[k]?) : rowB w' base v l := own_kept h hb
theorem rowB.up {w w' : World} {base : Nat} {v : Value} {l : List UInt8} (h : rowB w base v l) (hb : Below w.heap.size w w') : rowB w' base v l := h.kept fun k _ hk => hb.block k hk
/-- append, of one octet, to a row of the call's own. -/
theorem wpList_append_octet {u : World} {ops : Array Oper} {rest : List Oper} {o : Oper} {a : Act} {Q : Exit → Act → World → Prop} (hgd : o.guard = none) (s x : Operand)
    (ho : o.op = .call { callee := .builtin .append, args := #[s, x], argTypes := #[172, 172] })
    (base : Nat) (v : Value) (l : List UInt8) (hs : a.eval s = v) (hown : rowB u base v l) (hbase : base ≤ u.heap.size)
    (n : Int) (c : UInt8) (hc : n = (c.toNat : Int)) (hx : a.eval x = .slice (some ⟨u.heap.size, 0, none⟩) 1 1) (hl : l.length ≤ 1000000000)
    (h : ∀ v' w', rowB w' base v' (l ++ [c]) → Below base u w' → wpList Tryz.prog ops Q rest (a.put o.dst v') w') : wpList Tryz.prog ops Q (o :: rest) a (u.alloc (.cells #[.int .u8 n] 5)) := by
  subst hc
  obtain ⟨i0, hi, hz0, hz1, hz2⟩ := info_parts Tryz.infoOctet
  refine wpList_append_lies _ hgd s x 172 ho base 5 i0 _ 1 1 Tryz.underlying172 hi hz0 hz1 hz2 rfl (by omega) v l.length _ hs (World.ownsRow.alloc hown _) ⟨u.heap.size, 0, none⟩ 1 1 [.int .u8 (c.toNat : Int)] hx rfl ?_ ?_ (by omega) (by unfold maxLen; omega) (by omega) (by simp; omega) _ rfl ?_
  · exact World.news_of_block (cs := #[.int .u8 (c.toNat : Int)]) (t := 5) (fr := (0, 0)) (heap_alloc_new u _)
  · intro y hy; simp at hy; subst hy; rfl
  intro g cap w1 hown1 hgrow hat hlt
  refine h _ w1 ?_ (Below.grown ((Below.refl _ _).alloc hbase _) hgrow (by simp; omega) (fun k hk => (hown.lt k hk).1))
  unfold rowB encO
  rw [List.length_append, List.map_append]
  exact hown1
/-- A row of octets, as a text. -/
theorem rowB.text {w : World} {base : Nat} {v : Value} {l : List UInt8} (h : rowB w base v l) : (convert 172 9 v).run Tryz.prog w = .ok (.string (tx l)) w := by
  rcases h.2 with ⟨rfl, h0⟩ | ⟨g, cap, cur, rfl, hb, hg, hcap, hmax, hsz, htk⟩
  · obtain rfl := List.eq_nil_of_length_eq_zero h0
    rw [run_convert_bytes_string w 172 9 5 none 0 0 Tryz.underlying172 Tryz.underlying5 Tryz.underlying9]
    rfl
  · refine run_convert_bytes_back w 172 9 5 ⟨g, 0, none⟩ cap l Tryz.underlying172 Tryz.underlying5 Tryz.underlying9 ?_
    intro j hj
    exact h.cells (g := g) rfl j _ (by simp [encO, hj])
/-- A block of one octet, just made, is a row of the call's own. -/
theorem rowB_one (w : World) (base : Nat) (c : UInt8) (hb : base ≤ w.heap.size) : rowB (w.alloc (.cells #[.int .u8 (c.toNat : Int)] 5)) base (.slice (some ⟨w.heap.size, 0, none⟩) 1 1) [c] :=
  ⟨rfl, .inr ⟨w.heap.size, 1, _, rfl, hb, heap_alloc_new w _, Nat.le_refl _, by decide, rfl, rfl⟩⟩
end Go.Proofs.YtbfigaadbfggcaaGreatDoor
/- Plain facts behind a step's text: which step a text is of, and that a right step comes back from its text. -/
namespace Go.Proofs.YtbfigaadbfggcaaGreatDoor
open Go.RowKit DecMath
set_option linter.unusedVariables false

/-- The side of a letter; 0: there is none. -/
def sideO (c : UInt8) : Int := if c = 76 then 1 else if c = 82 then 2 else if c = 66 then 3 else if c = 84 then 4 else 0
/-- The letter of a side. -/
def sideC (d : Int) : UInt8 := if d = 1 then 76 else if d = 2 then 82 else if d = 3 then 66 else 84
theorem sideO_C {d : Int} (h0 : 1 ≤ d) (h1 : d ≤ 4) : sideO (sideC d) = d := by
  obtain rfl | rfl | rfl | rfl : d = 1 ∨ d = 2 ∨ d = 3 ∨ d = 4 := by omega
  all_goals decide
theorem sideO_bounds (c : UInt8) : 0 ≤ sideO c ∧ sideO c ≤ 4 := by unfold sideO; (repeat' split) <;> omega
/-- What stands ahead of a u at the end, and whether there is one. -/
def stripU (r : List UInt8) : List UInt8 × Bool := if r.getLast? = some 117 then (r.dropLast, true) else (r, false)
theorem stripU_trim (r : List UInt8) : Lib.trimSuffix r [117] = (stripU r).1 ∧ Lib.hasSuffix r [117] = (stripU r).2 := by
  have h : Lib.hasSuffix r [117] = decide (r.getLast? = some 117) := by
    unfold Lib.hasSuffix
    rw [Bool.eq_iff_iff, List.isSuffixOf_iff_suffix, decide_eq_true_eq]
    constructor
    · rintro ⟨a, rfl⟩; simp
    · intro h
      obtain ⟨a, rfl⟩ := List.getLast?_eq_some_iff.1 h
      exact ⟨a, rfl⟩
  unfold Lib.trimSuffix stripU
  rw [h]
  by_cases e : r.getLast? = some 117
  · rw [if_pos (by simpa using e), if_pos e]
    exact ⟨by rw [List.dropLast_eq_take]; rfl, by simpa using e⟩
  · rw [if_neg (by simpa using e), if_neg e]
    exact ⟨rfl, by simpa using e⟩
/-- The step of a text, and whether there is one. -/
def getS : List UInt8 → Sp × Bool
  | [] => (⟨0, 0, false⟩, false)
  | c :: r => if sideO c ≠ 0 ∧ (inOf (stripU r).1 1 64).2 = true then (⟨sideO c, (inOf (stripU r).1 1 64).1, (stripU r).2⟩, true) else (⟨0, 0, false⟩, false)
/-- The text of a step. -/
def textS (p : Sp) : List UInt8 := sideC p.d :: (Lib.itoa p.n ++ if p.u = true then [117] else [])
theorem inOf_itoa (n lo hi : Int) (n0 : -9223372036854775808 ≤ n) (n1 : n ≤ 9223372036854775807) (h0 : lo ≤ n) (h1 : n ≤ hi) : inOf (Lib.itoa n) lo hi = (n, true) := by
  unfold inOf
  rw [numOf_itoa n n0 n1, if_pos ⟨rfl, h0, h1⟩]
theorem itoa_last (n : Int) (n0 : 0 ≤ n) : (Lib.itoa n).getLast? ≠ some 117 := by
  unfold Lib.itoa
  rw [if_neg (by omega)]
  intro h
  have := digits_each n.toNat 117 (List.mem_of_getLast? h)
  revert this
  decide
theorem stripU_text (n : Int) (n0 : 0 ≤ n) (u : Bool) : stripU (Lib.itoa n ++ if u = true then [117] else []) = (Lib.itoa n, u) := by
  cases u
  · simp only [Bool.false_eq_true, if_false, List.append_nil]
    unfold stripU
    rw [if_neg (itoa_last n n0)]
  · simp [stripU]
theorem getS_text (p : Sp) (h : rightB p.d p.n = true) : getS (textS p) = (p, true) := by
  obtain ⟨⟨d0, d1⟩, n0, n1⟩ := rightB_true h
  obtain ⟨d, n, u⟩ := p
  simp only at d0 d1 n0 n1
  simp only [textS, getS, stripU_text n (by omega) u, sideO_C d0 d1, inOf_itoa n 1 64 (by omega) (by omega) n0 n1]
  rw [if_pos ⟨by omega, trivial⟩]
theorem getS_no {l : List UInt8} (h : (getS l).2 = false) : (getS l).1 = ⟨0, 0, false⟩ := by
  cases l with
  | nil => rfl
  | cons c r =>
    simp only [getS] at h ⊢
    split at h
    · cases h
    · rename_i hc; rw [if_neg hc]
theorem textS_len (p : Sp) (n0 : 0 ≤ p.n) (n1 : p.n ≤ 64) : (textS p).length ≤ 22 ∧ 2 ≤ (textS p).length := by
  have := itoa_len p.n (by omega) (by omega)
  unfold textS
  simp only [List.length_cons, List.length_append]
  split <;> simp <;> omega
end Go.Proofs.YtbfigaadbfggcaaGreatDoor
