/- The law LexBlanks answers true for every line, gap and remark: how many blanks stand between fields, and what a remark says, makes no difference. -/
import Derived.Test.YtfmhhacnhmjjmaaLexAlive
namespace Go.Proofs.Ytfmhhacnhmjjmaa
open Go.RowKit
set_option linter.unusedVariables false

/-- A tab, a blank, and j blanks more. -/
def gapL (j : Nat) : List UInt8 := [9, 32] ++ List.replicate j 32
theorem gap_succ (j : Nat) : gapL (j + 1) = gapL j ++ [32] := by simp [gapL, List.replicate_succ']
theorem gap_length (j : Nat) : (gapL j).length = j + 2 := by simp [gapL]
theorem gap_blank (j : Nat) : ∀ c ∈ gapL j, blankB c = true := by
  intro c hc
  simp only [gapL, List.mem_append, List.mem_cons, List.mem_replicate, List.not_mem_nil, or_false] at hc
  rcases hc with (rfl | rfl) | ⟨_, rfl⟩ <;> decide
theorem gap_some (j : Nat) : gapL j ≠ [] := by simp [gapL]
theorem spread_take {b : List UInt8} {ls : List (List UInt8)} {k : Nat} {x : List UInt8} (h : ls[k]? = some x) : spread b (ls.take (k + 1)) = spread b (ls.take k) ++ x ++ b := by
  rw [List.take_add_one, h]
  simp [spread]
theorem spread_le (b : List UInt8) (ls : List (List UInt8)) (k : Nat) : (spread b (ls.take k)).length ≤ (spread b ls).length := by
  have e : spread b ls = spread b (ls.take k) ++ spread b (ls.drop k) := by
    unfold spread
    rw [← List.flatMap_append, List.take_append_drop]
  rw [e, List.length_append]
  omega

def GapRel (n : Nat) (t i : Value) : Prop := ∃ j : Nat, j ≤ n ∧ i = .int .i64 (j : Int) ∧ t = .string (tx (gapL j))
def SpreadRel (b : List UInt8) (ls : List (List UInt8)) (m : Nat) (t i : Value) : Prop := ∃ k : Nat, k ≤ m ∧ i = .int .i64 (k : Int) ∧ t = .string (tx (b ++ spread b (ls.take k)))

set_option maxRecDepth 100000 in
set_option maxHeartbeats 2000000 in
theorem blanks_core (s r : ByteArray) (n : Int) (q : Nat) (n0 : 0 ≤ n) (n1 : n ≤ 255) (hq : n % 5 = (q : Int)) (q4 : q ≤ 4) (ls : List (List UInt8)) (m : Nat) (hm : ls.length = m) (m1 : m ≤ 301) (hS : (spread (gapL q) ls).length ≤ 5000) (w : World) (hl : s.size ≤ 300) (hr : r.size ≤ 100)
    (K1 : ∀ w, Calls Try.prog 9 #[.string s] w fun e w' => ∃ v, e = .returned (.tuple #[v, .bool true]) ∧ TxS w' v ls ∧ Below w.heap.size w w')
    (K2 : ∀ w, Calls Try.prog 9 #[.string (tx (gapL q ++ spread (gapL q) ls ++ [35]) ++ r)] w fun e w' => ∃ v, e = .returned (.tuple #[v, .bool true]) ∧ TxS w' v ls ∧ Below w.heap.size w w') :
    Calls Try.prog 6 #[.string s, .int .u8 n, .string r] w fun e w' => e = .returned (.bool true) ∧ Below w.heap.size w w' := by
  have HA := Lib.hid lexAlive_any; have H1 := Lib.hid K1; have H2 := Lib.hid K2; have HM := Lib.hid hm; have HS := Lib.hid hS
  clear K1 K2 hm hS
  have z1 : decide ((300 : Int) < (s.size : Int)) = false := by simp; omega
  have z2 : decide ((100 : Int) < (r.size : Int)) = false := by simp; omega
  have hq2 : n.tmod 5 = (q : Int) := by rw [Int.tmod_eq_emod_of_nonneg n0]; exact hq
  go_enter Try.func6, Try.ntmps6
  go_wp2_with fail
  refine (HA.out _).mono ?_
  rintro e w1 ⟨rfl, hb⟩
  have B1 := Lib.hid hb; clear hb
  go_wp2_with fail
  refine (H1.out _).mono ?_
  rintro e w2 ⟨v, rfl, ht, hb⟩
  have B2 := Lib.hid (up_trans B1.out hb); clear hb
  have HT := Lib.hid ht
  obtain ⟨a, cap, rfl, hc⟩ := ht
  have HC := Lib.hid hc
  clear hc
  rw [HM.out] at HT
  rw [HM.out]
  go_wp2_with fail
  go_loop [9, 10] (fun t i => GapRel q t i) (fun _ i => q - (intOf i).toNat)
  case atStart => exact ⟨0, Nat.zero_le _, rfl, rfl⟩
  case round =>
    obtain ⟨j, hj, rfl, rfl⟩ := hrel
    have hgz : (tx (gapL j)).size ≤ 10 := by rw [tx_size, gap_length]; omega
    by_cases hlt : j < q
    · have y1 : (j : Int) < (q : Int) := by omega
      have a1 : tx (gapL j) ++ (⟨#[32]⟩ : ByteArray) = tx (gapL (j + 1)) := by rw [gap_succ]; exact tx_append (gapL j) [32]
      obtain ⟨R, hR⟩ : ∃ R, tx (gapL (j + 1)) = R := ⟨_, rfl⟩
      rw [hR] at a1
      have HRR := Lib.hid hR
      clear hR
      generalize tx (gapL j) = P at *
      go_wp2
      go_round
      case rel => exact ⟨j + 1, by omega, by go_num, by rw [HRR.out]⟩
      case measure => simp [intOf]; omega
    · obtain rfl : j = q := by omega
      have hbl : (gapL j).length ≤ 6 := by rw [gap_length]; omega
      have HG := Lib.hid (rfl : gapL j = gapL j)
      obtain ⟨b, hb0⟩ : ∃ b, gapL j = b := ⟨_, rfl⟩
      rw [hb0] at H2 HS hgz hbl
      rw [hb0]
      clear hb0 HG
      obtain ⟨G, hG⟩ : ∃ G, tx b = G := ⟨_, rfl⟩
      have HG := Lib.hid hG
      rw [hG] at hgz
      rw [hG]
      clear hG
      go_wp2_with fail
      go_loop [11, 12] (fun t i => SpreadRel b ls m t i) (fun _ i => m - (intOf i).toNat)
      case atStart => exact ⟨0, Nat.zero_le _, rfl, by simp [spread, HG.out]⟩
      case round =>
        obtain ⟨k, hk, rfl, rfl⟩ := hrel
        have hpz : (tx (b ++ spread b (ls.take k))).size ≤ 6000 := by
          rw [tx_size, List.length_append]
          have := spread_le b ls k
          have := HS.out
          omega
        by_cases hkm : k < m
        · have y2 : (k : Int) < (m : Int) := by omega
          have hkl : k < ls.length := by rw [HM.out]; exact hkm
          have hx0 : ls[k]? = some ls[k] := List.getElem?_eq_getElem hkl
          have ST := Lib.hid (spread_take (b := b) hx0)
          have SL := Lib.hid (spread_le b ls (k + 1))
          rcases HC.out with h | ⟨g, rfl, hc⟩
          · have := HM.out; rw [h] at this; simp at this; omega
          have c0 := hc k _ hx0
          obtain ⟨x, hx⟩ : ∃ x, ls[k] = x := ⟨_, rfl⟩
          rw [hx] at ST c0
          clear hx0 hx hc
          have hxl : x.length ≤ 5000 := by
            have := SL.out
            rw [ST.out, List.length_append, List.length_append] at this
            have := HS.out
            omega
          have hxz : (tx x).size ≤ 5000 := by rw [tx_size]; exact hxl
          have a1 : tx (b ++ spread b (ls.take k)) ++ tx x = tx (b ++ spread b (ls.take k) ++ x) := tx_append _ _
          have a2 : tx (b ++ spread b (ls.take k) ++ x) ++ G = tx (b ++ spread b (ls.take k) ++ x ++ b) := by rw [← HG.out]; exact tx_append _ _
          have hpz2 : (tx (b ++ spread b (ls.take k) ++ x)).size ≤ 20000 := by
            rw [tx_size, List.length_append]; rw [tx_size] at hpz; omega
          have HR := Lib.hid (show tx (b ++ spread b (ls.take k) ++ x ++ b) = tx (b ++ spread b (ls.take (k + 1))) by rw [ST.out]; simp)
          generalize tx (b ++ spread b (ls.take k) ++ x ++ b) = R at *
          generalize tx (b ++ spread b (ls.take k) ++ x) = P1 at *
          generalize tx (b ++ spread b (ls.take k)) = P at *
          generalize tx x = p at *
          go_wp2
          go_round
          case rel => exact ⟨k + 1, by omega, by go_num, by rw [HR.out]⟩
          case measure => simp [intOf]; omega
        · obtain rfl : k = m := by omega
          rw [List.take_of_length_le (by rw [HM.out]; exact Nat.le_refl _)] at hpz
          rw [List.take_of_length_le (by rw [HM.out]; exact Nat.le_refl _)]
          have a1 : tx (b ++ spread b ls) ++ (⟨#[35]⟩ : ByteArray) = tx (b ++ spread b ls ++ [35]) := tx_append _ [35]
          have hpz2 : (tx (b ++ spread b ls ++ [35])).size ≤ 6001 := by
            rw [tx_size, List.length_append, List.length_singleton]; rw [tx_size] at hpz; omega
          obtain ⟨Z, hZ⟩ : ∃ Z, tx (b ++ spread b ls ++ [35]) ++ r = Z := ⟨_, rfl⟩
          rw [hZ] at H2
          generalize tx (b ++ spread b ls ++ [35]) = P1 at *
          generalize tx (b ++ spread b ls) = P at *
          go_wp2_with fail
          refine (H2.out _).mono ?_
          rintro e w3 ⟨v3, rfl, h3, hb⟩
          have B3 := Lib.hid (up_trans B2.out hb); have H3 := Lib.hid h3; have HT3 := Lib.hid (HT.out.up hb); clear hb h3
          go_wp2_with fail
          refine (texts_same HT3.out H3.out (by rw [HM.out]; omega)).mono ?_
          rintro e w4 ⟨rfl, hb⟩
          have B4 := Lib.hid (up_trans B3.out hb); clear hb
          go_wp2
          go_ret
          exact ⟨rfl, B4.out⟩

set_option maxRecDepth 100000 in
set_option maxHeartbeats 2000000 in
theorem blanks_bad (s r : ByteArray) (n : Int) (w : World) (hl : s.size ≤ 300) (hr : r.size ≤ 100)
    (K1 : ∀ w, Calls Try.prog 9 #[.string s] w fun e w' => ∃ v, e = .returned (.tuple #[v, .bool false]) ∧ TxS w' v [] ∧ Below w.heap.size w w') :
    Calls Try.prog 6 #[.string s, .int .u8 n, .string r] w fun e w' => e = .returned (.bool true) ∧ Below w.heap.size w w' := by
  have HA := Lib.hid lexAlive_any; have H1 := Lib.hid K1
  clear K1
  have z1 : decide ((300 : Int) < (s.size : Int)) = false := by simp; omega
  have z2 : decide ((100 : Int) < (r.size : Int)) = false := by simp; omega
  go_enter Try.func6, Try.ntmps6
  go_wp2_with fail
  refine (HA.out _).mono ?_
  rintro e w1 ⟨rfl, hb⟩
  have B1 := Lib.hid hb; clear hb
  go_wp2_with fail
  refine (H1.out _).mono ?_
  rintro e w2 ⟨v, rfl, ⟨a, c, rfl, _⟩, hb⟩
  have B2 := Lib.hid (up_trans B1.out hb); clear hb
  go_wp2
  go_ret
  exact ⟨rfl, B2.out⟩

set_option maxRecDepth 100000 in
set_option maxHeartbeats 2000000 in
theorem blanks_long (s r : ByteArray) (n : Int) (w : World) (hl : 300 < s.size ∨ 100 < r.size) :
    Calls Try.prog 6 #[.string s, .int .u8 n, .string r] w fun e w' => e = .returned (.bool true) ∧ Below w.heap.size w w' := by
  have HA := Lib.hid lexAlive_any
  by_cases h : 300 < s.size
  · have z1 : (300 : Int) < (s.size : Int) := by omega
    go_enter Try.func6, Try.ntmps6
    go_wp2_with fail
    refine (HA.out _).mono ?_
    rintro e w1 ⟨rfl, hb⟩
    have B1 := Lib.hid hb; clear hb
    go_wp2
    go_ret
    exact ⟨rfl, B1.out⟩
  · have z1 : decide ((300 : Int) < (s.size : Int)) = false := by simp; omega
    have z2 : (100 : Int) < (r.size : Int) := by omega
    go_enter Try.func6, Try.ntmps6
    go_wp2_with fail
    refine (HA.out _).mono ?_
    rintro e w1 ⟨rfl, hb⟩
    have B1 := Lib.hid hb; clear hb
    go_wp2
    go_ret
    exact ⟨rfl, B1.out⟩

theorem walkLexBlanks (s : ByteArray) (n : Int) (r : ByteArray) (w : World) (hs : s.size ≤ maxLen) (hn : (Lit.int .u8 n).wf = true) (hr : r.size ≤ maxLen) :
    Calls Try.prog 6 #[.string s, .int .u8 n, .string r] w fun e w' => e = .returned (.bool true) ∧ Below w.heap.size w w' := by
  by_cases hl : 300 < s.size ∨ 100 < r.size
  · exact blanks_long s r n w hl
  have h1 : IntKind.u8.min = 0 := by decide
  have h2 : IntKind.u8.max = 255 := by decide
  simp [Lit.wf, h1, h2] at hn
  have n0 : 0 ≤ n := by omega
  have n1 : n ≤ 255 := by omega
  clear h1 h2
  have K1 := fun w => lexFields_any s w (by omega)
  unfold GivesF at K1
  cases hF : fieldsL s.data.toList with
  | none =>
    rw [hF] at K1
    exact blanks_bad s r n w (by omega) (by omega) K1
  | some ls =>
    rw [hF] at K1
    have h1 := fieldsL_length hF
    have h2 := fieldsL_octets hF
    rw [size_data] at h1 h2
    obtain ⟨q, hq⟩ : ∃ q : Nat, n % 5 = (q : Int) := ⟨(n % 5).toNat, by omega⟩
    have hS : (spread (gapL q) ls).length ≤ 5000 := by
      rw [spread_length, gap_length]
      have : ls.length * (q + 2) ≤ 301 * 6 := Nat.mul_le_mul (by omega) (by omega)
      omega
    have e : tx (gapL q ++ spread (gapL q) ls ++ [35]) ++ r = tx (gapL q ++ spread (gapL q) ls ++ 35 :: r.data.toList) := by
      conv => lhs; rw [← tx_data r]
      rw [tx_append, List.append_assoc]
      rfl
    have K2 := fun w => lexFields_any (tx (gapL q ++ spread (gapL q) ls ++ [35]) ++ r) w (by
      rw [e, tx_size, List.length_append, List.length_append, List.length_cons, size_data, gap_length]
      omega)
    unfold GivesF at K2
    have e2 : fieldsL (tx (gapL q ++ spread (gapL q) ls ++ [35]) ++ r).data.toList = some ls := by
      rw [e, data_tx]
      exact fields_spread hF _ _ (gap_some q) (gap_blank q)
    rw [e2] at K2
    exact blanks_core s r n q n0 n1 hq (by omega) ls _ rfl (by omega) hS w (by omega) (by omega) K1 K2
end Go.Proofs.Ytfmhhacnhmjjmaa
