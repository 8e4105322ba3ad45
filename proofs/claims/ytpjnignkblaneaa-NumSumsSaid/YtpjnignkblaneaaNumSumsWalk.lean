/- The law NumSums answers true for every list of ints and every three ints: a list's sum is told as long as no sum ahead runs over; no condition. -/
import Derived.Test.YtpjnignkblaneaaNumFloor
import Derived.Below
namespace Go.Proofs.Ytpjnignkblaneaa
open Go.RowKit NumMath
set_option linter.unusedVariables false

/-- All numbers of a list, added to s one behind the other. -/
def acc : List Int → Int → Int × Bool
  | [], s => (s, true)
  | x :: l, s => if fits (s + x) = true then acc l (s + x) else (0, false)
theorem acc_more (l : List Int) (k : Nat) (x s : Int) (hk : k < l.length) (hx : l.getD k 0 = x) :
    acc (l.drop k) s = if fits (s + x) = true then acc (l.drop (k + 1)) (s + x) else (0, false) := by
  have e : l.drop k = x :: l.drop (k + 1) := by
    rw [List.drop_eq_getElem_cons hk, ← hx]
    simp [List.getD, hk]
  rw [e]; rfl
theorem acc_yes (l : List Int) (k : Nat) (x s : Int) (hk : k < l.length) (hx : l.getD k 0 = x) (h0 : -9223372036854775808 ≤ s + x) (h1 : s + x ≤ 9223372036854775807) : acc (l.drop k) s = acc (l.drop (k + 1)) (s + x) := by
  rw [acc_more l k x s hk hx, if_pos (by unfold fits; simp; omega)]
theorem acc_no (l : List Int) (k : Nat) (x s : Int) (hk : k < l.length) (hx : l.getD k 0 = x) (h : ¬ (-9223372036854775808 ≤ s + x ∧ s + x ≤ 9223372036854775807)) : acc (l.drop k) s = (0, false) := by
  rw [acc_more l k x s hk hx, if_neg (by unfold fits; simp; omega)]
theorem acc_end (l : List Int) (s : Int) : acc (l.drop l.length) s = (s, true) := by rw [List.drop_length]; rfl

def AccRel (l : List Int) (s i : Value) : Prop := ∃ (k : Nat) (t : Int), k ≤ l.length ∧ s = .int .i64 t ∧ i = .int .i64 (k : Int) ∧ -9223372036854775808 ≤ t ∧ t ≤ 9223372036854775807 ∧ acc l 0 = acc (l.drop k) t

theorem sum_none (a : Option Addr) (cap : Nat) (w : World) : Calls Try.prog 13 #[.slice a 0 cap] w fun e w' => e = .returned (.tuple #[.int .i64 0, .bool true]) ∧ w = w' := by
  go_enter Try.func13, Try.ntmps13
  go_wp2
  refine wp_loop_rounds 1 ?_
  rw [rounds_succ]
  go_wp2
  go_ret2
  exact ⟨rfl, rfl⟩
set_option maxHeartbeats 400000 in
theorem sum_any (b off cap : Nat) (l : List Int) (w : World) (hl : 0 < l.length) (hm : l.length ≤ 9223372036854775807) (hc : ∀ j, j < l.length → w.cell? ⟨b, off + j, none⟩ = some (.int .i64 (l.getD j 0)))
    (hr : ∀ j, -9223372036854775808 ≤ l.getD j 0 ∧ l.getD j 0 ≤ 9223372036854775807) :
    Calls Try.prog 13 #[.slice (some ⟨b, off, none⟩) l.length cap] w fun e w' => e = .returned (.tuple #[.int .i64 (acc l 0).1, .bool (acc l 0).2]) ∧ w = w' := by
  have HC := Lib.hid hc; have HR := Lib.hid hr; clear hc hr
  generalize hn : l.length = n at *
  have HN := Lib.hid hn; clear hn
  go_enter Try.func13, Try.ntmps13
  go_wp2
  go_loop [4, 11] (fun s i => AccRel l s i) (fun _ i => n - (intOf i).toNat)
  case atStart => exact ⟨0, 0, by omega, rfl, by go_num, by omega, by omega, rfl⟩
  case round =>
    obtain ⟨k, t, hk, rfl, rfl, t0, t1, ht⟩ := hrel
    rw [HN.out] at hk
    have HT := Lib.hid ht; clear ht
    by_cases hlt : k < n
    · obtain ⟨x, hx⟩ : ∃ x, l.getD k 0 = x := ⟨_, rfl⟩
      have hcell := HC.out k hlt
      have hrg := HR.out k
      rw [hx] at hcell hrg
      obtain ⟨r0, r1⟩ := hrg
      have HX := Lib.hid hx; clear hx
      have ka := fun w => add_any t x w t0 t1 r0 r1
      by_cases f : -9223372036854775808 ≤ t + x ∧ t + x ≤ 9223372036854775807
      · rw [opt_yes _ f.1 f.2] at ka
        have KA := Lib.hid ka; clear ka
        have Y := Lib.hid (HT.out.trans (acc_yes l k x t (by rw [HN.out]; exact hlt) HX.out f.1 f.2))
        obtain ⟨f0, f1⟩ := f
        go_wp2_with (go_at_call 8; refine (KA.out _).mono ?_; rintro e w' ⟨rfl, rfl⟩)
        go_round
        case rel => exact ⟨k + 1, _, by rw [HN.out]; omega, rfl, by go_num, f0, f1, Y.out⟩
        case measure => simp [intOf]; omega
      · rw [opt_no _ (by omega)] at ka
        have KA := Lib.hid ka; clear ka
        have Y := Lib.hid (HT.out.trans (acc_no l k x t (by rw [HN.out]; exact hlt) HX.out f))
        clear f
        go_wp2_with (go_at_call 8; refine (KA.out _).mono ?_; rintro e w' ⟨rfl, rfl⟩)
        go_ret2
        exact ⟨ret_pair Y.out, rfl⟩
    · have Y : Hid (acc l 0 = (t, true)) := Lib.hid (by rw [HT.out, show k = l.length from by rw [HN.out]; omega]; exact acc_end l t)
      have hk2 : n ≤ k := by omega
      go_wp2
      go_ret2
      exact ⟨ret_pair Y.out, rfl⟩

theorem ret_bool1 {c : Bool} (h : c = true) : Ending.returned (.bool c) = .returned (.bool true) := by rw [h]
theorem below_drewN (w : World) (n : Nat) : Below w.heap.size w (w.drewN n) := by
  induction n with
  | zero => exact Below.refl _ _
  | succ n ih => exact Below.drew ih

def LawRel (l : List Int) (s o i : Value) : Prop := ∃ (k : Nat) (t : Int) (ok : Bool), k ≤ l.length ∧ s = .int .i64 t ∧ o = .bool ok ∧ i = .int .i64 (k : Int) ∧ -9223372036854775808 ≤ t ∧ t ≤ 9223372036854775807 ∧ ((ok = true ∧ acc l 0 = acc (l.drop k) t) ∨ (ok = false ∧ acc l 0 = (0, false)))
set_option maxHeartbeats 400000 in
theorem law_none (a : Option Addr) (cap : Nat) (n lo hi : Int) (w : World) :
    Calls Try.prog 4 #[.slice a 0 cap, .int .i64 n, .int .i64 lo, .int .i64 hi] w fun e w' => e = .returned (.bool true) ∧ Below w.heap.size w w' := by
  by_cases h1 : lo ≤ n <;> by_cases h2 : n ≤ hi
  all_goals
    go_enter Try.func4, Try.ntmps4
    go_wp2_with (go_at_call 7; refine (alive_any _).mono ?_; rintro e w' ⟨rfl, m, rfl⟩)
    refine wp_loop_rounds 1 ?_
    rw [rounds_succ]
    go_wp2_with (first | (go_at_call 13; refine (sum_none _ _ _).mono ?_; rintro e w' ⟨rfl, rfl⟩) | (go_at_call 14; refine (in_any _ _ _ _).mono ?_; rintro e w' ⟨rfl, rfl⟩))
    go_ret
    exact ⟨ret_bool1 (by simp), below_drewN _ _⟩
set_option maxHeartbeats 1000000 in
theorem law_any (b off cap : Nat) (l : List Int) (n lo hi : Int) (w : World) (hl : 0 < l.length) (hm : l.length ≤ 9223372036854775807) (hc : ∀ j, j < l.length → w.cell? ⟨b, off + j, none⟩ = some (.int .i64 (l.getD j 0)))
    (hr : ∀ j, -9223372036854775808 ≤ l.getD j 0 ∧ l.getD j 0 ≤ 9223372036854775807) :
    Calls Try.prog 4 #[.slice (some ⟨b, off, none⟩) l.length cap, .int .i64 n, .int .i64 lo, .int .i64 hi] w fun e w' => e = .returned (.bool true) ∧ Below w.heap.size w w' := by
  have ks := fun m => sum_any b off cap l (w.drewN m) hl hm (fun j hj => by simpa using hc j hj) hr
  have HC := Lib.hid hc; have HR := Lib.hid hr; clear hc hr
  generalize hn : l.length = len at *
  have HN := Lib.hid hn; clear hn
  by_cases big : 300 < len
  · have KS := Lib.hid ks; clear ks
    go_enter Try.func4, Try.ntmps4
    go_wp2_with (go_at_call 7; refine (alive_any _).mono ?_; rintro e w' ⟨rfl, m, rfl⟩)
    go_ret
    exact ⟨rfl, below_drewN _ _⟩
  by_cases h1 : lo ≤ n <;> by_cases h2 : n ≤ hi
  all_goals
    have KS := Lib.hid ks
    clear ks
    go_enter Try.func4, Try.ntmps4
    go_wp2_with (go_at_call 7; refine (alive_any _).mono ?_; rintro e w' ⟨rfl, m, rfl⟩)
    go_loop [9, 10, 11] (fun s o i => LawRel l s o i) (fun _ _ i => len - (intOf i).toNat)
    case atStart => exact ⟨0, 0, true, by omega, rfl, rfl, by go_num, by omega, by omega, .inl ⟨rfl, rfl⟩⟩
    case round =>
      obtain ⟨k, t, ok, hk, rfl, rfl, rfl, t0, t1, ht⟩ := hrel
      rw [HN.out] at hk
      rcases ht with ⟨rfl, ht⟩ | ⟨rfl, ht⟩
      · have HT := Lib.hid ht; clear ht
        by_cases hlt : k < len
        · obtain ⟨x, hx⟩ : ∃ x, l.getD k 0 = x := ⟨_, rfl⟩
          have hcell := HC.out k hlt
          have hrg := HR.out k
          rw [hx] at hcell hrg
          obtain ⟨r0, r1⟩ := hrg
          have HX := Lib.hid hx; clear hx
          have ka := fun w => refAdd_any t x w t0 t1 r0 r1
          by_cases f : -9223372036854775808 ≤ t + x ∧ t + x ≤ 9223372036854775807
          · rw [opt_yes _ f.1 f.2] at ka
            have KA := Lib.hid ka; clear ka
            have Y := Lib.hid (HT.out.trans (acc_yes l k x t (by rw [HN.out]; exact hlt) HX.out f.1 f.2))
            obtain ⟨f0, f1⟩ := f
            go_wp2_with (go_at_call 11; refine (KA.out _).mono ?_; rintro e w' ⟨rfl, rfl⟩)
            go_round
            case rel => exact ⟨k + 1, _, _, by rw [HN.out]; omega, rfl, rfl, by go_num, f0, f1, .inl ⟨rfl, Y.out⟩⟩
            case measure => simp [intOf]; omega
          · rw [opt_no _ (by omega)] at ka
            have KA := Lib.hid ka; clear ka
            have Y := Lib.hid (HT.out.trans (acc_no l k x t (by rw [HN.out]; exact hlt) HX.out f))
            clear f
            go_wp2_with (go_at_call 11; refine (KA.out _).mono ?_; rintro e w' ⟨rfl, rfl⟩)
            go_round
            case rel => exact ⟨k + 1, _, _, by rw [HN.out]; omega, rfl, rfl, by go_num, by omega, by omega, .inr ⟨rfl, Y.out⟩⟩
            case measure => simp [intOf]; omega
        · have y : acc l 0 = (t, true) := by rw [HT.out, show k = l.length from by rw [HN.out]; omega]; exact acc_end l t
          have hk2 : len ≤ k := by omega
          have k2 := KS.out m
          rw [y] at k2
          have K2 := Lib.hid k2; clear k2 y
          go_wp2_with (first | (go_at_call 13; refine K2.out.mono ?_; rintro e w' ⟨rfl, rfl⟩) | (go_at_call 14; refine (in_any _ _ _ _).mono ?_; rintro e w' ⟨rfl, rfl⟩))
          go_ret
          exact ⟨ret_bool1 (by simp), below_drewN _ _⟩
      · have k2 := KS.out m
        rw [ht] at k2
        have K2 := Lib.hid k2; clear k2 ht
        by_cases hlt : k < len
        all_goals
          go_wp2_with (first | (go_at_call 13; refine K2.out.mono ?_; rintro e w' ⟨rfl, rfl⟩) | (go_at_call 14; refine (in_any _ _ _ _).mono ?_; rintro e w' ⟨rfl, rfl⟩))
          go_ret
          exact ⟨ret_bool1 (by simp), below_drewN _ _⟩

theorem walkNumSums (a : Option Addr) (len cap : Nat) (zs : List Int) (n lo hi : Int) (w : World)
    (h : (a = none ∧ len = 0 ∧ cap = 0 ∧ zs = []) ∨ ∃ x, a = some x ∧ len ≤ cap ∧ cap ≤ maxLen ∧ zs.length = cap ∧ (∀ i, i < zs.length → w.cell? (x.add i) = some (.int .i64 (zs.getD i 0))) ∧ ∀ n ∈ zs, (Lit.int .i64 n).wf = true)
    (h1 : (Lit.int .i64 n).wf = true) (h2 : (Lit.int .i64 lo).wf = true) (h3 : (Lit.int .i64 hi).wf = true) :
    Calls Try.prog 4 #[.slice a len cap, .int .i64 n, .int .i64 lo, .int .i64 hi] w fun e w' => e = .returned (.bool true) ∧ Below w.heap.size w w' := by
  rcases h with ⟨rfl, rfl, rfl, rfl⟩ | ⟨x, rfl, hlc, hm, hz, hcell, hwf⟩
  · exact law_none none 0 n lo hi w
  · unfold maxLen at hm
    by_cases h0 : len = 0
    · subst h0; exact law_none (some x) cap n lo hi w
    · obtain ⟨b, off, rfl, hc⟩ := ints_at hcell (by omega)
      have hlen : (zs.take len).length = len := by rw [List.length_take]; omega
      have ge : ∀ j, j < len → (zs.take len).getD j 0 = zs.getD j 0 := fun j hj => by simp [List.getD, hj]
      have r := law_any b off cap (zs.take len) n lo hi w (by omega) (by omega) (fun j hj => by rw [ge j (by omega)]; exact hc j (by omega)) (fun j => ?_)
      · rw [hlen] at r; exact r
      · by_cases hj : j < len
        · rw [ge j hj]
          have : zs.getD j 0 ∈ zs := by
            rw [List.getD_eq_getElem?_getD, List.getElem?_eq_getElem (by omega)]; exact List.getElem_mem _
          exact i64_bd (hwf _ this)
        · have : (zs.take len).getD j 0 = 0 := by
            rw [List.getD_eq_getElem?_getD, List.getElem?_eq_none (by omega)]; rfl
          rw [this]; decide
end Go.Proofs.Ytpjnignkblaneaa
