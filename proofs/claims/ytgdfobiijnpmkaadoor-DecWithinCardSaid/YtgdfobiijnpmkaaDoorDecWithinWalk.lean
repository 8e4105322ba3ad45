/- The law DecWithin answers true for every three ints and every text, where the library's variables are as the program's text lays them: a number is read, if it is from one to another one. -/
import Derived.Test.YtgdfobiijnpmkaaDoorDecIn
import Derived.Test.YtgdfobiijnpmkaaDoorDecLaid
import Derived.RowKit3
import Derived.OpenShut
namespace Go.Proofs.YtgdfobiijnpmkaaDoor
open Go.RowKit DecMath
set_option linter.unusedVariables false

theorem inOf_yes (l : List UInt8) (v lo hi : Int) (h : numOf l = (v, true)) (a : lo ≤ v) (b : v ≤ hi) : inOf l lo hi = (v, true) := by
  unfold inOf; rw [h, if_pos ⟨rfl, a, b⟩]
theorem inOf_no (l : List UInt8) (v lo hi : Int) (h : numOf l = (v, true)) (a : v < lo ∨ hi < v) : inOf l lo hi = (0, false) := by
  unfold inOf; rw [h, if_neg (by rintro ⟨_, h1, h2⟩; simp only at h1 h2; omega)]
theorem inOf_none (l : List UInt8) (lo hi : Int) (h : numOf l = (0, false)) : inOf l lo hi = (0, false) := by
  unfold inOf; rw [h, if_neg (fun h => by cases h.1)]

set_option maxRecDepth 100000 in
set_option maxHeartbeats 4000000 in
/-- The whole law, once both readings are known. -/
theorem within_end (n lo hi v : Int) (b : Bool) (s : ByteArray) (p q : Int × Bool) (w : World) (hlen : ¬ 200 < s.size) (hg : Good w)
    (k1 : ∀ w, Calls Tryd.prog 9 #[.int .i64 n] w fun e w' => e = .returned (.string ⟨(Lib.itoa n).toArray⟩) ∧ w = w')
    (k2 : ∀ w, Good w → Calls Tryd.prog 10 #[.string ⟨(Lib.itoa n).toArray⟩, .int .i64 lo, .int .i64 hi] w fun e w' => e = .returned (.tuple #[.int .i64 p.1, .bool p.2]) ∧ Below w.heap.size w w')
    (k3 : ∀ w, Good w → Calls Tryd.prog 10 #[.string s, .int .i64 lo, .int .i64 hi] w fun e w' => e = .returned (.tuple #[.int .i64 q.1, .bool q.2]) ∧ Below w.heap.size w w')
    (k4 : ∀ w, Calls Tryd.prog 8 #[.string s] w fun e w' => e = .returned (.tuple #[.int .i64 v, .bool b]) ∧ w = w')
    (hp : (p = (n, true) ∧ lo ≤ n ∧ n ≤ hi) ∨ (p = (0, false) ∧ n < lo) ∨ (p = (0, false) ∧ lo ≤ n ∧ hi < n))
    (hq : (b = true ∧ q = (v, true) ∧ lo ≤ v ∧ v ≤ hi) ∨ (b = true ∧ q = (0, false) ∧ v < lo) ∨ (b = true ∧ q = (0, false) ∧ lo ≤ v ∧ hi < v) ∨ (b = false ∧ q = (0, false))) :
    Calls Tryd.prog 4 #[.int .i64 n, .int .i64 lo, .int .i64 hi, .string s] w fun e w' => e = .returned (.bool true) ∧ Below w.heap.size w w' := by
  have G := Lib.hid hg
  clear hg
  rcases hp with ⟨rfl, x1, x2⟩ | ⟨rfl, x1⟩ | ⟨rfl, x1, x2⟩ <;> rcases hq with ⟨rfl, rfl, y1, y2⟩ | ⟨rfl, rfl, y1⟩ | ⟨rfl, rfl, y1, y2⟩ | ⟨rfl, rfl⟩
  all_goals
    simp only at k2 k3
    have K1 := Lib.hid k1; have K2 := Lib.hid k2; have K3 := Lib.hid k3; have K4 := Lib.hid k4
    clear k1 k2 k3 k4
    go_enter Tryd.func4, Tryd.ntmps4
    go_wp2_with fail
    refine (alive2_any _ G.out).mono ?_
    rintro e w1 ⟨rfl, b⟩
    have B1 := Lib.hid b; clear b
    go_wp2_with fail
    refine (K1.out _).mono ?_
    rintro e w2 ⟨rfl, rfl⟩
    go_wp2_with fail
    refine (K2.out _ (G.out.below B1.out)).mono ?_
    rintro e w2 ⟨rfl, b⟩
    have B2 := Lib.hid (bl_trans B1.out b); clear b
    go_wp2_with fail
    refine (K3.out _ (G.out.below B2.out)).mono ?_
    rintro e w3 ⟨rfl, b⟩
    have B3 := Lib.hid (bl_trans B2.out b); clear b
    go_wp2_with fail
    refine (K4.out _).mono ?_
    rintro e w4 ⟨rfl, rfl⟩
    go_wp2
    go_ret
    exact ⟨rfl, B3.out⟩

theorem walkDecWithin (n lo hi : Int) (s : ByteArray) (h0 : (Lit.int .i64 n).wf = true) (h1 : (Lit.int .i64 lo).wf = true) (h2 : (Lit.int .i64 hi).wf = true) (hs : s.size ≤ 9223372036854775807) (w : World) (hg : Good w) :
    Calls Tryd.prog 4 #[.int .i64 n, .int .i64 lo, .int .i64 hi, .string s] w fun e w' => e = .returned (.bool true) ∧ Below w.heap.size w w' := by
  obtain ⟨n0, n1⟩ := bounds_i64 h0
  by_cases hlen : 200 < s.size
  · have G := Lib.hid hg
    clear hg
    go_enter Tryd.func4, Tryd.ntmps4
    go_wp2_with fail
    refine (alive2_any _ G.out).mono ?_
    rintro e w1 ⟨rfl, b1⟩
    have B1 := Lib.hid b1; clear b1
    go_wp2
    go_ret
    exact ⟨rfl, B1.out⟩
  · have sz := itoa_len n n0 n1
    have hn := numOf_itoa n n0 n1
    refine within_end n lo hi (numOf s.data.toList).1 (numOf s.data.toList).2 s (inOf (Lib.itoa n) lo hi) (inOf s.data.toList lo hi) w hlen hg (fun w => refPut_any n w n0 n1)
      (fun w h => within_any ⟨(Lib.itoa n).toArray⟩ lo hi w (by rw [str_size]; omega) h) (fun w h => within_any s lo hi w hs h) (fun w => refGet_any s w hs) ?_ ?_
    · by_cases a : n < lo
      · exact .inr (.inl ⟨inOf_no _ n lo hi hn (.inl a), a⟩)
      · by_cases b : hi < n
        · exact .inr (.inr ⟨inOf_no _ n lo hi hn (.inr b), by omega, b⟩)
        · exact .inl ⟨inOf_yes _ n lo hi hn (by omega) (by omega), by omega, by omega⟩
    · rcases numOf_cases s.data.toList with ⟨v, _, _, e⟩ | ⟨_, e⟩
      · have e1 : (numOf s.data.toList).1 = v := by rw [e]
        have e2 : (numOf s.data.toList).2 = true := by rw [e]
        rw [e1, e2]
        by_cases a : v < lo
        · exact .inr (.inl ⟨rfl, inOf_no _ v lo hi e (.inl a), a⟩)
        · by_cases b : hi < v
          · exact .inr (.inr (.inl ⟨rfl, inOf_no _ v lo hi e (.inr b), by omega, b⟩))
          · exact .inl ⟨rfl, inOf_yes _ v lo hi e (by omega) (by omega), by omega, by omega⟩
      · exact .inr (.inr (.inr ⟨by rw [e], inOf_none _ lo hi e⟩))
end Go.Proofs.YtgdfobiijnpmkaaDoor
