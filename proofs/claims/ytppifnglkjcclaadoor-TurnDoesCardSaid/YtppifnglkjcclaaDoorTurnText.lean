/- What dec.Put, turn.Text and turn.Find answer, for every number and every text, where the library's table of powers is as the program's text lays it. -/
import Derived.Test.YtppifnglkjcclaaDoorShelf
import Derived.Test.YtppifnglkjcclaaDoorTurnCode
import Derived.Lib.AppendIntMem
namespace Go.Proofs.YtppifnglkjcclaaDoor
open Go.Shelf
open Go.RowKit
set_option linter.unusedVariables false

/-- The library's table of powers is as the program's text lays it. -/
def Tab (w : World) : Prop := Lib.TabIs Tryd.prog w "internal/strconv.uint64pow10" .u64 Lib.pow10Tab
theorem var_below {P : Program} {w w' : World} {name : String} {cs : Array Value} (h : w.var? P name = some cs) (hb : Below w.heap.size w w') : w'.var? P name = some cs := by
  unfold World.var? at *
  cases hg : P.globalNamed name with
  | none => simp [hg] at h
  | some g =>
    simp only [hg, Option.bind_some] at h ⊢
    have hlt : g < w.heap.size := by
      rcases Nat.lt_or_ge g w.heap.size with h' | h'
      · exact h'
      · simp [Array.getElem?_eq_none h'] at h
    rw [hb.block g hlt]
    exact h
theorem Tab.below {w w' : World} (h : Tab w) (hb : Below w.heap.size w w') : Tab w' := var_below h hb

theorem put_any (n : Int) (w : World) (n0 : -9223372036854775808 ≤ n) (n1 : n ≤ 9223372036854775807) (hg : Tab w) :
    Calls Tryd.prog 21 #[.int .i64 n] w fun e w' => e = .returned (.string ⟨(Lib.itoa n).toArray⟩) ∧ Below w.heap.size w w' := by
  go_enter Tryd.func21, Tryd.ntmps21
  go_wp2_with fail
  refine (Tryd.strconv_Itoa n n0 n1 _ hg).mono ?_
  rintro e w' ⟨rfl, k, os, rfl⟩
  go_wp2
  go_ret
  exact ⟨rfl, Lib.below_grow _ _ (Nat.le_refl _) _ _⟩

/-- A turn's text, octet by octet. -/
def txt (t : Int) : List UInt8 := [if mir t = true then 109 else 114, if t % 4 = 0 then 48 else if t % 4 = 1 then 49 else if t % 4 = 2 then 50 else 51]
theorem itoa_few (q : Int) (h0 : 0 ≤ q) (h1 : q < 4) : Lib.itoa q = [if q = 0 then 48 else if q = 1 then 49 else if q = 2 then 50 else 51] := by
  obtain rfl | rfl | rfl | rfl : q = 0 ∨ q = 1 ∨ q = 2 ∨ q = 3 := by omega
  all_goals (rw [Lib.itoa, if_neg (by decide)]; exact Lib.decDigits_one (by decide))

theorem text_any (t : Int) (w : World) (hg : Tab w) :
    Calls Tryd.prog 17 #[.int .i64 t] w fun e w' => e = .returned (.string ⟨(txt t).toArray⟩) ∧ Below w.heap.size w w' := by
  have Q := fun w => quarters_any t w
  have M := fun w => mirrors_any t w
  have h0 : 0 ≤ t % 4 := by omega
  have h1 : t % 4 < 4 := by omega
  have P := fun w => put_any (t % 4) w (by omega) (by omega)
  rw [itoa_few _ h0 h1] at P
  unfold txt
  generalize (if t % 4 = 0 then 48 else if t % 4 = 1 then 49 else if t % 4 = 2 then 50 else 51 : UInt8) = c at *
  generalize t % 4 = q at *
  generalize mir t = m at *
  have HQ := Lib.hid Q; have HM := Lib.hid M; have HP := Lib.hid P; have G := Lib.hid hg
  clear Q M P hg
  cases m
  all_goals
    go_enter Tryd.func17, Tryd.ntmps17
    go_wp2_with (first
      | (go_at_call 18; refine (HQ.out _).mono ?_; rintro e w' ⟨rfl, rfl⟩)
      | (go_at_call 10; refine (HM.out _).mono ?_; rintro e w' ⟨rfl, rfl⟩)
      | (go_at_call 21; refine (HP.out _ G.out).mono ?_; rintro e w' ⟨rfl, hb⟩; have HB := Lib.hid hb; clear hb))
    go_ret
    exact ⟨rfl, HB.out⟩

theorem txt_apart (j k : Nat) (hj : j < 8) (hk : k < 8) (h : txt (j : Int) = txt (k : Int)) : j = k := by
  have : ∀ j : Fin 8, ∀ k : Fin 8, txt (j.val : Int) = txt (k.val : Int) → j.val = k.val := by decide +kernel
  exact this ⟨j, hj⟩ ⟨k, hk⟩ h
theorem bytes_list (s : ByteArray) : s.toList = s.data.toList := ByteArray.toList_eq s
def FindRel (M : Nat) (w : World) (t : Value) (wr : World) : Prop := ∃ k : Nat, k ≤ M ∧ t = .int .i64 (k : Int) ∧ ∃ u : Later w, wr = u.now

set_option maxRecDepth 100000 in
theorem find_yes (k : Nat) (hk : k < 8) (s : ByteArray) (hs : txt (k : Int) = s.data.toList) (w : World) (hg : Tab w) :
    Calls Tryd.prog 16 #[.string s] w fun e w' => e = .returned (.tuple #[.int .i64 (k : Int), .bool true]) ∧ Below w.heap.size w w' := by
  have G := Lib.hid hg
  have HS := Lib.hid hs
  clear hg hs
  go_enter Tryd.func16, Tryd.ntmps16
  go_wp2_with fail
  go_loopw [5] (fun t wr => FindRel k w t wr) (fun t _ => 8 - (intOf t).toNat)
  case atStart => exact ⟨0, by omega, by go_num, ⟨w, Below.refl _ _⟩, rfl⟩
  case round =>
    obtain ⟨j, hj, rfl, u, rfl⟩ := hrel
    have j8 : (j : Int) < 8 := by omega
    have K := text_any (j : Int) u.now (G.out.below u.up)
    by_cases hjk : j = k
    · subst hjk
      have h1 : (txt (j : Int) == s.toList) = true := by rw [bytes_list, HS.out]; simp
      generalize txt (j : Int) = l at *
      have HK := Lib.hid K
      clear K
      go_wp2_with fail
      refine HK.out.mono ?_
      rintro e w1 ⟨rfl, hb⟩
      have HB := Lib.hid (up_trans u.up hb)
      clear hb
      go_wp2
      go_ret2
      exact ⟨rfl, HB.out⟩
    · have h1 : (txt (j : Int) == s.toList) = false := by
        rw [bytes_list, ← HS.out]
        simp only [beq_eq_false_iff_ne, ne_eq]
        intro e
        exact hjk (txt_apart j k (by omega) hk e)
      generalize txt (j : Int) = l at *
      have HK := Lib.hid K
      clear K
      go_wp2_with fail
      refine HK.out.mono ?_
      rintro e w1 ⟨rfl, hb⟩
      have HB := Lib.hid (up_trans u.up hb)
      clear hb
      go_wp2_with fail
      go_roundw
      case rel => exact ⟨j + 1, by omega, by go_num, ⟨_, HB.out⟩, rfl⟩
      case measure => simp [intOf]; omega

set_option maxRecDepth 100000 in
theorem find_no (s : ByteArray) (hs : ∀ k : Nat, k < 8 → txt (k : Int) ≠ s.data.toList) (w : World) (hg : Tab w) :
    Calls Tryd.prog 16 #[.string s] w fun e w' => e = .returned (.tuple #[.int .i64 0, .bool false]) ∧ Below w.heap.size w w' := by
  have G := Lib.hid hg
  have HS := Lib.hid hs
  clear hg hs
  go_enter Tryd.func16, Tryd.ntmps16
  go_wp2_with fail
  go_loopw [5] (fun t wr => FindRel 8 w t wr) (fun t _ => 8 - (intOf t).toNat)
  case atStart => exact ⟨0, by omega, by go_num, ⟨w, Below.refl _ _⟩, rfl⟩
  case round =>
    obtain ⟨j, hj, rfl, u, rfl⟩ := hrel
    by_cases hj8 : j < 8
    · have j8 : (j : Int) < 8 := by omega
      have K := text_any (j : Int) u.now (G.out.below u.up)
      have h1 : (txt (j : Int) == s.toList) = false := by
        rw [bytes_list]
        simp only [beq_eq_false_iff_ne]
        exact HS.out j hj8
      generalize txt (j : Int) = l at *
      have HK := Lib.hid K
      clear K
      go_wp2_with fail
      refine HK.out.mono ?_
      rintro e w1 ⟨rfl, hb⟩
      have HB := Lib.hid (up_trans u.up hb)
      clear hb
      go_wp2_with fail
      go_roundw
      case rel => exact ⟨j + 1, by omega, by go_num, ⟨_, HB.out⟩, rfl⟩
      case measure => simp [intOf]; omega
    · obtain rfl : j = 8 := by omega
      go_wp2
      go_ret2
      exact ⟨rfl, u.up⟩
end Go.Proofs.YtppifnglkjcclaaDoor
