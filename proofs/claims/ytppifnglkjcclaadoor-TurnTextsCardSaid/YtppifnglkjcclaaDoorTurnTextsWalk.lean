/- The law TurnTexts answers true for every number and every text, where the library's table of powers is as the program's text lays it: each turn has a text, and no other text is one's. -/
import Derived.Test.YtppifnglkjcclaaDoorTurnAlive
import Derived.Test.YtppifnglkjcclaaDoorTurnLaid
import Derived.RowKit3
import Derived.OpenShut
namespace Go.Proofs.YtppifnglkjcclaaDoor
open Go.RowKit
set_option linter.unusedVariables false

theorem txt_mod (t : Int) : txt (t % 8) = txt t := by
  unfold txt mir
  rw [show t % 8 % 8 = t % 8 by omega, rem4]
theorem txt_two (t : Int) : (txt t).length = 2 := rfl

set_option maxRecDepth 100000 in
set_option maxHeartbeats 1000000 in
theorem texts_yes (t k : Int) (s : ByteArray) (hsz : s.size = 2) (q : Int) (l m : List UInt8) (hq : bits .and .i64 t 7 = q) (w : World) (hg : Tab w) (hl : l.length = 2) (hm : (m == s.toList) = true)
    (h2 : ((s[0]'(by omega)).toNat : Int) = 114 ∨ ((s[0]'(by omega)).toNat : Int) = 109) (h3 : (48 : Int) ≤ ((s[1]'(by omega)).toNat : Int)) (h4 : ((s[1]'(by omega)).toNat : Int) ≤ 51)
    (KT : ∀ w, Tab w → Calls Tryd.prog 17 #[.int .i64 t] w fun e w' => e = .returned (.string ⟨l.toArray⟩) ∧ Below w.heap.size w w')
    (KF : ∀ w, Tab w → Calls Tryd.prog 16 #[.string ⟨l.toArray⟩] w fun e w' => e = .returned (.tuple #[.int .i64 q, .bool true]) ∧ Below w.heap.size w w')
    (KS : ∀ w, Tab w → Calls Tryd.prog 16 #[.string s] w fun e w' => e = .returned (.tuple #[.int .i64 k, .bool true]) ∧ Below w.heap.size w w')
    (KU : ∀ w, Tab w → Calls Tryd.prog 17 #[.int .i64 k] w fun e w' => e = .returned (.string ⟨m.toArray⟩) ∧ Below w.heap.size w w') :
    Calls Tryd.prog 5 #[.int .i64 t, .string s] w fun e w' => e = .returned (.bool true) ∧ Below w.heap.size w w' := by
  have HT := Lib.hid KT; have HF := Lib.hid KF; have HS := Lib.hid KS; have HU := Lib.hid KU; have G := Lib.hid hg
  clear KT KF KS KU hg
  obtain ⟨y, hy⟩ : ∃ y : Int, ((s[1]'(by omega)).toNat : Int) = y := ⟨_, rfl⟩
  rw [hy] at h3 h4
  rcases h2 with h2 | h2
  all_goals
    go_enter Tryd.func5, Tryd.ntmps5
    go_wp2_with fail
    refine (alive_any _ G.out).mono ?_
    rintro e w1 ⟨rfl, hb⟩
    have B1 := Lib.hid hb; clear hb
    go_wp2_with fail
    refine (HT.out _ (G.out.below B1.out)).mono ?_
    rintro e w2 ⟨rfl, hb⟩
    have B2 := Lib.hid (up_trans B1.out hb); clear hb
    go_wp2_with fail
    refine (HF.out _ (G.out.below B2.out)).mono ?_
    rintro e w3 ⟨rfl, hb⟩
    have B3 := Lib.hid (up_trans B2.out hb); clear hb
    go_wp2_with fail
    refine (HS.out _ (G.out.below B3.out)).mono ?_
    rintro e w4 ⟨rfl, hb⟩
    have B4 := Lib.hid (up_trans B3.out hb); clear hb
    go_wp2_with fail
    refine (HU.out _ (G.out.below B4.out)).mono ?_
    rintro e w5 ⟨rfl, hb⟩
    have B5 := Lib.hid (up_trans B4.out hb); clear hb
    go_wp2_with fail
    refine (HT.out _ (G.out.below B5.out)).mono ?_
    rintro e w6 ⟨rfl, hb⟩
    have B6 := Lib.hid (up_trans B5.out hb); clear hb
    go_wp2
    go_ret
    exact ⟨rfl, B6.out⟩

set_option maxRecDepth 100000 in
set_option maxHeartbeats 1000000 in
theorem texts_no (t : Int) (s : ByteArray) (q : Int) (l : List UInt8) (hq : bits .and .i64 t 7 = q) (w : World) (hg : Tab w) (hl : l.length = 2)
    (hno : ∀ h : s.size = 2, (((s[0]'(by omega)).toNat : Int) = 114 ∨ ((s[0]'(by omega)).toNat : Int) = 109) → (48 : Int) ≤ ((s[1]'(by omega)).toNat : Int) → (51 : Int) < ((s[1]'(by omega)).toNat : Int))
    (KT : ∀ w, Tab w → Calls Tryd.prog 17 #[.int .i64 t] w fun e w' => e = .returned (.string ⟨l.toArray⟩) ∧ Below w.heap.size w w')
    (KF : ∀ w, Tab w → Calls Tryd.prog 16 #[.string ⟨l.toArray⟩] w fun e w' => e = .returned (.tuple #[.int .i64 q, .bool true]) ∧ Below w.heap.size w w')
    (KS : ∀ w, Tab w → Calls Tryd.prog 16 #[.string s] w fun e w' => e = .returned (.tuple #[.int .i64 0, .bool false]) ∧ Below w.heap.size w w') :
    Calls Tryd.prog 5 #[.int .i64 t, .string s] w fun e w' => e = .returned (.bool true) ∧ Below w.heap.size w w' := by
  have HT := Lib.hid KT; have HF := Lib.hid KF; have HS := Lib.hid KS; have G := Lib.hid hg
  clear KT KF KS hg
  by_cases hsz : s.size = 2
  · obtain ⟨y, hy⟩ : ∃ y : Int, ((s[1]'(by omega)).toNat : Int) = y := ⟨_, rfl⟩
    have hno := hno hsz
    rw [hy] at hno
    by_cases hx : ((s[0]'(by omega)).toNat : Int) = 114
    · have hno := hno (.inl hx)
      by_cases h3 : 48 ≤ y
      · have h4 := hno h3
        clear hno
        go_enter Tryd.func5, Tryd.ntmps5
        go_wp2_with fail
        refine (alive_any _ G.out).mono ?_
        rintro e w1 ⟨rfl, hb⟩
        have B1 := Lib.hid hb; clear hb
        go_wp2_with fail
        refine (HT.out _ (G.out.below B1.out)).mono ?_
        rintro e w2 ⟨rfl, hb⟩
        have B2 := Lib.hid (up_trans B1.out hb); clear hb
        go_wp2_with fail
        refine (HF.out _ (G.out.below B2.out)).mono ?_
        rintro e w3 ⟨rfl, hb⟩
        have B3 := Lib.hid (up_trans B2.out hb); clear hb
        go_wp2_with fail
        refine (HS.out _ (G.out.below B3.out)).mono ?_
        rintro e w4 ⟨rfl, hb⟩
        have B4 := Lib.hid (up_trans B3.out hb); clear hb
        go_wp2_with fail
        refine (HT.out _ (G.out.below B4.out)).mono ?_
        rintro e w6 ⟨rfl, hb⟩
        have B6 := Lib.hid (up_trans B4.out hb); clear hb
        go_wp2
        go_ret
        exact ⟨rfl, B6.out⟩
      · clear hno
        go_enter Tryd.func5, Tryd.ntmps5
        go_wp2_with fail
        refine (alive_any _ G.out).mono ?_
        rintro e w1 ⟨rfl, hb⟩
        have B1 := Lib.hid hb; clear hb
        go_wp2_with fail
        refine (HT.out _ (G.out.below B1.out)).mono ?_
        rintro e w2 ⟨rfl, hb⟩
        have B2 := Lib.hid (up_trans B1.out hb); clear hb
        go_wp2_with fail
        refine (HF.out _ (G.out.below B2.out)).mono ?_
        rintro e w3 ⟨rfl, hb⟩
        have B3 := Lib.hid (up_trans B2.out hb); clear hb
        go_wp2_with fail
        refine (HS.out _ (G.out.below B3.out)).mono ?_
        rintro e w4 ⟨rfl, hb⟩
        have B4 := Lib.hid (up_trans B3.out hb); clear hb
        go_wp2_with fail
        refine (HT.out _ (G.out.below B4.out)).mono ?_
        rintro e w6 ⟨rfl, hb⟩
        have B6 := Lib.hid (up_trans B4.out hb); clear hb
        go_wp2
        go_ret
        exact ⟨rfl, B6.out⟩
    · by_cases hx2 : ((s[0]'(by omega)).toNat : Int) = 109
      · have hno := hno (.inr hx2)
        clear hx
        by_cases h3 : 48 ≤ y
        · have h4 := hno h3
          clear hno
          go_enter Tryd.func5, Tryd.ntmps5
          go_wp2_with fail
          refine (alive_any _ G.out).mono ?_
          rintro e w1 ⟨rfl, hb⟩
          have B1 := Lib.hid hb; clear hb
          go_wp2_with fail
          refine (HT.out _ (G.out.below B1.out)).mono ?_
          rintro e w2 ⟨rfl, hb⟩
          have B2 := Lib.hid (up_trans B1.out hb); clear hb
          go_wp2_with fail
          refine (HF.out _ (G.out.below B2.out)).mono ?_
          rintro e w3 ⟨rfl, hb⟩
          have B3 := Lib.hid (up_trans B2.out hb); clear hb
          go_wp2_with fail
          refine (HS.out _ (G.out.below B3.out)).mono ?_
          rintro e w4 ⟨rfl, hb⟩
          have B4 := Lib.hid (up_trans B3.out hb); clear hb
          go_wp2_with fail
          refine (HT.out _ (G.out.below B4.out)).mono ?_
          rintro e w6 ⟨rfl, hb⟩
          have B6 := Lib.hid (up_trans B4.out hb); clear hb
          go_wp2
          go_ret
          exact ⟨rfl, B6.out⟩
        · clear hno
          go_enter Tryd.func5, Tryd.ntmps5
          go_wp2_with fail
          refine (alive_any _ G.out).mono ?_
          rintro e w1 ⟨rfl, hb⟩
          have B1 := Lib.hid hb; clear hb
          go_wp2_with fail
          refine (HT.out _ (G.out.below B1.out)).mono ?_
          rintro e w2 ⟨rfl, hb⟩
          have B2 := Lib.hid (up_trans B1.out hb); clear hb
          go_wp2_with fail
          refine (HF.out _ (G.out.below B2.out)).mono ?_
          rintro e w3 ⟨rfl, hb⟩
          have B3 := Lib.hid (up_trans B2.out hb); clear hb
          go_wp2_with fail
          refine (HS.out _ (G.out.below B3.out)).mono ?_
          rintro e w4 ⟨rfl, hb⟩
          have B4 := Lib.hid (up_trans B3.out hb); clear hb
          go_wp2_with fail
          refine (HT.out _ (G.out.below B4.out)).mono ?_
          rintro e w6 ⟨rfl, hb⟩
          have B6 := Lib.hid (up_trans B4.out hb); clear hb
          go_wp2
          go_ret
          exact ⟨rfl, B6.out⟩
      · clear hno
        obtain ⟨x, hxx⟩ : ∃ x : Int, ((s[0]'(by omega)).toNat : Int) = x := ⟨_, rfl⟩
        rw [hxx] at hx hx2
        have e1 : (x == 114) = false := by simpa using hx
        have e2 : (x == 109) = false := by simpa using hx2
        clear hx hx2
        go_enter Tryd.func5, Tryd.ntmps5
        go_wp2_with fail
        refine (alive_any _ G.out).mono ?_
        rintro e w1 ⟨rfl, hb⟩
        have B1 := Lib.hid hb; clear hb
        go_wp2_with fail
        refine (HT.out _ (G.out.below B1.out)).mono ?_
        rintro e w2 ⟨rfl, hb⟩
        have B2 := Lib.hid (up_trans B1.out hb); clear hb
        go_wp2_with fail
        refine (HF.out _ (G.out.below B2.out)).mono ?_
        rintro e w3 ⟨rfl, hb⟩
        have B3 := Lib.hid (up_trans B2.out hb); clear hb
        go_wp2_with fail
        refine (HS.out _ (G.out.below B3.out)).mono ?_
        rintro e w4 ⟨rfl, hb⟩
        have B4 := Lib.hid (up_trans B3.out hb); clear hb
        go_wp2_with fail
        refine (HT.out _ (G.out.below B4.out)).mono ?_
        rintro e w6 ⟨rfl, hb⟩
        have B6 := Lib.hid (up_trans B4.out hb); clear hb
        go_wp2
        go_ret
        exact ⟨rfl, B6.out⟩
  · clear hno
    have e : ((s.size : Int) == 2) = false := by simp; omega
    go_enter Tryd.func5, Tryd.ntmps5
    go_wp2_with fail
    refine (alive_any _ G.out).mono ?_
    rintro e w1 ⟨rfl, hb⟩
    have B1 := Lib.hid hb; clear hb
    go_wp2_with fail
    refine (HT.out _ (G.out.below B1.out)).mono ?_
    rintro e w2 ⟨rfl, hb⟩
    have B2 := Lib.hid (up_trans B1.out hb); clear hb
    go_wp2_with fail
    refine (HF.out _ (G.out.below B2.out)).mono ?_
    rintro e w3 ⟨rfl, hb⟩
    have B3 := Lib.hid (up_trans B2.out hb); clear hb
    go_wp2_with fail
    refine (HS.out _ (G.out.below B3.out)).mono ?_
    rintro e w4 ⟨rfl, hb⟩
    have B4 := Lib.hid (up_trans B3.out hb); clear hb
    go_wp2_with fail
    refine (HT.out _ (G.out.below B4.out)).mono ?_
    rintro e w6 ⟨rfl, hb⟩
    have B6 := Lib.hid (up_trans B4.out hb); clear hb
    go_wp2
    go_ret
    exact ⟨rfl, B6.out⟩

theorem two_of (ls : List UInt8) (h : ls.length = 2) : ∃ x y, ls = [x, y] := by
  match ls, h with
  | [x, y], _ => exact ⟨x, y, rfl⟩
theorem u8_of (x : UInt8) (n : Nat) (hn : n < 256) (h : x.toNat = n) : x = UInt8.ofNat n := by
  apply UInt8.toNat_inj.1
  rw [h]
  simp
  omega
theorem eight {P : Nat → Prop} (h0 : P 0) (h1 : P 1) (h2 : P 2) (h3 : P 3) (h4 : P 4) (h5 : P 5) (h6 : P 6) (h7 : P 7) (k : Nat) (hk : k < 8) : P k := by
  match k, hk with
  | 0, _ => exact h0
  | 1, _ => exact h1
  | 2, _ => exact h2
  | 3, _ => exact h3
  | 4, _ => exact h4
  | 5, _ => exact h5
  | 6, _ => exact h6
  | 7, _ => exact h7
theorem txt_in (k : Nat) (hk : k < 8) : ∃ x y : UInt8, txt (k : Int) = [x, y] ∧ (x.toNat = 114 ∨ x.toNat = 109) ∧ 48 ≤ y.toNat ∧ y.toNat ≤ 51 :=
  eight (P := fun k => ∃ x y : UInt8, txt (k : Int) = [x, y] ∧ (x.toNat = 114 ∨ x.toNat = 109) ∧ 48 ≤ y.toNat ∧ y.toNat ≤ 51)
    ⟨114, 48, by decide +kernel⟩ ⟨114, 49, by decide +kernel⟩ ⟨114, 50, by decide +kernel⟩ ⟨114, 51, by decide +kernel⟩ ⟨109, 48, by decide +kernel⟩ ⟨109, 49, by decide +kernel⟩ ⟨109, 50, by decide +kernel⟩ ⟨109, 51, by decide +kernel⟩ k hk
theorem txt_of (x y : UInt8) (hx : x.toNat = 114 ∨ x.toNat = 109) (h0 : 48 ≤ y.toNat) (h1 : y.toNat ≤ 51) : ∃ k : Nat, k < 8 ∧ txt (k : Int) = [x, y] := by
  have hy : y.toNat = 48 ∨ y.toNat = 49 ∨ y.toNat = 50 ∨ y.toNat = 51 := by omega
  rcases hx with hx | hx <;> rcases hy with hy | hy | hy | hy
  all_goals rw [u8_of x _ (by decide) hx, u8_of y _ (by decide) hy]
  · exact ⟨0, by decide +kernel⟩
  · exact ⟨1, by decide +kernel⟩
  · exact ⟨2, by decide +kernel⟩
  · exact ⟨3, by decide +kernel⟩
  · exact ⟨4, by decide +kernel⟩
  · exact ⟨5, by decide +kernel⟩
  · exact ⟨6, by decide +kernel⟩
  · exact ⟨7, by decide +kernel⟩

theorem walkTurnTexts (t : Int) (s : ByteArray) (h0 : (Lit.int .i64 t).wf = true) (hs : s.size ≤ 9223372036854775807) (w : World) (hg : Tab w) :
    Calls Tryd.prog 5 #[.int .i64 t, .string s] w fun e w' => e = .returned (.bool true) ∧ Below w.heap.size w w' := by
  have KF : ∀ w, Tab w → Calls Tryd.prog 16 #[.string ⟨(txt t).toArray⟩] w fun e w' => e = .returned (.tuple #[.int .i64 (t % 8), .bool true]) ∧ Below w.heap.size w w' := by
    intro w hw
    have := find_yes (t % 8).toNat (by omega) ⟨(txt t).toArray⟩ (by rw [show (((t % 8).toNat : Nat) : Int) = t % 8 by omega, txt_mod]) w hw
    rwa [show (((t % 8).toNat : Nat) : Int) = t % 8 by omega] at this
  by_cases h : ∃ k : Nat, k < 8 ∧ txt (k : Int) = s.data.toList
  · obtain ⟨k, hk, e⟩ := h
    obtain ⟨x, y, e2, hx, hy0, hy1⟩ := txt_in k hk
    obtain ⟨⟨ls⟩⟩ := s
    have el : ls = [x, y] := by rw [← e2]; exact e.symm
    subst el
    refine texts_yes t (k : Int) ⟨⟨[x, y]⟩⟩ rfl (t % 8) (txt t) (txt (k : Int)) (and7 t) w hg (txt_two t) ?_ ?_ ?_ ?_ (fun w hw => text_any t w hw) KF (fun w hw => find_yes k hk _ e w hw) (fun w hw => text_any (k : Int) w hw)
    · rw [bytes_list, e2]; simp
    · show ((x.toNat : Nat) : Int) = 114 ∨ ((x.toNat : Nat) : Int) = 109
      omega
    · show (48 : Int) ≤ ((y.toNat : Nat) : Int)
      omega
    · show ((y.toNat : Nat) : Int) ≤ 51
      omega
  · refine texts_no t s (t % 8) (txt t) (and7 t) w hg (txt_two t) ?_ (fun w hw => text_any t w hw) KF (fun w hw => find_no s (fun k hk e => h ⟨k, hk, e⟩) w hw)
    obtain ⟨⟨ls⟩⟩ := s
    intro hsz
    obtain ⟨x, y, rfl⟩ := two_of ls hsz
    intro hx hy
    have hx : ((x.toNat : Nat) : Int) = 114 ∨ ((x.toNat : Nat) : Int) = 109 := hx
    have hy : (48 : Int) ≤ ((y.toNat : Nat) : Int) := hy
    show (51 : Int) < ((y.toNat : Nat) : Int)
    rcases Int.lt_or_le 51 ((y.toNat : Nat) : Int) with hc | hc
    · exact hc
    · exact absurd (txt_of x y (by omega) (by omega) (by omega)) h
end Go.Proofs.YtppifnglkjcclaaDoor
