/- What the document's own Names, plans, words and Plain answer: for every text. -/
import Derived.Test.YtaphkplidnepaaaDoorSchemeRead
import Derived.Test.YtaphkplidnepaaaDoorSchemeCat
import Derived.Test.YtaphkplidnepaaaDoorSchemeNames
import Derived.Test.YtaphkplidnepaaaDoorLexRefFields
import Derived.Test.YtaphkplidnepaaaDoorStepRef
namespace Go.Proofs.YtaphkplidnepaaaDoor
open Go.RowKit DecMath
set_option linter.unusedVariables false

theorem cells_texts (w : World) (ls : List (List UInt8)) (hm : ls.length ≤ 1000000) : TxS (w.alloc (.cells (ls.map fun l => Value.string (tx l)).toArray 9)) (.slice (some ⟨w.heap.size, 0, none⟩) ls.length ls.length) ls := by
  refine ⟨_, _, rfl, .inr ⟨w.heap.size, rfl, fun i l hi => ?_, Nat.le_refl _, by unfold maxLen; omega⟩⟩
  have hc : (w.alloc (.cells (ls.map fun l => Value.string (tx l)).toArray 9)).heap[w.heap.size]? = some (.cells (ls.map fun l => Value.string (tx l)).toArray 9 (0, 0)) := heap_alloc_new w _
  unfold World.cell?
  simp only [hc]
  simp [hi]
def plansL : List (List UInt8) := catS.map fun e => joinM (partsC e.2)

set_option maxHeartbeats 1000000 in
set_option maxRecDepth 100000 in
theorem refNames_any (w : World) : Calls Tryd.prog 14 #[] w fun e w' => ∃ v, e = .returned v ∧ TxS w' v namesL ∧ Below w.heap.size w w' := by
  go_enter Tryd.func14, Tryd.ntmps14
  go_wp2
  go_ret
  exact ⟨_, rfl, cells_texts w namesL (by decide), up_alloc (Below.refl _ _) _⟩
set_option maxHeartbeats 1000000 in
set_option maxRecDepth 100000 in
theorem refPlans_any (w : World) : Calls Tryd.prog 35 #[] w fun e w' => ∃ v, e = .returned v ∧ TxS w' v plansL ∧ Below w.heap.size w w' := by
  go_enter Tryd.func35, Tryd.ntmps35
  go_wp2
  go_ret
  exact ⟨_, rfl, cells_texts w plansL (by decide +kernel), up_alloc (Below.refl _ _) _⟩

theorem refWords_any (s : ByteArray) (w : World) (hs : s.size ≤ 999999) : Calls Tryd.prog 47 #[.string s] w fun e w' => ∃ v, e = .returned v ∧ TxS w' v ((fieldsL s.data.toList).getD []) ∧ Below w.heap.size w w' := by
  have K := Lib.hid (refFields_any s w hs)
  go_enter Tryd.func47, Tryd.ntmps47
  go_wp2_with fail
  refine K.out.mono ?_
  rintro e w1 ⟨v, rfl, hv, hb⟩
  have HV := Lib.hid hv; have HB := Lib.hid hb
  clear hv hb
  go_wp2
  go_ret
  exact ⟨v, rfl, HV.out, HB.out⟩

theorem refPlain_len (X : ByteArray) (ls : List (List UInt8)) (w : World) (h : ls.length = 0 ∨ 7 < ls.length) (hl : ls.length ≤ 1000001)
    (KW : ∀ w, Calls Tryd.prog 47 #[.string X] w fun e w' => ∃ v, e = .returned v ∧ TxS w' v ls ∧ Below w.heap.size w w') :
    Calls Tryd.prog 34 #[.string X] w (GivesS none w) := by
  have HW := Lib.hid KW
  clear KW
  obtain ⟨n, hn⟩ : ∃ n, ls.length = n := ⟨_, rfl⟩
  rw [hn] at h hl
  rcases h with rfl | h7
  · go_enter Tryd.func34, Tryd.ntmps34
    go_wp2_with fail
    refine (HW.out _).mono ?_
    rintro e w1 ⟨v, rfl, hv, hb⟩
    obtain ⟨a, c, rfl, hA⟩ := hv.arg
    have A1 := ((Bx.new w 24 [.int .i64 0, .int .i64 0, .slice none 0 0]).up hb).alloc (.cells #[.int .i64 0, .int .i64 0, .slice none 0 0] 24)
    have B1 := Lib.hid (up_alloc (up_trans (up_alloc (Below.refl _ w) _) hb) (.cells #[.int .i64 0, .int .i64 0, .slice none 0 0] 24))
    have a0 := A1.cell 0 rfl; have a1 := A1.cell 1 rfl; have a2 := A1.cell 2 rfl; have af := A1.free
    clear hv hA hb A1
    go_wp2
    refine bodyPost_ret (v := .tuple #[.agg #[.int .i64 0, .int .i64 0, .slice none 0 0], .bool false]) (by simp [results, Tryd.results34, go_sem, a0, a1, a2]) rfl (gives_none ?_)
    have B3 := B1.out
    repeat (first | (with_reducible exact B3) | (with_reducible refine up_set ?_ (by simp only; omega) _))
  · have z0 : ((n : Int) == 0) = false := by simp; omega
    have z7 : (7 : Int) < (n : Int) := by omega
    go_enter Tryd.func34, Tryd.ntmps34
    go_wp2_with fail
    refine (HW.out _).mono ?_
    rintro e w1 ⟨v, rfl, hv, hb⟩
    obtain ⟨a, c, rfl, hA⟩ := hv.arg
    have A1 := ((Bx.new w 24 [.int .i64 0, .int .i64 0, .slice none 0 0]).up hb).alloc (.cells #[.int .i64 0, .int .i64 0, .slice none 0 0] 24)
    have B1 := Lib.hid (up_alloc (up_trans (up_alloc (Below.refl _ w) _) hb) (.cells #[.int .i64 0, .int .i64 0, .slice none 0 0] 24))
    have a0 := A1.cell 0 rfl; have a1 := A1.cell 1 rfl; have a2 := A1.cell 2 rfl; have af := A1.free
    clear hv hA hb A1
    go_wp2
    refine bodyPost_ret (v := .tuple #[.agg #[.int .i64 0, .int .i64 0, .slice none 0 0], .bool false]) (by simp [results, Tryd.results34, go_sem, a0, a1, a2]) rfl (gives_none ?_)
    have B3 := B1.out
    repeat (first | (with_reducible exact B3) | (with_reducible refine up_set ?_ (by simp only; omega) _))

/-- The first x of a text stands at k0; there is none: k0 is its length. -/
def FirstX (s : ByteArray) (k0 : Nat) : Prop := k0 ≤ s.size ∧ ∀ k (h : k < s.size), k < k0 → ((((s[k].toNat : Nat) : Int)) != 120) = true

set_option maxRecDepth 100000 in
set_option maxHeartbeats 2000000 in
theorem refPlain_nox (X H : ByteArray) (x : List UInt8) (t : List (List UInt8)) (w : World) (hn7 : t.length ≤ 6) (hH : tx x = H) (hx : FirstX H H.size) (hz : H.size ≤ 1000000)
    (KW : ∀ w, Calls Tryd.prog 47 #[.string X] w fun e w' => ∃ v, e = .returned v ∧ TxS w' v (x :: t) ∧ Below w.heap.size w w') :
    Calls Tryd.prog 34 #[.string X] w (GivesS none w) := by
  have HW := Lib.hid KW; have HX := Lib.hid hx; have HHH := Lib.hid hH
  clear KW hx hH
  obtain ⟨n, hn⟩ : ∃ n, (x :: t).length = n := ⟨_, rfl⟩
  have z0 : ((n : Int) == 0) = false := by simp; rw [← hn]; simp
  have z7 : decide ((7 : Int) < (n : Int)) = false := by simp; rw [← hn]; simp; omega
  have n0 : 0 < n := by rw [← hn]; simp
  go_enter Tryd.func34, Tryd.ntmps34
  go_wp2_with fail
  refine (HW.out _).mono ?_
  rintro e w1 ⟨v, rfl, hv, hb⟩
  obtain ⟨a, c, rfl, hA⟩ := hv.arg
  obtain ⟨g, o, rfl, hc, hcap, hmax⟩ := hA.resolve_left (by simp)
  have c0 := hc 0 x rfl
  rw [HHH.out, Nat.add_zero] at c0
  rw [hn] at hcap ⊢
  have hTS := fun i l (hi : t[i]? = some l) => hc (i + 1) l (by simpa using hi)
  have HTS := Lib.hid hTS
  have hRB := Bx.new w 24 [.int .i64 0, .int .i64 0, .slice none 0 0]
  have A1 := (hRB.up hb).alloc (.cells #[.int .i64 0, .int .i64 0, .slice none 0 0] 24)
  have A9 := Lib.hid (hRB.up hb)
  have hbw := up_trans (up_alloc (Below.refl _ w) _) hb
  have B9 := Lib.hid hbw
  have B1 := Lib.hid (up_alloc hbw (.cells #[.int .i64 0, .int .i64 0, .slice none 0 0] 24))
  have c1 := bl_cell (up_alloc (Below.refl _ w1) (.cells #[.int .i64 0, .int .i64 0, .slice none 0 0] 24)) c0
  have a0 := A1.cell 0 rfl; have a1 := A1.cell 1 rfl; have a2 := A1.cell 2 rfl; have af := A1.free
  have N0 := Lib.hid hn
  clear hv hA hb A1 hc hn hTS hbw hRB
  go_wp2
  go_loopw [6] (fun i wr => ∃ k : Nat, k ≤ H.size ∧ i = .int .i64 (k : Int) ∧ wr = w1.alloc (.cells #[.int .i64 0, .int .i64 0, .slice none 0 0] 24)) (fun i _ => H.size - (intOf i).toNat)
  case atStart => exact ⟨0, Nat.zero_le _, by go_num, rfl⟩
  case round =>
    obtain ⟨k, hk, rfl, rfl⟩ := hrel
    by_cases hlt : k < H.size
    · have hzk := HX.out.1
      have hxk := HX.out.2 k (by omega) hlt
      obtain ⟨q, hq⟩ : ∃ q : Int, ((H[k].toNat : Nat) : Int) = q := ⟨_, rfl⟩
      rw [hq] at hxk
      have z1 : (k : Int) < (H.size : Int) := by omega
      go_wp2
      go_roundw
      case rel => exact ⟨k + 1, by omega, by go_num, by trivial⟩
      case measure => simp [intOf]; omega
    · have hk2 : k = H.size := by omega
      go_wp2
      refine bodyPost_ret (v := .tuple #[.agg #[.int .i64 0, .int .i64 0, .slice none 0 0], .bool false]) (by simp [results, Tryd.results34, go_sem, a0, a1, a2]) rfl (gives_none ?_)
      have B3 := B1.out
      repeat (first | (with_reducible exact B3) | (with_reducible refine up_set ?_ (by simp only; omega) _))

set_option maxRecDepth 100000 in
set_option maxHeartbeats 4000000 in
theorem refPlain_sides (X H : ByteArray) (x : List UInt8) (t : List (List UInt8)) (w : World) (hn7 : t.length ≤ 6) (hH : tx x = H) (k0 : Nat) (hk0 : k0 < H.size) (h120 : ((H[k0].toNat : Nat) : Int) = 120) (hx : FirstX H k0) (hz : H.size ≤ 1000000) (P Q : ByteArray) (hP : H.extract 0 k0 = P) (hQ : ∀ w, (Instr.slice 9 (.string H) (some (.int .i64 ((k0 : Int) + 1))) none none).run Tryd.prog w = .ok (.string Q) w) (c r : Int) (u1 u2 v1 v2 : Bool) (hbad : u1 = false ∨ u2 = false ∨ v1 = false ∨ v2 = false)
    (KP : ∀ w, Calls Tryd.prog 48 #[.string P] w fun e w' => e = .returned (.tuple #[.int .i64 c, .bool u1]) ∧ w = w')
    (KQ : ∀ w, Calls Tryd.prog 48 #[.string Q] w fun e w' => e = .returned (.tuple #[.int .i64 r, .bool u2]) ∧ w = w')
    (KC : ∀ w, Calls Tryd.prog 28 #[.int .i64 c, .int .i64 1, .int .i64 64] w fun e w' => e = .returned (.bool v1) ∧ w' = w)
    (KR : ∀ w, Calls Tryd.prog 28 #[.int .i64 r, .int .i64 1, .int .i64 64] w fun e w' => e = .returned (.bool v2) ∧ w' = w)
    (KW : ∀ w, Calls Tryd.prog 47 #[.string X] w fun e w' => ∃ v, e = .returned v ∧ TxS w' v (x :: t) ∧ Below w.heap.size w w') :
    Calls Tryd.prog 34 #[.string X] w (GivesS none w) := by
  have HP := Lib.hid KP; have HQ := Lib.hid KQ; have HC := Lib.hid KC; have HR := Lib.hid KR
  clear KP KQ KC KR
  have z1 : (k0 : Int) < (H.size : Int) := by omega
  cases u1
  · clear hbad
    have HW := Lib.hid KW; have HX := Lib.hid hx; have HHH := Lib.hid hH
    clear KW hx hH
    obtain ⟨n, hn⟩ : ∃ n, (x :: t).length = n := ⟨_, rfl⟩
    have z0 : ((n : Int) == 0) = false := by simp; rw [← hn]; simp
    have z7 : decide ((7 : Int) < (n : Int)) = false := by simp; rw [← hn]; simp; omega
    have n0 : 0 < n := by rw [← hn]; simp
    go_enter Tryd.func34, Tryd.ntmps34
    go_wp2_with fail
    refine (HW.out _).mono ?_
    rintro e w1 ⟨v, rfl, hv, hb⟩
    obtain ⟨a, c, rfl, hA⟩ := hv.arg
    obtain ⟨g, o, rfl, hc, hcap, hmax⟩ := hA.resolve_left (by simp)
    have c0 := hc 0 x rfl
    rw [HHH.out, Nat.add_zero] at c0
    rw [hn] at hcap ⊢
    have hTS := fun i l (hi : t[i]? = some l) => hc (i + 1) l (by simpa using hi)
    have HTS := Lib.hid hTS
    have hRB := Bx.new w 24 [.int .i64 0, .int .i64 0, .slice none 0 0]
    have A1 := (hRB.up hb).alloc (.cells #[.int .i64 0, .int .i64 0, .slice none 0 0] 24)
    have A9 := Lib.hid (hRB.up hb)
    have hbw := up_trans (up_alloc (Below.refl _ w) _) hb
    have B9 := Lib.hid hbw
    have B1 := Lib.hid (up_alloc hbw (.cells #[.int .i64 0, .int .i64 0, .slice none 0 0] 24))
    have c1 := bl_cell (up_alloc (Below.refl _ w1) (.cells #[.int .i64 0, .int .i64 0, .slice none 0 0] 24)) c0
    have a0 := A1.cell 0 rfl; have a1 := A1.cell 1 rfl; have a2 := A1.cell 2 rfl; have af := A1.free
    have N0 := Lib.hid hn
    clear hv hA hb A1 hc hn hTS hbw hRB
    go_wp2
    go_loopw [6] (fun i wr => ∃ k : Nat, k ≤ k0 ∧ i = .int .i64 (k : Int) ∧ wr = w1.alloc (.cells #[.int .i64 0, .int .i64 0, .slice none 0 0] 24)) (fun i _ => k0 - (intOf i).toNat)
    case atStart => exact ⟨0, Nat.zero_le _, by go_num, rfl⟩
    case round =>
      obtain ⟨k, hk, rfl, rfl⟩ := hrel
      by_cases hlt : k < k0
      · have hzk := HX.out.1
        have hxk := HX.out.2 k (by omega) hlt
        obtain ⟨q, hq⟩ : ∃ q : Int, ((H[k].toNat : Nat) : Int) = q := ⟨_, rfl⟩
        rw [hq] at hxk
        have z1 : (k : Int) < (H.size : Int) := by omega
        go_wp2
        go_roundw
        case rel => exact ⟨k + 1, by omega, by go_num, by trivial⟩
        case measure => simp [intOf]; omega
      · obtain rfl : k = k0 := by omega
        go_wp2_with (first
          | (go_at_call 48; with_reducible refine (HP.out _).mono ?_; rintro e w' ⟨rfl, rfl⟩)
          | (go_at_call 48; with_reducible refine (HQ.out _).mono ?_; rintro e w' ⟨rfl, rfl⟩)
          | (go_at_call 28; with_reducible refine (HC.out _).mono ?_; rintro e w' ⟨rfl, rfl⟩)
          | (go_at_call 28; with_reducible refine (HR.out _).mono ?_; rintro e w' ⟨rfl, rfl⟩))
        refine bodyPost_ret (v := .tuple #[.agg #[.int .i64 0, .int .i64 0, .slice none 0 0], .bool false]) (by simp [results, Tryd.results34, go_sem, a0, a1, a2]) rfl (gives_none ?_)
        have B3 := B1.out
        repeat (first | (with_reducible exact B3) | (with_reducible refine up_set ?_ (by simp only; omega) _))
  cases u2
  · clear hbad
    have HW := Lib.hid KW; have HX := Lib.hid hx; have HHH := Lib.hid hH
    clear KW hx hH
    obtain ⟨n, hn⟩ : ∃ n, (x :: t).length = n := ⟨_, rfl⟩
    have z0 : ((n : Int) == 0) = false := by simp; rw [← hn]; simp
    have z7 : decide ((7 : Int) < (n : Int)) = false := by simp; rw [← hn]; simp; omega
    have n0 : 0 < n := by rw [← hn]; simp
    go_enter Tryd.func34, Tryd.ntmps34
    go_wp2_with fail
    refine (HW.out _).mono ?_
    rintro e w1 ⟨v, rfl, hv, hb⟩
    obtain ⟨a, c, rfl, hA⟩ := hv.arg
    obtain ⟨g, o, rfl, hc, hcap, hmax⟩ := hA.resolve_left (by simp)
    have c0 := hc 0 x rfl
    rw [HHH.out, Nat.add_zero] at c0
    rw [hn] at hcap ⊢
    have hTS := fun i l (hi : t[i]? = some l) => hc (i + 1) l (by simpa using hi)
    have HTS := Lib.hid hTS
    have hRB := Bx.new w 24 [.int .i64 0, .int .i64 0, .slice none 0 0]
    have A1 := (hRB.up hb).alloc (.cells #[.int .i64 0, .int .i64 0, .slice none 0 0] 24)
    have A9 := Lib.hid (hRB.up hb)
    have hbw := up_trans (up_alloc (Below.refl _ w) _) hb
    have B9 := Lib.hid hbw
    have B1 := Lib.hid (up_alloc hbw (.cells #[.int .i64 0, .int .i64 0, .slice none 0 0] 24))
    have c1 := bl_cell (up_alloc (Below.refl _ w1) (.cells #[.int .i64 0, .int .i64 0, .slice none 0 0] 24)) c0
    have a0 := A1.cell 0 rfl; have a1 := A1.cell 1 rfl; have a2 := A1.cell 2 rfl; have af := A1.free
    have N0 := Lib.hid hn
    clear hv hA hb A1 hc hn hTS hbw hRB
    go_wp2
    go_loopw [6] (fun i wr => ∃ k : Nat, k ≤ k0 ∧ i = .int .i64 (k : Int) ∧ wr = w1.alloc (.cells #[.int .i64 0, .int .i64 0, .slice none 0 0] 24)) (fun i _ => k0 - (intOf i).toNat)
    case atStart => exact ⟨0, Nat.zero_le _, by go_num, rfl⟩
    case round =>
      obtain ⟨k, hk, rfl, rfl⟩ := hrel
      by_cases hlt : k < k0
      · have hzk := HX.out.1
        have hxk := HX.out.2 k (by omega) hlt
        obtain ⟨q, hq⟩ : ∃ q : Int, ((H[k].toNat : Nat) : Int) = q := ⟨_, rfl⟩
        rw [hq] at hxk
        have z1 : (k : Int) < (H.size : Int) := by omega
        go_wp2
        go_roundw
        case rel => exact ⟨k + 1, by omega, by go_num, by trivial⟩
        case measure => simp [intOf]; omega
      · obtain rfl : k = k0 := by omega
        go_wp2_with (first
          | (go_at_call 48; with_reducible refine (HP.out _).mono ?_; rintro e w' ⟨rfl, rfl⟩)
          | (go_at_call 48; with_reducible refine (HQ.out _).mono ?_; rintro e w' ⟨rfl, rfl⟩)
          | (go_at_call 28; with_reducible refine (HC.out _).mono ?_; rintro e w' ⟨rfl, rfl⟩)
          | (go_at_call 28; with_reducible refine (HR.out _).mono ?_; rintro e w' ⟨rfl, rfl⟩))
        refine bodyPost_ret (v := .tuple #[.agg #[.int .i64 0, .int .i64 0, .slice none 0 0], .bool false]) (by simp [results, Tryd.results34, go_sem, a0, a1, a2]) rfl (gives_none ?_)
        have B3 := B1.out
        repeat (first | (with_reducible exact B3) | (with_reducible refine up_set ?_ (by simp only; omega) _))
  cases v1
  · clear hbad
    have HW := Lib.hid KW; have HX := Lib.hid hx; have HHH := Lib.hid hH
    clear KW hx hH
    obtain ⟨n, hn⟩ : ∃ n, (x :: t).length = n := ⟨_, rfl⟩
    have z0 : ((n : Int) == 0) = false := by simp; rw [← hn]; simp
    have z7 : decide ((7 : Int) < (n : Int)) = false := by simp; rw [← hn]; simp; omega
    have n0 : 0 < n := by rw [← hn]; simp
    go_enter Tryd.func34, Tryd.ntmps34
    go_wp2_with fail
    refine (HW.out _).mono ?_
    rintro e w1 ⟨v, rfl, hv, hb⟩
    obtain ⟨a, c, rfl, hA⟩ := hv.arg
    obtain ⟨g, o, rfl, hc, hcap, hmax⟩ := hA.resolve_left (by simp)
    have c0 := hc 0 x rfl
    rw [HHH.out, Nat.add_zero] at c0
    rw [hn] at hcap ⊢
    have hTS := fun i l (hi : t[i]? = some l) => hc (i + 1) l (by simpa using hi)
    have HTS := Lib.hid hTS
    have hRB := Bx.new w 24 [.int .i64 0, .int .i64 0, .slice none 0 0]
    have A1 := (hRB.up hb).alloc (.cells #[.int .i64 0, .int .i64 0, .slice none 0 0] 24)
    have A9 := Lib.hid (hRB.up hb)
    have hbw := up_trans (up_alloc (Below.refl _ w) _) hb
    have B9 := Lib.hid hbw
    have B1 := Lib.hid (up_alloc hbw (.cells #[.int .i64 0, .int .i64 0, .slice none 0 0] 24))
    have c1 := bl_cell (up_alloc (Below.refl _ w1) (.cells #[.int .i64 0, .int .i64 0, .slice none 0 0] 24)) c0
    have a0 := A1.cell 0 rfl; have a1 := A1.cell 1 rfl; have a2 := A1.cell 2 rfl; have af := A1.free
    have N0 := Lib.hid hn
    clear hv hA hb A1 hc hn hTS hbw hRB
    go_wp2
    go_loopw [6] (fun i wr => ∃ k : Nat, k ≤ k0 ∧ i = .int .i64 (k : Int) ∧ wr = w1.alloc (.cells #[.int .i64 0, .int .i64 0, .slice none 0 0] 24)) (fun i _ => k0 - (intOf i).toNat)
    case atStart => exact ⟨0, Nat.zero_le _, by go_num, rfl⟩
    case round =>
      obtain ⟨k, hk, rfl, rfl⟩ := hrel
      by_cases hlt : k < k0
      · have hzk := HX.out.1
        have hxk := HX.out.2 k (by omega) hlt
        obtain ⟨q, hq⟩ : ∃ q : Int, ((H[k].toNat : Nat) : Int) = q := ⟨_, rfl⟩
        rw [hq] at hxk
        have z1 : (k : Int) < (H.size : Int) := by omega
        go_wp2
        go_roundw
        case rel => exact ⟨k + 1, by omega, by go_num, by trivial⟩
        case measure => simp [intOf]; omega
      · obtain rfl : k = k0 := by omega
        go_wp2_with (first
          | (go_at_call 48; with_reducible refine (HP.out _).mono ?_; rintro e w' ⟨rfl, rfl⟩)
          | (go_at_call 48; with_reducible refine (HQ.out _).mono ?_; rintro e w' ⟨rfl, rfl⟩)
          | (go_at_call 28; with_reducible refine (HC.out _).mono ?_; rintro e w' ⟨rfl, rfl⟩)
          | (go_at_call 28; with_reducible refine (HR.out _).mono ?_; rintro e w' ⟨rfl, rfl⟩))
        refine bodyPost_ret (v := .tuple #[.agg #[.int .i64 0, .int .i64 0, .slice none 0 0], .bool false]) (by simp [results, Tryd.results34, go_sem, a0, a1, a2]) rfl (gives_none ?_)
        have B3 := B1.out
        repeat (first | (with_reducible exact B3) | (with_reducible refine up_set ?_ (by simp only; omega) _))
  · obtain rfl : v2 = false := by simpa using hbad
    clear hbad
    have HW := Lib.hid KW; have HX := Lib.hid hx; have HHH := Lib.hid hH
    clear KW hx hH
    obtain ⟨n, hn⟩ : ∃ n, (x :: t).length = n := ⟨_, rfl⟩
    have z0 : ((n : Int) == 0) = false := by simp; rw [← hn]; simp
    have z7 : decide ((7 : Int) < (n : Int)) = false := by simp; rw [← hn]; simp; omega
    have n0 : 0 < n := by rw [← hn]; simp
    go_enter Tryd.func34, Tryd.ntmps34
    go_wp2_with fail
    refine (HW.out _).mono ?_
    rintro e w1 ⟨v, rfl, hv, hb⟩
    obtain ⟨a, c, rfl, hA⟩ := hv.arg
    obtain ⟨g, o, rfl, hc, hcap, hmax⟩ := hA.resolve_left (by simp)
    have c0 := hc 0 x rfl
    rw [HHH.out, Nat.add_zero] at c0
    rw [hn] at hcap ⊢
    have hTS := fun i l (hi : t[i]? = some l) => hc (i + 1) l (by simpa using hi)
    have HTS := Lib.hid hTS
    have hRB := Bx.new w 24 [.int .i64 0, .int .i64 0, .slice none 0 0]
    have A1 := (hRB.up hb).alloc (.cells #[.int .i64 0, .int .i64 0, .slice none 0 0] 24)
    have A9 := Lib.hid (hRB.up hb)
    have hbw := up_trans (up_alloc (Below.refl _ w) _) hb
    have B9 := Lib.hid hbw
    have B1 := Lib.hid (up_alloc hbw (.cells #[.int .i64 0, .int .i64 0, .slice none 0 0] 24))
    have c1 := bl_cell (up_alloc (Below.refl _ w1) (.cells #[.int .i64 0, .int .i64 0, .slice none 0 0] 24)) c0
    have a0 := A1.cell 0 rfl; have a1 := A1.cell 1 rfl; have a2 := A1.cell 2 rfl; have af := A1.free
    have N0 := Lib.hid hn
    clear hv hA hb A1 hc hn hTS hbw hRB
    go_wp2
    go_loopw [6] (fun i wr => ∃ k : Nat, k ≤ k0 ∧ i = .int .i64 (k : Int) ∧ wr = w1.alloc (.cells #[.int .i64 0, .int .i64 0, .slice none 0 0] 24)) (fun i _ => k0 - (intOf i).toNat)
    case atStart => exact ⟨0, Nat.zero_le _, by go_num, rfl⟩
    case round =>
      obtain ⟨k, hk, rfl, rfl⟩ := hrel
      by_cases hlt : k < k0
      · have hzk := HX.out.1
        have hxk := HX.out.2 k (by omega) hlt
        obtain ⟨q, hq⟩ : ∃ q : Int, ((H[k].toNat : Nat) : Int) = q := ⟨_, rfl⟩
        rw [hq] at hxk
        have z1 : (k : Int) < (H.size : Int) := by omega
        go_wp2
        go_roundw
        case rel => exact ⟨k + 1, by omega, by go_num, by trivial⟩
        case measure => simp [intOf]; omega
      · obtain rfl : k = k0 := by omega
        go_wp2_with (first
          | (go_at_call 48; with_reducible refine (HP.out _).mono ?_; rintro e w' ⟨rfl, rfl⟩)
          | (go_at_call 48; with_reducible refine (HQ.out _).mono ?_; rintro e w' ⟨rfl, rfl⟩)
          | (go_at_call 28; with_reducible refine (HC.out _).mono ?_; rintro e w' ⟨rfl, rfl⟩)
          | (go_at_call 28; with_reducible refine (HR.out _).mono ?_; rintro e w' ⟨rfl, rfl⟩))
        refine bodyPost_ret (v := .tuple #[.agg #[.int .i64 0, .int .i64 0, .slice none 0 0], .bool false]) (by simp [results, Tryd.results34, go_sem, a0, a1, a2]) rfl (gives_none ?_)
        have B3 := B1.out
        repeat (first | (with_reducible exact B3) | (with_reducible refine up_set ?_ (by simp only; omega) _))

def PlainRel (ts : List (List UInt8)) (m : Nat) (c r : Int) (F : Option (List Sp)) (R B base : Nat) (w w1 : World) (i : Value) (wr : World) : Prop :=
  ∃ (k : Nat) (l : List Sp) (v : Value), k ≤ m ∧ i = .int .i64 ((k : Int) + 1) ∧ l.length = k ∧ Bx wr B [.int .i64 c, .int .i64 r, v] ∧ rowP wr base v l ∧ Bx wr R [.int .i64 0, .int .i64 0, .slice none 0 0] ∧ base ≤ wr.heap.size ∧ Below w.heap.size w wr ∧ Below w1.heap.size w1 wr ∧ Hid ((stepsM (ts.drop k)).map (fun q => l ++ q) = F)

set_option maxRecDepth 100000 in
set_option maxHeartbeats 4000000 in
theorem refPlain_good (X H : ByteArray) (x : List UInt8) (t : List (List UInt8)) (w : World) (hn7 : t.length ≤ 6) (hH : tx x = H) (k0 : Nat) (hk0 : k0 < H.size) (h120 : ((H[k0].toNat : Nat) : Int) = 120) (hx : FirstX H k0) (hz : H.size ≤ 1000000) (P Q : ByteArray) (hP : H.extract 0 k0 = P) (hQ : ∀ w, (Instr.slice 9 (.string H) (some (.int .i64 ((k0 : Int) + 1))) none none).run Tryd.prog w = .ok (.string Q) w) (c r : Int) (F : Option (List Sp)) (hF : stepsM t = F) (hsz : ∀ y ∈ t, y.length ≤ 1000000)
    (KP : ∀ w, Calls Tryd.prog 48 #[.string P] w fun e w' => e = .returned (.tuple #[.int .i64 c, .bool true]) ∧ w = w')
    (KQ : ∀ w, Calls Tryd.prog 48 #[.string Q] w fun e w' => e = .returned (.tuple #[.int .i64 r, .bool true]) ∧ w = w')
    (KC : ∀ w, Calls Tryd.prog 28 #[.int .i64 c, .int .i64 1, .int .i64 64] w fun e w' => e = .returned (.bool true) ∧ w' = w)
    (KR : ∀ w, Calls Tryd.prog 28 #[.int .i64 r, .int .i64 1, .int .i64 64] w fun e w' => e = .returned (.bool true) ∧ w' = w)
    (KW : ∀ w, Calls Tryd.prog 47 #[.string X] w fun e w' => ∃ v, e = .returned v ∧ TxS w' v (x :: t) ∧ Below w.heap.size w w') :
    Calls Tryd.prog 34 #[.string X] w (GivesS (F.map fun l => ⟨c, r, l⟩) w) := by
  have HP := Lib.hid KP; have HQ := Lib.hid KQ; have HC := Lib.hid KC; have HR := Lib.hid KR; have HF := Lib.hid hF; have HZ := Lib.hid hsz
  clear KP KQ KC KR hF hsz
  have z1 : (k0 : Int) < (H.size : Int) := by omega
  have HW := Lib.hid KW; have HX := Lib.hid hx; have HHH := Lib.hid hH
  clear KW hx hH
  obtain ⟨n, hn⟩ : ∃ n, (x :: t).length = n := ⟨_, rfl⟩
  have z0 : ((n : Int) == 0) = false := by simp; rw [← hn]; simp
  have z7 : decide ((7 : Int) < (n : Int)) = false := by simp; rw [← hn]; simp; omega
  have n0 : 0 < n := by rw [← hn]; simp
  go_enter Tryd.func34, Tryd.ntmps34
  go_wp2_with fail
  refine (HW.out _).mono ?_
  rintro e w1 ⟨v, rfl, hv, hb⟩
  obtain ⟨a, c9, rfl, hA⟩ := hv.arg
  obtain ⟨g, o, rfl, hc, hcap, hmax⟩ := hA.resolve_left (by simp)
  have c0 := hc 0 x rfl
  rw [HHH.out, Nat.add_zero] at c0
  rw [hn] at hcap ⊢
  have hTS := fun i l (hi : t[i]? = some l) => hc (i + 1) l (by simpa using hi)
  have HTS := Lib.hid hTS
  have hRB := Bx.new w 24 [.int .i64 0, .int .i64 0, .slice none 0 0]
  have A1 := (hRB.up hb).alloc (.cells #[.int .i64 0, .int .i64 0, .slice none 0 0] 24)
  have A9 := Lib.hid (hRB.up hb)
  have hbw := up_trans (up_alloc (Below.refl _ w) _) hb
  have B9 := Lib.hid hbw
  have B1 := Lib.hid (up_alloc hbw (.cells #[.int .i64 0, .int .i64 0, .slice none 0 0] 24))
  have c1 := bl_cell (up_alloc (Below.refl _ w1) (.cells #[.int .i64 0, .int .i64 0, .slice none 0 0] 24)) c0
  have a0 := A1.cell 0 rfl; have a1 := A1.cell 1 rfl; have a2 := A1.cell 2 rfl; have af := A1.free
  have N0 := Lib.hid hn
  clear hv hA hb A1 hc hn hTS hbw hRB
  go_wp2
  go_loopw [6] (fun i wr => ∃ k : Nat, k ≤ k0 ∧ i = .int .i64 (k : Int) ∧ wr = w1.alloc (.cells #[.int .i64 0, .int .i64 0, .slice none 0 0] 24)) (fun i _ => k0 - (intOf i).toNat)
  case atStart => exact ⟨0, Nat.zero_le _, by go_num, rfl⟩
  case round =>
    obtain ⟨k, hk, rfl, rfl⟩ := hrel
    by_cases hlt : k < k0
    · have hzk := HX.out.1
      have hxk := HX.out.2 k (by omega) hlt
      obtain ⟨q, hq⟩ : ∃ q : Int, ((H[k].toNat : Nat) : Int) = q := ⟨_, rfl⟩
      rw [hq] at hxk
      have z1 : (k : Int) < (H.size : Int) := by omega
      go_wp2
      go_roundw
      case rel => exact ⟨k + 1, by omega, by go_num, by trivial⟩
      case measure => simp [intOf]; omega
    · obtain rfl : k = k0 := by omega
      go_wp2_with (first
        | (go_at_call 48; with_reducible refine (HP.out _).mono ?_; rintro e w' ⟨rfl, rfl⟩)
        | (go_at_call 48; with_reducible refine (HQ.out _).mono ?_; rintro e w' ⟨rfl, rfl⟩)
        | (go_at_call 28; with_reducible refine (HC.out _).mono ?_; rintro e w' ⟨rfl, rfl⟩)
        | (go_at_call 28; with_reducible refine (HR.out _).mono ?_; rintro e w' ⟨rfl, rfl⟩))
      clear c1 a0 a1 a2 af c0
      have AR := A9.out.alloc (.cells #[.int .i64 c, .int .i64 r, .slice none 0 0] 24)
      have AB := Bx.new w1 24 [.int .i64 c, .int .i64 r, .slice none 0 0]
      have HB4 := Lib.hid (up_alloc B9.out (.cells #[.int .i64 c, .int .i64 r, .slice none 0 0] 24))
      have HB1 := Lib.hid (up_alloc (Below.refl _ w1) (.cells #[.int .i64 c, .int .i64 r, .slice none 0 0] 24))
      have hs4 : (w1.alloc (.cells #[.int .i64 c, .int .i64 r, .slice none 0 0] 24)).heap.size = w1.heap.size + 1 := by simp
      have hlt1 : w.heap.size < w1.heap.size := A9.out.lt
      obtain ⟨m, hm⟩ : ∃ m, t.length = m := ⟨_, rfl⟩
      obtain rfl : n = m + 1 := by have := N0.out; simp at this; omega
      have HM := Lib.hid hm; have HAR := Lib.hid AR; have HAB := Lib.hid AB; have HS4 := Lib.hid hs4
      clear AR AB hs4 z0 z7 n0
      generalize hw4 : (w1.alloc (.cells #[.int .i64 c, .int .i64 r, .slice none 0 0] 24)) = w4 at *
      clear hw4
      go_loopw [11] (fun i wr => PlainRel t m c r F w.heap.size w1.heap.size (w1.heap.size + 1) w w1 i wr) (fun i _ => m + 1 - (intOf i).toNat)
      case atStart => exact ⟨0, [], _, by omega, by go_num, rfl, HAB.out, rowP_nil _ _, HAR.out, by rw [HS4.out]; omega, HB4.out, HB1.out, Lib.hid (by rw [← HF.out]; simp)⟩
      case round =>
        obtain ⟨k, l, v, hk, rfl, hlk, AB, hrow, AR, hbase, hb, hb1, HMk⟩ := hrel
        by_cases hlt2 : k < m
        · obtain ⟨y, hy⟩ : ∃ y, t[k]? = some y := ⟨t[k]'(by rw [HM.out]; exact hlt2), List.getElem?_eq_getElem _⟩
          have hcx := bl_cell hb1 (HTS.out k y hy)
          have hzx := HZ.out y (List.mem_of_getElem? hy)
          have hd := drop_one hy
          have KS := fun w => refStep_any (tx y) w (by rw [tx_size]; omega)
          rw [data_tx] at KS
          have z0 : (0 : Int) ≤ (k : Int) + 1 := by omega
          have z2 : (k : Int) + 1 < (m : Int) + 1 := by omega
          obtain ⟨av, cv, rfl, -⟩ := hrow.steps
          have HRw := Lib.hid hrow; have HBB := Lib.hid hb; have HB1k := Lib.hid hb1; have HABk := Lib.hid AB; have HARk := Lib.hid AR; have HLK := Lib.hid hlk
          clear hrow hb hb1 AB AR hlk
          cases hs : (getS y).2
          · have E := Lib.hid (show F = none by rw [← HMk.out, hd]; exact steps_no hs)
            rw [hs] at KS
            generalize (getS y).1 = p at *
            obtain ⟨pd, pn, pu⟩ := p
            generalize tx y = T at *
            simp only at KS
            have HS := Lib.hid KS
            clear KS hs hd HMk hzx
            go_wp2_with fail
            refine (HS.out _).mono ?_
            rintro e w5 ⟨rfl, hb5⟩
            have A5 := (HARk.out.up hb5).alloc (.cells #[.int .i64 pd, .int .i64 pn, .bool pu] 48)
            have B5 := Lib.hid (up_alloc (up_trans HBB.out hb5) (.cells #[.int .i64 pd, .int .i64 pn, .bool pu] 48))
            have a0 := A5.cell 0 rfl; have a1 := A5.cell 1 rfl; have a2 := A5.cell 2 rfl; have af := A5.free
            clear A5 hb5 hcx
            go_wp2
            refine bodyPost_ret (v := .tuple #[.agg #[.int .i64 0, .int .i64 0, .slice none 0 0], .bool false]) (by simp [results, Tryd.results34, go_sem, a0, a1, a2]) rfl ?_
            rw [E.out]
            refine gives_none ?_
            have B6 := B5.out
            repeat (first | (with_reducible exact B6) | (with_reducible refine up_set ?_ (by simp only; omega) _))
          · have E := Lib.hid (show (stepsM (t.drop (k + 1))).map (fun q => (l ++ [(getS y).1]) ++ q) = F by rw [← HMk.out, hd]; exact (steps_yes hs).symm)
            rw [hs] at KS
            generalize (getS y).1 = p at *
            obtain ⟨pd, pn, pu⟩ := p
            generalize tx y = T at *
            simp only at KS
            have HS := Lib.hid KS
            clear KS hs hd HMk hzx
            go_wp2_with fail
            refine (HS.out _).mono ?_
            rintro e w5 ⟨rfl, hb5⟩
            have A5 := (HABk.out.up hb5).alloc (.cells #[.int .i64 pd, .int .i64 pn, .bool pu] 48)
            have R5 := (HARk.out.up hb5).alloc (.cells #[.int .i64 pd, .int .i64 pn, .bool pu] 48)
            have B5 := Lib.hid (up_alloc (up_trans HBB.out hb5) (.cells #[.int .i64 pd, .int .i64 pn, .bool pu] 48))
            have C5 := Lib.hid (up_alloc (up_trans HB1k.out hb5) (.cells #[.int .i64 pd, .int .i64 pn, .bool pu] 48))
            have P5 := Lib.hid ((HRw.out.up hb5).up (up_alloc (Below.refl _ _) (.cells #[.int .i64 pd, .int .i64 pn, .bool pu] 48)))
            have S5 : w1.heap.size + 1 ≤ (w5.alloc (.cells #[.int .i64 pd, .int .i64 pn, .bool pu] 48)).heap.size := by have := hb5.size; simp; omega
            have a2 := A5.cell 2 rfl
            have HA5 := Lib.hid A5; have HR5 := Lib.hid R5; have HS5 := Lib.hid S5
            clear hb5 hcx A5 R5 S5
            go_wp2_with (at_builtin; refine wpList_append_step rfl _ _ rfl (w1.heap.size + 1) (.slice av l.length cv) l rfl P5.out HS5.out pd pn pu _ (World.size_alloc _ _) rfl ?c1 ?_)
            case c1 => rw [HLK.out]; omega
            intro g6 cap6 w6 hrow6 hb6
            have A6 := HA5.out.low (Nat.lt_succ_self _) hb6
            have R6 := HR5.out.low (by omega) hb6
            have a2' := A6.cell 2 rfl; have af := A6.free
            have HA6 := Lib.hid A6; have HR6 := Lib.hid R6; have HB6 := Lib.hid hb6; have HW6 := Lib.hid hrow6
            clear A6 R6 hb6 hrow6 a2
            go_wp2
            go_roundw
            case rel =>
              repeat (apply Exists.intro)
              refine ⟨?_, rfl⟩
              refine ⟨k + 1, l ++ [⟨pd, pn, pu⟩], _, by omega, by go_num, by simp [HLK.out], HA6.out.set 2 _, HW6.out.set (by simp only; omega) _, HR6.out.far (by simp only; omega) _, ?_, ?_, ?_, E⟩
              · have := HB6.out.size; have := HS5.out; simp [World.setCell]; omega
              · exact up_set (B5.out.trans (HB6.out.mono (by omega))) (by simp only; omega) _
              · exact up_set (C5.out.trans (HB6.out.mono (by omega))) (by simp only; omega) _
            case measure => simp [intOf]; omega
        · obtain rfl : k = m := by omega
          have E := Lib.hid (show F = some l by rw [← HMk.out, List.drop_of_length_le (by rw [HM.out]; omega)]; simp [stepsM])
          obtain ⟨av, cv, rfl, -⟩ := hrow.steps
          subst hlk
          have HRw := Lib.hid hrow; have HBB := Lib.hid hb
          have b0 := AB.cell 0 rfl; have b1 := AB.cell 1 rfl; have b2 := AB.cell 2 rfl
          have a0 := AR.cell 0 rfl; have a1 := AR.cell 1 rfl; have a2 := AR.cell 2 rfl; have af := AR.free
          clear hrow AB AR hb hb1
          go_wp2
          rw [E.out]
          refine bodyPost_ret (v := .tuple #[.agg #[.int .i64 c, .int .i64 r, .slice av l.length cv], .bool true]) (by simp [results, Tryd.results34, go_sem, a0, a1, a2]) rfl ⟨av, cv, rfl, ?_, ?_⟩
          · have HR6 := HRw.out
            show InF _ _ av l
            refine InF.mono (base := w1.heap.size + 1) (rowP.inF (n := l.length) (c := cv) ?_) (by omega)
            repeat (first | (with_reducible exact HR6) | (with_reducible refine rowP.set ?_ (by simp only; omega) _))
          · have B6 := HBB.out
            repeat (first | (with_reducible exact B6) | (with_reducible refine up_set ?_ (by simp only; omega) _))

theorem cutX_split (x : List UInt8) : ((120 : UInt8) ∉ x ∧ cutX x = (x, [])) ∨ ∃ a b, x = a ++ 120 :: b ∧ (120 : UInt8) ∉ a ∧ cutX x = (a, b) := by
  induction x with
  | nil => left; exact ⟨by simp, rfl⟩
  | cons c r ih =>
    by_cases e : c = 120
    · subst e; right; exact ⟨[], r, rfl, by simp, by simp [cutX]⟩
    · have e2 : ¬ (120 : UInt8) = c := fun h => e h.symm
      rcases ih with ⟨h1, h2⟩ | ⟨a, b, rfl, h1, h2⟩
      · left
        exact ⟨by simp [e2, h1], by rw [cutX, if_neg e, h2]⟩
      · right
        exact ⟨c :: a, b, rfl, by simp [e2, h1], by rw [cutX, if_neg e, h2]⟩
theorem tx_at (x : List UInt8) (k : Nat) (h : k < (tx x).size) : (tx x)[k] = x[k]'(by rw [tx_size] at h; exact h) := rfl
theorem oct_ne {c : UInt8} (h : c ≠ 120) : (((c.toNat : Nat) : Int) != 120) = true := by
  have e := oct_eq c 120
  rw [show (((120 : UInt8).toNat : Nat) : Int) = 120 from rfl] at e
  unfold bne
  rw [e]
  simpa using h
theorem firstX_all {x : List UInt8} (h : (120 : UInt8) ∉ x) : FirstX (tx x) (tx x).size := ⟨Nat.le_refl _, fun k hk _ => by
  rw [tx_at]
  exact oct_ne fun e => h (e ▸ List.getElem_mem _)⟩
theorem firstX_at {a : List UInt8} (b : List UInt8) (h : (120 : UInt8) ∉ a) : FirstX (tx (a ++ 120 :: b)) a.length := ⟨by rw [tx_size]; simp, fun k hk h2 => by
  rw [tx_at, List.getElem_append_left h2]
  exact oct_ne fun e => h (e ▸ List.getElem_mem _)⟩
theorem slice_from (H : ByteArray) (k : Nat) (h : k < H.size) (w : World) : (Instr.slice 9 (.string H) (some (.int .i64 ((k : Int) + 1))) none none).run Tryd.prog w = .ok (.string (H.extract (k + 1) H.size)) w := by
  rw [run_slice_string_from_if w 9 H .i64 _ Tryd.underlying9, if_pos (by omega)]
  simp
theorem inOf_of {l : List UInt8} : (inOf l 1 64).2 = ((numOf l).2 && inB (numOf l).1 1 64) ∧ ((inOf l 1 64).2 = true → (inOf l 1 64).1 = (numOf l).1) := by
  unfold inOf inB
  split
  · rename_i h
    exact ⟨by simp [h], fun _ => rfl⟩
  · rename_i h
    refine ⟨?_, fun e => by cases e⟩
    cases h2 : (numOf l).2
    · rfl
    · simp only [Bool.true_and]
      rw [eq_comm, Bool.and_eq_false_iff, decide_eq_false_iff_not, decide_eq_false_iff_not]
      by_cases h3 : 1 ≤ (numOf l).1
      · right; intro h4; exact h ⟨h2, h3, h4⟩
      · exact .inl h3

theorem refPlain_any (X : ByteArray) (w : World) (hs : X.size ≤ 999999) : Calls Tryd.prog 34 #[.string X] w (GivesS (plainM X.data.toList) w) := by
  have KW := fun w => refWords_any X w hs
  have hz : ∀ p ∈ (fieldsL X.data.toList).getD [], p.length ≤ 999999 := by
    cases hf : fieldsL X.data.toList with
    | none => intro p hp; cases hp
    | some l =>
      intro p hp
      have h1 := fieldsL_octets hf
      rw [size_data] at h1
      have h2 : p.length ≤ l.flatten.length := (List.Sublist.length_le (List.sublist_flatten_of_mem hp))
      omega
  have hl : ((fieldsL X.data.toList).getD []).length ≤ 1000000 := by
    cases hf : fieldsL X.data.toList with
    | none => simp
    | some l =>
      have h1 := fieldsL_length hf
      rw [size_data] at h1
      simp; omega
  unfold plainM
  generalize (fieldsL X.data.toList).getD [] = ls at *
  cases ls with
  | nil => exact refPlain_len X [] w (.inl rfl) (by simp) KW
  | cons x t =>
    by_cases h6 : t.length ≤ 6
    · have hxz : (tx x).size ≤ 1000000 := by have := hz x (by simp); rw [tx_size]; omega
      rcases cutX_split x with ⟨hx, hcx⟩ | ⟨a, b, rfl, ha, hcx⟩
      · have e : readM (x :: t) = none := by
          simp only [readM]
          rw [if_neg]
          rintro ⟨-, -, h⟩
          rw [hcx] at h
          have := (inOf_true h).1
          have h2 := (inOf_true h).2
          exact itoa_some _ (by omega) this
        rw [e]
        exact refPlain_nox X (tx x) x t w h6 rfl (firstX_all hx) hxz KW
      · have hk0 : a.length < (tx (a ++ 120 :: b)).size := by rw [tx_size]; simp
        have h120 : (((tx (a ++ 120 :: b))[a.length].toNat : Nat) : Int) = 120 := by
          rw [tx_at, List.getElem_append_right (Nat.le_refl _)]
          simp
        have hP : (tx (a ++ 120 :: b)).extract 0 a.length = tx a := by rw [tx_extract, data_tx]; simp
        have hQ : (tx (a ++ 120 :: b)).extract (a.length + 1) (tx (a ++ 120 :: b)).size = tx b := by
          rw [tx_extract, data_tx, tx_size, List.take_of_length_le (Nat.le_refl _)]
          simp
        have hQ2 := fun w => slice_from (tx (a ++ 120 :: b)) a.length hk0 w
        rw [hQ] at hQ2
        rw [tx_size] at hxz
        simp only [List.length_append, List.length_cons] at hxz
        have KP := fun w => refGet_any (tx a) w (by rw [tx_size]; omega)
        have KQ := fun w => refGet_any (tx b) w (by rw [tx_size]; omega)
        rw [data_tx] at KP KQ
        have KC := fun w => refIn_any (numOf a).1 1 64 w
        have KR := fun w => refIn_any (numOf b).1 1 64 w
        have ia := @inOf_of a
        have ib := @inOf_of b
        by_cases hin : (inOf a 1 64).2 = true ∧ (inOf b 1 64).2 = true
        · have e : readM ((a ++ 120 :: b) :: t) = (stepsM t).map fun l => ⟨(numOf a).1, (numOf b).1, l⟩ := by
            simp only [readM]
            rw [hcx, if_pos ⟨h6, hin⟩, ia.2 hin.1, ib.2 hin.2]
          rw [e]
          have ja := ia.1.symm.trans hin.1
          have jb := ib.1.symm.trans hin.2
          rw [Bool.and_eq_true] at ja jb
          rw [ja.1] at KP
          rw [jb.1] at KQ
          rw [ja.2] at KC
          rw [jb.2] at KR
          exact refPlain_good X _ _ t w h6 rfl a.length hk0 h120 (firstX_at b ha) (by rw [tx_size]; simp; omega) (tx a) (tx b) hP hQ2 _ _ _ rfl (fun y hy => by have := hz y (by simp [hy]); omega) KP KQ KC KR KW
        · have e : readM ((a ++ 120 :: b) :: t) = none := by
            simp only [readM]
            rw [hcx, if_neg fun h => hin h.2]
          rw [e]
          refine refPlain_sides X _ _ t w h6 rfl a.length hk0 h120 (firstX_at b ha) (by rw [tx_size]; simp; omega) (tx a) (tx b) hP hQ2 _ _ _ _ _ _ ?_ KP KQ KC KR KW
          rw [ia.1, ib.1, Bool.and_eq_true, Bool.and_eq_true] at hin
          cases h1 : (numOf a).2
          · exact .inl rfl
          right
          cases h2 : (numOf b).2
          · exact .inl rfl
          right
          cases h3 : inB (numOf a).1 1 64
          · exact .inl rfl
          right
          cases h4 : inB (numOf b).1 1 64
          · rfl
          · exact absurd ⟨⟨h1, h3⟩, h2, h4⟩ hin
    · have e : readM (x :: t) = none := by simp only [readM]; rw [if_neg fun h => h6 h.1]
      rw [e]
      exact refPlain_len X (x :: t) w (.inr (by simp; omega)) (by omega) KW
end Go.Proofs.YtaphkplidnepaaaDoor
