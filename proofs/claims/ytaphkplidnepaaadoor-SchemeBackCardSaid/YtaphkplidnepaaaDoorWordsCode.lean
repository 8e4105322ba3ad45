/- What the calls of package words answer: for every table, number and text. -/
import Derived.Test.YtaphkplidnepaaaDoorProg
import Derived.Test.YtaphkplidnepaaaDoorLater
import Derived.Lib.Hide
namespace Go.Proofs.YtaphkplidnepaaaDoor
open Go.RowKit
set_option linter.unusedVariables false

/-- The words of a table, octet by octet. -/
def tab (t : Int) : List ByteArray :=
  if t = 1 then [⟨#[115, 97, 100, 100, 108, 101]⟩, ⟨#[112, 101, 114, 102, 101, 99, 116]⟩, ⟨#[115, 116, 97, 99, 107]⟩, ⟨#[99, 111, 109, 101, 103, 111]⟩]
  else if t = 2 then [⟨#[115, 104, 101, 101, 116, 119, 105, 115, 101]⟩, ⟨#[112, 101, 114, 102, 101, 99, 116, 105, 110, 103]⟩, ⟨#[116, 117, 114, 110]⟩, ⟨#[116, 117, 109, 98, 108, 101]⟩]
  else if t = 3 then [⟨#[76]⟩, ⟨#[82]⟩, ⟨#[66]⟩, ⟨#[84]⟩]
  else if t = 4 then [⟨#[112, 97, 103, 101]⟩, ⟨#[99, 114, 111, 112]⟩, ⟨#[99, 114, 101, 97, 115, 101]⟩, ⟨#[99, 101, 110, 116, 114, 101]⟩, ⟨#[115, 116, 97, 105, 114]⟩, ⟨#[98, 97, 114]⟩, ⟨#[110, 111, 116, 101]⟩]
  else []
/-- The texts stand in the block g, one a cell. -/
def InG (w : World) (g : Nat) (l : List ByteArray) : Prop := ∀ i p, l[i]? = some p → w.cell? ⟨g, i, none⟩ = some (.string p)
theorem InG.up {w w' : World} {g : Nat} {l : List ByteArray} (h : InG w g l) (hb : Below w.heap.size w w') : InG w' g l := fun i p hp => bl_cell hb (h i p hp)
/-- v is a slice that holds the texts l, m of them. -/
def Strs (w : World) (v : Value) (m : Nat) (l : List ByteArray) : Prop := l.length = m ∧ ((m = 0 ∧ v = .slice none 0 0) ∨ ∃ g, 0 < m ∧ v = .slice (some ⟨g, 0, none⟩) m m ∧ InG w g l)
theorem Strs.up {w w' : World} {v : Value} {m : Nat} {l : List ByteArray} (h : Strs w v m l) (hb : Below w.heap.size w w') : Strs w' v m l := by
  obtain ⟨h0, h1 | ⟨g, h1, h2, h3⟩⟩ := h
  · exact ⟨h0, .inl h1⟩
  · exact ⟨h0, .inr ⟨g, h1, h2, h3.up hb⟩⟩
theorem inG_cells (w : World) (l : List ByteArray) (T : TypeId) : InG (w.alloc (.cells (l.map Value.string).toArray T)) w.heap.size l := by
  intro i p hp
  simp [go_sem, hp]

theorem tab_none {t : Int} (h1 : t ≠ 1) (h2 : t ≠ 2) (h3 : t ≠ 3) (h4 : t ≠ 4) : tab t = [] := by unfold tab; rw [if_neg h1, if_neg h2, if_neg h3, if_neg h4]

theorem wordsAll_any (t : Int) (w : World) :
    Calls Tryd.prog 64 #[.int .i64 t] w fun e w' => ∃ v, e = .returned v ∧ Strs w' v (tab t).length (tab t) ∧ Below w.heap.size w w' := by
  by_cases h1 : t = 1
  · subst h1
    go_enter Tryd.func64, Tryd.ntmps64
    go_wp2
    go_ret
    exact ⟨_, rfl, ⟨rfl, .inr ⟨w.heap.size, by decide, rfl, inG_cells w (tab 1) _⟩⟩, up_alloc (Below.refl _ _) _⟩
  by_cases h2 : t = 2
  · subst h2
    go_enter Tryd.func64, Tryd.ntmps64
    go_wp2
    go_ret
    exact ⟨_, rfl, ⟨rfl, .inr ⟨w.heap.size, by decide, rfl, inG_cells w (tab 2) _⟩⟩, up_alloc (Below.refl _ _) _⟩
  by_cases h3 : t = 3
  · subst h3
    go_enter Tryd.func64, Tryd.ntmps64
    go_wp2
    go_ret
    exact ⟨_, rfl, ⟨rfl, .inr ⟨w.heap.size, by decide, rfl, inG_cells w (tab 3) _⟩⟩, up_alloc (Below.refl _ _) _⟩
  by_cases h4 : t = 4
  · subst h4
    go_enter Tryd.func64, Tryd.ntmps64
    go_wp2
    go_ret
    exact ⟨_, rfl, ⟨rfl, .inr ⟨w.heap.size, by decide, rfl, inG_cells w (tab 4) _⟩⟩, up_alloc (Below.refl _ _) _⟩
  rw [tab_none h1 h2 h3 h4]
  have e1 : (t == 1) = false := by simpa using h1
  have e2 : (t == 2) = false := by simpa using h2
  have e3 : (t == 3) = false := by simpa using h3
  have e4 : (t == 4) = false := by simpa using h4
  go_enter Tryd.func64, Tryd.ntmps64
  go_wp2
  go_ret
  exact ⟨_, rfl, ⟨rfl, .inl ⟨rfl, rfl⟩⟩, Below.refl _ _⟩

/-- The word of a number; empty: there is none. -/
def word (l : List ByteArray) (n : Int) : ByteArray := if 1 ≤ n then (l[(n - 1).toNat]?).getD ⟨#[]⟩ else ⟨#[]⟩
theorem word_low {l : List ByteArray} {n : Int} (h : n < 1) : word l n = ⟨#[]⟩ := if_neg (by omega)
theorem word_high {l : List ByteArray} {n : Int} (h : (l.length : Int) < n) : word l n = ⟨#[]⟩ := by
  unfold word
  split
  · rw [List.getElem?_eq_none (by omega)]; rfl
  · rfl
theorem word_at {l : List ByteArray} {k : Nat} {b : ByteArray} (h : l[k]? = some b) : word l ((k : Int) + 1) = b := by
  unfold word
  rw [if_pos (by omega), show ((k : Int) + 1 - 1).toNat = k by omega, h]
  rfl

theorem wordsPut_core (t n : Int) (l : List ByteArray) (hl : l.length ≤ 1000000) (w : World)
    (KA : ∀ w, Calls Tryd.prog 64 #[.int .i64 t] w fun e w' => ∃ v, e = .returned v ∧ Strs w' v l.length l ∧ Below w.heap.size w w') :
    Calls Tryd.prog 61 #[.int .i64 t, .int .i64 n] w fun e w' => e = .returned (.string (word l n)) ∧ Below w.heap.size w w' := by
  obtain ⟨m, hm⟩ : ∃ m, l.length = m := ⟨_, rfl⟩
  rw [hm] at KA hl
  have HA := Lib.hid KA
  have HM := Lib.hid hm
  clear KA hm
  by_cases h1 : n < 1
  · rw [word_low h1]
    go_enter Tryd.func61, Tryd.ntmps61
    go_wp2_with fail
    refine (HA.out _).mono ?_
    rintro e w1 ⟨v, rfl, ⟨_, hs⟩, hb⟩
    rcases hs with ⟨_, rfl⟩ | ⟨g, h0, rfl, hc⟩
    all_goals
      go_wp2
      go_ret
      exact ⟨rfl, hb⟩
  by_cases h2 : (m : Int) < n
  · rw [word_high (by have := HM.out; omega)]
    go_enter Tryd.func61, Tryd.ntmps61
    go_wp2_with fail
    refine (HA.out _).mono ?_
    rintro e w1 ⟨v, rfl, ⟨_, hs⟩, hb⟩
    rcases hs with ⟨rfl, rfl⟩ | ⟨g, h0, rfl, hc⟩
    all_goals
      go_wp2
      go_ret
      exact ⟨rfl, hb⟩
  obtain ⟨k, rfl⟩ : ∃ k : Nat, n = (k : Int) + 1 := ⟨(n - 1).toNat, by omega⟩
  have hk : k < l.length := by have := HM.out; omega
  have hb0 : l[k]? = some l[k] := by simp [hk]
  rw [word_at hb0]
  generalize l[k] = b at *
  have HB := Lib.hid hb0
  clear hb0
  have d1 : decide ((k : Int) + 1 < 1) = false := by simp; omega
  have d2 : decide ((m : Int) < (k : Int) + 1) = false := by simp; omega
  go_enter Tryd.func61, Tryd.ntmps61
  go_wp2_with fail
  refine (HA.out _).mono ?_
  rintro e w1 ⟨v, rfl, ⟨_, hs⟩, hb⟩
  rcases hs with ⟨rfl, rfl⟩ | ⟨g, h0, rfl, hc⟩
  · omega
  have c1 := hc k b HB.out
  clear hc
  go_wp2
  go_ret
  exact ⟨rfl, hb⟩

def WordsGetRel (k : Nat) (w : World) (x : Value) (wr : World) : Prop := ∃ j : Nat, j ≤ k ∧ x = .int .i64 (j : Int) ∧ wr = w

theorem toList_ne {a b : ByteArray} (h : a ≠ b) : (a.toList == b.toList) = false := by
  rw [beq_eq_false_iff_ne]
  intro e
  rw [ByteArray.toList_eq, ByteArray.toList_eq] at e
  apply h
  obtain ⟨⟨a⟩⟩ := a
  obtain ⟨⟨b⟩⟩ := b
  simpa using e
theorem toList_some {s : ByteArray} (h : s ≠ ⟨#[]⟩) : (s.toList == []) = false := by
  have := toList_ne h
  simpa [ByteArray.toList_eq] using this

theorem wordsGet_core (t : Int) (s : ByteArray) (l : List ByteArray) (hl : l.length ≤ 1000000) (w : World) (k : Nat) (hk : l[k]? = some s) (hf : ∀ j b, j < k → l[j]? = some b → b ≠ s)
    (KA : ∀ w, Calls Tryd.prog 64 #[.int .i64 t] w fun e w' => ∃ v, e = .returned v ∧ Strs w' v l.length l ∧ Below w.heap.size w w') :
    Calls Tryd.prog 55 #[.int .i64 t, .string s] w fun e w' => e = .returned (.tuple #[.int .i64 ((k : Int) + 1), .bool true]) ∧ Below w.heap.size w w' := by
  have hkl : k < l.length := (List.getElem?_eq_some_iff.1 hk).1
  obtain ⟨m, hm⟩ : ∃ m, l.length = m := ⟨_, rfl⟩
  rw [hm] at KA hl hkl
  have HA := Lib.hid KA
  have HM := Lib.hid hm
  clear KA hm
  go_enter Tryd.func55, Tryd.ntmps55
  go_wp2_with fail
  refine (HA.out _).mono ?_
  rintro e w1 ⟨v, rfl, ⟨_, hs⟩, hb⟩
  rcases hs with ⟨_, rfl⟩ | ⟨g, h0, rfl, hc⟩
  · omega
  go_wp2_with fail
  go_loopw [11] (fun x wr => WordsGetRel k w1 x wr) (fun x _ => m - (intOf x).toNat)
  case atStart => exact ⟨0, by omega, by go_num, rfl⟩
  case round =>
    obtain ⟨j, hj, rfl, rfl⟩ := hrel
    have jm : (j : Int) < (m : Int) := by omega
    by_cases hjk : j = k
    · subst hjk
      have c1 := hc j s hk
      clear hc hf
      go_wp2
      go_ret2
      exact ⟨rfl, hb⟩
    · have hjl : j < l.length := by have := HM.out; omega
      have hb0 : l[j]? = some l[j] := by simp [hjl]
      generalize l[j] = b at *
      have hn := hf j b (by omega) hb0
      have c1 := hc j b hb0
      have h1 := toList_ne hn
      clear hb0 hn hc hf
      go_wp2_with fail
      go_roundw
      case rel => exact ⟨j + 1, by omega, by go_num, rfl⟩
      case measure => simp [intOf]; omega

theorem wordsGet_none (t : Int) (s : ByteArray) (l : List ByteArray) (hl : l.length ≤ 1000000) (w : World) (hf : ∀ (j : Nat) (b : ByteArray), l[j]? = some b → b ≠ s)
    (KA : ∀ w, Calls Tryd.prog 64 #[.int .i64 t] w fun e w' => ∃ v, e = .returned v ∧ Strs w' v l.length l ∧ Below w.heap.size w w') :
    Calls Tryd.prog 55 #[.int .i64 t, .string s] w fun e w' => e = .returned (.tuple #[.int .i64 0, .bool false]) ∧ Below w.heap.size w w' := by
  obtain ⟨m, hm⟩ : ∃ m, l.length = m := ⟨_, rfl⟩
  rw [hm] at KA hl
  have HA := Lib.hid KA
  have HM := Lib.hid hm
  clear KA hm
  go_enter Tryd.func55, Tryd.ntmps55
  go_wp2_with fail
  refine (HA.out _).mono ?_
  rintro e w1 ⟨v, rfl, ⟨_, hs⟩, hb⟩
  rcases hs with ⟨rfl, rfl⟩ | ⟨g, h0, rfl, hc⟩
  · go_wp2_with fail
    go_loopw [11] (fun x wr => WordsGetRel 0 w1 x wr) (fun x _ => 0)
    case atStart => exact ⟨0, by omega, by go_num, rfl⟩
    case round =>
      obtain ⟨j, hj, rfl, rfl⟩ := hrel
      obtain rfl : j = 0 := by omega
      go_wp2
      go_ret2
      exact ⟨rfl, hb⟩
  go_wp2_with fail
  go_loopw [11] (fun x wr => WordsGetRel m w1 x wr) (fun x _ => m - (intOf x).toNat)
  case atStart => exact ⟨0, by omega, by go_num, rfl⟩
  case round =>
    obtain ⟨j, hj, rfl, rfl⟩ := hrel
    by_cases hjm : j = m
    · subst hjm
      clear hc hf
      go_wp2
      go_ret2
      exact ⟨rfl, hb⟩
    · have jm : (j : Int) < (m : Int) := by omega
      have hjl : j < l.length := by have := HM.out; omega
      have hb0 : l[j]? = some l[j] := by simp [hjl]
      generalize l[j] = b at *
      have hn := hf j b hb0
      have c1 := hc j b hb0
      have h1 := toList_ne hn
      clear hb0 hn hc hf
      go_wp2_with fail
      go_roundw
      case rel => exact ⟨j + 1, by omega, by go_num, rfl⟩
      case measure => simp [intOf]; omega

theorem tab_short (t : Int) : (tab t).length ≤ 7 := by unfold tab; (repeat' split) <;> decide
theorem tab_nodup (t : Int) : (tab t).Nodup := by unfold tab; (repeat' split) <;> decide +kernel
theorem tab_full (t : Int) : ∀ b ∈ tab t, b ≠ ⟨#[]⟩ := by unfold tab; (repeat' split) <;> decide +kernel
theorem tab_first {t : Int} {k : Nat} {s : ByteArray} (hk : (tab t)[k]? = some s) (j : Nat) (b : ByteArray) (hj : j < k) (hb : (tab t)[j]? = some b) : b ≠ s := by
  rintro rfl
  have := (List.getElem?_inj (List.getElem?_eq_some_iff.1 hb).1 (tab_nodup t)).1 (hb.trans hk.symm)
  omega

theorem wordsPut_any (t n : Int) (w : World) :
    Calls Tryd.prog 61 #[.int .i64 t, .int .i64 n] w fun e w' => e = .returned (.string (word (tab t) n)) ∧ Below w.heap.size w w' :=
  wordsPut_core t n (tab t) (by have := tab_short t; omega) w (fun w => wordsAll_any t w)
theorem wordsGet_yes {t : Int} {k : Nat} {s : ByteArray} (hk : (tab t)[k]? = some s) (w : World) :
    Calls Tryd.prog 55 #[.int .i64 t, .string s] w fun e w' => e = .returned (.tuple #[.int .i64 ((k : Int) + 1), .bool true]) ∧ Below w.heap.size w w' :=
  wordsGet_core t s (tab t) (by have := tab_short t; omega) w k hk (tab_first hk) (fun w => wordsAll_any t w)
theorem wordsGet_no {t : Int} {s : ByteArray} (hs : s ∉ tab t) (w : World) :
    Calls Tryd.prog 55 #[.int .i64 t, .string s] w fun e w' => e = .returned (.tuple #[.int .i64 0, .bool false]) ∧ Below w.heap.size w w' :=
  wordsGet_none t s (tab t) (by have := tab_short t; omega) w (fun j b hb e => hs (e ▸ List.mem_of_getElem? hb)) (fun w => wordsAll_any t w)
end Go.Proofs.YtaphkplidnepaaaDoor
