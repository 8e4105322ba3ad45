/- What dec's Put, Get and Within answer, for every int and every text, where the library's table of powers and its two errors are as the program's text lays them. -/
import Derived.Test.YtaphkplidnepaaaDoorDecPut
import Derived.Test.YtaphkplidnepaaaDoorDecRef
import Derived.Lib.AtoiErrMem
namespace Go.Proofs.YtaphkplidnepaaaDoor
open Go.Shelf
open Go.RowKit DecMath
set_option linter.unusedVariables false

/-- The library's variables that dec reads are as the program's text lays them. -/
def Good (w : World) : Prop :=
  Tab w ∧
  (∃ tp p, w.var? Tryd.prog "strconv.ErrSyntax" = some #[.iface tp p]) ∧ (∃ tp p, w.var? Tryd.prog "strconv.ErrRange" = some #[.iface tp p])

theorem Good.below {w w' : World} (h : Good w) (hb : Below w.heap.size w w') : Good w' := by
  obtain ⟨a, ⟨t1, p1, b⟩, t2, p2, c⟩ := h
  exact ⟨var_below a hb, ⟨t1, p1, var_below b hb⟩, t2, p2, var_below c hb⟩
theorem numOf_ok (l : List UInt8) (v : Int) (h : Lib.atoiAll l = .ok v) (e : Lib.itoa v = l) : numOf l = (v, true) := by simp [numOf, h, e]
theorem numOf_no (l : List UInt8) (v : Int) (h : Lib.atoiAll l = .ok v) (e : ¬ Lib.itoa v = l) : numOf l = (0, false) := by simp [numOf, h, e]
theorem numOf_else (l : List UInt8) (h : ∀ v, Lib.atoiAll l ≠ .ok v) : numOf l = (0, false) := by
  unfold numOf
  split
  · rename_i v hv
    exact absurd hv (h v)
  · rfl
/-- Neither a number nor out of range: the other error. -/
theorem atoi_else (s : ByteArray) (hlim : s.size ≤ 281474976710656) (h1 : ∀ v, Lib.atoiAll s.data.toList ≠ .ok v) (h2 : Lib.atoiAll s.data.toList ≠ .range) (tp : TypeId) (p : Value) (w : World) (hvar : w.var? Tryd.prog "strconv.ErrSyntax" = some #[.iface tp p]) :
    Calls Tryd.prog 63 #[.string s] w fun e w' => ∃ N, e = .returned (.tuple #[.int .i64 0, .iface 94 (.pointer (some ⟨N, 0, none⟩))]) ∧ Below w.heap.size w w' := by
  cases h : Lib.atoiAll s.data.toList with
  | ok v => exact absurd h (h1 v)
  | range => exact absurd h h2
  | _ =>
    refine (Any.strconv_Atoi_syntax_var Tryd.laysC172 s hlim h tp p w hvar).mono ?_
    rintro e w' ⟨N, he, -, -, hb⟩
    exact ⟨N, he, hb⟩

set_option maxRecDepth 100000 in
theorem decGet_any (s : ByteArray) (w : World) (hs : s.size ≤ 9223372036854775807) (hg : Good w) :
    Calls Tryd.prog 54 #[.string s] w fun e w' => e = .returned (.tuple #[.int .i64 (numOf s.data.toList).1, .bool (numOf s.data.toList).2]) ∧ Below w.heap.size w w' := by
  by_cases hlen : 20 < s.size
  · have H := Lib.hid (numOf_len s.data.toList (by right; simpa using hlen))
    clear hg
    go_enter Tryd.func54, Tryd.ntmps54
    go_wp2
    go_ret2
    exact ⟨ret_pair2 H.out, Below.refl _ _⟩
  · have G := Lib.hid hg
    clear hg
    cases h : Lib.atoiAll s.data.toList with
    | ok v =>
      have hv := Lib.atoiAll_bounds h
      obtain ⟨v0, v1⟩ := hv
      by_cases heq : Lib.itoa v = s.data.toList
      · have E := Lib.hid (numOf_ok _ v h heq)
        have h1 : (Lib.itoa v == s.toList) = true := by rw [bytes_list]; simpa using heq
        have hA := Lib.hid h
        clear h heq
        go_enter Tryd.func54, Tryd.ntmps54
        go_wp2_with fail
        refine (Tryd.strconv_Atoi_ok s (by omega) v hA.out _).mono ?_
        rintro e w1 ⟨rfl, hw⟩
        have hb : Hid (Below w.heap.size w w1) := by
          rcases hw with rfl | ⟨t, rfl⟩
          · exact Below.refl _ _
          · exact Lib.bytesWorld_below _ _ _
        clear hw
        go_wp2_with fail
        refine (decPut_any v _ v0 v1 (G.out.below hb.out).1).mono ?_
        rintro e w2 ⟨rfl, hb2⟩
        go_wp2
        go_ret2
        exact ⟨ret_pair2 E.out, up_trans hb.out hb2⟩
      · have E := Lib.hid (numOf_no _ v h heq)
        have h1 : (Lib.itoa v == s.toList) = false := by rw [bytes_list]; simpa using heq
        have hA := Lib.hid h
        clear h heq
        go_enter Tryd.func54, Tryd.ntmps54
        go_wp2_with fail
        refine (Tryd.strconv_Atoi_ok s (by omega) v hA.out _).mono ?_
        rintro e w1 ⟨rfl, hw⟩
        have hb : Hid (Below w.heap.size w w1) := by
          rcases hw with rfl | ⟨t, rfl⟩
          · exact Below.refl _ _
          · exact Lib.bytesWorld_below _ _ _
        clear hw
        go_wp2_with fail
        refine (decPut_any v _ v0 v1 (G.out.below hb.out).1).mono ?_
        rintro e w2 ⟨rfl, hb2⟩
        go_wp2
        go_ret2
        exact ⟨ret_pair2 E.out, up_trans hb.out hb2⟩
    | range =>
      have E := Lib.hid (numOf_else _ (by intro v; rw [h]; intro x; cases x))
      obtain ⟨tp, p, hvar⟩ := G.out.2.2
      have hA := Lib.hid (And.intro h hvar)
      clear h hvar
      go_enter Tryd.func54, Tryd.ntmps54
      go_wp2_with fail
      refine (Tryd.strconv_Atoi_range_var s (by omega) hA.out.1 tp p _ hA.out.2).mono ?_
      rintro e w1 ⟨N, rfl, -, -, hb⟩
      go_wp2
      go_ret2
      exact ⟨ret_pair2 E.out, hb⟩
    | _ =>
      have h1 : ∀ v, Lib.atoiAll s.data.toList ≠ .ok v := by intro v; rw [h]; intro x; cases x
      have h2 : Lib.atoiAll s.data.toList ≠ .range := by rw [h]; intro x; cases x
      have E := Lib.hid (numOf_else _ h1)
      obtain ⟨tp, p, hvar⟩ := G.out.2.1
      have hA := Lib.hid (And.intro (And.intro h1 h2) hvar)
      clear h hvar h1 h2
      go_enter Tryd.func54, Tryd.ntmps54
      go_wp2_with fail
      refine (atoi_else s (by omega) hA.out.1.1 hA.out.1.2 tp p _ hA.out.2).mono ?_
      rintro e w1 ⟨N, rfl, hb⟩
      go_wp2
      go_ret2
      exact ⟨ret_pair2 E.out, hb⟩
end Go.Proofs.YtaphkplidnepaaaDoor
