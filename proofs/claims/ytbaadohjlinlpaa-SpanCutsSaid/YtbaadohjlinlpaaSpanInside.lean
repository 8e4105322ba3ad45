/- What span.inside answers: those of the numbers that are the span's, rising, in new memory. -/
import Derived.Test.YtbaadohjlinlpaaSpanMath
import Derived.Test.YtbaadohjlinlpaaShelf
import Derived.Sort.OwnSortedInts
import Derived.Deep.Onto
namespace Go.Proofs.Ytbaadohjlinlpaa
open Go.RowKit Go.Sort
set_option linter.unusedVariables false

theorem Try.infoInt : (Try.prog.info? 3).map (fun i => (i.zero, i.size, i.bytes)) = some (some (.int .i64 0), 1, 8) := by kernel_rfl

/-- v is a slice of the call's own (from block base on) that holds the numbers l. -/
def rowI (w : World) (base : Nat) (v : Value) (l : List Int) : Prop := w.ownsRow base 3 1 v l.length (l.map (Value.int .i64))
/-- What a call answers that makes a list of numbers. -/
def GivesI (base : Nat) (l : List Int) (w : World) (e : Ending) (w' : World) : Prop := ∃ v', e = .returned v' ∧ rowI w' base v' l ∧ Below base w w'
def SortsI (base : Nat) (v : Value) (l : List Int) (w : World) (e : Ending) (w' : World) : Prop := e = .returned (.tuple #[]) ∧ rowI w' base v l ∧ Below base w w'
/-- In order. -/
def srt (l : List Int) : List Int := l.mergeSort fun x y => decide (x ≤ y)

theorem sort_any (base : Nat) (v : Value) (l : List Int) (w : World) (h : rowI w base v l) (hm : l.length ≤ 1000000) : Calls Try.prog 22 #[v] w (SortsI base v (srt l) w) := by
  rcases h.2 with ⟨rfl, h0⟩ | ⟨g, cap, cur, rfl, hbase, hg, hcap, hmax, hcur, htake⟩
  · have e : l = [] := List.eq_nil_of_length_eq_zero h0
    subst e
    refine (Try.slices_Sort_int_none none 0 w).mono ?_
    rintro e w' ⟨rfl, rfl⟩
    exact ⟨rfl, by simpa [srt] using h, Below.refl _ _⟩
  · by_cases hl : l.length = 0
    · have e : l = [] := List.eq_nil_of_length_eq_zero hl
      subst e
      refine (Try.slices_Sort_int_none (some ⟨g, 0, none⟩) cap w).mono ?_
      rintro e w' ⟨rfl, rfl⟩
      exact ⟨rfl, by simpa [srt] using h, Below.refl _ _⟩
    · have hlt : g < w.heap.size := (Array.getElem?_eq_some_iff.1 hg).1
      refine (Try.slices_Sort_int g 0 cap l w (holds_of_blockI hg (by simpa using htake)) hlt (by omega)).mono ?_
      rintro e w' ⟨rfl, n, os, rfl⟩
      refine ⟨rfl, ?_, ?_⟩
      · have hs : (srt l).length = l.length := by simp [srt]
        unfold rowI
        rw [hs]
        exact ownsRow_sortedI (ss := l) (ts := srt l) hs hbase hg hcap hmax hcur
      · exact Below.grown (Below.refl _ _) (grownBy_sortedI (g := g) _) (by omega) (fun k hk => by cases hk; exact hbase)

/-- Those of the numbers that are the span's. -/
def fil (a0 a1 : Int) (zs : List Int) : List Int := zs.filter (inS a0 a1)
theorem fil_yes (a0 a1 : Int) (zs : List Int) (k : Nat) (x : Int) (hk : k < zs.length) (hx : zs.getD k 0 = x) (h : inS a0 a1 x = true) : fil a0 a1 (zs.take (k + 1)) = fil a0 a1 (zs.take k) ++ [x] := by
  have e : zs[k] = x := by rw [← hx]; simp [List.getD, hk]
  unfold fil
  rw [List.take_succ_eq_append_getElem hk, List.filter_append, e]
  simp [h]
theorem fil_no (a0 a1 : Int) (zs : List Int) (k : Nat) (x : Int) (hk : k < zs.length) (hx : zs.getD k 0 = x) (h : inS a0 a1 x = false) : fil a0 a1 (zs.take (k + 1)) = fil a0 a1 (zs.take k) := by
  have e : zs[k] = x := by rw [← hx]; simp [List.getD, hk]
  unfold fil
  rw [List.take_succ_eq_append_getElem hk, List.filter_append, e]
  simp [h]
theorem fil_le (a0 a1 : Int) (zs : List Int) (k : Nat) : (fil a0 a1 (zs.take k)).length ≤ k := Nat.le_trans (List.length_filter_le _ _) (List.length_take_le _ _)

theorem inside_none (a : Option Addr) (cap : Nat) (a0 a1 : Int) (w : World) : Calls Try.prog 20 #[.agg #[.int .i64 a0, .int .i64 a1], .slice a 0 cap] w (GivesI w.heap.size [] w) := by
  go_enter Try.func20, Try.ntmps20
  go_wp2
  refine wp_loop_rounds 1 ?_
  rw [rounds_succ]
  go_wp2_with (go_at_call 22; refine (Try.slices_Sort_int_none _ _ _).mono ?_; rintro e w' ⟨rfl, rfl⟩)
  go_ret
  exact ⟨_, rfl, World.ownsRow_nil _ _ _ _, up_alloc (Below.refl _ _) _⟩

def InsRel (a0 a1 : Int) (zs : List Int) (B : Nat) (w1 : World) (v i : Value) (wr : World) : Prop :=
  ∃ k : Nat, k ≤ zs.length ∧ i = .int .i64 (k : Int) ∧ rowI wr B v (fil a0 a1 (zs.take k)) ∧ Below B w1 wr

set_option maxHeartbeats 2000000 in
theorem inside_any (b off cap : Nat) (zs : List Int) (a0 a1 : Int) (w : World) (hl : 0 < zs.length) (hm : zs.length ≤ 60) (hb : b < w.heap.size) (hc : ∀ j, j < zs.length → w.cell? ⟨b, off + j, none⟩ = some (.int .i64 (zs.getD j 0))) :
    Calls Try.prog 20 #[.agg #[.int .i64 a0, .int .i64 a1], .slice (some ⟨b, off, none⟩) zs.length cap] w (GivesI w.heap.size (srt (fil a0 a1 zs)) w) := by
  have HC := Lib.hid hc; clear hc
  obtain ⟨i0, hi0, hz0, hz1, hz2⟩ := info_parts Try.infoInt
  generalize hn : zs.length = n at *
  have HN := Lib.hid hn; clear hn
  go_enter Try.func20, Try.ntmps20
  go_wp2
  have b0 : (w.alloc (.cells #[.int .i64 a0, .int .i64 a1] 23)).cell? ⟨w.heap.size, 0, none⟩ = some (.int .i64 a0) := by simp
  have b1 : (w.alloc (.cells #[.int .i64 a0, .int .i64 a1] 23)).cell? ⟨w.heap.size, 1, none⟩ = some (.int .i64 a1) := by simp
  have hup : Below w.heap.size w (w.alloc (.cells #[.int .i64 a0, .int .i64 a1] 23)) := up_alloc (Below.refl _ _) _
  have hsz : (w.alloc (.cells #[.int .i64 a0, .int .i64 a1] 23)).heap.size = w.heap.size + 1 := by simp
  generalize (w.alloc (.cells #[.int .i64 a0, .int .i64 a1] 23)) = w1 at *
  have HU := Lib.hid hup
  have HS := Lib.hid hsz
  have B0 := Lib.hid b0
  have B1 := Lib.hid b1
  clear hup hsz b0 b1
  go_loopw [5, 10] (fun v i wr => InsRel a0 a1 zs (w.heap.size + 1) w1 v i wr) (fun _ i _ => n - (intOf i).toNat)
  case atStart => exact ⟨0, by omega, by go_num, World.ownsRow_nil _ _ _ _, Below.refl _ _⟩
  case round =>
    obtain ⟨k, hk, rfl, hrow, hbel⟩ := hrel
    rw [HN.out] at hk
    have HR := Lib.hid hrow
    have HB := Lib.hid hbel
    have hsz := hbel.size
    rw [HS.out] at hsz
    by_cases hlt : k < n
    · obtain ⟨x, hx⟩ : ∃ x, zs.getD k 0 = x := ⟨_, rfl⟩
      have hcell : wr.cell? ⟨b, off + k, none⟩ = some (.int .i64 x) := by
        rw [hbel.cell (p := ⟨b, off + k, none⟩) (by show b < _; omega), HU.out.cell (p := ⟨b, off + k, none⟩) hb, HC.out k hlt, hx]
      have c0 : wr.cell? ⟨w.heap.size, 0, none⟩ = some (.int .i64 a0) := by rw [hbel.cell (p := ⟨w.heap.size, 0, none⟩) (by show w.heap.size < _; omega), B0.out]
      have c1 : wr.cell? ⟨w.heap.size, 1, none⟩ = some (.int .i64 a1) := by rw [hbel.cell (p := ⟨w.heap.size, 1, none⟩) (by show w.heap.size < _; omega), B1.out]
      have HX := Lib.hid hx
      have KH := fun w => has_any a0 a1 x w
      clear hrow hbel hx
      cases hin : inS a0 a1 x
      · rw [hin] at KH
        have HK := Lib.hid KH
        have HIn := Lib.hid hin
        clear KH hin
        go_wp2_with (go_at_call 10; refine (HK.out _).mono ?_; rintro e w' ⟨rfl, rfl⟩)
        go_roundw
        case rel => exact ⟨k + 1, by rw [HN.out]; omega, by go_num, by rw [fil_no a0 a1 zs k x (by rw [HN.out]; exact hlt) HX.out HIn.out]; exact HR.out.alloc _, HB.out.alloc (by omega) _⟩
        case measure => simp [intOf]; omega
      · rw [hin] at KH
        have HK := Lib.hid KH
        have HIn := Lib.hid hin
        have hle := fil_le a0 a1 zs k
        clear KH hin
        go_wp2_with (first
          | (go_at_call 10; refine (HK.out _).mono ?_; rintro e w' ⟨rfl, rfl⟩)
          | (at_builtin; refine wpList_append_lies _ rfl _ _ 30 rfl (w.heap.size + 1) 3 i0 _ 1 8 Try.underlying30 hi0 hz0 hz1 hz2 rfl (by omega) _ (fil a0 a1 (zs.take k)).length ((fil a0 a1 (zs.take k)).map (Value.int .i64)) rfl ((HR.out.alloc _).alloc _)
              ⟨wr.heap.size + 1, 0, none⟩ 1 1 [.int .i64 x] rfl rfl ?c1 ?c2 (by omega) (by unfold maxLen; omega) (by omega) (by simp; omega) _ rfl ?_))
        case c1 => exact World.news_of_block (cs := #[.int .i64 x]) (t := 3) (fr := (0, 0)) (by have h := heap_alloc_new (wr.alloc (.cells #[.int .i64 a0, .int .i64 a1] 23)) (.cells #[.int .i64 x] 3); simpa using h)
        case c2 => intro u hu; simp at hu; subst hu; rfl
        intro g cap' w2 hown hgrow hat hglt
        have HO1 := Lib.hid hown
        have HG := Lib.hid hgrow
        clear hown hgrow hat
        go_wp2
        go_roundw
        case rel =>
          refine ⟨k + 1, by rw [HN.out]; omega, by go_num, ?_, ?_⟩
          · rw [fil_yes a0 a1 zs k x (by rw [HN.out]; exact hlt) HX.out HIn.out]
            unfold rowI
            rw [List.length_append, List.map_append]
            exact HO1.out
          · exact Below.grown ((HB.out.alloc (by omega) _).alloc (by simp; omega) _) HG.out (by simp; omega) (fun j hj => (HR.out.lt j hj).1)
        case measure => simp [intOf]; omega
    · have hk2 : n ≤ k := by omega
      have e : fil a0 a1 (zs.take k) = fil a0 a1 zs := by rw [List.take_of_length_le (by rw [HN.out]; omega)]
      rw [e] at hrow
      have HS2 := Lib.hid (sort_any (w.heap.size + 1) _ (fil a0 a1 zs) wr hrow (by have := List.length_filter_le (inS a0 a1) zs; rw [HN.out] at this; unfold fil; omega))
      clear hrow hbel e HR
      go_wp2_with fail
      refine HS2.out.mono ?_
      rintro e w2 ⟨rfl, hr2, hb2⟩
      have HR2 := Lib.hid hr2
      have HB2 := Lib.hid hb2
      clear hr2 hb2
      go_wp2
      go_ret
      exact ⟨_, rfl, HR2.out.mono (by omega), HU.out.trans ((HB.out.trans HB2.out).mono (by omega))⟩
end Go.Proofs.Ytbaadohjlinlpaa
