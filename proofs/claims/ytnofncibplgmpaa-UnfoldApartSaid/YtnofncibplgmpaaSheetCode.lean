/- What grid's small calls answer (Cols, Rows, has, At, Set, New, All), of a grid of piles. -/
import Derived.Test.YtnofncibplgmpaaGridSmall
import Derived.IntWalk
import Derived.Laws.MakeOwn
import Derived.Lib.Hide
namespace Go.Proofs.Ytnofncibplgmpaa
open Go.RowKit
set_option linter.unusedVariables false

theorem Try.infoPtr : (Try.prog.info? 38).map (fun i => (i.zero, i.size, i.bytes)) = some (some (.pointer none), 1, 8) := by kernel_rfl

/-- A pile's pointer. -/
abbrev Ptr := Option Addr
/-- The pointers as cells. -/
def encS (l : List Ptr) : List Value := l.map Value.pointer

/-- A grid: its box at G, its things at A, row by row. -/
structure Gs (w : World) (G A : Nat) (c r : Int) (l : List Ptr) : Prop where
  box : Bx w G [.int .i64 c, .int .i64 r, .slice (some ⟨A, 0, none⟩) l.length l.length]
  row : Bx w A (encS l)
  c1 : 1 ≤ c
  c64 : c ≤ 64
  r1 : 1 ≤ r
  r64 : r ≤ 64
  len : (l.length : Int) = c * r
  ne : G ≠ A

theorem Gs.pos {w : World} {G A : Nat} {c r : Int} {l : List Ptr} (h : Gs w G A c r l) : 0 < l.length := by
  have h1 := Int.mul_pos (by have := h.c1; omega : 0 < c) (by have := h.r1; omega : 0 < r)
  have h2 := h.len
  omega
theorem Gs.le {w : World} {G A : Nat} {c r : Int} {l : List Ptr} (h : Gs w G A c r l) : l.length ≤ 4096 := by
  have h1 : c * r ≤ 64 * 64 := Int.mul_le_mul h.c64 h.r64 (by have := h.r1; omega) (by omega)
  have h2 := h.len
  omega
theorem encS_pos {l : List Ptr} (h : 0 < l.length) : 0 < (encS l).length := by simpa [encS] using h
theorem Gs.up {w w' : World} {G A : Nat} {c r : Int} {l : List Ptr} (h : Gs w G A c r l) (hb : Below w.heap.size w w') : Gs w' G A c r l :=
  ⟨h.box.up hb, h.row.upne (encS_pos h.pos) hb, h.c1, h.c64, h.r1, h.r64, h.len, h.ne⟩
theorem Gs.ltG {w : World} {G A : Nat} {c r : Int} {l : List Ptr} (h : Gs w G A c r l) : G < w.heap.size := h.box.lt
theorem Gs.ltA {w : World} {G A : Nat} {c r : Int} {l : List Ptr} (h : Gs w G A c r l) : A < w.heap.size := h.row.ltne (encS_pos h.pos)
theorem Gs.cell {w : World} {G A : Nat} {c r : Int} {l : List Ptr} (h : Gs w G A c r l) (k : Nat) (x : Ptr) (hx : l[k]? = some x) : w.cell? ⟨A, k, none⟩ = some (.pointer x) := h.row.cell k (by simp [encS, hx])
theorem Gs.kept {w w' : World} {G A : Nat} {c r : Int} {l : List Ptr} (h : Gs w G A c r l) {row : Option Nat} (hg : w.grownBy w' row) (h1 : some G ≠ row) (h2 : some A ≠ row) : Gs w' G A c r l :=
  ⟨h.box.kept (by simp) hg h1, h.row.kept (encS_pos h.pos) hg h2, h.c1, h.c64, h.r1, h.r64, h.len, h.ne⟩

theorem shCols_any {w : World} {G A : Nat} {c r : Int} {l : List Ptr} (h : Gs w G A c r l) :
    Calls Try.prog 51 #[.pointer (some ⟨G, 0, none⟩)] w fun e w' => e = .returned (.int .i64 c) ∧ w' = w := by
  have b0 := h.box.cell 0 rfl
  clear h
  go_enter Try.func51, Try.ntmps51
  go_wp2
  go_ret
  exact ⟨rfl, rfl⟩
theorem shRows_any {w : World} {G A : Nat} {c r : Int} {l : List Ptr} (h : Gs w G A c r l) :
    Calls Try.prog 52 #[.pointer (some ⟨G, 0, none⟩)] w fun e w' => e = .returned (.int .i64 r) ∧ w' = w := by
  have b0 := h.box.cell 1 rfl
  clear h
  go_enter Try.func52, Try.ntmps52
  go_wp2
  go_ret
  exact ⟨rfl, rfl⟩
theorem shCols_nil (w : World) : Calls Try.prog 51 #[.pointer none] w fun e w' => e = .returned (.int .i64 0) ∧ w' = w := by
  go_enter Try.func51, Try.ntmps51
  go_wp2
  go_ret
  exact ⟨rfl, rfl⟩
theorem shRows_nil (w : World) : Calls Try.prog 52 #[.pointer none] w fun e w' => e = .returned (.int .i64 0) ∧ w' = w := by
  go_enter Try.func52, Try.ntmps52
  go_wp2
  go_ret
  exact ⟨rfl, rfl⟩

/-- has, over whatever Cols and Rows answer. -/
theorem shHas_core (p : Value) (c r col row : Int) (w : World) (KC : Calls Try.prog 51 #[p] w fun e w' => e = .returned (.int .i64 c) ∧ w' = w) (KR : Calls Try.prog 52 #[p] w fun e w' => e = .returned (.int .i64 r) ∧ w' = w) :
    Calls Try.prog 41 #[p, .int .i64 col, .int .i64 row] w fun e w' => e = .returned (.bool (hasB c r col row)) ∧ w' = w := by
  have HC := Lib.hid KC; have HR := Lib.hid KR
  clear KC KR
  by_cases h1 : 0 ≤ col
  · by_cases h2 : col < c
    · by_cases h3 : 0 ≤ row
      · by_cases h4 : row < r
        all_goals
          go_enter Try.func41, Try.ntmps41
          go_wp2_with (first | (go_at_call 51; refine HC.out.mono ?_; rintro e w' ⟨rfl, rfl⟩) | (go_at_call 52; refine HR.out.mono ?_; rintro e w' ⟨rfl, rfl⟩))
          go_ret
          exact ⟨by simp [hasB, h1, h2, h3, h4], rfl⟩
      · go_enter Try.func41, Try.ntmps41
        go_wp2_with (go_at_call 51; refine HC.out.mono ?_; rintro e w' ⟨rfl, rfl⟩)
        go_ret
        exact ⟨by simp [hasB]; omega, rfl⟩
    · go_enter Try.func41, Try.ntmps41
      go_wp2_with (go_at_call 51; refine HC.out.mono ?_; rintro e w' ⟨rfl, rfl⟩)
      go_ret
      exact ⟨by simp [hasB]; omega, rfl⟩
  · go_enter Try.func41, Try.ntmps41
    go_wp2
    go_ret
    exact ⟨by simp [hasB]; omega, rfl⟩
theorem shHas_any {w : World} {G A : Nat} {c r : Int} {l : List Ptr} (h : Gs w G A c r l) (col row : Int) :
    Calls Try.prog 41 #[.pointer (some ⟨G, 0, none⟩), .int .i64 col, .int .i64 row] w fun e w' => e = .returned (.bool (hasB c r col row)) ∧ w' = w :=
  shHas_core _ c r col row w (shCols_any h) (shRows_any h)
theorem shHas_nil (col row : Int) (w : World) :
    Calls Try.prog 41 #[.pointer none, .int .i64 col, .int .i64 row] w fun e w' => e = .returned (.bool false) ∧ w' = w := by
  have h := shHas_core (.pointer none) 0 0 col row w (shCols_nil w) (shRows_nil w)
  have e : hasB 0 0 col row = false := by
    cases h : hasB 0 0 col row
    · rfl
    · simp [hasB] at h
      omega
  rwa [e] at h

theorem Gs.at1_lt {w : World} {G A : Nat} {c r : Int} {l : List Ptr} (h : Gs w G A c r l) {col row : Int} (hh : hasB c r col row = true) : at1 c col row < l.length := by
  have := Go.Proofs.Ytnofncibplgmpaa.at1_lt hh
  have := h.len
  unfold at1
  omega

set_option maxHeartbeats 1000000 in
theorem shAt_yes {w : World} {G A : Nat} {c r : Int} {l : List Ptr} (h : Gs w G A c r l) (col row : Int) (x : Ptr) (hh : hasB c r col row = true) (hx : l[at1 c col row]? = some x) :
    Calls Try.prog 23 #[.pointer (some ⟨G, 0, none⟩), .int .i64 col, .int .i64 row] w fun e w' => e = .returned (.tuple #[.pointer x, .bool true]) ∧ Below w.heap.size w w' := by
  have KH := shHas_any h col row
  rw [hh] at KH
  obtain ⟨g0, g1, g2⟩ := Go.Proofs.Ytnofncibplgmpaa.at1_lt hh
  have gl := h.len
  have gm := h.le
  have b0 := fun u : Later w => u.cell (h.box.cell 0 rfl)
  have b2 := fun u : Later w => u.cell (h.box.cell 2 rfl)
  have bx := h.cell _ x hx
  unfold at1 at bx
  generalize hm : row * c = m at *
  generalize hs : m + col = s at *
  generalize l.length = n at *
  obtain ⟨k, hk⟩ : ∃ k : Nat, s = (k : Int) := ⟨s.toNat, by omega⟩
  subst hk
  simp only [Int.toNat_natCast] at bx
  have bk := fun u : Later w => u.cell bx
  have z0 : (0 : Int) ≤ (k : Int) := by omega
  have z1 : (k : Int) < (n : Int) := by omega
  have wm : IntKind.i64.wrap (row * c) = m := by rw [hm]; exact IntWalk.i64_in _ (by simp [hasB] at hh; omega)
  have ws : IntKind.i64.wrap (m + col) = (k : Int) := by rw [hs]; exact IntWalk.i64_in _ (by omega)
  have HK := Lib.hid KH
  clear KH h hh hx gl gm hm hs g0 g1 g2 bx
  go_enter Try.func23, Try.ntmps23
  go_wp2_with (go_at_call 41; refine HK.out.mono ?_; rintro e w' ⟨rfl, rfl⟩)
  refine later_start (w := w') ?_
  intro u
  refine wp_region_later (by kernel_rfl) (by kernel_rfl) ?_
  repeat (go_big_quiet_step (fail))
  refine wpQuiet_nil ?_
  rintro _ ⟨u2, rfl⟩
  clear b0 b2 bk
  go_wp2
  exact bodyPost_ret (v := .tuple #[.pointer x, .bool true]) (by simp [results, Try.results23, go_sem]) rfl ⟨rfl, u2.up⟩
theorem shAt_no (p : Value) (col row : Int) (w : World) (KH : Calls Try.prog 41 #[p, .int .i64 col, .int .i64 row] w fun e w' => e = .returned (.bool false) ∧ w' = w) :
    Calls Try.prog 23 #[p, .int .i64 col, .int .i64 row] w fun e w' => e = .returned (.tuple #[.pointer none, .bool false]) ∧ Below w.heap.size w w' := by
  have HK := Lib.hid KH
  clear KH
  go_enter Try.func23, Try.ntmps23
  go_wp2_with (go_at_call 41; refine HK.out.mono ?_; rintro e w' ⟨rfl, rfl⟩)
  exact bodyPost_ret (v := .tuple #[.pointer none, .bool false]) (by simp [results, Try.results23, go_sem]) rfl ⟨rfl, Below.refl _ _⟩

/-- The list with x laid there, if there is such a place. -/
def setS (c r : Int) (l : List Ptr) (col row : Int) (x : Ptr) : List Ptr := if hasB c r col row = true then l.set (at1 c col row) x else l
theorem Bx.stored {w w' : World} {B : Nat} {l : List Ptr} (h : Bx w B (encS l)) (hb : Below w.heap.size w w') (hne : 0 < l.length) (k : Nat) (x : Ptr) : Bx (w'.setCell ⟨B, k, none⟩ (.pointer x)) B (encS (l.set k x)) := by
  have := (h.upne (encS_pos hne) hb).set k (.pointer x)
  simpa [encS, List.map_set] using this
theorem Gs.stored {w w' : World} {G A : Nat} {c r : Int} {l : List Ptr} (h : Gs w G A c r l) (hb : Below w.heap.size w w') (k : Nat) (x : Ptr) : Gs (w'.setCell ⟨A, k, none⟩ (.pointer x)) G A c r (l.set k x) := by
  refine ⟨?_, h.row.stored hb h.pos k x, h.c1, h.c64, h.r1, h.r64, by rw [List.length_set]; exact h.len, h.ne⟩
  rw [List.length_set]
  exact (h.box.up hb).far (fun e => h.ne e.symm) _

set_option maxHeartbeats 1000000 in
theorem shSet_yes {w : World} {G A : Nat} {c r : Int} {l : List Ptr} (h : Gs w G A c r l) (col row : Int) (x : Ptr) (hh : hasB c r col row = true) :
    Calls Try.prog 33 #[.pointer (some ⟨G, 0, none⟩), .int .i64 col, .int .i64 row, .pointer x] w fun e w' => e = .returned (.bool true) ∧ Gs w' G A c r (l.set (at1 c col row) x) ∧ w.grownBy w' (some A) := by
  have KH := shHas_any h col row
  rw [hh] at KH
  obtain ⟨g0, g1, g2⟩ := Go.Proofs.Ytnofncibplgmpaa.at1_lt hh
  have gl := h.len
  have gm := h.le
  have hlt := h.at1_lt hh
  have b0 := fun u : Later w => u.cell (h.box.cell 0 rfl)
  have b2 := fun u : Later w => u.cell (h.box.cell 2 rfl)
  have bx := h.cell _ _ (List.getElem?_eq_getElem hlt)
  generalize l[at1 c col row] = y at bx
  have bf := h.row.free (at1 c col row)
  have hA := h.ltA
  have HG := Lib.hid h
  clear h
  unfold at1 at *
  generalize hm : row * c = m at *
  generalize hs : m + col = s at *
  generalize l.length = n at *
  obtain ⟨k, hk⟩ : ∃ k : Nat, s = (k : Int) := ⟨s.toNat, by omega⟩
  subst hk
  simp only [Int.toNat_natCast] at bx bf HG ⊢
  have bk := fun u : Later w => u.cell bx
  have bz := fun u : Later w => (kept_marks u.up A k hA).trans bf
  have z0 : (0 : Int) ≤ (k : Int) := by omega
  have z1 : (k : Int) < (n : Int) := by omega
  have wm : IntKind.i64.wrap (row * c) = m := by rw [hm]; exact IntWalk.i64_in _ (by simp [hasB] at hh; omega)
  have ws : IntKind.i64.wrap (m + col) = (k : Int) := by rw [hs]; exact IntWalk.i64_in _ (by omega)
  have HK := Lib.hid KH
  clear KH hh gl gm hm hs g0 g1 g2 bx bf hA hlt
  go_enter Try.func33, Try.ntmps33
  go_wp2_with (go_at_call 41; refine HK.out.mono ?_; rintro e w' ⟨rfl, rfl⟩)
  refine later_start (w := w') ?_
  intro u
  refine wp_region_later_tail 14 (by kernel_rfl) (by kernel_rfl) ?_
  simp only [List.take_succ_cons, List.take_zero, List.drop_succ_cons, List.drop_zero]
  repeat (go_big_quiet_step (fail))
  refine wpQuiet_nil ?_
  rintro _ ⟨u2, rfl⟩
  have y0 := bk u2
  have y1 := bz u2
  clear b0 b2 bk bz
  go_wp2
  go_ret
  exact ⟨rfl, HG.out.stored u2.up k x, grown_of_below u2.up A k _⟩
theorem shSet_no (p : Value) (col row : Int) (x : Ptr) (w : World) (KH : Calls Try.prog 41 #[p, .int .i64 col, .int .i64 row] w fun e w' => e = .returned (.bool false) ∧ w' = w) :
    Calls Try.prog 33 #[p, .int .i64 col, .int .i64 row, .pointer x] w fun e w' => e = .returned (.bool false) ∧ w' = w := by
  have HK := Lib.hid KH
  clear KH
  go_enter Try.func33, Try.ntmps33
  go_wp2_with (go_at_call 41; refine HK.out.mono ?_; rintro e w' ⟨rfl, rfl⟩)
  go_ret
  exact ⟨rfl, rfl⟩
/-- Set, whatever place: the grid has x there, or is as it was; nothing else has changed. -/
theorem shSet_any {w : World} {G A : Nat} {c r : Int} {l : List Ptr} (h : Gs w G A c r l) (col row : Int) (x : Ptr) :
    Calls Try.prog 33 #[.pointer (some ⟨G, 0, none⟩), .int .i64 col, .int .i64 row, .pointer x] w fun e w' => e = .returned (.bool (hasB c r col row)) ∧ Gs w' G A c r (setS c r l col row x) ∧ w.grownBy w' (some A) := by
  cases hh : hasB c r col row
  · refine (shSet_no _ col row x w (by have := shHas_any h col row; rwa [hh] at this)).mono ?_
    rintro e w' ⟨rfl, rfl⟩
    exact ⟨rfl, by simpa [setS, hh] using h, grown_refl _ _⟩
  · refine (shSet_yes h col row x hh).mono ?_
    rintro e w' ⟨rfl, h1, h2⟩
    exact ⟨rfl, by simpa [setS, hh] using h1, h2⟩

theorem shNew_no (c r : Int) (h : inB c 1 64 = false ∨ inB r 1 64 = false) (w : World) :
    Calls Try.prog 31 #[.int .i64 c, .int .i64 r] w fun e w' => e = .returned (.pointer none) ∧ w' = w := by
  have KC := isSide_any c
  have KR := isSide_any r
  cases hc : inB c 1 64
  · rw [hc] at KC
    have HC := Lib.hid KC
    clear KC KR
    go_enter Try.func31, Try.ntmps31
    go_wp2_with (go_at_call 48; refine (HC.out _).mono ?_; rintro e w' ⟨rfl, rfl⟩)
    go_ret
    exact ⟨rfl, rfl⟩
  · rw [hc] at h
    rw [hc] at KC
    rw [h.resolve_left (by simp)] at KR
    have HC := Lib.hid KC; have HR := Lib.hid KR
    clear KC KR h hc
    go_enter Try.func31, Try.ntmps31
    go_wp2_with (go_at_call 48; refine (HC.out _).mono ?_; clear HC; rintro e w' ⟨rfl, rfl⟩)
    refine (HR.out _).mono ?_
    rintro e w' ⟨rfl, rfl⟩
    go_wp2
    go_ret
    exact ⟨rfl, rfl⟩

theorem madeS_encS (n : Nat) : madeCells (Value.cells (.pointer none)) n = (encS (List.replicate n none)).toArray := by
  apply Array.ext
  · simp [madeCells, encS]
  · intro i h1 h2
    simp [madeCells, encS, Value.cells, Nat.mod_one]

set_option maxHeartbeats 1000000 in
theorem shNew_yes (c r : Int) (hc : inB c 1 64 = true) (hr : inB r 1 64 = true) (w : World) :
    Calls Try.prog 31 #[.int .i64 c, .int .i64 r] w fun e w' => e = .returned (.pointer (some ⟨w.heap.size + 1, 0, none⟩)) ∧ Gs w' (w.heap.size + 1) w.heap.size c r (List.replicate (c * r).toNat none) ∧ Below w.heap.size w w' := by
  have KC := isSide_any c
  have KR := isSide_any r
  rw [hc] at KC
  rw [hr] at KR
  have HC := Lib.hid KC; have HR := Lib.hid KR
  clear KC KR
  obtain ⟨i0, hi, hz0, hz1, hz2⟩ := info_parts Try.infoPtr
  have hc' : 1 ≤ c ∧ c ≤ 64 := by simpa [inB] using hc
  have hr' : 1 ≤ r ∧ r ≤ 64 := by simpa [inB] using hr
  have h1 : 0 < c * r := Int.mul_pos (by omega) (by omega)
  have h2 : c * r ≤ 64 * 64 := Int.mul_le_mul hc'.2 hr'.2 (by omega) (by omega)
  clear hc hr
  obtain ⟨n, hn⟩ : ∃ n : Nat, c * r = (n : Int) := ⟨(c * r).toNat, by omega⟩
  have HN := Lib.hid hn
  rw [hn] at h1 h2 ⊢
  have wn : IntKind.i64.wrap (c * r) = (n : Int) := by rw [hn]; exact IntWalk.i64_in _ (by omega)
  have mk : ∀ w : World, (Instr.makeSlice 80 (.int .i64 (n : Int)) (.int .i64 (n : Int))).run Try.prog w = .ok (.slice (some ⟨w.heap.size, 0, none⟩) n n) (w.alloc (.cells (encS (List.replicate n none)).toArray 38)) := by
    intro w
    have := run_make (P := Try.prog) w 80 38 i0 (.pointer none) Try.underlying80 hi hz0 .i64 .i64 (n : Int) (n : Int) (by omega) (Int.le_refl _) (by rw [hz2]; omega) (by omega)
    rw [hz1, Int.toNat_natCast, Nat.mul_one, madeS_encS] at this
    exact this
  clear hn
  go_enter Try.func31, Try.ntmps31
  go_wp2_with (go_at_call 48; refine (HC.out _).mono ?_; clear HC; rintro e w' ⟨rfl, rfl⟩)
  refine (HR.out _).mono ?_
  rintro e w' ⟨rfl, rfl⟩
  go_wp2
  go_ret
  refine ⟨rfl, ?_, ?_⟩
  · refine ⟨?_, ?_, hc'.1, hc'.2, hr'.1, hr'.2, ?_, by omega⟩
    · have h := Bx.new (w'.alloc (.cells (encS (List.replicate n none)).toArray 38)) 82 [.int .i64 c, .int .i64 r, .slice (some ⟨w'.heap.size, 0, none⟩) n n]
      simpa using h
    · exact (Bx.new w' 38 (encS (List.replicate n none))).upne (encS_pos (by simp; omega)) (up_alloc (Below.refl _ _) _)
    · simp; exact HN.out.symm
  · exact up_alloc (up_alloc (Below.refl _ _) _) _

theorem shAll_any (p : Option Addr) (w : World) :
    Calls Try.prog 32 #[.pointer p] w fun e w' => e = .returned (.func (.func 49) #[] #[.pointer (some ⟨w.heap.size, 0, none⟩)]) ∧ w' = w.alloc (.cells #[.pointer p] 54) := by
  go_enter Try.func32, Try.ntmps32
  go_wp2
  go_ret
  exact ⟨rfl, rfl⟩

end Go.Proofs.Ytnofncibplgmpaa
