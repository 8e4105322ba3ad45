/- What grid's small calls answer (isSide, fits, Cols, Rows, has, At, Set, New, All), and the document's own In, for every input. -/
import Derived.Test.YtlbklfanphkacaaProg
import Derived.Test.YtlbklfanphkacaaBoxes
import Derived.Test.YtlbklfanphkacaaQuietTail
import Derived.IntWalk
import Derived.Laws.MakeOwn
import Derived.Lib.Hide
namespace Go.Proofs.Ytlbklfanphkacaa
open Go.RowKit
set_option linter.unusedVariables false

theorem Try.infoInt : (Try.prog.info? 3).map (fun i => (i.zero, i.size, i.bytes)) = some (some (.int .i64 0), 1, 8) := by kernel_rfl

/-- n is from lo to hi. -/
def inB (n lo hi : Int) : Bool := decide (lo ≤ n) && decide (n ≤ hi)
/-- There is such a place. -/
def hasB (c r col row : Int) : Bool := decide (0 ≤ col) && decide (col < c) && (decide (0 ≤ row) && decide (row < r))
/-- The numbers as cells. -/
def enc (l : List Int) : List Value := l.map (Value.int .i64)

theorem refIn_any (n lo hi : Int) (w : World) :
    Calls Try.prog 10 #[.int .i64 n, .int .i64 lo, .int .i64 hi] w fun e w' => e = .returned (.bool (inB n lo hi)) ∧ w' = w := by
  by_cases h1 : lo ≤ n <;> by_cases h2 : n ≤ hi
  all_goals
    go_enter Try.func10, Try.ntmps10
    go_wp2
    go_ret
    exact ⟨by simp [inB, h1, h2], rfl⟩

theorem isSide_any (n : Int) (w : World) :
    Calls Try.prog 21 #[.int .i64 n] w fun e w' => e = .returned (.bool (inB n 1 64)) ∧ w' = w := by
  by_cases h1 : 1 ≤ n <;> by_cases h2 : n ≤ 64
  all_goals
    go_enter Try.func21, Try.ntmps21
    go_wp2
    go_ret
    exact ⟨by simp [inB, h1, h2], rfl⟩

/-- A grid: its box at G, its things at A, row by row. -/
structure Gd (w : World) (G A : Nat) (c r : Int) (l : List Int) : Prop where
  box : Bx w G [.int .i64 c, .int .i64 r, .slice (some ⟨A, 0, none⟩) l.length l.length]
  row : Bx w A (enc l)
  c1 : 1 ≤ c
  c64 : c ≤ 64
  r1 : 1 ≤ r
  r64 : r ≤ 64
  len : (l.length : Int) = c * r
  ne : G ≠ A

theorem Gd.pos {w : World} {G A : Nat} {c r : Int} {l : List Int} (h : Gd w G A c r l) : 0 < l.length := by
  have h1 := Int.mul_pos (by have := h.c1; omega : 0 < c) (by have := h.r1; omega : 0 < r)
  have h2 := h.len
  omega
theorem Gd.le {w : World} {G A : Nat} {c r : Int} {l : List Int} (h : Gd w G A c r l) : l.length ≤ 4096 := by
  have h1 : c * r ≤ 64 * 64 := Int.mul_le_mul h.c64 h.r64 (by have := h.r1; omega) (by omega)
  have h2 := h.len
  omega
theorem Bx.upne {w w' : World} {B : Nat} {vs : List Value} (h : Bx w B vs) (hne : 0 < vs.length) (hb : Below w.heap.size w w') : Bx w' B vs := by
  cases vs with
  | nil => simp at hne
  | cons v0 vs => exact h.up hb
theorem Bx.ltne {w : World} {B : Nat} {vs : List Value} (h : Bx w B vs) (hne : 0 < vs.length) : B < w.heap.size := by
  cases vs with
  | nil => simp at hne
  | cons v0 vs => exact h.lt
theorem enc_pos {l : List Int} (h : 0 < l.length) : 0 < (enc l).length := by simpa [enc] using h
theorem Gd.up {w w' : World} {G A : Nat} {c r : Int} {l : List Int} (h : Gd w G A c r l) (hb : Below w.heap.size w w') : Gd w' G A c r l :=
  ⟨h.box.up hb, h.row.upne (enc_pos h.pos) hb, h.c1, h.c64, h.r1, h.r64, h.len, h.ne⟩
theorem Gd.ltG {w : World} {G A : Nat} {c r : Int} {l : List Int} (h : Gd w G A c r l) : G < w.heap.size := h.box.lt
theorem Gd.ltA {w : World} {G A : Nat} {c r : Int} {l : List Int} (h : Gd w G A c r l) : A < w.heap.size := h.row.ltne (enc_pos h.pos)
theorem Gd.cell {w : World} {G A : Nat} {c r : Int} {l : List Int} (h : Gd w G A c r l) (k : Nat) (x : Int) (hx : l[k]? = some x) : w.cell? ⟨A, k, none⟩ = some (.int .i64 x) := h.row.cell k (by simp [enc, hx])
/-- Another block that was written leaves a grid as it was. -/
theorem Bx.kept {w w' : World} {B : Nat} {vs : List Value} (h : Bx w B vs) (hne : 0 < vs.length) {row : Option Nat} (hg : w.grownBy w' row) (hr : some B ≠ row) : Bx w' B vs :=
  have e := hg.block B (h.ltne hne) hr
  ⟨fun j v hj => (World.cell?_of_block (a := ⟨B, j, none⟩) e).trans (h.1 j v hj), fun j => (World.frozen?_of_block (a := ⟨B, j, none⟩) e).trans (h.2 j)⟩
theorem Gd.kept {w w' : World} {G A : Nat} {c r : Int} {l : List Int} (h : Gd w G A c r l) {row : Option Nat} (hg : w.grownBy w' row) (h1 : some G ≠ row) (h2 : some A ≠ row) : Gd w' G A c r l :=
  ⟨h.box.kept (by simp) hg h1, h.row.kept (enc_pos h.pos) hg h2, h.c1, h.c64, h.r1, h.r64, h.len, h.ne⟩

theorem cols_any {w : World} {G A : Nat} {c r : Int} {l : List Int} (h : Gd w G A c r l) :
    Calls Try.prog 19 #[.pointer (some ⟨G, 0, none⟩)] w fun e w' => e = .returned (.int .i64 c) ∧ w' = w := by
  have b0 := h.box.cell 0 rfl
  clear h
  go_enter Try.func19, Try.ntmps19
  go_wp2
  go_ret
  exact ⟨rfl, rfl⟩
theorem rows_any {w : World} {G A : Nat} {c r : Int} {l : List Int} (h : Gd w G A c r l) :
    Calls Try.prog 22 #[.pointer (some ⟨G, 0, none⟩)] w fun e w' => e = .returned (.int .i64 r) ∧ w' = w := by
  have b0 := h.box.cell 1 rfl
  clear h
  go_enter Try.func22, Try.ntmps22
  go_wp2
  go_ret
  exact ⟨rfl, rfl⟩
theorem cols_nil (w : World) : Calls Try.prog 19 #[.pointer none] w fun e w' => e = .returned (.int .i64 0) ∧ w' = w := by
  go_enter Try.func19, Try.ntmps19
  go_wp2
  go_ret
  exact ⟨rfl, rfl⟩
theorem rows_nil (w : World) : Calls Try.prog 22 #[.pointer none] w fun e w' => e = .returned (.int .i64 0) ∧ w' = w := by
  go_enter Try.func22, Try.ntmps22
  go_wp2
  go_ret
  exact ⟨rfl, rfl⟩

/-- has, over whatever Cols and Rows answer. -/
theorem has_core (p : Value) (c r col row : Int) (w : World) (KC : Calls Try.prog 19 #[p] w fun e w' => e = .returned (.int .i64 c) ∧ w' = w) (KR : Calls Try.prog 22 #[p] w fun e w' => e = .returned (.int .i64 r) ∧ w' = w) :
    Calls Try.prog 25 #[p, .int .i64 col, .int .i64 row] w fun e w' => e = .returned (.bool (hasB c r col row)) ∧ w' = w := by
  have HC := Lib.hid KC; have HR := Lib.hid KR
  clear KC KR
  by_cases h1 : 0 ≤ col
  · by_cases h2 : col < c
    · by_cases h3 : 0 ≤ row
      · by_cases h4 : row < r
        all_goals
          go_enter Try.func25, Try.ntmps25
          go_wp2_with (first | (go_at_call 19; refine HC.out.mono ?_; rintro e w' ⟨rfl, rfl⟩) | (go_at_call 22; refine HR.out.mono ?_; rintro e w' ⟨rfl, rfl⟩))
          go_ret
          exact ⟨by simp [hasB, h1, h2, h3, h4], rfl⟩
      · go_enter Try.func25, Try.ntmps25
        go_wp2_with (go_at_call 19; refine HC.out.mono ?_; rintro e w' ⟨rfl, rfl⟩)
        go_ret
        exact ⟨by simp [hasB]; omega, rfl⟩
    · go_enter Try.func25, Try.ntmps25
      go_wp2_with (go_at_call 19; refine HC.out.mono ?_; rintro e w' ⟨rfl, rfl⟩)
      go_ret
      exact ⟨by simp [hasB]; omega, rfl⟩
  · go_enter Try.func25, Try.ntmps25
    go_wp2
    go_ret
    exact ⟨by simp [hasB]; omega, rfl⟩
theorem has_any {w : World} {G A : Nat} {c r : Int} {l : List Int} (h : Gd w G A c r l) (col row : Int) :
    Calls Try.prog 25 #[.pointer (some ⟨G, 0, none⟩), .int .i64 col, .int .i64 row] w fun e w' => e = .returned (.bool (hasB c r col row)) ∧ w' = w :=
  has_core _ c r col row w (cols_any h) (rows_any h)
theorem has_nil (col row : Int) (w : World) :
    Calls Try.prog 25 #[.pointer none, .int .i64 col, .int .i64 row] w fun e w' => e = .returned (.bool false) ∧ w' = w := by
  have h := has_core (.pointer none) 0 0 col row w (cols_nil w) (rows_nil w)
  have e : hasB 0 0 col row = false := by
    cases h : hasB 0 0 col row
    · rfl
    · simp [hasB] at h
      omega
  rwa [e] at h

/-- Where a thing stands in the list. -/
def at1 (c col row : Int) : Nat := (row * c + col).toNat
theorem at1_lt {c r col row : Int} (h : hasB c r col row = true) : 0 ≤ row * c + col ∧ row * c + col < c * r ∧ 0 ≤ row * c := by
  simp [hasB] at h
  obtain ⟨⟨h1, h2⟩, h3, h4⟩ := h
  have a : 0 ≤ row * c := Int.mul_nonneg h3 (by omega)
  have b : (row + 1) * c ≤ r * c := Int.mul_le_mul_of_nonneg_right (by omega) (by omega)
  rw [Int.add_mul, Int.one_mul] at b
  rw [Int.mul_comm c r]
  omega
theorem Gd.at1_lt {w : World} {G A : Nat} {c r : Int} {l : List Int} (h : Gd w G A c r l) {col row : Int} (hh : hasB c r col row = true) : at1 c col row < l.length := by
  have := Go.Proofs.Ytlbklfanphkacaa.at1_lt hh
  have := h.len
  unfold at1
  omega

set_option maxHeartbeats 1000000 in
theorem at_yes {w : World} {G A : Nat} {c r : Int} {l : List Int} (h : Gd w G A c r l) (col row x : Int) (hh : hasB c r col row = true) (hx : l[at1 c col row]? = some x) :
    Calls Try.prog 20 #[.pointer (some ⟨G, 0, none⟩), .int .i64 col, .int .i64 row] w fun e w' => e = .returned (.tuple #[.int .i64 x, .bool true]) ∧ Below w.heap.size w w' := by
  have KH := has_any h col row
  rw [hh] at KH
  obtain ⟨g0, g1, g2⟩ := Go.Proofs.Ytlbklfanphkacaa.at1_lt hh
  have gl := h.len
  have gm := h.le
  have b0 := fun u : Later w => u.cell (h.box.cell 0 rfl)
  have b2 := fun u : Later w => u.cell (h.box.cell 2 rfl)
  have bx := h.cell _ x hx
  unfold at1 at bx
  generalize hm : row * c = m at *
  generalize hs : m + col = s at *
  generalize l.length = n at *
  obtain ⟨k, hk⟩ : ∃ k : Nat, s = (k : Int) := ⟨s.toNat, by omega⟩
  subst hk
  simp only [Int.toNat_natCast] at bx
  have bk := fun u : Later w => u.cell bx
  have z0 : (0 : Int) ≤ (k : Int) := by omega
  have z1 : (k : Int) < (n : Int) := by omega
  have wm : IntKind.i64.wrap (row * c) = m := by rw [hm]; exact IntWalk.i64_in _ (by simp [hasB] at hh; omega)
  have ws : IntKind.i64.wrap (m + col) = (k : Int) := by rw [hs]; exact IntWalk.i64_in _ (by omega)
  have HK := Lib.hid KH
  clear KH h hh hx gl gm hm hs g0 g1 g2 bx
  go_enter Try.func20, Try.ntmps20
  go_wp2_with (go_at_call 25; refine HK.out.mono ?_; rintro e w' ⟨rfl, rfl⟩)
  refine later_start (w := w') ?_
  intro u
  refine wp_region_later (by kernel_rfl) (by kernel_rfl) ?_
  repeat (go_big_quiet_step (fail))
  refine wpQuiet_nil ?_
  rintro _ ⟨u2, rfl⟩
  clear b0 b2 bk
  go_wp2
  exact bodyPost_ret (v := .tuple #[.int .i64 x, .bool true]) (by simp [results, Try.results20, go_sem]) rfl ⟨rfl, u2.up⟩
theorem at_no (p : Value) (col row : Int) (w : World) (KH : Calls Try.prog 25 #[p, .int .i64 col, .int .i64 row] w fun e w' => e = .returned (.bool false) ∧ w' = w) :
    Calls Try.prog 20 #[p, .int .i64 col, .int .i64 row] w fun e w' => e = .returned (.tuple #[.int .i64 0, .bool false]) ∧ Below w.heap.size w w' := by
  have HK := Lib.hid KH
  clear KH
  go_enter Try.func20, Try.ntmps20
  go_wp2_with (go_at_call 25; refine HK.out.mono ?_; rintro e w' ⟨rfl, rfl⟩)
  exact bodyPost_ret (v := .tuple #[.int .i64 0, .bool false]) (by simp [results, Try.results20, go_sem]) rfl ⟨rfl, Below.refl _ _⟩

/-- The list with x laid there, if there is such a place. -/
def setL (c r : Int) (l : List Int) (col row x : Int) : List Int := if hasB c r col row = true then l.set (at1 c col row) x else l
theorem grown_of_below {w w' : World} (h : Below w.heap.size w w') (A : Nat) (k : Nat) (v : Value) : w.grownBy (w'.setCell ⟨A, k, none⟩ v) (some A) :=
  ⟨h.os, h.tape, h.output, by have := h.size; simpa [World.setCell] using this, fun j hj hne => (Below.heap_setCell _ _ _ _ (fun e => hne (by rw [e]))).trans (h.block j hj)⟩
theorem Bx.stored {w w' : World} {B : Nat} {l : List Int} (h : Bx w B (enc l)) (hb : Below w.heap.size w w') (hne : 0 < l.length) (k : Nat) (x : Int) : Bx (w'.setCell ⟨B, k, none⟩ (.int .i64 x)) B (enc (l.set k x)) := by
  have := (h.upne (enc_pos hne) hb).set k (.int .i64 x)
  simpa [enc, List.map_set] using this
theorem Gd.stored {w w' : World} {G A : Nat} {c r : Int} {l : List Int} (h : Gd w G A c r l) (hb : Below w.heap.size w w') (k : Nat) (x : Int) : Gd (w'.setCell ⟨A, k, none⟩ (.int .i64 x)) G A c r (l.set k x) := by
  refine ⟨?_, h.row.stored hb h.pos k x, h.c1, h.c64, h.r1, h.r64, by rw [List.length_set]; exact h.len, h.ne⟩
  rw [List.length_set]
  exact (h.box.up hb).far (fun e => h.ne e.symm) _

set_option maxHeartbeats 1000000 in
theorem set_yes {w : World} {G A : Nat} {c r : Int} {l : List Int} (h : Gd w G A c r l) (col row x : Int) (hh : hasB c r col row = true) :
    Calls Try.prog 17 #[.pointer (some ⟨G, 0, none⟩), .int .i64 col, .int .i64 row, .int .i64 x] w fun e w' => e = .returned (.bool true) ∧ Gd w' G A c r (l.set (at1 c col row) x) ∧ w.grownBy w' (some A) := by
  have KH := has_any h col row
  rw [hh] at KH
  obtain ⟨g0, g1, g2⟩ := Go.Proofs.Ytlbklfanphkacaa.at1_lt hh
  have gl := h.len
  have gm := h.le
  have hlt := h.at1_lt hh
  have b0 := fun u : Later w => u.cell (h.box.cell 0 rfl)
  have b2 := fun u : Later w => u.cell (h.box.cell 2 rfl)
  have bx := h.cell _ _ (List.getElem?_eq_getElem hlt)
  generalize l[at1 c col row] = y at bx
  have bf := h.row.free (at1 c col row)
  have hA := h.ltA
  have HG := Lib.hid h
  clear h
  unfold at1 at *
  generalize hm : row * c = m at *
  generalize hs : m + col = s at *
  generalize l.length = n at *
  obtain ⟨k, hk⟩ : ∃ k : Nat, s = (k : Int) := ⟨s.toNat, by omega⟩
  subst hk
  simp only [Int.toNat_natCast] at bx bf HG ⊢
  have bk := fun u : Later w => u.cell bx
  have bz := fun u : Later w => (kept_marks u.up A k hA).trans bf
  have z0 : (0 : Int) ≤ (k : Int) := by omega
  have z1 : (k : Int) < (n : Int) := by omega
  have wm : IntKind.i64.wrap (row * c) = m := by rw [hm]; exact IntWalk.i64_in _ (by simp [hasB] at hh; omega)
  have ws : IntKind.i64.wrap (m + col) = (k : Int) := by rw [hs]; exact IntWalk.i64_in _ (by omega)
  have HK := Lib.hid KH
  clear KH hh gl gm hm hs g0 g1 g2 bx bf hA hlt
  go_enter Try.func17, Try.ntmps17
  go_wp2_with (go_at_call 25; refine HK.out.mono ?_; rintro e w' ⟨rfl, rfl⟩)
  refine later_start (w := w') ?_
  intro u
  refine wp_region_later_tail 14 (by kernel_rfl) (by kernel_rfl) ?_
  simp only [List.take_succ_cons, List.take_zero, List.drop_succ_cons, List.drop_zero]
  repeat (go_big_quiet_step (fail))
  refine wpQuiet_nil ?_
  rintro _ ⟨u2, rfl⟩
  have y0 := bk u2
  have y1 := bz u2
  clear b0 b2 bk bz
  go_wp2
  go_ret
  exact ⟨rfl, HG.out.stored u2.up k x, grown_of_below u2.up A k _⟩
theorem set_no (p : Value) (col row x : Int) (w : World) (KH : Calls Try.prog 25 #[p, .int .i64 col, .int .i64 row] w fun e w' => e = .returned (.bool false) ∧ w' = w) :
    Calls Try.prog 17 #[p, .int .i64 col, .int .i64 row, .int .i64 x] w fun e w' => e = .returned (.bool false) ∧ w' = w := by
  have HK := Lib.hid KH
  clear KH
  go_enter Try.func17, Try.ntmps17
  go_wp2_with (go_at_call 25; refine HK.out.mono ?_; rintro e w' ⟨rfl, rfl⟩)
  go_ret
  exact ⟨rfl, rfl⟩
theorem grown_refl (w : World) (row : Option Nat) : w.grownBy w row := ⟨rfl, rfl, rfl, Nat.le_refl _, fun _ _ _ => rfl⟩
/-- Set, whatever place: the grid has x there, or is as it was; nothing else has changed. -/
theorem set_any {w : World} {G A : Nat} {c r : Int} {l : List Int} (h : Gd w G A c r l) (col row x : Int) :
    Calls Try.prog 17 #[.pointer (some ⟨G, 0, none⟩), .int .i64 col, .int .i64 row, .int .i64 x] w fun e w' => e = .returned (.bool (hasB c r col row)) ∧ Gd w' G A c r (setL c r l col row x) ∧ w.grownBy w' (some A) := by
  cases hh : hasB c r col row
  · refine (set_no _ col row x w (by have := has_any h col row; rwa [hh] at this)).mono ?_
    rintro e w' ⟨rfl, rfl⟩
    exact ⟨rfl, by simpa [setL, hh] using h, grown_refl _ _⟩
  · refine (set_yes h col row x hh).mono ?_
    rintro e w' ⟨rfl, h1, h2⟩
    exact ⟨rfl, by simpa [setL, hh] using h1, h2⟩

theorem new_no (c r : Int) (h : inB c 1 64 = false ∨ inB r 1 64 = false) (w : World) :
    Calls Try.prog 9 #[.int .i64 c, .int .i64 r] w fun e w' => e = .returned (.pointer none) ∧ w' = w := by
  have KC := isSide_any c
  have KR := isSide_any r
  cases hc : inB c 1 64
  · rw [hc] at KC
    have HC := Lib.hid KC
    clear KC KR
    go_enter Try.func9, Try.ntmps9
    go_wp2_with (go_at_call 21; refine (HC.out _).mono ?_; rintro e w' ⟨rfl, rfl⟩)
    go_ret
    exact ⟨rfl, rfl⟩
  · rw [hc] at h
    rw [hc] at KC
    rw [h.resolve_left (by simp)] at KR
    have HC := Lib.hid KC; have HR := Lib.hid KR
    clear KC KR h hc
    go_enter Try.func9, Try.ntmps9
    go_wp2_with (go_at_call 21; refine (HC.out _).mono ?_; clear HC; rintro e w' ⟨rfl, rfl⟩)
    refine (HR.out _).mono ?_
    rintro e w' ⟨rfl, rfl⟩
    go_wp2
    go_ret
    exact ⟨rfl, rfl⟩

theorem made_enc (n : Nat) : madeCells (Value.cells (.int .i64 0)) n = (enc (List.replicate n 0)).toArray := by
  apply Array.ext
  · simp [madeCells, enc]
  · intro i h1 h2
    simp [madeCells, enc, Value.cells, Nat.mod_one]

set_option maxHeartbeats 1000000 in
theorem new_yes (c r : Int) (hc : inB c 1 64 = true) (hr : inB r 1 64 = true) (w : World) :
    Calls Try.prog 9 #[.int .i64 c, .int .i64 r] w fun e w' => e = .returned (.pointer (some ⟨w.heap.size + 1, 0, none⟩)) ∧ Gd w' (w.heap.size + 1) w.heap.size c r (List.replicate (c * r).toNat 0) ∧ Below w.heap.size w w' := by
  have KC := isSide_any c
  have KR := isSide_any r
  rw [hc] at KC
  rw [hr] at KR
  have HC := Lib.hid KC; have HR := Lib.hid KR
  clear KC KR
  obtain ⟨i0, hi, hz0, hz1, hz2⟩ := info_parts Try.infoInt
  have hc' : 1 ≤ c ∧ c ≤ 64 := by simpa [inB] using hc
  have hr' : 1 ≤ r ∧ r ≤ 64 := by simpa [inB] using hr
  have h1 : 0 < c * r := Int.mul_pos (by omega) (by omega)
  have h2 : c * r ≤ 64 * 64 := Int.mul_le_mul hc'.2 hr'.2 (by omega) (by omega)
  clear hc hr
  obtain ⟨n, hn⟩ : ∃ n : Nat, c * r = (n : Int) := ⟨(c * r).toNat, by omega⟩
  have HN := Lib.hid hn
  rw [hn] at h1 h2 ⊢
  have wn : IntKind.i64.wrap (c * r) = (n : Int) := by rw [hn]; exact IntWalk.i64_in _ (by omega)
  have mk : ∀ w : World, (Instr.makeSlice 31 (.int .i64 (n : Int)) (.int .i64 (n : Int))).run Try.prog w = .ok (.slice (some ⟨w.heap.size, 0, none⟩) n n) (w.alloc (.cells (enc (List.replicate n 0)).toArray 3)) := by
    intro w
    have := run_make (P := Try.prog) w 31 3 i0 (.int .i64 0) Try.underlying31 hi hz0 .i64 .i64 (n : Int) (n : Int) (by omega) (Int.le_refl _) (by rw [hz2]; omega) (by omega)
    rw [hz1, Int.toNat_natCast, Nat.mul_one, made_enc] at this
    exact this
  clear hn
  go_enter Try.func9, Try.ntmps9
  go_wp2_with (go_at_call 21; refine (HC.out _).mono ?_; clear HC; rintro e w' ⟨rfl, rfl⟩)
  refine (HR.out _).mono ?_
  rintro e w' ⟨rfl, rfl⟩
  go_wp2
  go_ret
  refine ⟨rfl, ?_, ?_⟩
  · refine ⟨?_, ?_, hc'.1, hc'.2, hr'.1, hr'.2, ?_, by omega⟩
    · have h := Bx.new (w'.alloc (.cells (enc (List.replicate n 0)).toArray 3)) 47 [.int .i64 c, .int .i64 r, .slice (some ⟨w'.heap.size, 0, none⟩) n n]
      simpa using h
    · exact (Bx.new w' 3 (enc (List.replicate n 0))).upne (enc_pos (by simp; omega)) (up_alloc (Below.refl _ _) _)
    · simp; exact HN.out.symm
  · exact up_alloc (up_alloc (Below.refl _ _) _) _

theorem all_any (p : Option Addr) (w : World) :
    Calls Try.prog 23 #[.pointer p] w fun e w' => e = .returned (.func (.func 26) #[] #[.pointer (some ⟨w.heap.size, 0, none⟩)]) ∧ w' = w.alloc (.cells #[.pointer p] 25) := by
  go_enter Try.func23, Try.ntmps23
  go_wp2
  go_ret
  exact ⟨rfl, rfl⟩

/-- n of a side, at least one, are there from f on. -/
def fitB (f n side : Int) : Bool := decide (0 ≤ f) && (decide (1 ≤ n) && decide (f ≤ side - n))
theorem fits_any (f n side : Int) (hs : 0 ≤ side) (hs2 : side ≤ 64) (hn : n ≤ 9223372036854775807) (w : World) :
    Calls Try.prog 24 #[.int .i64 f, .int .i64 n, .int .i64 side] w fun e w' => e = .returned (.bool (fitB f n side)) ∧ w' = w := by
  by_cases h1 : 0 ≤ f
  · by_cases h2 : 1 ≤ n
    · have wn : IntKind.i64.wrap (side - n) = side - n := IntWalk.i64_in _ (by omega)
      by_cases h3 : f ≤ side - n
      all_goals
        go_enter Try.func24, Try.ntmps24
        go_wp2
        go_ret
        exact ⟨by simp [fitB]; omega, rfl⟩
    · go_enter Try.func24, Try.ntmps24
      go_wp2
      go_ret
      exact ⟨by simp [fitB]; omega, rfl⟩
  · go_enter Try.func24, Try.ntmps24
    go_wp2
    go_ret
    exact ⟨by simp [fitB]; omega, rfl⟩
end Go.Proofs.Ytlbklfanphkacaa
