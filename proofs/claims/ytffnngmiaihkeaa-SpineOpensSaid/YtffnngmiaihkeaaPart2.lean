/- Part 2 of the texts that the proofs of this seat share: QuietTail, GridSmall, SheetCode, RoundQuiet, GridPlaces, SheetSeq. -/
import Derived.Test.YtffnngmiaihkeaaPart1
import Derived.StillTail
import Derived.Test.YtffnngmiaihkeaaProg
import Derived.IntWalk
import Derived.Laws.AppendOwn
import Derived.Lib.Hide
import Derived.Laws.MakeOwn
import Derived.RangeFuncNested
import Derived.RangeFuncCalls
import Derived.OrdersIn
import Derived.RangeFuncBound
import Derived.RangeFuncLeaves
import Derived.Shelf.Abstract
import Derived.Shelf.RegionOpen
import Derived.WalkKit
import Derived.OwnWalkIn
import Derived.TacticsInMore
import Derived.LoopNIn
import Derived.LoopIn
import Derived.Maps.AppendAt
import Derived.Lib.SliceRun
import Derived.Deep.RegionHeld3
/- A region that draws its order, whose head reads and calls (the calls may make memory) and whose tail, in one forced order, writes: one walk of the head in the order of the text, in every world of a class, then one plain walk of the tail. -/
namespace Go.Proofs.Ytffnngmiaihkeaa
open Go.RowKit
set_option linter.unusedVariables false

section
variable {P : Program} {ops : Array Oper} {C : World → Prop}

/-- Whatever order the head comes up in, as long as f operations are left of it; L is asked behind them. -/
def headAny (P : Program) (ops : Array Oper) (C : World → Prop) (n : Nat) (L : Array Bool → Act → Prop) : Nat → Array Bool → Act → Prop
  | 0, s, a => L s a
  | f + 1, s, a => Region.ready .any ops s ≠ [] ∧ ∀ i ∈ Region.ready .any ops s, i < n ∧ qOp P ops C i (headAny P ops C n L f (s.setIfInBounds i true)) a

theorem headAny_wp {n g : Nat} {L : Array Bool → Act → Prop} {Q : Exit → Act → World → Prop} (hL : ∀ s a w, C w → L s a → wpAny P .any ops Q g s a w) :
    ∀ (f : Nat) (s : Array Bool) (a : Act) (w : World), C w → headAny P ops C n L f s a → wpAny P .any ops Q (f + g) s a w := by
  intro f
  induction f with
  | zero => intro s a w hw h; rw [Nat.zero_add]; exact hL _ _ _ hw h
  | succ f ih =>
    intro s a w hw h
    rw [show f + 1 + g = f + g + 1 by omega]
    exact ⟨fun h0 => absurd h0 h.1, fun i hi => wpOp_of_qOp hw (fun a' w' hw' h' => ih _ a' w' hw' h') (h.2 i hi).2⟩

/-- An operation of the head that may come up now may be taken first. -/
theorem headAny_swap {n i : Nat} {oi : Oper} {v : Value} {L : Array Bool → Act → Prop} (hi : ops[i]? = some oi) (hsel : ∀ (j : Nat) (o : Oper) cs b, ops[j]? = some o → o.op ≠ .select cs b)
    (hs : Region.sinkB .any ops n = true) (hc : Region.chainB .any ops n = true) (hn : n < ops.size) (hin : i < n) (hdone : ∀ s a, L s a → ∀ j ∈ Region.ready .any ops s, n ≤ j) :
    ∀ (f : Nat) (s : Array Bool) (a : Act), HeadInv .any ops n s →
      (∀ j oj, ops[j]? = some oj → j ≠ i → s.getD j true = false → (∀ e ∈ oj.after, Region.binds .any e = true → e.on ≠ i) → oi.apart ops oj = true) →
      i ∈ Region.ready .any ops s → YieldsIn P ops C oi v a → headAny P ops C n L f (s.setIfInBounds i true) (a.put oi.dst v) → headAny P ops C n L (f + 1) s a := by
  intro f
  induction f with
  | zero =>
    intro s a inv _ hr hy H
    have inHead : ∀ j ∈ Region.ready .any ops s, j < n := fun j hj => Nat.lt_of_not_le fun h => tail_waits hs hc hn inv _ i rfl hin (mem_ready.1 hr).1 j h hj
    refine ⟨fun h => (by rw [h] at hr; cases hr), fun j hj => ⟨inHead j hj, ?_⟩⟩
    by_cases e : j = i
    · subst e; exact hy.qOp hi H
    · exact absurd (hdone _ _ H j (ready_mono hj e)) (by have := inHead j hj; omega)
  | succ f ih =>
    intro s a inv free hr hy H
    have hun := (mem_ready.1 hr).1
    have inHead : ∀ j ∈ Region.ready .any ops s, j < n := fun j hj => Nat.lt_of_not_le fun h => tail_waits hs hc hn inv _ i rfl hin hun j h hj
    refine ⟨fun h => (by rw [h] at hr; cases hr), fun j hj => ⟨inHead j hj, ?_⟩⟩
    by_cases e : j = i
    · subst e; exact hy.qOp hi H
    · obtain ⟨ju, oj, ho, before⟩ := mem_ready.1 hj
      have waits : ∀ x ∈ oj.after, Region.binds .any x = true → x.on ≠ i := fun x hx hb he => by
        have := before x hx hb
        rw [he, getD_both hun] at this
        cases this
      refine qOp_mono (fun a' h' => ih (s.setIfInBounds j true) a' (inv.set hj (inHead j hj)) (fun k ok hk ki hu no => free k ok hk ki ?_ no) (ready_mono hr (Ne.symm e)) h'.1 ?_)
        (qOp_put ho (free j oj ho e ju waits) (fun cs b => hsel i oi cs b hi) (fun cs b => hsel j oj cs b ho) hy (H.2 j (ready_mono hj e)).2)
      · by_cases jk : j = k
        · subst jk; exact ju
        · rwa [getD_set_ne true jk] at hu
      · rw [Array.setIfInBounds_comm _ _ e]; exact h'.2

theorem headAny_lex {n g : Nat} {K : Act → Prop} (hsel : Region.noSelect ops = true) (hs : Region.sinkB .any ops n = true) (hc : Region.chainB .any ops n = true) (hn : n < ops.size) :
    ∀ (l : List Oper) (k : Nat) (s : Array Bool) (a : Act), (∀ j, j < l.length → l[j]? = ops[k + j]?) → k + l.length = n → HeadInv .any ops n s → Region.lexHead .any ops g l.length k s = true → wpQuiet P ops C K l a →
    headAny P ops C n (fun s' a' => Region.seqB .any ops g n s' = true ∧ K a') l.length s a := by
  intro l
  induction l with
  | nil =>
    intro k s a _ hk _ hB h
    obtain rfl : k = n := by simpa using hk
    exact ⟨by simpa [Region.lexHead] using hB, h⟩
  | cons o l ih =>
    intro k s a hl hk inv hB h
    have h0 : ops[k]? = some o := by simpa using (hl 0 (by simp)).symm
    simp only [List.length_cons, Region.lexHead, Bool.and_eq_true] at hB
    simp only [List.length_cons] at hk
    have hr : k ∈ Region.ready .any ops s := by simpa using hB.1.1
    obtain ⟨v, hy, hK⟩ := yieldsIn_of_qOp (K := wpQuiet P ops C K l) h0 (by unfold qOp; simp only [h0]; exact h)
    exact headAny_swap h0 (Region.noSelect_spec hsel) hs hc hn (by omega) (fun s' a' h' => seqB_ready h'.1) l.length s a inv (Region.free_spec h0 hB.1.2) hr hy
      (ih (k + 1) _ _ (fun j hj => by have := hl (j + 1) (by simp; omega); simpa [Nat.add_assoc, Nat.add_comm 1 j] using this) (by omega) (inv.set hr (by omega)) hB.2 hK)
end

/-- The head, n operations, in the order of the text in every world of the class; then the tail. -/
theorem wp_region_head_tail {P : Program} {id : Nat} {C : World → Prop} {Q : Exit → Act → World → Prop} {a : Act} {w : World} {l : List Oper} (n : Nat) (hm : P.follows .mixedOrders = true) (hB : Region.lexTailB .any l.toArray n = true)
    (hC : C w.drew) (h : wpQuiet P l.toArray C (fun a' => ∀ w', C w' → wpList P l.toArray Q (l.drop n) a' w') (l.take n) a) : (Code.region id l.toArray true).wp P Q a w := by
  simp only [Region.lexTailB, Bool.and_eq_true, decide_eq_true_eq] at hB
  obtain ⟨⟨⟨⟨hsel, hn⟩, hs⟩, hc⟩, hlex⟩ := hB
  have hn' : n < l.length := by simpa using hn
  have tl : (l.take n).length = n := by simp; omega
  have dl : (l.drop n).length = l.toArray.size - n := by simp
  have H := headAny_lex (P := P) (C := C) (g := l.toArray.size - n) hsel hs hc hn (l.take n) 0 (Array.replicate l.toArray.size false) a
    (fun j hj => by rw [tl] at hj; simp [hj]) (by rw [tl]; omega)
    ⟨by simp, fun j oj _ hj => (by rw [getD_replicate_false] at hj; cases hj), fun t _ ht => getD_in (by simpa using ht) (getD_replicate_false _ _)⟩ (by rw [tl]; exact hlex) h
  have G := headAny_wp (Q := Q) (g := l.toArray.size - n) (fun s a' w' hw' hL => by
    have := wpAny_of_seq (md := .any) (Q' := Q) (l.drop n) n s a' w' (fun j => by simp [List.getElem?_drop]) (by rw [dl]; exact hL.1) (hL.2 w' hw')
    rwa [dl] at this) _ _ _ w.drew hC H
  rw [tl, show n + (l.toArray.size - n) = l.toArray.size by omega] at G
  exact wp_region_any hm G

/-- The same, at the class of all later worlds. -/
theorem wp_region_later_tail {P : Program} {id : Nat} {Q : Exit → Act → World → Prop} {a : Act} {w : World} {u : Later w} {l : List Oper} (n : Nat) (hm : P.follows .mixedOrders = true) (hB : Region.lexTailB .any l.toArray n = true)
    (h : wpQuiet P l.toArray (fun w' => ∃ u : Later w, w' = u.now) (fun a' => ∀ w', (∃ u : Later w, w' = u.now) → wpList P l.toArray Q (l.drop n) a' w') (l.take n) a) : (Code.region id l.toArray true).wp P Q a u.now :=
  wp_region_head_tail n hm hB ⟨⟨_, up_drew u.up⟩, rfl⟩ h
end Go.Proofs.Ytffnngmiaihkeaa
/- What grid's calls that look at no thing answer (isSide, fits), and plain facts on places. -/
namespace Go.Proofs.Ytffnngmiaihkeaa
open Go.RowKit
set_option linter.unusedVariables false

/-- There is such a place. -/
def hasB (c r col row : Int) : Bool := decide (0 ≤ col) && decide (col < c) && (decide (0 ≤ row) && decide (row < r))
theorem isSide_any (n : Int) (w : World) :
    Calls Try.prog 53 #[.int .i64 n] w fun e w' => e = .returned (.bool (inB n 1 64)) ∧ w' = w := by
  by_cases h1 : 1 ≤ n <;> by_cases h2 : n ≤ 64
  all_goals
    go_enter Try.func53, Try.ntmps53
    go_wp2
    go_ret
    exact ⟨by simp [inB, h1, h2], rfl⟩
theorem Bx.upne {w w' : World} {B : Nat} {vs : List Value} (h : Bx w B vs) (hne : 0 < vs.length) (hb : Below w.heap.size w w') : Bx w' B vs := by
  cases vs with
  | nil => simp at hne
  | cons v0 vs => exact h.up hb
theorem Bx.ltne {w : World} {B : Nat} {vs : List Value} (h : Bx w B vs) (hne : 0 < vs.length) : B < w.heap.size := by
  cases vs with
  | nil => simp at hne
  | cons v0 vs => exact h.lt
/-- Another block that was written leaves a grid as it was. -/
theorem Bx.kept {w w' : World} {B : Nat} {vs : List Value} (h : Bx w B vs) (hne : 0 < vs.length) {row : Option Nat} (hg : w.grownBy w' row) (hr : some B ≠ row) : Bx w' B vs :=
  have e := hg.block B (h.ltne hne) hr
  ⟨fun j v hj => (World.cell?_of_block (a := ⟨B, j, none⟩) e).trans (h.1 j v hj), fun j => (World.frozen?_of_block (a := ⟨B, j, none⟩) e).trans (h.2 j)⟩
/-- Where a thing stands in the list. -/
def at1 (c col row : Int) : Nat := (row * c + col).toNat
theorem at1_lt {c r col row : Int} (h : hasB c r col row = true) : 0 ≤ row * c + col ∧ row * c + col < c * r ∧ 0 ≤ row * c := by
  simp [hasB] at h
  obtain ⟨⟨h1, h2⟩, h3, h4⟩ := h
  have a : 0 ≤ row * c := Int.mul_nonneg h3 (by omega)
  have b : (row + 1) * c ≤ r * c := Int.mul_le_mul_of_nonneg_right (by omega) (by omega)
  rw [Int.add_mul, Int.one_mul] at b
  rw [Int.mul_comm c r]
  omega
theorem grown_of_below {w w' : World} (h : Below w.heap.size w w') (A : Nat) (k : Nat) (v : Value) : w.grownBy (w'.setCell ⟨A, k, none⟩ v) (some A) :=
  ⟨h.os, h.tape, h.output, by have := h.size; simpa [World.setCell] using this, fun j hj hne => (Below.heap_setCell _ _ _ _ (fun e => hne (by rw [e]))).trans (h.block j hj)⟩
theorem grown_refl (w : World) (row : Option Nat) : w.grownBy w row := ⟨rfl, rfl, rfl, Nat.le_refl _, fun _ _ _ => rfl⟩
/-- n of a side, at least one, are there from f on. -/
def fitB (f n side : Int) : Bool := decide (0 ≤ f) && (decide (1 ≤ n) && decide (f ≤ side - n))
theorem fits_any (f n side : Int) (hs : 0 ≤ side) (hs2 : side ≤ 64) (hn : n ≤ 9223372036854775807) (w : World) :
    Calls Try.prog 62 #[.int .i64 f, .int .i64 n, .int .i64 side] w fun e w' => e = .returned (.bool (fitB f n side)) ∧ w' = w := by
  by_cases h1 : 0 ≤ f
  · by_cases h2 : 1 ≤ n
    · have wn : IntKind.i64.wrap (side - n) = side - n := IntWalk.i64_in _ (by omega)
      by_cases h3 : f ≤ side - n
      all_goals
        go_enter Try.func62, Try.ntmps62
        go_wp2
        go_ret
        exact ⟨by simp [fitB]; omega, rfl⟩
    · go_enter Try.func62, Try.ntmps62
      go_wp2
      go_ret
      exact ⟨by simp [fitB]; omega, rfl⟩
  · go_enter Try.func62, Try.ntmps62
    go_wp2
    go_ret
    exact ⟨by simp [fitB]; omega, rfl⟩
theorem calls_b {f : FuncId} {args : Array Value} {w : World} {v : Value} (h : Calls Try.prog f args w fun e w' => e = .returned v ∧ w' = w) : Calls Try.prog f args w fun e w' => e = .returned v ∧ Below w.heap.size w w' :=
  h.mono fun e w' ⟨he, hw⟩ => ⟨he, by rw [hw]; exact Below.refl _ _⟩
theorem fit_in {f n side : Int} (h : fitB f n side = true) (hs : side ≤ 64) : inB n 1 64 = true ∧ 0 ≤ f ∧ f + n ≤ side := by
  simp [fitB] at h
  exact ⟨by simp [inB]; omega, by omega, by omega⟩
end Go.Proofs.Ytffnngmiaihkeaa
/- What grid's small calls answer (Cols, Rows, has, At, Set, New, All), of a grid of piles. -/
namespace Go.Proofs.Ytffnngmiaihkeaa
open Go.RowKit
set_option linter.unusedVariables false

theorem Try.infoPtr : (Try.prog.info? 55).map (fun i => (i.zero, i.size, i.bytes)) = some (some (.pointer none), 1, 8) := by kernel_rfl

/-- A pile's pointer. -/
abbrev Ptr := Option Addr
/-- The pointers as cells. -/
def encS (l : List Ptr) : List Value := l.map Value.pointer

/-- A grid: its box at G, its things at A, row by row. -/
structure Gs (w : World) (G A : Nat) (c r : Int) (l : List Ptr) : Prop where
  box : Bx w G [.int .i64 c, .int .i64 r, .slice (some ⟨A, 0, none⟩) l.length l.length]
  row : Bx w A (encS l)
  c1 : 1 ≤ c
  c64 : c ≤ 64
  r1 : 1 ≤ r
  r64 : r ≤ 64
  len : (l.length : Int) = c * r
  ne : G ≠ A

theorem Gs.pos {w : World} {G A : Nat} {c r : Int} {l : List Ptr} (h : Gs w G A c r l) : 0 < l.length := by
  have h1 := Int.mul_pos (by have := h.c1; omega : 0 < c) (by have := h.r1; omega : 0 < r)
  have h2 := h.len
  omega
theorem Gs.le {w : World} {G A : Nat} {c r : Int} {l : List Ptr} (h : Gs w G A c r l) : l.length ≤ 4096 := by
  have h1 : c * r ≤ 64 * 64 := Int.mul_le_mul h.c64 h.r64 (by have := h.r1; omega) (by omega)
  have h2 := h.len
  omega
theorem encS_pos {l : List Ptr} (h : 0 < l.length) : 0 < (encS l).length := by simpa [encS] using h
theorem Gs.up {w w' : World} {G A : Nat} {c r : Int} {l : List Ptr} (h : Gs w G A c r l) (hb : Below w.heap.size w w') : Gs w' G A c r l :=
  ⟨h.box.up hb, h.row.upne (encS_pos h.pos) hb, h.c1, h.c64, h.r1, h.r64, h.len, h.ne⟩
theorem Gs.ltG {w : World} {G A : Nat} {c r : Int} {l : List Ptr} (h : Gs w G A c r l) : G < w.heap.size := h.box.lt
theorem Gs.ltA {w : World} {G A : Nat} {c r : Int} {l : List Ptr} (h : Gs w G A c r l) : A < w.heap.size := h.row.ltne (encS_pos h.pos)
theorem Gs.cell {w : World} {G A : Nat} {c r : Int} {l : List Ptr} (h : Gs w G A c r l) (k : Nat) (x : Ptr) (hx : l[k]? = some x) : w.cell? ⟨A, k, none⟩ = some (.pointer x) := h.row.cell k (by simp [encS, hx])
theorem Gs.kept {w w' : World} {G A : Nat} {c r : Int} {l : List Ptr} (h : Gs w G A c r l) {row : Option Nat} (hg : w.grownBy w' row) (h1 : some G ≠ row) (h2 : some A ≠ row) : Gs w' G A c r l :=
  ⟨h.box.kept (by simp) hg h1, h.row.kept (encS_pos h.pos) hg h2, h.c1, h.c64, h.r1, h.r64, h.len, h.ne⟩

theorem shCols_any {w : World} {G A : Nat} {c r : Int} {l : List Ptr} (h : Gs w G A c r l) :
    Calls Try.prog 56 #[.pointer (some ⟨G, 0, none⟩)] w fun e w' => e = .returned (.int .i64 c) ∧ w' = w := by
  have b0 := h.box.cell 0 rfl
  clear h
  go_enter Try.func56, Try.ntmps56
  go_wp2
  go_ret
  exact ⟨rfl, rfl⟩
theorem shRows_any {w : World} {G A : Nat} {c r : Int} {l : List Ptr} (h : Gs w G A c r l) :
    Calls Try.prog 57 #[.pointer (some ⟨G, 0, none⟩)] w fun e w' => e = .returned (.int .i64 r) ∧ w' = w := by
  have b0 := h.box.cell 1 rfl
  clear h
  go_enter Try.func57, Try.ntmps57
  go_wp2
  go_ret
  exact ⟨rfl, rfl⟩
theorem shCols_nil (w : World) : Calls Try.prog 56 #[.pointer none] w fun e w' => e = .returned (.int .i64 0) ∧ w' = w := by
  go_enter Try.func56, Try.ntmps56
  go_wp2
  go_ret
  exact ⟨rfl, rfl⟩
theorem shRows_nil (w : World) : Calls Try.prog 57 #[.pointer none] w fun e w' => e = .returned (.int .i64 0) ∧ w' = w := by
  go_enter Try.func57, Try.ntmps57
  go_wp2
  go_ret
  exact ⟨rfl, rfl⟩

/-- has, over whatever Cols and Rows answer. -/
theorem shHas_core (p : Value) (c r col row : Int) (w : World) (KC : Calls Try.prog 56 #[p] w fun e w' => e = .returned (.int .i64 c) ∧ w' = w) (KR : Calls Try.prog 57 #[p] w fun e w' => e = .returned (.int .i64 r) ∧ w' = w) :
    Calls Try.prog 48 #[p, .int .i64 col, .int .i64 row] w fun e w' => e = .returned (.bool (hasB c r col row)) ∧ w' = w := by
  have HC := Lib.hid KC; have HR := Lib.hid KR
  clear KC KR
  by_cases h1 : 0 ≤ col
  · by_cases h2 : col < c
    · by_cases h3 : 0 ≤ row
      · by_cases h4 : row < r
        all_goals
          go_enter Try.func48, Try.ntmps48
          go_wp2_with (first | (go_at_call 56; refine HC.out.mono ?_; rintro e w' ⟨rfl, rfl⟩) | (go_at_call 57; refine HR.out.mono ?_; rintro e w' ⟨rfl, rfl⟩))
          go_ret
          exact ⟨by simp [hasB, h1, h2, h3, h4], rfl⟩
      · go_enter Try.func48, Try.ntmps48
        go_wp2_with (go_at_call 56; refine HC.out.mono ?_; rintro e w' ⟨rfl, rfl⟩)
        go_ret
        exact ⟨by simp [hasB]; omega, rfl⟩
    · go_enter Try.func48, Try.ntmps48
      go_wp2_with (go_at_call 56; refine HC.out.mono ?_; rintro e w' ⟨rfl, rfl⟩)
      go_ret
      exact ⟨by simp [hasB]; omega, rfl⟩
  · go_enter Try.func48, Try.ntmps48
    go_wp2
    go_ret
    exact ⟨by simp [hasB]; omega, rfl⟩
theorem shHas_any {w : World} {G A : Nat} {c r : Int} {l : List Ptr} (h : Gs w G A c r l) (col row : Int) :
    Calls Try.prog 48 #[.pointer (some ⟨G, 0, none⟩), .int .i64 col, .int .i64 row] w fun e w' => e = .returned (.bool (hasB c r col row)) ∧ w' = w :=
  shHas_core _ c r col row w (shCols_any h) (shRows_any h)
theorem shHas_nil (col row : Int) (w : World) :
    Calls Try.prog 48 #[.pointer none, .int .i64 col, .int .i64 row] w fun e w' => e = .returned (.bool false) ∧ w' = w := by
  have h := shHas_core (.pointer none) 0 0 col row w (shCols_nil w) (shRows_nil w)
  have e : hasB 0 0 col row = false := by
    cases h : hasB 0 0 col row
    · rfl
    · simp [hasB] at h
      omega
  rwa [e] at h

theorem Gs.at1_lt {w : World} {G A : Nat} {c r : Int} {l : List Ptr} (h : Gs w G A c r l) {col row : Int} (hh : hasB c r col row = true) : at1 c col row < l.length := by
  have := Go.Proofs.Ytffnngmiaihkeaa.at1_lt hh
  have := h.len
  unfold at1
  omega

set_option maxHeartbeats 1000000 in
theorem shAt_yes {w : World} {G A : Nat} {c r : Int} {l : List Ptr} (h : Gs w G A c r l) (col row : Int) (x : Ptr) (hh : hasB c r col row = true) (hx : l[at1 c col row]? = some x) :
    Calls Try.prog 33 #[.pointer (some ⟨G, 0, none⟩), .int .i64 col, .int .i64 row] w fun e w' => e = .returned (.tuple #[.pointer x, .bool true]) ∧ Below w.heap.size w w' := by
  have KH := shHas_any h col row
  rw [hh] at KH
  obtain ⟨g0, g1, g2⟩ := Go.Proofs.Ytffnngmiaihkeaa.at1_lt hh
  have gl := h.len
  have gm := h.le
  have b0 := fun u : Later w => u.cell (h.box.cell 0 rfl)
  have b2 := fun u : Later w => u.cell (h.box.cell 2 rfl)
  have bx := h.cell _ x hx
  unfold at1 at bx
  generalize hm : row * c = m at *
  generalize hs : m + col = s at *
  generalize l.length = n at *
  obtain ⟨k, hk⟩ : ∃ k : Nat, s = (k : Int) := ⟨s.toNat, by omega⟩
  subst hk
  simp only [Int.toNat_natCast] at bx
  have bk := fun u : Later w => u.cell bx
  have z0 : (0 : Int) ≤ (k : Int) := by omega
  have z1 : (k : Int) < (n : Int) := by omega
  have wm : IntKind.i64.wrap (row * c) = m := by rw [hm]; exact IntWalk.i64_in _ (by simp [hasB] at hh; omega)
  have ws : IntKind.i64.wrap (m + col) = (k : Int) := by rw [hs]; exact IntWalk.i64_in _ (by omega)
  have HK := Lib.hid KH
  clear KH h hh hx gl gm hm hs g0 g1 g2 bx
  go_enter Try.func33, Try.ntmps33
  go_wp2_with (go_at_call 48; refine HK.out.mono ?_; rintro e w' ⟨rfl, rfl⟩)
  refine later_start (w := w') ?_
  intro u
  refine wp_region_later (by kernel_rfl) (by kernel_rfl) ?_
  repeat (go_big_quiet_step (fail))
  refine wpQuiet_nil ?_
  rintro _ ⟨u2, rfl⟩
  clear b0 b2 bk
  go_wp2
  exact bodyPost_ret (v := .tuple #[.pointer x, .bool true]) (by simp [results, Try.results33, go_sem]) rfl ⟨rfl, u2.up⟩
theorem shAt_no (p : Value) (col row : Int) (w : World) (KH : Calls Try.prog 48 #[p, .int .i64 col, .int .i64 row] w fun e w' => e = .returned (.bool false) ∧ w' = w) :
    Calls Try.prog 33 #[p, .int .i64 col, .int .i64 row] w fun e w' => e = .returned (.tuple #[.pointer none, .bool false]) ∧ Below w.heap.size w w' := by
  have HK := Lib.hid KH
  clear KH
  go_enter Try.func33, Try.ntmps33
  go_wp2_with (go_at_call 48; refine HK.out.mono ?_; rintro e w' ⟨rfl, rfl⟩)
  exact bodyPost_ret (v := .tuple #[.pointer none, .bool false]) (by simp [results, Try.results33, go_sem]) rfl ⟨rfl, Below.refl _ _⟩

/-- The list with x laid there, if there is such a place. -/
def setS (c r : Int) (l : List Ptr) (col row : Int) (x : Ptr) : List Ptr := if hasB c r col row = true then l.set (at1 c col row) x else l
theorem Bx.stored {w w' : World} {B : Nat} {l : List Ptr} (h : Bx w B (encS l)) (hb : Below w.heap.size w w') (hne : 0 < l.length) (k : Nat) (x : Ptr) : Bx (w'.setCell ⟨B, k, none⟩ (.pointer x)) B (encS (l.set k x)) := by
  have := (h.upne (encS_pos hne) hb).set k (.pointer x)
  simpa [encS, List.map_set] using this
theorem Gs.stored {w w' : World} {G A : Nat} {c r : Int} {l : List Ptr} (h : Gs w G A c r l) (hb : Below w.heap.size w w') (k : Nat) (x : Ptr) : Gs (w'.setCell ⟨A, k, none⟩ (.pointer x)) G A c r (l.set k x) := by
  refine ⟨?_, h.row.stored hb h.pos k x, h.c1, h.c64, h.r1, h.r64, by rw [List.length_set]; exact h.len, h.ne⟩
  rw [List.length_set]
  exact (h.box.up hb).far (fun e => h.ne e.symm) _

set_option maxHeartbeats 1000000 in
theorem shSet_yes {w : World} {G A : Nat} {c r : Int} {l : List Ptr} (h : Gs w G A c r l) (col row : Int) (x : Ptr) (hh : hasB c r col row = true) :
    Calls Try.prog 40 #[.pointer (some ⟨G, 0, none⟩), .int .i64 col, .int .i64 row, .pointer x] w fun e w' => e = .returned (.bool true) ∧ Gs w' G A c r (l.set (at1 c col row) x) ∧ w.grownBy w' (some A) := by
  have KH := shHas_any h col row
  rw [hh] at KH
  obtain ⟨g0, g1, g2⟩ := Go.Proofs.Ytffnngmiaihkeaa.at1_lt hh
  have gl := h.len
  have gm := h.le
  have hlt := h.at1_lt hh
  have b0 := fun u : Later w => u.cell (h.box.cell 0 rfl)
  have b2 := fun u : Later w => u.cell (h.box.cell 2 rfl)
  have bx := h.cell _ _ (List.getElem?_eq_getElem hlt)
  generalize l[at1 c col row] = y at bx
  have bf := h.row.free (at1 c col row)
  have hA := h.ltA
  have HG := Lib.hid h
  clear h
  unfold at1 at *
  generalize hm : row * c = m at *
  generalize hs : m + col = s at *
  generalize l.length = n at *
  obtain ⟨k, hk⟩ : ∃ k : Nat, s = (k : Int) := ⟨s.toNat, by omega⟩
  subst hk
  simp only [Int.toNat_natCast] at bx bf HG ⊢
  have bk := fun u : Later w => u.cell bx
  have bz := fun u : Later w => (kept_marks u.up A k hA).trans bf
  have z0 : (0 : Int) ≤ (k : Int) := by omega
  have z1 : (k : Int) < (n : Int) := by omega
  have wm : IntKind.i64.wrap (row * c) = m := by rw [hm]; exact IntWalk.i64_in _ (by simp [hasB] at hh; omega)
  have ws : IntKind.i64.wrap (m + col) = (k : Int) := by rw [hs]; exact IntWalk.i64_in _ (by omega)
  have HK := Lib.hid KH
  clear KH hh gl gm hm hs g0 g1 g2 bx bf hA hlt
  go_enter Try.func40, Try.ntmps40
  go_wp2_with (go_at_call 48; refine HK.out.mono ?_; rintro e w' ⟨rfl, rfl⟩)
  refine later_start (w := w') ?_
  intro u
  refine wp_region_later_tail 14 (by kernel_rfl) (by kernel_rfl) ?_
  simp only [List.take_succ_cons, List.take_zero, List.drop_succ_cons, List.drop_zero]
  repeat (go_big_quiet_step (fail))
  refine wpQuiet_nil ?_
  rintro _ ⟨u2, rfl⟩
  have y0 := bk u2
  have y1 := bz u2
  clear b0 b2 bk bz
  go_wp2
  go_ret
  exact ⟨rfl, HG.out.stored u2.up k x, grown_of_below u2.up A k _⟩
theorem shSet_no (p : Value) (col row : Int) (x : Ptr) (w : World) (KH : Calls Try.prog 48 #[p, .int .i64 col, .int .i64 row] w fun e w' => e = .returned (.bool false) ∧ w' = w) :
    Calls Try.prog 40 #[p, .int .i64 col, .int .i64 row, .pointer x] w fun e w' => e = .returned (.bool false) ∧ w' = w := by
  have HK := Lib.hid KH
  clear KH
  go_enter Try.func40, Try.ntmps40
  go_wp2_with (go_at_call 48; refine HK.out.mono ?_; rintro e w' ⟨rfl, rfl⟩)
  go_ret
  exact ⟨rfl, rfl⟩
/-- Set, whatever place: the grid has x there, or is as it was; nothing else has changed. -/
theorem shSet_any {w : World} {G A : Nat} {c r : Int} {l : List Ptr} (h : Gs w G A c r l) (col row : Int) (x : Ptr) :
    Calls Try.prog 40 #[.pointer (some ⟨G, 0, none⟩), .int .i64 col, .int .i64 row, .pointer x] w fun e w' => e = .returned (.bool (hasB c r col row)) ∧ Gs w' G A c r (setS c r l col row x) ∧ w.grownBy w' (some A) := by
  cases hh : hasB c r col row
  · refine (shSet_no _ col row x w (by have := shHas_any h col row; rwa [hh] at this)).mono ?_
    rintro e w' ⟨rfl, rfl⟩
    exact ⟨rfl, by simpa [setS, hh] using h, grown_refl _ _⟩
  · refine (shSet_yes h col row x hh).mono ?_
    rintro e w' ⟨rfl, h1, h2⟩
    exact ⟨rfl, by simpa [setS, hh] using h1, h2⟩

theorem shNew_no (c r : Int) (h : inB c 1 64 = false ∨ inB r 1 64 = false) (w : World) :
    Calls Try.prog 38 #[.int .i64 c, .int .i64 r] w fun e w' => e = .returned (.pointer none) ∧ w' = w := by
  have KC := isSide_any c
  have KR := isSide_any r
  cases hc : inB c 1 64
  · rw [hc] at KC
    have HC := Lib.hid KC
    clear KC KR
    go_enter Try.func38, Try.ntmps38
    go_wp2_with (go_at_call 53; refine (HC.out _).mono ?_; rintro e w' ⟨rfl, rfl⟩)
    go_ret
    exact ⟨rfl, rfl⟩
  · rw [hc] at h
    rw [hc] at KC
    rw [h.resolve_left (by simp)] at KR
    have HC := Lib.hid KC; have HR := Lib.hid KR
    clear KC KR h hc
    go_enter Try.func38, Try.ntmps38
    go_wp2_with (go_at_call 53; refine (HC.out _).mono ?_; clear HC; rintro e w' ⟨rfl, rfl⟩)
    refine (HR.out _).mono ?_
    rintro e w' ⟨rfl, rfl⟩
    go_wp2
    go_ret
    exact ⟨rfl, rfl⟩

theorem madeS_encS (n : Nat) : madeCells (Value.cells (.pointer none)) n = (encS (List.replicate n none)).toArray := by
  apply Array.ext
  · simp [madeCells, encS]
  · intro i h1 h2
    simp [madeCells, encS, Value.cells, Nat.mod_one]

set_option maxHeartbeats 1000000 in
theorem shNew_yes (c r : Int) (hc : inB c 1 64 = true) (hr : inB r 1 64 = true) (w : World) :
    Calls Try.prog 38 #[.int .i64 c, .int .i64 r] w fun e w' => e = .returned (.pointer (some ⟨w.heap.size + 1, 0, none⟩)) ∧ Gs w' (w.heap.size + 1) w.heap.size c r (List.replicate (c * r).toNat none) ∧ Below w.heap.size w w' := by
  have KC := isSide_any c
  have KR := isSide_any r
  rw [hc] at KC
  rw [hr] at KR
  have HC := Lib.hid KC; have HR := Lib.hid KR
  clear KC KR
  obtain ⟨i0, hi, hz0, hz1, hz2⟩ := info_parts Try.infoPtr
  have hc' : 1 ≤ c ∧ c ≤ 64 := by simpa [inB] using hc
  have hr' : 1 ≤ r ∧ r ≤ 64 := by simpa [inB] using hr
  have h1 : 0 < c * r := Int.mul_pos (by omega) (by omega)
  have h2 : c * r ≤ 64 * 64 := Int.mul_le_mul hc'.2 hr'.2 (by omega) (by omega)
  clear hc hr
  obtain ⟨n, hn⟩ : ∃ n : Nat, c * r = (n : Int) := ⟨(c * r).toNat, by omega⟩
  have HN := Lib.hid hn
  rw [hn] at h1 h2 ⊢
  have wn : IntKind.i64.wrap (c * r) = (n : Int) := by rw [hn]; exact IntWalk.i64_in _ (by omega)
  have mk : ∀ w : World, (Instr.makeSlice 88 (.int .i64 (n : Int)) (.int .i64 (n : Int))).run Try.prog w = .ok (.slice (some ⟨w.heap.size, 0, none⟩) n n) (w.alloc (.cells (encS (List.replicate n none)).toArray 55)) := by
    intro w
    have := run_make (P := Try.prog) w 88 55 i0 (.pointer none) Try.underlying88 hi hz0 .i64 .i64 (n : Int) (n : Int) (by omega) (Int.le_refl _) (by rw [hz2]; omega) (by omega)
    rw [hz1, Int.toNat_natCast, Nat.mul_one, madeS_encS] at this
    exact this
  clear hn
  go_enter Try.func38, Try.ntmps38
  go_wp2_with (go_at_call 53; refine (HC.out _).mono ?_; clear HC; rintro e w' ⟨rfl, rfl⟩)
  refine (HR.out _).mono ?_
  rintro e w' ⟨rfl, rfl⟩
  go_wp2
  go_ret
  refine ⟨rfl, ?_, ?_⟩
  · refine ⟨?_, ?_, hc'.1, hc'.2, hr'.1, hr'.2, ?_, by omega⟩
    · have h := Bx.new (w'.alloc (.cells (encS (List.replicate n none)).toArray 55)) 90 [.int .i64 c, .int .i64 r, .slice (some ⟨w'.heap.size, 0, none⟩) n n]
      simpa using h
    · exact (Bx.new w' 55 (encS (List.replicate n none))).upne (encS_pos (by simp; omega)) (up_alloc (Below.refl _ _) _)
    · simp; exact HN.out.symm
  · exact up_alloc (up_alloc (Below.refl _ _) _) _

theorem shAll_any (p : Option Addr) (w : World) :
    Calls Try.prog 39 #[.pointer p] w fun e w' => e = .returned (.func (.func 54) #[] #[.pointer (some ⟨w.heap.size, 0, none⟩)]) ∧ w' = w.alloc (.cells #[.pointer p] 64) := by
  go_enter Try.func39, Try.ntmps39
  go_wp2
  go_ret
  exact ⟨rfl, rfl⟩

end Go.Proofs.Ytffnngmiaihkeaa
/- A region that draws its order, in the body of a range over a function: it is walked as everywhere, as long as it defers nothing. -/
namespace Go.Proofs.Ytffnngmiaihkeaa
open Go.RowKit
set_option linter.unusedVariables false

theorem uponIn_of_upon {l n : Nat} {P : Program} {o : Oper} {a : Act} {K K' : Act → World → Prop} {Q : Exit → Act → World → Prop} (hK : ∀ a w, K a w → K' a w) : ∀ (r : Result Next), o.upon P a K Q r → o.uponIn (Fence.wide.inRound l) n P a K' Q r := by
  intro r h
  cases r with
  | ok x w' =>
    cases x with
    | value v => exact hK _ _ h
    | skip => exact hK _ _ h
    | defer d => exact hK _ _ h
    | enter f args =>
      refine ⟨fun h => by simp [Fence.wide] at h, ?_⟩
      refine CallsIn.inRound l (callsIn_wide.2 (Calls.mono h ?_))
      intro e w'' he
      cases e with
      | returned v => exact hK _ _ he
      | panicked chain => exact he
      | outgrown => exact he
    | row row args =>
      refine ⟨fun h => by simp [Fence.wide] at h, ?_⟩
      intro c cs _
      obtain ⟨v, w'', hr, hs⟩ := h c cs
      exact ⟨v, w'', hK _ _ hr, stepsIn_wide.2 hs⟩
    | _ => exact h.elim
  | halt x w' =>
    cases x with
    | panic v => exact h
    | _ => exact h.elim

section
variable {l n : Nat} {P : Program} {ops : Array Oper} {Q : Exit → Act → World → Prop}
/-- No operation defers. -/
def noDefer (ops : List Oper) : Bool := ops.all fun o => match o.op with
  | .defer _ => false
  | _ => true
theorem noDefer_spec {l : List Oper} (h : noDefer l = true) : ∀ (i : Nat) (o : Oper), l.toArray[i]? = some o → ∀ c, o.op ≠ .defer c := by
  intro i o ho c e
  have hm : o ∈ l := by
    have : l[i]? = some o := by simpa using ho
    exact List.mem_of_getElem? this
  have := List.all_eq_true.1 h o hm
  rw [e] at this
  cases this
theorem wpOpIn_of_op {i : Nat} {K K' : Act → World → Prop} {a : Act} {w : World} (hnd : ∀ (i : Nat) (o : Oper), ops[i]? = some o → ∀ c, o.op ≠ .defer c) (hL : ¬ LetsOut Q) (hK : ∀ a w, K a w → K' a w)
    (h : wpOp P ops Q i K a w) : wpOpIn (Fence.wide.inRound l) n P ops Q i K' a w := by
  unfold wpOp at h
  unfold wpOpIn
  cases ho : ops[i]? with
  | none => simp only [ho] at h ⊢; exact hK _ _ h
  | some o =>
    simp only [ho] at h ⊢
    split
    · rename_i hw
      rw [if_pos hw] at h
      rcases h with h | ⟨_, h⟩
      · refine ⟨fun _ _ => trivial, ?_⟩
        rw [Oper.semAt_eq _ _ _ (hnd i o ho)]
        exact uponIn_of_upon hK _ h
      · exact absurd h hL
    · rename_i hw
      rw [if_neg hw] at h
      exact ⟨fun _ _ => trivial, hK _ _ h⟩
theorem wpAnyIn_of_any (hnd : ∀ (i : Nat) (o : Oper), ops[i]? = some o → ∀ c, o.op ≠ .defer c) (hL : ¬ LetsOut Q) : ∀ (f : Nat) (s : Array Bool) (a : Act) (w : World), wpAny P .any ops Q f s a w → wpAnyIn (Fence.wide.inRound l) n P .any ops Q f s a w := by
  intro f
  induction f with
  | zero => intro s a w h; exact h
  | succ f ih => intro s a w h; exact ⟨h.1, fun i hi => wpOpIn_of_op hnd hL (fun a w h => ih _ a w h) (h.2 i hi)⟩
end

/-- In a round: a region that reads and calls, in the order of the text. -/
theorem round_later {m n : Nat} {P : Program} {id : Nat} {Q : Exit → Act → World → Prop} {a : Act} {w : World} {u : Later w} {l : List Oper} (hm : P.follows .mixedOrders = true) (hB : Region.lexB .any l.toArray = true) (hnd : noDefer l = true) (hL : ¬ LetsOut Q)
    (h : wpQuiet P l.toArray (fun w' => ∃ u : Later w, w' = u.now) (fun a' => ∀ w', (∃ u : Later w, w' = u.now) → Q .normal a' w') l a) : (Code.region id l.toArray true).wpIn (Fence.wide.inRound m) n P Q a u.now := by
  simp only [Region.lexB, Bool.and_eq_true] at hB
  refine wpIn_region_any hm (wpAnyIn_of_any (noDefer_spec hnd) hL _ _ _ _ (wpAny_of_quiet (C := fun w' => ∃ u : Later w, w' = u.now) (Q := fun a' => ∀ w', (∃ u : Later w, w' = u.now) → Q .normal a' w') (fun _ w' hw' h => h w' hw') _ _ _ _ ⟨⟨_, up_drew u.up⟩, rfl⟩ ?_))
  have := wpAnyQ_lex (C := fun w' => ∃ u : Later w, w' = u.now) (md := .any) hB.1 l 0 (Array.replicate l.toArray.size false) a (by simp) (by simpa using hB.2) h
  simpa using this

/-- In a round: the head in the order of the text, then the tail. -/
theorem round_tail {m k : Nat} {P : Program} {id : Nat} {Q : Exit → Act → World → Prop} {a : Act} {w : World} {u : Later w} {l : List Oper} (n : Nat) (hm : P.follows .mixedOrders = true) (hB : Region.lexTailB .any l.toArray n = true) (hnd : noDefer l = true) (hL : ¬ LetsOut Q)
    (h : wpQuiet P l.toArray (fun w' => ∃ u : Later w, w' = u.now) (fun a' => ∀ w', (∃ u : Later w, w' = u.now) → wpList P l.toArray Q (l.drop n) a' w') (l.take n) a) : (Code.region id l.toArray true).wpIn (Fence.wide.inRound m) k P Q a u.now := by
  simp only [Region.lexTailB, Bool.and_eq_true, decide_eq_true_eq] at hB
  obtain ⟨⟨⟨⟨hsel, hn⟩, hs⟩, hc⟩, hlex⟩ := hB
  have hn' : n < l.length := by simpa using hn
  have tl : (l.take n).length = n := by simp; omega
  have dl : (l.drop n).length = l.toArray.size - n := by simp
  have H := headAny_lex (P := P) (C := fun w' => ∃ u : Later w, w' = u.now) (g := l.toArray.size - n) hsel hs hc hn (l.take n) 0 (Array.replicate l.toArray.size false) a
    (fun j hj => by rw [tl] at hj; simp [hj]) (by rw [tl]; omega)
    ⟨by simp, fun j oj _ hj => (by rw [getD_replicate_false] at hj; cases hj), fun t _ ht => getD_in (by simpa using ht) (getD_replicate_false _ _)⟩ (by rw [tl]; exact hlex) h
  have G := headAny_wp (Q := Q) (g := l.toArray.size - n) (fun s a' w' hw' hL => by
    have := wpAny_of_seq (md := .any) (Q' := Q) (l.drop n) n s a' w' (fun j => by simp [List.getElem?_drop]) (by rw [dl]; exact hL.1) (hL.2 w' hw')
    rwa [dl] at this) _ _ _ u.now.drew ⟨⟨_, up_drew u.up⟩, rfl⟩ H
  rw [tl, show n + (l.toArray.size - n) = l.toArray.size by omega] at G
  exact wpIn_region_any hm (wpAnyIn_of_any (noDefer_spec hnd) hL _ _ _ _ G)

section
variable {n : Nat} {P : Program} {ops : Array Oper} {Q : Exit → Act → World → Prop}
theorem upon_wide {n : Nat} {P : Program} {o : Oper} {a : Act} {K K' : Act → World → Prop} {Q : Exit → Act → World → Prop} (hK : ∀ a w, K a w → K' a w) : ∀ (r : Result Next), o.upon P a K Q r → o.uponIn Fence.wide n P a K' Q r := by
  intro r h
  cases r with
  | ok x w' =>
    cases x with
    | value v => exact hK _ _ h
    | skip => exact hK _ _ h
    | defer d => exact hK _ _ h
    | enter f args =>
      refine ⟨fun h => by simp [Fence.wide] at h, ?_⟩
      refine callsIn_wide.2 (Calls.mono h ?_)
      intro e w'' he
      cases e with
      | returned v => exact hK _ _ he
      | panicked chain => exact he
      | outgrown => exact he
    | row row args =>
      refine ⟨fun h => by simp [Fence.wide] at h, ?_⟩
      intro c cs _
      obtain ⟨v, w'', hr, hs⟩ := h c cs
      exact ⟨v, w'', hK _ _ hr, stepsIn_wide.2 hs⟩
    | _ => exact h.elim
  | halt x w' =>
    cases x with
    | panic v => exact h
    | _ => exact h.elim
theorem wideOp_of_op {i : Nat} {K K' : Act → World → Prop} {a : Act} {w : World} (hL : ¬ LetsOut Q) (hK : ∀ a w, K a w → K' a w)
    (h : wpOp P ops Q i K a w) : wpOpIn Fence.wide n P ops Q i K' a w := by
  unfold wpOp at h
  unfold wpOpIn
  cases ho : ops[i]? with
  | none => simp only [ho] at h ⊢; exact hK _ _ h
  | some o =>
    simp only [ho] at h ⊢
    split
    · rename_i hw
      rw [if_pos hw] at h
      rcases h with h | ⟨_, h⟩
      · exact ⟨fun _ _ => trivial, upon_wide hK _ h⟩
      · exact absurd h hL
    · rename_i hw
      rw [if_neg hw] at h
      exact ⟨fun _ _ => trivial, hK _ _ h⟩
theorem headAny_wide {C : World → Prop} {m g : Nat} {L : Array Bool → Act → Prop} (hO : ¬ LetsOut Q) (hL : ∀ s a w, C w → L s a → wpAnyIn Fence.wide n P .any ops Q g s a w) :
    ∀ (f : Nat) (s : Array Bool) (a : Act) (w : World), C w → headAny P ops C m L f s a → wpAnyIn Fence.wide n P .any ops Q (f + g) s a w := by
  intro f
  induction f with
  | zero => intro s a w hw h; rw [Nat.zero_add]; exact hL _ _ _ hw h
  | succ f ih =>
    intro s a w hw h
    rw [show f + 1 + g = f + g + 1 by omega]
    exact ⟨fun h0 => absurd h0 h.1, fun i hi => wideOp_of_op hO (fun _ _ h => h) (wpOp_of_qOp hw (fun a' w' hw' h' => ih _ a' w' hw' h') (h.2 i hi).2)⟩
theorem wideAny_of_seq : ∀ (l : List Oper) (k : Nat) (s : Array Bool) (a : Act) (w : World), (∀ j, l[j]? = ops[k + j]?) →
    Region.seqB .any ops l.length k s = true → wpListIn Fence.wide n P ops Q l a w → wpAnyIn Fence.wide n P .any ops Q l.length s a w
  | [], _, _, _, _, _, hB, h => ⟨by simpa [Region.seqB] using hB, h⟩
  | o :: l, k, s, a, w, hl, hB, h => by
    have h0 : ops[k]? = some o := by simpa using (hl 0).symm
    simp only [List.length_cons, Region.seqB, Bool.and_eq_true, decide_eq_true_eq] at hB
    refine ⟨fun h1 => (by rw [hB.1] at h1; cases h1), fun i hi => ?_⟩
    rw [hB.1] at hi
    have hik : i = k := by simpa using hi
    subst hik
    have hw : wpOpIn Fence.wide n P ops Q i (wpListIn Fence.wide n P ops Q l) a w := by unfold wpOpIn; simp only [h0]; exact h
    exact wpOpIn_mono (fun a' w' h' => wideAny_of_seq l (i + 1) _ a' w' (fun j => by have := hl (j + 1); simpa [Nat.add_assoc, Nat.add_comm 1 j] using this) hB.2 h') hw
end

/-- An iterator's region: the head in the order of the text, then the tail, which may call yield. -/
theorem iter_tail {k : Nat} {P : Program} {id : Nat} {Q : Exit → Act → World → Prop} {a : Act} {w : World} {u : Later w} {l : List Oper} (n : Nat) (hm : P.follows .mixedOrders = true) (hB : Region.lexTailB .any l.toArray n = true) (hO : ¬ LetsOut Q)
    (h : wpQuiet P l.toArray (fun w' => ∃ u : Later w, w' = u.now) (fun a' => ∀ w', (∃ u : Later w, w' = u.now) → wpListIn Fence.wide k P l.toArray Q (l.drop n) a' w') (l.take n) a) : (Code.region id l.toArray true).wpIn Fence.wide k P Q a u.now := by
  simp only [Region.lexTailB, Bool.and_eq_true, decide_eq_true_eq] at hB
  obtain ⟨⟨⟨⟨hsel, hn⟩, hs⟩, hc⟩, hlex⟩ := hB
  have hn' : n < l.length := by simpa using hn
  have tl : (l.take n).length = n := by simp; omega
  have dl : (l.drop n).length = l.toArray.size - n := by simp
  have H := headAny_lex (P := P) (C := fun w' => ∃ u : Later w, w' = u.now) (g := l.toArray.size - n) hsel hs hc hn (l.take n) 0 (Array.replicate l.toArray.size false) a
    (fun j hj => by rw [tl] at hj; simp [hj]) (by rw [tl]; omega)
    ⟨by simp, fun j oj _ hj => (by rw [getD_replicate_false] at hj; cases hj), fun t _ ht => getD_in (by simpa using ht) (getD_replicate_false _ _)⟩ (by rw [tl]; exact hlex) h
  have G := headAny_wide (Q := Q) (n := k) (g := l.toArray.size - n) hO (fun s a' w' hw' hL => by
    have := wideAny_of_seq (Q := Q) (n := k) (P := P) (l.drop n) n s a' w' (fun j => by simp [List.getElem?_drop]) (by rw [dl]; exact hL.1) (hL.2 w' hw')
    rwa [dl] at this) _ _ _ u.now.drew ⟨⟨_, up_drew u.up⟩, rfl⟩ H
  rw [tl, show n + (l.toArray.size - n) = l.toArray.size by omega] at G
  exact wpIn_region_any hm G
end Go.Proofs.Ytffnngmiaihkeaa
/- Plain facts of places: columns and rows in a list; things laid one by one, each from its own source. -/
namespace Go.Proofs.Ytffnngmiaihkeaa
set_option linter.unusedVariables false

theorem td (a b c : Int) (ha : 0 ≤ a) (hb : 0 ≤ b) (hbc : b < c) : (a * c + b).tdiv c = a ∧ (a * c + b).tmod c = b := by
  have h0 : 0 ≤ a * c := Int.mul_nonneg ha (by omega)
  rw [Int.tdiv_eq_ediv_of_nonneg (by omega), Int.tmod_eq_emod_of_nonneg (by omega), Int.add_comm]
  refine ⟨?_, ?_⟩
  · rw [Int.add_mul_ediv_right _ _ (by omega), Int.ediv_eq_zero_of_lt hb hbc]
    omega
  · rw [Int.add_mul_emod_self_right, Int.emod_eq_of_lt hb hbc]

/-- Things laid one by one: each place has what came from its own source. -/
theorem fold_sets {α : Type} (d : α) (l : List α) (n m : Nat) (f : List α → Nat → List α) (t : Nat → Option Nat) (s : Nat → Nat)
    (hf : ∀ L k, f L k = match t k with
      | none => L
      | some j => L.set j (l[k]?.getD d))
    (ht : ∀ k j, k < n → j < m → (t k = some j ↔ s j = k)) (hs : ∀ j, j < m → s j < n) :
    (List.range n).foldl f (List.replicate m d) = (List.range m).map fun j => l[s j]?.getD d := by
  have key : ∀ k, k ≤ n → ((List.range k).foldl f (List.replicate m d)).length = m ∧ ∀ j, j < m → ((List.range k).foldl f (List.replicate m d))[j]? = some (if s j < k then l[s j]?.getD d else d) := by
    intro k
    induction k with
    | zero => intro _; exact ⟨by simp, fun j hj => by simp [hj]⟩
    | succ k ih =>
      intro hk
      obtain ⟨h1, h2⟩ := ih (by omega)
      rw [List.range_succ, List.foldl_append]
      generalize (List.range k).foldl f (List.replicate m d) = L at *
      simp only [List.foldl_cons, List.foldl_nil, hf]
      cases e : t k with
      | none =>
        refine ⟨h1, fun j hj => ?_⟩
        rw [h2 j hj]
        have : s j ≠ k := fun h => by rw [(ht k j (by omega) hj).2 h] at e; cases e
        by_cases h : s j < k
        · rw [if_pos h, if_pos (by omega)]
        · rw [if_neg h, if_neg (by omega)]
      | some i =>
        refine ⟨by rw [List.length_set]; exact h1, fun j hj => ?_⟩
        show (L.set i _)[j]? = _
        rw [List.getElem?_set]
        by_cases h : i = j
        · subst h
          have : s i = k := (ht k i (by omega) hj).1 e
          rw [if_pos rfl, if_pos (by omega), this, if_pos (by omega)]
        · rw [if_neg h, h2 j hj]
          have : s j ≠ k := fun h' => by rw [(ht k j (by omega) hj).2 h'] at e; injection e; omega
          by_cases h : s j < k
          · rw [if_pos h, if_pos (by omega)]
          · rw [if_neg h, if_neg (by omega)]
  obtain ⟨h1, h2⟩ := key n (Nat.le_refl _)
  apply List.ext_getElem?
  intro j
  by_cases hj : j < m
  · rw [h2 j hj, if_pos (hs j hj)]
    simp [hj]
  · rw [List.getElem?_eq_none (by omega), List.getElem?_eq_none (by simp; omega)]

/-- A place in the list, as column and row. -/
theorem split_place (k : Nat) (c r : Int) (hc : 1 ≤ c) (hk : (k : Int) < c * r) : ∃ x y : Int, (k : Int).tmod c = x ∧ (k : Int).tdiv c = y ∧ 0 ≤ x ∧ x < c ∧ 0 ≤ y ∧ y < r ∧ y * c + x = k := by
  have h1 := Int.mul_tdiv_add_tmod (k : Int) c
  have h2 : 0 ≤ (k : Int).tmod c := Int.tmod_nonneg _ (by omega)
  have h3 : (k : Int).tmod c < c := Int.tmod_lt_of_pos _ (by omega)
  have h4 : 0 ≤ (k : Int).tdiv c := Int.tdiv_nonneg (by omega) (by omega)
  refine ⟨_, _, rfl, rfl, h2, h3, h4, ?_, by rw [Int.mul_comm]; exact h1⟩
  generalize (k : Int).tmod c = m at *
  generalize (k : Int).tdiv c = d at *
  have : c * d < c * r := by omega
  exact Int.lt_of_mul_lt_mul_left this (by omega)
theorem place_lt {c r x y : Int} (hc : 1 ≤ c) (hx : 0 ≤ x) (hx2 : x < c) (hy : 0 ≤ y) (hy2 : y < r) : 0 ≤ y * c + x ∧ y * c + x < c * r := by
  have a : 0 ≤ y * c := Int.mul_nonneg hy (by omega)
  have b : (y + 1) * c ≤ r * c := Int.mul_le_mul_of_nonneg_right (by omega) (by omega)
  rw [Int.add_mul, Int.one_mul] at b
  rw [Int.mul_comm c r]
  omega

/-- Where the k-th thing of a part stood. -/
def srcP (c col row pc : Int) (k : Nat) : Int := (row + (k : Int).tdiv pc) * c + col + (k : Int).tmod pc
theorem srcP_lt {c r col row pc pr : Int} (hc : 1 ≤ c) (h0 : 0 ≤ col) (h1 : col + pc ≤ c) (h2 : 0 ≤ row) (h3 : row + pr ≤ r) (hp : 1 ≤ pc) (k : Nat) (hk : (k : Int) < pc * pr) : 0 ≤ srcP c col row pc k ∧ srcP c col row pc k < c * r := by
  obtain ⟨x, y, e1, e2, b0, b1, b2, b3, b4⟩ := split_place k pc pr hp hk
  unfold srcP
  rw [e1, e2, Int.add_assoc]
  exact place_lt hc (by omega) (by omega) (by omega) (by omega)

/-- Where the k-th thing of a mirrored grid stood. -/
def srcM (up : Bool) (c r : Int) (k : Nat) : Int := if up = true then (k : Int).tdiv c * c + (c - 1 - (k : Int).tmod c) else (r - 1 - (k : Int).tdiv c) * c + (k : Int).tmod c
theorem srcM_lt (up : Bool) {c r : Int} (hc : 1 ≤ c) (k : Nat) (hk : (k : Int) < c * r) : 0 ≤ srcM up c r k ∧ srcM up c r k < c * r := by
  obtain ⟨x, y, e1, e2, b0, b1, b2, b3, b4⟩ := split_place k c r hc hk
  unfold srcM
  rw [e1, e2]
  split
  · exact place_lt hc (by omega) (by omega) (by omega) (by omega)
  · exact place_lt hc (by omega) (by omega) (by omega) (by omega)
theorem srcM_twice (up : Bool) {c r : Int} (hc : 1 ≤ c) (k : Nat) (hk : (k : Int) < c * r) : (srcM up c r (srcM up c r k).toNat).toNat = k := by
  obtain ⟨x, y, e1, e2, b0, b1, b2, b3, b4⟩ := split_place k c r hc hk
  have hl := srcM_lt up hc k hk
  have hcast : ((srcM up c r k).toNat : Int) = srcM up c r k := by omega
  cases up
  · have e : srcM false c r k = (r - 1 - y) * c + x := by simp [srcM, e1, e2]
    rw [e] at hcast
    obtain ⟨t1, t2⟩ := td (r - 1 - y) x c (by omega) b0 b1
    have : srcM false c r (srcM false c r k).toNat = k := by
      rw [e]
      simp only [srcM, hcast, t1, t2]
      rw [← b4]
      simp
      congr 1
      omega
    omega
  · have e : srcM true c r k = y * c + (c - 1 - x) := by simp [srcM, e1, e2]
    rw [e] at hcast
    obtain ⟨t1, t2⟩ := td y (c - 1 - x) c b2 (by omega) (by omega)
    have : srcM true c r (srcM true c r k).toNat = k := by
      rw [e]
      simp only [srcM, hcast, t1, t2]
      rw [← b4]
      simp
      omega
    omega
/-- A place's number in the list. -/
abbrev Ix (m : Nat) := { k : Nat // k < m }
/-- The first k numbers. -/
def ixs (m k : Nat) : List (Ix m) := (List.range k).filterMap fun i => if h : i < m then some ⟨i, h⟩ else none
theorem ixs_succ {m k : Nat} (h : k < m) : ixs m (k + 1) = ixs m k ++ [⟨k, h⟩] := by simp [ixs, List.range_succ, h]
theorem ixs_zero (m : Nat) : ixs m 0 = [] := rfl
theorem ixs_length {m : Nat} : ∀ k, k ≤ m → (ixs m k).length = k
  | 0, _ => rfl
  | k + 1, h => by rw [ixs_succ (by omega), List.length_append, ixs_length k (by omega)]; rfl
theorem ixs_at {m : Nat} : ∀ (k : Nat), k ≤ m → ∀ j, j < k → ∃ h : j < m, (ixs m k)[j]? = some ⟨j, h⟩
  | 0, _, j, hj => absurd hj (Nat.not_lt_zero _)
  | k + 1, hk, j, hj => by
    rw [ixs_succ (Nat.lt_of_succ_le hk)]
    by_cases h : j < k
    · obtain ⟨h1, h2⟩ := ixs_at k (Nat.le_of_succ_le hk) j h
      refine ⟨h1, ?_⟩
      rw [List.getElem?_append_left (by rw [ixs_length k (Nat.le_of_succ_le hk)]; exact h)]
      exact h2
    · obtain rfl : j = k := by omega
      refine ⟨Nat.lt_of_succ_le hk, ?_⟩
      rw [List.getElem?_append_right (by rw [ixs_length j (Nat.le_of_succ_le hk)]; exact Nat.le_refl _), ixs_length j (Nat.le_of_succ_le hk), Nat.sub_self]
      rfl
end Go.Proofs.Ytffnngmiaihkeaa
/- What grid.All hands back: a function that yields each place and the thing there, as they stood when the walk began, as long as they are wanted, whatever is done with each. -/
namespace Go.Proofs.Ytffnngmiaihkeaa
open Go.RowKit Go.Shelf
set_option linter.unusedVariables false

set_option maxHeartbeats 2000000 in
theorem shClone_any {w : World} {A : Nat} {l : List Ptr} (h : Bx w A (encS l)) (hm : l.length ≤ 4096) :
    Calls Try.prog 55 #[.slice (some ⟨A, 0, none⟩) l.length l.length] w fun e w' => ∃ v', e = .returned v' ∧ w'.ownsRow w.heap.size 55 1 v' l.length (encS l) ∧ Below w.heap.size w w' := by
  obtain ⟨i0, hi, hz0, hz1, hz2⟩ := info_parts Try.infoPtr
  have q : ∀ (w : World) (a : Option Addr) (n c n' c' : Nat), (binOp .eql 88 (.slice a n c) (.slice none n' c')).run Try.prog w = .ok (.bool a.isNone) w := fun w a n c n' c' => Lib.run_eql_slice_nil w _ _ a n c n' c' Try.underlying88
  have A' := Lib.hid h
  clear h
  obtain ⟨n, hn⟩ : ∃ n, l.length = n := ⟨_, rfl⟩
  have HN := Lib.hid hn
  rw [hn] at hm ⊢
  clear hn
  go_enter Try.func55, Try.ntmps55
  go_wp2_with (at_builtin; refine wpList_append_own _ rfl _ _ 88 rfl w.heap.size 55 i0 (.pointer none) 1 8 Try.underlying88 hi hz0 hz1 hz2 rfl (by decide) _ _ _ rfl (World.ownsRow_made w #[] 0 (Nat.le_refl _) (Nat.zero_le _) rfl) ⟨A, 0, none⟩ n n (encS l) rfl ?qc1 ?qc2 ?qc3 ?qc4 ?qc5 ?qc6 ?_)
  case qc1 => simp [encS]; exact HN.out
  case qc2 =>
    intro j u hj
    rw [show (⟨A, 0, none⟩ : Addr).add j = ⟨A, j, none⟩ by unfold Addr.add; split <;> simp_all]
    exact bl_cell (up_alloc (Below.refl _ _) _) (A'.out.cell j hj)
  case qc3 => intro u hu; obtain ⟨x, _, rfl⟩ := List.mem_map.1 hu; rfl
  case qc4 => unfold maxLen; omega
  case qc5 => omega
  case qc6 => simp
  intro v' w1 hown hgrow hnil
  go_wp2
  go_ret
  refine ⟨v', rfl, by simpa using hown, ?_⟩
  exact ((Below.refl _ w).alloc (Nat.le_refl _) _).grown hgrow (by simp) (by intro k hk; simp [Value.ownBlock] at hk; omega)

/-- What a round may do: lists of pointers to piles that lie there, but for the body's own (O), stay as they are; what is not the body's own does not become so. -/
def KeepS (O : World → Nat → Prop) (W W' : World) : Prop :=
  W.heap.size ≤ W'.heap.size ∧ (∀ b, b < W.heap.size → O W' b → O W b) ∧ ∀ b cur fr, ¬ O W b → W.heap[b]? = some (.cells cur 55 fr) → W'.heap[b]? = some (.cells cur 55 fr)
theorem KeepS.trans {O : World → Nat → Prop} {A B C : World} (h : KeepS O A B) (k : KeepS O B C) : KeepS O A C :=
  ⟨Nat.le_trans h.1 k.1, fun b hb ho => h.2.1 b hb (k.2.1 b (by have := h.1; omega) ho), fun b cur fr hn hc =>
    have hB := h.2.2 b cur fr hn hc
    k.2.2 b cur fr (fun ho => hn (h.2.1 b (Array.getElem?_eq_some_iff.1 hc).1 ho)) hB⟩

/-- A place, and the thing there, as a loop's two variables. -/
def encV (x : (Int × Int) × Ptr) : Array Value := #[.agg #[.int .i64 x.1.1, .int .i64 x.1.2], .pointer x.2]
/-- The first k places, and what stands there. -/
def ptS (c : Int) (l : List Ptr) (k : Nat) : List ((Int × Int) × Ptr) := (List.range k).map fun (i : Nat) => (((i : Int).tmod c, (i : Int).tdiv c), l[i]?.getD none)
theorem ptS_succ (c : Int) (l : List Ptr) (k : Nat) : ptS c l (k + 1) = ptS c l k ++ [((((k : Int).tmod c), ((k : Int).tdiv c)), l[k]?.getD none)] := by simp [ptS, List.range_succ]
theorem ptS_length (c : Int) (l : List Ptr) (k : Nat) : (ptS c l k).length = k := by simp [ptS]

/-- The iterator's copy: its cells. -/
def CopyS (W : World) (D : Nat) (l : List Ptr) : Prop := ∃ cur fr, W.heap[D]? = some (.cells cur 55 fr) ∧ cur.toList.take l.length = encS l
theorem CopyS.lt {W : World} {D : Nat} {l : List Ptr} (h : CopyS W D l) : D < W.heap.size := by
  obtain ⟨cur, fr, hc, _⟩ := h
  exact (Array.getElem?_eq_some_iff.1 hc).1
theorem CopyS.cell {W : World} {D : Nat} {l : List Ptr} (h : CopyS W D l) (k : Nat) (x : Ptr) (hx : l[k]? = some x) : W.cell? ⟨D, k, none⟩ = some (.pointer x) := by
  obtain ⟨cur, fr, hc, ht⟩ := h
  have e : (encS l)[k]? = some (.pointer x) := by simp [encS, hx]
  rw [← ht, List.getElem?_take_of_lt (List.getElem?_eq_some_iff.1 hx).1] at e
  simp [World.cell?, hc]
  simpa using e
theorem CopyS.keep {O : World → Nat → Prop} {W W' : World} {D : Nat} {l : List Ptr} (h : CopyS W D l) (hk : KeepS O W W') (ho : ¬ O W D) : CopyS W' D l ∧ ¬ O W' D := by
  obtain ⟨cur, fr, hc, ht⟩ := h
  exact ⟨⟨cur, fr, hk.2.2 D cur fr ho hc, ht⟩, fun h => ho (hk.2.1 D (Array.getElem?_eq_some_iff.1 hc).1 h)⟩

set_option maxRecDepth 100000 in
set_option maxHeartbeats 4000000 in
theorem shAll_in (n : Nat) (O : World → Nat → Prop) (l0 B G A : Nat) (c r : Int) (l : List Ptr) (J Jx : Nat → World → Prop)
    (hal : ∀ k W W', J k W → W.grownBy W' none → J k W')
    (hY : ∀ (k : Nat) x W, l[k]? = some x → J k W → YieldAt Fence.wide (n - 1) Try.prog l0 (encV (((k : Int).tmod c, (k : Int).tdiv c), x)) W fun e W' =>
      (e = .returned (.bool true) ∧ J (k + 1) W' ∧ KeepS O W W') ∨ (e = .returned (.bool false) ∧ Jx (k + 1) W'))
    (W : World) (hB : W.cell? ⟨B, 0, none⟩ = some (.pointer (some ⟨G, 0, none⟩))) (hG : Gs W G A c r l) (hO : ∀ W', Below W.heap.size W W' → ∀ b, O W' b → b < W.heap.size) (hOu : ∀ V V', W.heap.size ≤ V.heap.size → Below V.heap.size V V' → KeepS O V V') (h0 : J 0 W) :
    CallsIn Fence.wide n Try.prog 54 #[.func (.yield l0) #[] #[], .pointer (some ⟨B, 0, none⟩)] W fun e W' => (∃ v, e = .returned v) ∧
      (J l.length W' ∨ (∃ k, k < l.length ∧ Jx (k + 1) W')) := by
  refine callsIn_of_wp Try.func54 rfl trivial ?_ rfl
  simp only [Try.ntmps54, List.size_toArray, List.length_cons, List.length_nil, Nat.reduceAdd, Nat.reduceSub, Array.replicate_succ, Array.replicate_zero, List.push_toArray, List.append_toArray, List.nil_append, List.cons_append]
  have b0 := hG.box.cell 0 rfl
  have b2 := hG.box.cell 2 rfl
  have hl := hG.pos
  have hle := hG.le
  have c1 := hG.c1
  have c0 : c ≠ 0 := by omega
  have HA := Lib.hid hG
  have KC := fun (W' : World) (h : Below W.heap.size W W') => shClone_any (hG.up h).row hle
  have HC := Lib.hid KC
  clear KC hG
  obtain ⟨m, hm⟩ : ∃ m, l.length = m := ⟨_, rfl⟩
  have HM := Lib.hid hm
  rw [hm] at b2 hl hle
  rw [hm] at HC
  clear hm
  gi_wp2
  refine wpIn_wide.2 ?_
  go_region_held3 (fun w' => w'.cell? ⟨B, 0, none⟩ = some (.pointer (some ⟨G, 0, none⟩)) ∧ w'.cell? ⟨G, 0, none⟩ = some (.int .i64 c) ∧ w'.cell? ⟨G, 2, none⟩ = some (.slice (some ⟨A, 0, none⟩) m m))
    (first | exact ⟨bl_cell hbc hB, bl_cell hbc b0, bl_cell hbc b2⟩ | exact ⟨hB, b0, b2⟩)
    ((go_at_call 55; refine (HC.out _ (up_drew (Below.refl _ _))).mono ?_; rintro e w1 ⟨v, rfl, hrow, hbc⟩))
  rename_i hK hH
  refine hK _ _ ?_
  clear hH hK
  have hbW : Below W.heap.size W w1 := up_trans (up_drew (Below.refl _ _)) hbc
  obtain ⟨D, cap, rfl, hDo, hDc, hDg⟩ : ∃ D cap, v = .slice (some ⟨D, 0, none⟩) m cap ∧ ¬ O w1 D ∧ CopyS w1 D l ∧ W.heap.size ≤ D := by
    rcases hrow.2 with ⟨_, h0⟩ | ⟨g, cap, cur, rfl, hb, hg, hcap, hmax, hsz, htk⟩
    · omega
    · exact ⟨g, cap, rfl, fun ho => by have := hO w1 hbW g ho; have : W.heap.size ≤ g := hb; omega, ⟨cur, (0, 0), hg, by rw [HM.out]; simpa using htk⟩, hb⟩
  have hJ1 : J 0 w1 := hal 0 W w1 h0 ⟨hbW.os, hbW.tape, hbW.output, hbW.size, fun k hk _ => hbW.block k hk⟩
  clear hrow hbc hbW h0 hB b0 b2 HA HC hO
  have hU : ∀ V V', Below V.heap.size V V' → CopyS V D l → ¬ O V D → CopyS V' D l ∧ ¬ O V' D := fun V V' h h1 h2 => h1.keep (hOu V V' (Nat.le_of_lt (Nat.lt_of_le_of_lt hDg h1.lt)) h) h2
  have HU := Lib.hid hU
  clear hU hOu hDg
  have HY := Lib.hid hY; have HJ := Lib.hid hJ1; have HD := Lib.hid hDc; have HO := Lib.hid hDo; have HL := Lib.hid hal
  clear hY hJ1 hDc hDo hal
  gi_wp2
  gi_loopw [20] (fun i wr => ∃ k : Nat, k ≤ m ∧ i = .int .i64 (k : Int) ∧ J k wr ∧ CopyS wr D l ∧ ¬ O wr D) (fun i _ => m - (intOf i).toNat)
  case atStart => exact ⟨0, by omega, by go_num, HJ.out, HD.out, HO.out⟩
  case round =>
    obtain ⟨k, hk, rfl, hJs, hC, hOo⟩ := hrel
    by_cases hlt : k < m
    · obtain ⟨x, hx⟩ : ∃ x, l[k]? = some x := ⟨l[k]'(by rw [HM.out]; exact hlt), List.getElem?_eq_getElem _⟩
      have hcx := hC.cell k x hx
      have z0 : (0 : Int) ≤ (k : Int) := by omega
      have z1 : (k : Int) < (m : Int) := by omega
      obtain ⟨q1, hq1⟩ : ∃ q, (k : Int).tmod c = q := ⟨_, rfl⟩
      obtain ⟨q2, hq2⟩ : ∃ q, (k : Int).tdiv c = q := ⟨_, rfl⟩
      have hw2 : wrap64 q2 = q2 := by
        have h1 : 0 ≤ q2 := by rw [← hq2]; exact Int.tdiv_nonneg (by omega) (by omega)
        have h2 : q2 ≤ k := by rw [← hq2]; exact Int.tdiv_le_self _ (by omega)
        exact IntWalk.wrap64_in q2 (by omega)
      have KY := fun W h => HY.out k x W hx h
      rw [hq1, hq2] at KY
      have HYk := Lib.hid KY; have HJ2 := Lib.hid hJs; have HC2 := Lib.hid hC; have HO2 := Lib.hid hOo
      clear KY hJs hC hOo hx
      gi_wp2
      refine later_start (w := wr) ?_
      intro u
      refine iter_tail 9 (by kernel_rfl) (by kernel_rfl) ?_ ?_
      · rintro ⟨a, w, h⟩
        obtain ⟨v, hv⟩ : ∃ v, Ending.outgrown = .returned v := (show (∃ v, Ending.outgrown = .returned v) ∧ _ from h).1
        cases hv
      · simp only [List.take_succ_cons, List.take_zero, List.drop_succ_cons, List.drop_zero]
        repeat (go_big_quiet_step (fail))
        refine wpQuiet_nil ?_
        rintro _ ⟨u2, rfl⟩
        have hg2 : wr.grownBy u2.now none := ⟨u2.up.os, u2.up.tape, u2.up.output, u2.up.size, fun k hk _ => u2.up.block k hk⟩
        have hJ3 := HL.out _ _ _ HJ2.out hg2
        have hk2 : CopyS u2.now D l ∧ ¬ O u2.now D := HU.out _ _ u2.up HC2.out HO2.out
        obtain ⟨fn, tmps, assign, body, hy, hR⟩ := HYk.out _ hJ3
        unfold encV at hy
        dsimp only at hy
        have HK2 := Lib.hid hk2
        clear hk2 hJ3 hg2 hcx
        generalize u2.now = w3 at *
        gi_wp2
        refine ⟨fun h => by simp [Fence.wide] at h, hR.mono ?_⟩
        rintro e W3 (⟨rfl, hJ3, hk3⟩ | ⟨rfl, hJx3⟩)
        · gi_wp2
          go_roundw
          case rel =>
            obtain ⟨h1, h2⟩ := HK2.out.1.keep hk3 HK2.out.2
            exact ⟨k + 1, by omega, by go_num, hJ3, h1, h2⟩
          case measure => simp [intOf]; omega
        · gi_wp2
          refine bodyPost_ret (results_none rfl _ _ _) rfl ?_
          exact ⟨⟨_, rfl⟩, .inr ⟨k, by rw [HM.out]; exact hlt, hJx3⟩⟩
    · have hk2 : m ≤ k := by omega
      have e : k = m := by omega
      subst e
      have HJ2 := Lib.hid hJs
      clear hJs hC hOo
      gi_wp2
      go_end0
      exact ⟨⟨_, rfl⟩, .inl (by rw [HM.out]; exact HJ2.out)⟩

/-- What All hands back, as a range over it sees it. -/
theorem shAll_stops (n : Nat) (O : World → Nat → Prop) (B G A : Nat) (c r : Int) (l : List Ptr) (w : World) (hB : w.cell? ⟨B, 0, none⟩ = some (.pointer (some ⟨G, 0, none⟩))) (hG : Gs w G A c r l) (hO : ∀ W', Below w.heap.size w W' → ∀ b, O W' b → b < w.heap.size) (hOu : ∀ V V', w.heap.size ≤ V.heap.size → Below V.heap.size V V' → KeepS O V V') :
    SeqStopsK Fence.wide n Try.prog 54 #[.pointer (some ⟨B, 0, none⟩)] encV (KeepS O) (fun ys => ys = ptS c l l.length) (fun pre => ∃ k, k < l.length ∧ pre = ptS c l (k + 1)) l.length w := fun l0 J Jx W hW hJ _ hY h0 =>
  (shAll_in n O l0 B G A c r l (fun k => J (ptS c l k)) (fun k => Jx (ptS c l k)) (fun k W W' h hg => hJ _ W W' none h hg (fun r e => by cases e))
    (fun k x W hx h => by
      have := hY (ptS c l k) (((k : Int).tmod c, (k : Int).tdiv c), x) W h (by rw [ptS_length]; exact (List.getElem?_eq_some_iff.1 hx).1)
      rwa [show ptS c l k ++ [(((k : Int).tmod c, (k : Int).tdiv c), x)] = ptS c l (k + 1) by rw [ptS_succ, hx]; rfl] at this)
    W (bl_cell hW hB) (hG.up hW) (fun W' h b ho => Nat.lt_of_lt_of_le (hO W' (up_trans hW h) b ho) hW.size) (fun V V' h => hOu V V' (Nat.le_trans hW.size h)) h0).mono
    fun e W' ⟨h1, h2⟩ => ⟨h1, h2.elim (fun h => .inl ⟨_, rfl, h⟩) (fun ⟨k, hk, h⟩ => .inr ⟨_, ⟨k, hk, rfl⟩, h⟩)⟩

/-- What is yielded of number k. -/
def encI (c : Int) (l : List Ptr) (k : Ix l.length) : Array Value := encV (((k.1 : Int).tmod c, (k.1 : Int).tdiv c), l[k.1]'k.2)
/-- The same, told by numbers: the body knows that what it is handed stands there. -/
theorem shAll_stopsI (n : Nat) (O : World → Nat → Prop) (B G A : Nat) (c r : Int) (l : List Ptr) (w : World) (hB : w.cell? ⟨B, 0, none⟩ = some (.pointer (some ⟨G, 0, none⟩))) (hG : Gs w G A c r l) (hO : ∀ W', Below w.heap.size w W' → ∀ b, O W' b → b < w.heap.size) (hOu : ∀ V V', w.heap.size ≤ V.heap.size → Below V.heap.size V V' → KeepS O V V') :
    SeqStopsK Fence.wide n Try.prog 54 #[.pointer (some ⟨B, 0, none⟩)] (encI c l) (KeepS O) (fun ys => ys = ixs l.length l.length) (fun pre => ∃ k, k < l.length ∧ pre = ixs l.length (k + 1)) l.length w := fun l0 J Jx W hW hJ _ hY h0 =>
  (shAll_in n O l0 B G A c r l (fun k => J (ixs l.length k)) (fun k => Jx (ixs l.length k)) (fun k W W' h hg => hJ _ W W' none h hg (fun r e => by cases e))
    (fun k x W hx h => by
      obtain ⟨hk, rfl⟩ := List.getElem?_eq_some_iff.1 hx
      have := hY (ixs l.length k) ⟨k, hk⟩ W h (by rw [ixs_length k (by omega)]; exact hk)
      rwa [← ixs_succ hk] at this)
    W (bl_cell hW hB) (hG.up hW) (fun W' h b ho => Nat.lt_of_lt_of_le (hO W' (up_trans hW h) b ho) hW.size) (fun V V' h => hOu V V' (Nat.le_trans hW.size h)) h0).mono
    fun e W' ⟨h1, h2⟩ => ⟨h1, h2.elim (fun h => .inl ⟨_, rfl, h⟩) (fun ⟨k, hk, h⟩ => .inr ⟨_, ⟨k, hk, rfl⟩, h⟩)⟩
end Go.Proofs.Ytffnngmiaihkeaa
