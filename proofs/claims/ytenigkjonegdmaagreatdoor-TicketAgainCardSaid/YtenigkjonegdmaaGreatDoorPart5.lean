/- Part 5 of the texts that the proofs of this seat share: TicketMath, NumRow, IntsSame, RefNums, QuietTail, QuickOrder. -/
import Derived.Test.YtenigkjonegdmaaGreatDoorPart4
import Derived.Test.YtenigkjonegdmaaGreatDoorPart2
import Derived.Test.YtenigkjonegdmaaGreatDoorProg
import Derived.IntWalk
import Derived.Laws.AppendOwn
import Derived.Laws.IdiomCopy
import Derived.RangeFuncBox
import Derived.Deep.Upon
import Derived.Lib.Hide
import Derived.Test.YtenigkjonegdmaaGreatDoorPart1
import Derived.WalkKit
import Derived.BigQuiet
import Derived.StillTail
import Derived.KernelRfl
/- Tickets as plain data: what belongs to each key, a job's lines, and what lines come to. -/
namespace Go.Proofs.YtenigkjonegdmaaGreatDoor
open Go.RowKit DecMath
set_option linter.unusedVariables false
set_option linter.unusedSimpArgs false

/-- A key: its word, its kind, the place of its first number, how many parts belong to it, at least and at most. -/
structure Ky where
  w : List UInt8
  d : Int
  f : Nat
  lo : Nat
  hi : Nat
deriving DecidableEq
def keyL : List Ky := [
  ⟨[116, 105, 116, 108, 101], 0, 0, 1, 1⟩,
  ⟨[112, 97, 103, 101, 115], 1, 0, 1, 1⟩,
  ⟨[98, 111, 120], 1, 1, 2, 2⟩,
  ⟨[116, 114, 105, 109], 1, 3, 2, 2⟩,
  ⟨[98, 108, 101, 101, 100], 1, 5, 1, 1⟩,
  ⟨[109, 97, 114, 103, 105, 110, 115], 1, 6, 4, 4⟩,
  ⟨[98, 105, 110, 100, 105, 110, 103], 2, 10, 1, 1⟩,
  ⟨[102, 111, 108, 100, 115], 4, 0, 1, 7⟩,
  ⟨[108, 97, 115, 116], 5, 0, 1, 4⟩,
  ⟨[115, 116, 121, 108, 101], 3, 11, 1, 1⟩,
  ⟨[115, 104, 101, 101, 116], 1, 12, 2, 2⟩,
  ⟨[97, 114, 101, 97], 1, 14, 3, 3⟩,
  ⟨[112, 97, 112, 101, 114], 1, 17, 3, 3⟩,
  ⟨[113, 117, 97, 114, 116, 101, 114], 1, 20, 1, 1⟩,
  ⟨[109, 97, 114, 107, 115], 1, 21, 3, 3⟩,
  ⟨[115, 116, 97, 105, 114], 1, 24, 4, 4⟩]
theorem keyL_length : keyL.length = 16 := rfl
theorem key_nodup : keyL.Nodup := by decide
theorem key_words : ∀ a ∈ keyL, ∀ b ∈ keyL, a.w = b.w → a = b := by decide
theorem key_plain : ∀ k ∈ keyL, k.w ≠ [] ∧ k.w.all plainO = true := by decide
theorem key_kind : ∀ k ∈ keyL, k.d = 0 ∨ k.d = 1 ∨ k.d = 2 ∨ k.d = 3 ∨ k.d = 4 ∨ k.d = 5 := by decide
theorem key_places : ∀ k ∈ keyL, k.f + k.hi ≤ 28 ∧ k.hi ≤ 7 ∧ k.lo ≤ k.hi ∧ 1 ≤ k.lo ∧ k.w.length ≤ 7 := by decide
theorem key_exact : ∀ k ∈ keyL, k.d ≠ 4 → k.d ≠ 5 → k.lo = k.hi := by decide
theorem key_one : ∀ k ∈ keyL, k.d ≠ 1 → k.d ≠ 4 → k.d ≠ 5 → k.lo = 1 ∧ k.hi = 1 := by decide
theorem key_apart : ∀ a ∈ keyL, ∀ b ∈ keyL, a ≠ b → a.d ≠ 0 → a.d ≠ 4 → a.d ≠ 5 → b.d ≠ 0 → b.d ≠ 4 → b.d ≠ 5 → a.f + a.hi ≤ b.f ∨ b.f + b.hi ≤ a.f := by decide
theorem key_only : ∀ a ∈ keyL, ∀ b ∈ keyL, a.d = b.d → a.d ≠ 1 → a = b := by decide
theorem key_last : ∀ k ∈ keyL, k.d = 5 → k.lo = 1 ∧ k.hi = 4 := by decide
theorem key_folds : ∀ k ∈ keyL, k.d = 4 → k.lo = 1 ∧ k.hi = 7 := by decide
theorem key_bind : ∀ k ∈ keyL, k.d = 2 → k.f = 10 := by decide
theorem key_style : ∀ k ∈ keyL, k.d = 3 → k.f = 11 := by decide

/-- May a text be a last one's name? -/
def nameB (s : List UInt8) : Bool := !s.isEmpty && s.all plainO
def namesB (l : List (List UInt8)) : Bool := l.all nameB
/-- A job of nothing. -/
def zeroJ : Jb := ⟨[], fun _ => 0, zeroSc, []⟩
/-- The words of a table; the place of one. -/
def tabL (t : Int) : List (List UInt8) := (tab t).map fun b => b.data.toList
def wordN (t : Int) (p : List UInt8) : Option Nat := (List.range 4).find? fun k => decide ((tabL t)[k]? = some p)
/-- Numbers, one part each, from a place on. -/
def numsM : Nat → List (List UInt8) → (Nat → Int) → Option (Nat → Int)
  | _, [], n => some n
  | f, p :: r, n => if (numOf p).2 = true then numsM (f + 1) r (setN n f (numOf p).1) else none

def titleM (p : List UInt8) (j : Jb) : Int × Jb := match unqO p with
  | none => (1, zeroJ)
  | some s => if 60 < s.length then (5, zeroJ) else (0, { j with t := s })
def wordM (t : Int) (i : Nat) (p : List UInt8) (j : Jb) : Int × Jb := match wordN t p with
  | none => (2, zeroJ)
  | some m => (0, { j with n := setN j.n i ((m : Int) + 1) })
def schemeM (l : List (List UInt8)) (j : Jb) : Int × Jb := match getM l with
  | none => (1, zeroJ)
  | some s => (0, { j with f := s })
def lastM (l : List (List UInt8)) (j : Jb) : Int × Jb := if namesB l = true then (0, { j with ls := l }) else (1, zeroJ)
def numbersM (f : Nat) (l : List (List UInt8)) (j : Jb) : Int × Jb := match numsM f l j.n with
  | none => (5, zeroJ)
  | some n => (0, { j with n := n })
/-- What the parts of a key's line do to a job: an error's number, and the job. -/
def takeM (k : Ky) (l : List (List UInt8)) (j : Jb) : Int × Jb :=
  if l.length < k.lo ∨ k.hi < l.length then (1, zeroJ)
  else if k.d = 0 then titleM (l.headD []) j
  else if k.d = 2 then wordM 1 k.f (l.headD []) j
  else if k.d = 3 then wordM 2 k.f (l.headD []) j
  else if k.d = 4 then schemeM l j
  else if k.d = 5 then lastM l j
  else numbersM k.f l j
/-- What a line does: an error's number, the job, the keys' words that were met. -/
def lineM (met : List (List UInt8)) (j : Jb) (s : List UInt8) : Int × Jb × List (List UInt8) := match fieldsL s with
  | none => (1, zeroJ, met)
  | some [] => (0, j, met)
  | some (w :: l) => match keyL.find? (fun k => decide (k.w = w)) with
    | none => (2, zeroJ, met)
    | some k => if k.w ∈ met then (3, zeroJ, met) else ((takeM k l j).1, (takeM k l j).2, k.w :: met)
/-- Is a key missing that must stand? -/
def lacksB (met : List (List UInt8)) : Bool := keyL.any fun k => !decide (k.w ∈ met) && !decide (k.d = 5)
/-- Lines, from the i-th one on: the job, a line's number, an error's number. -/
def parseM : List (List UInt8) → Nat → List (List UInt8) → Jb → Jb × Nat × Int
  | [], i, met, j => if lacksB met = true then (zeroJ, i, 4) else (j, i, 0)
  | s :: r, i, met, j => if (lineM met j s).1 = 0 then parseM r (i + 1) (lineM met j s).2.2 (lineM met j s).2.1 else (zeroJ, i, (lineM met j s).1)
/-- A ticket. -/
def ticketM (s : List UInt8) : Jb × Nat × Int := parseM (linesM s []) 0 [] zeroJ

/-- What a job has of a key, as the parts of its line; can it be told? -/
def wprM (t n : Int) : List (List UInt8) × Bool := ([(word (tab t) n).data.toList], decide (word (tab t) n ≠ ⟨#[]⟩))
def prtM (k : Ky) (j : Jb) : List (List UInt8) × Bool :=
  if k.d = 0 then (if 60 < j.t.length then ([], false) else ([(quoteO j.t).getD []], (quoteO j.t).isSome))
  else if k.d = 2 then wprM 1 (j.n k.f)
  else if k.d = 3 then wprM 2 (j.n k.f)
  else if k.d = 4 then ([(putM j.f).getD []], (putM j.f).isSome)
  else if k.d = 5 then (j.ls, decide (j.ls.length ≤ k.hi) && namesB j.ls)
  else ((List.range' k.f k.hi).map fun i => Lib.itoa (j.n i), true)
/-- The line of a key, with its line feed; none of no names. -/
def lineT (j : Jb) (k : Ky) : List UInt8 := if (prtM k j).1 = [] ∧ k.d = 5 then [] else k.w ++ 32 :: joinM (prtM k j).1 ++ [10]
def tellB (j : Jb) : Bool := keyL.all fun k => (prtM k j).2
def textJ (j : Jb) : List UInt8 := keyL.flatMap (lineT j)
/-- All numbers are ints. -/
def WfJ (j : Jb) : Prop := ∀ i, -9223372036854775808 ≤ j.n i ∧ j.n i ≤ 9223372036854775807
/-- Do two jobs say the same of a key? -/
def AgrK (k : Ky) (a b : Jb) : Prop := if k.d = 0 then a.t = b.t else if k.d = 4 then a.f = b.f else if k.d = 5 then a.ls = b.ls else ∀ i, k.f ≤ i → i < k.f + k.hi → a.n i = b.n i
def SameJ (a b : Jb) : Prop := a.t = b.t ∧ a.f = b.f ∧ a.ls = b.ls ∧ ∀ i, i < 28 → a.n i = b.n i
theorem AgrK.refl (k : Ky) (a : Jb) : AgrK k a a := by unfold AgrK; (repeat' split) <;> simp
theorem AgrK.trans {k : Ky} {a b c : Jb} (h : AgrK k a b) (g : AgrK k b c) : AgrK k a c := by
  unfold AgrK at *
  split
  · rename_i e; rw [if_pos e] at h g; exact h.trans g
  · rename_i e; rw [if_neg e] at h g
    split
    · rename_i e; rw [if_pos e] at h g; exact h.trans g
    · rename_i e; rw [if_neg e] at h g
      split
      · rename_i e; rw [if_pos e] at h g; exact h.trans g
      · rename_i e; rw [if_neg e] at h g
        exact fun i h1 h2 => (h i h1 h2).trans (g i h1 h2)
theorem place_key : ∀ i, i < 28 → ∃ k ∈ keyL, k.d ≠ 0 ∧ k.d ≠ 4 ∧ k.d ≠ 5 ∧ k.f ≤ i ∧ i < k.f + k.hi := by decide
theorem agr_all {a b : Jb} (h : ∀ k ∈ keyL, AgrK k a b) : SameJ a b := by
  refine ⟨h ⟨[116, 105, 116, 108, 101], 0, 0, 1, 1⟩ (by decide), h ⟨[102, 111, 108, 100, 115], 4, 0, 1, 7⟩ (by decide), h ⟨[108, 97, 115, 116], 5, 0, 1, 4⟩ (by decide), fun i hi => ?_⟩
  obtain ⟨k, hk, h0, h4, h5, h1, h2⟩ := place_key i hi
  have := h k hk
  unfold AgrK at this
  rw [if_neg h0, if_neg h4, if_neg h5] at this
  exact this i h1 h2
theorem SameJ.jobA {w : World} {cs : List Value} {a b : Jb} (h : SameJ a b) (hj : JobA w cs a) : JobA w cs b := by
  obtain ⟨h1, h2, h3, h4⟩ := h
  obtain ⟨x, c, y, d, e, g1, g2⟩ := hj
  refine ⟨x, c, y, d, ?_, by rw [← h2]; exact g1, by rw [← h3]; exact g2⟩
  rw [e, h1, h2, h3]
  unfold jobL
  simp only [h4 0 (by decide), h4 1 (by decide), h4 2 (by decide), h4 3 (by decide), h4 4 (by decide), h4 5 (by decide), h4 6 (by decide), h4 7 (by decide), h4 8 (by decide), h4 9 (by decide), h4 10 (by decide), h4 11 (by decide), h4 12 (by decide), h4 13 (by decide), h4 14 (by decide), h4 15 (by decide), h4 16 (by decide), h4 17 (by decide), h4 18 (by decide), h4 19 (by decide), h4 20 (by decide), h4 21 (by decide), h4 22 (by decide), h4 23 (by decide), h4 24 (by decide), h4 25 (by decide), h4 26 (by decide), h4 27 (by decide)]
end Go.Proofs.YtenigkjonegdmaaGreatDoor
/- Lists of numbers, as they come in and as a deck keeps them; what a call leaves as it was. -/
namespace Go.Proofs.YtenigkjonegdmaaGreatDoor
open Go.RowKit
set_option linter.unusedVariables false

theorem Tryz.infoInt : (Tryz.prog.info? 3).map (fun i => (i.zero, i.size, i.bytes)) = some (some (.int .i64 0), 1, 8) := by kernel_rfl
/-- The numbers as cells. -/
def enc (l : List Int) : List Value := l.map (Value.int .i64)
theorem enc_length (l : List Int) : (enc l).length = l.length := by simp [enc]
theorem enc_get {l : List Int} {j : Nat} {u : Value} (h : (enc l)[j]? = some u) : ∃ x, l[j]? = some x ∧ u = .int .i64 x := by
  simp [enc] at h
  obtain ⟨x, h1, h2⟩ := h
  exact ⟨x, h1, h2.symm⟩
theorem enc_one {l : List Int} : ∀ u ∈ enc l, u.oneCell' = true := by
  intro u hu
  obtain ⟨x, _, rfl⟩ := List.mem_map.1 hu
  rfl
theorem enc_append (l m : List Int) : enc (l ++ m) = enc l ++ enc m := by simp [enc]

/-- The numbers of a slice that lies at a. -/
def Nums (w : World) (a : Option Addr) (l : List Int) : Prop := l = [] ∨ ∃ b off, a = some ⟨b, off, none⟩ ∧ ∀ j x, l[j]? = some x → w.cell? ⟨b, off + j, none⟩ = some (.int .i64 x)
theorem Nums.nil {w : World} {a : Option Addr} : Nums w a [] := .inl rfl
theorem Nums.up {w w' : World} {a : Option Addr} {l : List Int} (h : Nums w a l) (hb : Below w.heap.size w w') : Nums w' a l := by
  rcases h with h | ⟨b, off, e, h⟩
  · exact .inl h
  · exact .inr ⟨b, off, e, fun j x hx => bl_cell hb (h j x hx)⟩
theorem Nums.take {w : World} {a : Option Addr} {l : List Int} (h : Nums w a l) (k : Nat) : Nums w a (l.take k) := by
  rcases h with rfl | ⟨b, off, e, h⟩
  · exact .inl (by simp)
  · refine .inr ⟨b, off, e, fun j x hx => h j x ?_⟩
    rw [List.getElem?_take] at hx
    split at hx
    · exact hx
    · cases hx
theorem Nums.drop {w : World} {b off : Nat} {l : List Int} (h : Nums w (some ⟨b, off, none⟩) l) (k : Nat) : Nums w (some ⟨b, off + k, none⟩) (l.drop k) := by
  rcases h with rfl | ⟨b', off', e, h⟩
  · exact .inl (by simp)
  · cases e
    refine .inr ⟨b, off + k, rfl, fun j x hx => ?_⟩
    rw [List.getElem?_drop] at hx
    rw [Nat.add_assoc]
    exact h _ x hx
theorem Nums.cell {w : World} {a : Option Addr} {l : List Int} (h : Nums w a l) (hl : 0 < l.length) : ∃ b off, a = some ⟨b, off, none⟩ ∧ ∀ j x, l[j]? = some x → w.cell? ⟨b, off + j, none⟩ = some (.int .i64 x) := by
  rcases h with rfl | h
  · simp at hl
  · exact h
/-- A list of the call's own, as any list. -/
theorem Nums.own {w : World} {base : Nat} {v : Value} {l : List Int} (h : w.ownsRow base 3 1 v l.length (enc l)) : ∃ a c, v = .slice a l.length c ∧ Nums w a l ∧ (∀ p, a = some p → p.block < w.heap.size ∧ base ≤ p.block) := by
  rcases h.2 with ⟨rfl, h0⟩ | ⟨g, cap, cur, rfl, hb, hg, hcap, hmax, hsz, htk⟩
  · exact ⟨none, 0, by rw [h0], .inl (List.eq_nil_of_length_eq_zero h0), fun p hp => by cases hp⟩
  · refine ⟨some ⟨g, 0, none⟩, cap, rfl, .inr ⟨g, 0, rfl, fun j x hx => ?_⟩, fun p hp => by cases hp; exact ⟨(Array.getElem?_eq_some_iff.1 hg).1, hb⟩⟩
    have := h.cells (g := g) rfl j (.int .i64 x) (by simp [enc, hx])
    rwa [show (⟨g, 0, none⟩ : Addr).add j = ⟨g, 0 + j, none⟩ by unfold Addr.add; split <;> simp_all] at this

theorem Nums.but {D R : Nat} {w w' : World} {a : Option Addr} {l : List Int} (h : Nums w a l) (hb : But D R w w') (hn : ∀ p, a = some p → p.block ≠ D ∧ p.block ≠ R) : Nums w' a l := by
  rcases h with h | ⟨b, off, rfl, h⟩
  · exact .inl h
  · obtain ⟨h1, h2⟩ := hn _ rfl
    exact .inr ⟨b, off, rfl, fun j x hx => (World.cell?_of_block (hb.block b (World.block_lt_of_cell? w _ (h j x hx)) h1 h2)).trans (h j x hx)⟩

/-- v is a slice of numbers that may be written, and grows as far as its block goes: it lies in R (a nil one lies nowhere). -/
def RowAt (w : World) (R : Nat) (v : Value) (l : List Int) : Prop :=
  (v = .slice none 0 0 ∧ l = []) ∨ ∃ off c cur, v = .slice (some ⟨R, off, none⟩) l.length c ∧ w.heap[R]? = some (.cells cur 3 (0, 0)) ∧ l.length ≤ c ∧ c ≤ maxLen ∧ off + c ≤ cur.size ∧ ∀ j x, l[j]? = some x → w.cell? ⟨R, off + j, none⟩ = some (.int .i64 x)
theorem RowAt.kept {w w' : World} {R : Nat} {v : Value} {l : List Int} (h : RowAt w R v l) (hb : R < w.heap.size → w'.heap[R]? = w.heap[R]?) : RowAt w' R v l := by
  rcases h with h | ⟨off, c, cur, hv, hc, h1, h2, h3, h4⟩
  · exact .inl h
  · have e := hb (Array.getElem?_eq_some_iff.1 hc).1
    exact .inr ⟨off, c, cur, hv, e.trans hc, h1, h2, h3, fun j x hx => (World.cell?_of_block (a := ⟨R, off + j, none⟩) e).trans (h4 j x hx)⟩
theorem RowAt.nums {w : World} {R : Nat} {v : Value} {l : List Int} (h : RowAt w R v l) : ∃ a c, v = .slice a l.length c ∧ Nums w a l ∧ l.length ≤ c ∧ c ≤ maxLen := by
  rcases h with ⟨rfl, rfl⟩ | ⟨off, c, cur, rfl, hc, h1, h2, h3, h4⟩
  · exact ⟨none, 0, rfl, .inl rfl, Nat.le_refl _, Nat.zero_le _⟩
  · exact ⟨_, c, rfl, .inr ⟨R, off, rfl, h4⟩, h1, h2⟩
theorem RowAt.of {w : World} {base : Nat} {v : Value} {l : List Int} (h : w.ownsRow base 3 1 v l.length (enc l)) (D : Nat) : ∃ R, RowAt w R v l ∧ ((v = .slice none 0 0 ∧ R = D) ∨ (base ≤ R ∧ R < w.heap.size ∧ v ≠ .slice none 0 0)) := by
  obtain ⟨a, c, e, hn, _⟩ := Nums.own h
  rcases h.2 with ⟨rfl, h0⟩ | ⟨g, cap, cur, rfl, hb, hg, hcap, hmax, hsz, htk⟩
  · exact ⟨D, .inl ⟨rfl, List.eq_nil_of_length_eq_zero h0⟩, .inl ⟨rfl, rfl⟩⟩
  · refine ⟨g, .inr ⟨0, cap, cur, rfl, hg, hcap, hmax, by omega, ?_⟩, .inr ⟨hb, (Array.getElem?_eq_some_iff.1 hg).1, by simp⟩⟩
    intro j x hx
    rcases hn with h0 | ⟨b, off, e1, h1⟩
    · rw [h0] at hx; simp at hx
    · cases e
      cases e1
      exact h1 j x hx
end Go.Proofs.YtenigkjonegdmaaGreatDoor
/- What the reference's comparison of two lists of numbers answers, of a list twice. -/
namespace Go.Proofs.YtenigkjonegdmaaGreatDoor
open Go.RowKit
set_option linter.unusedVariables false


set_option maxHeartbeats 1000000 in
/-- Of a list twice, Ints answers true. -/
theorem ints_same {w : World} {a b : Option Addr} {l : List Int} (ca cb : Nat) (ha : Nums w a l) (hb : Nums w b l) (hl : l.length ≤ 1000) :
    Calls Tryz.prog 32 #[.slice a l.length ca, .slice b l.length cb] w fun e w' => e = .returned (.bool true) ∧ Below w.heap.size w w' := by
  have HA := Lib.hid ha; have HB := Lib.hid hb
  clear ha hb
  obtain ⟨m, hm⟩ : ∃ m, l.length = m := ⟨_, rfl⟩
  have HM := Lib.hid hm
  rw [hm] at hl ⊢
  clear hm
  go_enter Tryz.func32, Tryz.ntmps32
  go_wp2
  go_loopw [5] (fun i wr => ∃ k : Nat, k ≤ m ∧ i = .int .i64 (k : Int) ∧ ∃ u : Later w, wr = u.now) (fun i _ => m - (intOf i).toNat)
  case atStart => exact ⟨0, by omega, by go_num, ⟨w, Below.refl _ _⟩, rfl⟩
  case round =>
    obtain ⟨k, hk, rfl, u, rfl⟩ := hrel
    by_cases hlt : k < m
    · obtain ⟨x, hx⟩ : ∃ x, l[k]? = some x := ⟨l[k]'(by rw [HM.out]; exact hlt), List.getElem?_eq_getElem _⟩
      obtain ⟨b1, o1, rfl, h1⟩ := HA.out.cell (by rw [HM.out]; omega)
      obtain ⟨b2, o2, rfl, h2⟩ := HB.out.cell (by rw [HM.out]; omega)
      have c1 := fun u : Later w => u.cell (h1 k x hx)
      have c2 := fun u : Later w => u.cell (h2 k x hx)
      have z0 : (0 : Int) ≤ (k : Int) := by omega
      have z1 : (k : Int) < (m : Int) := by omega
      clear h1 h2 hx
      go_wp2
      refine wp_region_later (by kernel_rfl) (by kernel_rfl) ?_
      repeat (go_big_quiet_step (fail))
      refine wpQuiet_nil ?_
      rintro _ ⟨u2, rfl⟩
      clear c1 c2
      go_wp2
      go_roundw
      case rel => exact ⟨k + 1, by omega, by go_num, u2, rfl⟩
      case measure => simp [intOf]; omega
    · have hk2 : m ≤ k := by omega
      go_wp2
      go_ret
      exact ⟨rfl, u.up⟩
end Go.Proofs.YtenigkjonegdmaaGreatDoor
/- A job's numbers by the reference: all of them, from what to what they may be. -/
namespace Go.Proofs.YtenigkjonegdmaaGreatDoor
open Go.RowKit
set_option linter.unusedVariables false

set_option maxRecDepth 100000 in
set_option maxHeartbeats 2000000 in
theorem refAll_any (cs : List Value) (n : Nat → Int) (w : World) (hv : ∀ k, k < 28 → cs[cellJ k]? = some (.int .i64 (n k))) :
    Calls Tryz.prog 33 #[.agg cs.toArray] w fun e w' => ∃ g, e = .returned (.slice (some ⟨g, 0, none⟩) 28 28) ∧ w.heap.size ≤ g ∧ Bx w' g (enc (numsL n)) ∧ Below w.heap.size w w' := by
  have HB := Lib.hid (up_alloc (Below.refl w.heap.size w) (.cells cs.toArray 29))
  have HX := Bx.new w 29 cs
  have c0 : (w.alloc (.cells cs.toArray 29)).cell? ⟨w.heap.size, 1, none⟩ = some (.int .i64 (n 0)) := HX.cell 1 (hv 0 (by decide))
  have c1 : (w.alloc (.cells cs.toArray 29)).cell? ⟨w.heap.size, 2, none⟩ = some (.int .i64 (n 1)) := HX.cell 2 (hv 1 (by decide))
  have c2 : (w.alloc (.cells cs.toArray 29)).cell? ⟨w.heap.size, 3, none⟩ = some (.int .i64 (n 2)) := HX.cell 3 (hv 2 (by decide))
  have c3 : (w.alloc (.cells cs.toArray 29)).cell? ⟨w.heap.size, 4, none⟩ = some (.int .i64 (n 3)) := HX.cell 4 (hv 3 (by decide))
  have c4 : (w.alloc (.cells cs.toArray 29)).cell? ⟨w.heap.size, 5, none⟩ = some (.int .i64 (n 4)) := HX.cell 5 (hv 4 (by decide))
  have c5 : (w.alloc (.cells cs.toArray 29)).cell? ⟨w.heap.size, 6, none⟩ = some (.int .i64 (n 5)) := HX.cell 6 (hv 5 (by decide))
  have c6 : (w.alloc (.cells cs.toArray 29)).cell? ⟨w.heap.size, 7, none⟩ = some (.int .i64 (n 6)) := HX.cell 7 (hv 6 (by decide))
  have c7 : (w.alloc (.cells cs.toArray 29)).cell? ⟨w.heap.size, 8, none⟩ = some (.int .i64 (n 7)) := HX.cell 8 (hv 7 (by decide))
  have c8 : (w.alloc (.cells cs.toArray 29)).cell? ⟨w.heap.size, 9, none⟩ = some (.int .i64 (n 8)) := HX.cell 9 (hv 8 (by decide))
  have c9 : (w.alloc (.cells cs.toArray 29)).cell? ⟨w.heap.size, 10, none⟩ = some (.int .i64 (n 9)) := HX.cell 10 (hv 9 (by decide))
  have c10 : (w.alloc (.cells cs.toArray 29)).cell? ⟨w.heap.size, 11, none⟩ = some (.int .i64 (n 10)) := HX.cell 11 (hv 10 (by decide))
  have c11 : (w.alloc (.cells cs.toArray 29)).cell? ⟨w.heap.size, 16, none⟩ = some (.int .i64 (n 11)) := HX.cell 16 (hv 11 (by decide))
  have c12 : (w.alloc (.cells cs.toArray 29)).cell? ⟨w.heap.size, 17, none⟩ = some (.int .i64 (n 12)) := HX.cell 17 (hv 12 (by decide))
  have c13 : (w.alloc (.cells cs.toArray 29)).cell? ⟨w.heap.size, 18, none⟩ = some (.int .i64 (n 13)) := HX.cell 18 (hv 13 (by decide))
  have c14 : (w.alloc (.cells cs.toArray 29)).cell? ⟨w.heap.size, 19, none⟩ = some (.int .i64 (n 14)) := HX.cell 19 (hv 14 (by decide))
  have c15 : (w.alloc (.cells cs.toArray 29)).cell? ⟨w.heap.size, 20, none⟩ = some (.int .i64 (n 15)) := HX.cell 20 (hv 15 (by decide))
  have c16 : (w.alloc (.cells cs.toArray 29)).cell? ⟨w.heap.size, 21, none⟩ = some (.int .i64 (n 16)) := HX.cell 21 (hv 16 (by decide))
  have c17 : (w.alloc (.cells cs.toArray 29)).cell? ⟨w.heap.size, 22, none⟩ = some (.int .i64 (n 17)) := HX.cell 22 (hv 17 (by decide))
  have c18 : (w.alloc (.cells cs.toArray 29)).cell? ⟨w.heap.size, 23, none⟩ = some (.int .i64 (n 18)) := HX.cell 23 (hv 18 (by decide))
  have c19 : (w.alloc (.cells cs.toArray 29)).cell? ⟨w.heap.size, 24, none⟩ = some (.int .i64 (n 19)) := HX.cell 24 (hv 19 (by decide))
  have c20 : (w.alloc (.cells cs.toArray 29)).cell? ⟨w.heap.size, 25, none⟩ = some (.int .i64 (n 20)) := HX.cell 25 (hv 20 (by decide))
  have c21 : (w.alloc (.cells cs.toArray 29)).cell? ⟨w.heap.size, 26, none⟩ = some (.int .i64 (n 21)) := HX.cell 26 (hv 21 (by decide))
  have c22 : (w.alloc (.cells cs.toArray 29)).cell? ⟨w.heap.size, 27, none⟩ = some (.int .i64 (n 22)) := HX.cell 27 (hv 22 (by decide))
  have c23 : (w.alloc (.cells cs.toArray 29)).cell? ⟨w.heap.size, 28, none⟩ = some (.int .i64 (n 23)) := HX.cell 28 (hv 23 (by decide))
  have c24 : (w.alloc (.cells cs.toArray 29)).cell? ⟨w.heap.size, 29, none⟩ = some (.int .i64 (n 24)) := HX.cell 29 (hv 24 (by decide))
  have c25 : (w.alloc (.cells cs.toArray 29)).cell? ⟨w.heap.size, 30, none⟩ = some (.int .i64 (n 25)) := HX.cell 30 (hv 25 (by decide))
  have c26 : (w.alloc (.cells cs.toArray 29)).cell? ⟨w.heap.size, 31, none⟩ = some (.int .i64 (n 26)) := HX.cell 31 (hv 26 (by decide))
  have c27 : (w.alloc (.cells cs.toArray 29)).cell? ⟨w.heap.size, 32, none⟩ = some (.int .i64 (n 27)) := HX.cell 32 (hv 27 (by decide))
  clear HX hv
  have HZ := Lib.hid (World.size_alloc w (.cells cs.toArray 29))
  generalize hw1 : w.alloc (.cells cs.toArray 29) = w1 at *
  have HW := Lib.hid hw1
  go_enter Tryz.func33, Tryz.ntmps33
  go_wp2
  go_ret
  exact ⟨w1.heap.size, rfl, by rw [HZ.out]; omega, Bx.new w1 3 _, up_alloc HB.out _⟩
end Go.Proofs.YtenigkjonegdmaaGreatDoor
/- A region that draws its order, whose head reads and calls (the calls may make memory) and whose tail, in one forced order, writes: one walk of the head in the order of the text, in every world of a class, then one plain walk of the tail. -/
namespace Go.Proofs.YtenigkjonegdmaaGreatDoor
open Go.RowKit
set_option linter.unusedVariables false

section
variable {P : Program} {ops : Array Oper} {C : World → Prop}

/-- Whatever order the head comes up in, as long as f operations are left of it; L is asked behind them. -/
def headAny (P : Program) (ops : Array Oper) (C : World → Prop) (n : Nat) (L : Array Bool → Act → Prop) : Nat → Array Bool → Act → Prop
  | 0, s, a => L s a
  | f + 1, s, a => Region.ready .any ops s ≠ [] ∧ ∀ i ∈ Region.ready .any ops s, i < n ∧ qOp P ops C i (headAny P ops C n L f (s.setIfInBounds i true)) a

theorem headAny_wp {n g : Nat} {L : Array Bool → Act → Prop} {Q : Exit → Act → World → Prop} (hL : ∀ s a w, C w → L s a → wpAny P .any ops Q g s a w) :
    ∀ (f : Nat) (s : Array Bool) (a : Act) (w : World), C w → headAny P ops C n L f s a → wpAny P .any ops Q (f + g) s a w := by
  intro f
  induction f with
  | zero => intro s a w hw h; rw [Nat.zero_add]; exact hL _ _ _ hw h
  | succ f ih =>
    intro s a w hw h
    rw [show f + 1 + g = f + g + 1 by omega]
    exact ⟨fun h0 => absurd h0 h.1, fun i hi => wpOp_of_qOp hw (fun a' w' hw' h' => ih _ a' w' hw' h') (h.2 i hi).2⟩

/-- An operation of the head that may come up now may be taken first. -/
theorem headAny_swap {n i : Nat} {oi : Oper} {v : Value} {L : Array Bool → Act → Prop} (hi : ops[i]? = some oi) (hsel : ∀ (j : Nat) (o : Oper) cs b, ops[j]? = some o → o.op ≠ .select cs b)
    (hs : Region.sinkB .any ops n = true) (hc : Region.chainB .any ops n = true) (hn : n < ops.size) (hin : i < n) (hdone : ∀ s a, L s a → ∀ j ∈ Region.ready .any ops s, n ≤ j) :
    ∀ (f : Nat) (s : Array Bool) (a : Act), HeadInv .any ops n s →
      (∀ j oj, ops[j]? = some oj → j ≠ i → s.getD j true = false → (∀ e ∈ oj.after, Region.binds .any e = true → e.on ≠ i) → oi.apart ops oj = true) →
      i ∈ Region.ready .any ops s → YieldsIn P ops C oi v a → headAny P ops C n L f (s.setIfInBounds i true) (a.put oi.dst v) → headAny P ops C n L (f + 1) s a := by
  intro f
  induction f with
  | zero =>
    intro s a inv _ hr hy H
    have inHead : ∀ j ∈ Region.ready .any ops s, j < n := fun j hj => Nat.lt_of_not_le fun h => tail_waits hs hc hn inv _ i rfl hin (mem_ready.1 hr).1 j h hj
    refine ⟨fun h => (by rw [h] at hr; cases hr), fun j hj => ⟨inHead j hj, ?_⟩⟩
    by_cases e : j = i
    · subst e; exact hy.qOp hi H
    · exact absurd (hdone _ _ H j (ready_mono hj e)) (by have := inHead j hj; omega)
  | succ f ih =>
    intro s a inv free hr hy H
    have hun := (mem_ready.1 hr).1
    have inHead : ∀ j ∈ Region.ready .any ops s, j < n := fun j hj => Nat.lt_of_not_le fun h => tail_waits hs hc hn inv _ i rfl hin hun j h hj
    refine ⟨fun h => (by rw [h] at hr; cases hr), fun j hj => ⟨inHead j hj, ?_⟩⟩
    by_cases e : j = i
    · subst e; exact hy.qOp hi H
    · obtain ⟨ju, oj, ho, before⟩ := mem_ready.1 hj
      have waits : ∀ x ∈ oj.after, Region.binds .any x = true → x.on ≠ i := fun x hx hb he => by
        have := before x hx hb
        rw [he, getD_both hun] at this
        cases this
      refine qOp_mono (fun a' h' => ih (s.setIfInBounds j true) a' (inv.set hj (inHead j hj)) (fun k ok hk ki hu no => free k ok hk ki ?_ no) (ready_mono hr (Ne.symm e)) h'.1 ?_)
        (qOp_put ho (free j oj ho e ju waits) (fun cs b => hsel i oi cs b hi) (fun cs b => hsel j oj cs b ho) hy (H.2 j (ready_mono hj e)).2)
      · by_cases jk : j = k
        · subst jk; exact ju
        · rwa [getD_set_ne true jk] at hu
      · rw [Array.setIfInBounds_comm _ _ e]; exact h'.2

theorem headAny_lex {n g : Nat} {K : Act → Prop} (hsel : Region.noSelect ops = true) (hs : Region.sinkB .any ops n = true) (hc : Region.chainB .any ops n = true) (hn : n < ops.size) :
    ∀ (l : List Oper) (k : Nat) (s : Array Bool) (a : Act), (∀ j, j < l.length → l[j]? = ops[k + j]?) → k + l.length = n → HeadInv .any ops n s → Region.lexHead .any ops g l.length k s = true → wpQuiet P ops C K l a →
    headAny P ops C n (fun s' a' => Region.seqB .any ops g n s' = true ∧ K a') l.length s a := by
  intro l
  induction l with
  | nil =>
    intro k s a _ hk _ hB h
    obtain rfl : k = n := by simpa using hk
    exact ⟨by simpa [Region.lexHead] using hB, h⟩
  | cons o l ih =>
    intro k s a hl hk inv hB h
    have h0 : ops[k]? = some o := by simpa using (hl 0 (by simp)).symm
    simp only [List.length_cons, Region.lexHead, Bool.and_eq_true] at hB
    simp only [List.length_cons] at hk
    have hr : k ∈ Region.ready .any ops s := by simpa using hB.1.1
    obtain ⟨v, hy, hK⟩ := yieldsIn_of_qOp (K := wpQuiet P ops C K l) h0 (by unfold qOp; simp only [h0]; exact h)
    exact headAny_swap h0 (Region.noSelect_spec hsel) hs hc hn (by omega) (fun s' a' h' => seqB_ready h'.1) l.length s a inv (Region.free_spec h0 hB.1.2) hr hy
      (ih (k + 1) _ _ (fun j hj => by have := hl (j + 1) (by simp; omega); simpa [Nat.add_assoc, Nat.add_comm 1 j] using this) (by omega) (inv.set hr (by omega)) hB.2 hK)
end

/-- The head, n operations, in the order of the text in every world of the class; then the tail. -/
theorem wp_region_head_tail {P : Program} {id : Nat} {C : World → Prop} {Q : Exit → Act → World → Prop} {a : Act} {w : World} {l : List Oper} (n : Nat) (hm : P.follows .mixedOrders = true) (hB : Region.lexTailB .any l.toArray n = true)
    (hC : C w.drew) (h : wpQuiet P l.toArray C (fun a' => ∀ w', C w' → wpList P l.toArray Q (l.drop n) a' w') (l.take n) a) : (Code.region id l.toArray true).wp P Q a w := by
  simp only [Region.lexTailB, Bool.and_eq_true, decide_eq_true_eq] at hB
  obtain ⟨⟨⟨⟨hsel, hn⟩, hs⟩, hc⟩, hlex⟩ := hB
  have hn' : n < l.length := by simpa using hn
  have tl : (l.take n).length = n := by simp; omega
  have dl : (l.drop n).length = l.toArray.size - n := by simp
  have H := headAny_lex (P := P) (C := C) (g := l.toArray.size - n) hsel hs hc hn (l.take n) 0 (Array.replicate l.toArray.size false) a
    (fun j hj => by rw [tl] at hj; simp [hj]) (by rw [tl]; omega)
    ⟨by simp, fun j oj _ hj => (by rw [getD_replicate_false] at hj; cases hj), fun t _ ht => getD_in (by simpa using ht) (getD_replicate_false _ _)⟩ (by rw [tl]; exact hlex) h
  have G := headAny_wp (Q := Q) (g := l.toArray.size - n) (fun s a' w' hw' hL => by
    have := wpAny_of_seq (md := .any) (Q' := Q) (l.drop n) n s a' w' (fun j => by simp [List.getElem?_drop]) (by rw [dl]; exact hL.1) (hL.2 w' hw')
    rwa [dl] at this) _ _ _ w.drew hC H
  rw [tl, show n + (l.toArray.size - n) = l.toArray.size by omega] at G
  exact wp_region_any hm G

/-- The same, at the class of all later worlds. -/
theorem wp_region_later_tail {P : Program} {id : Nat} {Q : Exit → Act → World → Prop} {a : Act} {w : World} {u : Later w} {l : List Oper} (n : Nat) (hm : P.follows .mixedOrders = true) (hB : Region.lexTailB .any l.toArray n = true)
    (h : wpQuiet P l.toArray (fun w' => ∃ u : Later w, w' = u.now) (fun a' => ∀ w', (∃ u : Later w, w' = u.now) → wpList P l.toArray Q (l.drop n) a' w') (l.take n) a) : (Code.region id l.toArray true).wp P Q a u.now :=
  wp_region_head_tail n hm hB ⟨⟨_, up_drew u.up⟩, rfl⟩ h
end Go.Proofs.YtenigkjonegdmaaGreatDoor
/- A cheaper check that a great region's head may be walked in the order of the text, its tail in one forced order. -/
namespace Go.Proofs.YtenigkjonegdmaaGreatDoor
set_option linter.unusedVariables false
set_option linter.unnecessarySimpa false

/-- What counts of an operation: its slot, what it looks at, what it waits for. -/
abbrev Tr := Option Nat × List Nat × List Nat
def tripOf (ops : Array Oper) (o : Oper) : Tr := (o.dst, o.looksAt ops, (o.after.toList.filter (Region.binds .any)).map (·.on))
def apartT (t s : Tr) : Bool :=
  (match t.1 with | some d => !s.2.1.contains d && s.1 != some d | none => true) && (match s.1 with | some d => !t.2.1.contains d | none => true)
def backT : Nat → List Tr → Bool
  | _, [] => true
  | k, t :: r => t.2.2.all (fun j => decide (j < k)) && backT (k + 1) r
def freeT : Nat → Nat → List Tr → Bool
  | 0, _, _ => true
  | _, _, [] => true
  | f + 1, k, t :: r => r.all (fun s => s.2.2.contains k || apartT t s) && freeT f (k + 1) r
def chainT : Nat → List Tr → Bool
  | _, [] => true
  | k, t :: r => t.2.2.contains (k - 1) && chainT (k + 1) r
def sinkT (T : List Tr) (n : Nat) : Bool := (List.range n).all fun i => T.any fun t => t.2.2.contains i
def quickT (T : List Tr) (n : Nat) : Bool := decide (n < T.length) && backT 0 T && freeT n 0 T && sinkT (T.take (n + 1)) n && chainT (n + 1) (T.drop (n + 1))
def forceN {β : Type} : List Nat → (List Nat → β) → β
  | [], k => k []
  | x :: xs, k => forceN xs fun ys => k (x :: ys)
theorem forceN_eq {β : Type} (l : List Nat) (k : List Nat → β) : forceN l k = k l := by
  induction l generalizing k with
  | nil => rfl
  | cons x xs ih => simp only [forceN, ih]
def forceT {β : Type} : List Tr → (List Tr → β) → β
  | [], k => k []
  | x :: xs, k => forceN x.2.1 fun a => forceN x.2.2 fun b => forceT xs fun ys => k ((x.1, a, b) :: ys)
theorem forceT_eq {β : Type} (l : List Tr) (k : List Tr → β) : forceT l k = k l := by
  induction l generalizing k with
  | nil => rfl
  | cons x xs ih => simp only [forceT, forceN_eq, ih]
def quickB (l : List Oper) (n : Nat) : Bool := Region.noSelect l.toArray && forceT (l.map (tripOf l.toArray)) fun T => quickT T n

theorem backT_spec : ∀ (T : List Tr) (k : Nat), backT k T = true → ∀ i t, T[i]? = some t → ∀ j ∈ t.2.2, j < k + i
  | [], _, _, i, t, ht, _, _ => by simp at ht
  | t0 :: r, k, h, i, t, ht, j, hj => by
    simp only [backT, Bool.and_eq_true, List.all_eq_true, decide_eq_true_eq] at h
    cases i with
    | zero => simp only [List.getElem?_cons_zero, Option.some.injEq] at ht; subst ht; exact h.1 j hj
    | succ i => have := backT_spec r (k + 1) h.2 i t (by simpa using ht) j hj; omega
theorem freeT_spec : ∀ (f : Nat) (T : List Tr) (k : Nat), freeT f k T = true → ∀ i t, i < f → T[i]? = some t → ∀ j s, i < j → T[j]? = some s → (s.2.2.contains (k + i) || apartT t s) = true
  | 0, _, _, _, i, _, hi, _, _, _, _, _ => by omega
  | f + 1, [], _, _, i, t, _, ht, _, _, _, _ => by simp at ht
  | f + 1, t0 :: r, k, h, i, t, hi, ht, j, s, hij, hs => by
    simp only [freeT, Bool.and_eq_true, List.all_eq_true] at h
    obtain ⟨j, rfl⟩ : ∃ m, j = m + 1 := ⟨j - 1, by omega⟩
    simp only [List.getElem?_cons_succ] at hs
    cases i with
    | zero =>
      simp only [List.getElem?_cons_zero, Option.some.injEq] at ht
      subst ht
      exact h.1 s (List.mem_of_getElem? hs)
    | succ i =>
      have := freeT_spec f r (k + 1) h.2 i t (by omega) (by simpa using ht) j s (by omega) hs
      rwa [show k + (i + 1) = k + 1 + i by omega]
theorem chainT_spec : ∀ (T : List Tr) (k : Nat), chainT k T = true → ∀ (i : Nat) (t : Tr), T[i]? = some t → t.2.2.contains (k + i - 1) = true
  | [], _, _, i, t, ht => by simp at ht
  | t0 :: r, k, h, i, t, ht => by
    simp only [chainT, Bool.and_eq_true] at h
    cases i with
    | zero => simp only [List.getElem?_cons_zero, Option.some.injEq] at ht; subst ht; simpa using h.1
    | succ i =>
      have := chainT_spec r (k + 1) h.2 i t (by simpa using ht)
      rwa [show k + (i + 1) - 1 = k + 1 + i - 1 by omega]

section
variable {l : List Oper}
theorem trip_waits {o : Oper} {i : Nat} : (tripOf l.toArray o).2.2.contains i = true ↔ ∃ e ∈ o.after, Region.binds .any e = true ∧ e.on = i := by
  simp only [tripOf, List.contains_iff_mem, List.mem_map, List.mem_filter, Array.mem_toList_iff]
  exact ⟨fun ⟨e, ⟨h1, h2⟩, h3⟩ => ⟨e, h1, h2, h3⟩, fun ⟨e, h1, h2, h3⟩ => ⟨e, ⟨h1, h2⟩, h3⟩⟩
theorem trip_any {o : Oper} {i : Nat} (h : (tripOf l.toArray o).2.2.contains i = true) : (o.after.any fun e => Region.binds .any e && e.on == i) = true := by
  obtain ⟨e, he, hb, rfl⟩ := trip_waits.1 h
  exact Array.any_eq_true'.2 ⟨e, he, by simp [hb]⟩
theorem trip_at {i : Nat} {o : Oper} (h : l[i]? = some o) : (l.map (tripOf l.toArray))[i]? = some (tripOf l.toArray o) := by
  rw [List.getElem?_map, h]; rfl

/-- The first k operations are listed. -/
def Upto (l : List Oper) (k : Nat) (s : Array Bool) : Prop := s.size = l.length ∧ ∀ j, j < l.length → s[j]? = some (decide (j < k))
theorem Upto.getD {k : Nat} {s : Array Bool} (h : Upto l k s) {j : Nat} (hj : j < l.length) (b : Bool) : s.getD j b = decide (j < k) := by
  rw [Array.getD_eq_getD_getElem?, h.2 j hj]; rfl
theorem Upto.next {k : Nat} {s : Array Bool} (h : Upto l k s) : Upto l (k + 1) (s.setIfInBounds k true) := by
  refine ⟨by rw [Array.size_setIfInBounds]; exact h.1, fun j hj => ?_⟩
  rw [Array.getElem?_setIfInBounds]
  by_cases e : k = j
  · subst e
    have : k < s.size := by rw [h.1]; exact hj
    simp [this]
  · rw [if_neg e, h.2 j hj]
    congr 1
    by_cases hk : j < k
    · simp [hk]; omega
    · have h1 : ¬ j < k + 1 := by omega
      simp [hk, h1]

theorem quick_ready {k : Nat} {s : Array Bool} (h : Upto l k s) {o : Oper} (ho : l[k]? = some o) (hb : ∀ j ∈ (tripOf l.toArray o).2.2, j < k) : k ∈ Region.ready .any l.toArray s := by
  have hk : k < l.length := (List.getElem?_eq_some_iff.1 ho).1
  rw [mem_ready]
  refine ⟨by rw [h.getD hk]; simp, o, by simpa using ho, fun e he hbind => ?_⟩
  have hlt : e.on < k := hb e.on (List.contains_iff_mem.1 (trip_waits.2 ⟨e, he, hbind, rfl⟩))
  rw [h.getD (by omega)]
  simpa using hlt
theorem quick_free {k : Nat} {s : Array Bool} (h : Upto l k s) {o : Oper} (ho : l[k]? = some o)
    (hf : ∀ j p, k < j → l[j]? = some p → ((tripOf l.toArray p).2.2.contains k || apartT (tripOf l.toArray o) (tripOf l.toArray p)) = true) : Region.free .any l.toArray s k = true := by
  have ho' : l.toArray[k]? = some o := by simpa using ho
  unfold Region.free
  rw [ho']
  simp only [List.all_eq_true, List.mem_range, List.size_toArray]
  intro j hj
  by_cases e : j = k
  · simp [e]
  · by_cases hk : j < k
    · rw [h.getD hj]; simp [hk]
    · have hp : l[j]? = some l[j] := List.getElem?_eq_getElem hj
      have hp' : l.toArray[j]? = some l[j] := by simpa using hp
      have := hf j _ (by omega) hp
      rw [hp']
      simp only [Bool.or_eq_true] at this ⊢
      rcases this with hw | ha
      · exact .inr (.inl (trip_any hw))
      · exact .inr (.inr ha)
end

theorem filter_one {n k : Nat} (p : Nat → Bool) (hk : k < n) (h : ∀ j, j < n → (p j = true ↔ j = k)) : (List.range n).filter p = [k] := by
  have : (List.range n).filter p = (List.range n).filter (· == k) := by
    apply List.filter_congr
    intro j hj
    have := h j (List.mem_range.1 hj)
    by_cases e : j = k
    · simp [e, (h k hk).2 rfl]
    · have : p j = false := by cases hp : p j with | false => rfl | true => exact absurd (this.1 hp) e
      simp [this, e]
  rw [this, List.filter_beq, List.nodup_range.count, if_pos (List.mem_range.2 hk)]
  rfl

theorem lexTail_quick {l : List Oper} {n : Nat} (h : quickB l n = true) : Region.lexTailB .any l.toArray n = true := by
  simp only [quickB, forceT_eq, quickT, Bool.and_eq_true, decide_eq_true_eq, List.length_map] at h
  obtain ⟨hsel, ⟨⟨⟨hn, hback⟩, hfree⟩, hsink⟩, hchain⟩ := h
  have Hb : ∀ k o, l[k]? = some o → ∀ j ∈ (tripOf l.toArray o).2.2, j < k := fun k o ho j hj => by
    have := backT_spec _ 0 hback k _ (trip_at ho) j hj
    omega
  have Hf : ∀ k o, k < n → l[k]? = some o → ∀ j p, k < j → l[j]? = some p → ((tripOf l.toArray p).2.2.contains k || apartT (tripOf l.toArray o) (tripOf l.toArray p)) = true := fun k o hk ho j p hj hp => by
    have := freeT_spec n _ 0 hfree k _ hk (trip_at ho) j _ hj (trip_at hp)
    rwa [Nat.zero_add] at this
  have Hc : ∀ t o, n < t → l[t]? = some o → (tripOf l.toArray o).2.2.contains (t - 1) = true := fun t o ht ho => by
    have := chainT_spec _ (n + 1) hchain (t - (n + 1)) (tripOf l.toArray o) (by rw [List.getElem?_drop, show n + 1 + (t - (n + 1)) = t by omega]; exact trip_at ho)
    rwa [show n + 1 + (t - (n + 1)) - 1 = t - 1 by omega] at this
  have Hs : ∀ i, i < n → ∃ j o, i < j ∧ j ≤ n ∧ l[j]? = some o ∧ (tripOf l.toArray o).2.2.contains i = true := fun i hi => by
    simp only [sinkT, List.all_eq_true, List.mem_range, List.any_eq_true] at hsink
    obtain ⟨t, ht, hc⟩ := hsink i hi
    obtain ⟨j, hj⟩ := List.getElem?_of_mem ht
    rw [List.getElem?_take] at hj
    split at hj
    · rename_i hjn
      rw [List.getElem?_map, Option.map_eq_some_iff] at hj
      obtain ⟨o, ho, rfl⟩ := hj
      exact ⟨j, o, Hb j o ho i (List.contains_iff_mem.1 hc), by omega, ho, hc⟩
    · cases hj
  have hsz : l.toArray.size = l.length := by simp
  simp only [Region.lexTailB, Bool.and_eq_true, decide_eq_true_eq]
  refine ⟨⟨⟨⟨hsel, by rw [hsz]; exact hn⟩, ?_⟩, ?_⟩, ?_⟩
  · simp only [Region.sinkB, List.all_eq_true, List.mem_range, List.any_eq_true, Bool.and_eq_true, decide_eq_true_eq]
    intro i hi
    obtain ⟨j, o, hij, hjn, ho, hc⟩ := Hs i hi
    refine ⟨j, by omega, hij, ?_⟩
    unfold Region.waitsFor
    rw [show l.toArray[j]? = some o by simpa using ho]
    exact trip_any hc
  · simp only [Region.chainB, List.all_eq_true, List.mem_range, Bool.or_eq_true, decide_eq_true_eq]
    intro t ht
    by_cases hle : t ≤ n
    · exact .inl hle
    · right
      rw [hsz] at ht
      have ho := List.getElem?_eq_getElem ht
      unfold Region.waitsFor
      rw [show l.toArray[t]? = some l[t] by simpa using ho]
      exact trip_any (Hc t _ (by omega) ho)
  · have hseq : ∀ g k s, Upto l k s → n ≤ k → k + g = l.length → Region.seqB .any l.toArray g k s = true := by
      intro g
      induction g with
      | zero =>
        intro k s hu hk hg
        simp only [Region.seqB, List.isEmpty_iff]
        apply List.eq_nil_iff_forall_not_mem.2
        intro j hj
        obtain ⟨h1, o, ho, -⟩ := mem_ready.1 hj
        have hj' : j < l.length := by have := (Array.getElem?_eq_some_iff.1 ho).1; simpa using this
        rw [hu.getD hj'] at h1
        simp only [decide_eq_false_iff_not] at h1
        omega
      | succ g ih =>
        intro k s hu hk hg
        simp only [Region.seqB, Bool.and_eq_true, decide_eq_true_eq]
        refine ⟨?_, ih (k + 1) _ hu.next (by omega) (by omega)⟩
        have hkl : k < l.length := by omega
        have hok := List.getElem?_eq_getElem hkl
        unfold Region.ready
        rw [hsz]
        apply filter_one _ hkl
        intro j hj
        have e : (!s.getD j true && ((l.toArray[j]?).map (·.after.all fun e => !Region.binds .any e || s.getD e.on false)).getD false) = true ↔ j ∈ Region.ready .any l.toArray s := by
          unfold Region.ready
          rw [List.mem_filter, List.mem_range, hsz]
          exact ⟨fun h => ⟨hj, h⟩, fun h => h.2⟩
        rw [e]
        constructor
        · intro hr
          obtain ⟨h1, o, ho, h2⟩ := mem_ready.1 hr
          rw [hu.getD hj] at h1
          simp only [decide_eq_false_iff_not] at h1
          by_cases ejk : j = k
          · exact ejk
          · have hjo : l[j]? = some o := by simpa using ho
            obtain ⟨x, hx, hbx, hon⟩ := trip_waits.1 (Hc j o (by omega) hjo)
            have h3 := h2 x hx hbx
            rw [hu.getD (by omega)] at h3
            simp only [decide_eq_true_eq] at h3
            omega
        · rintro rfl
          exact quick_ready hu hok (Hb _ _ hok)
    have hhead : ∀ f k s, Upto l k s → k + f = n → Region.lexHead .any l.toArray (l.length - n) f k s = true := by
      intro f
      induction f with
      | zero =>
        intro k s hu hk
        simp only [Region.lexHead]
        exact hseq _ k s hu (by omega) (by omega)
      | succ f ih =>
        intro k s hu hk
        have hkl : k < l.length := by omega
        have hok := List.getElem?_eq_getElem hkl
        simp only [Region.lexHead, Bool.and_eq_true]
        exact ⟨⟨List.contains_iff_mem.2 (quick_ready hu hok (Hb _ _ hok)), quick_free hu hok (fun j p hj hp => Hf k _ (by omega) hok j p hj hp)⟩, ih (k + 1) _ hu.next (by omega)⟩
    rw [hsz]
    exact hhead n 0 _ ⟨by simp, fun j hj => by simp [hj]⟩ (by omega)
end Go.Proofs.YtenigkjonegdmaaGreatDoor
