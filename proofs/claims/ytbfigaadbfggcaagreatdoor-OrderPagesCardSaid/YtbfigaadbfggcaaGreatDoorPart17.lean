/- Part 17 of the texts that the proofs of this seat share: OpenJob, OrderSpec, SplitEnd, CallOrder, CallHeld, NumRow, IntsSame, RefNums, QuickOrder. -/
import Derived.Test.YtbfigaadbfggcaaGreatDoorPart4
import Derived.Test.YtbfigaadbfggcaaGreatDoorPart11
import Derived.SliceStrings
import Derived.Test.YtbfigaadbfggcaaGreatDoorPart12
import Derived.Test.YtbfigaadbfggcaaGreatDoorPart16
import Derived.Test.YtbfigaadbfggcaaGreatDoorPart13
import Derived.Test.YtbfigaadbfggcaaGreatDoorPart1
import Derived.Deep.RegionHeld3
import Derived.BigQuiet
import Derived.Deep.MidRow
import Derived.Test.YtbfigaadbfggcaaGreatDoorProg
import Derived.IntWalk
import Derived.Laws.AppendOwn
import Derived.Laws.IdiomCopy
import Derived.RangeFuncBox
import Derived.Deep.Upon
import Derived.Lib.Hide
import Derived.WalkKit
import Derived.StillTail
import Derived.KernelRfl
/- A job that came in, read cell by cell. -/
namespace Go.Proofs.YtbfigaadbfggcaaGreatDoor
open Go.RowKit Go.Deep Go.ChangeShapes Go.WideShapes
set_option linter.unusedVariables false
set_option linter.unusedSimpArgs false
set_option maxRecDepth 100000

section
variable {H : Type} {enc : TypeId × Value → H} {w : World} {base : Nat} {spare : Nat → Bool} {held : Bool}

/-- The texts that came in, as a list. -/
theorem textsA_of (a : Option Addr) (len cap : Nat) (w : World)
    (h : (a = none ∧ len = 0 ∧ cap = 0) ∨ ∃ x, a = some x ∧ len ≤ cap ∧ cap ≤ maxLen ∧ ∀ i, i < len → ∃ z : ByteArray, w.cell? (x.add i) = some (.string z) ∧ z.size ≤ maxLen) :
    ∃ ls : List (List UInt8), ls.length = len ∧ TxA w a cap ls ∧ ∀ x ∈ ls, x.length ≤ maxLen := by
  rcases h with ⟨rfl, rfl, rfl⟩ | ⟨x, rfl, hl, hm, hc⟩
  · exact ⟨[], rfl, .inl rfl, by simp⟩
  · by_cases h0 : len = 0
    · subst h0; exact ⟨[], rfl, .inl rfl, by simp⟩
    obtain ⟨b, off, spot⟩ := x
    have hspot : spot = none := by
      obtain ⟨z, hz, _⟩ := hc 0 (by omega)
      simpa [Addr.add] using World.cell?_spot hz
    subst hspot
    obtain ⟨l, e, hq⟩ := list_of (Q := fun i (p : List UInt8) => w.cell? ⟨b, off + i, none⟩ = some (.string (tx p)) ∧ p.length ≤ maxLen) len (fun i hi => by
      obtain ⟨z, h1, h2⟩ := hc i hi
      rw [Go.WideShapes.add_plain] at h1
      exact ⟨z.data.toList, by rw [tx_data]; exact h1, by rw [size_data]; exact h2⟩)
    refine ⟨l, e, .inr ⟨b, off, rfl, fun i p hp => (hq i p hp).1, by omega, hm⟩, fun p hp => ?_⟩
    obtain ⟨i, hi⟩ := List.getElem?_of_mem hp
    exact (hq i p hi).2

/-- An int among the cells. -/
theorem trod_int_at {fuel o : Nat} {cs : List Value} {y : DataW H × List MemPlace} (ho : o < cs.length) (h : DataW.trod enc Tryz.prog w base spare held fuel 3 ((cs.drop o).take 1) = some y) : ∃ z, cs[o]? = some (.int .i64 z) ∧ (Lit.int .i64 z).wf = true := by
  obtain ⟨v, hv, hw⟩ := trod_fit (by rw [List.length_take, List.length_drop]; omega) h
  rw [Tryz.underlying3] at hw
  obtain ⟨z, rfl, hz⟩ := hw
  refine ⟨z, ?_, hz⟩
  have : ((cs.drop o).take 1)[0]? = some (.int .i64 z) := by rw [hv]; rfl
  simpa [ho] using this
theorem take_take_drop {cs : List Value} {o k i : Nat} (h : i < k) : (((cs.drop o).take k).drop i).take 1 = (cs.drop (o + i)).take 1 := by
  rw [List.drop_take, List.take_take, List.drop_drop, Nat.min_eq_left (by omega)]

/-- A field of a struct, as it is read. -/
theorem trod_at {t ft : TypeId} {i o fuel : Nat} {cs : List Value} {x : DataW H × List MemPlace} (hs : (match Tryz.prog.underlying t with | some (.struct fs) => (fs[i]?).map fun f => (f.type, f.offset) | _ => none) = some (ft, o))
    (h : DataW.trod enc Tryz.prog w base spare held fuel t cs = some x) : ∃ m y, DataW.trod enc Tryz.prog w base spare held m ft ((cs.drop o).take (Tryz.prog.cellsOf ft)) = some y := by
  cases hu : Tryz.prog.underlying t with
  | none => rw [hu] at hs; cases hs
  | some d =>
    rw [hu] at hs
    cases d
    case struct fs =>
      simp only [Option.map_eq_some_iff, Prod.mk.injEq] at hs
      obtain ⟨f, hf0, rfl, rfl⟩ := hs
      obtain ⟨xs, m, _, _, _, hxl, hf⟩ := DataW.trod_struct hu h
      have g := hf i f hf0
      have hi : i < xs.length := by rw [hxl]; exact (Array.getElem?_eq_some_iff.1 hf0).1
      rw [List.getElem?_eq_getElem hi] at g
      exact ⟨m, _, g⟩
    all_goals cases hs
theorem trod_int_field {t : TypeId} {i o fuel : Nat} {cs : List Value} {x : DataW H × List MemPlace} (hs : (match Tryz.prog.underlying t with | some (.struct fs) => (fs[i]?).map fun f => (f.type, f.offset) | _ => none) = some (3, o)) (ho : o < cs.length)
    (h : DataW.trod enc Tryz.prog w base spare held fuel t cs = some x) : ∃ z, cs[o]? = some (.int .i64 z) ∧ (Lit.int .i64 z).wf = true := by
  obtain ⟨m, y, g⟩ := trod_at hs h
  rw [show Tryz.prog.cellsOf 3 = 1 by kernel_rfl] at g
  exact trod_int_at ho g

theorem wf_int {z : Int} (h : (Lit.int .i64 z).wf = true) : -9223372036854775808 ≤ z ∧ z ≤ 9223372036854775807 := by
  simp [Lit.wf, IntKind.min, IntKind.max, IntKind.bits, IntKind.signed] at h
  omega
/-- Its job; all its numbers are ints, its scheme's, too. -/
theorem open_jobF {fuel : Nat} {cs : List Value} {x : DataW H × List MemPlace} (hl : cs.length = 33) (h : DataW.trod enc Tryz.prog w base spare held fuel 29 cs = some x) :
    ∃ j : Jb, (JobA w cs j ∧ j.t.length ≤ maxLen ∧ ∀ p ∈ j.ls, p.length ≤ maxLen) ∧ (∀ i, -9223372036854775808 ≤ j.n i ∧ j.n i ≤ 9223372036854775807) ∧ j.f.c ≤ 9223372036854775807 ∧ j.f.r ≤ 9223372036854775807 := by
  obtain ⟨z0, h0, g0⟩ := trod_int_field (i := 1) (o := 1) (by kernel_rfl) (by omega) h
  obtain ⟨z3, h3, g3⟩ := trod_int_field (i := 3) (o := 4) (by kernel_rfl) (by omega) h
  obtain ⟨z4, h4, g4⟩ := trod_int_field (i := 4) (o := 5) (by kernel_rfl) (by omega) h
  obtain ⟨z5, h5, g5⟩ := trod_int_field (i := 5) (o := 6) (by kernel_rfl) (by omega) h
  obtain ⟨z6, h6, g6⟩ := trod_int_field (i := 6) (o := 7) (by kernel_rfl) (by omega) h
  obtain ⟨z7, h7, g7⟩ := trod_int_field (i := 7) (o := 8) (by kernel_rfl) (by omega) h
  obtain ⟨z8, h8, g8⟩ := trod_int_field (i := 8) (o := 9) (by kernel_rfl) (by omega) h
  obtain ⟨z9, h9, g9⟩ := trod_int_field (i := 9) (o := 10) (by kernel_rfl) (by omega) h
  obtain ⟨z10, h10, g10⟩ := trod_int_field (i := 10) (o := 11) (by kernel_rfl) (by omega) h
  obtain ⟨z11, h11, g11⟩ := trod_int_field (i := 13) (o := 16) (by kernel_rfl) (by omega) h
  obtain ⟨z12, h12, g12⟩ := trod_int_field (i := 14) (o := 17) (by kernel_rfl) (by omega) h
  obtain ⟨z13, h13, g13⟩ := trod_int_field (i := 15) (o := 18) (by kernel_rfl) (by omega) h
  obtain ⟨z14, h14, g14⟩ := trod_int_field (i := 16) (o := 19) (by kernel_rfl) (by omega) h
  obtain ⟨z15, h15, g15⟩ := trod_int_field (i := 17) (o := 20) (by kernel_rfl) (by omega) h
  obtain ⟨z16, h16, g16⟩ := trod_int_field (i := 18) (o := 21) (by kernel_rfl) (by omega) h
  obtain ⟨z17, h17, g17⟩ := trod_int_field (i := 19) (o := 22) (by kernel_rfl) (by omega) h
  obtain ⟨z18, h18, g18⟩ := trod_int_field (i := 20) (o := 23) (by kernel_rfl) (by omega) h
  obtain ⟨z19, h19, g19⟩ := trod_int_field (i := 21) (o := 24) (by kernel_rfl) (by omega) h
  obtain ⟨z20, h20, g20⟩ := trod_int_field (i := 22) (o := 25) (by kernel_rfl) (by omega) h
  obtain ⟨z21, h21, g21⟩ := trod_int_field (i := 23) (o := 26) (by kernel_rfl) (by omega) h
  obtain ⟨z22, h22, g22⟩ := trod_int_field (i := 24) (o := 27) (by kernel_rfl) (by omega) h
  obtain ⟨z23, h23, g23⟩ := trod_int_field (i := 25) (o := 28) (by kernel_rfl) (by omega) h
  obtain ⟨z24, h24, g24⟩ := trod_int_field (i := 26) (o := 29) (by kernel_rfl) (by omega) h
  obtain ⟨z25, h25, g25⟩ := trod_int_field (i := 27) (o := 30) (by kernel_rfl) (by omega) h
  obtain ⟨z26, h26, g26⟩ := trod_int_field (i := 28) (o := 31) (by kernel_rfl) (by omega) h
  obtain ⟨z27, h27, g27⟩ := trod_int_field (i := 29) (o := 32) (by kernel_rfl) (by omega) h
  obtain ⟨mb, yb, gb⟩ := trod_at (i := 2) (o := 2) (ft := 23) (by kernel_rfl) h
  rw [show Tryz.prog.cellsOf 23 = 2 by kernel_rfl] at gb
  obtain ⟨z1, h1, g1⟩ := trod_int_field (i := 0) (o := 0) (by kernel_rfl) (by rw [List.length_take, List.length_drop]; omega) gb
  obtain ⟨z2, h2, g2⟩ := trod_int_field (i := 1) (o := 1) (by kernel_rfl) (by rw [List.length_take, List.length_drop]; omega) gb
  obtain ⟨mf, yf, gf⟩ := trod_at (i := 11) (o := 12) (ft := 26) (by kernel_rfl) h
  rw [show Tryz.prog.cellsOf 26 = 3 by kernel_rfl] at gf
  obtain ⟨c, hc, gc⟩ := trod_int_field (i := 0) (o := 0) (by kernel_rfl) (by rw [List.length_take, List.length_drop]; omega) gf
  obtain ⟨r, hr, gr⟩ := trod_int_field (i := 1) (o := 1) (by kernel_rfl) (by rw [List.length_take, List.length_drop]; omega) gf
  obtain ⟨ms, ys, gs⟩ := trod_at (i := 2) (o := 2) (ft := 24) (by kernel_rfl) gf
  rw [show Tryz.prog.cellsOf 24 = 1 by kernel_rfl, take_take_drop (by omega)] at gs
  obtain ⟨ml, yl, gl⟩ := trod_at (i := 12) (o := 15) (ft := 27) (by kernel_rfl) h
  rw [show Tryz.prog.cellsOf 27 = 1 by kernel_rfl] at gl
  obtain ⟨mt, yt, gt⟩ := trod_at (i := 0) (o := 0) (ft := 9) (by kernel_rfl) h
  rw [show Tryz.prog.cellsOf 9 = 1 by kernel_rfl] at gt
  obtain ⟨T, hT, _, hTz⟩ := DataW.trod_string Tryz.underlying9 gt
  have hT0 : cs[0]? = some (.string T) := by
    have : ((cs.drop 0).take 1)[0]? = some (.string T) := by rw [hT]; rfl
    simpa using this
  obtain ⟨a, len, cap, es, ws⟩ : ∃ (a : Option Addr) (len cap : Nat), (cs.drop 14).take 1 = [Value.slice a len cap] ∧ ((a = none ∧ len = 0 ∧ cap = 0) ∨ ∃ x, a = some x ∧ len ≤ cap ∧ cap ≤ maxLen ∧ ∀ i, i < len → (∃ z, w.cell? (x.add (i * 3 + 0)) = some (.int .i64 z) ∧ (Lit.int .i64 z).wf = true) ∧ (∃ z, w.cell? (x.add (i * 3 + 1)) = some (.int .i64 z) ∧ (Lit.int .i64 z).wf = true) ∧ (∃ z, w.cell? (x.add (i * 3 + 2)) = some (.bool z))) := by
    rcases open_cell_structs Tryz.underlying24 Tryz.underlying50 (by kernel_rfl) (by kernel_rfl) gs with hcs | ⟨x, l, c, hcs, hl, hm, hV⟩
    · exact ⟨none, 0, 0, hcs, .inl ⟨rfl, rfl, rfl⟩⟩
    · exact ⟨some x, l, c, hcs, .inr ⟨x, rfl, hl, hm, fun i hi => ⟨fit_int Tryz.underlying3 (hV i hi 0 _ rfl), fit_int Tryz.underlying3 (hV i hi 1 _ rfl), fit_bool Tryz.underlying4 (hV i hi 2 _ rfl)⟩⟩⟩
  obtain ⟨a', len', cap', el, wl⟩ : ∃ (a : Option Addr) (len cap : Nat), (cs.drop 15).take 1 = [Value.slice a len cap] ∧ ((a = none ∧ len = 0 ∧ cap = 0) ∨ ∃ x, a = some x ∧ len ≤ cap ∧ cap ≤ maxLen ∧ ∀ i, i < len → ∃ z : ByteArray, w.cell? (x.add i) = some (.string z) ∧ z.size ≤ maxLen) := by
    rcases open_strings Tryz.underlying27 Tryz.underlying9 (by kernel_rfl) gl with ⟨hcs, _⟩ | ⟨x, l, c, ss, hcs, _, hl, hm, hz, _, hcell, hwz⟩
    · exact ⟨none, 0, 0, hcs, .inl ⟨rfl, rfl, rfl⟩⟩
    · refine ⟨some x, l, c, hcs, .inr ⟨x, rfl, hl, hm, fun i hi => ?_⟩⟩
      have hlen : i < ss.length := by rw [hz]; split <;> omega
      exact ⟨_, hcell i hlen, hwz _ (by simp [List.getD_eq_getElem?_getD, List.getElem?_eq_getElem hlen])⟩
  have e14 : cs[14]? = some (.slice a len cap) := by
    have : ((cs.drop 14).take 1)[0]? = some (.slice a len cap) := by rw [es]; rfl
    simpa using this
  have e15 : cs[15]? = some (.slice a' len' cap') := by
    have : ((cs.drop 15).take 1)[0]? = some (.slice a' len' cap') := by rw [el]; rfl
    simpa using this
  have e2 : cs[2]? = some (.int .i64 z1) := by simpa using h1
  have e3 : cs[3]? = some (.int .i64 z2) := by simpa using h2
  have e12 : cs[12]? = some (.int .i64 c) := by simpa using hc
  have e13 : cs[13]? = some (.int .i64 r) := by simpa using hr
  obtain ⟨l, hll, hI⟩ := steps_of a len cap w ws
  obtain ⟨ls, hls, hA, hz⟩ := textsA_of a' len' cap' w wl
  subst hll hls
  have hall : ∀ z ∈ [z0, z1, z2, z3, z4, z5, z6, z7, z8, z9, z10, z11, z12, z13, z14, z15, z16, z17, z18, z19, z20, z21, z22, z23, z24, z25, z26, z27], -9223372036854775808 ≤ z ∧ z ≤ 9223372036854775807 := by
    simp only [List.mem_cons, List.not_mem_nil, or_false, forall_eq_or_imp, forall_eq]
    exact ⟨wf_int g0, wf_int g1, wf_int g2, wf_int g3, wf_int g4, wf_int g5, wf_int g6, wf_int g7, wf_int g8, wf_int g9, wf_int g10, wf_int g11, wf_int g12, wf_int g13, wf_int g14, wf_int g15, wf_int g16, wf_int g17, wf_int g18, wf_int g19, wf_int g20, wf_int g21, wf_int g22, wf_int g23, wf_int g24, wf_int g25, wf_int g26, wf_int g27⟩
  obtain ⟨n, hn⟩ : ∃ n : Nat → Int, n = fun i => ([z0, z1, z2, z3, z4, z5, z6, z7, z8, z9, z10, z11, z12, z13, z14, z15, z16, z17, z18, z19, z20, z21, z22, z23, z24, z25, z26, z27] : List Int).getD i 0 := ⟨_, rfl⟩
  refine ⟨⟨T.data.toList, n, ⟨c, r, l⟩, ls⟩, ⟨⟨a, cap, a', cap', ?_, hI, hA⟩, by simp only; rw [size_data]; exact hTz, hz⟩, (fun i => by
    simp only [hn, List.getD_eq_getElem?_getD]
    by_cases hi : i < [z0, z1, z2, z3, z4, z5, z6, z7, z8, z9, z10, z11, z12, z13, z14, z15, z16, z17, z18, z19, z20, z21, z22, z23, z24, z25, z26, z27].length
    · rw [List.getElem?_eq_getElem hi]
      exact hall _ (List.getElem_mem hi)
    · rw [List.getElem?_eq_none (by omega)]
      decide), (wf_int gc).2, (wf_int gr).2⟩
  rw [tx_data]
  subst hn
  apply List.ext_getElem?
  intro k
  by_cases hk : k < 33
  · have hw : k = 0 ∨ k = 1 ∨ k = 2 ∨ k = 3 ∨ k = 4 ∨ k = 5 ∨ k = 6 ∨ k = 7 ∨ k = 8 ∨ k = 9 ∨ k = 10 ∨ k = 11 ∨ k = 12 ∨ k = 13 ∨ k = 14 ∨ k = 15 ∨ k = 16 ∨ k = 17 ∨ k = 18 ∨ k = 19 ∨ k = 20 ∨ k = 21 ∨ k = 22 ∨ k = 23 ∨ k = 24 ∨ k = 25 ∨ k = 26 ∨ k = 27 ∨ k = 28 ∨ k = 29 ∨ k = 30 ∨ k = 31 ∨ k = 32 := by omega
    rcases hw with rfl | rfl | rfl | rfl | rfl | rfl | rfl | rfl | rfl | rfl | rfl | rfl | rfl | rfl | rfl | rfl | rfl | rfl | rfl | rfl | rfl | rfl | rfl | rfl | rfl | rfl | rfl | rfl | rfl | rfl | rfl | rfl | rfl
    all_goals first
      | exact hT0
      | exact e2
      | exact e3
      | exact e12
      | exact e13
      | exact e14
      | exact e15
      | exact h0
      | exact h3
      | exact h4
      | exact h5
      | exact h6
      | exact h7
      | exact h8
      | exact h9
      | exact h10
      | exact h11
      | exact h12
      | exact h13
      | exact h14
      | exact h15
      | exact h16
      | exact h17
      | exact h18
      | exact h19
      | exact h20
      | exact h21
      | exact h22
      | exact h23
      | exact h24
      | exact h25
      | exact h26
      | exact h27
  · rw [List.getElem?_eq_none (by omega), List.getElem?_eq_none (by rw [jobL_length]; omega)]
/-- Its job; all its numbers are ints. -/
theorem open_jobW {fuel : Nat} {cs : List Value} {x : DataW H × List MemPlace} (hl : cs.length = 33) (h : DataW.trod enc Tryz.prog w base spare held fuel 29 cs = some x) :
    ∃ j : Jb, (JobA w cs j ∧ j.t.length ≤ maxLen ∧ ∀ p ∈ j.ls, p.length ≤ maxLen) ∧ ∀ i, -9223372036854775808 ≤ j.n i ∧ j.n i ≤ 9223372036854775807 := by
  obtain ⟨j, h1, h2, -⟩ := open_jobF hl h
  exact ⟨j, h1, h2⟩
/-- Its job. -/
theorem open_job {fuel : Nat} {cs : List Value} {x : DataW H × List MemPlace} (hl : cs.length = 33) (h : DataW.trod enc Tryz.prog w base spare held fuel 29 cs = some x) :
    ∃ j : Jb, JobA w cs j ∧ j.t.length ≤ maxLen ∧ ∀ p ∈ j.ls, p.length ≤ maxLen := by
  obtain ⟨j, hj, -⟩ := open_jobW hl h
  exact ⟨j, hj⟩
end
end Go.Proofs.YtbfigaadbfggcaaGreatDoor
/- What order is asked to answer, as plain functions; contracts of its functions as the laws' walks ask them. -/
namespace Go.Proofs.YtbfigaadbfggcaaGreatDoor
open Go.RowKit
set_option linter.unusedVariables false

/-- Is there such a leaf of such a signature, in such a copy? -/
def isLf (j : Jb) (s c a : Int) : Bool := (decide (0 ≤ c) && decide (c < copM j)) && ((decide (0 ≤ s) && decide (s < (ofM j).length)) && (decide (0 ≤ a) && decide (a < panN (ofM j) s.toNat)))
def leafO (j : Jb) (s c a : Int) : Int := if isLf j s c a = true then (posM j c s.toNat a.toNat : Nat) else 0
def atO (j : Jb) (c x : Int) : Option (Nat × Nat) := if x < 0 then none else (bookM j c)[x.toNat]?
def pageO (j : Jb) (x : Int) (recto : Bool) : Int := if (atO j 0 x).isSome = true then pageM (j.n 0) x recto else 0
theorem isLf_iff {j : Jb} {s c a : Int} : isLf j s c a = true ↔ ¬ (c < 0 ∨ copM j ≤ c) ∧ ∃ i b : Nat, s = i ∧ a = b ∧ i < (ofM j).length ∧ b < panN (ofM j) i := by
  unfold isLf
  simp only [Bool.and_eq_true, decide_eq_true_eq]
  constructor
  · rintro ⟨h1, ⟨h2, h3⟩, h4, h5⟩
    exact ⟨by omega, s.toNat, a.toNat, by omega, by omega, by omega, by omega⟩
  · rintro ⟨h1, i, b, rfl, rfl, h2, h3⟩
    rw [Int.toNat_natCast]
    omega
/-- Where a leaf of the book comes from, and where that one goes. -/
theorem book_leaf {j : Jb} {c : Int} {x : Nat} {p : Nat × Nat} (h : (bookM j c)[x]? = some p) : isLf j p.1 c p.2 = true ∧ leafO j p.1 c p.2 = x := by
  have hx := (List.getElem?_eq_some_iff.1 h).1
  have hno : ¬ (c < 0 ∨ copM j ≤ c) := fun e => by
    rw [bookM_none e] at hx
    exact absurd hx (Nat.not_lt_zero _)
  obtain ⟨i, a, hi, ha, e, h2⟩ := book_each hx
  rw [h] at h2
  cases h2
  have hb : isLf j (i : Int) c (a : Int) = true := isLf_iff.2 ⟨hno, i, a, rfl, rfl, hi, ha⟩
  refine ⟨hb, ?_⟩
  unfold leafO
  rw [if_pos hb, Int.toNat_natCast, Int.toNat_natCast, e]
theorem leaf_book {j : Jb} {s c a : Int} (h : isLf j s c a = true) : ∃ i b : Nat, s = i ∧ a = b ∧ (bookM j c)[posM j c i b]? = some (i, b) ∧ leafO j s c a = (posM j c i b : Nat) := by
  obtain ⟨hno, i, b, rfl, rfl, hi, hb⟩ := isLf_iff.1 h
  refine ⟨i, b, rfl, rfl, (book_at hno hi hb).2, ?_⟩
  unfold leafO
  rw [if_pos h, Int.toNat_natCast, Int.toNat_natCast]
/-- What Find answers in the book. -/
theorem book_find (j : Jb) (s c a : Int) : findF s a (bookM j c) 0 = if isLf j s c a = true then leafO j s c a else -1 := by
  by_cases h : isLf j s c a = true
  · rw [if_pos h]
    obtain ⟨i, b, rfl, rfl, h1, h2⟩ := leaf_book h
    rw [h2]
    have := findF_yes (s := (i : Int)) (a := (b : Int)) (k := 0) h1 ⟨rfl, rfl⟩ (fun y q hy hq => by
      obtain ⟨-, h3⟩ := book_leaf hy
      rw [hq.1, hq.2, h2] at h3
      omega)
    rw [this]
    omega
  · rw [if_neg h]
    refine findF_no fun p hp hq => h ?_
    obtain ⟨x, hx⟩ := List.getElem?_of_mem hp
    obtain ⟨h3, -⟩ := book_leaf hx
    rw [hq.1, hq.2] at h3
    exact h3
/-- How many leaves a book has. -/
theorem book_small (j : Jb) (c : Int) : (bookM j c).length ≤ 3200000 := bookM_small j c
def Int64 (x : Int) : Prop := -9223372036854775808 ≤ x ∧ x ≤ 9223372036854775807
theorem int64_wf {x : Int} (h : (Lit.int .i64 x).wf = true) : Int64 x := wf_int h
theorem int64_nat {n : Nat} (h : n ≤ 3200000) : Int64 (n : Int) := by unfold Int64; omega
/-- A leaf of the book is one of at most so many; so are its signature and its number there. -/
theorem book_bounds {j : Jb} {c : Int} {x : Nat} {p : Nat × Nat} (h : (bookM j c)[x]? = some p) : p.1 < (ofM j).length ∧ p.2 < panN (ofM j) p.1 ∧ p.1 ≤ 50000 ∧ p.2 ≤ 64 ∧ x ≤ 3200000 := by
  have h1 := (isLf_iff.1 (book_leaf h).1).2
  obtain ⟨i, b, e1, e2, h2, h3⟩ := h1
  obtain rfl : p.1 = i := by omega
  obtain rfl : p.2 = b := by omega
  have h4 := of_small j
  have h5 := panN_small j p.1
  have h6 := book_small j c
  have h7 := (List.getElem?_eq_some_iff.1 h).1
  omega
/-- What order's functions are asked. -/
def OrdCopies : Prop := ∀ (cs : List Value) (j : Jb) (w : World), JobA w cs j → WfF j → GoodM w →
  Calls Tryz.prog 9 #[.agg cs.toArray] w fun e w' => e = .returned (.int .i64 (copM j)) ∧ Below w.heap.size w w'
def OrdLeaf : Prop := ∀ (cs : List Value) (j : Jb) (s c a : Int) (w : World), JobA w cs j → WfF j → GoodM w → Int64 s → Int64 c → Int64 a →
  Calls Tryz.prog 12 #[.agg cs.toArray, .int .i64 s, .int .i64 c, .int .i64 a] w fun e w' => e = .returned (.tuple #[.int .i64 (leafO j s c a), .bool (isLf j s c a)]) ∧ Below w.heap.size w w'
def OrdWhere : Prop := ∀ (cs : List Value) (j : Jb) (c x : Int) (w : World), JobA w cs j → WfF j → GoodM w → Int64 c → Int64 x →
  Calls Tryz.prog 13 #[.agg cs.toArray, .int .i64 c, .int .i64 x] w fun e w' => e = .returned (.tuple #[.int .i64 ((atO j c x).getD (0, 0)).1, .int .i64 ((atO j c x).getD (0, 0)).2, .bool (atO j c x).isSome]) ∧ Below w.heap.size w w'
def OrdPages : Prop := ∀ (cs : List Value) (j : Jb) (x : Int) (w : World), JobA w cs j → WfF j → GoodM w → Int64 x →
  Calls Tryz.prog 15 #[.agg cs.toArray, .int .i64 x] w fun e w' => e = .returned (.tuple #[.int .i64 (pageO j x true), .int .i64 (pageO j x false)]) ∧ Below w.heap.size w w'
end Go.Proofs.YtbfigaadbfggcaaGreatDoor
/- What split.end answers. -/
namespace Go.Proofs.YtbfigaadbfggcaaGreatDoor
open Go.RowKit
set_option linter.unusedVariables false
set_option linter.unusedSimpArgs false

theorem less_no (p : Int) (b s : Sc) (nm : List UInt8) (h : (findM nm).getD zeroSc = s) (u v : Bool) (e1 : decide (p ≤ 2 * panM s.c s.r) = u) (e2 : decide (2 * panM s.c s.r < 2 * panM b.c b.r) = v) (hn : (u && v) = false) : lessM p b nm = b := by
  unfold lessM
  rw [h]
  refine if_neg fun ⟨h1, h2⟩ => ?_
  rw [← e1, ← e2] at hn
  unfold panS at h1 h2
  rw [decide_eq_true h1, decide_eq_true (by omega)] at hn
  cases hn
theorem less_yes (p : Int) (b s : Sc) (nm : List UInt8) (h : (findM nm).getD zeroSc = s) (e1 : decide (p ≤ 2 * panM s.c s.r) = true) (e2 : decide (2 * panM s.c s.r < 2 * panM b.c b.r) = true) : lessM p b nm = s := by
  unfold lessM
  rw [h]
  rw [decide_eq_true_eq] at e1 e2
  exact if_pos ⟨e1, by unfold panS; omega⟩

def EndRel (G : Nat → Prop) (p : Int) (f : Sc) (ls : List (List UInt8)) (k B : Nat) (w : World) (i : Value) (wr : World) : Prop :=
  ∃ (j : Nat) (s : Sc) (a1 : Option Addr) (c1 : Nat), j ≤ k ∧ i = .int .i64 (j : Int) ∧ Hid ((ls.take j).foldl (lessM p) f = s) ∧ Hid (Bx wr (B + 1) [.int .i64 0, .int .i64 0, .slice none 0 0]) ∧ Hid (Bx wr (B + 2) [.int .i64 s.c, .int .i64 s.r, .slice a1 s.l.length c1]) ∧ Hid (LiG (fun b => (b ≠ B + 1 ∧ b ≠ B + 2) ∧ G b) wr a1 s.l) ∧ Hid (Below w.heap.size w wr)

set_option maxHeartbeats 2000000 in
theorem spEnd_core (cs : List Value) (c r : Int) (l : List Sp) (a a' : Option Addr) (n cap k cap' : Nat) (ls : List (List UInt8)) (p : Int) (w : World) (h12 : cs[12]? = some (.int .i64 c)) (h13 : cs[13]? = some (.int .i64 r)) (h14 : cs[14]? = some (.slice a n cap)) (h15 : cs[15]? = some (.slice a' k cap'))
    (hn : l.length = n) (G : Nat → Prop) (hGn : ∀ b, w.heap.size ≤ b → G b) (hI : LiG G w a l) (hk : ls.length = k) (hT : TxA w a' cap' ls) (hk2 : k ≤ maxLen) (hg : GoodM w) (R : Sc) (hR : ls.foldl (lessM p) ⟨c, r, l⟩ = R) :
    Calls Tryz.prog 54 #[.agg cs.toArray, .int .i64 p] w fun e w' => ∃ a1 c1, e = .returned (.agg #[.int .i64 R.c, .int .i64 R.r, .slice a1 R.l.length c1]) ∧ LiG G w' a1 R.l ∧ Below w.heap.size w w' := by
  have HRS := Lib.hid hR
  clear hR
  unfold maxLen at hk2
  have X1 := Bx.new w 29 cs
  have U1 := up_alloc (Below.refl w.heap.size w) (.cells cs.toArray 29)
  have V1 := up_alloc (Below.refl _ (w.alloc (.cells cs.toArray 29))) (.cells #[.int .i64 0, .int .i64 0, .slice none 0 0] 26)
  have V2 := up_alloc V1 (.cells #[.int .i64 c, .int .i64 r, .slice a n cap] 26)
  have c12 := bl_cell V1 (X1.cell 12 h12); have c13 := bl_cell V1 (X1.cell 13 h13); have c14 := bl_cell V1 (X1.cell 14 h14)
  have c15 := bl_cell V2 (X1.cell 15 h15)
  have B1 := up_trans U1 V2
  have R1 := (Bx.new (w.alloc (.cells cs.toArray 29)) 26 [.int .i64 0, .int .i64 0, .slice none 0 0]).alloc (.cells #[.int .i64 c, .int .i64 r, .slice a n cap] 26)
  have L1 := Bx.new ((w.alloc (.cells cs.toArray 29)).alloc (.cells #[.int .i64 0, .int .i64 0, .slice none 0 0] 26)) 26 [.int .i64 c, .int .i64 r, .slice a n cap]
  have HI := Lib.hid (hI.old.mono (G' := fun b => (b ≠ w.heap.size + 1 ∧ b ≠ w.heap.size + 2) ∧ G b) (fun b hb => ⟨by omega, hb.1⟩))
  have HT := Lib.hid hT; have HG := Lib.hid hg; have HK := Lib.hid hk; have HN := Lib.hid hn
  simp only [World.size_alloc] at c12 c13 c14 c15 R1 L1
  clear X1 U1 V1 V2 hT hI hg hk hn h12 h13 h14 h15
  generalize cs.toArray = ca at *
  have HR1 := Lib.hid R1; have HL1 := Lib.hid L1; have HB1 := Lib.hid B1
  clear R1 L1 B1
  go_enter Tryz.func54, Tryz.ntmps54
  go_wp2
  obtain ⟨w1, hw1⟩ : ∃ w1, ((w.alloc (.cells ca 29)).alloc (.cells #[.int .i64 0, .int .i64 0, .slice none 0 0] 26)).alloc (.cells #[.int .i64 c, .int .i64 r, .slice a n cap] 26) = w1 := ⟨_, rfl⟩
  rw [hw1] at HR1 HL1 HB1 ⊢
  clear hw1 c12 c13 c14 c15
  go_loopw [15] (EndRel G p ⟨c, r, l⟩ ls k w.heap.size w) (fun i _ => k - (intOf i).toNat)
  case atStart => exact ⟨0, ⟨c, r, l⟩, a, cap, by omega, by go_num, Lib.hid rfl, HR1, by rw [HN.out]; exact HL1, Lib.hid (HI.out.up HB1.out), HB1⟩
  case round =>
    obtain ⟨j, s, a1, c1, hj, rfl, HS, HR, HL, HI1, HB⟩ := hrel
    by_cases hlt : j < k
    · obtain ⟨z, hx⟩ : ∃ x, ls[j]? = some x := ⟨ls[j]'(by rw [HK.out]; exact hlt), List.getElem?_eq_getElem _⟩
      obtain ⟨g, o, rfl, hc, -, -⟩ := HT.out.resolve_left (by rintro rfl; cases hx)
      have hcx := bl_cell HB.out (hc j z hx)
      have z0 : (0 : Int) ≤ (j : Int) := by omega
      have z3 : (j : Int) < (k : Int) := by omega
      have htk := Lib.hid (take_next hx)
      have HF := Lib.hid (schFind_any z wr (HG.out.below HB.out))
      obtain ⟨t, ht⟩ : ∃ t, (findM z).getD zeroSc = t := ⟨_, rfl⟩
      unfold GivesS at HF
      rw [ht] at HF
      have HTS := Lib.hid ht
      generalize (findM z).isSome = fb at *
      generalize tx z = Z at *
      clear hx hc ht
      go_wp2_with fail
      refine (HF.out).mono ?_
      rintro e w3 ⟨a3, c3, rfl, hF, hb⟩
      have S := Bx.new w3 26 [.int .i64 t.c, .int .i64 t.r, .slice a3 t.l.length c3]
      have U := up_alloc (Below.refl w3.heap.size w3) (.cells #[.int .i64 t.c, .int .i64 t.r, .slice a3 t.l.length c3] 26)
      have B4 := Lib.hid (up_trans HB.out (up_trans hb U))
      have HR4 := Lib.hid ((HR.out.up hb).up U)
      have HL4 := Lib.hid ((HL.out.up hb).up U)
      have HI4 := Lib.hid ((HI1.out.up hb).up U)
      have hlow := HL.out.lt
      have HF4 := Lib.hid ((hF.liG.mono (G' := fun b => (b ≠ w.heap.size + 1 ∧ b ≠ w.heap.size + 2) ∧ G b) (fun b hb => ⟨by omega, hGn b (by have := HB.out.size; omega)⟩)).up U)
      have hne : w.heap.size + 2 ≠ w3.heap.size := by have := hb.size; omega
      clear hb U hF
      go_wp2_with fail
      obtain ⟨w4, hw4⟩ : ∃ w4, w3.alloc (.cells #[.int .i64 t.c, .int .i64 t.r, .slice a3 t.l.length c3] 26) = w4 := ⟨_, rfl⟩
      rw [hw4] at S B4 HR4 HL4 HI4 HF4 ⊢
      clear hw4
      have j0 := fun x : Later w4 => x.cell (S.cell 0 rfl)
      have j1 := fun x : Later w4 => x.cell (S.cell 1 rfl)
      have j2 := fun x : Later w4 => x.cell (S.cell 2 rfl)
      have i0 := fun x : Later w4 => x.cell (HL4.out.cell 0 rfl)
      have i1 := fun x : Later w4 => x.cell (HL4.out.cell 1 rfl)
      have i2 := fun x : Later w4 => x.cell (HL4.out.cell 2 rfl)
      have K1 := fun w1 => spTakes_any t.c t.r a3 t.l.length c3 w1
      have K2 := fun w1 => spTakes_any s.c s.r a1 s.l.length c1 w1
      have hno := less_no p s t z HTS.out
      have hye := less_yes p s t z HTS.out
      obtain ⟨q3, hq3⟩ : ∃ q3, 2 * panM t.c t.r = q3 := ⟨_, rfl⟩
      obtain ⟨qs, hqs⟩ : ∃ qs, 2 * panM s.c s.r = qs := ⟨_, rfl⟩
      rw [hq3] at K1 hno hye
      rw [hqs] at K2 hno hye
      obtain ⟨u, hu⟩ : ∃ u, decide (p ≤ q3) = u := ⟨_, rfl⟩
      obtain ⟨v, hv⟩ : ∃ v, decide (q3 < qs) = v := ⟨_, rfl⟩
      have HN := Lib.hid (hno u v hu hv)
      rw [hu, hv] at hye
      have HY := Lib.hid hye
      have HK1 := Lib.hid K1; have HK2 := Lib.hid K2
      have HSb := Lib.hid S
      clear K1 K2 hno hye hq3 hqs S
      cases u
      · clear hv i0 i1 i2
        refine later_start (w := w4) ?_
        intro x
        refine wp_region_later (by kernel_rfl) (by kernel_rfl) ?_
        repeat (go_big_quiet_step ((go_at_call 53; with_reducible exact Later.call (HK1.out _))))
        refine wpQuiet_nil ?_
        rintro _ ⟨x2, rfl⟩
        clear j0 j1 j2
        go_wp2
        go_roundw
        case rel => exact ⟨j + 1, s, a1, c1, by omega, by go_num, Lib.hid (by rw [htk.out, List.foldl_append, HS.out]; exact HN.out rfl), Lib.hid (HR4.out.up x2.up), Lib.hid (HL4.out.up x2.up), Lib.hid (HI4.out.up x2.up), Lib.hid (up_trans B4.out x2.up)⟩
        case measure => simp [intOf]; omega
      cases v
      · refine later_start (w := w4) ?_
        intro x
        refine wp_region_later (by kernel_rfl) (by kernel_rfl) ?_
        repeat (go_big_quiet_step ((go_at_call 53; first | with_reducible exact Later.call (HK1.out _) | with_reducible exact Later.call (HK2.out _))))
        refine wpQuiet_nil ?_
        rintro _ ⟨x2, rfl⟩
        clear j0 j1 j2 i0 i1 i2
        go_wp2
        go_roundw
        case rel => exact ⟨j + 1, s, a1, c1, by omega, by go_num, Lib.hid (by rw [htk.out, List.foldl_append, HS.out]; exact HN.out rfl), Lib.hid (HR4.out.up x2.up), Lib.hid (HL4.out.up x2.up), Lib.hid (HI4.out.up x2.up), Lib.hid (up_trans B4.out x2.up)⟩
        case measure => simp [intOf]; omega
      · refine later_start (w := w4) ?_
        intro x
        refine wp_region_later (by kernel_rfl) (by kernel_rfl) ?_
        repeat (go_big_quiet_step ((go_at_call 53; first | with_reducible exact Later.call (HK1.out _) | with_reducible exact Later.call (HK2.out _))))
        refine wpQuiet_nil ?_
        rintro _ ⟨x2, rfl⟩
        have L5 := HL4.out.up x2.up
        have R5 := HR4.out.up x2.up
        have BB := up_trans B4.out x2.up
        have F5 := HF4.out.up x2.up
        have d0 := j0 x2; have d1 := j1 x2; have d2 := j2 x2
        have lf := L5.free
        have l0 := L5.cell 0 rfl; have l1 := L5.cell 1 rfl; have l2 := L5.cell 2 rfl
        clear j0 j1 j2 i0 i1 i2
        go_wp2
        go_roundw
        case rel =>
          refine ⟨j + 1, t, a3, c3, by omega, by go_num, Lib.hid (by rw [htk.out, List.foldl_append, HS.out]; exact HY.out rfl rfl), Lib.hid ?_, Lib.hid (L5.set3 _ _ _), Lib.hid ?_, Lib.hid ?_⟩
          · exact ((R5.far (p := ⟨w.heap.size + 2, 0, none⟩) (by simp only; omega) _).far (p := ⟨w.heap.size + 2, 1, none⟩) (by simp only; omega) _).far (p := ⟨w.heap.size + 2, 2, none⟩) (by simp only; omega) _
          · exact ((F5.set (p := ⟨w.heap.size + 2, 0, none⟩) (by simp only; omega) _).set (p := ⟨w.heap.size + 2, 1, none⟩) (by simp only; omega) _).set (p := ⟨w.heap.size + 2, 2, none⟩) (by simp only; omega) _
          · exact up_set (up_set (up_set BB (by simp only; omega) _) (by simp only; omega) _) (by simp only; omega) _
        case measure => simp [intOf]; omega
    · obtain rfl : j = k := by omega
      have hall : ls.take j = ls := List.take_of_length_le (by rw [HK.out]; omega)
      have hs := HS.out
      rw [hall, HRS.out] at hs
      subst hs
      have l0 := HL.out.cell 0 rfl; have l1 := HL.out.cell 1 rfl; have l2 := HL.out.cell 2 rfl
      have r0 := HR.out.cell 0 rfl; have r1 := HR.out.cell 1 rfl; have r2 := HR.out.cell 2 rfl; have rf := HR.out.free
      clear hall
      go_wp2
      have R6 := HR.out.set3 (.int .i64 R.c) (.int .i64 R.r) (.slice a1 R.l.length c1)
      have p0 := R6.cell 0 rfl; have p1 := R6.cell 1 rfl; have p2 := R6.cell 2 rfl
      refine bodyPost_ret (v := .agg #[.int .i64 R.c, .int .i64 R.r, .slice a1 R.l.length c1]) (by simp [results, Tryz.results54, go_sem, p0, p1, p2]) rfl ⟨a1, c1, rfl, ?_, ?_⟩
      · exact (((HI1.out.set (p := ⟨w.heap.size + 1, 0, none⟩) (by simp only; omega) _).set (p := ⟨w.heap.size + 1, 1, none⟩) (by simp only; omega) _).set (p := ⟨w.heap.size + 1, 2, none⟩) (by simp only; omega) _).mono fun b hb => hb.2
      · exact up_set (up_set (up_set HB.out (by simp only; omega) _) (by simp only; omega) _) (by simp only; omega) _
theorem spEnd_any (cs : List Value) (j : Jb) (p : Int) (w : World) (h : JobA w cs j) (hg : GoodM w) (G : Nat → Prop) (hGn : ∀ b, w.heap.size ≤ b → G b) (hG : ∀ a c, cs[14]? = some (.slice a j.f.l.length c) → LiG G w a j.f.l) :
    Calls Tryz.prog 54 #[.agg cs.toArray, .int .i64 p] w fun e w' => ∃ a1 c1, e = .returned (.agg #[.int .i64 (endM j p).c, .int .i64 (endM j p).r, .slice a1 (endM j p).l.length c1]) ∧ LiG G w' a1 (endM j p).l ∧ Below w.heap.size w w' := by
  obtain ⟨a, c, a', c', h12, h13, h14, h15, hI, hT⟩ := h.cells
  exact spEnd_core cs _ _ j.f.l a a' _ c _ c' j.ls p w h12 h13 h14 h15 rfl G hGn (hG a c h14) rfl hT (by rcases hT with e | ⟨g, o, e, h, h1, h2⟩; simp [e, maxLen]; omega) hg _ rfl
end Go.Proofs.YtbfigaadbfggcaaGreatDoor
/- A region that draws its order and holds calls which make memory: what only reads is taken ahead of each call, in an order that is handed over and checked. -/
namespace Go.Proofs.YtbfigaadbfggcaaGreatDoor
open Go.RowKit
set_option linter.unusedVariables false

/-- An operation that only hands on, reckons or reads: it yields a value, or none. -/
def takeable (o : Oper) : Bool := match o.op with
  | .move _ | .assign _ | .pick .. | .load .. | .fieldAddr .. | .indexAddr .. | .binOp .. | .unOp .. | .build .. | .field .. | .index ..  | .convert .. | .extract .. | .slice .. => true
  | _ => false
theorem value_of {P : Program} {m : Sem Value} {w w' : World} {n : Next} (h : (m >>= fun x => pure (Next.value x)).run P w = .ok n w') : ∃ u, n = .value u := by
  rw [Sem.run_bind] at h
  cases hm : m.run P w with
  | ok x w1 => rw [hm] at h; cases h; exact ⟨x, rfl⟩
  | halt x w1 => rw [hm] at h; cases h
theorem bool_of {P : Program} {m : Sem Bool} {x y : Value} {w w' : World} {n : Next} (h : (m >>= fun b => pure (Next.value (if b = true then x else y))).run P w = .ok n w') : ∃ u, n = .value u := by
  rw [Sem.run_bind] at h
  cases hm : m.run P w with
  | ok b w1 => rw [hm] at h; cases h; exact ⟨_, rfl⟩
  | halt b w1 => rw [hm] at h; cases h
theorem takeable_value {P : Program} {o : Oper} {ρ : Operand → Value} {w w' : World} {n : Next} (ht : takeable o = true) (h : (execOp ρ o).run P w = .ok n w') : ∃ u, n = .value u := by
  unfold takeable at ht
  unfold execOp at h
  split at ht
  all_goals first
    | exact absurd ht (by decide)
    | (rename_i e; rw [e] at h; exact value_of h)
    | (rename_i e; rw [e] at h; cases h; exact ⟨_, rfl⟩)
    | (rename_i e; rw [e] at h; exact bool_of h)

def takesB (ops : Array Oper) : Array Bool → List Nat → Option (Array Bool)
  | s, [] => some s
  | s, i :: r => if (Region.ready .any ops s).contains i && Region.free .any ops s i && (ops[i]?.map takeable).getD false then takesB ops (s.setIfInBounds i true) r else none
def planB (ops : Array Oper) : Array Bool → List (List Nat × Nat) → List Nat → Bool
  | s, [], fin => match takesB ops s fin with
    | some s' => (Region.ready .any ops s').isEmpty
    | none => false
  | s, (is, c) :: r, fin => match takesB ops s is with
    | some s' => decide (Region.ready .any ops s' = [c]) && planB ops (s'.setIfInBounds c true) r fin
    | none => false
/-- The plan serves: what it takes may be taken, each call is all that may come up then. -/
def planOk (l : List Oper) (plan : List (List Nat × Nat)) (fin : List Nat) : Bool := Region.noSelect l.toArray && planB l.toArray (Array.replicate l.length false) plan fin

/-- Stands where there is no operation. -/
def noOper : Oper := { dst := none, op := .move (.tmp 0), type := 0, pos := "", after := #[], guard := none }
/-- The walk: of each part what is taken, quietly; then the call. -/
def walkC (P : Program) (l : List Oper) (Q : Exit → Act → World → Prop) (S : World → Prop) : List (List Nat × Nat) → List Nat → Act → World → Prop
  | [], fin, a, w => wpQuiet P l.toArray S (fun a' => Q .normal a' w) (fin.map fun i => l.getD i noOper) a
  | (is, c) :: r, fin, a, w => wpQuiet P l.toArray S (fun a' => ∀ o, l[c]? = some o → ∀ K : Act → World → Prop, Shut (∀ a w, S w → walkC P l Q S r fin a w → K a w) →
      if Region.wanted o (yielded l.toArray a'.tmps) = true then Oper.wp P o a' w K Q else K (a'.put o.dst undef) w) (is.map fun i => l.getD i noOper) a

section
variable {P : Program} {l : List Oper} {Q : Exit → Act → World → Prop} {S : World → Prop}
/-- A part of the walk: what is taken; then the call. -/
theorem walkC_take {is : List Nat} {c : Nat} {r : List (List Nat × Nat)} {fin : List Nat} {a : Act} {w : World} (oc : Oper) (hc : l[c]? = some oc)
    (h : ∀ K0 : Act → Prop, Shut (∀ a', (∀ K : Act → World → Prop, Shut (∀ a w, S w → walkC P l Q S r fin a w → K a w) → if Region.wanted oc (yielded l.toArray a'.tmps) = true then Oper.wp P oc a' w K Q else K (a'.put oc.dst undef) w) → K0 a') →
      wpQuiet P l.toArray S K0 (is.map fun i => l.getD i noOper) a) : walkC P l Q S ((is, c) :: r) fin a w := by
  refine h _ (fun a' h' o ho => ?_)
  rw [hc] at ho
  cases ho
  exact h'
/-- The last part. -/
theorem walkC_last {fin : List Nat} {a : Act} {w : World} (h : ∀ K0 : Act → Prop, Shut (∀ a', Q .normal a' w → K0 a') → wpQuiet P l.toArray S K0 (fin.map fun i => l.getD i noOper) a) : walkC P l Q S [] fin a w :=
  h _ (fun _ h => h)
theorem takes_list (hsel : Region.noSelect l.toArray = true) (hQ : ∀ c (a : Act) d v w, Q (.panic c) (a.put d v) w → Q (.panic c) a w) {w : World} (hS : S w) (fuel : Nat) :
    ∀ (is : List Nat) (s s' : Array Bool) (a : Act), takesB l.toArray s is = some s' → wpQuiet P l.toArray S (fun a' => wpAnyH P .any l.toArray Q S fuel s' a' w) (is.map fun i => l.getD i noOper) a → wpAnyH P .any l.toArray Q S (fuel + is.length) s a w
  | [], s, s', a, h, hq => by
    simp only [takesB, Option.some.injEq] at h
    subst h
    exact hq
  | i :: r, s, s', a, h, hq => by
    unfold takesB at h
    split at h
    · rename_i hc
      simp only [Bool.and_eq_true] at hc
      obtain ⟨⟨h1, h2⟩, h3⟩ := hc
      cases ho : l[i]? with
      | none => rw [show l.toArray[i]? = none by simpa using ho] at h3; cases h3
      | some o =>
        have ho' : l.toArray[i]? = some o := by simpa using ho
        rw [ho'] at h3
        simp only [Option.map_some, Option.getD_some] at h3
        rw [List.map_cons, List.getD_eq_getElem?_getD, ho, Option.getD_some] at hq
        have go : ∀ v, YieldsIf P l.toArray S o v a → wpQuiet P l.toArray S (fun a' => wpAnyH P .any l.toArray Q S fuel s' a' w) (r.map fun i => l.getD i noOper) (a.put o.dst v) → wpAnyH P .any l.toArray Q S (fuel + (i :: r).length) s a w := fun v hy hv =>
          wpAnyH_take ho' hsel h2 h1 (fun c a w h => hQ c a _ _ w h) hy hS (takes_list hsel hQ hS fuel r _ s' _ h hv)
        simp only [wpQuiet] at hq
        split at hq
        · rename_i hw
          obtain ⟨v, hv, hr⟩ := hq
          refine go v (.inl ⟨hw, fun w hw => ?_⟩) hr
          have := hv w hw
          unfold Oper.quietAt at this
          cases hrun : (execOp a.eval o).run P w with
          | ok n w' =>
            obtain ⟨u, rfl⟩ := takeable_value h3 hrun
            rw [hrun] at this
            simp only [Oper.quietUpon] at this
            rw [this.1, this.2]
          | halt x w' => rw [hrun] at this; exact this.elim
        · rename_i hw
          exact go undef (.inr ⟨by simpa using hw, rfl⟩) hq
    · cases h

theorem walkC_wp (hsel : Region.noSelect l.toArray = true) (hQ : ∀ c (a : Act) d v w, Q (.panic c) (a.put d v) w → Q (.panic c) a w) (fin : List Nat) :
    ∀ (plan : List (List Nat × Nat)) (s : Array Bool) (a : Act) (w : World), S w → planB l.toArray s plan fin = true → walkC P l Q S plan fin a w → ∀ fuel, wpAnyH P .any l.toArray Q S ((plan.map fun x => x.1.length + 1).sum + fin.length + fuel) s a w
  | [], s, a, w, hS, hB, h, fuel => by
    simp only [planB] at hB
    split at hB
    · rename_i s' hs
      have hr : Region.ready .any l.toArray s' = [] := by simpa using hB
      have H : ∀ (m : List Oper) (a : Act), wpQuiet P l.toArray S (fun a' => Q .normal a' w) m a → wpQuiet P l.toArray S (fun a' => wpAnyH P .any l.toArray Q S fuel s' a' w) m a := by
        intro m
        induction m with
        | nil => intro a h; exact wpAnyH_done hr h _
        | cons o m ih =>
          intro a h
          simp only [wpQuiet] at h ⊢
          split
          · rename_i hw
            rw [if_pos hw] at h
            obtain ⟨v, h1, h2⟩ := h
            exact ⟨v, h1, ih _ h2⟩
          · rename_i hw
            rw [if_neg hw] at h
            exact ih _ h
      have := takes_list hsel hQ hS fuel fin s s' a hs (H _ _ h)
      rwa [show ([] : List (List Nat × Nat)).map (fun x => x.1.length + 1) = [] from rfl, List.sum_nil, Nat.zero_add, Nat.add_comm]
    · cases hB
  | (is, c) :: r, s, a, w, hS, hB, h, fuel => by
    simp only [planB] at hB
    split at hB
    · rename_i s' hs
      simp only [Bool.and_eq_true, decide_eq_true_eq] at hB
      obtain ⟨hr, hB⟩ := hB
      have hmem : c ∈ Region.ready .any l.toArray s' := by rw [hr]; simp
      obtain ⟨-, o, ho, -⟩ := mem_ready.1 hmem
      have ho' : l[c]? = some o := by simpa using ho
      have H : ∀ (m : List Oper) (a : Act), wpQuiet P l.toArray S (fun a' => ∀ o, l[c]? = some o → ∀ K : Act → World → Prop, Shut (∀ a w, S w → walkC P l Q S r fin a w → K a w) →
          if Region.wanted o (yielded l.toArray a'.tmps) = true then Oper.wp P o a' w K Q else K (a'.put o.dst undef) w) m a → wpQuiet P l.toArray S (fun a' => wpAnyH P .any l.toArray Q S ((r.map fun x => x.1.length + 1).sum + fin.length + fuel + 1) s' a' w) m a := by
        intro m
        induction m with
        | nil =>
          intro a h
          refine wpAnyH_ready hr (by simp) (AllReadyH.cons ho (fun K hK => h o ho' K (fun a w hS hW => hK a w hS (fun hS => walkC_wp hsel hQ fin r _ a w hS hB hW fuel))) AllReadyH.nil)
        | cons o m ih =>
          intro a h
          simp only [wpQuiet] at h ⊢
          split
          · rename_i hw
            rw [if_pos hw] at h
            obtain ⟨v, h1, h2⟩ := h
            exact ⟨v, h1, ih _ h2⟩
          · rename_i hw
            rw [if_neg hw] at h
            exact ih _ h
      have := takes_list hsel hQ hS _ is s s' a hs (H _ _ h)
      rw [List.map_cons, List.sum_cons]
      rwa [show is.length + 1 + (r.map fun x => x.1.length + 1).sum + fin.length + fuel = (r.map fun x => x.1.length + 1).sum + fin.length + fuel + 1 + is.length by omega]
    · cases hB
end

/-- The region; what stands in later worlds of w stands all along. -/
theorem wp_region_calls {P : Program} {id : Nat} {Q : Exit → Act → World → Prop} {a : Act} {w : World} {l : List Oper} (plan : List (List Nat × Nat)) (fin : List Nat) (hm : P.follows .mixedOrders = true) (hB : planOk l plan fin = true)
    (hn : l.length = (plan.map fun x => x.1.length + 1).sum + fin.length) (hQ : ∀ c (a : Act) d v w, Q (.panic c) (a.put d v) w → Q (.panic c) a w)
    (h : walkC P l Q (fun w' => ∃ u : Later w, w' = u.now) plan fin a w.drew) : (Code.region id l.toArray true).wp P Q a w := by
  simp only [planOk, Bool.and_eq_true] at hB
  have hS : (fun w' => ∃ u : Later w, w' = u.now) w.drew := ⟨⟨_, up_drew (Below.refl _ _)⟩, rfl⟩
  refine wp_region_held_drew (S := fun w' => ∃ u : Later w, w' = u.now) hm hS fun _ => ?_
  have := walkC_wp (S := fun w' => ∃ u : Later w, w' = u.now) hB.1 hQ fin plan _ a w.drew hS hB.2 h 0
  rw [Nat.add_zero, ← hn] at this
  simpa using this
end Go.Proofs.YtbfigaadbfggcaaGreatDoor
/- The walk of CallOrder, where the region also stores: what one block's cells hold stands all along. -/
namespace Go.Proofs.YtbfigaadbfggcaaGreatDoor
open Go.RowKit
set_option linter.unusedVariables false

/-- A world in which the cells of block B hold what they held. -/
structure Held (B : Nat) (w : World) where
  now : World
  kept : ∀ p : Addr, p.block = B → ∀ v, w.cell? p = some v → now.cell? p = some v
instance (B : Nat) (w : World) : Nonempty (Held B w) := ⟨⟨w, fun _ _ _ h => h⟩⟩
theorem Held.cell {B o : Nat} {w : World} {v : Value} (u : Held B w) (h : w.cell? ⟨B, o, none⟩ = some v) : u.now.cell? ⟨B, o, none⟩ = some v := u.kept _ rfl _ h
theorem held_refl (B : Nat) (w : World) : ∃ u : Held B w, w = u.now := ⟨⟨w, fun _ _ _ h => h⟩, rfl⟩
theorem held_drew (B : Nat) (w : World) : ∃ u : Held B w, w.drew = u.now := ⟨⟨w.drew, fun _ _ _ h => h⟩, rfl⟩
theorem held_up {B : Nat} {w w' : World} (h : Below w.heap.size w w') : ∃ u : Held B w, w' = u.now := ⟨⟨w', fun _ _ _ hv => bl_cell h hv⟩, rfl⟩
/-- Another block is stored to. -/
theorem held_sets {B B' : Nat} {w w' : World} (h : Below w.heap.size w w') (hB : B ≠ B') (o : Nat) (vs : List Value) : ∃ u : Held B w, w'.setCells B' o vs = u.now := ⟨⟨_, fun p hp v hv => by
  rw [World.cell?_setCells_out B' vs o w' p (fun e _ => absurd (hp.symm.trans e) hB)]
  exact bl_cell h hv⟩, rfl⟩
theorem held_range {w : World} {B : Nat} {cs : List Value} (h : Bx w B cs) : ∀ w', (∃ u : Held B w, w' = u.now) → w'.rangeAt B 0 cs := by
  rintro _ ⟨u, rfl⟩ j v hj
  exact u.kept _ rfl _ (by simpa using h.cell j hj)

/-- The region; S stands all along. -/
theorem wp_region_callsS {P : Program} {id : Nat} {Q : Exit → Act → World → Prop} {a : Act} {w : World} {l : List Oper} (S : World → Prop) (plan : List (List Nat × Nat)) (fin : List Nat) (hm : P.follows .mixedOrders = true) (hB : planOk l plan fin = true)
    (hn : l.length = (plan.map fun x => x.1.length + 1).sum + fin.length) (hQ : ∀ c (a : Act) d v w, Q (.panic c) (a.put d v) w → Q (.panic c) a w)
    (hS : S w.drew) (h : walkC P l Q S plan fin a w.drew) : (Code.region id l.toArray true).wp P Q a w := by
  simp only [planOk, Bool.and_eq_true] at hB
  refine wp_region_held_drew (S := S) hm hS fun _ => ?_
  have := walkC_wp (S := S) hB.1 hQ fin plan _ a w.drew hS hB.2 h 0
  rw [Nat.add_zero, ← hn] at this
  simpa using this
end Go.Proofs.YtbfigaadbfggcaaGreatDoor
/- Lists of numbers, as they come in and as a deck keeps them; what a call leaves as it was. -/
namespace Go.Proofs.YtbfigaadbfggcaaGreatDoor
open Go.RowKit
set_option linter.unusedVariables false

theorem Tryz.infoInt : (Tryz.prog.info? 3).map (fun i => (i.zero, i.size, i.bytes)) = some (some (.int .i64 0), 1, 8) := by kernel_rfl
/-- The numbers as cells. -/
def enc (l : List Int) : List Value := l.map (Value.int .i64)
theorem enc_length (l : List Int) : (enc l).length = l.length := by simp [enc]
theorem enc_get {l : List Int} {j : Nat} {u : Value} (h : (enc l)[j]? = some u) : ∃ x, l[j]? = some x ∧ u = .int .i64 x := by
  simp [enc] at h
  obtain ⟨x, h1, h2⟩ := h
  exact ⟨x, h1, h2.symm⟩
theorem enc_one {l : List Int} : ∀ u ∈ enc l, u.oneCell' = true := by
  intro u hu
  obtain ⟨x, _, rfl⟩ := List.mem_map.1 hu
  rfl
theorem enc_append (l m : List Int) : enc (l ++ m) = enc l ++ enc m := by simp [enc]

/-- The numbers of a slice that lies at a. -/
def Nums (w : World) (a : Option Addr) (l : List Int) : Prop := l = [] ∨ ∃ b off, a = some ⟨b, off, none⟩ ∧ ∀ j x, l[j]? = some x → w.cell? ⟨b, off + j, none⟩ = some (.int .i64 x)
theorem Nums.nil {w : World} {a : Option Addr} : Nums w a [] := .inl rfl
theorem Nums.up {w w' : World} {a : Option Addr} {l : List Int} (h : Nums w a l) (hb : Below w.heap.size w w') : Nums w' a l := by
  rcases h with h | ⟨b, off, e, h⟩
  · exact .inl h
  · exact .inr ⟨b, off, e, fun j x hx => bl_cell hb (h j x hx)⟩
theorem Nums.take {w : World} {a : Option Addr} {l : List Int} (h : Nums w a l) (k : Nat) : Nums w a (l.take k) := by
  rcases h with rfl | ⟨b, off, e, h⟩
  · exact .inl (by simp)
  · refine .inr ⟨b, off, e, fun j x hx => h j x ?_⟩
    rw [List.getElem?_take] at hx
    split at hx
    · exact hx
    · cases hx
theorem Nums.drop {w : World} {b off : Nat} {l : List Int} (h : Nums w (some ⟨b, off, none⟩) l) (k : Nat) : Nums w (some ⟨b, off + k, none⟩) (l.drop k) := by
  rcases h with rfl | ⟨b', off', e, h⟩
  · exact .inl (by simp)
  · cases e
    refine .inr ⟨b, off + k, rfl, fun j x hx => ?_⟩
    rw [List.getElem?_drop] at hx
    rw [Nat.add_assoc]
    exact h _ x hx
theorem Nums.cell {w : World} {a : Option Addr} {l : List Int} (h : Nums w a l) (hl : 0 < l.length) : ∃ b off, a = some ⟨b, off, none⟩ ∧ ∀ j x, l[j]? = some x → w.cell? ⟨b, off + j, none⟩ = some (.int .i64 x) := by
  rcases h with rfl | h
  · simp at hl
  · exact h
/-- A list of the call's own, as any list. -/
theorem Nums.own {w : World} {base : Nat} {v : Value} {l : List Int} (h : w.ownsRow base 3 1 v l.length (enc l)) : ∃ a c, v = .slice a l.length c ∧ Nums w a l ∧ (∀ p, a = some p → p.block < w.heap.size ∧ base ≤ p.block) := by
  rcases h.2 with ⟨rfl, h0⟩ | ⟨g, cap, cur, rfl, hb, hg, hcap, hmax, hsz, htk⟩
  · exact ⟨none, 0, by rw [h0], .inl (List.eq_nil_of_length_eq_zero h0), fun p hp => by cases hp⟩
  · refine ⟨some ⟨g, 0, none⟩, cap, rfl, .inr ⟨g, 0, rfl, fun j x hx => ?_⟩, fun p hp => by cases hp; exact ⟨(Array.getElem?_eq_some_iff.1 hg).1, hb⟩⟩
    have := h.cells (g := g) rfl j (.int .i64 x) (by simp [enc, hx])
    rwa [show (⟨g, 0, none⟩ : Addr).add j = ⟨g, 0 + j, none⟩ by unfold Addr.add; split <;> simp_all] at this

theorem Nums.but {D R : Nat} {w w' : World} {a : Option Addr} {l : List Int} (h : Nums w a l) (hb : But D R w w') (hn : ∀ p, a = some p → p.block ≠ D ∧ p.block ≠ R) : Nums w' a l := by
  rcases h with h | ⟨b, off, rfl, h⟩
  · exact .inl h
  · obtain ⟨h1, h2⟩ := hn _ rfl
    exact .inr ⟨b, off, rfl, fun j x hx => (World.cell?_of_block (hb.block b (World.block_lt_of_cell? w _ (h j x hx)) h1 h2)).trans (h j x hx)⟩

/-- v is a slice of numbers that may be written, and grows as far as its block goes: it lies in R (a nil one lies nowhere). -/
def RowAt (w : World) (R : Nat) (v : Value) (l : List Int) : Prop :=
  (v = .slice none 0 0 ∧ l = []) ∨ ∃ off c cur, v = .slice (some ⟨R, off, none⟩) l.length c ∧ w.heap[R]? = some (.cells cur 3 (0, 0)) ∧ l.length ≤ c ∧ c ≤ maxLen ∧ off + c ≤ cur.size ∧ ∀ j x, l[j]? = some x → w.cell? ⟨R, off + j, none⟩ = some (.int .i64 x)
theorem RowAt.kept {w w' : World} {R : Nat} {v : Value} {l : List Int} (h : RowAt w R v l) (hb : R < w.heap.size → w'.heap[R]? = w.heap[R]?) : RowAt w' R v l := by
  rcases h with h | ⟨off, c, cur, hv, hc, h1, h2, h3, h4⟩
  · exact .inl h
  · have e := hb (Array.getElem?_eq_some_iff.1 hc).1
    exact .inr ⟨off, c, cur, hv, e.trans hc, h1, h2, h3, fun j x hx => (World.cell?_of_block (a := ⟨R, off + j, none⟩) e).trans (h4 j x hx)⟩
theorem RowAt.nums {w : World} {R : Nat} {v : Value} {l : List Int} (h : RowAt w R v l) : ∃ a c, v = .slice a l.length c ∧ Nums w a l ∧ l.length ≤ c ∧ c ≤ maxLen := by
  rcases h with ⟨rfl, rfl⟩ | ⟨off, c, cur, rfl, hc, h1, h2, h3, h4⟩
  · exact ⟨none, 0, rfl, .inl rfl, Nat.le_refl _, Nat.zero_le _⟩
  · exact ⟨_, c, rfl, .inr ⟨R, off, rfl, h4⟩, h1, h2⟩
theorem RowAt.of {w : World} {base : Nat} {v : Value} {l : List Int} (h : w.ownsRow base 3 1 v l.length (enc l)) (D : Nat) : ∃ R, RowAt w R v l ∧ ((v = .slice none 0 0 ∧ R = D) ∨ (base ≤ R ∧ R < w.heap.size ∧ v ≠ .slice none 0 0)) := by
  obtain ⟨a, c, e, hn, _⟩ := Nums.own h
  rcases h.2 with ⟨rfl, h0⟩ | ⟨g, cap, cur, rfl, hb, hg, hcap, hmax, hsz, htk⟩
  · exact ⟨D, .inl ⟨rfl, List.eq_nil_of_length_eq_zero h0⟩, .inl ⟨rfl, rfl⟩⟩
  · refine ⟨g, .inr ⟨0, cap, cur, rfl, hg, hcap, hmax, by omega, ?_⟩, .inr ⟨hb, (Array.getElem?_eq_some_iff.1 hg).1, by simp⟩⟩
    intro j x hx
    rcases hn with h0 | ⟨b, off, e1, h1⟩
    · rw [h0] at hx; simp at hx
    · cases e
      cases e1
      exact h1 j x hx
end Go.Proofs.YtbfigaadbfggcaaGreatDoor
/- What the reference's comparison of two lists of numbers answers, of a list twice. -/
namespace Go.Proofs.YtbfigaadbfggcaaGreatDoor
open Go.RowKit
set_option linter.unusedVariables false


end Go.Proofs.YtbfigaadbfggcaaGreatDoor
/- A job's numbers by the reference: all of them, from what to what they may be. -/
namespace Go.Proofs.YtbfigaadbfggcaaGreatDoor
open Go.RowKit
set_option linter.unusedVariables false

end Go.Proofs.YtbfigaadbfggcaaGreatDoor
/- A cheaper check that a great region's head may be walked in the order of the text, its tail in one forced order. -/
namespace Go.Proofs.YtbfigaadbfggcaaGreatDoor
set_option linter.unusedVariables false
set_option linter.unnecessarySimpa false

/-- What counts of an operation: its slot, what it looks at, what it waits for. -/
abbrev Tr := Option Nat × List Nat × List Nat
def tripOf (ops : Array Oper) (o : Oper) : Tr := (o.dst, o.looksAt ops, (o.after.toList.filter (Region.binds .any)).map (·.on))
def apartT (t s : Tr) : Bool :=
  (match t.1 with | some d => !s.2.1.contains d && s.1 != some d | none => true) && (match s.1 with | some d => !t.2.1.contains d | none => true)
def backT : Nat → List Tr → Bool
  | _, [] => true
  | k, t :: r => t.2.2.all (fun j => decide (j < k)) && backT (k + 1) r
def freeT : Nat → Nat → List Tr → Bool
  | 0, _, _ => true
  | _, _, [] => true
  | f + 1, k, t :: r => r.all (fun s => s.2.2.contains k || apartT t s) && freeT f (k + 1) r
def chainT : Nat → List Tr → Bool
  | _, [] => true
  | k, t :: r => t.2.2.contains (k - 1) && chainT (k + 1) r
def sinkT (T : List Tr) (n : Nat) : Bool := (List.range n).all fun i => T.any fun t => t.2.2.contains i
def quickT (T : List Tr) (n : Nat) : Bool := decide (n < T.length) && backT 0 T && freeT n 0 T && sinkT (T.take (n + 1)) n && chainT (n + 1) (T.drop (n + 1))
def forceN {β : Type} : List Nat → (List Nat → β) → β
  | [], k => k []
  | x :: xs, k => forceN xs fun ys => k (x :: ys)
theorem forceN_eq {β : Type} (l : List Nat) (k : List Nat → β) : forceN l k = k l := by
  induction l generalizing k with
  | nil => rfl
  | cons x xs ih => simp only [forceN, ih]
def forceT {β : Type} : List Tr → (List Tr → β) → β
  | [], k => k []
  | x :: xs, k => forceN x.2.1 fun a => forceN x.2.2 fun b => forceT xs fun ys => k ((x.1, a, b) :: ys)
theorem forceT_eq {β : Type} (l : List Tr) (k : List Tr → β) : forceT l k = k l := by
  induction l generalizing k with
  | nil => rfl
  | cons x xs ih => simp only [forceT, forceN_eq, ih]
def quickB (l : List Oper) (n : Nat) : Bool := Region.noSelect l.toArray && forceT (l.map (tripOf l.toArray)) fun T => quickT T n

theorem backT_spec : ∀ (T : List Tr) (k : Nat), backT k T = true → ∀ i t, T[i]? = some t → ∀ j ∈ t.2.2, j < k + i
  | [], _, _, i, t, ht, _, _ => by simp at ht
  | t0 :: r, k, h, i, t, ht, j, hj => by
    simp only [backT, Bool.and_eq_true, List.all_eq_true, decide_eq_true_eq] at h
    cases i with
    | zero => simp only [List.getElem?_cons_zero, Option.some.injEq] at ht; subst ht; exact h.1 j hj
    | succ i => have := backT_spec r (k + 1) h.2 i t (by simpa using ht) j hj; omega
theorem freeT_spec : ∀ (f : Nat) (T : List Tr) (k : Nat), freeT f k T = true → ∀ i t, i < f → T[i]? = some t → ∀ j s, i < j → T[j]? = some s → (s.2.2.contains (k + i) || apartT t s) = true
  | 0, _, _, _, i, _, hi, _, _, _, _, _ => by omega
  | f + 1, [], _, _, i, t, _, ht, _, _, _, _ => by simp at ht
  | f + 1, t0 :: r, k, h, i, t, hi, ht, j, s, hij, hs => by
    simp only [freeT, Bool.and_eq_true, List.all_eq_true] at h
    obtain ⟨j, rfl⟩ : ∃ m, j = m + 1 := ⟨j - 1, by omega⟩
    simp only [List.getElem?_cons_succ] at hs
    cases i with
    | zero =>
      simp only [List.getElem?_cons_zero, Option.some.injEq] at ht
      subst ht
      exact h.1 s (List.mem_of_getElem? hs)
    | succ i =>
      have := freeT_spec f r (k + 1) h.2 i t (by omega) (by simpa using ht) j s (by omega) hs
      rwa [show k + (i + 1) = k + 1 + i by omega]
theorem chainT_spec : ∀ (T : List Tr) (k : Nat), chainT k T = true → ∀ (i : Nat) (t : Tr), T[i]? = some t → t.2.2.contains (k + i - 1) = true
  | [], _, _, i, t, ht => by simp at ht
  | t0 :: r, k, h, i, t, ht => by
    simp only [chainT, Bool.and_eq_true] at h
    cases i with
    | zero => simp only [List.getElem?_cons_zero, Option.some.injEq] at ht; subst ht; simpa using h.1
    | succ i =>
      have := chainT_spec r (k + 1) h.2 i t (by simpa using ht)
      rwa [show k + (i + 1) - 1 = k + 1 + i - 1 by omega]

section
variable {l : List Oper}
theorem trip_waits {o : Oper} {i : Nat} : (tripOf l.toArray o).2.2.contains i = true ↔ ∃ e ∈ o.after, Region.binds .any e = true ∧ e.on = i := by
  simp only [tripOf, List.contains_iff_mem, List.mem_map, List.mem_filter, Array.mem_toList_iff]
  exact ⟨fun ⟨e, ⟨h1, h2⟩, h3⟩ => ⟨e, h1, h2, h3⟩, fun ⟨e, h1, h2, h3⟩ => ⟨e, ⟨h1, h2⟩, h3⟩⟩
theorem trip_any {o : Oper} {i : Nat} (h : (tripOf l.toArray o).2.2.contains i = true) : (o.after.any fun e => Region.binds .any e && e.on == i) = true := by
  obtain ⟨e, he, hb, rfl⟩ := trip_waits.1 h
  exact Array.any_eq_true'.2 ⟨e, he, by simp [hb]⟩
theorem trip_at {i : Nat} {o : Oper} (h : l[i]? = some o) : (l.map (tripOf l.toArray))[i]? = some (tripOf l.toArray o) := by
  rw [List.getElem?_map, h]; rfl

/-- The first k operations are listed. -/
def Upto (l : List Oper) (k : Nat) (s : Array Bool) : Prop := s.size = l.length ∧ ∀ j, j < l.length → s[j]? = some (decide (j < k))
theorem Upto.getD {k : Nat} {s : Array Bool} (h : Upto l k s) {j : Nat} (hj : j < l.length) (b : Bool) : s.getD j b = decide (j < k) := by
  rw [Array.getD_eq_getD_getElem?, h.2 j hj]; rfl
theorem Upto.next {k : Nat} {s : Array Bool} (h : Upto l k s) : Upto l (k + 1) (s.setIfInBounds k true) := by
  refine ⟨by rw [Array.size_setIfInBounds]; exact h.1, fun j hj => ?_⟩
  rw [Array.getElem?_setIfInBounds]
  by_cases e : k = j
  · subst e
    have : k < s.size := by rw [h.1]; exact hj
    simp [this]
  · rw [if_neg e, h.2 j hj]
    congr 1
    by_cases hk : j < k
    · simp [hk]; omega
    · have h1 : ¬ j < k + 1 := by omega
      simp [hk, h1]

theorem quick_ready {k : Nat} {s : Array Bool} (h : Upto l k s) {o : Oper} (ho : l[k]? = some o) (hb : ∀ j ∈ (tripOf l.toArray o).2.2, j < k) : k ∈ Region.ready .any l.toArray s := by
  have hk : k < l.length := (List.getElem?_eq_some_iff.1 ho).1
  rw [mem_ready]
  refine ⟨by rw [h.getD hk]; simp, o, by simpa using ho, fun e he hbind => ?_⟩
  have hlt : e.on < k := hb e.on (List.contains_iff_mem.1 (trip_waits.2 ⟨e, he, hbind, rfl⟩))
  rw [h.getD (by omega)]
  simpa using hlt
theorem quick_free {k : Nat} {s : Array Bool} (h : Upto l k s) {o : Oper} (ho : l[k]? = some o)
    (hf : ∀ j p, k < j → l[j]? = some p → ((tripOf l.toArray p).2.2.contains k || apartT (tripOf l.toArray o) (tripOf l.toArray p)) = true) : Region.free .any l.toArray s k = true := by
  have ho' : l.toArray[k]? = some o := by simpa using ho
  unfold Region.free
  rw [ho']
  simp only [List.all_eq_true, List.mem_range, List.size_toArray]
  intro j hj
  by_cases e : j = k
  · simp [e]
  · by_cases hk : j < k
    · rw [h.getD hj]; simp [hk]
    · have hp : l[j]? = some l[j] := List.getElem?_eq_getElem hj
      have hp' : l.toArray[j]? = some l[j] := by simpa using hp
      have := hf j _ (by omega) hp
      rw [hp']
      simp only [Bool.or_eq_true] at this ⊢
      rcases this with hw | ha
      · exact .inr (.inl (trip_any hw))
      · exact .inr (.inr ha)
end

theorem filter_one {n k : Nat} (p : Nat → Bool) (hk : k < n) (h : ∀ j, j < n → (p j = true ↔ j = k)) : (List.range n).filter p = [k] := by
  have : (List.range n).filter p = (List.range n).filter (· == k) := by
    apply List.filter_congr
    intro j hj
    have := h j (List.mem_range.1 hj)
    by_cases e : j = k
    · simp [e, (h k hk).2 rfl]
    · have : p j = false := by cases hp : p j with | false => rfl | true => exact absurd (this.1 hp) e
      simp [this, e]
  rw [this, List.filter_beq, List.nodup_range.count, if_pos (List.mem_range.2 hk)]
  rfl

theorem lexTail_quick {l : List Oper} {n : Nat} (h : quickB l n = true) : Region.lexTailB .any l.toArray n = true := by
  simp only [quickB, forceT_eq, quickT, Bool.and_eq_true, decide_eq_true_eq, List.length_map] at h
  obtain ⟨hsel, ⟨⟨⟨hn, hback⟩, hfree⟩, hsink⟩, hchain⟩ := h
  have Hb : ∀ k o, l[k]? = some o → ∀ j ∈ (tripOf l.toArray o).2.2, j < k := fun k o ho j hj => by
    have := backT_spec _ 0 hback k _ (trip_at ho) j hj
    omega
  have Hf : ∀ k o, k < n → l[k]? = some o → ∀ j p, k < j → l[j]? = some p → ((tripOf l.toArray p).2.2.contains k || apartT (tripOf l.toArray o) (tripOf l.toArray p)) = true := fun k o hk ho j p hj hp => by
    have := freeT_spec n _ 0 hfree k _ hk (trip_at ho) j _ hj (trip_at hp)
    rwa [Nat.zero_add] at this
  have Hc : ∀ t o, n < t → l[t]? = some o → (tripOf l.toArray o).2.2.contains (t - 1) = true := fun t o ht ho => by
    have := chainT_spec _ (n + 1) hchain (t - (n + 1)) (tripOf l.toArray o) (by rw [List.getElem?_drop, show n + 1 + (t - (n + 1)) = t by omega]; exact trip_at ho)
    rwa [show n + 1 + (t - (n + 1)) - 1 = t - 1 by omega] at this
  have Hs : ∀ i, i < n → ∃ j o, i < j ∧ j ≤ n ∧ l[j]? = some o ∧ (tripOf l.toArray o).2.2.contains i = true := fun i hi => by
    simp only [sinkT, List.all_eq_true, List.mem_range, List.any_eq_true] at hsink
    obtain ⟨t, ht, hc⟩ := hsink i hi
    obtain ⟨j, hj⟩ := List.getElem?_of_mem ht
    rw [List.getElem?_take] at hj
    split at hj
    · rename_i hjn
      rw [List.getElem?_map, Option.map_eq_some_iff] at hj
      obtain ⟨o, ho, rfl⟩ := hj
      exact ⟨j, o, Hb j o ho i (List.contains_iff_mem.1 hc), by omega, ho, hc⟩
    · cases hj
  have hsz : l.toArray.size = l.length := by simp
  simp only [Region.lexTailB, Bool.and_eq_true, decide_eq_true_eq]
  refine ⟨⟨⟨⟨hsel, by rw [hsz]; exact hn⟩, ?_⟩, ?_⟩, ?_⟩
  · simp only [Region.sinkB, List.all_eq_true, List.mem_range, List.any_eq_true, Bool.and_eq_true, decide_eq_true_eq]
    intro i hi
    obtain ⟨j, o, hij, hjn, ho, hc⟩ := Hs i hi
    refine ⟨j, by omega, hij, ?_⟩
    unfold Region.waitsFor
    rw [show l.toArray[j]? = some o by simpa using ho]
    exact trip_any hc
  · simp only [Region.chainB, List.all_eq_true, List.mem_range, Bool.or_eq_true, decide_eq_true_eq]
    intro t ht
    by_cases hle : t ≤ n
    · exact .inl hle
    · right
      rw [hsz] at ht
      have ho := List.getElem?_eq_getElem ht
      unfold Region.waitsFor
      rw [show l.toArray[t]? = some l[t] by simpa using ho]
      exact trip_any (Hc t _ (by omega) ho)
  · have hseq : ∀ g k s, Upto l k s → n ≤ k → k + g = l.length → Region.seqB .any l.toArray g k s = true := by
      intro g
      induction g with
      | zero =>
        intro k s hu hk hg
        simp only [Region.seqB, List.isEmpty_iff]
        apply List.eq_nil_iff_forall_not_mem.2
        intro j hj
        obtain ⟨h1, o, ho, -⟩ := mem_ready.1 hj
        have hj' : j < l.length := by have := (Array.getElem?_eq_some_iff.1 ho).1; simpa using this
        rw [hu.getD hj'] at h1
        simp only [decide_eq_false_iff_not] at h1
        omega
      | succ g ih =>
        intro k s hu hk hg
        simp only [Region.seqB, Bool.and_eq_true, decide_eq_true_eq]
        refine ⟨?_, ih (k + 1) _ hu.next (by omega) (by omega)⟩
        have hkl : k < l.length := by omega
        have hok := List.getElem?_eq_getElem hkl
        unfold Region.ready
        rw [hsz]
        apply filter_one _ hkl
        intro j hj
        have e : (!s.getD j true && ((l.toArray[j]?).map (·.after.all fun e => !Region.binds .any e || s.getD e.on false)).getD false) = true ↔ j ∈ Region.ready .any l.toArray s := by
          unfold Region.ready
          rw [List.mem_filter, List.mem_range, hsz]
          exact ⟨fun h => ⟨hj, h⟩, fun h => h.2⟩
        rw [e]
        constructor
        · intro hr
          obtain ⟨h1, o, ho, h2⟩ := mem_ready.1 hr
          rw [hu.getD hj] at h1
          simp only [decide_eq_false_iff_not] at h1
          by_cases ejk : j = k
          · exact ejk
          · have hjo : l[j]? = some o := by simpa using ho
            obtain ⟨x, hx, hbx, hon⟩ := trip_waits.1 (Hc j o (by omega) hjo)
            have h3 := h2 x hx hbx
            rw [hu.getD (by omega)] at h3
            simp only [decide_eq_true_eq] at h3
            omega
        · rintro rfl
          exact quick_ready hu hok (Hb _ _ hok)
    have hhead : ∀ f k s, Upto l k s → k + f = n → Region.lexHead .any l.toArray (l.length - n) f k s = true := by
      intro f
      induction f with
      | zero =>
        intro k s hu hk
        simp only [Region.lexHead]
        exact hseq _ k s hu (by omega) (by omega)
      | succ f ih =>
        intro k s hu hk
        have hkl : k < l.length := by omega
        have hok := List.getElem?_eq_getElem hkl
        simp only [Region.lexHead, Bool.and_eq_true]
        exact ⟨⟨List.contains_iff_mem.2 (quick_ready hu hok (Hb _ _ hok)), quick_free hu hok (fun j p hj hp => Hf k _ (by omega) hok j p hj hp)⟩, ih (k + 1) _ hu.next (by omega)⟩
    rw [hsz]
    exact hhead n 0 _ ⟨by simp, fun j hj => by simp [hj]⟩ (by omega)
end Go.Proofs.YtbfigaadbfggcaaGreatDoor
