/- Part 2 of the texts that the proofs of this seat share: StepAll, SchemeCode, Shelf, DecPut, DecMath, DecRef, DecCode, DecIn, WordsCode, Texts. -/
import Derived.Test.YtcjnhgafifkfeaaDoorPart1
import Derived.Shelf.Strconv.Itoa3
import Derived.Shelf.Strconv.ErrVarAll
import Derived.Shelf.Small.Wraps
import Derived.Shelf.Strings.Split
import Derived.Shelf.Strings.Cut
import Derived.Test.YtcjnhgafifkfeaaDoorProg
import Derived.Lib.AppendIntMem
import Derived.Lib.Hide
import Derived.Lib.ItoaNum
import Derived.Lib.AtoiAllCases
import Derived.WalkKit
import Derived.BigCall
import Derived.BigGuard
import Derived.Below
import Derived.Lib.Walk
import Derived.Laws.DeepStrings4
import Derived.Laws.Concat
import Derived.Lib.AtoiErrMem
import Derived.Deep.AppendLies
import Derived.OwnWalk
import Derived.Laws.OwnMore
import Derived.Laws.IdiomStrings
import Derived.Laws.BytesArg
import Derived.IntWalk
/- What step.All and the document's own After answer, for every list of steps that came in. -/
namespace Go.Proofs.YtcjnhgafifkfeaaDoor
open Go.RowKit
set_option linter.unusedVariables false

/-- Steps one behind the other. -/
def allM : Int → Int → List Sp → Int × Int × Bool
  | c, r, [] => (c, r, true)
  | c, r, p :: l => if (aft c r p.d p.n).2.2 = true then allM (aft c r p.d p.n).1 (aft c r p.d p.n).2.1 l else (0, 0, false)
def allS (c r : Int) (l : List Sp) : Int × Int × Bool := if 1 ≤ c ∧ 1 ≤ r then allM c r l else (0, 0, false)
theorem allM_yes {c r c' r' : Int} {p : Sp} {l : List Sp} (h : aft c r p.d p.n = (c', r', true)) : allM c r (p :: l) = allM c' r' l := by simp [allM, h]
theorem allM_no {c r : Int} {p : Sp} {l : List Sp} (h : aft c r p.d p.n = (0, 0, false)) : allM c r (p :: l) = (0, 0, false) := by simp [allM, h]
theorem allS_one (c r : Int) (p : Sp) : allS c r [p] = aft c r p.d p.n := by
  unfold allS
  by_cases h : (aft c r p.d p.n).2.2 = true
  · obtain ⟨⟨h0, _⟩, h1⟩ := aft_yes h
    rw [if_pos h0]
    rcases h1 with ⟨_, _, e⟩ | ⟨_, _, e⟩
    all_goals rw [allM_yes (e), allM, e]
  · have h := aft_no (by simpa using h)
    rw [allM_no h, h]
    split <;> rfl

/-- The steps that came in lie at block b, from off on. -/
def InS (w : World) (b off : Nat) (l : List Sp) : Prop := ∀ j p, l[j]? = some p → w.cell? ⟨b, off + j * 3, none⟩ = some (.int .i64 p.d) ∧ w.cell? ⟨b, off + j * 3 + 1, none⟩ = some (.int .i64 p.n) ∧ w.cell? ⟨b, off + j * 3 + 2, none⟩ = some (.bool p.u)
theorem InS.up {w w' : World} {b off : Nat} {l : List Sp} (h : InS w b off l) (hb : Below w.heap.size w w') : InS w' b off l := fun j p hp => by
  obtain ⟨c0, c1, c2⟩ := h j p hp
  exact ⟨bl_cell hb c0, bl_cell hb c1, bl_cell hb c2⟩

def AllRel (l : List Sp) (F : Int × Int × Bool) (w : World) (x y i : Value) (wr : World) : Prop :=
  ∃ (k : Nat) (c r : Int), k ≤ l.length ∧ x = .int .i64 c ∧ y = .int .i64 r ∧ i = .int .i64 (k : Int) ∧ (1 ≤ c ∧ c ≤ 9223372036854775807) ∧ (1 ≤ r ∧ r ≤ 9223372036854775807) ∧ Hid (allM c r (l.drop k) = F) ∧ Below w.heap.size w wr

theorem drop_step {l : List Sp} {k : Nat} {p : Sp} (h : l[k]? = some p) : l.drop k = p :: l.drop (k + 1) := by
  obtain ⟨hlt, rfl⟩ := List.getElem?_eq_some_iff.1 h
  exact List.drop_eq_getElem_cons hlt
theorem aft_in {c r d n c' r' : Int} (h : aft c r d n = (c', r', true)) (c1 : c ≤ 9223372036854775807) (r1 : r ≤ 9223372036854775807) : (1 ≤ c' ∧ c' ≤ 9223372036854775807) ∧ 1 ≤ r' ∧ r' ≤ 9223372036854775807 := by
  obtain ⟨⟨h0, _⟩, h1⟩ := aft_yes (c := c) (r := r) (d := d) (n := n) (by rw [h])
  rcases h1 with ⟨_, _, e⟩ | ⟨_, _, e⟩
  all_goals
    rw [h] at e
    simp only [Prod.mk.injEq] at e
    omega

theorem aft_wrong {c r d n : Int} (h : rightB d n = false) : aft c r d n = (0, 0, false) := by unfold aft; rw [if_neg (by simp [h])]
theorem aft_col {c r d n : Int} (hc : 1 ≤ c) (hr : 1 ≤ r) (h : rightB d n = true) (hd : d ≤ 2) : aft c r d n = if 2 * n ≤ c then (c - n, r, true) else (0, 0, false) := by unfold aft; rw [if_pos ⟨⟨hc, hr⟩, h⟩, if_pos hd]
theorem aft_row {c r d n : Int} (hc : 1 ≤ c) (hr : 1 ≤ r) (h : rightB d n = true) (hd : ¬ d ≤ 2) : aft c r d n = if 2 * n ≤ r then (c, r - n, true) else (0, 0, false) := by unfold aft; rw [if_pos ⟨⟨hc, hr⟩, h⟩, if_neg hd]

end Go.Proofs.YtcjnhgafifkfeaaDoor
/- What the small calls of package scheme, and the document's own Panels, Fine, answer: for every scheme. -/
namespace Go.Proofs.YtcjnhgafifkfeaaDoor
open Go.RowKit
set_option linter.unusedVariables false

/-- How many panels there are. -/
def panM (c r : Int) : Int := if (sideB c && sideB r) = true then c * r else 0
theorem pan_in {c r : Int} (h : (sideB c && sideB r) = true) : 1 ≤ c * r ∧ c * r ≤ 4096 := by
  rw [Bool.and_eq_true] at h
  have h1 := sideB_true h.1
  have h2 := sideB_true h.2
  have h3 : c * r ≤ 64 * 64 := Int.mul_le_mul h1.2 h2.2 (by omega) (by omega)
  have h4 : 0 < c * r := Int.mul_pos (by omega) (by omega)
  omega

/-- Is a scheme right? -/
def rightM (s : Sc) : Bool := (decide (1 ≤ panM s.c s.r) && decide (panM s.c s.r ≤ 64)) && (decide (s.l.length ≤ 6) && ((allS s.c s.r s.l).2.2 && (((allS s.c s.r s.l).1 == 1) && ((allS s.c s.r s.l).2.1 == 1))))

theorem len6 (n : Nat) : decide ((6 : Int) < (n : Int)) = !decide (n ≤ 6) := by rw [Bool.eq_iff_iff]; simp; omega

/-- The steps of a scheme lie where its slice says. -/
def InL (w : World) (a : Option Addr) (l : List Sp) : Prop := l = [] ∨ ∃ b off, a = some ⟨b, off, none⟩ ∧ InS w b off l
theorem InL.up {w w' : World} {a : Option Addr} {l : List Sp} (h : InL w a l) (hb : Below w.heap.size w w') : InL w' a l := h.imp id fun ⟨b, off, e, h⟩ => ⟨b, off, e, h.up hb⟩

theorem len6' (n : Nat) : decide ((n : Int) ≤ (6 : Int)) = decide (n ≤ 6) := by rw [Bool.eq_iff_iff]; simp; omega
end Go.Proofs.YtcjnhgafifkfeaaDoor
/- The library's contracts at this program: each of the library's functions is compared, body by body, with the one that its contract was proved of. -/
namespace Go.Proofs
open Go.Shelf
def Tryd.lays104_ren : Go.Shelf.Ren := ⟨fun | 104 => 41 | 211 => 49 | 207 => 60 | n => n, fun | 9 => 9 | 4 => 4 | 24 => 75 | 3 => 3 | n => n, fun | n => n⟩
theorem Tryd.lays104 : Go.Proofs.Lays.n104 Tryd.prog Tryd.lays104_ren := {
  mixed := by kernel_rfl
  f104 := Tryd.func41.trans (congrArg some (by kernel_rfl))
  f207 := Tryd.func60.trans (congrArg some (by kernel_rfl))
  f211 := Tryd.func49.trans (congrArg some (by kernel_rfl))
  t3 := Tryd.underlying3
  a3 := Tryd.isAgg3
  z3 := Tryd.sizeOf3
  v3 := Tryd.zeroValue3
  t4 := Tryd.underlying4
  a4 := Tryd.isAgg4
  z4 := Tryd.sizeOf4
  v4 := Tryd.zeroValue4
  t9 := Tryd.underlying9
  a9 := Tryd.isAgg9
  z9 := Tryd.sizeOf9
  v9 := Tryd.zeroValue9
  t24 := Tryd.underlying75
  a24 := Tryd.isAgg75
  z24 := Tryd.sizeOf75
  v24 := Tryd.zeroValue75 }
open Go.RowKit in
theorem Tryd.strings_CutSuffix (s p : ByteArray) (w : World) (hs : s.size ≤ 9223372036854775807) :
    Calls Tryd.prog 41 #[.string s, .string p] w fun e w' => e = .returned (.tuple #[.string ⟨(Lib.trimSuffix s.data.toList p.data.toList).toArray⟩, .bool (Lib.hasSuffix s.data.toList p.data.toList)]) ∧ w' = w := Any.strings_CutSuffix Tryd.lays104 s p w hs
def Tryd.laysM171_ren : Go.Shelf.Ren := ⟨fun | 171 => 59 | 243 => 69 | 246 => 73 | 283 => 76 | 284 => 77 | 285 => 78 | 286 => 79 | 129 => 81 | 317 => 80 | 318 => 82 | 319 => 83 | 320 => 84 | 337 => 85 | 338 => 86 | n => n, fun | 3 => 3 | 9 => 9 | 2 => 2 | 4 => 4 | 171 => 120 | 0 => 0 | 53 => 106 | 37 => 96 | 5 => 5 | 173 => 123 | 212 => 126 | 51 => 92 | 20 => 20 | 213 => 127 | 46 => 90 | 232 => 130 | 233 => 131 | n => n, fun | 17 => 5 | 18 => 6 | 19 => 7 | n => n⟩
theorem Tryd.laysM171 : Go.Proofs.LaysM.n171 Tryd.prog Tryd.laysM171_ren := {
  mixed := by kernel_rfl
  f129 := Tryd.func81.trans (congrArg some (by kernel_rfl))
  f171 := Tryd.func59.trans (congrArg some (by kernel_rfl))
  f243 := Tryd.func69.trans (congrArg some (by kernel_rfl))
  f246 := Tryd.func73.trans (congrArg some (by kernel_rfl))
  f283 := Tryd.func76.trans (congrArg some (by kernel_rfl))
  f284 := Tryd.func77.trans (congrArg some (by kernel_rfl))
  f285 := Tryd.func78.trans (congrArg some (by kernel_rfl))
  f286 := Tryd.func79.trans (congrArg some (by kernel_rfl))
  f317 := Tryd.func80.trans (congrArg some (by kernel_rfl))
  f318 := Tryd.func82.trans (congrArg some (by kernel_rfl))
  f319 := Tryd.func83.trans (congrArg some (by kernel_rfl))
  f320 := Tryd.func84.trans (congrArg some (by kernel_rfl))
  f337 := Tryd.func85.trans (congrArg some (by kernel_rfl))
  f338 := Tryd.func86.trans (congrArg some (by kernel_rfl))
  t0 := Tryd.underlying0
  a0 := Tryd.isAgg0
  z0 := Tryd.sizeOf0
  v0 := Tryd.zeroValue0
  t2 := Tryd.underlying2
  a2 := Tryd.isAgg2
  z2 := Tryd.sizeOf2
  v2 := Tryd.zeroValue2
  t3 := Tryd.underlying3
  a3 := Tryd.isAgg3
  z3 := Tryd.sizeOf3
  v3 := Tryd.zeroValue3
  t4 := Tryd.underlying4
  a4 := Tryd.isAgg4
  z4 := Tryd.sizeOf4
  v4 := Tryd.zeroValue4
  t5 := Tryd.underlying5
  a5 := Tryd.isAgg5
  z5 := Tryd.sizeOf5
  v5 := Tryd.zeroValue5
  t9 := Tryd.underlying9
  a9 := Tryd.isAgg9
  z9 := Tryd.sizeOf9
  v9 := Tryd.zeroValue9
  t20 := Tryd.underlying20
  a20 := Tryd.isAgg20
  z20 := Tryd.sizeOf20
  v20 := Tryd.zeroValue20
  t37 := Tryd.underlying96
  a37 := Tryd.isAgg96
  z37 := Tryd.sizeOf96
  v37 := Tryd.zeroValue96
  t46 := Tryd.underlying90
  a46 := Tryd.isAgg90
  z46 := Tryd.sizeOf90
  v46 := Tryd.zeroValue90
  t51 := Tryd.underlying92
  a51 := Tryd.isAgg92
  z51 := Tryd.sizeOf92
  v51 := Tryd.zeroValue92
  t53 := Tryd.underlying106
  a53 := Tryd.isAgg106
  z53 := Tryd.sizeOf106
  v53 := Tryd.zeroValue106
  t171 := Tryd.underlying120
  a171 := Tryd.isAgg120
  z171 := Tryd.sizeOf120
  v171 := Tryd.zeroValue120
  t173 := Tryd.underlying123
  a173 := Tryd.isAgg123
  z173 := Tryd.sizeOf123
  v173 := Tryd.zeroValue123
  t212 := Tryd.underlying126
  a212 := Tryd.isAgg126
  z212 := Tryd.sizeOf126
  v212 := Tryd.zeroValue126
  t213 := Tryd.underlying127
  a213 := Tryd.isAgg127
  z213 := Tryd.sizeOf127
  t232 := Tryd.underlying130
  a232 := Tryd.isAgg130
  z232 := Tryd.sizeOf130
  v232 := Tryd.zeroValue130
  t233 := Tryd.underlying131
  a233 := Tryd.isAgg131
  z233 := Tryd.sizeOf131
  v233 := Tryd.zeroValue131
  g17 := by kernel_rfl
  g18 := by kernel_rfl
  g19 := by kernel_rfl
  i0 := by kernel_rfl
  i2 := by kernel_rfl
  i3 := by kernel_rfl
  i4 := by kernel_rfl
  i5 := by kernel_rfl
  i9 := by kernel_rfl
  i20 := by kernel_rfl
  i37 := by kernel_rfl
  i46 := by kernel_rfl
  i51 := by kernel_rfl
  i53 := by kernel_rfl
  i171 := by kernel_rfl
  i173 := by kernel_rfl
  i212 := by kernel_rfl
  i232 := by kernel_rfl
  i233 := by kernel_rfl
  m17 := by kernel_rfl
  m18 := by kernel_rfl
  m19 := by kernel_rfl }
open Go.RowKit Go.Sort Go.Lib in
theorem Tryd.strconv_Itoa (n : Int) (h0 : -9223372036854775808 ≤ n) (h1 : n ≤ 9223372036854775807) (w : World) (htab : Lib.TabIs Tryd.prog w "internal/strconv.uint64pow10" .u64 Lib.pow10Tab) :
    Calls Tryd.prog 59 #[.int .i64 n] w fun e w' => e = .returned (.string ⟨(Lib.itoa n).toArray⟩) ∧ ∃ k os, w' = grow (w.drewN k) os := Any.strconv_Itoa Tryd.laysM171 n h0 h1 w htab
def Tryd.laysC172_ren : Go.Shelf.Ren := ⟨fun | 172 => 46 | 244 => 57 | 245 => 58 | 247 => 64 | 279 => 65 | 280 => 66 | 281 => 67 | 282 => 68 | 287 => 70 | 316 => 71 | 171 => 59 | 205 => 72 | 321 => 74 | 322 => 75 | 243 => 69 | 246 => 73 | 283 => 76 | 284 => 77 | 285 => 78 | 286 => 79 | 129 => 81 | 317 => 80 | 318 => 82 | 319 => 83 | 320 => 84 | 337 => 85 | 338 => 86 | n => n, fun | 9 => 9 | 3 => 3 | 75 => 80 | 76 => 81 | 4 => 4 | 5 => 5 | 167 => 95 | 37 => 96 | 0 => 0 | 85 => 97 | 2 => 2 | 168 => 99 | 53 => 106 | 175 => 107 | 46 => 90 | 210 => 111 | 127 => 116 | 145 => 119 | 143 => 117 | 21 => 21 | 171 => 120 | 173 => 123 | 212 => 126 | 51 => 92 | 20 => 20 | 213 => 127 | 232 => 130 | 233 => 131 | 80 => 132 | n => n, fun | 15 => 3 | 16 => 4 | 17 => 5 | 18 => 6 | 19 => 7 | n => n⟩
theorem Tryd.laysC172 : Go.Proofs.LaysC.n172 Tryd.prog Tryd.laysC172_ren := {
  mixed := by kernel_rfl
  f129 := Tryd.func81.trans (congrArg some (by kernel_rfl))
  f171 := Tryd.func59.trans (congrArg some (by kernel_rfl))
  f172 := Tryd.func46.trans (congrArg some (by kernel_rfl))
  f205 := Tryd.func72.trans (congrArg some (by kernel_rfl))
  f243 := Tryd.func69.trans (congrArg some (by kernel_rfl))
  f244 := Tryd.func57.trans (congrArg some (by kernel_rfl))
  f245 := Tryd.func58.trans (congrArg some (by kernel_rfl))
  f246 := Tryd.func73.trans (congrArg some (by kernel_rfl))
  f247 := Tryd.func64.trans (congrArg some (by kernel_rfl))
  f279 := Tryd.func65.trans (congrArg some (by kernel_rfl))
  f280 := Tryd.func66.trans (congrArg some (by kernel_rfl))
  f281 := Tryd.func67.trans (congrArg some (by kernel_rfl))
  f282 := Tryd.func68.trans (congrArg some (by kernel_rfl))
  f283 := Tryd.func76.trans (congrArg some (by kernel_rfl))
  f284 := Tryd.func77.trans (congrArg some (by kernel_rfl))
  f285 := Tryd.func78.trans (congrArg some (by kernel_rfl))
  f286 := Tryd.func79.trans (congrArg some (by kernel_rfl))
  f287 := Tryd.func70.trans (congrArg some (by kernel_rfl))
  f316 := Tryd.func71.trans (congrArg some (by kernel_rfl))
  f317 := Tryd.func80.trans (congrArg some (by kernel_rfl))
  f318 := Tryd.func82.trans (congrArg some (by kernel_rfl))
  f319 := Tryd.func83.trans (congrArg some (by kernel_rfl))
  f320 := Tryd.func84.trans (congrArg some (by kernel_rfl))
  f321 := Tryd.func74.trans (congrArg some (by kernel_rfl))
  f322 := Tryd.func75.trans (congrArg some (by kernel_rfl))
  f337 := Tryd.func85.trans (congrArg some (by kernel_rfl))
  f338 := Tryd.func86.trans (congrArg some (by kernel_rfl))
  t0 := Tryd.underlying0
  a0 := Tryd.isAgg0
  z0 := Tryd.sizeOf0
  v0 := Tryd.zeroValue0
  t2 := Tryd.underlying2
  a2 := Tryd.isAgg2
  z2 := Tryd.sizeOf2
  v2 := Tryd.zeroValue2
  t3 := Tryd.underlying3
  a3 := Tryd.isAgg3
  z3 := Tryd.sizeOf3
  v3 := Tryd.zeroValue3
  t4 := Tryd.underlying4
  a4 := Tryd.isAgg4
  z4 := Tryd.sizeOf4
  v4 := Tryd.zeroValue4
  t5 := Tryd.underlying5
  a5 := Tryd.isAgg5
  z5 := Tryd.sizeOf5
  v5 := Tryd.zeroValue5
  t9 := Tryd.underlying9
  a9 := Tryd.isAgg9
  z9 := Tryd.sizeOf9
  v9 := Tryd.zeroValue9
  t20 := Tryd.underlying20
  a20 := Tryd.isAgg20
  z20 := Tryd.sizeOf20
  v20 := Tryd.zeroValue20
  t21 := Tryd.underlying21
  a21 := Tryd.isAgg21
  z21 := Tryd.sizeOf21
  v21 := Tryd.zeroValue21
  t37 := Tryd.underlying96
  a37 := Tryd.isAgg96
  z37 := Tryd.sizeOf96
  v37 := Tryd.zeroValue96
  t46 := Tryd.underlying90
  a46 := Tryd.isAgg90
  z46 := Tryd.sizeOf90
  v46 := Tryd.zeroValue90
  t51 := Tryd.underlying92
  a51 := Tryd.isAgg92
  z51 := Tryd.sizeOf92
  v51 := Tryd.zeroValue92
  t53 := Tryd.underlying106
  a53 := Tryd.isAgg106
  z53 := Tryd.sizeOf106
  v53 := Tryd.zeroValue106
  t75 := Tryd.underlying80
  a75 := Tryd.isAgg80
  z75 := Tryd.sizeOf80
  v75 := Tryd.zeroValue80
  t76 := Tryd.underlying81
  a76 := Tryd.isAgg81
  z76 := Tryd.sizeOf81
  v76 := Tryd.zeroValue81
  t85 := Tryd.underlying97
  a85 := Tryd.isAgg97
  z85 := Tryd.sizeOf97
  v85 := Tryd.zeroValue97
  t127 := Tryd.underlying116
  a127 := Tryd.isAgg116
  z127 := Tryd.sizeOf116
  v127 := Tryd.zeroValue116
  t143 := Tryd.underlying117
  a143 := Tryd.isAgg117
  z143 := Tryd.sizeOf117
  v143 := Tryd.zeroValue117
  t145 := Tryd.underlying119
  a145 := Tryd.isAgg119
  z145 := Tryd.sizeOf119
  v145 := Tryd.zeroValue119
  t167 := Tryd.underlying95
  a167 := Tryd.isAgg95
  z167 := Tryd.sizeOf95
  v167 := Tryd.zeroValue95
  t168 := Tryd.underlying99
  a168 := Tryd.isAgg99
  z168 := Tryd.sizeOf99
  v168 := Tryd.zeroValue99
  t171 := Tryd.underlying120
  a171 := Tryd.isAgg120
  z171 := Tryd.sizeOf120
  v171 := Tryd.zeroValue120
  t173 := Tryd.underlying123
  a173 := Tryd.isAgg123
  z173 := Tryd.sizeOf123
  v173 := Tryd.zeroValue123
  t175 := Tryd.underlying107
  a175 := Tryd.isAgg107
  z175 := Tryd.sizeOf107
  v175 := Tryd.zeroValue107
  t210 := Tryd.underlying111
  a210 := Tryd.isAgg111
  z210 := Tryd.sizeOf111
  v210 := Tryd.zeroValue111
  t212 := Tryd.underlying126
  a212 := Tryd.isAgg126
  z212 := Tryd.sizeOf126
  v212 := Tryd.zeroValue126
  t213 := Tryd.underlying127
  a213 := Tryd.isAgg127
  z213 := Tryd.sizeOf127
  t232 := Tryd.underlying130
  a232 := Tryd.isAgg130
  z232 := Tryd.sizeOf130
  v232 := Tryd.zeroValue130
  t233 := Tryd.underlying131
  a233 := Tryd.isAgg131
  z233 := Tryd.sizeOf131
  v233 := Tryd.zeroValue131
  g15 := by kernel_rfl
  g16 := by kernel_rfl
  g17 := by kernel_rfl
  g18 := by kernel_rfl
  g19 := by kernel_rfl
  t80 := Tryd.underlying132
  a80 := Tryd.isAgg132
  z80 := Tryd.sizeOf132
  v80 := Tryd.zeroValue132
  i0 := by kernel_rfl
  i2 := by kernel_rfl
  i3 := by kernel_rfl
  i4 := by kernel_rfl
  i5 := by kernel_rfl
  i9 := by kernel_rfl
  i20 := by kernel_rfl
  i21 := by kernel_rfl
  i37 := by kernel_rfl
  i46 := by kernel_rfl
  i51 := by kernel_rfl
  i53 := by kernel_rfl
  i75 := by kernel_rfl
  i76 := by kernel_rfl
  i80 := by kernel_rfl
  i85 := by kernel_rfl
  i127 := by kernel_rfl
  i143 := by kernel_rfl
  i145 := by kernel_rfl
  i167 := by kernel_rfl
  i168 := by kernel_rfl
  i171 := by kernel_rfl
  i173 := by kernel_rfl
  i175 := by kernel_rfl
  i210 := by kernel_rfl
  i212 := by kernel_rfl
  i232 := by kernel_rfl
  i233 := by kernel_rfl
  m15 := by kernel_rfl
  m16 := by kernel_rfl
  m17 := by kernel_rfl
  m18 := by kernel_rfl
  m19 := by kernel_rfl
  c0 := by kernel_rfl
  c2 := by kernel_rfl
  c3 := by kernel_rfl
  c4 := by kernel_rfl
  c5 := by kernel_rfl
  c9 := by kernel_rfl
  c20 := by kernel_rfl
  c21 := by kernel_rfl
  c37 := by kernel_rfl
  c46 := by kernel_rfl
  c51 := by kernel_rfl
  c53 := by kernel_rfl
  c75 := by kernel_rfl
  c76 := by kernel_rfl
  c80 := by kernel_rfl
  c85 := by kernel_rfl
  c127 := by kernel_rfl
  c143 := by kernel_rfl
  c145 := by kernel_rfl
  c167 := by kernel_rfl
  c168 := by kernel_rfl
  c171 := by kernel_rfl
  c173 := by kernel_rfl
  c175 := by kernel_rfl
  c210 := by kernel_rfl
  c212 := by kernel_rfl
  c213 := by kernel_rfl
  c232 := by kernel_rfl
  c233 := by kernel_rfl }
open Go.RowKit in
theorem Tryd.strconv_Atoi_ok (s : ByteArray) (hmax : s.size ≤ 9223372036854775806) (v : Int) (h : Lib.atoiAll s.data.toList = .ok v) (w : World) :
    Calls Tryd.prog 46 #[.string s] w fun e w' => e = .returned (.tuple #[.int .i64 v, .nilIface]) ∧ (w' = w ∨ ∃ t, w' = Lib.bytesWorld w 5 t) := Any.strconv_Atoi_ok Tryd.laysC172 s hmax v h w
open Go.RowKit in
theorem Tryd.strconv_Atoi_range_var (s : ByteArray) (hlim : s.size ≤ 281474976710656) (h : Lib.atoiAll s.data.toList = .range) (tp : TypeId) (p : Value) (w : World) (hvar : w.var? Tryd.prog "strconv.ErrRange" = some #[.iface tp p]) :
    Calls Tryd.prog 46 #[.string s] w fun e w' => ∃ N, e = .returned (.tuple #[.int .i64 (Lib.atoiSat s.data.toList), .iface 99 (.pointer (some ⟨N, 0, none⟩))]) ∧ w.heap.size ≤ N ∧ w'.heap[N]? = some (.cells #[.string ⟨#[65, 116, 111, 105]⟩, .string s, .iface tp p] 111 (0, 0)) ∧ Below w.heap.size w w' := Any.strconv_Atoi_range_var Tryd.laysC172 s hlim h tp p w hvar
def Tryd.lays145_ren : Go.Shelf.Ren := ⟨fun | 145 => 34 | 220 => 38 | 219 => 45 | 217 => 53 | 225 => 54 | 224 => 55 | 267 => 56 | 266 => 62 | 314 => 63 | n => n, fun | 9 => 9 | 4 => 4 | 59 => 66 | 3 => 3 | 5 => 5 | 46 => 90 | 146 => 93 | 51 => 92 | n => n, fun | 1 => 0 | n => n⟩
theorem Tryd.lays145 : Go.Proofs.Lays.n145 Tryd.prog Tryd.lays145_ren := {
  mixed := by kernel_rfl
  f145 := Tryd.func34.trans (congrArg some (by kernel_rfl))
  f217 := Tryd.func53.trans (congrArg some (by kernel_rfl))
  f219 := Tryd.func45.trans (congrArg some (by kernel_rfl))
  f220 := Tryd.func38.trans (congrArg some (by kernel_rfl))
  f224 := Tryd.func55.trans (congrArg some (by kernel_rfl))
  f225 := Tryd.func54.trans (congrArg some (by kernel_rfl))
  f266 := Tryd.func62.trans (congrArg some (by kernel_rfl))
  f267 := Tryd.func56.trans (congrArg some (by kernel_rfl))
  f314 := Tryd.func63.trans (congrArg some (by kernel_rfl))
  t3 := Tryd.underlying3
  a3 := Tryd.isAgg3
  z3 := Tryd.sizeOf3
  v3 := Tryd.zeroValue3
  t4 := Tryd.underlying4
  a4 := Tryd.isAgg4
  z4 := Tryd.sizeOf4
  v4 := Tryd.zeroValue4
  t5 := Tryd.underlying5
  a5 := Tryd.isAgg5
  z5 := Tryd.sizeOf5
  v5 := Tryd.zeroValue5
  t9 := Tryd.underlying9
  a9 := Tryd.isAgg9
  z9 := Tryd.sizeOf9
  v9 := Tryd.zeroValue9
  t46 := Tryd.underlying90
  a46 := Tryd.isAgg90
  z46 := Tryd.sizeOf90
  v46 := Tryd.zeroValue90
  t51 := Tryd.underlying92
  a51 := Tryd.isAgg92
  z51 := Tryd.sizeOf92
  v51 := Tryd.zeroValue92
  t59 := Tryd.underlying66
  a59 := Tryd.isAgg66
  z59 := Tryd.sizeOf66
  v59 := Tryd.zeroValue66
  t146 := Tryd.underlying93
  a146 := Tryd.isAgg93
  z146 := Tryd.sizeOf93
  v146 := Tryd.zeroValue93
  g1 := by kernel_rfl }
open Go.RowKit Go.Lib in
theorem Tryd.strings_Cut (s sep : ByteArray) (m : Int) (w : World) (hs : s.size < 4294967281) (hm : w.cell? ⟨0, 0, none⟩ = some (.int .i64 m)) :
    Calls Tryd.prog 34 #[.string s, .string sep] w fun e w' => e = .returned (.tuple #[.string ⟨(Lib.cut s.data.toList sep.data.toList).1.toArray⟩, .string ⟨(Lib.cut s.data.toList sep.data.toList).2.1.toArray⟩, .bool (Lib.cut s.data.toList sep.data.toList).2.2]) ∧ ∃ n, w' = w.drewN n := Any.strings_Cut Tryd.lays145 s sep m w hs hm
def Tryd.lays146_ren : Go.Shelf.Ren := ⟨fun | 146 => 33 | 221 => 37 | 268 => 42 | 138 => 43 | 143 => 44 | 195 => 50 | 197 => 51 | 218 => 52 | 219 => 45 | 260 => 61 | 217 => 53 | 225 => 54 | 224 => 55 | 267 => 56 | 266 => 62 | 314 => 63 | n => n, fun | 9 => 9 | 31 => 27 | 3 => 3 | 4 => 4 | 0 => 0 | 105 => 86 | 21 => 21 | 5 => 5 | 46 => 90 | 119 => 102 | 139 => 105 | 138 => 104 | 146 => 93 | 51 => 92 | n => n, fun | 1 => 0 | 3 => 1 | 4 => 2 | n => n⟩
theorem Tryd.lays146 : Go.Proofs.Lays.n146 Tryd.prog Tryd.lays146_ren := {
  mixed := by kernel_rfl
  f138 := Tryd.func43.trans (congrArg some (by kernel_rfl))
  f143 := Tryd.func44.trans (congrArg some (by kernel_rfl))
  f146 := Tryd.func33.trans (congrArg some (by kernel_rfl))
  f195 := Tryd.func50.trans (congrArg some (by kernel_rfl))
  f197 := Tryd.func51.trans (congrArg some (by kernel_rfl))
  f217 := Tryd.func53.trans (congrArg some (by kernel_rfl))
  f218 := Tryd.func52.trans (congrArg some (by kernel_rfl))
  f219 := Tryd.func45.trans (congrArg some (by kernel_rfl))
  f221 := Tryd.func37.trans (congrArg some (by kernel_rfl))
  f224 := Tryd.func55.trans (congrArg some (by kernel_rfl))
  f225 := Tryd.func54.trans (congrArg some (by kernel_rfl))
  f260 := Tryd.func61.trans (congrArg some (by kernel_rfl))
  f266 := Tryd.func62.trans (congrArg some (by kernel_rfl))
  f267 := Tryd.func56.trans (congrArg some (by kernel_rfl))
  f268 := Tryd.func42.trans (congrArg some (by kernel_rfl))
  f314 := Tryd.func63.trans (congrArg some (by kernel_rfl))
  t0 := Tryd.underlying0
  a0 := Tryd.isAgg0
  z0 := Tryd.sizeOf0
  v0 := Tryd.zeroValue0
  t3 := Tryd.underlying3
  a3 := Tryd.isAgg3
  z3 := Tryd.sizeOf3
  v3 := Tryd.zeroValue3
  t4 := Tryd.underlying4
  a4 := Tryd.isAgg4
  z4 := Tryd.sizeOf4
  v4 := Tryd.zeroValue4
  t5 := Tryd.underlying5
  a5 := Tryd.isAgg5
  z5 := Tryd.sizeOf5
  v5 := Tryd.zeroValue5
  t9 := Tryd.underlying9
  a9 := Tryd.isAgg9
  z9 := Tryd.sizeOf9
  v9 := Tryd.zeroValue9
  t21 := Tryd.underlying21
  a21 := Tryd.isAgg21
  z21 := Tryd.sizeOf21
  v21 := Tryd.zeroValue21
  t31 := Tryd.underlying27
  a31 := Tryd.isAgg27
  z31 := Tryd.sizeOf27
  v31 := Tryd.zeroValue27
  t46 := Tryd.underlying90
  a46 := Tryd.isAgg90
  z46 := Tryd.sizeOf90
  v46 := Tryd.zeroValue90
  t51 := Tryd.underlying92
  a51 := Tryd.isAgg92
  z51 := Tryd.sizeOf92
  v51 := Tryd.zeroValue92
  t105 := Tryd.underlying86
  a105 := Tryd.isAgg86
  z105 := Tryd.sizeOf86
  v105 := Tryd.zeroValue86
  t119 := Tryd.underlying102
  a119 := Tryd.isAgg102
  z119 := Tryd.sizeOf102
  t138 := Tryd.underlying104
  a138 := Tryd.isAgg104
  z138 := Tryd.sizeOf104
  v138 := Tryd.zeroValue104
  t139 := Tryd.underlying105
  a139 := Tryd.isAgg105
  z139 := Tryd.sizeOf105
  v139 := Tryd.zeroValue105
  t146 := Tryd.underlying93
  a146 := Tryd.isAgg93
  z146 := Tryd.sizeOf93
  v146 := Tryd.zeroValue93
  g1 := by kernel_rfl
  g3 := by kernel_rfl
  g4 := by kernel_rfl }
open Go.RowKit Go.Lib in
theorem Tryd.strings_Split (s sep : ByteArray) (m : Int) (w : World) (hs : s.size < 4294967281) (hm : w.cell? ⟨0, 0, none⟩ = some (.int .i64 m)) (h1 : 1 ≤ sep.size) :
    Calls Tryd.prog 33 #[.string s, .string sep] w fun e w' =>
      e = .returned (.slice (some ⟨w.heap.size, 0, none⟩) (Lib.countB s sep + 1) (Lib.countB s sep + 1)) ∧ w' = w.alloc (.cells ((Lib.splitB sep 0 (Lib.countB s sep) s).map Value.string).toArray 9) := Any.strings_Split Tryd.lays146 (by kernel_rfl) s sep m w hs hm h1
end Go.Proofs
/- What dec.Put answers for every int, where the library's table of powers is as the program's text lays it. -/
namespace Go.Proofs.YtcjnhgafifkfeaaDoor
open Go.Shelf
open Go.RowKit
set_option linter.unusedVariables false

/-- The library's table of powers is as the program's text lays it. -/
def Tab (w : World) : Prop := Lib.TabIs Tryd.prog w "internal/strconv.uint64pow10" .u64 Lib.pow10Tab
theorem var_below {P : Program} {w w' : World} {name : String} {cs : Array Value} (h : w.var? P name = some cs) (hb : Below w.heap.size w w') : w'.var? P name = some cs := by
  unfold World.var? at *
  cases hg : P.globalNamed name with
  | none => simp [hg] at h
  | some g =>
    simp only [hg, Option.bind_some] at h ⊢
    have hlt : g < w.heap.size := by
      rcases Nat.lt_or_ge g w.heap.size with h' | h'
      · exact h'
      · simp [Array.getElem?_eq_none h'] at h
    rw [hb.block g hlt]
    exact h
theorem Tab.below {w w' : World} (h : Tab w) (hb : Below w.heap.size w w') : Tab w' := var_below h hb

theorem decPut_any (n : Int) (w : World) (n0 : -9223372036854775808 ≤ n) (n1 : n ≤ 9223372036854775807) (hg : Tab w) :
    Calls Tryd.prog 47 #[.int .i64 n] w fun e w' => e = .returned (.string ⟨(Lib.itoa n).toArray⟩) ∧ Below w.heap.size w w' := by
  go_enter Tryd.func47, Tryd.ntmps47
  go_wp2_with fail
  refine (Tryd.strconv_Itoa n n0 n1 _ hg).mono ?_
  rintro e w' ⟨rfl, k, os, rfl⟩
  go_wp2
  go_ret
  exact ⟨rfl, Lib.below_grow _ _ (Nat.le_refl _) _ _⟩
end Go.Proofs.YtcjnhgafifkfeaaDoor
/- Plain arithmetic behind layer 2 (dec): the digits of a number come back as that number, by strconv's reading and by the digit-by-digit one; no condition but the range of an int. -/
namespace Go.Proofs.YtcjnhgafifkfeaaDoor.DecMath
open Go.Lib

theorem digit_toNat (d : Nat) (h : d < 10) : (UInt8.ofNat (48 + d)).toNat = 48 + d := by
  rw [UInt8.toNat_ofNat']; omega

theorem parse_snoc (c : UInt8) : ∀ (l : List UInt8) (acc m : Nat), parseUint10 acc l = .ok m → parseUint10 acc (l ++ [c]) = parseUint10 m [c]
  | [], acc, m, h => by simp only [parseUint10] at h; injection h with h; subst h; rfl
  | x :: r, acc, m, h => by
    simp only [parseUint10, List.cons_append] at h ⊢
    split at h
    · rename_i hx
      rw [if_pos hx]
      split at h
      · cases h
      · rename_i h2
        rw [if_neg h2]
        split at h
        · cases h
        · rename_i h3
          rw [if_neg h3]
          simpa [parseUint10] using parse_snoc c r _ m h
    · cases h

theorem parse_digits (u : Nat) (h : u < 18446744073709551616) : parseUint10 0 (decDigits u) = .ok u := by
  induction u using Nat.strongRecOn with
  | ind u ih =>
    rw [decDigits]
    by_cases hu : u < 10
    · rw [dif_pos hu]
      simp only [parseUint10, digit_toNat u hu]
      rw [if_pos (by omega), if_neg (by omega), if_neg (by omega)]
      congr 1; omega
    · rw [dif_neg hu, parse_snoc _ _ _ _ (ih (u / 10) (by omega) (by omega))]
      simp only [parseUint10, digit_toNat (u % 10) (by omega)]
      rw [if_pos (by omega), if_neg (by omega), if_neg (by omega)]
      congr 1; omega

theorem digits_ne (u : Nat) : decDigits u ≠ [] := by
  rw [decDigits]; split <;> simp

/-- Each octet of a number's digits is a digit. -/
theorem digits_each (u : Nat) : ∀ c ∈ decDigits u, 48 ≤ c.toNat ∧ c.toNat ≤ 57 := by
  induction u using Nat.strongRecOn with
  | ind u ih =>
    rw [decDigits]
    by_cases hu : u < 10
    · rw [dif_pos hu]
      intro c hc
      simp only [List.mem_singleton] at hc
      subst hc
      rw [digit_toNat u hu]; omega
    · rw [dif_neg hu]
      intro c hc
      simp only [List.mem_append, List.mem_singleton] at hc
      rcases hc with hc | rfl
      · exact ih (u / 10) (by omega) c hc
      · rw [digit_toNat (u % 10) (by omega)]; omega

theorem mag_digits (u : Nat) (h : u < 18446744073709551616) : parseMag (decDigits u) = .ok u := by
  rw [parseMag, if_neg (digits_ne u), parse_digits u h]

theorem atoi_itoa (n : Int) (n0 : -9223372036854775808 ≤ n) (n1 : n ≤ 9223372036854775807) : atoiAll (itoa n) = .ok n := by
  unfold itoa
  split
  · rw [atoiAll_minus, mag_digits _ (by omega)]
    simp only [signed]
    rw [if_neg (by omega)]
    congr 1; omega
  · obtain ⟨c, r, e⟩ := List.exists_cons_of_ne_nil (digits_ne n.toNat)
    have hc := digits_each n.toNat c (by rw [e]; simp)
    have hm := mag_digits n.toNat (by omega)
    rw [e] at hm ⊢
    rw [atoiAll_plain c r (by omega) (by omega), hm]
    simp only [signless]
    rw [if_neg (by omega)]
    congr 1; omega

/-- The number whose digits l are, and whether there is one. -/
def numOf (l : List UInt8) : Int × Bool :=
  match atoiAll l with
  | .ok v => if itoa v = l then (v, true) else (0, false)
  | _ => (0, false)

theorem numOf_itoa (n : Int) (n0 : -9223372036854775808 ≤ n) (n1 : n ≤ 9223372036854775807) : numOf (itoa n) = (n, true) := by
  simp [numOf, atoi_itoa n n0 n1]

theorem numOf_none (l : List UInt8) (h : ∀ n : Int, -9223372036854775808 ≤ n → n ≤ 9223372036854775807 → itoa n ≠ l) : numOf l = (0, false) := by
  unfold numOf
  split
  · rename_i v hv
    have := atoiAll_bounds hv
    rw [if_neg (h v this.1 this.2)]
  · rfl

theorem numOf_cases (l : List UInt8) : (∃ n : Int, (-9223372036854775808 ≤ n ∧ n ≤ 9223372036854775807) ∧ itoa n = l ∧ numOf l = (n, true)) ∨
    ((∀ n : Int, -9223372036854775808 ≤ n → n ≤ 9223372036854775807 → itoa n ≠ l) ∧ numOf l = (0, false)) := by
  by_cases h : ∃ n : Int, (-9223372036854775808 ≤ n ∧ n ≤ 9223372036854775807) ∧ itoa n = l
  · obtain ⟨n, hn, rfl⟩ := h
    exact .inl ⟨n, hn, rfl, numOf_itoa n hn.1 hn.2⟩
  · have h' : ∀ n : Int, -9223372036854775808 ≤ n → n ≤ 9223372036854775807 → itoa n ≠ l := fun n a b e => h ⟨n, ⟨a, b⟩, e⟩
    exact .inr ⟨h', numOf_none l h'⟩

theorem nDigits_le : ∀ (k u : Nat), u < 10 ^ (k + 1) → nDigits u ≤ k + 1
  | 0, u, h => by rw [nDigits_small (by omega)]; omega
  | k + 1, u, h => by
    by_cases hu : u < 10
    · rw [nDigits_small hu]; omega
    · rw [nDigits_big hu]
      have := nDigits_le k (u / 10) (by have : 10 ^ (k + 1 + 1) = 10 ^ (k + 1) * 10 := Nat.pow_succ ..; omega)
      omega

theorem itoa_len (n : Int) (n0 : -9223372036854775808 ≤ n) (n1 : n ≤ 9223372036854775807) : 1 ≤ (itoa n).length ∧ (itoa n).length ≤ 20 := by
  unfold itoa
  split
  · have := nDigits_le 18 n.natAbs (by omega)
    simp only [List.length_cons, decDigits_length]; omega
  · have := nDigits_le 18 n.toNat (by omega)
    have := nDigits_pos n.toNat
    simp only [decDigits_length]; omega

/-- One round of the digit-by-digit reading. -/
def rd (neg : Bool) (n : Int) (c : UInt8) : Int := if neg then n * 10 - (c.toNat - 48) else n * 10 + (c.toNat - 48)
def w64 (n : Int) : Int := (n + 9223372036854775808) % 18446744073709551616 - 9223372036854775808

/-- The digit-by-digit reading of what stands behind the sign. -/
def rg (neg : Bool) (n : Int) : List UInt8 → Option Int
  | [] => some n
  | c :: r => if c.toNat < 48 ∨ 57 < c.toNat then none else rg neg (w64 (rd neg n c)) r

theorem rg_snoc (neg : Bool) (c : UInt8) : ∀ (l : List UInt8) (n m : Int), rg neg n l = some m → rg neg n (l ++ [c]) = rg neg m [c]
  | [], n, m, h => by simp only [rg] at h; injection h with h; subst h; rfl
  | x :: r, n, m, h => by
    simp only [rg, List.cons_append] at h ⊢
    split at h
    · cases h
    · rename_i hx
      rw [if_neg hx]
      simpa [rg] using rg_snoc neg c r _ m h

theorem rg_digits (neg : Bool) (u : Nat) (h : u ≤ 9223372036854775807 ∨ (neg = true ∧ u ≤ 9223372036854775808)) :
    rg neg 0 (decDigits u) = some (if neg then -(u : Int) else u) := by
  induction u using Nat.strongRecOn with
  | ind u ih =>
    rw [decDigits]
    by_cases hu : u < 10
    · rw [dif_pos hu]
      simp only [rg, digit_toNat u hu]
      rw [if_neg (by omega)]
      have e := digit_toNat u hu
      cases neg
      · simp only [rd, w64, e, Bool.false_eq_true, if_false, Option.some.injEq]; omega
      · simp only [rd, w64, e, if_true, Option.some.injEq]; omega
    · rw [dif_neg hu, rg_snoc _ _ _ _ _ (ih (u / 10) (by omega) (by omega))]
      simp only [rg, digit_toNat (u % 10) (by omega)]
      rw [if_neg (by omega)]
      have e := digit_toNat (u % 10) (by omega)
      cases neg
      · have h' : u ≤ 9223372036854775807 := by simpa using h
        simp only [rd, w64, e, Bool.false_eq_true, if_false, Option.some.injEq]; omega
      · simp only [rd, w64, e, if_true, Option.some.injEq]; omega

theorem rg_bd (neg : Bool) : ∀ (l : List UInt8) (n m : Int), -9223372036854775808 ≤ n → n ≤ 9223372036854775807 → rg neg n l = some m → -9223372036854775808 ≤ m ∧ m ≤ 9223372036854775807
  | [], n, m, a, b, h => by simp only [rg] at h; injection h with h; subst h; exact ⟨a, b⟩
  | x :: r, n, m, a, b, h => by
    simp only [rg] at h
    split at h
    · cases h
    · refine rg_bd neg r _ m ?_ ?_ h <;> unfold w64 <;> omega

/-- The digits that are left to write: none for 0. -/
def td (u : Nat) : List UInt8 := if u = 0 then [] else decDigits u
theorem td_step (u : Nat) (h : u ≠ 0) : td u = td (u / 10) ++ [UInt8.ofNat (48 + u % 10)] := by
  unfold td
  rw [if_neg h]
  by_cases hu : u < 10
  · rw [if_pos (by omega), decDigits, dif_pos hu, show u % 10 = u from by omega]; rfl
  · rw [if_neg (by omega), decDigits, dif_neg hu]

end Go.Proofs.YtcjnhgafifkfeaaDoor.DecMath
/- What the digit-by-digit writing and reading of a number answer, for every int and every text. -/
namespace Go.Proofs.YtcjnhgafifkfeaaDoor
open Go.RowKit DecMath
set_option linter.unusedVariables false

theorem str_size (l : List UInt8) : (ByteArray.mk l.toArray).size = l.length := by show l.toArray.size = _; simp

theorem str_ret {a b : ByteArray} (h : a = b) : Ending.returned (.string a) = .returned (.string b) := by rw [h]

theorem ret_pair2 {p : Int × Bool} {a : Int} {b : Bool} (h : p = (a, b)) : Ending.returned (.tuple #[.int .i64 a, .bool b]) = .returned (.tuple #[.int .i64 p.1, .bool p.2]) := by rw [h]

theorem not_empty (s : ByteArray) (h : s.size ≠ 0) : ¬ s = ByteArray.empty := fun e => h (by rw [e]; rfl)

theorem piece (d : Int) (h0 : 0 ≤ d) (h1 : d ≤ 9) (w : World) :
    (Instr.slice 9 (.string ⟨#[48, 49, 50, 51, 52, 53, 54, 55, 56, 57]⟩) (some (.int .i64 d)) (some (.int .i64 (d + 1))) none).run Tryd.prog w = .ok (.string ⟨[UInt8.ofNat (48 + d.toNat)].toArray⟩) w := by
  have key : ∀ m : Fin 10, (ByteArray.mk #[48, 49, 50, 51, 52, 53, 54, 55, 56, 57]).extract m.val (m.val + 1) = ⟨[UInt8.ofNat (48 + m.val)].toArray⟩ := by decide +kernel
  have sz : ((ByteArray.mk #[48, 49, 50, 51, 52, 53, 54, 55, 56, 57]).size : Int) = 10 := by decide
  rw [run_slice_string_if w _ _ _ _ _ _ Tryd.underlying9, if_pos (by omega), if_pos (by omega), show (d + 1).toNat = d.toNat + 1 from by omega]
  exact congrArg (fun b => Result.ok (Value.string b) w) (key ⟨d.toNat, by omega⟩)
theorem join (c : UInt8) (l : List UInt8) (h : l.length < 25) (w : World) :
    (Op.stringOp .add ⟨[c].toArray⟩ ⟨l.toArray⟩).run Tryd.prog w = .ok (.string ⟨(c :: l).toArray⟩) w := by
  rw [run_string_add_sum w _ _ (by rw [str_size, str_size]; simp; omega), ByteArray.mk_append_mk]
  simp

theorem tds (k q e : Int) (n : Nat) (l : List UInt8) (hk : k ≠ 0) (hq : q.natAbs = k.natAbs / 10) (he : e.toNat = k.natAbs % 10) (h : td n = td k.natAbs ++ l) :
    td n = td q.natAbs ++ UInt8.ofNat (48 + e.toNat) :: l := by
  rw [h, td_step _ (by omega), hq, he]; simp
theorem len_step (l : List UInt8) (c : UInt8) (a b n : Nat) (hb : b = a / 10) (h : 10 ^ l.length * a ≤ n) : 10 ^ (c :: l).length * b ≤ n := by
  rw [List.length_cons, Nat.pow_succ, Nat.mul_assoc]
  exact Nat.le_trans (Nat.mul_le_mul_left _ (by omega)) h
theorem len_bd (l : List UInt8) (a n : Nat) (ha : a ≠ 0) (hn : n ≤ 9223372036854775808) (h : 10 ^ l.length * a ≤ n) : l.length < 25 := by
  have h1 : 10 ^ l.length ≤ 10 ^ l.length * a := Nat.le_mul_of_pos_right _ (by omega)
  have h3 : (9223372036854775808 : Nat) < 10 ^ 25 := by decide
  have h2 : 10 ^ l.length < 10 ^ 25 := by omega
  exact (Nat.pow_lt_pow_iff_right (by decide)).1 h2

/-- The digit-by-digit reading of a whole text. -/
def refG (l : List UInt8) : Option Int :=
  match l with
  | [] => none
  | c :: r => if c.toNat = 45 then rg true 0 r else rg false 0 (c :: r)
theorem refG_itoa (n : Int) (n0 : -9223372036854775808 ≤ n) (n1 : n ≤ 9223372036854775807) : refG (Lib.itoa n) = some n := by
  unfold Lib.itoa
  split
  · simp only [refG]
    rw [if_pos (by decide), rg_digits true _ (.inr ⟨rfl, by omega⟩)]
    simp; omega
  · obtain ⟨c, r, e⟩ := List.exists_cons_of_ne_nil (digits_ne n.toNat)
    have hc := digits_each n.toNat c (by rw [e]; simp)
    have h := rg_digits false n.toNat (.inl (by omega))
    rw [e] at h ⊢
    simp only [refG]
    rw [if_neg (by omega), h]
    simp; omega
theorem numOf_bad (l : List UInt8) (h : refG l = none) : numOf l = (0, false) :=
  numOf_none l fun n a b e => by rw [← e, refG_itoa n a b] at h; cases h
theorem numOf_off (l : List UInt8) (v : Int) (h : refG l = some v) (hv : Lib.itoa v ≠ l) : numOf l = (0, false) :=
  numOf_none l fun n a b e => by rw [← e, refG_itoa n a b] at h; cases h; exact hv e
theorem numOf_len (l : List UInt8) (h : l.length = 0 ∨ 20 < l.length) : numOf l = (0, false) :=
  numOf_none l fun n a b e => by have := itoa_len n a b; rw [e] at this; omega

theorem bytes_list (s : ByteArray) : s.toList = s.data.toList := ByteArray.toList_eq s
theorem drop_at (s : ByteArray) (k : Nat) (h : k < s.size) : s.data.toList.drop k = s[k] :: s.data.toList.drop (k + 1) := by
  rw [List.drop_eq_getElem_cons (by simpa using h)]; rfl
theorem refG_neg (s : ByteArray) (h : 0 < s.size) (hn : ((s[0].toNat : Int) == 45) = true) : rg true 0 (s.data.toList.drop 1) = refG s.data.toList := by
  have e := drop_at s 0 h
  rw [List.drop_zero] at e
  rw [e]
  simp only [refG, List.drop_succ_cons, List.drop_zero]
  rw [if_pos (by simp at hn; omega)]
theorem refG_plain (s : ByteArray) (h : 0 < s.size) (hn : ((s[0].toNat : Int) == 45) = false) : rg false 0 (s.data.toList.drop 0) = refG s.data.toList := by
  have e := drop_at s 0 h
  rw [List.drop_zero] at e
  rw [List.drop_zero, e]
  simp only [refG]
  rw [if_neg (by simp at hn; omega)]
theorem rg_bad (neg : Bool) (v : Int) (s : ByteArray) (k : Nat) (h : k < s.size) (hb : (s[k].toNat : Int) < 48 ∨ 57 < (s[k].toNat : Int)) : rg neg v (s.data.toList.drop k) = none := by
  rw [drop_at s k h, rg, if_pos (by omega)]
theorem rg_good (neg : Bool) (v : Int) (s : ByteArray) (k : Nat) (h : k < s.size) (hb : ¬ ((s[k].toNat : Int) < 48 ∨ 57 < (s[k].toNat : Int))) : rg neg v (s.data.toList.drop k) = rg neg (w64 (rd neg v s[k])) (s.data.toList.drop (k + 1)) := by
  rw [drop_at s k h, rg, if_neg (by omega)]
theorem refG_end (neg : Bool) (v : Int) (s : ByteArray) (h : rg neg v (s.data.toList.drop s.size) = refG s.data.toList) : refG s.data.toList = some v := by
  rw [← h, List.drop_of_length_le (by simp), rg]
theorem rel_to {neg : Bool} {a b : Int} {l : List UInt8} {r : Option Int} (h : rg neg a l = r) (e : b = a) : rg neg b l = r := by rw [e]; exact h
theorem w64_bd (x y : Int) (h : y = wrap64 x) : -9223372036854775808 ≤ y ∧ y ≤ 9223372036854775807 := by rw [h]; unfold wrap64; omega

end Go.Proofs.YtcjnhgafifkfeaaDoor
/- What dec's Put, Get and Within answer, for every int and every text, where the library's table of powers and its two errors are as the program's text lays them. -/
namespace Go.Proofs.YtcjnhgafifkfeaaDoor
open Go.Shelf
open Go.RowKit DecMath
set_option linter.unusedVariables false

/-- The library's variables that dec reads are as the program's text lays them. -/
def Good (w : World) : Prop :=
  Tab w ∧
  (∃ tp p, w.var? Tryd.prog "strconv.ErrSyntax" = some #[.iface tp p]) ∧ (∃ tp p, w.var? Tryd.prog "strconv.ErrRange" = some #[.iface tp p])

theorem Good.below {w w' : World} (h : Good w) (hb : Below w.heap.size w w') : Good w' := by
  obtain ⟨a, ⟨t1, p1, b⟩, t2, p2, c⟩ := h
  exact ⟨var_below a hb, ⟨t1, p1, var_below b hb⟩, t2, p2, var_below c hb⟩
theorem numOf_ok (l : List UInt8) (v : Int) (h : Lib.atoiAll l = .ok v) (e : Lib.itoa v = l) : numOf l = (v, true) := by simp [numOf, h, e]
theorem numOf_no (l : List UInt8) (v : Int) (h : Lib.atoiAll l = .ok v) (e : ¬ Lib.itoa v = l) : numOf l = (0, false) := by simp [numOf, h, e]
theorem numOf_else (l : List UInt8) (h : ∀ v, Lib.atoiAll l ≠ .ok v) : numOf l = (0, false) := by
  unfold numOf
  split
  · rename_i v hv
    exact absurd hv (h v)
  · rfl
/-- Neither a number nor out of range: the other error. -/
theorem atoi_else (s : ByteArray) (hlim : s.size ≤ 281474976710656) (h1 : ∀ v, Lib.atoiAll s.data.toList ≠ .ok v) (h2 : Lib.atoiAll s.data.toList ≠ .range) (tp : TypeId) (p : Value) (w : World) (hvar : w.var? Tryd.prog "strconv.ErrSyntax" = some #[.iface tp p]) :
    Calls Tryd.prog 46 #[.string s] w fun e w' => ∃ N, e = .returned (.tuple #[.int .i64 0, .iface 99 (.pointer (some ⟨N, 0, none⟩))]) ∧ Below w.heap.size w w' := by
  cases h : Lib.atoiAll s.data.toList with
  | ok v => exact absurd h (h1 v)
  | range => exact absurd h h2
  | _ =>
    refine (Any.strconv_Atoi_syntax_var Tryd.laysC172 s hlim h tp p w hvar).mono ?_
    rintro e w' ⟨N, he, -, -, hb⟩
    exact ⟨N, he, hb⟩

set_option maxRecDepth 100000 in
theorem decGet_any (s : ByteArray) (w : World) (hs : s.size ≤ 9223372036854775807) (hg : Good w) :
    Calls Tryd.prog 39 #[.string s] w fun e w' => e = .returned (.tuple #[.int .i64 (numOf s.data.toList).1, .bool (numOf s.data.toList).2]) ∧ Below w.heap.size w w' := by
  by_cases hlen : 20 < s.size
  · have H := Lib.hid (numOf_len s.data.toList (by right; simpa using hlen))
    clear hg
    go_enter Tryd.func39, Tryd.ntmps39
    go_wp2
    go_ret2
    exact ⟨ret_pair2 H.out, Below.refl _ _⟩
  · have G := Lib.hid hg
    clear hg
    cases h : Lib.atoiAll s.data.toList with
    | ok v =>
      have hv := Lib.atoiAll_bounds h
      obtain ⟨v0, v1⟩ := hv
      by_cases heq : Lib.itoa v = s.data.toList
      · have E := Lib.hid (numOf_ok _ v h heq)
        have h1 : (Lib.itoa v == s.toList) = true := by rw [bytes_list]; simpa using heq
        have hA := Lib.hid h
        clear h heq
        go_enter Tryd.func39, Tryd.ntmps39
        go_wp2_with fail
        refine (Tryd.strconv_Atoi_ok s (by omega) v hA.out _).mono ?_
        rintro e w1 ⟨rfl, hw⟩
        have hb : Hid (Below w.heap.size w w1) := by
          rcases hw with rfl | ⟨t, rfl⟩
          · exact Below.refl _ _
          · exact Lib.bytesWorld_below _ _ _
        clear hw
        go_wp2_with fail
        refine (decPut_any v _ v0 v1 (G.out.below hb.out).1).mono ?_
        rintro e w2 ⟨rfl, hb2⟩
        go_wp2
        go_ret2
        exact ⟨ret_pair2 E.out, up_trans hb.out hb2⟩
      · have E := Lib.hid (numOf_no _ v h heq)
        have h1 : (Lib.itoa v == s.toList) = false := by rw [bytes_list]; simpa using heq
        have hA := Lib.hid h
        clear h heq
        go_enter Tryd.func39, Tryd.ntmps39
        go_wp2_with fail
        refine (Tryd.strconv_Atoi_ok s (by omega) v hA.out _).mono ?_
        rintro e w1 ⟨rfl, hw⟩
        have hb : Hid (Below w.heap.size w w1) := by
          rcases hw with rfl | ⟨t, rfl⟩
          · exact Below.refl _ _
          · exact Lib.bytesWorld_below _ _ _
        clear hw
        go_wp2_with fail
        refine (decPut_any v _ v0 v1 (G.out.below hb.out).1).mono ?_
        rintro e w2 ⟨rfl, hb2⟩
        go_wp2
        go_ret2
        exact ⟨ret_pair2 E.out, up_trans hb.out hb2⟩
    | range =>
      have E := Lib.hid (numOf_else _ (by intro v; rw [h]; intro x; cases x))
      obtain ⟨tp, p, hvar⟩ := G.out.2.2
      have hA := Lib.hid (And.intro h hvar)
      clear h hvar
      go_enter Tryd.func39, Tryd.ntmps39
      go_wp2_with fail
      refine (Tryd.strconv_Atoi_range_var s (by omega) hA.out.1 tp p _ hA.out.2).mono ?_
      rintro e w1 ⟨N, rfl, -, -, hb⟩
      go_wp2
      go_ret2
      exact ⟨ret_pair2 E.out, hb⟩
    | _ =>
      have h1 : ∀ v, Lib.atoiAll s.data.toList ≠ .ok v := by intro v; rw [h]; intro x; cases x
      have h2 : Lib.atoiAll s.data.toList ≠ .range := by rw [h]; intro x; cases x
      have E := Lib.hid (numOf_else _ h1)
      obtain ⟨tp, p, hvar⟩ := G.out.2.1
      have hA := Lib.hid (And.intro (And.intro h1 h2) hvar)
      clear h hvar h1 h2
      go_enter Tryd.func39, Tryd.ntmps39
      go_wp2_with fail
      refine (atoi_else s (by omega) hA.out.1.1 hA.out.1.2 tp p _ hA.out.2).mono ?_
      rintro e w1 ⟨N, rfl, hb⟩
      go_wp2
      go_ret2
      exact ⟨ret_pair2 E.out, hb⟩
end Go.Proofs.YtcjnhgafifkfeaaDoor
/- What dec's Within answers, and that the chapter's example holds. -/
namespace Go.Proofs.YtcjnhgafifkfeaaDoor
open Go.RowKit DecMath
set_option linter.unusedVariables false

/-- The number whose digits l are, if it is from lo to hi. -/
def inOf (l : List UInt8) (lo hi : Int) : Int × Bool := if (numOf l).2 = true ∧ lo ≤ (numOf l).1 ∧ (numOf l).1 ≤ hi then numOf l else (0, false)

set_option maxRecDepth 100000 in
theorem decWithin_any (s : ByteArray) (lo hi : Int) (w : World) (hs : s.size ≤ 9223372036854775807) (hg : Good w) :
    Calls Tryd.prog 35 #[.string s, .int .i64 lo, .int .i64 hi] w fun e w' => e = .returned (.tuple #[.int .i64 (inOf s.data.toList lo hi).1, .bool (inOf s.data.toList lo hi).2]) ∧ Below w.heap.size w w' := by
  have K := decGet_any s w hs hg
  have I := fun (v : Int) w => in_any v lo hi w
  have hr : inOf s.data.toList lo hi = if (numOf s.data.toList).2 = true ∧ lo ≤ (numOf s.data.toList).1 ∧ (numOf s.data.toList).1 ≤ hi then numOf s.data.toList else (0, false) := rfl
  generalize inOf s.data.toList lo hi = r at *
  generalize numOf s.data.toList = p at *
  obtain ⟨v, b⟩ := p
  simp only at K hr
  cases b
  · have HK := Lib.hid K
    have E := Lib.hid (show r = (0, false) from by rw [hr, if_neg (fun h => by cases h.1)])
    clear K hg I hr
    go_enter Tryd.func35, Tryd.ntmps35
    go_wp2_with fail
    refine HK.out.mono ?_
    rintro e w1 ⟨rfl, hb⟩
    go_wp2
    go_ret2
    exact ⟨ret_pair2 E.out, hb⟩
  · by_cases hin : lo ≤ v ∧ v ≤ hi
    · have HK := Lib.hid K
      have i1 : (decide (lo ≤ v) && decide (v ≤ hi)) = true := by simp [hin]
      have I1 := I v
      rw [i1] at I1
      have HI := Lib.hid I1
      have E := Lib.hid (show r = (v, true) from by rw [hr, if_pos ⟨rfl, hin⟩])
      clear K hg I i1 I1 hin hr
      go_enter Tryd.func35, Tryd.ntmps35
      go_wp2_with fail
      refine HK.out.mono ?_
      rintro e w1 ⟨rfl, hb⟩
      go_wp2_with fail
      refine (HI.out _).mono ?_
      rintro e w2 ⟨rfl, rfl⟩
      go_wp2
      go_ret2
      exact ⟨ret_pair2 E.out, hb⟩
    · have HK := Lib.hid K
      have i1 : (decide (lo ≤ v) && decide (v ≤ hi)) = false := by simp; omega
      have I1 := I v
      rw [i1] at I1
      have HI := Lib.hid I1
      have E := Lib.hid (show r = (0, false) from by rw [hr, if_neg (fun h => hin h.2)])
      clear K hg I i1 I1 hin hr
      go_enter Tryd.func35, Tryd.ntmps35
      go_wp2_with fail
      refine HK.out.mono ?_
      rintro e w1 ⟨rfl, hb⟩
      go_wp2_with fail
      refine (HI.out _).mono ?_
      rintro e w2 ⟨rfl, rfl⟩
      go_wp2
      go_ret2
      exact ⟨ret_pair2 E.out, hb⟩

theorem itoa_0 : Lib.itoa 0 = [48] := by rw [Lib.itoa, if_neg (by decide)]; exact Lib.decDigits_one (by decide)
theorem itoa_7 : Lib.itoa 7 = [55] := by rw [Lib.itoa, if_neg (by decide)]; exact Lib.decDigits_one (by decide)
theorem itoa_m42 : Lib.itoa (-42) = [45, 52, 50] := by rw [Lib.itoa, if_pos (by decide)]; exact congrArg _ (Lib.decDigits_two (by decide) (by decide))
theorem num_m42 : numOf [45, 52, 50] = (-42, true) := by rw [← itoa_m42]; exact numOf_itoa _ (by decide) (by decide)
theorem num_007 : numOf [48, 48, 55] = (0, false) := numOf_no _ 7 (by decide) (by rw [itoa_7]; decide)

end Go.Proofs.YtcjnhgafifkfeaaDoor
/- What the calls of package words answer: for every table, number and text. -/
namespace Go.Proofs.YtcjnhgafifkfeaaDoor
open Go.RowKit
set_option linter.unusedVariables false

/-- The words of a table, octet by octet. -/
def tab (t : Int) : List ByteArray :=
  if t = 1 then [⟨#[115, 97, 100, 100, 108, 101]⟩, ⟨#[112, 101, 114, 102, 101, 99, 116]⟩, ⟨#[115, 116, 97, 99, 107]⟩, ⟨#[99, 111, 109, 101, 103, 111]⟩]
  else if t = 2 then [⟨#[115, 104, 101, 101, 116, 119, 105, 115, 101]⟩, ⟨#[112, 101, 114, 102, 101, 99, 116, 105, 110, 103]⟩, ⟨#[116, 117, 114, 110]⟩, ⟨#[116, 117, 109, 98, 108, 101]⟩]
  else if t = 3 then [⟨#[76]⟩, ⟨#[82]⟩, ⟨#[66]⟩, ⟨#[84]⟩]
  else if t = 4 then [⟨#[112, 97, 103, 101]⟩, ⟨#[99, 114, 111, 112]⟩, ⟨#[99, 114, 101, 97, 115, 101]⟩, ⟨#[99, 101, 110, 116, 114, 101]⟩, ⟨#[115, 116, 97, 105, 114]⟩, ⟨#[98, 97, 114]⟩, ⟨#[110, 111, 116, 101]⟩]
  else []
/-- The texts stand in the block g, one a cell. -/
def InG (w : World) (g : Nat) (l : List ByteArray) : Prop := ∀ i p, l[i]? = some p → w.cell? ⟨g, i, none⟩ = some (.string p)
theorem InG.up {w w' : World} {g : Nat} {l : List ByteArray} (h : InG w g l) (hb : Below w.heap.size w w') : InG w' g l := fun i p hp => bl_cell hb (h i p hp)
/-- v is a slice that holds the texts l, m of them. -/
def Strs (w : World) (v : Value) (m : Nat) (l : List ByteArray) : Prop := l.length = m ∧ ((m = 0 ∧ v = .slice none 0 0) ∨ ∃ g, 0 < m ∧ v = .slice (some ⟨g, 0, none⟩) m m ∧ InG w g l)
theorem Strs.up {w w' : World} {v : Value} {m : Nat} {l : List ByteArray} (h : Strs w v m l) (hb : Below w.heap.size w w') : Strs w' v m l := by
  obtain ⟨h0, h1 | ⟨g, h1, h2, h3⟩⟩ := h
  · exact ⟨h0, .inl h1⟩
  · exact ⟨h0, .inr ⟨g, h1, h2, h3.up hb⟩⟩
theorem inG_cells (w : World) (l : List ByteArray) (T : TypeId) : InG (w.alloc (.cells (l.map Value.string).toArray T)) w.heap.size l := by
  intro i p hp
  simp [go_sem, hp]

theorem tab_none {t : Int} (h1 : t ≠ 1) (h2 : t ≠ 2) (h3 : t ≠ 3) (h4 : t ≠ 4) : tab t = [] := by unfold tab; rw [if_neg h1, if_neg h2, if_neg h3, if_neg h4]

theorem wordsAll_any (t : Int) (w : World) :
    Calls Tryd.prog 48 #[.int .i64 t] w fun e w' => ∃ v, e = .returned v ∧ Strs w' v (tab t).length (tab t) ∧ Below w.heap.size w w' := by
  by_cases h1 : t = 1
  · subst h1
    go_enter Tryd.func48, Tryd.ntmps48
    go_wp2
    go_ret
    exact ⟨_, rfl, ⟨rfl, .inr ⟨w.heap.size, by decide, rfl, inG_cells w (tab 1) _⟩⟩, up_alloc (Below.refl _ _) _⟩
  by_cases h2 : t = 2
  · subst h2
    go_enter Tryd.func48, Tryd.ntmps48
    go_wp2
    go_ret
    exact ⟨_, rfl, ⟨rfl, .inr ⟨w.heap.size, by decide, rfl, inG_cells w (tab 2) _⟩⟩, up_alloc (Below.refl _ _) _⟩
  by_cases h3 : t = 3
  · subst h3
    go_enter Tryd.func48, Tryd.ntmps48
    go_wp2
    go_ret
    exact ⟨_, rfl, ⟨rfl, .inr ⟨w.heap.size, by decide, rfl, inG_cells w (tab 3) _⟩⟩, up_alloc (Below.refl _ _) _⟩
  by_cases h4 : t = 4
  · subst h4
    go_enter Tryd.func48, Tryd.ntmps48
    go_wp2
    go_ret
    exact ⟨_, rfl, ⟨rfl, .inr ⟨w.heap.size, by decide, rfl, inG_cells w (tab 4) _⟩⟩, up_alloc (Below.refl _ _) _⟩
  rw [tab_none h1 h2 h3 h4]
  have e1 : (t == 1) = false := by simpa using h1
  have e2 : (t == 2) = false := by simpa using h2
  have e3 : (t == 3) = false := by simpa using h3
  have e4 : (t == 4) = false := by simpa using h4
  go_enter Tryd.func48, Tryd.ntmps48
  go_wp2
  go_ret
  exact ⟨_, rfl, ⟨rfl, .inl ⟨rfl, rfl⟩⟩, Below.refl _ _⟩

/-- The word of a number; empty: there is none. -/
def word (l : List ByteArray) (n : Int) : ByteArray := if 1 ≤ n then (l[(n - 1).toNat]?).getD ⟨#[]⟩ else ⟨#[]⟩
theorem word_low {l : List ByteArray} {n : Int} (h : n < 1) : word l n = ⟨#[]⟩ := if_neg (by omega)
theorem word_high {l : List ByteArray} {n : Int} (h : (l.length : Int) < n) : word l n = ⟨#[]⟩ := by
  unfold word
  split
  · rw [List.getElem?_eq_none (by omega)]; rfl
  · rfl
theorem word_at {l : List ByteArray} {k : Nat} {b : ByteArray} (h : l[k]? = some b) : word l ((k : Int) + 1) = b := by
  unfold word
  rw [if_pos (by omega), show ((k : Int) + 1 - 1).toNat = k by omega, h]
  rfl

def WordsGetRel (k : Nat) (w : World) (x : Value) (wr : World) : Prop := ∃ j : Nat, j ≤ k ∧ x = .int .i64 (j : Int) ∧ wr = w

theorem toList_ne {a b : ByteArray} (h : a ≠ b) : (a.toList == b.toList) = false := by
  rw [beq_eq_false_iff_ne]
  intro e
  rw [ByteArray.toList_eq, ByteArray.toList_eq] at e
  apply h
  obtain ⟨⟨a⟩⟩ := a
  obtain ⟨⟨b⟩⟩ := b
  simpa using e
theorem toList_some {s : ByteArray} (h : s ≠ ⟨#[]⟩) : (s.toList == []) = false := by
  have := toList_ne h
  simpa [ByteArray.toList_eq] using this

theorem wordsGet_core (t : Int) (s : ByteArray) (l : List ByteArray) (hl : l.length ≤ 1000000) (w : World) (k : Nat) (hk : l[k]? = some s) (hf : ∀ j b, j < k → l[j]? = some b → b ≠ s)
    (KA : ∀ w, Calls Tryd.prog 48 #[.int .i64 t] w fun e w' => ∃ v, e = .returned v ∧ Strs w' v l.length l ∧ Below w.heap.size w w') :
    Calls Tryd.prog 40 #[.int .i64 t, .string s] w fun e w' => e = .returned (.tuple #[.int .i64 ((k : Int) + 1), .bool true]) ∧ Below w.heap.size w w' := by
  have hkl : k < l.length := (List.getElem?_eq_some_iff.1 hk).1
  obtain ⟨m, hm⟩ : ∃ m, l.length = m := ⟨_, rfl⟩
  rw [hm] at KA hl hkl
  have HA := Lib.hid KA
  have HM := Lib.hid hm
  clear KA hm
  go_enter Tryd.func40, Tryd.ntmps40
  go_wp2_with fail
  refine (HA.out _).mono ?_
  rintro e w1 ⟨v, rfl, ⟨_, hs⟩, hb⟩
  rcases hs with ⟨_, rfl⟩ | ⟨g, h0, rfl, hc⟩
  · omega
  go_wp2_with fail
  go_loopw [11] (fun x wr => WordsGetRel k w1 x wr) (fun x _ => m - (intOf x).toNat)
  case atStart => exact ⟨0, by omega, by go_num, rfl⟩
  case round =>
    obtain ⟨j, hj, rfl, rfl⟩ := hrel
    have jm : (j : Int) < (m : Int) := by omega
    by_cases hjk : j = k
    · subst hjk
      have c1 := hc j s hk
      clear hc hf
      go_wp2
      go_ret2
      exact ⟨rfl, hb⟩
    · have hjl : j < l.length := by have := HM.out; omega
      have hb0 : l[j]? = some l[j] := by simp [hjl]
      generalize l[j] = b at *
      have hn := hf j b (by omega) hb0
      have c1 := hc j b hb0
      have h1 := toList_ne hn
      clear hb0 hn hc hf
      go_wp2_with fail
      go_roundw
      case rel => exact ⟨j + 1, by omega, by go_num, rfl⟩
      case measure => simp [intOf]; omega

theorem wordsGet_none (t : Int) (s : ByteArray) (l : List ByteArray) (hl : l.length ≤ 1000000) (w : World) (hf : ∀ (j : Nat) (b : ByteArray), l[j]? = some b → b ≠ s)
    (KA : ∀ w, Calls Tryd.prog 48 #[.int .i64 t] w fun e w' => ∃ v, e = .returned v ∧ Strs w' v l.length l ∧ Below w.heap.size w w') :
    Calls Tryd.prog 40 #[.int .i64 t, .string s] w fun e w' => e = .returned (.tuple #[.int .i64 0, .bool false]) ∧ Below w.heap.size w w' := by
  obtain ⟨m, hm⟩ : ∃ m, l.length = m := ⟨_, rfl⟩
  rw [hm] at KA hl
  have HA := Lib.hid KA
  have HM := Lib.hid hm
  clear KA hm
  go_enter Tryd.func40, Tryd.ntmps40
  go_wp2_with fail
  refine (HA.out _).mono ?_
  rintro e w1 ⟨v, rfl, ⟨_, hs⟩, hb⟩
  rcases hs with ⟨rfl, rfl⟩ | ⟨g, h0, rfl, hc⟩
  · go_wp2_with fail
    go_loopw [11] (fun x wr => WordsGetRel 0 w1 x wr) (fun x _ => 0)
    case atStart => exact ⟨0, by omega, by go_num, rfl⟩
    case round =>
      obtain ⟨j, hj, rfl, rfl⟩ := hrel
      obtain rfl : j = 0 := by omega
      go_wp2
      go_ret2
      exact ⟨rfl, hb⟩
  go_wp2_with fail
  go_loopw [11] (fun x wr => WordsGetRel m w1 x wr) (fun x _ => m - (intOf x).toNat)
  case atStart => exact ⟨0, by omega, by go_num, rfl⟩
  case round =>
    obtain ⟨j, hj, rfl, rfl⟩ := hrel
    by_cases hjm : j = m
    · subst hjm
      clear hc hf
      go_wp2
      go_ret2
      exact ⟨rfl, hb⟩
    · have jm : (j : Int) < (m : Int) := by omega
      have hjl : j < l.length := by have := HM.out; omega
      have hb0 : l[j]? = some l[j] := by simp [hjl]
      generalize l[j] = b at *
      have hn := hf j b hb0
      have c1 := hc j b hb0
      have h1 := toList_ne hn
      clear hb0 hn hc hf
      go_wp2_with fail
      go_roundw
      case rel => exact ⟨j + 1, by omega, by go_num, rfl⟩
      case measure => simp [intOf]; omega

theorem tab_short (t : Int) : (tab t).length ≤ 7 := by unfold tab; (repeat' split) <;> decide
theorem tab_nodup (t : Int) : (tab t).Nodup := by unfold tab; (repeat' split) <;> decide +kernel
theorem tab_full (t : Int) : ∀ b ∈ tab t, b ≠ ⟨#[]⟩ := by unfold tab; (repeat' split) <;> decide +kernel
theorem tab_first {t : Int} {k : Nat} {s : ByteArray} (hk : (tab t)[k]? = some s) (j : Nat) (b : ByteArray) (hj : j < k) (hb : (tab t)[j]? = some b) : b ≠ s := by
  rintro rfl
  have := (List.getElem?_inj (List.getElem?_eq_some_iff.1 hb).1 (tab_nodup t)).1 (hb.trans hk.symm)
  omega

theorem wordsGet_yes {t : Int} {k : Nat} {s : ByteArray} (hk : (tab t)[k]? = some s) (w : World) :
    Calls Tryd.prog 40 #[.int .i64 t, .string s] w fun e w' => e = .returned (.tuple #[.int .i64 ((k : Int) + 1), .bool true]) ∧ Below w.heap.size w w' :=
  wordsGet_core t s (tab t) (by have := tab_short t; omega) w k hk (tab_first hk) (fun w => wordsAll_any t w)
theorem wordsGet_no {t : Int} {s : ByteArray} (hs : s ∉ tab t) (w : World) :
    Calls Tryd.prog 40 #[.int .i64 t, .string s] w fun e w' => e = .returned (.tuple #[.int .i64 0, .bool false]) ∧ Below w.heap.size w w' :=
  wordsGet_none t s (tab t) (by have := tab_short t; omega) w (fun j b hb e => hs (e ▸ List.mem_of_getElem? hb)) (fun w => wordsAll_any t w)
end Go.Proofs.YtcjnhgafifkfeaaDoor
/- Texts, lists of texts and rows of octets in memory. -/
namespace Go.Proofs.YtcjnhgafifkfeaaDoor
open Go.RowKit
set_option linter.unusedVariables false

theorem Tryd.infoText : (Tryd.prog.info? 9).map (fun i => (i.zero, i.size, i.bytes)) = some (some (.string ⟨#[]⟩), 1, 16) := by kernel_rfl
theorem Tryd.infoOctet : (Tryd.prog.info? 5).map (fun i => (i.zero, i.size, i.bytes)) = some (some (.int .u8 0), 1, 1) := by kernel_rfl

/-- A text of these octets. -/
def tx (l : List UInt8) : ByteArray := ⟨l.toArray⟩
theorem tx_data (s : ByteArray) : tx s.data.toList = s := by simp [tx]
theorem data_tx (l : List UInt8) : (tx l).data.toList = l := by simp [tx]
theorem tx_size (l : List UInt8) : (tx l).size = l.length := by simp [tx, ByteArray.size]
theorem tx_append (a b : List UInt8) : tx a ++ tx b = tx (a ++ b) := ByteArray.mk_append_mk a b
theorem tx_toList (l : List UInt8) : (tx l).toList = l := by rw [ByteArray.toList_eq, data_tx]
theorem tx_same (a b : List UInt8) : ((tx a).toList == (tx b).toList) = decide (a = b) := by rw [tx_toList, tx_toList, Bool.eq_iff_iff]; simp
theorem tx_inj {a b : List UInt8} (h : tx a = tx b) : a = b := by rw [← data_tx a, h, data_tx]
theorem size_data (s : ByteArray) : s.data.toList.length = s.size := Array.length_toList
theorem tx_extract (s : ByteArray) (i j : Nat) : s.extract i j = tx ((s.data.toList.take j).drop i) := by
  apply ByteArray.ext
  apply Array.toList_inj.1
  simp [tx, List.drop_take]
theorem drop_octet {s : ByteArray} {k : Nat} (h : k < s.size) : s.data.toList.drop k = s[k] :: s.data.toList.drop (k + 1) := by
  rw [List.drop_eq_getElem_cons (by rw [size_data]; exact h)]
  rfl
theorem take_octet {s : ByteArray} {k : Nat} (h : k < s.size) : s.data.toList.take (k + 1) = s.data.toList.take k ++ [s[k]] := by
  rw [List.take_succ_eq_append_getElem (by rw [size_data]; exact h)]
  rfl
theorem cur_octet {s : ByteArray} {f k : Nat} (hf : f ≤ k) (h : k < s.size) : (s.data.toList.take (k + 1)).drop f = (s.data.toList.take k).drop f ++ [s[k]] := by
  rw [take_octet h, List.drop_append_of_le_length (by rw [List.length_take, size_data]; omega)]
theorem cur_none (s : ByteArray) (k : Nat) : (s.data.toList.take k).drop k = [] := List.drop_eq_nil_of_le (by rw [List.length_take]; omega)
theorem oct_eq (c : UInt8) (n : UInt8) : ((c.toNat : Int) == (n.toNat : Int)) = (c == n) := by
  rw [Bool.eq_iff_iff]
  simp [← UInt8.toNat_inj]
  omega

/-- v is a slice that holds the texts ls. -/
def TxS (w : World) (v : Value) (ls : List (List UInt8)) : Prop :=
  ∃ a c, v = .slice a ls.length c ∧ (ls = [] ∨ ∃ g, a = some ⟨g, 0, none⟩ ∧ (∀ i l, ls[i]? = some l → w.cell? ⟨g, i, none⟩ = some (.string (tx l))) ∧ ls.length ≤ c ∧ c ≤ maxLen)
theorem TxS.up {w w' : World} {v : Value} {ls : List (List UInt8)} (h : TxS w v ls) (hb : Below w.heap.size w w') : TxS w' v ls := by
  obtain ⟨a, c, h1, h2 | ⟨g, h2, h3, h4⟩⟩ := h
  · exact ⟨a, c, h1, .inl h2⟩
  · exact ⟨a, c, h1, .inr ⟨g, h2, fun i l hi => bl_cell hb (h3 i l hi), h4⟩⟩
theorem TxS.nil (w : World) : TxS w (.slice none 0 0) [] := ⟨none, 0, rfl, .inl rfl⟩
theorem TxS.cell {w : World} {a : Option Addr} {n c : Nat} {ls : List (List UInt8)} (h : TxS w (.slice a n c) ls) (h0 : 0 < n) : ls.length = n ∧ ∃ g, a = some ⟨g, 0, none⟩ ∧ ∀ i l, ls[i]? = some l → w.cell? ⟨g, i, none⟩ = some (.string (tx l)) := by
  obtain ⟨a', c', h1, h2⟩ := h
  injection h1 with e1 e2 e3
  subst e1 e2
  refine ⟨rfl, ?_⟩
  rcases h2 with rfl | ⟨g, h2, h3, _⟩
  · simp at h0
  · exact ⟨g, h2, h3⟩

/-- v is a slice of the call's own, from block base on, that holds the texts ls. -/
def rowT (w : World) (base : Nat) (v : Value) (ls : List (List UInt8)) : Prop := w.ownsRow base 9 1 v ls.length (ls.map fun l => .string (tx l))
theorem rowT_nil (w : World) (base : Nat) : rowT w base (.slice none 0 0) [] := World.ownsRow_nil _ _ _ _
theorem own_kept {w w' : World} {base : Nat} {e : TypeId} {z n : Nat} {v : Value} {xs : List Value} (h : w.ownsRow base e z v n xs) (hb : ∀ k, base ≤ k → k < w.heap.size → w'.heap[k]? = w.heap[k]?) : w'.ownsRow base e z v n xs := by
  obtain ⟨h0, h | ⟨g, cap, cur, h1, h2, h3, h4⟩⟩ := h
  · exact ⟨h0, .inl h⟩
  · exact ⟨h0, .inr ⟨g, cap, cur, h1, h2, (hb g h2 (Array.getElem?_eq_some_iff.1 h3).1).trans h3, h4⟩⟩
theorem rowT.kept {w w' : World} {base : Nat} {v : Value} {ls : List (List UInt8)} (h : rowT w base v ls) (hb : ∀ k, base ≤ k → k < w.heap.size → w'.heap[k]? = w.heap[k]?) : rowT w' base v ls := own_kept h hb
theorem rowT.up {w w' : World} {base : Nat} {v : Value} {ls : List (List UInt8)} (h : rowT w base v ls) (hb : Below w.heap.size w w') : rowT w' base v ls := h.kept fun k _ hk => hb.block k hk
theorem rowT.texts {w : World} {base : Nat} {v : Value} {ls : List (List UInt8)} (h : rowT w base v ls) : TxS w v ls := by
  rcases h.2 with ⟨rfl, h0⟩ | ⟨g, cap, cur, rfl, hb, hg, hcap, hmax, hsz, htk⟩
  · exact ⟨none, 0, by rw [h0], .inl (List.eq_nil_of_length_eq_zero h0)⟩
  · refine ⟨some ⟨g, 0, none⟩, cap, rfl, .inr ⟨g, rfl, fun i l hi => ?_, by omega, by omega⟩⟩
    have := h.cells (g := g) rfl i (.string (tx l)) (by simp [hi])
    rwa [show (⟨g, 0, none⟩ : Addr).add i = ⟨g, i, none⟩ by unfold Addr.add; split <;> simp_all] at this

/-- append, of one text, to a row of the call's own. -/
theorem wpList_append_text {u : World} {ops : Array Oper} {rest : List Oper} {o : Oper} {a : Act} {Q : Exit → Act → World → Prop} (hgd : o.guard = none) (s x : Operand)
    (ho : o.op = .call { callee := .builtin .append, args := #[s, x], argTypes := #[27, 27] })
    (base : Nat) (v : Value) (ls : List (List UInt8)) (hs : a.eval s = v) (hown : rowT u base v ls) (hbase : base ≤ u.heap.size)
    (p : ByteArray) (l : List UInt8) (hp : p = tx l) (hx : a.eval x = .slice (some ⟨u.heap.size, 0, none⟩) 1 1) (hl : ls.length ≤ 1000000)
    (h : ∀ v' w', rowT w' base v' (ls ++ [l]) → Below base u w' → wpList Tryd.prog ops Q rest (a.put o.dst v') w') : wpList Tryd.prog ops Q (o :: rest) a (u.alloc (.cells #[.string p] 9)) := by
  subst hp
  obtain ⟨i0, hi, hz0, hz1, hz2⟩ := info_parts Tryd.infoText
  refine wpList_append_lies _ hgd s x 27 ho base 9 i0 _ 1 16 Tryd.underlying27 hi hz0 hz1 hz2 rfl (by omega) v ls.length _ hs (World.ownsRow.alloc hown _) ⟨u.heap.size, 0, none⟩ 1 1 [.string (tx l)] hx rfl ?_ ?_ (by omega) (by unfold maxLen; omega) (by omega) (by simp; omega) _ rfl ?_
  · exact World.news_of_block (cs := #[.string (tx l)]) (t := 9) (fr := (0, 0)) (heap_alloc_new u _)
  · intro y hy; simp at hy; subst hy; rfl
  intro g cap w1 hown1 hgrow hat hlt
  refine h _ w1 ?_ (Below.grown ((Below.refl _ _).alloc hbase _) hgrow (by simp; omega) (fun k hk => (hown.lt k hk).1))
  unfold rowT
  rw [List.length_append, List.map_append]
  exact hown1

/-- v is a row of octets of the call's own, from block base on. -/
def encO (l : List UInt8) : List Value := l.map fun c => .int .u8 (c.toNat : Int)
def rowB (w : World) (base : Nat) (v : Value) (l : List UInt8) : Prop := w.ownsRow base 5 1 v l.length (encO l)
theorem rowB_nil (w : World) (base : Nat) : rowB w base (.slice none 0 0) [] := World.ownsRow_nil _ _ _ _
theorem rowB.kept {w w' : World} {base : Nat} {v : Value} {l : List UInt8} (h : rowB w base v l) (hb : ∀ k, base ≤ k → k < w.heap.size → w'.heap[k]? = w.heap[k]?) : rowB w' base v l := own_kept h hb
theorem rowB.up {w w' : World} {base : Nat} {v : Value} {l : List UInt8} (h : rowB w base v l) (hb : Below w.heap.size w w') : rowB w' base v l := h.kept fun k _ hk => hb.block k hk
/-- append, of one octet, to a row of the call's own. -/
theorem wpList_append_octet {u : World} {ops : Array Oper} {rest : List Oper} {o : Oper} {a : Act} {Q : Exit → Act → World → Prop} (hgd : o.guard = none) (s x : Operand)
    (ho : o.op = .call { callee := .builtin .append, args := #[s, x], argTypes := #[96, 96] })
    (base : Nat) (v : Value) (l : List UInt8) (hs : a.eval s = v) (hown : rowB u base v l) (hbase : base ≤ u.heap.size)
    (n : Int) (c : UInt8) (hc : n = (c.toNat : Int)) (hx : a.eval x = .slice (some ⟨u.heap.size, 0, none⟩) 1 1) (hl : l.length ≤ 1000000000)
    (h : ∀ v' w', rowB w' base v' (l ++ [c]) → Below base u w' → wpList Tryd.prog ops Q rest (a.put o.dst v') w') : wpList Tryd.prog ops Q (o :: rest) a (u.alloc (.cells #[.int .u8 n] 5)) := by
  subst hc
  obtain ⟨i0, hi, hz0, hz1, hz2⟩ := info_parts Tryd.infoOctet
  refine wpList_append_lies _ hgd s x 96 ho base 5 i0 _ 1 1 Tryd.underlying96 hi hz0 hz1 hz2 rfl (by omega) v l.length _ hs (World.ownsRow.alloc hown _) ⟨u.heap.size, 0, none⟩ 1 1 [.int .u8 (c.toNat : Int)] hx rfl ?_ ?_ (by omega) (by unfold maxLen; omega) (by omega) (by simp; omega) _ rfl ?_
  · exact World.news_of_block (cs := #[.int .u8 (c.toNat : Int)]) (t := 5) (fr := (0, 0)) (heap_alloc_new u _)
  · intro y hy; simp at hy; subst hy; rfl
  intro g cap w1 hown1 hgrow hat hlt
  refine h _ w1 ?_ (Below.grown ((Below.refl _ _).alloc hbase _) hgrow (by simp; omega) (fun k hk => (hown.lt k hk).1))
  unfold rowB encO
  rw [List.length_append, List.map_append]
  exact hown1
/-- A row of octets, as a text. -/
theorem rowB.text {w : World} {base : Nat} {v : Value} {l : List UInt8} (h : rowB w base v l) : (convert 96 9 v).run Tryd.prog w = .ok (.string (tx l)) w := by
  rcases h.2 with ⟨rfl, h0⟩ | ⟨g, cap, cur, rfl, hb, hg, hcap, hmax, hsz, htk⟩
  · obtain rfl := List.eq_nil_of_length_eq_zero h0
    rw [run_convert_bytes_string w 96 9 5 none 0 0 Tryd.underlying96 Tryd.underlying5 Tryd.underlying9]
    rfl
  · refine run_convert_bytes_back w 96 9 5 ⟨g, 0, none⟩ cap l Tryd.underlying96 Tryd.underlying5 Tryd.underlying9 ?_
    intro j hj
    exact h.cells (g := g) rfl j _ (by simp [encO, hj])
/-- A block of one octet, just made, is a row of the call's own. -/
theorem rowB_one (w : World) (base : Nat) (c : UInt8) (hb : base ≤ w.heap.size) : rowB (w.alloc (.cells #[.int .u8 (c.toNat : Int)] 5)) base (.slice (some ⟨w.heap.size, 0, none⟩) 1 1) [c] :=
  ⟨rfl, .inr ⟨w.heap.size, 1, _, rfl, hb, heap_alloc_new w _, Nat.le_refl _, by decide, rfl, rfl⟩⟩
end Go.Proofs.YtcjnhgafifkfeaaDoor
