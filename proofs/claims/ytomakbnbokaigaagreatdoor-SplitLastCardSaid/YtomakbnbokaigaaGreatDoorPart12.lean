/- Part 12 of the texts that the proofs of this seat share: SplitMath, SchemeSame, JobWant, SplitFolds, SpineCode, SpineBlk, SpineNests, SchemeTell. -/
import Derived.Test.YtomakbnbokaigaaGreatDoorPart4
import Derived.Test.YtomakbnbokaigaaGreatDoorPart11
import Derived.Test.YtomakbnbokaigaaGreatDoorPart1
import Derived.Test.YtomakbnbokaigaaGreatDoorPart5
import Derived.Deep.RegionHeld3
import Derived.Deep.DeepCutAuto
import Derived.BigRegion
import Derived.Test.YtomakbnbokaigaaGreatDoorPart3
/- What split asks of a job, as plain functions: whether its folds and its last ones are right, and which signatures it has. -/
namespace Go.Proofs.YtomakbnbokaigaaGreatDoor
open Go.RowKit
set_option linter.unusedVariables false

theorem find_right {nm : List UInt8} {s : Sc} (h : findM nm = some s) : rightM s = true := by
  have key : ∀ e ∈ catS, rightM e.2 = true := by decide +kernel
  exact key _ (find_some h)
/-- How many panels a scheme has. -/
def panS (s : Sc) : Int := panM s.c s.r
theorem right_pan {s : Sc} (h : rightM s = true) : 1 ≤ panS s ∧ panS s ≤ 64 := by
  unfold rightM at h
  simp only [Bool.and_eq_true, decide_eq_true_eq] at h
  exact ⟨h.1.1, h.1.2⟩
theorem pan_ge (s : Sc) : 0 ≤ panS s ∧ panS s ≤ 4096 := by
  unfold panS panM
  split
  next h => have := pan_in h; omega
  next => omega
/-- Are a job's folds right? -/
def foldsM (j : Jb) : Bool := if j.n 10 = 3 then decide (j.f.l.length = 0) && (decide (1 ≤ panS j.f) && decide (panS j.f ≤ 64)) else rightM j.f
theorem folds_pan {j : Jb} (h : foldsM j = true) : (1 ≤ panS j.f ∧ panS j.f ≤ 64) ∧ j.f.l.length ≤ 6 := by
  unfold foldsM at h
  split at h
  · simp only [Bool.and_eq_true, decide_eq_true_eq] at h
    exact ⟨⟨h.2.1, h.2.2⟩, by omega⟩
  · exact ⟨right_pan h, (right_bounds h).2.2.2.1⟩
/-- May the scheme of that name be one of the job's last ones? -/
def endB (b p : Int) (nm : List UInt8) : Bool := (findM nm).isSome && (decide (panS ((findM nm).getD zeroSc) < p) && (!decide (b = 1) || nestM ((findM nm).getD zeroSc).c (pcR ((findM nm).getD zeroSc))))
/-- How many last ones may be. -/
def mostM (b : Int) : Nat := if b = 3 ∨ b = 4 then 0 else 4
def endsM (j : Jb) : Bool := decide (j.ls.length ≤ mostM (j.n 10)) && j.ls.all (endB (j.n 10) (panS j.f))
def lastM (j : Jb) : Bool := foldsM j && endsM j
/-- Has the job signatures? -/
def partB (j : Jb) : Bool := lastM j && (decide (1 ≤ j.n 0) && decide (j.n 0 ≤ 100000))
/-- How many signatures there are ahead of the last one, of so many pages. -/
def othersM (n p : Int) : Int := (n - 1).tdiv (2 * p)
def restM2 (n p : Int) : Int := n - othersM n p * (2 * p)
/-- The scheme of the last signature, as far as the names are gone through. -/
def lessM (p : Int) (b : Sc) (nm : List UInt8) : Sc := if p ≤ 2 * panS ((findM nm).getD zeroSc) ∧ panS ((findM nm).getD zeroSc) < panS b then (findM nm).getD zeroSc else b
def endM (j : Jb) (p : Int) : Sc := j.ls.foldl (lessM p) j.f
def lastS (j : Jb) : Sc := endM j (restM2 (j.n 0) (panS j.f))
/-- All signatures' schemes. -/
def ofM (j : Jb) : List Sc := if partB j = true then List.replicate (othersM (j.n 0) (panS j.f)).toNat j.f ++ [lastS j] else []

theorem others_bounds {n p : Int} (h1 : 1 ≤ n) (h2 : n ≤ 100000) (p1 : 1 ≤ p) : 0 ≤ othersM n p ∧ othersM n p < 50000 ∧ 1 ≤ restM2 n p ∧ restM2 n p ≤ 2 * p ∧ othersM n p * (2 * p) ≤ 100000 ∧ 0 ≤ othersM n p * (2 * p) := by
  unfold restM2 othersM
  rw [Int.tdiv_eq_ediv_of_nonneg (by omega)]
  have e1 := Int.emod_nonneg (n - 1) (show 2 * p ≠ 0 by omega)
  have e2 := Int.emod_lt_of_pos (n - 1) (show 0 < 2 * p by omega)
  have e3 := Int.emod_add_mul_ediv (n - 1) (2 * p)
  have e4 : 0 ≤ (n - 1) / (2 * p) := Int.ediv_nonneg (by omega) (by omega)
  have e5 : (n - 1) / (2 * p) ≤ (n - 1) / 2 := by
    rw [← Int.ediv_ediv_of_nonneg (by omega)]
    exact Int.ediv_le_self _ (by omega)
  rw [Int.mul_comm (2 * p) ((n - 1) / (2 * p))] at e3
  generalize (n - 1) / (2 * p) = q at *
  have e6 : 0 ≤ q * (2 * p) := Int.mul_nonneg e4 (by omega)
  generalize q * (2 * p) = z at *
  omega
/-- The number of signatures ahead is the one that leaves some pages, and no more than the last one takes. -/
theorem others_one {n p k : Int} (h1 : 1 ≤ n) (p1 : 1 ≤ p) (h2 : 1 ≤ n - k * (2 * p)) (h3 : n - k * (2 * p) ≤ 2 * p) (hk : 0 ≤ k) : othersM n p = k := by
  unfold othersM
  rw [Int.tdiv_eq_ediv_of_nonneg (by omega)]
  apply Int.le_antisymm
  · have : (n - 1) / (2 * p) < k + 1 := Int.ediv_lt_of_lt_mul (by omega) (by rw [Int.add_mul]; omega)
    omega
  · exact Int.le_ediv_of_mul_le (by omega) (by omega)

theorem less_pan {p : Int} {b : Sc} {nm : List UInt8} (h : p ≤ 2 * panS b) : p ≤ 2 * panS (lessM p b nm) ∧ panS (lessM p b nm) ≤ panS b := by
  unfold lessM
  split <;> omega
theorem foldl_pan (p : Int) : ∀ (l : List (List UInt8)) (b : Sc), p ≤ 2 * panS b → p ≤ 2 * panS (l.foldl (lessM p) b) ∧ panS (l.foldl (lessM p) b) ≤ panS b
  | [], b, h => ⟨h, Int.le_refl _⟩
  | nm :: l, b, h => by
    have h1 := less_pan (nm := nm) h
    have h2 := foldl_pan p l _ h1.1
    exact ⟨h2.1, by simp only [List.foldl_cons]; omega⟩
/-- No last one with fewer panels takes what is left. -/
theorem foldl_least (p : Int) : ∀ (l : List (List UInt8)) (b : Sc), p ≤ 2 * panS b → ∀ nm ∈ l, ¬ (p ≤ 2 * panS ((findM nm).getD zeroSc) ∧ panS ((findM nm).getD zeroSc) < panS (l.foldl (lessM p) b))
  | [], b, h, nm, hm => by cases hm
  | x :: l, b, h, nm, hm => by
    have h1 := less_pan (nm := x) h
    simp only [List.foldl_cons]
    rcases List.mem_cons.1 hm with rfl | hm
    · have h2 := foldl_pan p l _ h1.1
      rintro ⟨h3, h4⟩
      have h5 : panS (lessM p b nm) ≤ panS ((findM nm).getD zeroSc) := by
        unfold lessM
        split <;> omega
      omega
    · exact foldl_least p l _ h1.1 nm hm
/-- A scheme that may come out: small. -/
theorem foldl_small (p : Int) : ∀ (l : List (List UInt8)) (b : Sc), b.l.length ≤ 6 ∧ 1 ≤ panS b ∧ panS b ≤ 64 → (∀ nm ∈ l, (findM nm).isSome = true) → (l.foldl (lessM p) b).l.length ≤ 6 ∧ 1 ≤ panS (l.foldl (lessM p) b) ∧ panS (l.foldl (lessM p) b) ≤ 64
  | [], b, h, _ => h
  | x :: l, b, h, hs => by
    simp only [List.foldl_cons]
    refine foldl_small p l _ ?_ (fun nm hm => hs nm (List.mem_cons_of_mem _ hm))
    unfold lessM
    split
    · have hx := hs x (List.mem_cons_self ..)
      obtain ⟨s, hs⟩ := Option.isSome_iff_exists.1 hx
      rw [hs]
      exact ⟨(right_bounds (find_right hs)).2.2.2.1, right_pan (find_right hs)⟩
    · exact h
theorem ends_found {j : Jb} (h : endsM j = true) : ∀ nm ∈ j.ls, (findM nm).isSome = true := by
  unfold endsM at h
  rw [Bool.and_eq_true] at h
  intro nm hm
  have := List.all_eq_true.1 h.2 nm hm
  unfold endB at this
  rw [Bool.and_eq_true] at this
  exact this.1
theorem ends_length {j : Jb} (h : endsM j = true) : j.ls.length ≤ 4 := by
  unfold endsM mostM at h
  rw [Bool.and_eq_true, decide_eq_true_eq] at h
  have := h.1
  split at this <;> omega
/-- What holds of a job that has signatures. -/
theorem part_facts {j : Jb} (h : partB j = true) : (1 ≤ panS j.f ∧ panS j.f ≤ 64) ∧ j.f.l.length ≤ 6 ∧ (1 ≤ j.n 0 ∧ j.n 0 ≤ 100000) ∧ j.ls.length ≤ 4 ∧ (∀ nm ∈ j.ls, (findM nm).isSome = true)
    ∧ (lastS j).l.length ≤ 6 ∧ (1 ≤ panS (lastS j) ∧ panS (lastS j) ≤ panS j.f) ∧ restM2 (j.n 0) (panS j.f) ≤ 2 * panS (lastS j) := by
  unfold partB lastM at h
  simp only [Bool.and_eq_true, decide_eq_true_eq] at h
  obtain ⟨⟨h1, h2⟩, h3, h4⟩ := h
  obtain ⟨p1, p2⟩ := folds_pan h1
  have hs := ends_found h2
  obtain ⟨b1, b2, b3, b4, -⟩ := others_bounds h3 h4 p1.1
  have hf := foldl_pan (restM2 (j.n 0) (panS j.f)) j.ls j.f b4
  have hsm := foldl_small (restM2 (j.n 0) (panS j.f)) j.ls j.f ⟨p2, p1.1, p1.2⟩ hs
  exact ⟨p1, p2, ⟨h3, h4⟩, ends_length h2, hs, hsm.1, ⟨hsm.2.1, hf.2⟩, hf.1⟩
theorem part_last {j : Jb} (h : partB j = true) : lastM j = true := by
  unfold partB at h
  rw [Bool.and_eq_true] at h
  exact h.1

/-- How many signatures, and how many panels all have. -/
def cntS (j : Jb) : Int := if partB j = true then othersM (j.n 0) (panS j.f) + 1 else 0
def leavesS (j : Jb) : Int := if partB j = true then othersM (j.n 0) (panS j.f) * panS j.f + panS (lastS j) else 0
def blanksS (j : Jb) : Int := if partB j = true then 2 * leavesS j - j.n 0 else 0
theorem of_length (j : Jb) : ((ofM j).length : Int) = cntS j := by
  unfold ofM cntS
  split
  next h =>
    obtain ⟨p1, p2, p3, -⟩ := part_facts h
    have := others_bounds p3.1 p3.2 p1.1
    simp
    omega
  next => rfl
theorem of_small (j : Jb) : (ofM j).length ≤ 50000 := by
  have := of_length j
  unfold cntS at this
  split at this
  next h =>
    obtain ⟨p1, p2, p3, -⟩ := part_facts h
    have := others_bounds p3.1 p3.2 p1.1
    omega
  next => omega
/-- The i-th signature's scheme. -/
theorem of_at {j : Jb} (h : partB j = true) (k : Nat) (hk : (k : Int) < cntS j) : (ofM j)[k]? = some (if (k : Int) = cntS j - 1 then lastS j else j.f) := by
  obtain ⟨p1, p2, p3, -⟩ := part_facts h
  have hb := others_bounds p3.1 p3.2 p1.1
  unfold ofM
  unfold cntS at hk ⊢
  rw [if_pos h] at hk ⊢
  rw [if_pos h]
  by_cases hk2 : k < (othersM (j.n 0) (panS j.f)).toNat
  · rw [List.getElem?_append_left (by simpa using hk2), if_neg (by omega)]
    simp [hk2]
  · rw [List.getElem?_append_right (by simp; omega), if_pos (by omega)]
    rw [List.length_replicate, show k - (othersM (j.n 0) (panS j.f)).toNat = 0 by omega]
    rfl
def sumS (l : List Sc) : Int := (l.map panS).sum
theorem sum_snoc (l : List Sc) (s : Sc) : sumS (l ++ [s]) = sumS l + panS s := by simp [sumS]
theorem sum_rep (n : Nat) (s : Sc) : sumS (List.replicate n s) = n * panS s := by
  induction n with
  | zero => simp [sumS]
  | succ n ih => rw [List.replicate_succ', sum_snoc, ih, Int.natCast_succ, Int.add_mul, Int.one_mul]
theorem of_sum (j : Jb) : sumS (ofM j) = leavesS j := by
  unfold ofM leavesS
  split
  next h =>
    obtain ⟨p1, p2, p3, -⟩ := part_facts h
    have hb := others_bounds p3.1 p3.2 p1.1
    rw [sum_snoc, sum_rep, Int.toNat_of_nonneg hb.1]
  next => rfl
theorem of_scheme (j : Jb) : ∀ s ∈ ofM j, s.l.length ≤ 6 ∧ 1 ≤ panS s ∧ panS s ≤ 64 := by
  intro s hs
  unfold ofM at hs
  split at hs
  next h =>
    obtain ⟨p1, p2, p3, p4, p5, p6, p7, p8⟩ := part_facts h
    rcases List.mem_append.1 hs with hs | hs
    · have := List.eq_of_mem_replicate hs
      subst this
      exact ⟨p2, p1⟩
    · simp at hs
      subst hs
      exact ⟨p6, p7.1, by omega⟩
  next => cases hs
/-- What SplitBlanks says. -/
theorem blanks_right {j : Jb} (h : partB j = true) : 0 ≤ blanksS j ∧ blanksS j < 2 * panS j.f ∧ 2 * leavesS j = j.n 0 + blanksS j ∧ (cntS j - 1) * (2 * panS j.f) < j.n 0 ∧ cntS j * (2 * panS j.f) ≥ j.n 0 := by
  obtain ⟨p1, p2, p3, p4, p5, p6, p7, p8⟩ := part_facts h
  have hb := others_bounds p3.1 p3.2 p1.1
  unfold blanksS leavesS cntS
  rw [if_pos h]
  simp only [h, if_true]
  unfold restM2 at p8 hb
  generalize panS (lastS j) = e at *
  generalize othersM (j.n 0) (panS j.f) = q at *
  generalize panS j.f = p at *
  have e1 : q * (2 * p) = 2 * (q * p) := by rw [← Int.mul_assoc, Int.mul_comm q 2, Int.mul_assoc]
  have e2 : (q + 1) * (2 * p) = 2 * (q * p) + 2 * p := by rw [Int.add_mul, e1]; omega
  have e3 : (q + 1 - 1) * (2 * p) = 2 * (q * p) := by rw [Int.add_sub_cancel, e1]
  rw [e2, e3]
  rw [e1] at hb p8
  generalize q * p = z at *
  omega
end Go.Proofs.YtomakbnbokaigaaGreatDoor
/- What slices.Equal at steps, scheme.Same and the document's own Same answer: for all schemes. -/
namespace Go.Proofs.YtomakbnbokaigaaGreatDoor
open Go.RowKit
set_option linter.unusedVariables false

theorem run_neP (p q : Sp) (w : World) : (binOp .neq 52 (.agg #[.int .i64 p.d, .int .i64 p.n, .bool p.u]) (.agg #[.int .i64 q.d, .int .i64 q.n, .bool q.u])).run Tryz.prog w = .ok (.bool (!decide (p = q))) w := by
  obtain ⟨a, b, c⟩ := p
  obtain ⟨a', b', c'⟩ := q
  by_cases h0 : a = a' <;> by_cases h1 : b = b' <;> by_cases h2 : c = c'
  all_goals simp [go_sem, h0, h1, h2]

def EqRel (l1 l2 : List Sp) (F : Bool) (n : Nat) (w : World) (i : Value) (wr : World) : Prop :=
  ∃ k : Nat, k ≤ n ∧ i = .int .i64 (k : Int) ∧ Hid (decide (l1.drop k = l2.drop k) = F) ∧ ∃ u : Later w, wr = u.now
theorem eq_step {l1 l2 : List Sp} {k : Nat} {p q : Sp} (h1 : l1[k]? = some p) (h2 : l2[k]? = some q) : decide (l1.drop k = l2.drop k) = (decide (p = q) && decide (l1.drop (k + 1) = l2.drop (k + 1))) := by
  rw [drop_step h1, drop_step h2, Bool.eq_iff_iff]
  simp

theorem eqSc (s t : Sc) : decide (s = t) = ((s.c == t.c) && ((s.r == t.r) && decide (s.l = t.l))) := by
  obtain ⟨a, b, c⟩ := s
  obtain ⟨a', b', c'⟩ := t
  rw [Bool.eq_iff_iff]
  simp

def EqRel2 (l1 l2 : List Sp) (F : Bool) (n : Nat) (w : World) (i : Value) (wr : World) : Prop :=
  ∃ k : Nat, k ≤ n ∧ i = .int .i64 (k : Int) ∧ Hid (decide (l1.drop k = l2.drop k) = F) ∧ ∃ u : Later w, wr = u.now

set_option maxHeartbeats 1000000 in
theorem refSame_no (c r c' r' : Int) (a b : Option Addr) (n m k d : Nat) (w : World) (u1 u2 u3 : Bool) (e1 : (c != c') = u1) (e2 : (r != r') = u2) (e3 : ((n : Int) != (m : Int)) = u3) (h : u1 = true ∨ u2 = true ∨ u3 = true) :
    Calls Tryz.prog 18 #[.agg #[.int .i64 c, .int .i64 r, .slice a n k], .agg #[.int .i64 c', .int .i64 r', .slice b m d]] w fun e w' => e = .returned (.bool false) ∧ Below w.heap.size w w' := by
  cases u1
  · cases u2
    · obtain rfl : u3 = true := by simpa using h
      clear h
      go_enter Tryz.func18, Tryz.ntmps18
      go_wp2
      go_ret
      exact ⟨rfl, up_alloc (up_alloc (Below.refl _ _) _) _⟩
    · clear h e3
      go_enter Tryz.func18, Tryz.ntmps18
      go_wp2
      go_ret
      exact ⟨rfl, up_alloc (up_alloc (Below.refl _ _) _) _⟩
  · clear h e2 e3
    go_enter Tryz.func18, Tryz.ntmps18
    go_wp2
    go_ret
    exact ⟨rfl, up_alloc (up_alloc (Below.refl _ _) _) _⟩

set_option maxHeartbeats 2000000 in
theorem refSame_yes (c r : Int) (a b : Option Addr) (l1 l2 : List Sp) (n m d : Nat) (w : World) (hl : n ≤ 1000000) (hn1 : l1.length = n) (hn2 : l2.length = n) (h1 : InL w a l1) (h2 : InL w b l2) :
    Calls Tryz.prog 18 #[.agg #[.int .i64 c, .int .i64 r, .slice a n m], .agg #[.int .i64 c, .int .i64 r, .slice b n d]] w fun e w' => e = .returned (.bool (decide (l1 = l2))) ∧ Below w.heap.size w w' := by
  obtain ⟨F, hF⟩ : ∃ F, decide (l1 = l2) = F := ⟨_, rfl⟩
  rw [hF]
  have HF := Lib.hid hF; have H1 := Lib.hid h1; have H2 := Lib.hid h2; have N1 := Lib.hid hn1; have N2 := Lib.hid hn2
  clear hF h1 h2 hn1 hn2
  go_enter Tryz.func18, Tryz.ntmps18
  go_wp2
  have A0 := (Bx.new w 26 [.int .i64 c, .int .i64 r, .slice a n m]).alloc (.cells #[.int .i64 c, .int .i64 r, .slice b n d] 26)
  have A1 := Bx.new (w.alloc (.cells #[.int .i64 c, .int .i64 r, .slice a n m] 26)) 26 [.int .i64 c, .int .i64 r, .slice b n d]
  have B1 : Below w.heap.size w ((w.alloc (.cells #[.int .i64 c, .int .i64 r, .slice a n m] 26)).alloc (.cells #[.int .i64 c, .int .i64 r, .slice b n d] 26)) := up_alloc (up_alloc (Below.refl _ _) _) _
  simp only [World.size_alloc] at A1
  have x2 := A0.cell 2 rfl; have y2 := A1.cell 2 rfl
  have HB1 := Lib.hid B1
  clear A0 A1 B1
  generalize hw0 : ((w.alloc (.cells #[.int .i64 c, .int .i64 r, .slice a n m] 26)).alloc (.cells #[.int .i64 c, .int .i64 r, .slice b n d] 26)) = w0 at *
  clear hw0
  go_loopw [5] (fun i wr => EqRel2 l1 l2 F n w0 i wr) (fun i _ => n - (intOf i).toNat)
  case atStart => exact ⟨0, by omega, by go_num, HF.out, ⟨w0, Below.refl _ _⟩, rfl⟩
  case round =>
    obtain ⟨k, hk, rfl, HM, u, rfl⟩ := hrel
    have s2 := u.cell x2
    by_cases hlt : k < n
    · obtain ⟨p, hp⟩ : ∃ p, l1[k]? = some p := ⟨l1[k]'(by rw [N1.out]; exact hlt), List.getElem?_eq_getElem _⟩
      obtain ⟨q, hq⟩ : ∃ q, l2[k]? = some q := ⟨l2[k]'(by rw [N2.out]; exact hlt), List.getElem?_eq_getElem _⟩
      obtain ⟨b1, o1, rfl, hc1⟩ := H1.out.resolve_left (by rintro rfl; cases hp)
      obtain ⟨b2, o2, rfl, hc2⟩ := H2.out.resolve_left (by rintro rfl; cases hq)
      obtain ⟨p0, p1, p2⟩ := (hc1.up HB1.out) k p hp
      obtain ⟨q0, q1, q2⟩ := (hc2.up HB1.out) k q hq
      have j0 := fun u : Later w0 => u.cell p0
      have j1 := fun u : Later w0 => u.cell p1
      have j2 := fun u : Later w0 => u.cell p2
      have i0 := fun u : Later w0 => u.cell q0
      have i1 := fun u : Later w0 => u.cell q1
      have i2 := fun u : Later w0 => u.cell q2
      have g0 := fun u : Later w0 => u.cell x2
      have g1 := fun u : Later w0 => u.cell y2
      have hd := eq_step hp hq
      have hne := fun w => run_neP p q w
      have z0 : (0 : Int) ≤ (k : Int) := by omega
      have z1 : (k : Int) < (n : Int) := by omega
      have HH := Lib.hid HM.out
      rw [hd] at HH
      clear hc1 hc2 p0 p1 p2 q0 q1 q2 hp hq hd HM
      generalize decide (p = q) = e at *
      obtain ⟨pd, pn, pu⟩ := p
      obtain ⟨qd, qn, qu⟩ := q
      simp only at j0 j1 j2 i0 i1 i2 hne
      cases e
      · have E := Lib.hid (show F = false by rw [← HH.out]; rfl)
        clear HH
        simp only [Bool.not_false] at hne
        go_wp2
        refine wp_region_later (by kernel_rfl) (by kernel_rfl) ?_
        repeat (go_big_quiet_step (fail))
        refine wpQuiet_nil ?_
        rintro _ ⟨u2, rfl⟩
        clear j0 j1 j2 i0 i1 i2 g0 g1 hne
        go_wp2
        go_ret
        exact ⟨by rw [E.out]; rfl, up_trans HB1.out u2.up⟩
      · have E := Lib.hid (show decide (l1.drop (k + 1) = l2.drop (k + 1)) = F by rw [← HH.out]; simp)
        clear HH
        simp only [Bool.not_true] at hne
        go_wp2
        refine wp_region_later (by kernel_rfl) (by kernel_rfl) ?_
        repeat (go_big_quiet_step (fail))
        refine wpQuiet_nil ?_
        rintro _ ⟨u2, rfl⟩
        clear j0 j1 j2 i0 i1 i2 g0 g1 hne
        go_wp2
        go_roundw
        case rel => exact ⟨k + 1, by omega, by go_num, E, u2, rfl⟩
        case measure => simp [intOf]; omega
    · obtain rfl : k = n := by omega
      have E := Lib.hid (show F = true by rw [← HM.out, List.drop_of_length_le (by rw [N1.out]; omega), List.drop_of_length_le (by rw [N2.out]; omega)]; simp)
      clear HM
      go_wp2
      go_ret
      exact ⟨by rw [E.out]; rfl, up_trans HB1.out u.up⟩

theorem refSame_any (s t : Sc) (a b : Option Addr) (k d : Nat) (w : World) (hl : s.l.length ≤ 1000000) (h1 : InL w a s.l) (h2 : InL w b t.l) :
    Calls Tryz.prog 18 #[.agg #[.int .i64 s.c, .int .i64 s.r, .slice a s.l.length k], .agg #[.int .i64 t.c, .int .i64 t.r, .slice b t.l.length d]] w fun e w' => e = .returned (.bool (decide (s = t))) ∧ Below w.heap.size w w' := by
  by_cases h : s.c = t.c ∧ s.r = t.r ∧ s.l.length = t.l.length
  · obtain ⟨e1, e2, e3⟩ := h
    have hd : decide (s = t) = decide (s.l = t.l) := by rw [eqSc, e1, e2]; simp
    rw [hd, e1, e2, ← e3]
    exact refSame_yes _ _ a b s.l t.l _ k d w hl rfl e3.symm h1 h2
  · have hd : decide (s = t) = false := by
      rw [decide_eq_false_iff_not]
      rintro rfl
      exact h ⟨rfl, rfl, rfl⟩
    rw [hd]
    refine refSame_no s.c s.r t.c t.r a b _ _ k d w _ _ _ rfl rfl rfl ?_
    simp only [bne_iff_ne, ne_eq]
    omega
end Go.Proofs.YtomakbnbokaigaaGreatDoor
/- A load of a job by an operation that bears a guard. -/
namespace Go.Proofs.YtomakbnbokaigaaGreatDoor
open Go.RowKit
set_option linter.unusedVariables false
section
variable {ops : Array Oper} {rest : List Oper} {o : Oper} {a : Act} {w : World} {Q : Exit → Act → World → Prop} {C : World → Prop} {K : Act → Prop}
/-- A job is loaded by an operation that bears a guard, and is wanted. -/
theorem wpList_load_job_want (x : Operand) (ho : o.op = .load 29 x) (hw : Region.wanted o (yielded ops a.tmps) = true) (b : Nat) (hx : a.eval x = .pointer (some ⟨b, 0, none⟩)) (cs : List Value) (hb : Bx w b cs) (hl : cs.length = 33)
    (h : wpList Tryz.prog ops Q rest (a.put o.dst (.agg cs.toArray)) w) : wpList Tryz.prog ops Q (o :: rest) a w := by
  unfold wpList
  rw [if_pos hw]
  refine .inl ?_
  unfold Oper.wp execOp
  simp only [ho, hx, Instr.loadAt, Instr.sureAddr, Sem.run_bind, Sem.run_pure, Result.andThen_ok, run_loadVar_mid w b 0 29 cs _ hb.range Tryz.underlying29 rfl (by rw [hl]; exact infoJob)]
  exact h
end
end Go.Proofs.YtomakbnbokaigaaGreatDoor
/- What split.Folds, mostLast and takes answer, and the reference's Folds. -/
namespace Go.Proofs.YtomakbnbokaigaaGreatDoor
open Go.RowKit
set_option linter.unusedVariables false
set_option linter.unusedSimpArgs false

/-- A scheme with too many steps is not right, however many they are. -/
theorem schRight_long (c r : Int) (a : Option Addr) (n cap : Nat) (w : World) (hn : 6 < n) :
    Calls Tryz.prog 25 #[.agg #[.int .i64 c, .int .i64 r, .slice a n cap]] w fun e w' => e = .returned (.bool false) ∧ Below w.heap.size w w' := by
  have KP := fun w => schPanels_any c r a n cap w
  have KI := fun w => in_any (panM c r) 1 64 w
  generalize panM c r = p at *
  generalize (decide (1 ≤ p) && decide (p ≤ 64)) = u2 at *
  have e1 : decide ((6 : Int) < (n : Int)) = true := by simp; omega
  have HP := Lib.hid KP; have HI := Lib.hid KI
  clear KP KI hn
  cases u2
  · clear e1
    go_enter Tryz.func25, Tryz.ntmps25
    go_wp2_with fail
    refine (HP.out _).mono ?_
    rintro e w1 ⟨rfl, hb⟩
    have B1 := Lib.hid (up_trans (up_alloc (Below.refl _ w) _) hb)
    clear hb
    go_wp2_with fail
    refine (HI.out _).mono ?_
    rintro e w2 ⟨rfl, rfl⟩
    go_wp2
    go_ret
    exact ⟨rfl, B1.out⟩
  · go_enter Tryz.func25, Tryz.ntmps25
    go_wp2_with fail
    refine (HP.out _).mono ?_
    rintro e w1 ⟨rfl, hb⟩
    have A := (Bx.new w 26 [.int .i64 c, .int .i64 r, .slice a n cap]).up hb
    have B1 := Lib.hid (up_trans (up_alloc (Below.refl _ w) _) hb)
    clear hb
    have a2 := A.cell 2 rfl
    go_wp2_with fail
    refine (HI.out _).mono ?_
    rintro e w2 ⟨rfl, rfl⟩
    go_wp2
    go_ret
    exact ⟨rfl, B1.out⟩
/-- What scheme.Right answers, however many steps there are. -/
theorem schRight_all (s : Sc) (a : Option Addr) (cap : Nat) (w : World) (hc : s.c ≤ 9223372036854775807) (hr : s.r ≤ 9223372036854775807) (h : InL w a s.l) :
    Calls Tryz.prog 25 #[.agg #[.int .i64 s.c, .int .i64 s.r, .slice a s.l.length cap]] w fun e w' => e = .returned (.bool (rightM s)) ∧ Below w.heap.size w w' := by
  by_cases hl : s.l.length ≤ 6
  · exact schRight_any s a cap w hc hr (by omega) h
  · have : rightM s = false := by unfold rightM; simp [hl]
    rw [this]
    exact schRight_long s.c s.r a _ cap w (by omega)

theorem spFolds_core (cs : List Value) (b c r p : Int) (a : Option Addr) (n cap : Nat) (u v z R : Bool) (w : World) (h11 : cs[11]? = some (.int .i64 b)) (h12 : cs[12]? = some (.int .i64 c)) (h13 : cs[13]? = some (.int .i64 r)) (h14 : cs[14]? = some (.slice a n cap))
    (e1 : (b == 3) = u) (e2 : decide (n = 0) = v)
    (KP : ∀ w1, Calls Tryz.prog 24 #[.agg #[.int .i64 c, .int .i64 r, .slice a n cap]] w1 fun e w' => e = .returned (.int .i64 p) ∧ Below w1.heap.size w1 w')
    (KI : ∀ w1, Calls Tryz.prog 23 #[.int .i64 p, .int .i64 1, .int .i64 64] w1 fun e w' => e = .returned (.bool z) ∧ w1 = w')
    (KR : ∀ w1, Below w.heap.size w w1 → Calls Tryz.prog 25 #[.agg #[.int .i64 c, .int .i64 r, .slice a n cap]] w1 fun e w' => e = .returned (.bool R) ∧ Below w1.heap.size w1 w') :
    Calls Tryz.prog 8 #[.agg cs.toArray] w fun e w' => e = .returned (.bool (if u = true then v && z else R)) ∧ Below w.heap.size w w' := by
  have HX := Bx.new w 29 cs
  have HB := Lib.hid (up_alloc (Below.refl w.heap.size w) (.cells cs.toArray 29))
  have c11 := HX.cell 11 h11; have c12 := HX.cell 12 h12; have c13 := HX.cell 13 h13; have c14 := HX.cell 14 h14
  have HP := Lib.hid KP; have HI := Lib.hid KI; have HR := Lib.hid KR
  have e2' : ((n : Int) == 0) = v := by rw [← e2, Bool.eq_iff_iff]; simp
  clear KP KI KR h11 h12 h13 h14 HX e2
  generalize cs.toArray = ca at *
  cases u
  · clear e2'
    go_enter Tryz.func8, Tryz.ntmps8
    go_wp2_with fail
    refine (HR.out _ HB.out).mono ?_
    rintro e w1 ⟨rfl, hb⟩
    have B1 := Lib.hid (up_trans HB.out hb)
    clear hb
    go_wp2
    go_ret
    exact ⟨rfl, B1.out⟩
  cases v
  · go_enter Tryz.func8, Tryz.ntmps8
    go_wp2
    go_ret
    exact ⟨rfl, HB.out⟩
  · go_enter Tryz.func8, Tryz.ntmps8
    go_wp2_with fail
    refine (HP.out _).mono ?_
    rintro e w1 ⟨rfl, hb⟩
    have B1 := Lib.hid (up_trans HB.out hb)
    clear hb
    go_wp2_with fail
    refine (HI.out _).mono ?_
    rintro e w2 ⟨rfl, rfl⟩
    go_wp2
    go_ret
    exact ⟨by simp, B1.out⟩

theorem refSpFolds_core (cs : List Value) (b c r p : Int) (a : Option Addr) (n cap : Nat) (u v z R : Bool) (w : World) (h11 : cs[11]? = some (.int .i64 b)) (h12 : cs[12]? = some (.int .i64 c)) (h13 : cs[13]? = some (.int .i64 r)) (h14 : cs[14]? = some (.slice a n cap))
    (e1 : (b == 3) = u) (e2 : decide (n = 0) = v)
    (KP : ∀ w1, Calls Tryz.prog 20 #[.agg #[.int .i64 c, .int .i64 r, .slice a n cap]] w1 fun e w' => e = .returned (.int .i64 p) ∧ Below w1.heap.size w1 w')
    (KI : ∀ w1, Calls Tryz.prog 26 #[.int .i64 p, .int .i64 1, .int .i64 64] w1 fun e w' => e = .returned (.bool z) ∧ w' = w1)
    (KR : ∀ w1, Below w.heap.size w w1 → Calls Tryz.prog 27 #[.agg #[.int .i64 c, .int .i64 r, .slice a n cap]] w1 fun e w' => e = .returned (.bool R) ∧ Below w1.heap.size w1 w') :
    Calls Tryz.prog 9 #[.agg cs.toArray] w fun e w' => e = .returned (.bool (if u = true then v && z else R)) ∧ Below w.heap.size w w' := by
  have HX := Bx.new w 29 cs
  have HB := Lib.hid (up_alloc (Below.refl w.heap.size w) (.cells cs.toArray 29))
  have c11 := HX.cell 11 h11; have c12 := HX.cell 12 h12; have c13 := HX.cell 13 h13; have c14 := HX.cell 14 h14
  have HP := Lib.hid KP; have HI := Lib.hid KI; have HR := Lib.hid KR
  have e2' : ((n : Int) == 0) = v := by rw [← e2, Bool.eq_iff_iff]; simp
  clear KP KI KR h11 h12 h13 h14 HX e2
  generalize cs.toArray = ca at *
  cases u
  · clear e2'
    go_enter Tryz.func9, Tryz.ntmps9
    go_wp2_with fail
    refine (HR.out _ HB.out).mono ?_
    rintro e w1 ⟨rfl, hb⟩
    have B1 := Lib.hid (up_trans HB.out hb)
    clear hb
    go_wp2
    go_ret
    exact ⟨rfl, B1.out⟩
  cases v
  · go_enter Tryz.func9, Tryz.ntmps9
    go_wp2
    go_ret
    exact ⟨rfl, HB.out⟩
  · go_enter Tryz.func9, Tryz.ntmps9
    go_wp2_with fail
    refine (HP.out _).mono ?_
    rintro e w1 ⟨rfl, hb⟩
    have B1 := Lib.hid (up_trans HB.out hb)
    clear hb
    go_wp2_with fail
    refine (HI.out _).mono ?_
    rintro e w2 ⟨rfl, rfl⟩
    go_wp2
    go_ret
    exact ⟨by simp, B1.out⟩

theorem JobA.cells {w : World} {cs : List Value} {j : Jb} (h : JobA w cs j) : ∃ a c a' c', cs[12]? = some (.int .i64 j.f.c) ∧ cs[13]? = some (.int .i64 j.f.r) ∧ cs[14]? = some (.slice a j.f.l.length c) ∧ cs[15]? = some (.slice a' j.ls.length c') ∧ InL w a j.f.l ∧ TxA w a' c' j.ls := by
  obtain ⟨a, c, a', c', rfl, h1, h2⟩ := h
  exact ⟨a, c, a', c', rfl, rfl, rfl, rfl, h1, h2⟩
/-- The sides of a job's sheet are ints. -/
def WfF (j : Jb) : Prop := j.f.c ≤ 9223372036854775807 ∧ j.f.r ≤ 9223372036854775807
theorem folds_if (j : Jb) : foldsM j = if (j.n 10 == 3) = true then decide (j.f.l.length = 0) && (decide (1 ≤ panM j.f.c j.f.r) && decide (panM j.f.c j.f.r ≤ 64)) else rightM j.f := by
  unfold foldsM panS
  simp only [beq_iff_eq]
theorem spFolds_any (cs : List Value) (j : Jb) (w : World) (h : JobA w cs j) (hf : WfF j) :
    Calls Tryz.prog 8 #[.agg cs.toArray] w fun e w' => e = .returned (.bool (foldsM j)) ∧ Below w.heap.size w w' := by
  obtain ⟨a, c, a', c', h12, h13, h14, h15, hI, hT⟩ := h.cells
  rw [folds_if]
  exact spFolds_core cs (j.n 10) j.f.c j.f.r _ a _ c _ _ _ _ w (h.num (k := 10) (by decide)) h12 h13 h14 rfl rfl (fun w1 => schPanels_any _ _ _ _ _ w1) (fun w1 => in_any _ 1 64 w1) (fun w1 hb => schRight_all j.f a c w1 hf.1 hf.2 (hI.up hb))
theorem refSpFolds_any (cs : List Value) (j : Jb) (w : World) (h : JobA w cs j) (hf : WfF j) (hl : j.f.l.length ≤ 1000000) :
    Calls Tryz.prog 9 #[.agg cs.toArray] w fun e w' => e = .returned (.bool (foldsM j)) ∧ Below w.heap.size w w' := by
  obtain ⟨a, c, a', c', h12, h13, h14, h15, hI, hT⟩ := h.cells
  rw [folds_if]
  exact refSpFolds_core cs (j.n 10) j.f.c j.f.r _ a _ c _ _ _ _ w (h.num (k := 10) (by decide)) h12 h13 h14 rfl rfl (fun w1 => refPanels_any _ _ _ _ _ w1) (fun w1 => refIn_any _ 1 64 w1) (fun w1 hb => refFine_any j.f a c w1 hf.1 hf.2 hl (hI.up hb))

theorem spMost_core (cs : List Value) (b : Int) (u v : Bool) (w : World) (h11 : cs[11]? = some (.int .i64 b)) (e1 : (b == 3) = u) (e2 : (b == 4) = v) :
    Calls Tryz.prog 28 #[.agg cs.toArray] w fun e w' => e = .returned (.int .i64 (if (u || v) = true then 0 else 4)) ∧ Below w.heap.size w w' := by
  have HX := Bx.new w 29 cs
  have HB := Lib.hid (up_alloc (Below.refl w.heap.size w) (.cells cs.toArray 29))
  have c11 := HX.cell 11 h11
  clear h11 HX
  generalize cs.toArray = ca at *
  cases u <;> cases v
  all_goals
    go_enter Tryz.func28, Tryz.ntmps28
    go_wp2
    go_ret
    exact ⟨rfl, HB.out⟩
theorem spMost_any (cs : List Value) (b : Int) (w : World) (h11 : cs[11]? = some (.int .i64 b)) :
    Calls Tryz.prog 28 #[.agg cs.toArray] w fun e w' => e = .returned (.int .i64 (mostM b)) ∧ Below w.heap.size w w' := by
  have := spMost_core cs b _ _ w h11 rfl rfl
  have e : (if ((b == 3) || (b == 4)) = true then (0 : Int) else 4) = (mostM b : Nat) := by
    unfold mostM
    simp only [Bool.or_eq_true, beq_iff_eq]
    split <;> rfl
  rw [e] at this
  exact this
theorem spTakes_any (c r : Int) (a : Option Addr) (n cap : Nat) (w : World) :
    Calls Tryz.prog 44 #[.agg #[.int .i64 c, .int .i64 r, .slice a n cap]] w fun e w' => e = .returned (.int .i64 (2 * panM c r)) ∧ Below w.heap.size w w' := by
  have KP := fun w => schPanels_any c r a n cap w
  have hp : 0 ≤ panM c r ∧ panM c r ≤ 4096 := pan_ge ⟨c, r, []⟩
  generalize panM c r = p at *
  obtain ⟨p0, p1⟩ := hp
  have HP := Lib.hid KP
  clear KP
  go_enter Tryz.func44, Tryz.ntmps44
  go_wp2_with fail
  refine (HP.out _).mono ?_
  rintro e w1 ⟨rfl, hb⟩
  have B1 := Lib.hid (up_trans (up_alloc (Below.refl _ w) _) hb)
  clear hb
  go_wp2
  go_ret
  exact ⟨rfl, B1.out⟩
end Go.Proofs.YtomakbnbokaigaaGreatDoor
/- What the methods of spine's block answer: is there such a leaf, and at which edge two leaves hang together. -/
namespace Go.Proofs.YtomakbnbokaigaaGreatDoor
open Go.RowKit
set_option linter.unusedVariables false

theorem blkHas_any (c k : Int) (a1 a2 : Option Addr) (n1 c1 n c2 : Nat) (w : World) (hn : n ≤ 64) :
    Calls Tryz.prog 67 #[.agg #[.int .i64 c, .slice a1 n1 c1, .slice a2 n c2], .int .i64 k] w fun e w' => e = .returned (.bool (decide (0 ≤ k) && decide (k ≤ (n : Int) - 1))) ∧ Below w.heap.size w w' := by
  have H := Lib.hid fun w => in_any k 0 ((n : Int) - 1) w
  go_enter Tryz.func67, Tryz.ntmps67
  go_wp2_with fail
  refine (H.out _).mono ?_
  rintro e w1 ⟨rfl, rfl⟩
  go_wp2
  go_ret
  exact ⟨rfl, up_alloc (Below.refl _ _) _⟩

set_option maxHeartbeats 1000000 in
set_option maxRecDepth 100000 in
theorem blkEdge_core (c X Y lo hi lf : Int) (fx fy u1 u2 u3 : Bool) (g1 g2 m c2 a b j : Nat) (w : World) (hm : m ≤ 64) (hc : 1 ≤ c ∧ c ≤ 64) (ha : a < m) (hb : b < m) (hj : j < m) (hlo : min X Y = lo) (hhi : max X Y = hi) (hjl : lo = (j : Int)) (hh : 0 ≤ hi ∧ hi ≤ 64)
    (x0 : w.cell? ⟨g2, a, none⟩ = some (.int .i64 X)) (y0 : w.cell? ⟨g2, b, none⟩ = some (.int .i64 Y))
    (p0 : w.cell? ⟨g1, j * 3, none⟩ = some (.int .i64 lf)) (p1 : w.cell? ⟨g1, j * 3 + 1, none⟩ = some (.bool fx)) (p2 : w.cell? ⟨g1, j * 3 + 2, none⟩ = some (.bool fy))
    (e1 : (hi == (j : Int) + 1) = u1) (e2 : (hi.tmod c != 0) = u2) (e3 : (hi == (j : Int) + c) = u3)
    (V : Int) (hV : V = if (u1 && u2) = true then (if fx = true then 1 else 2) else if u3 = true then (if fy = true then 3 else 4) else 0) :
    Calls Tryz.prog 56 #[.agg #[.int .i64 c, .slice (some ⟨g1, 0, none⟩) m m, .slice (some ⟨g2, 0, none⟩) m c2], .int .i64 (a : Int), .int .i64 (b : Int)] w fun e w' => e = .returned (.int .i64 V) ∧ Below w.heap.size w w' := by
  subst hjl
  have K1 := fun w => blkHas_any c (a : Int) (some ⟨g1, 0, none⟩) (some ⟨g2, 0, none⟩) m m m c2 w hm
  have K2 := fun w => blkHas_any c (b : Int) (some ⟨g1, 0, none⟩) (some ⟨g2, 0, none⟩) m m m c2 w hm
  rw [decide_eq_true (by omega : (0 : Int) ≤ (a : Int)), decide_eq_true (by omega : (a : Int) ≤ (m : Int) - 1)] at K1
  rw [decide_eq_true (by omega : (0 : Int) ≤ (b : Int)), decide_eq_true (by omega : (b : Int) ≤ (m : Int) - 1)] at K2
  simp only [Bool.and_self] at K1 K2
  have e2' : (hi % c != 0) = u2 := by rw [← Int.tmod_eq_emod_of_nonneg hh.1]; exact e2
  have H1 := Lib.hid K1; have H2 := Lib.hid K2
  have B0 := Lib.hid (up_alloc (Below.refl _ w) (.cells #[.int .i64 c, .slice (some ⟨g1, 0, none⟩) m m, .slice (some ⟨g2, 0, none⟩) m c2] 75))
  have HC := Lib.hid (And.intro x0 (And.intro y0 (And.intro p0 (And.intro p1 p2))))
  clear K1 K2 x0 y0 p0 p1 p2
  have z0 : (0 : Int) ≤ (a : Int) := by omega
  have z1 : (a : Int) < (m : Int) := by omega
  have z2 : (0 : Int) ≤ (b : Int) := by omega
  have z3 : (b : Int) < (m : Int) := by omega
  have z4 : (0 : Int) ≤ (j : Int) := by omega
  have z5 : (j : Int) < (m : Int) := by omega
  have hc0 : c ≠ 0 := by omega
  have HE := Lib.hid (And.intro e1 (And.intro e2 (And.intro e2' e3)))
  clear e1 e2 e2' e3
  go_enter Tryz.func56, Tryz.ntmps56
  go_wp2_with fail
  refine (H1.out _).mono ?_
  rintro e w1 ⟨rfl, hb1⟩
  have A1 := (Bx.new w 75 [.int .i64 c, .slice (some ⟨g1, 0, none⟩) m m, .slice (some ⟨g2, 0, none⟩) m c2]).up hb1
  have B1 := Lib.hid (up_trans B0.out hb1)
  have a0 := A1.cell 0 rfl; have a1 := A1.cell 1 rfl; have a2 := A1.cell 2 rfl
  clear hb1
  go_wp2_with fail
  refine (H2.out _).mono ?_
  rintro e w2 ⟨rfl, hb2⟩
  have A2 := A1.up hb2
  have B2 := Lib.hid (up_trans B1.out hb2)
  clear a0 a1 a2 hb2 A1 B1
  have a0 := A2.cell 0 rfl; have a1 := A2.cell 1 rfl; have a2 := A2.cell 2 rfl
  obtain ⟨x0, y0, p0, p1, p2⟩ := HC.out
  have x0 := bl_cell B2.out x0; have y0 := bl_cell B2.out y0
  have p0 := bl_cell B2.out p0; have p1 := bl_cell B2.out p1; have p2 := bl_cell B2.out p2
  go_wp2_with fail
  refine later_start (w := w2) ?_
  intro v
  have j0 := fun v : Later w2 => v.cell a0
  have j1 := fun v : Later w2 => v.cell a1
  have j2 := fun v : Later w2 => v.cell a2
  have k0 := fun v : Later w2 => v.cell x0
  have k1 := fun v : Later w2 => v.cell y0
  have q0 := fun v : Later w2 => v.cell p0
  have q1 := fun v : Later w2 => v.cell p1
  have q2 := fun v : Later w2 => v.cell p2
  clear a0 a1 a2 x0 y0 p0 p1 p2
  refine wp_region_later (by kernel_rfl) (by kernel_rfl) ?_
  repeat (go_big_quiet_step (fail))
  refine wpQuiet_nil ?_
  rintro _ ⟨v2, rfl⟩
  have a0 := j0 v2; have a1 := j1 v2; have a2 := j2 v2
  have p0 := q0 v2; have p1 := q1 v2; have p2 := q2 v2
  have B3 := Lib.hid (up_trans B2.out v2.up)
  have b0 := ((A2.up v2.up).alloc (.cells #[.int .i64 lf, .bool fx, .bool fy] 93)).cell 0 rfl
  clear j0 j1 j2 k0 k1 q0 q1 q2 B2
  generalize v2.now = w3 at *
  clear v v2
  obtain ⟨e1, e2, e2', e3⟩ := HE.out
  have hfin : ∀ o, Below w.heap.size w (w3.alloc o) := fun o => up_alloc B3.out o
  have HF := Lib.hid hfin
  clear hfin
  cases u1
  · cases u3
    · clear e2
      obtain rfl : V = 0 := hV
      go_wp2
      go_ret
      exact ⟨rfl, HF.out _⟩
    · cases fy
      · obtain rfl : V = 4 := hV
        go_wp2
        go_ret
        exact ⟨rfl, HF.out _⟩
      · obtain rfl : V = 3 := hV
        go_wp2
        go_ret
        exact ⟨rfl, HF.out _⟩
  · cases u2
    · cases u3
      · obtain rfl : V = 0 := hV
        go_wp2
        go_ret
        exact ⟨rfl, HF.out _⟩
      · cases fy
        · obtain rfl : V = 4 := hV
          go_wp2
          go_ret
          exact ⟨rfl, HF.out _⟩
        · obtain rfl : V = 3 := hV
          go_wp2
          go_ret
          exact ⟨rfl, HF.out _⟩
    · cases fx
      · obtain rfl : V = 2 := hV
        go_wp2
        go_ret
        exact ⟨rfl, HF.out _⟩
      · obtain rfl : V = 1 := hV
        go_wp2
        go_ret
        exact ⟨rfl, HF.out _⟩
end Go.Proofs.YtomakbnbokaigaaGreatDoor
/- What spine's folded answers, at which edge two leaves of a block hang together, and spine.Edge, for every scheme and every two ints. -/
namespace Go.Proofs.YtomakbnbokaigaaGreatDoor
open Go.RowKit
set_option linter.unusedVariables false

theorem blkEdge_out (c a b : Int) (a1 a2 : Option Addr) (n1 c1 n c2 : Nat) (w : World) (hn : n ≤ 64) (h : ¬ ((0 ≤ a ∧ a < (n : Int)) ∧ 0 ≤ b ∧ b < (n : Int))) :
    Calls Tryz.prog 56 #[.agg #[.int .i64 c, .slice a1 n1 c1, .slice a2 n c2], .int .i64 a, .int .i64 b] w fun e w' => e = .returned (.int .i64 0) ∧ Below w.heap.size w w' := by
  have K1 := fun w => blkHas_any c a a1 a2 n1 c1 n c2 w hn
  have K2 := fun w => blkHas_any c b a1 a2 n1 c1 n c2 w hn
  obtain ⟨u1, hu1⟩ : ∃ u, (decide (0 ≤ a) && decide (a ≤ (n : Int) - 1)) = u := ⟨_, rfl⟩
  obtain ⟨u2, hu2⟩ : ∃ u, (decide (0 ≤ b) && decide (b ≤ (n : Int) - 1)) = u := ⟨_, rfl⟩
  have hu : u1 = false ∨ u2 = false := by
    rw [← hu1, ← hu2]
    simp only [Bool.and_eq_false_iff, decide_eq_false_iff_not]
    omega
  rw [hu1] at K1
  rw [hu2] at K2
  have H1 := Lib.hid K1; have H2 := Lib.hid K2
  have B0 := Lib.hid (up_alloc (Below.refl _ w) (.cells #[.int .i64 c, .slice a1 n1 c1, .slice a2 n c2] 75))
  clear K1 K2 h hu1 hu2
  cases u1
  · clear hu
    go_enter Tryz.func56, Tryz.ntmps56
    go_wp2_with fail
    refine (H1.out _).mono ?_
    rintro e w1 ⟨rfl, hb1⟩
    have B1 := Lib.hid (up_trans B0.out hb1)
    clear hb1
    go_wp2
    go_ret
    exact ⟨rfl, B1.out⟩
  · obtain rfl : u2 = false := by simpa using hu
    clear hu
    go_enter Tryz.func56, Tryz.ntmps56
    go_wp2_with fail
    refine (H1.out _).mono ?_
    rintro e w1 ⟨rfl, hb1⟩
    have A1 := (Bx.new w 75 [.int .i64 c, .slice a1 n1 c1, .slice a2 n c2]).up hb1
    have B1 := Lib.hid (up_trans B0.out hb1)
    have x0 := A1.cell 0 rfl; have x1 := A1.cell 1 rfl; have x2 := A1.cell 2 rfl
    clear hb1
    go_wp2_with fail
    refine (H2.out _).mono ?_
    rintro e w2 ⟨rfl, hb2⟩
    have B2 := Lib.hid (up_trans B1.out hb2)
    clear x0 x1 x2 hb2 A1 B1
    go_wp2
    go_ret
    exact ⟨rfl, B2.out⟩

/-- v is the block of scheme s. -/
def BlkV (w : World) (s : Sc) (v : Value) : Prop := ∃ b b' c', v = .agg #[.int .i64 s.c, .slice b (pcR s).length (pcR s).length, .slice b' (pcR s).length c'] ∧ GotP w b (panR s) ∧ GotN w b' (numR s)
theorem BlkV.up {w w' : World} {s : Sc} {v : Value} (h : BlkV w s v) (hb : Below w.heap.size w w') : BlkV w' s v := by
  obtain ⟨b, b', c', e, h1, h2⟩ := h
  exact ⟨b, b', c', e, h1.up hb, h2.up hb⟩
theorem edgN_bool (c x y : Int) (fx fy : Bool) : edgN c x y fx fy = if ((y == x + 1) && (y.tmod c != 0)) = true then (if fx = true then 1 else 2) else if (y == x + c) = true then (if fy = true then 3 else 4) else 0 := by
  unfold edgN
  simp only [Bool.and_eq_true, beq_iff_eq, bne_iff_ne]

theorem blkEdge_any (s : Sc) (v : Value) (a b : Int) (w : World) (hv : BlkV w s v) :
    Calls Tryz.prog 56 #[v, .int .i64 a, .int .i64 b] w fun e w' => e = .returned (.int .i64 (edgM s.c (pcR s) a b)) ∧ Below w.heap.size w w' := by
  obtain ⟨b1, b2, c', rfl, hP, hN⟩ := hv
  have hm : (pcR s).length ≤ 64 := by rw [← pcR_length]; exact (panR_length s).1
  by_cases h : (0 ≤ a ∧ a < (pcR s).length) ∧ 0 ≤ b ∧ b < (pcR s).length
  · obtain ⟨⟨ha0, ha1⟩, hb0, hb1⟩ := h
    obtain ⟨i, rfl⟩ := Int.eq_ofNat_of_zero_le ha0
    obtain ⟨k, rfl⟩ := Int.eq_ofNat_of_zero_le hb0
    have hi : i < (pcR s).length := by omega
    have hk : k < (pcR s).length := by omega
    obtain ⟨p, hp⟩ : ∃ p, (pcR s)[i]? = some p := ⟨_, List.getElem?_eq_getElem hi⟩
    obtain ⟨q, hq⟩ : ∃ q, (pcR s)[k]? = some q := ⟨_, List.getElem?_eq_getElem hk⟩
    obtain ⟨jp, hjp, ep, pp⟩ := pcR_at s i p hp
    obtain ⟨jq, hjq, eq, pq⟩ := pcR_at s k q hq
    have hc := pcR_c s (by omega)
    rw [edgM_in hp hq]
    obtain ⟨g1, rfl, hr1⟩ := hP.resolve_left (by intro e; rw [e] at pp; simp at pp)
    have np : (numR s)[i]? = some (jp : Int) := by rw [numR_eq, List.getElem?_map, hp, Option.map_some, ep]
    have nq : (numR s)[k]? = some (jq : Int) := by rw [numR_eq, List.getElem?_map, hq, Option.map_some, eq]
    obtain ⟨g2, rfl, hr2⟩ := hN.resolve_left (by intro e; rw [e] at np; simp at np)
    have x0 := hr2 _ _ np
    have y0 := hr2 _ _ nq
    unfold edgP
    rw [ep, eq]
    by_cases hle : (jp : Int) ≤ (jq : Int)
    · rw [if_pos hle]
      obtain ⟨p0, p1, p2⟩ := hr1.cells pp
      exact blkEdge_core s.c jp jq jp jq _ p.fx p.fy _ _ _ g1 g2 _ c' i k jp w hm hc hi hk hjp (Int.min_eq_left hle) (Int.max_eq_right hle) rfl (by omega) x0 y0 p0 p1 p2 rfl rfl rfl _ (edgN_bool ..)
    · rw [if_neg hle]
      obtain ⟨p0, p1, p2⟩ := hr1.cells pq
      exact blkEdge_core s.c jp jq jq jp _ q.fx q.fy _ _ _ g1 g2 _ c' i k jq w hm hc hi hk hjq (Int.min_eq_right (by omega)) (Int.max_eq_left (by omega)) rfl (by omega) x0 y0 p0 p1 p2 rfl rfl rfl _ (edgN_bool ..)
  · rw [edgM_out h]
    exact blkEdge_out _ _ _ _ _ _ _ _ _ _ hm h

/-- Lists that are new stay as they are where another block is written. -/
def NewAt (base : Nat) (b : Option Addr) : Prop := ∀ g, b = some ⟨g, 0, none⟩ → base ≤ g
theorem GotP.store {w : World} {b : Option Addr} {P : List Pn} (h : GotP w b P) {base : Nat} (hn : NewAt base b) {p : Addr} (hp : p.block < base) (x : Value) : GotP (w.setCell p x) b P := by
  rcases h with h | ⟨g, e, h⟩
  · exact .inl h
  · have := hn g e
    exact .inr ⟨g, e, h.same (Below.heap_setCell _ _ _ _ (by omega))⟩
theorem GotN.store {w : World} {b : Option Addr} {N : List Int} (h : GotN w b N) {base : Nat} (hn : NewAt base b) {p : Addr} (hp : p.block < base) (x : Value) : GotN (w.setCell p x) b N := by
  rcases h with h | ⟨g, e, h⟩
  · exact .inl h
  · have := hn g e
    exact .inr ⟨g, e, fun i y hy => (World.cell?_setCell_far _ _ _ _ (by simp only; omega)).trans (h i y hy)⟩
theorem unfOf_new (s : Sc) (a : Option Addr) (cap : Nat) (w : World) (hc : s.c ≤ 9223372036854775807) (hr : s.r ≤ 9223372036854775807) (hl : s.l.length ≤ 1000000) (hI : InL w a s.l) :
    Calls Tryz.prog 65 #[.agg #[.int .i64 s.c, .int .i64 s.r, .slice a s.l.length cap]] w fun e w' => ∃ b, e = .returned (.slice b (panR s).length (panR s).length) ∧ GotP w' b (panR s) ∧ NewAt w.heap.size b ∧ Below w.heap.size w w' := by
  cases h : rightM s
  · have e : panR s = [] := by unfold panR; rw [if_neg (by simp [h])]
    rw [e]
    exact (unfOf_no s a cap w hc hr hl hI h).mono fun _ _ ⟨h1, h2⟩ => ⟨none, h1, .inl rfl, fun _ e => by simp at e, h2⟩
  · have e : panR s = panL s := by unfold panR; rw [if_pos h]
    rw [e, panL_length, ← pcL_length]
    refine (unfOf_yes s a cap w hI h).mono fun _ _ ⟨g, h1, h2, h3, h4⟩ => ⟨_, h1, .inr ⟨g, rfl, h2⟩, fun g' e => ?_, h4⟩
    simp only [Option.some.injEq, Addr.mk.injEq] at e
    omega
theorem unfOrder_new (s : Sc) (a : Option Addr) (cap : Nat) (w : World) (hc : s.c ≤ 9223372036854775807) (hr : s.r ≤ 9223372036854775807) (hl : s.l.length ≤ 1000000) (hI : InL w a s.l) :
    Calls Tryz.prog 66 #[.agg #[.int .i64 s.c, .int .i64 s.r, .slice a s.l.length cap]] w fun e w' => ∃ b c, e = .returned (.slice b (numR s).length c) ∧ GotN w' b (numR s) ∧ NewAt w.heap.size b ∧ Below w.heap.size w w' := by
  cases h : rightM s
  · have e : numR s = [] := by unfold numR; rw [if_neg (by simp [h])]
    rw [e]
    exact (unfOrder_no s a cap w hc hr hl hI h).mono fun _ _ ⟨h1, h2⟩ => ⟨none, 0, h1, .inl rfl, fun _ e => by simp at e, h2⟩
  · have e : numR s = (pcL s).map Pc.n := by unfold numR; rw [if_pos h]
    rw [e]
    refine (unfOrder_yes s a cap w hI h).mono fun e w' ⟨v, h1, h2, h3⟩ => ?_
    have h0 : 0 < ((pcL s).map Pc.n).length := by
      obtain ⟨hc, hr, _, _, _⟩ := right_bounds h
      have hp : 1 ≤ s.c * s.r := Int.le_trans (by omega) (Int.mul_le_mul hc.1 hr.1 (by omega) (by omega) : 1 * 1 ≤ s.c * s.r)
      rw [List.length_map, pcL_length]
      omega
    obtain ⟨g, cap', rfl, hb, _, hc⟩ := rowI_form h2 h0
    refine ⟨_, _, h1, .inr ⟨g, rfl, hc⟩, fun g' e => ?_, h3⟩
    simp only [Option.some.injEq, Addr.mk.injEq] at e
    omega

set_option maxHeartbeats 1000000 in
theorem spFolded_any (s : Sc) (a : Option Addr) (cap : Nat) (w : World) (hc : s.c ≤ 9223372036854775807) (hr : s.r ≤ 9223372036854775807) (hl : s.l.length ≤ 1000000) (hI : InL w a s.l) :
    Calls Tryz.prog 55 #[.agg #[.int .i64 s.c, .int .i64 s.r, .slice a s.l.length cap]] w fun e w' => (∃ v, e = .returned v ∧ BlkV w' s v) ∧ Below w.heap.size w w' := by
  have K1 := fun w1 (h : Below w.heap.size w w1) => unfOf_new s a cap w1 hc hr hl (hI.up h)
  have K2 := fun w1 (h : Below w.heap.size w w1) => unfOrder_new s a cap w1 hc hr hl (hI.up h)
  have hn : (numR s).length = (pcR s).length := by rw [numR_eq, List.length_map]
  unfold BlkV
  rw [pcR_length] at K1
  rw [hn] at K2
  generalize (pcR s).length = m at *
  generalize panR s = P at *
  generalize numR s = N at *
  generalize s.l.length = n at *
  generalize s.c = c at *
  generalize s.r = r at *
  have H1 := Lib.hid K1; have H2 := Lib.hid K2
  clear K1 K2 hI hn
  go_enter Tryz.func55, Tryz.ntmps55
  go_wp2_with fail
  have A := (Bx.new w 26 [.int .i64 c, .int .i64 r, .slice a n cap]).alloc (.cells #[.int .i64 0, .slice none 0 0, .slice none 0 0] 75)
  have R := Bx.new (w.alloc (.cells #[.int .i64 c, .int .i64 r, .slice a n cap] 26)) 75 [.int .i64 0, .slice none 0 0, .slice none 0 0]
  simp only [World.size_alloc] at R
  have B1 := up_alloc (up_alloc (Below.refl _ w) (.cells #[.int .i64 c, .int .i64 r, .slice a n cap] 26)) (.cells #[.int .i64 0, .slice none 0 0, .slice none 0 0] 75)
  generalize (w.alloc (.cells #[.int .i64 c, .int .i64 r, .slice a n cap] 26)).alloc (.cells #[.int .i64 0, .slice none 0 0, .slice none 0 0] 75) = w1 at *
  have HB := Lib.hid B1; have HA := Lib.hid A; have HR := Lib.hid R
  have KS : ∀ w' : World, Below w1.heap.size w1 w' → w'.cell? ⟨w.heap.size, 0, none⟩ = some (.int .i64 c) ∧ w'.cell? ⟨w.heap.size, 1, none⟩ = some (.int .i64 r) ∧ w'.cell? ⟨w.heap.size, 2, none⟩ = some (.slice a n cap) := fun w' h =>
    have X := A.up h
    ⟨X.cell 0 rfl, X.cell 1 rfl, X.cell 2 rfl⟩
  have hsz : w1.heap.size > w.heap.size + 1 := R.lt
  have HKS := Lib.hid KS
  clear B1 A R KS
  go_region_held3 (fun w' => w'.cell? ⟨w.heap.size, 0, none⟩ = some (.int .i64 c) ∧ w'.cell? ⟨w.heap.size, 1, none⟩ = some (.int .i64 r) ∧ w'.cell? ⟨w.heap.size, 2, none⟩ = some (.slice a n cap))
    ((first | (refine HKS.out _ ?_; first | exact hB2 | exact hB1 | exact up_drew (Below.refl _ _)) | (have X := (((HA.out.up hB2).far (p := ⟨w.heap.size + 1, 0, none⟩) (Nat.ne_of_gt (Nat.lt_succ_self _)) (.int .i64 c)).far (p := ⟨w.heap.size + 1, 1, none⟩) (Nat.ne_of_gt (Nat.lt_succ_self _)) (.slice b1 m m)).far (p := ⟨w.heap.size + 1, 2, none⟩) (Nat.ne_of_gt (Nat.lt_succ_self _)) (.slice b2 m c2); exact ⟨X.cell 0 rfl, X.cell 1 rfl, X.cell 2 rfl⟩)))
    (first
      | (go_at_call 65; with_reducible refine (H1.out _ (up_drew HB.out)).mono ?_; rintro e w2 ⟨b1, rfl, hp1, hn1, hb1⟩; have hB1 : Below w1.heap.size w1 w2 := up_trans (up_drew (Below.refl _ _)) hb1)
      | (go_at_call 66; with_reducible refine (H2.out _ (up_trans HB.out hB1)).mono ?_; rintro e w3 ⟨b2, c2, rfl, hp2, hn2, hb2⟩; have hB2 : Below w1.heap.size w1 w3 := up_trans hB1 hb2; replace hp1 := hp1.up hb2; have r0 := (HR.out.up hB2).cell 0 rfl; have r1 := (HR.out.up hB2).cell 1 rfl; have r2 := (HR.out.up hB2).cell 2 rfl; have rf := (HR.out.up hB2).free))
  rename_i hHeld
  clear hHeld r0 r1 r2 rf
  have hs2 : w1.heap.size ≤ w2.heap.size := hB1.size
  have hw1 : w1.drew.heap.size = w1.heap.size := rfl
  have Rz := (((HR.out.up hB2).set 0 (.int .i64 c)).set 1 (.slice b1 m m)).set 2 (.slice b2 m c2)
  have Hp1 := Lib.hid (((hp1.store hn1 (p := ⟨w.heap.size + 1, 0, none⟩) (by simp only [hw1]; omega) (.int .i64 c)).store hn1 (p := ⟨w.heap.size + 1, 1, none⟩) (by simp only [hw1]; omega) (.slice b1 m m)).store hn1 (p := ⟨w.heap.size + 1, 2, none⟩) (by simp only [hw1]; omega) (.slice b2 m c2))
  have Hp2 := Lib.hid (((hp2.store hn2 (p := ⟨w.heap.size + 1, 0, none⟩) (by simp only; omega) (.int .i64 c)).store hn2 (p := ⟨w.heap.size + 1, 1, none⟩) (by simp only; omega) (.slice b1 m m)).store hn2 (p := ⟨w.heap.size + 1, 2, none⟩) (by simp only; omega) (.slice b2 m c2))
  have BB := up_trans HB.out hB2
  have BU := Lib.hid (up_set (up_set (up_set BB (p := ⟨w.heap.size + 1, 0, none⟩) (by simp only; omega) (.int .i64 c)) (p := ⟨w.heap.size + 1, 1, none⟩) (by simp only; omega) (.slice b1 m m)) (p := ⟨w.heap.size + 1, 2, none⟩) (by simp only; omega) (.slice b2 m c2))
  generalize ((w3.setCell ⟨w.heap.size + 1, 0, none⟩ (.int .i64 c)).setCell ⟨w.heap.size + 1, 1, none⟩ (.slice b1 m m)).setCell ⟨w.heap.size + 1, 2, none⟩ (.slice b2 m c2) = w4 at *
  have r0 := Rz.cell 0 rfl; have r1 := Rz.cell 1 rfl; have r2 := Rz.cell 2 rfl
  clear hp1 hp2 hn1 hn2 hb1 hb2 hB1 hB2 Rz BB
  go_wp2
  refine bodyPost_ret (v := .agg #[.int .i64 c, .slice b1 m m, .slice b2 m c2]) (by simp [results, Tryz.results55, go_sem, r0, r1, r2]) rfl ⟨⟨_, rfl, b1, b2, c2, rfl, Hp1.out, Hp2.out⟩, BU.out⟩

end Go.Proofs.YtomakbnbokaigaaGreatDoor
/- What spine.Nests answers, for every scheme. -/
namespace Go.Proofs.YtomakbnbokaigaaGreatDoor
open Go.RowKit
set_option linter.unusedVariables false

theorem pcR_small (s : Sc) : (pcR s).length ≤ 64 := by rw [← pcR_length]; exact (panR_length s).1

theorem spNests_odd (s : Sc) (a : Option Addr) (cap : Nat) (w : World) (hc : s.c ≤ 9223372036854775807) (hr : s.r ≤ 9223372036854775807) (hl : s.l.length ≤ 1000000) (hI : InL w a s.l) (ho : (pcR s).length = 0 ∨ (pcR s).length % 2 ≠ 0) :
    Calls Tryz.prog 41 #[.agg #[.int .i64 s.c, .int .i64 s.r, .slice a s.l.length cap]] w fun e w' => e = .returned (.bool (nestM s.c (pcR s))) ∧ Below w.heap.size w w' := by
  rw [nest_odd ho]
  have K1 := fun w1 (h : Below w.heap.size w w1) => spFolded_any s a cap w1 hc hr hl (hI.up h)
  have hm := pcR_small s
  have HB0 := Lib.hid (up_alloc (Below.refl _ w) (.cells #[.int .i64 s.c, .int .i64 s.r, .slice a s.l.length cap] 26))
  unfold BlkV at K1
  generalize (pcR s).length = m at *
  generalize s.l.length = n at *
  generalize s.c = c at *
  generalize s.r = r at *
  generalize panR s = P at *
  generalize numR s = N at *
  have H1 := Lib.hid K1
  clear K1 hI hc hr hl
  have hw : ∀ (w1 : World) (o : Obj), Below w.heap.size w w1 → Below w.heap.size w (w1.alloc o) := fun _ o h => up_alloc h o
  have HW := Lib.hid hw
  clear hw
  rcases ho with rfl | ho
  · go_enter Tryz.func41, Tryz.ntmps41
    go_wp2_with fail
    refine (H1.out _ HB0.out).mono ?_
    rintro e w1 ⟨⟨v, rfl, b1, b2, c', rfl, _, _⟩, hb⟩
    have B1 := Lib.hid (up_trans HB0.out hb)
    clear hb
    go_wp2
    go_ret
    exact ⟨rfl, HW.out _ _ B1.out⟩
  · have e0 : ((m : Int) == 0) = false := by rw [Bool.eq_false_iff, ne_eq, beq_iff_eq]; omega
    have e1 : (m : Int) % 2 = 1 := by omega
    have e2 : (m : Int).tmod 2 = 1 := by rw [Int.tmod_eq_emod_of_nonneg (by omega)]; omega
    clear ho
    go_enter Tryz.func41, Tryz.ntmps41
    go_wp2_with fail
    refine (H1.out _ HB0.out).mono ?_
    rintro e w1 ⟨⟨v, rfl, b1, b2, c', rfl, _, _⟩, hb⟩
    have B1 := Lib.hid (up_trans HB0.out hb)
    clear hb
    go_wp2
    go_ret
    exact ⟨rfl, HW.out _ _ B1.out⟩

/-- The first k leaves hang together at Left with those that stand as far from the end. -/
def NestRel (w2 : World) (c : Int) (L : List Pc) (h : Nat) (i : Value) (wr : World) : Prop :=
  ∃ k : Nat, k ≤ h ∧ i = .int .i64 (k : Int) ∧ Hid (∀ j, j < k → edgM c L (j : Int) ((L.length : Int) - 1 - (j : Int)) = 1) ∧ Below w2.heap.size w2 wr

set_option maxHeartbeats 1000000 in
theorem spNests_even (s : Sc) (a : Option Addr) (cap : Nat) (w : World) (hc : s.c ≤ 9223372036854775807) (hr : s.r ≤ 9223372036854775807) (hl : s.l.length ≤ 1000000) (hI : InL w a s.l) (h : Nat) (h0 : 0 < h) (he : (pcR s).length = 2 * h) :
    Calls Tryz.prog 41 #[.agg #[.int .i64 s.c, .int .i64 s.r, .slice a s.l.length cap]] w fun e w' => e = .returned (.bool (nestM s.c (pcR s))) ∧ Below w.heap.size w w' := by
  have K1 := fun w1 (h : Below w.heap.size w w1) => spFolded_any s a cap w1 hc hr hl (hI.up h)
  have hm := pcR_small s
  have KE := fun v w1 (hv : BlkV w1 s v) (x y : Int) => blkEdge_any s v x y w1 hv
  have HB0 := Lib.hid (up_alloc (Below.refl _ w) (.cells #[.int .i64 s.c, .int .i64 s.r, .slice a s.l.length cap] 26))
  have hno := fun k (hk : k < h) => @nest_no s.c (pcR s) k (by omega)
  have hyes := fun (hk : ∀ k : Nat, k < h → edgM s.c (pcR s) (k : Int) (((pcR s).length : Int) - 1 - (k : Int)) = 1) => @nest_yes s.c (pcR s) (by omega) (by omega) (fun k h2 => hk k (by omega))
  have hform : ∀ w1 v, BlkV w1 s v → ∃ b1 b2 c', v = .agg #[.int .i64 s.c, .slice b1 (pcR s).length (pcR s).length, .slice b2 (pcR s).length c'] := fun w1 v ⟨b1, b2, c', e, _⟩ => ⟨b1, b2, c', e⟩
  have hlen : (pcR s).length = (pcR s).length := rfl
  unfold NestRel at *
  generalize pcR s = L at *
  obtain ⟨m, hmm⟩ : ∃ m, L.length = m := ⟨_, rfl⟩
  rw [hmm] at hm hno hyes hform he
  obtain ⟨c, hcc⟩ : ∃ c, s.c = c := ⟨_, rfl⟩
  obtain ⟨r, hrr⟩ : ∃ r, s.r = r := ⟨_, rfl⟩
  obtain ⟨n, hnn⟩ : ∃ n, s.l.length = n := ⟨_, rfl⟩
  rw [hcc, hrr, hnn] at K1 HB0
  rw [hcc] at hno hyes hform KE
  rw [hcc, hrr, hnn]
  obtain ⟨V, hV⟩ : ∃ V, nestM c L = V := ⟨_, rfl⟩
  rw [hV] at hno hyes ⊢
  have H1 := Lib.hid K1; have HE := Lib.hid KE; have HNo := Lib.hid hno; have HYes := Lib.hid hyes; have HF := Lib.hid hform
  clear K1 KE hno hyes hform hI hc hr hl hcc hrr hnn hV hlen
  have e0 : ((m : Int) == 0) = false := by rw [Bool.eq_false_iff, ne_eq, beq_iff_eq]; omega
  have e1 : (m : Int) % 2 = 0 := by omega
  have e2 : (m : Int).tmod 2 = 0 := by rw [Int.tmod_eq_emod_of_nonneg (by omega)]; omega
  have e3 : (m : Int) / 2 = (h : Int) := by omega
  have e4 : (m : Int).tdiv 2 = (h : Int) := by rw [Int.tdiv_eq_ediv_of_nonneg (by omega)]; omega
  have hhm : (h : Int) + h = m := by omega
  clear he
  have HM := Lib.hid hmm
  clear hmm
  go_enter Tryz.func41, Tryz.ntmps41
  go_wp2_with fail
  refine (H1.out _ HB0.out).mono ?_
  rintro e w1 ⟨⟨v, rfl, hv⟩, hb⟩
  have HV := Lib.hid hv
  obtain ⟨b1, b2, c', rfl⟩ := HF.out _ _ hv
  have B1 := Lib.hid (up_trans HB0.out hb)
  clear hv hb
  go_wp2
  have A := Bx.new w1 75 [.int .i64 c, .slice b1 m m, .slice b2 m c']
  have HV2 := Lib.hid (HV.out.up (up_alloc (Below.refl _ w1) (.cells #[.int .i64 c, .slice b1 m m, .slice b2 m c'] 75)))
  have B2 := Lib.hid (up_alloc B1.out (.cells #[.int .i64 c, .slice b1 m m, .slice b2 m c'] 75))
  obtain ⟨W, hW⟩ : ∃ W, w1.alloc (.cells #[.int .i64 c, .slice b1 m m, .slice b2 m c'] 75) = W := ⟨_, rfl⟩
  have hW' : w1.alloc (.cells [.int .i64 c, .slice b1 m m, .slice b2 m c'].toArray 75) = W := hW
  rw [hW'] at A
  rw [hW] at HV2 B2
  have HA := Lib.hid A
  rw [hW]
  clear hW hW' A HV B1
  go_loopw [20] (fun i wr => NestRel W c L h i wr) (fun i _ => h - (intOf i).toNat)
  case atStart => exact ⟨0, by omega, by go_num, Lib.hid (fun j hj => absurd hj (Nat.not_lt_zero _)), Below.refl _ _⟩
  case round =>
    obtain ⟨k, hk, rfl, hall, hb⟩ := hrel
    have A := HA.out.up hb
    have f0 := A.cell 0 rfl; have f1 := A.cell 1 rfl; have f2 := A.cell 2 rfl
    have HB := Lib.hid hb
    have HVk := Lib.hid (HV2.out.up hb)
    clear hb A
    by_cases hlt : k < h
    · have z1 : (k : Int) < (h : Int) := by omega
      have KE := HE.out _ _ HVk.out (k : Int) ((m : Int) - 1 - (k : Int))
      have hno := HNo.out k hlt
      obtain ⟨E, hE⟩ : ∃ E, edgM c L (k : Int) ((m : Int) - 1 - (k : Int)) = E := ⟨_, rfl⟩
      rw [hE] at KE hno
      have HKE := Lib.hid KE; have HNk := Lib.hid hno; have HEk := Lib.hid hE
      clear KE hno hE
      by_cases h1 : E = 1
      · subst h1
        go_wp2_with fail
        refine HKE.out.mono ?_
        rintro e w3 ⟨rfl, hb3⟩
        have HB3 := Lib.hid (up_trans HB.out hb3)
        clear hb3 f0 f1 f2
        go_wp2
        refine ⟨⟨k + 1, by omega, by go_num, Lib.hid (fun j hj => ?_), HB3.out⟩, by simp [intOf]; omega⟩
        by_cases hjk : j < k
        · exact hall.out j hjk
        · obtain rfl : j = k := by omega
          rw [HM.out]
          exact HEk.out
      · have h1' : (E != 1) = true := bne_iff_ne.2 h1
        obtain rfl := HNk.out h1
        go_wp2_with fail
        refine HKE.out.mono ?_
        rintro e w3 ⟨rfl, hb3⟩
        have HB3 := Lib.hid (up_trans HB.out hb3)
        clear hb3 f0 f1 f2
        go_wp2
        go_ret
        exact ⟨rfl, up_trans B2.out HB3.out⟩
    · obtain rfl : k = h := by omega
      obtain rfl := HYes.out (by have := hall.out; rwa [HM.out] at this)
      go_wp2
      go_ret
      exact ⟨rfl, up_trans B2.out HB.out⟩

theorem spNests_any (s : Sc) (a : Option Addr) (cap : Nat) (w : World) (hc : s.c ≤ 9223372036854775807) (hr : s.r ≤ 9223372036854775807) (hl : s.l.length ≤ 1000000) (hI : InL w a s.l) :
    Calls Tryz.prog 41 #[.agg #[.int .i64 s.c, .int .i64 s.r, .slice a s.l.length cap]] w fun e w' => e = .returned (.bool (nestM s.c (pcR s))) ∧ Below w.heap.size w w' := by
  by_cases ho : (pcR s).length = 0 ∨ (pcR s).length % 2 ≠ 0
  · exact spNests_odd s a cap w hc hr hl hI ho
  · exact spNests_even s a cap w hc hr hl hI ((pcR s).length / 2) (by omega) (by omega)
end Go.Proofs.YtomakbnbokaigaaGreatDoor
/- What scheme.tell answers: for every scheme. -/
namespace Go.Proofs.YtomakbnbokaigaaGreatDoor
open Go.RowKit DecMath
set_option linter.unusedVariables false

/-- A scheme's text by its parts; empty: it has none. -/
def tellT (s : Sc) : ByteArray := if toldB s = true then tx (headT s ++ tailT s.l) else ⟨#[]⟩

def TellRel (H : List UInt8) (l : List Sp) (n : Nat) (w : World) (t i : Value) (wr : World) : Prop :=
  ∃ k : Nat, k ≤ n ∧ t = .string (tx (H ++ tailT (l.take k))) ∧ i = .int .i64 (k : Int) ∧ Hid (∀ p ∈ l.take k, rightB p.d p.n = true) ∧ ∃ u : Later w, wr = u.now
theorem take_snoc {α : Type} {l : List α} {k : Nat} {p : α} (h : l[k]? = some p) : l.take (k + 1) = l.take k ++ [p] := by
  obtain ⟨hlt, rfl⟩ := List.getElem?_eq_some_iff.1 h
  exact List.take_succ_eq_append_getElem hlt
theorem tail_snoc (l : List Sp) (p : Sp) : tailT (l ++ [p]) = tailT l ++ 32 :: textS p := by simp [tailT]
theorem tail_len (l : List Sp) (h : ∀ p ∈ l, rightB p.d p.n = true) : (tailT l).length ≤ 23 * l.length := by
  induction l with
  | nil => simp [tailT]
  | cons p l ih =>
    obtain ⟨⟨d0, d1⟩, n0, n1⟩ := rightB_true (h p (by simp))
    have := textS_len p (by omega) n1
    have := ih fun q hq => h q (by simp [hq])
    unfold tailT at this ⊢
    rw [List.flatMap_cons]
    simp only [List.length_append, List.length_cons]
    omega

theorem itoa_size (n : Int) (n0 : -9223372036854775808 ≤ n) (n1 : n ≤ 9223372036854775807) : (tx (Lib.itoa n)).size ≤ 20 := by rw [tx_size]; exact (itoa_len n n0 n1).2
end Go.Proofs.YtomakbnbokaigaaGreatDoor
