/- Part 12 of the texts that the proofs of this seat share: SplitMath, OrderMath, OrderJob, ScRows, LfRows, SchemeSame, JobWant, SplitFolds. -/
import Derived.Test.YtbfigaadbfggcaaGreatDoorPart4
import Derived.Test.YtbfigaadbfggcaaGreatDoorPart11
import Derived.Deep.AppendLies
import Derived.Test.YtbfigaadbfggcaaGreatDoorPart1
/- What split asks of a job, as plain functions: whether its folds and its last ones are right, and which signatures it has. -/
namespace Go.Proofs.YtbfigaadbfggcaaGreatDoor
open Go.RowKit
set_option linter.unusedVariables false

theorem find_right {nm : List UInt8} {s : Sc} (h : findM nm = some s) : rightM s = true := by
  have key : ∀ e ∈ catS, rightM e.2 = true := by decide +kernel
  exact key _ (find_some h)
/-- How many panels a scheme has. -/
def panS (s : Sc) : Int := panM s.c s.r
theorem right_pan {s : Sc} (h : rightM s = true) : 1 ≤ panS s ∧ panS s ≤ 64 := by
  unfold rightM at h
  simp only [Bool.and_eq_true, decide_eq_true_eq] at h
  exact ⟨h.1.1, h.1.2⟩
theorem pan_ge (s : Sc) : 0 ≤ panS s ∧ panS s ≤ 4096 := by
  unfold panS panM
  split
  next h => have := pan_in h; omega
  next => omega
/-- Are a job's folds right? -/
def foldsM (j : Jb) : Bool := if j.n 10 = 3 then decide (j.f.l.length = 0) && (decide (1 ≤ panS j.f) && decide (panS j.f ≤ 64)) else rightM j.f
theorem folds_pan {j : Jb} (h : foldsM j = true) : (1 ≤ panS j.f ∧ panS j.f ≤ 64) ∧ j.f.l.length ≤ 6 := by
  unfold foldsM at h
  split at h
  · simp only [Bool.and_eq_true, decide_eq_true_eq] at h
    exact ⟨⟨h.2.1, h.2.2⟩, by omega⟩
  · exact ⟨right_pan h, (right_bounds h).2.2.2.1⟩
/-- May the scheme of that name be one of the job's last ones? -/
def endB (b p : Int) (nm : List UInt8) : Bool := (findM nm).isSome && (decide (panS ((findM nm).getD zeroSc) < p) && (!decide (b = 1) || nestM ((findM nm).getD zeroSc).c (pcR ((findM nm).getD zeroSc))))
/-- How many last ones may be. -/
def mostM (b : Int) : Nat := if b = 3 ∨ b = 4 then 0 else 4
def endsM (j : Jb) : Bool := decide (j.ls.length ≤ mostM (j.n 10)) && j.ls.all (endB (j.n 10) (panS j.f))
def lastM (j : Jb) : Bool := foldsM j && endsM j
/-- Has the job signatures? -/
def partB (j : Jb) : Bool := lastM j && (decide (1 ≤ j.n 0) && decide (j.n 0 ≤ 100000))
/-- How many signatures there are ahead of the last one, of so many pages. -/
def othersM (n p : Int) : Int := (n - 1).tdiv (2 * p)
def restM2 (n p : Int) : Int := n - othersM n p * (2 * p)
/-- The scheme of the last signature, as far as the names are gone through. -/
def lessM (p : Int) (b : Sc) (nm : List UInt8) : Sc := if p ≤ 2 * panS ((findM nm).getD zeroSc) ∧ panS ((findM nm).getD zeroSc) < panS b then (findM nm).getD zeroSc else b
def endM (j : Jb) (p : Int) : Sc := j.ls.foldl (lessM p) j.f
def lastS (j : Jb) : Sc := endM j (restM2 (j.n 0) (panS j.f))
/-- All signatures' schemes. -/
def ofM (j : Jb) : List Sc := if partB j = true then List.replicate (othersM (j.n 0) (panS j.f)).toNat j.f ++ [lastS j] else []

theorem others_bounds {n p : Int} (h1 : 1 ≤ n) (h2 : n ≤ 100000) (p1 : 1 ≤ p) : 0 ≤ othersM n p ∧ othersM n p < 50000 ∧ 1 ≤ restM2 n p ∧ restM2 n p ≤ 2 * p ∧ othersM n p * (2 * p) ≤ 100000 ∧ 0 ≤ othersM n p * (2 * p) := by
  unfold restM2 othersM
  rw [Int.tdiv_eq_ediv_of_nonneg (by omega)]
  have e1 := Int.emod_nonneg (n - 1) (show 2 * p ≠ 0 by omega)
  have e2 := Int.emod_lt_of_pos (n - 1) (show 0 < 2 * p by omega)
  have e3 := Int.emod_add_mul_ediv (n - 1) (2 * p)
  have e4 : 0 ≤ (n - 1) / (2 * p) := Int.ediv_nonneg (by omega) (by omega)
  have e5 : (n - 1) / (2 * p) ≤ (n - 1) / 2 := by
    rw [← Int.ediv_ediv_of_nonneg (by omega)]
    exact Int.ediv_le_self _ (by omega)
  rw [Int.mul_comm (2 * p) ((n - 1) / (2 * p))] at e3
  generalize (n - 1) / (2 * p) = q at *
  have e6 : 0 ≤ q * (2 * p) := Int.mul_nonneg e4 (by omega)
  generalize q * (2 * p) = z at *
  omega
/-- The number of signatures ahead is the one that leaves some pages, and no more than the last one takes. -/
theorem others_one {n p k : Int} (h1 : 1 ≤ n) (p1 : 1 ≤ p) (h2 : 1 ≤ n - k * (2 * p)) (h3 : n - k * (2 * p) ≤ 2 * p) (hk : 0 ≤ k) : othersM n p = k := by
  unfold othersM
  rw [Int.tdiv_eq_ediv_of_nonneg (by omega)]
  apply Int.le_antisymm
  · have : (n - 1) / (2 * p) < k + 1 := Int.ediv_lt_of_lt_mul (by omega) (by rw [Int.add_mul]; omega)
    omega
  · exact Int.le_ediv_of_mul_le (by omega) (by omega)

theorem less_pan {p : Int} {b : Sc} {nm : List UInt8} (h : p ≤ 2 * panS b) : p ≤ 2 * panS (lessM p b nm) ∧ panS (lessM p b nm) ≤ panS b := by
  unfold lessM
  split <;> omega
theorem foldl_pan (p : Int) : ∀ (l : List (List UInt8)) (b : Sc), p ≤ 2 * panS b → p ≤ 2 * panS (l.foldl (lessM p) b) ∧ panS (l.foldl (lessM p) b) ≤ panS b
  | [], b, h => ⟨h, Int.le_refl _⟩
  | nm :: l, b, h => by
    have h1 := less_pan (nm := nm) h
    have h2 := foldl_pan p l _ h1.1
    exact ⟨h2.1, by simp only [List.foldl_cons]; omega⟩
/-- No last one with fewer panels takes what is left. -/
theorem foldl_least (p : Int) : ∀ (l : List (List UInt8)) (b : Sc), p ≤ 2 * panS b → ∀ nm ∈ l, ¬ (p ≤ 2 * panS ((findM nm).getD zeroSc) ∧ panS ((findM nm).getD zeroSc) < panS (l.foldl (lessM p) b))
  | [], b, h, nm, hm => by cases hm
  | x :: l, b, h, nm, hm => by
    have h1 := less_pan (nm := x) h
    simp only [List.foldl_cons]
    rcases List.mem_cons.1 hm with rfl | hm
    · have h2 := foldl_pan p l _ h1.1
      rintro ⟨h3, h4⟩
      have h5 : panS (lessM p b nm) ≤ panS ((findM nm).getD zeroSc) := by
        unfold lessM
        split <;> omega
      omega
    · exact foldl_least p l _ h1.1 nm hm
/-- A scheme that may come out: small. -/
theorem foldl_small (p : Int) : ∀ (l : List (List UInt8)) (b : Sc), b.l.length ≤ 6 ∧ 1 ≤ panS b ∧ panS b ≤ 64 → (∀ nm ∈ l, (findM nm).isSome = true) → (l.foldl (lessM p) b).l.length ≤ 6 ∧ 1 ≤ panS (l.foldl (lessM p) b) ∧ panS (l.foldl (lessM p) b) ≤ 64
  | [], b, h, _ => h
  | x :: l, b, h, hs => by
    simp only [List.foldl_cons]
    refine foldl_small p l _ ?_ (fun nm hm => hs nm (List.mem_cons_of_mem _ hm))
    unfold lessM
    split
    · have hx := hs x (List.mem_cons_self ..)
      obtain ⟨s, hs⟩ := Option.isSome_iff_exists.1 hx
      rw [hs]
      exact ⟨(right_bounds (find_right hs)).2.2.2.1, right_pan (find_right hs)⟩
    · exact h
theorem ends_found {j : Jb} (h : endsM j = true) : ∀ nm ∈ j.ls, (findM nm).isSome = true := by
  unfold endsM at h
  rw [Bool.and_eq_true] at h
  intro nm hm
  have := List.all_eq_true.1 h.2 nm hm
  unfold endB at this
  rw [Bool.and_eq_true] at this
  exact this.1
theorem ends_length {j : Jb} (h : endsM j = true) : j.ls.length ≤ 4 := by
  unfold endsM mostM at h
  rw [Bool.and_eq_true, decide_eq_true_eq] at h
  have := h.1
  split at this <;> omega
/-- What holds of a job that has signatures. -/
theorem part_facts {j : Jb} (h : partB j = true) : (1 ≤ panS j.f ∧ panS j.f ≤ 64) ∧ j.f.l.length ≤ 6 ∧ (1 ≤ j.n 0 ∧ j.n 0 ≤ 100000) ∧ j.ls.length ≤ 4 ∧ (∀ nm ∈ j.ls, (findM nm).isSome = true)
    ∧ (lastS j).l.length ≤ 6 ∧ (1 ≤ panS (lastS j) ∧ panS (lastS j) ≤ panS j.f) ∧ restM2 (j.n 0) (panS j.f) ≤ 2 * panS (lastS j) := by
  unfold partB lastM at h
  simp only [Bool.and_eq_true, decide_eq_true_eq] at h
  obtain ⟨⟨h1, h2⟩, h3, h4⟩ := h
  obtain ⟨p1, p2⟩ := folds_pan h1
  have hs := ends_found h2
  obtain ⟨b1, b2, b3, b4, -⟩ := others_bounds h3 h4 p1.1
  have hf := foldl_pan (restM2 (j.n 0) (panS j.f)) j.ls j.f b4
  have hsm := foldl_small (restM2 (j.n 0) (panS j.f)) j.ls j.f ⟨p2, p1.1, p1.2⟩ hs
  exact ⟨p1, p2, ⟨h3, h4⟩, ends_length h2, hs, hsm.1, ⟨hsm.2.1, hf.2⟩, hf.1⟩
theorem part_last {j : Jb} (h : partB j = true) : lastM j = true := by
  unfold partB at h
  rw [Bool.and_eq_true] at h
  exact h.1

/-- How many signatures, and how many panels all have. -/
def cntS (j : Jb) : Int := if partB j = true then othersM (j.n 0) (panS j.f) + 1 else 0
def leavesS (j : Jb) : Int := if partB j = true then othersM (j.n 0) (panS j.f) * panS j.f + panS (lastS j) else 0
def blanksS (j : Jb) : Int := if partB j = true then 2 * leavesS j - j.n 0 else 0
theorem of_length (j : Jb) : ((ofM j).length : Int) = cntS j := by
  unfold ofM cntS
  split
  next h =>
    obtain ⟨p1, p2, p3, -⟩ := part_facts h
    have := others_bounds p3.1 p3.2 p1.1
    simp
    omega
  next => rfl
theorem of_small (j : Jb) : (ofM j).length ≤ 50000 := by
  have := of_length j
  unfold cntS at this
  split at this
  next h =>
    obtain ⟨p1, p2, p3, -⟩ := part_facts h
    have := others_bounds p3.1 p3.2 p1.1
    omega
  next => omega
/-- The i-th signature's scheme. -/
theorem of_at {j : Jb} (h : partB j = true) (k : Nat) (hk : (k : Int) < cntS j) : (ofM j)[k]? = some (if (k : Int) = cntS j - 1 then lastS j else j.f) := by
  obtain ⟨p1, p2, p3, -⟩ := part_facts h
  have hb := others_bounds p3.1 p3.2 p1.1
  unfold ofM
  unfold cntS at hk ⊢
  rw [if_pos h] at hk ⊢
  rw [if_pos h]
  by_cases hk2 : k < (othersM (j.n 0) (panS j.f)).toNat
  · rw [List.getElem?_append_left (by simpa using hk2), if_neg (by omega)]
    simp [hk2]
  · rw [List.getElem?_append_right (by simp; omega), if_pos (by omega)]
    rw [List.length_replicate, show k - (othersM (j.n 0) (panS j.f)).toNat = 0 by omega]
    rfl
def sumS (l : List Sc) : Int := (l.map panS).sum
theorem sum_snoc (l : List Sc) (s : Sc) : sumS (l ++ [s]) = sumS l + panS s := by simp [sumS]
theorem sum_rep (n : Nat) (s : Sc) : sumS (List.replicate n s) = n * panS s := by
  induction n with
  | zero => simp [sumS]
  | succ n ih => rw [List.replicate_succ', sum_snoc, ih, Int.natCast_succ, Int.add_mul, Int.one_mul]
theorem of_sum (j : Jb) : sumS (ofM j) = leavesS j := by
  unfold ofM leavesS
  split
  next h =>
    obtain ⟨p1, p2, p3, -⟩ := part_facts h
    have hb := others_bounds p3.1 p3.2 p1.1
    rw [sum_snoc, sum_rep, Int.toNat_of_nonneg hb.1]
  next => rfl
theorem of_scheme (j : Jb) : ∀ s ∈ ofM j, s.l.length ≤ 6 ∧ 1 ≤ panS s ∧ panS s ≤ 64 := by
  intro s hs
  unfold ofM at hs
  split at hs
  next h =>
    obtain ⟨p1, p2, p3, p4, p5, p6, p7, p8⟩ := part_facts h
    rcases List.mem_append.1 hs with hs | hs
    · have := List.eq_of_mem_replicate hs
      subst this
      exact ⟨p2, p1⟩
    · simp at hs
      subst hs
      exact ⟨p6, p7.1, by omega⟩
  next => cases hs
/-- What SplitBlanks says. -/
theorem blanks_right {j : Jb} (h : partB j = true) : 0 ≤ blanksS j ∧ blanksS j < 2 * panS j.f ∧ 2 * leavesS j = j.n 0 + blanksS j ∧ (cntS j - 1) * (2 * panS j.f) < j.n 0 ∧ cntS j * (2 * panS j.f) ≥ j.n 0 := by
  obtain ⟨p1, p2, p3, p4, p5, p6, p7, p8⟩ := part_facts h
  have hb := others_bounds p3.1 p3.2 p1.1
  unfold blanksS leavesS cntS
  rw [if_pos h]
  simp only [h, if_true]
  unfold restM2 at p8 hb
  generalize panS (lastS j) = e at *
  generalize othersM (j.n 0) (panS j.f) = q at *
  generalize panS j.f = p at *
  have e1 : q * (2 * p) = 2 * (q * p) := by rw [← Int.mul_assoc, Int.mul_comm q 2, Int.mul_assoc]
  have e2 : (q + 1) * (2 * p) = 2 * (q * p) + 2 * p := by rw [Int.add_mul, e1]; omega
  have e3 : (q + 1 - 1) * (2 * p) = 2 * (q * p) := by rw [Int.add_sub_cancel, e1]
  rw [e2, e3]
  rw [e1] at hb p8
  generalize q * p = z at *
  omega
end Go.Proofs.YtbfigaadbfggcaaGreatDoor
/- Books, leaf by leaf, as plain lists: how leaves are laid into one another, and where each comes to stand. -/
namespace Go.Proofs.YtbfigaadbfggcaaGreatDoor
set_option linter.unusedVariables false

/-- The leaves of one signature. -/
def ownF (s m : Nat) : List (Nat × Nat) := (List.range m).map fun a => (s, a)
theorem ownF_length (s m : Nat) : (ownF s m).length = m := by simp [ownF]
theorem ownF_at {s m a : Nat} (h : a < m) : (ownF s m)[a]? = some (s, a) := by simp [ownF, List.getElem?_range h]
theorem ownF_succ (s m : Nat) : ownF s (m + 1) = ownF s m ++ [(s, m)] := by simp [ownF, List.range_succ]
/-- How many leaves k signatures have. -/
def leafN (n : Nat → Nat) : Nat → Nat
  | 0 => 0
  | k + 1 => leafN n k + n k
/-- The book of the first k signatures: each is laid into what there is, behind the first t of it. -/
def bkF (n t : Nat → Nat) : Nat → List (Nat × Nat)
  | 0 => []
  | k + 1 => (bkF n t k).take (t k) ++ ownF k (n k) ++ (bkF n t k).drop (t k)
/-- Where a leaf stands in it. -/
def psF (n t : Nat → Nat) : Nat → Nat → Nat → Nat
  | 0, _, _ => 0
  | k + 1, i, a => if i = k then t k + a else if psF n t k i a < t k then psF n t k i a else psF n t k i a + n k
section
variable {n t : Nat → Nat}
theorem bkF_length (ht : ∀ k, t k ≤ leafN n k) : ∀ K, (bkF n t K).length = leafN n K
  | 0 => rfl
  | K + 1 => by
    have := ht K
    simp only [bkF, leafN, List.length_append, List.length_take, List.length_drop, ownF_length, bkF_length ht K]
    omega
theorem bkF_at (ht : ∀ k, t k ≤ leafN n k) : ∀ K i a, i < K → a < n i → psF n t K i a < leafN n K ∧ (bkF n t K)[psF n t K i a]? = some (i, a)
  | 0, i, a, h, _ => absurd h (Nat.not_lt_zero _)
  | K + 1, i, a, h, ha => by
    have hl := bkF_length ht K
    have htK := ht K
    have hlt : ((bkF n t K).take (t K)).length = t K := by rw [List.length_take, hl]; omega
    by_cases hi : i = K
    · subst hi
      simp only [psF, if_true, bkF, leafN]
      refine ⟨by omega, ?_⟩
      rw [List.append_assoc, List.getElem?_append_right (by rw [hlt]; omega), hlt, Nat.add_sub_cancel_left, List.getElem?_append_left (by rw [ownF_length]; exact ha)]
      exact ownF_at ha
    · obtain ⟨h1, h2⟩ := bkF_at ht K i a (by omega) ha
      simp only [psF, if_neg hi, bkF, leafN]
      by_cases hp : psF n t K i a < t K
      · rw [if_pos hp]
        refine ⟨by omega, ?_⟩
        rw [List.append_assoc, List.getElem?_append_left (by rw [hlt]; exact hp), List.getElem?_take_of_lt hp]
        exact h2
      · rw [if_neg hp]
        refine ⟨by omega, ?_⟩
        rw [List.append_assoc, List.getElem?_append_right (by rw [hlt]; omega), hlt, List.getElem?_append_right (by rw [ownF_length]; omega), ownF_length, List.getElem?_drop]
        rw [show t K + (psF n t K i a + n K - t K - n K) = psF n t K i a by omega]
        exact h2
theorem bkF_each (ht : ∀ k, t k ≤ leafN n k) : ∀ K x, x < leafN n K → ∃ i a, i < K ∧ a < n i ∧ psF n t K i a = x
  | 0, x, h => absurd h (Nat.not_lt_zero _)
  | K + 1, x, h => by
    have htK := ht K
    simp only [leafN] at h
    by_cases h1 : x < t K
    · obtain ⟨i, a, hi, ha, e⟩ := bkF_each ht K x (by omega)
      refine ⟨i, a, by omega, ha, ?_⟩
      simp only [psF]
      rw [if_neg (by omega), e, if_pos h1]
    · by_cases h2 : x < t K + n K
      · refine ⟨K, x - t K, by omega, by omega, ?_⟩
        simp only [psF, if_true]
        omega
      · obtain ⟨i, a, hi, ha, e⟩ := bkF_each ht K (x - n K) (by omega)
        refine ⟨i, a, by omega, ha, ?_⟩
        simp only [psF]
        rw [if_neg (by omega), e, if_neg (by omega)]
        omega
theorem leafN_mono {i K : Nat} (h : i ≤ K) : leafN n i ≤ leafN n K := by
  induction K with
  | zero => obtain rfl : i = 0 := by omega
            exact Nat.le_refl _
  | succ K ih =>
    by_cases hi : i = K + 1
    · subst hi; exact Nat.le_refl _
    · have := ih (by omega)
      simp only [leafN]
      omega
/-- Laid one behind the other. -/
theorem psF_end : ∀ K i a, i < K → a < n i → psF n (leafN n) K i a = leafN n i + a
  | 0, i, a, h, _ => absurd h (Nat.not_lt_zero _)
  | K + 1, i, a, h, ha => by
    simp only [psF]
    by_cases hi : i = K
    · rw [if_pos hi, hi]
    · have e := psF_end K i a (by omega) ha
      have := leafN_mono (n := n) (i := i + 1) (K := K) (by omega)
      simp only [leafN] at this
      rw [if_neg hi, e, if_pos (by omega)]
/-- Laid one ahead of the other. -/
theorem psF_ahead : ∀ K i a, i < K → a < n i → psF n (fun _ => 0) K i a + leafN n (i + 1) = leafN n K + a
  | 0, i, a, h, _ => absurd h (Nat.not_lt_zero _)
  | K + 1, i, a, h, ha => by
    simp only [psF]
    by_cases hi : i = K
    · subst hi
      rw [if_pos rfl]
      omega
    · have e := psF_ahead K i a (by omega) ha
      rw [if_neg hi, if_neg (by omega)]
      simp only [leafN] at e ⊢
      omega
/-- Laid into one another. -/
theorem psF_into (he : ∀ i, n i % 2 = 0) : ∀ K i a, i < K → a < n i → (a < n i / 2 → psF n (fun k => leafN n k / 2) K i a = leafN n i / 2 + a) ∧ (n i / 2 ≤ a → psF n (fun k => leafN n k / 2) K i a + leafN n i / 2 + n i = leafN n K + a)
  | 0, i, a, h, _ => absurd h (Nat.not_lt_zero _)
  | K + 1, i, a, h, ha => by
    have hev : ∀ k, leafN n k % 2 = 0 := fun k => by
      induction k with
      | zero => rfl
      | succ k ih => simp only [leafN]; have := he k; omega
    have eK := hev K; have ei := hev i; have ni := he i; have nK := he K
    simp only [psF]
    by_cases hi : i = K
    · subst hi
      rw [if_pos rfl]
      refine ⟨fun _ => rfl, fun _ => ?_⟩
      simp only [leafN]
      omega
    · obtain ⟨e1, e2⟩ := psF_into he K i a (by omega) ha
      have := leafN_mono (n := n) (i := i + 1) (K := K) (by omega)
      simp only [leafN] at this ⊢
      rw [if_neg hi]
      constructor
      · intro h1
        rw [e1 h1, if_pos (by omega)]
      · intro h1
        have := e2 h1
        rw [if_neg (by omega)]
        omega
end
/-- In piles: of each of so many leaves, those of all signatures. -/
def rowF (K n : Nat) : List (Nat × Nat) := (List.range K).map fun i => (i, n)
theorem rowF_length (K n : Nat) : (rowF K n).length = K := by simp [rowF]
theorem rowF_succ (K n : Nat) : rowF (K + 1) n = rowF K n ++ [(K, n)] := by simp [rowF, List.range_succ]
def pilesF (K : Nat) : Nat → List (Nat × Nat)
  | 0 => []
  | n + 1 => pilesF K n ++ rowF K n
theorem pilesF_length (K : Nat) : ∀ P, (pilesF K P).length = P * K
  | 0 => by simp [pilesF]
  | P + 1 => by rw [pilesF, List.length_append, pilesF_length K P, rowF_length, Nat.add_mul]; omega
theorem pilesF_at {K : Nat} : ∀ P i a, i < K → a < P → (pilesF K P)[a * K + i]? = some (i, a)
  | 0, i, a, _, h => absurd h (Nat.not_lt_zero _)
  | P + 1, i, a, hi, ha => by
    rw [pilesF]
    by_cases h : a = P
    · subst h
      rw [List.getElem?_append_right (by rw [pilesF_length]; omega), pilesF_length, Nat.add_sub_cancel_left]
      simp [rowF, List.getElem?_range hi]
    · have h2 : (a + 1) * K ≤ P * K := Nat.mul_le_mul_right _ (by omega)
      rw [Nat.add_mul] at h2
      rw [List.getElem?_append_left (by rw [pilesF_length]; omega)]
      exact pilesF_at P i a hi (by omega)
theorem pilesF_each {K P x : Nat} (h : x < P * K) : x % K < K ∧ x / K < P ∧ x / K * K + x % K = x := by
  have hK : 0 < K := Nat.pos_of_ne_zero fun e => by subst e; omega
  refine ⟨Nat.mod_lt _ hK, (Nat.div_lt_iff_lt_mul hK).2 h, ?_⟩
  rw [Nat.mul_comm]
  exact Nat.div_add_mod x K
end Go.Proofs.YtbfigaadbfggcaaGreatDoor
/- The book of a job, leaf by leaf, as plain lists. -/
namespace Go.Proofs.YtbfigaadbfggcaaGreatDoor
set_option linter.unusedVariables false

def nestS (s : Sc) : Bool := nestM s.c (pcR s)
/-- A scheme that nests has an even number of panels. -/
theorem nest_pan {s : Sc} (h : nestS s = true) : (panS s).toNat % 2 = 0 := by
  obtain ⟨h0, h1, -⟩ := nest_pair h
  unfold pcR at h0 h1
  by_cases hr : rightM s = true
  · rw [if_pos hr, pcL_length] at h0 h1
    obtain ⟨⟨c1, c2⟩, ⟨r1, r2⟩, -⟩ := right_bounds hr
    have e : panS s = s.c * s.r := by unfold panS panM sideB; simp [c1, c2, r1, r2]
    rw [e]
    exact h1
  · rw [if_neg hr] at h0
    exact absurd h0 (Nat.lt_irrefl _)
/-- Has a job a book? -/
def mayM (j : Jb) : Bool := inB (j.n 10) 1 4 && (decide (0 < (ofM j).length) && (!decide (j.n 10 = 1) || nestS j.f))
def copM (j : Jb) : Int := if mayM j = true then (if j.n 10 = 4 then 2 else 1) else 0
def panN (l : List Sc) (i : Nat) : Nat := (panS (l.getD i zeroSc)).toNat
/-- Behind how many leaves the next signature is laid. -/
def atM (b c : Int) (m : Nat) : Nat := if c = 1 then 0 else if b = 1 then m / 2 else m
theorem atM_le (b c : Int) (m : Nat) : atM b c m ≤ m := by unfold atM; split; exact Nat.zero_le _; split <;> omega
def bookB (b c : Int) (l : List Sc) (k : Nat) : List (Nat × Nat) := bkF (panN l) (fun i => atM b c (leafN (panN l) i)) k
theorem bookB_length (b c : Int) (l : List Sc) (k : Nat) : (bookB b c l k).length = leafN (panN l) k := bkF_length (fun i => atM_le b c _) k
theorem bookB_succ (b c : Int) (l : List Sc) (k : Nat) : bookB b c l (k + 1) = (bookB b c l k).take (atM b c (bookB b c l k).length) ++ ownF k (panN l k) ++ (bookB b c l k).drop (atM b c (bookB b c l k).length) := by
  rw [bookB_length]
  rfl
def panJ (j : Jb) : Nat := (panS j.f).toNat
def bookM (j : Jb) (c : Int) : List (Nat × Nat) := if c < 0 ∨ copM j ≤ c then [] else if j.n 10 = 3 then pilesF (ofM j).length (panJ j) else bookB (j.n 10) c (ofM j) (ofM j).length
/-- Where a leaf of a signature stands in it. -/
def posM (j : Jb) (c : Int) (i a : Nat) : Nat := if j.n 10 = 3 then a * (ofM j).length + i else psF (panN (ofM j)) (fun i => atM (j.n 10) c (leafN (panN (ofM j)) i)) (ofM j).length i a

theorem may_facts {j : Jb} (h : mayM j = true) : (1 ≤ j.n 10 ∧ j.n 10 ≤ 4) ∧ partB j = true ∧ (j.n 10 = 1 → nestS j.f = true) := by
  unfold mayM inB at h
  simp only [Bool.and_eq_true, decide_eq_true_eq, Bool.or_eq_true, Bool.not_eq_true', decide_eq_false_iff_not] at h
  obtain ⟨hb, h0, hn⟩ := h
  refine ⟨hb, ?_, fun e => hn.resolve_left fun hne => hne e⟩
  unfold ofM at h0
  split at h0
  next h => exact h
  next => exact absurd h0 (Nat.lt_irrefl _)
theorem foldl_in (p : Int) : ∀ (l : List (List UInt8)) (b : Sc), l.foldl (lessM p) b = b ∨ ∃ nm ∈ l, l.foldl (lessM p) b = (findM nm).getD zeroSc
  | [], b => .inl rfl
  | x :: l, b => by
    rw [List.foldl_cons]
    rcases foldl_in p l (lessM p b x) with h | ⟨nm, hm, h⟩
    · rw [h]
      unfold lessM
      split
      · exact .inr ⟨x, List.mem_cons_self .., rfl⟩
      · exact .inl rfl
    · exact .inr ⟨nm, List.mem_cons_of_mem _ hm, h⟩
/-- The last signature is Folds, or one of the last ones. -/
theorem last_in (j : Jb) : lastS j = j.f ∨ ∃ nm ∈ j.ls, lastS j = (findM nm).getD zeroSc := foldl_in _ _ _
theorem last_nests {j : Jb} (h : partB j = true) (hb : j.n 10 = 1) (hn : nestS j.f = true) : nestS (lastS j) = true := by
  rcases last_in j with e | ⟨nm, hm, e⟩
  · rw [e]; exact hn
  · rw [e]
    have hl := part_last h
    unfold lastM endsM at hl
    simp only [Bool.and_eq_true] at hl
    have := List.all_eq_true.1 hl.2.2 nm hm
    unfold endB at this
    simp only [Bool.and_eq_true, hb, decide_true, Bool.not_true, Bool.false_or] at this
    exact this.2.2
theorem last_stack {j : Jb} (h : partB j = true) (hb : j.n 10 = 3 ∨ j.n 10 = 4) : lastS j = j.f := by
  rcases last_in j with e | ⟨nm, hm, e⟩
  · exact e
  · have hl := part_last h
    unfold lastM endsM mostM at hl
    simp only [Bool.and_eq_true, decide_eq_true_eq] at hl
    rw [if_pos hb] at hl
    have := List.eq_nil_of_length_eq_zero (Nat.le_zero.1 hl.2.1)
    rw [this] at hm
    cases hm
/-- The panels of each signature: those of Folds, but for the last one. -/
theorem panN_at {j : Jb} (h : partB j = true) {k : Nat} (hk : k < (ofM j).length) : panN (ofM j) k = if k + 1 = (ofM j).length then (panS (lastS j)).toNat else panJ j := by
  have hc := of_length j
  have := of_at h k (by omega)
  unfold panN panJ
  rw [List.getD_eq_getElem?_getD, this, Option.getD_some]
  by_cases e : k + 1 = (ofM j).length
  · rw [if_pos e, if_pos (by omega)]
  · rw [if_neg e, if_neg (by omega)]
theorem panN_out {l : List Sc} {k : Nat} (hk : l.length ≤ k) : panN l k = 0 := by
  unfold panN
  rw [List.getD_eq_getElem?_getD, List.getElem?_eq_none hk]
  rfl
theorem panN_small (j : Jb) (k : Nat) : panN (ofM j) k ≤ 64 := by
  by_cases hk : k < (ofM j).length
  · have := of_scheme j _ (List.getElem_mem hk)
    unfold panN
    rw [List.getD_eq_getElem?_getD, List.getElem?_eq_getElem hk, Option.getD_some]
    omega
  · rw [panN_out (by omega)]
    omega
theorem panN_even {j : Jb} (h : mayM j = true) (hb : j.n 10 = 1) (k : Nat) : panN (ofM j) k % 2 = 0 := by
  obtain ⟨-, hp, hn⟩ := may_facts h
  by_cases hk : k < (ofM j).length
  · rw [panN_at hp hk]
    split
    · exact nest_pan (last_nests hp hb (hn hb))
    · exact nest_pan (hn hb)
  · rw [panN_out (by omega)]
theorem panN_same {j : Jb} (h : partB j = true) (hb : j.n 10 = 3 ∨ j.n 10 = 4) {k : Nat} (hk : k < (ofM j).length) : panN (ofM j) k = panJ j := by
  rw [panN_at h hk, last_stack h hb]
  split <;> rfl
/-- How many leaves are ahead of a signature. -/
theorem leafN_ahead {j : Jb} (h : partB j = true) : ∀ k, k < (ofM j).length → leafN (panN (ofM j)) k = k * panJ j
  | 0, _ => by simp [leafN]
  | k + 1, hk => by
    rw [leafN, leafN_ahead h k (by omega), panN_at h (by omega), if_neg (by omega), Nat.add_mul, Nat.one_mul]
theorem leafN_last {j : Jb} (h : partB j = true) : ∃ K, (ofM j).length = K + 1 ∧ leafN (panN (ofM j)) (K + 1) = K * panJ j + (panS (lastS j)).toNat := by
  obtain ⟨K, hK⟩ : ∃ K, (ofM j).length = K + 1 := ⟨(ofM j).length - 1, by
    have hc := of_length j
    obtain ⟨p1, p2, p3, -⟩ := part_facts h
    have := others_bounds p3.1 p3.2 p1.1
    unfold cntS at hc
    rw [if_pos h] at hc
    omega⟩
  refine ⟨K, hK, ?_⟩
  rw [leafN, leafN_ahead h K (by omega), panN_at h (by omega), if_pos hK.symm]
/-- How many leaves there are. -/
theorem leafN_all {j : Jb} (h : partB j = true) : (leafN (panN (ofM j)) (ofM j).length : Int) = leavesS j := by
  obtain ⟨K, hK, e⟩ := leafN_last h
  have hc := of_length j
  obtain ⟨p1, p2, p3, p4, p5, p6, p7, p8⟩ := part_facts h
  rw [hK, e]
  unfold cntS at hc
  unfold leavesS panJ
  rw [if_pos h] at hc ⊢
  rw [show othersM (j.n 0) (panS j.f) = (K : Int) by omega, Int.natCast_add, Int.natCast_mul, Int.toNat_of_nonneg (by omega), Int.toNat_of_nonneg (by omega)]
theorem leafN_small (j : Jb) : ∀ k, leafN (panN (ofM j)) k ≤ k * 64
  | 0 => by simp [leafN]
  | k + 1 => by
    have := leafN_small j k
    have := panN_small j k
    rw [leafN]
    omega
theorem bookM_small (j : Jb) (c : Int) : (bookM j c).length ≤ 3200000 := by
  have hs := of_small j
  unfold bookM
  split
  · exact Nat.zero_le _
  · split
    next h1 h2 =>
      have hm : mayM j = true := by
        rw [← Bool.not_eq_false]
        intro e
        refine h1 ?_
        unfold copM
        rw [e]
        simp
        omega
      obtain ⟨-, hp, -⟩ := may_facts hm
      obtain ⟨p1, -⟩ := part_facts hp
      rw [pilesF_length]
      have : panJ j * (ofM j).length ≤ 64 * 50000 := Nat.mul_le_mul (by unfold panJ; omega) hs
      omega
    next =>
      rw [bookB_length]
      have := leafN_small j (ofM j).length
      omega
theorem bookM_none {j : Jb} {c : Int} (h : c < 0 ∨ copM j ≤ c) : bookM j c = [] := by unfold bookM; rw [if_pos h]
theorem cop_may {j : Jb} {c : Int} (h : ¬ (c < 0 ∨ copM j ≤ c)) : mayM j = true ∧ (c = 0 ∨ c = 1 ∧ j.n 10 = 4) := by
  unfold copM at h
  by_cases hm : mayM j = true
  · rw [if_pos hm] at h
    refine ⟨hm, ?_⟩
    split at h <;> omega
  · rw [if_neg hm] at h
    omega
theorem bookM_length {j : Jb} {c : Int} (h : ¬ (c < 0 ∨ copM j ≤ c)) : (bookM j c).length = leafN (panN (ofM j)) (ofM j).length := by
  obtain ⟨hm, -⟩ := cop_may h
  obtain ⟨-, hp, -⟩ := may_facts hm
  unfold bookM
  rw [if_neg h]
  split
  next h3 =>
    obtain ⟨K, hK, e⟩ := leafN_last hp
    rw [pilesF_length, hK, e, last_stack hp (.inl h3), Nat.mul_add, Nat.mul_one, Nat.mul_comm K]
    rfl
  next => exact bookB_length ..
/-- Each leaf of a signature stands at its place. -/
theorem book_at {j : Jb} {c : Int} (h : ¬ (c < 0 ∨ copM j ≤ c)) {i a : Nat} (hi : i < (ofM j).length) (ha : a < panN (ofM j) i) : posM j c i a < (bookM j c).length ∧ (bookM j c)[posM j c i a]? = some (i, a) := by
  obtain ⟨hm, -⟩ := cop_may h
  obtain ⟨-, hp, -⟩ := may_facts hm
  rw [bookM_length h]
  unfold bookM posM
  rw [if_neg h]
  split
  next h3 =>
    rw [panN_same hp (.inl h3) hi] at ha
    have e := pilesF_at (panJ j) i a hi ha
    refine ⟨?_, e⟩
    have := (List.getElem?_eq_some_iff.1 e).1
    rw [pilesF_length] at this
    obtain ⟨K, hK, e2⟩ := leafN_last hp
    have e4 : panJ j * (ofM j).length = leafN (panN (ofM j)) (ofM j).length := by
      rw [hK, e2, last_stack hp (.inl h3), Nat.mul_add, Nat.mul_one, Nat.mul_comm (panJ j) K]
      rfl
    rw [← e4]
    exact this
  next => exact bkF_at (fun i => atM_le _ _ _) _ i a hi ha
/-- At each place stands a leaf of a signature. -/
theorem book_each {j : Jb} {c : Int} {x : Nat} (hx : x < (bookM j c).length) : ∃ i a, i < (ofM j).length ∧ a < panN (ofM j) i ∧ posM j c i a = x ∧ (bookM j c)[x]? = some (i, a) := by
  have h : ¬ (c < 0 ∨ copM j ≤ c) := fun h => by
    rw [bookM_none h] at hx
    exact absurd hx (Nat.not_lt_zero _)
  obtain ⟨hm, -⟩ := cop_may h
  obtain ⟨-, hp, -⟩ := may_facts hm
  have key : ∃ i a, i < (ofM j).length ∧ a < panN (ofM j) i ∧ posM j c i a = x := by
    rw [bookM_length h] at hx
    unfold posM
    by_cases h3 : j.n 10 = 3
    · simp only [if_pos h3]
      have hx2 : x < panJ j * (ofM j).length := by
        obtain ⟨K, hK, e2⟩ := leafN_last hp
        rw [hK] at hx ⊢
        rw [e2, last_stack hp (.inl h3)] at hx
        rw [Nat.mul_add, Nat.mul_one, Nat.mul_comm (panJ j) K]
        exact hx
      obtain ⟨h1, h2, h4⟩ := pilesF_each hx2
      exact ⟨_, _, h1, by rw [panN_same hp (.inl h3) h1]; exact h2, h4⟩
    · simp only [if_neg h3]
      exact bkF_each (fun i => atM_le _ _ _) _ x hx
  obtain ⟨i, a, hi, ha, e⟩ := key
  exact ⟨i, a, hi, ha, e, by rw [← e]; exact (book_at h hi ha).2⟩
/-- Two leaves of signatures stand at two places. -/
theorem pos_one {j : Jb} {c : Int} (h : ¬ (c < 0 ∨ copM j ≤ c)) {i a i' a' : Nat} (hi : i < (ofM j).length) (ha : a < panN (ofM j) i) (hi' : i' < (ofM j).length) (ha' : a' < panN (ofM j) i') (e : posM j c i a = posM j c i' a') : i = i' ∧ a = a' := by
  have h1 := (book_at h hi ha).2
  rw [e, (book_at h hi' ha').2] at h1
  cases h1
  exact ⟨rfl, rfl⟩
/-- The document's words for the place. -/
theorem pos_stack {j : Jb} {c : Int} {i a : Nat} (hb : j.n 10 = 3) : posM j c i a = a * (ofM j).length + i := by unfold posM; rw [if_pos hb]
theorem pos_behind {j : Jb} {i a : Nat} (h : partB j = true) (h1 : j.n 10 ≠ 1) (h3 : j.n 10 ≠ 3) (hi : i < (ofM j).length) (ha : a < panN (ofM j) i) : posM j 0 i a = i * panJ j + a := by
  unfold posM
  rw [if_neg h3]
  have e : (fun i => atM (j.n 10) 0 (leafN (panN (ofM j)) i)) = leafN (panN (ofM j)) := by
    funext k
    unfold atM
    rw [if_neg (by decide), if_neg h1]
  rw [e, psF_end _ i a hi ha, leafN_ahead h i hi]
theorem pos_ahead {j : Jb} {i a : Nat} (h : partB j = true) (h4 : j.n 10 = 4) (hi : i < (ofM j).length) (ha : a < panN (ofM j) i) : posM j 1 i a = ((ofM j).length - 1 - i) * panJ j + a := by
  unfold posM
  rw [if_neg (by omega)]
  have e : (fun i => atM (j.n 10) 1 (leafN (panN (ofM j)) i)) = fun _ => 0 := by
    funext k
    unfold atM
    rw [if_pos rfl]
  have := psF_ahead (ofM j).length i a hi ha
  rw [e]
  obtain ⟨K, hK, e2⟩ := leafN_last h
  rw [hK] at this hi ⊢
  rw [e2, last_stack h (.inr h4), leafN, leafN_ahead h i (by omega), panN_same h (.inr h4) (by omega)] at this
  have e3 : K * panJ j = (K - i) * panJ j + i * panJ j := by rw [← Nat.add_mul, Nat.sub_add_cancel (by omega)]
  rw [show K + 1 - 1 - i = K - i by omega]
  unfold panJ at *
  omega
theorem pos_into {j : Jb} {i a : Nat} (h : mayM j = true) (h1 : j.n 10 = 1) (hi : i < (ofM j).length) (ha : a < panN (ofM j) i) :
    (a < panN (ofM j) i / 2 → posM j 0 i a = i * panJ j / 2 + a) ∧ (panN (ofM j) i / 2 ≤ a → posM j 0 i a + i * panJ j / 2 + panN (ofM j) i = leafN (panN (ofM j)) (ofM j).length + a) := by
  unfold posM
  rw [if_neg (by omega)]
  have e : (fun i => atM (j.n 10) 0 (leafN (panN (ofM j)) i)) = fun i => leafN (panN (ofM j)) i / 2 := by
    funext k
    unfold atM
    rw [if_neg (by decide), if_pos h1]
  rw [e, ← leafN_ahead (may_facts h).2.1 i hi]
  exact psF_into (panN_even h h1) _ i a hi ha
end Go.Proofs.YtbfigaadbfggcaaGreatDoor
/- Lists of schemes in memory: rows of the call's own, that grow by append, and lists that a slice tells. -/
namespace Go.Proofs.YtbfigaadbfggcaaGreatDoor
open Go.RowKit
set_option linter.unusedVariables false

theorem Tryz.infoScheme : (Tryz.prog.info? 26).map (fun i => (i.zero, i.size, i.bytes)) = some (some (.agg #[.int .i64 0, .int .i64 0, .slice none 0 0]), 3, 40) := by kernel_rfl
/-- A scheme in a list: the slice of its steps. -/
structure En where
  s : Sc
  a : Option Addr
  c : Nat
def En.cells (e : En) : List Value := [.int .i64 e.s.c, .int .i64 e.s.r, .slice e.a e.s.l.length e.c]
def ens (l : List En) : List Value := l.flatMap En.cells
theorem ens_cons (e : En) (l : List En) : ens (e :: l) = e.cells ++ ens l := rfl
theorem ens_append (l m : List En) : ens (l ++ m) = ens l ++ ens m := by simp [ens]
theorem ens_length (l : List En) : (ens l).length = l.length * 3 := by
  induction l with
  | nil => rfl
  | cons p l ih => rw [ens_cons, List.length_append, ih, List.length_cons]; simp [En.cells]; omega
theorem ens_one {l : List En} : ∀ u ∈ ens l, u.oneCell' = true := by
  intro u hu
  obtain ⟨p, _, hp⟩ := List.mem_flatMap.1 hu
  simp [En.cells] at hp
  rcases hp with rfl | rfl | rfl <;> rfl
theorem ens_at {l : List En} {j : Nat} {e : En} (h : l[j]? = some e) (i : Nat) (hi : i < 3) : (ens l)[j * 3 + i]? = e.cells[i]? := by
  induction l generalizing j with
  | nil => simp at h
  | cons q l ih =>
    rw [ens_cons]
    cases j with
    | zero =>
      simp only [List.getElem?_cons_zero, Option.some.injEq] at h
      subst h
      rw [List.getElem?_append_left (by simp [En.cells]; omega)]
      simp
    | succ j =>
      rw [List.getElem?_cons_succ] at h
      rw [List.getElem?_append_right (by simp [En.cells]; omega), ← ih h]
      congr 1
      simp [En.cells]
      omega
/-- The steps lie where the slice says, and not in block own. -/
def InN (own : Option Nat) (w : World) (a : Option Addr) (l : List Sp) : Prop := l = [] ∨ ∃ b off, a = some ⟨b, off, none⟩ ∧ own ≠ some b ∧ InS w b off l
theorem InN.inL {own : Option Nat} {w : World} {a : Option Addr} {l : List Sp} (h : InN own w a l) : InL w a l := h.imp id fun ⟨b, off, e, _, h⟩ => ⟨b, off, e, h⟩
theorem InN.up {own : Option Nat} {w w' : World} {a : Option Addr} {l : List Sp} (h : InN own w a l) (hb : Below w.heap.size w w') : InN own w' a l := h.imp id fun ⟨b, off, e, h0, h⟩ => ⟨b, off, e, h0, h.up hb⟩
theorem InS.far {w w' : World} {b off : Nat} {l : List Sp} (h : InS w b off l) (hk : ∀ p : Addr, p.block = b → ∀ v, w.cell? p = some v → w'.cell? p = some v) : InS w' b off l := fun j p hp => by
  obtain ⟨c0, c1, c2⟩ := h j p hp
  exact ⟨hk _ rfl _ c0, hk _ rfl _ c1, hk _ rfl _ c2⟩
theorem InS.lt {w : World} {b off : Nat} {l : List Sp} (h : InS w b off l) (hl : l ≠ []) : b < w.heap.size := by
  cases l with
  | nil => exact absurd rfl hl
  | cons p l => exact World.block_lt_of_cell? w _ (h 0 p rfl).1
/-- What lies outside the row that grew stays, and lies outside the grown row. -/
theorem InN.grown {own own' : Option Nat} {u w' : World} {o : Obj} {a : Option Addr} {l : List Sp} (h : InN own u a l) (hg : (u.alloc o).grownBy w' own) (hat : own' = own ∨ ∃ g, own' = some g ∧ (own = some g ∨ u.heap.size ≤ g)) : InN own' w' a l := by
  by_cases hl : l = []
  · exact .inl hl
  rcases h with h | ⟨b, off, e, h0, h⟩
  · exact absurd h hl
  · have hb := h.lt hl
    refine .inr ⟨b, off, e, ?_, h.far fun p hp v hv => ?_⟩
    · rcases hat with rfl | ⟨g, rfl, h1 | h1⟩
      · exact h0
      · intro e
        injection e with e
        subst e
        exact h0 h1
      · intro e
        injection e with e
        omega
    · have hv2 : (u.alloc o).cell? p = some v := Lib.cell?_alloc_some _ hv
      exact (World.grownBy.cell_far hg p (by rw [World.size_alloc, hp]; omega) (by rw [hp]; exact fun e => h0 e.symm)).trans hv2
/-- v is a slice of the call's own (from block base on) that holds the schemes L. -/
def OwnL (w : World) (base : Nat) (v : Value) (L : List Sc) : Prop :=
  ∃ E : List En, E.map En.s = L ∧ w.ownsRow base 26 3 v L.length (ens E) ∧ ∀ e ∈ E, InN v.ownBlock w e.a e.s.l
theorem OwnL.nil (w : World) (base : Nat) : OwnL w base (.slice none 0 0) [] := ⟨[], rfl, World.ownsRow_nil _ _ _ _, fun e h => by cases h⟩
theorem OwnL.up {w w' : World} {base : Nat} {v : Value} {L : List Sc} (h : OwnL w base v L) (hb : Below w.heap.size w w') : OwnL w' base v L := by
  obtain ⟨E, h1, h2, h3⟩ := h
  exact ⟨E, h1, own_kept h2 fun k _ hk => hb.block k hk, fun e he => (h3 e he).up hb⟩
theorem OwnL.block {w : World} {base : Nat} {v : Value} {L : List Sc} (h : OwnL w base v L) : ∀ b, v.ownBlock = some b → base ≤ b ∧ b < w.heap.size := by
  obtain ⟨E, h1, h2, h3⟩ := h
  exact fun b hb => World.ownsRow.lt h2 b hb
/-- The list of schemes that the slice at a tells. -/
def ScsA (w : World) (a : Option Addr) (L : List Sc) : Prop :=
  L = [] ∨ ∃ g, a = some ⟨g, 0, none⟩ ∧ ∀ k s, L[k]? = some s → ∃ a' c', w.cell? ⟨g, k * 3, none⟩ = some (.int .i64 s.c) ∧ w.cell? ⟨g, k * 3 + 1, none⟩ = some (.int .i64 s.r) ∧ w.cell? ⟨g, k * 3 + 2, none⟩ = some (.slice a' s.l.length c') ∧ InL w a' s.l
theorem ScsA.up {w w' : World} {a : Option Addr} {L : List Sc} (h : ScsA w a L) (hb : Below w.heap.size w w') : ScsA w' a L :=
  h.imp id fun ⟨g, e, h⟩ => ⟨g, e, fun k s hs => by
    obtain ⟨a', c', h0, h1, h2, h3⟩ := h k s hs
    exact ⟨a', c', bl_cell hb h0, bl_cell hb h1, bl_cell hb h2, h3.up hb⟩⟩
theorem OwnL.tells {w : World} {base : Nat} {v : Value} {L : List Sc} (h : OwnL w base v L) : ∃ a cap, v = .slice a L.length cap ∧ ScsA w a L := by
  obtain ⟨E, h1, h2, h3⟩ := h
  have h2' := h2
  rcases h2.2 with ⟨rfl, h0⟩ | ⟨g, cap, cur, rfl, hb, hg, hcap, hmax, hsz, htk⟩
  · exact ⟨none, 0, by rw [h0], .inl (List.eq_nil_of_length_eq_zero h0)⟩
  · refine ⟨some ⟨g, 0, none⟩, cap, rfl, .inr ⟨g, rfl, fun k s hs => ?_⟩⟩
    rw [← h1, List.getElem?_map, Option.map_eq_some_iff] at hs
    obtain ⟨e, he, rfl⟩ := hs
    have hc : ∀ j u, (ens E)[j]? = some u → w.cell? ⟨g, j, none⟩ = some u := fun j u hu => by
      have := h2'.cells (g := g) rfl j u hu
      rwa [show (⟨g, 0, none⟩ : Addr).add j = ⟨g, j, none⟩ by unfold Addr.add; split <;> simp_all] at this
    exact ⟨e.a, e.c, hc _ _ (ens_at he 0 (by omega)), hc _ _ (ens_at he 1 (by omega)), hc _ _ (ens_at he 2 (by omega)), (h3 e (List.mem_of_getElem? he)).inL⟩
/-- A row that grew by one scheme. -/
theorem OwnL.grew {u w' : World} {base : Nat} {v : Value} {L : List Sc} {o : Obj} {E : List En} (h1 : E.map En.s = L) (h3 : ∀ e ∈ E, InN v.ownBlock u e.a e.s.l) {s : Sc} {a : Option Addr} {c : Nat} (hi : InN v.ownBlock u a s.l) {g cap : Nat}
    (hn : w'.ownsRow base 26 3 (.slice (some ⟨g, 0, none⟩) (L.length + 1) cap) (L.length + 1) (ens E ++ En.cells ⟨s, a, c⟩)) (hg : (u.alloc o).grownBy w' v.ownBlock) (hat : v.ownBlock = some g ∨ g = (u.alloc o).heap.size) : OwnL w' base (.slice (some ⟨g, 0, none⟩) (L.length + 1) cap) (L ++ [s]) := by
  have hat2 : (Value.slice (some ⟨g, 0, none⟩) (L.length + 1) cap).ownBlock = v.ownBlock ∨ ∃ g', (Value.slice (some ⟨g, 0, none⟩) (L.length + 1) cap).ownBlock = some g' ∧ (v.ownBlock = some g' ∨ u.heap.size ≤ g') := .inr ⟨g, rfl, hat.imp id fun e => by rw [World.size_alloc] at e; omega⟩
  refine ⟨E ++ [⟨s, a, c⟩], by rw [List.map_append, h1]; rfl, ?_, fun e he => ?_⟩
  · rw [List.length_append, ens_append]
    simpa [ens] using hn
  · rcases List.mem_append.1 he with he | he
    · exact (h3 e he).grown hg hat2
    · simp only [List.mem_singleton] at he
      subst he
      exact hi.grown hg hat2
theorem ens_cells (x y z : Value) (w : World) (t : TypeId) : ∀ j u, [x, y, z][j]? = some u → (w.alloc (.cells #[x, y, z] t)).cell? ((⟨w.heap.size, 0, none⟩ : Addr).add j) = some u := cells_three w x y z t

/-- append, of one scheme, to a row of the call's own. -/
theorem wpList_append_sc {u : World} {ops : Array Oper} {rest : List Oper} {o : Oper} {a : Act} {Q : Exit → Act → World → Prop} (hgd : o.guard = none) (s x : Operand)
    (ho : o.op = .call { callee := .builtin .append, args := #[s, x], argTypes := #[54, 54] })
    (base : Nat) (v : Value) (L : List Sc) (hs : a.eval s = v) (hown : OwnL u base v L) (hbase : base ≤ u.heap.size)
    (sc : Sc) (p : Option Addr) (c m : Nat) (hm : sc.l.length = m) (hi : InN v.ownBlock u p sc.l) (H : Nat) (hH : u.heap.size = H) (hx : a.eval x = .slice (some ⟨H, 0, none⟩) 1 1) (hl : L.length ≤ 1000000)
    (h : ∀ g cap w', OwnL w' base (.slice (some ⟨g, 0, none⟩) (L.length + 1) cap) (L ++ [sc]) → Below base u w' → wpList Tryz.prog ops Q rest (a.put o.dst (.slice (some ⟨g, 0, none⟩) (L.length + 1) cap)) w') : wpList Tryz.prog ops Q (o :: rest) a (u.alloc (.cells #[.int .i64 sc.c, .int .i64 sc.r, .slice p m c] 26)) := by
  subst hH
  subst hm
  obtain ⟨i0, hi0, hz0, hz1, hz2⟩ := info_parts Tryz.infoScheme
  obtain ⟨E, h1, h2, h3⟩ := hown
  refine wpList_append_lies _ hgd s x 54 ho base 26 i0 _ 3 40 Tryz.underlying54 hi0 hz0 hz1 hz2 rfl (by omega) v L.length _ hs (World.ownsRow.alloc h2 _) ⟨u.heap.size, 0, none⟩ 1 1 (En.cells ⟨sc, p, c⟩) hx rfl ?_ ?_ (by omega) (by unfold maxLen; omega) (by omega) (by simp; omega) _ rfl ?_
  · exact ens_cells _ _ _ u _
  · intro y hy; simp [En.cells] at hy; rcases hy with rfl | rfl | rfl <;> rfl
  intro g cap w1 hown1 hgrow hat hlt
  refine h g cap w1 (OwnL.grew h1 h3 hi hown1 hgrow hat) (Below.grown ((Below.refl _ _).alloc hbase _) hgrow (by simp; omega) (fun k hk => (World.ownsRow.lt h2 k hk).1))
end Go.Proofs.YtbfigaadbfggcaaGreatDoor
/- Lists of a book's leaves in memory: as a slice tells them, and as rows of the call's own that grow by append. -/
namespace Go.Proofs.YtbfigaadbfggcaaGreatDoor
open Go.RowKit
set_option linter.unusedVariables false

theorem Tryz.infoLf : (Tryz.prog.info? 38).map (fun i => (i.zero, i.size, i.bytes)) = some (some (.agg #[.int .i64 0, .int .i64 0]), 2, 16) := by kernel_rfl
def lfC (p : Nat × Nat) : List Value := [.int .i64 (p.1 : Int), .int .i64 (p.2 : Int)]
def lfs (l : List (Nat × Nat)) : List Value := l.flatMap lfC
theorem lfs_cons (p : Nat × Nat) (l : List (Nat × Nat)) : lfs (p :: l) = lfC p ++ lfs l := rfl
theorem lfs_append (l m : List (Nat × Nat)) : lfs (l ++ m) = lfs l ++ lfs m := by simp [lfs]
theorem lfs_length (l : List (Nat × Nat)) : (lfs l).length = l.length * 2 := by
  induction l with
  | nil => rfl
  | cons p l ih => rw [lfs_cons, List.length_append, ih, List.length_cons]; simp [lfC]; omega
theorem lfs_one {l : List (Nat × Nat)} : ∀ u ∈ lfs l, u.oneCell' = true := by
  intro u hu
  obtain ⟨p, _, hp⟩ := List.mem_flatMap.1 hu
  simp [lfC] at hp
  rcases hp with rfl | rfl <;> rfl
theorem lfs_at {l : List (Nat × Nat)} {j : Nat} {p : Nat × Nat} (h : l[j]? = some p) (i : Nat) (hi : i < 2) : (lfs l)[j * 2 + i]? = (lfC p)[i]? := by
  induction l generalizing j with
  | nil => simp at h
  | cons q l ih =>
    rw [lfs_cons]
    cases j with
    | zero =>
      simp only [List.getElem?_cons_zero, Option.some.injEq] at h
      subst h
      rw [List.getElem?_append_left (by simp [lfC]; omega)]
      simp
    | succ j =>
      rw [List.getElem?_cons_succ] at h
      rw [List.getElem?_append_right (by simp [lfC]; omega), ← ih h]
      congr 1
      simp [lfC]
      omega
/-- The leaves l stand where the slice says. -/
def LfA (w : World) (a : Option Addr) (l : List (Nat × Nat)) : Prop := l = [] ∨ ∃ b off, a = some ⟨b, off, none⟩ ∧ ∀ k u, (lfs l)[k]? = some u → w.cell? ⟨b, off + k, none⟩ = some u
theorem LfA.up {w w' : World} {a : Option Addr} {l : List (Nat × Nat)} (h : LfA w a l) (hb : Below w.heap.size w w') : LfA w' a l := h.imp id fun ⟨b, off, e, h⟩ => ⟨b, off, e, fun k u hu => bl_cell hb (h k u hu)⟩
theorem LfA.cells {w : World} {a : Option Addr} {l : List (Nat × Nat)} (h : LfA w a l) {j : Nat} {p : Nat × Nat} (hp : l[j]? = some p) : ∃ b off, a = some ⟨b, off, none⟩ ∧ w.cell? ⟨b, off + j * 2, none⟩ = some (.int .i64 (p.1 : Int)) ∧ w.cell? ⟨b, off + j * 2 + 1, none⟩ = some (.int .i64 (p.2 : Int)) := by
  rcases h with rfl | ⟨b, off, e, h⟩
  · simp at hp
  · exact ⟨b, off, e, h (j * 2) _ (lfs_at hp 0 (by omega)), by rw [Nat.add_assoc]; exact h (j * 2 + 1) _ (lfs_at hp 1 (by omega))⟩
theorem LfA.take {w : World} {a : Option Addr} {l : List (Nat × Nat)} (h : LfA w a l) (k : Nat) : LfA w a (l.take k) := by
  rcases h with rfl | ⟨b, off, e, h⟩
  · exact .inl (by simp)
  · refine .inr ⟨b, off, e, fun j u hu => h j u ?_⟩
    have e2 : lfs l = lfs (l.take k) ++ lfs (l.drop k) := by rw [← lfs_append, List.take_append_drop]
    rw [e2, List.getElem?_append_left (List.getElem?_eq_some_iff.1 hu).1]
    exact hu
theorem LfA.drop {w : World} {b off : Nat} {l : List (Nat × Nat)} (h : LfA w (some ⟨b, off, none⟩) l) (k : Nat) (hk : k ≤ l.length) : LfA w (some ⟨b, off + k * 2, none⟩) (l.drop k) := by
  rcases h with rfl | ⟨b', off', e, h⟩
  · exact .inl (by simp)
  · cases e
    refine .inr ⟨b, off + k * 2, rfl, fun j u hu => ?_⟩
    have e2 : lfs l = lfs (l.take k) ++ lfs (l.drop k) := by rw [← lfs_append, List.take_append_drop]
    have e3 : (lfs (l.take k)).length = k * 2 := by rw [lfs_length, List.length_take]; omega
    rw [Nat.add_assoc]
    refine h _ u ?_
    rw [e2, List.getElem?_append_right (by omega), e3, Nat.add_sub_cancel_left]
    exact hu
/-- v is a slice of the call's own (from block base on) that holds the leaves l. -/
def OwnF (w : World) (base : Nat) (v : Value) (l : List (Nat × Nat)) : Prop := w.ownsRow base 38 2 v l.length (lfs l)
theorem OwnF.nil (w : World) (base : Nat) : OwnF w base (.slice none 0 0) [] := World.ownsRow_nil _ _ _ _
theorem OwnF.up {w w' : World} {base : Nat} {v : Value} {l : List (Nat × Nat)} (h : OwnF w base v l) (hb : Below w.heap.size w w') : OwnF w' base v l := own_kept h fun k _ hk => hb.block k hk
theorem OwnF.tells {w : World} {base : Nat} {v : Value} {l : List (Nat × Nat)} (h : OwnF w base v l) : ∃ a cap, v = .slice a l.length cap ∧ LfA w a l ∧ l.length ≤ cap ∧ cap ≤ maxLen ∧ (∀ p, a = some p → p = ⟨p.block, 0, none⟩) ∧ (a = none → cap = 0) := by
  have h' := h
  rcases h.2 with ⟨rfl, h0⟩ | ⟨g, cap, cur, rfl, hb, hg, hcap, hmax, hsz, htk⟩
  · exact ⟨none, 0, by rw [h0], .inl (List.eq_nil_of_length_eq_zero h0), by omega, by omega, fun p hp => (by cases hp), fun _ => rfl⟩
  · refine ⟨some ⟨g, 0, none⟩, cap, rfl, .inr ⟨g, 0, rfl, fun k u hu => ?_⟩, hcap, hmax, fun p hp => by cases hp; rfl, fun h => by cases h⟩
    have := h'.cells (g := g) rfl k u hu
    rwa [show (⟨g, 0, none⟩ : Addr).add k = ⟨g, 0 + k, none⟩ by unfold Addr.add; split <;> simp_all] at this

/-- append, of nothing. -/
theorem run_append_nothing {P : Program} {w : World} (t ty e : TypeId) (i : TypeInfo) (ht : P.underlying t = some (.slice e)) (hi : P.info? e = some i) (s ad : Option Addr) (n cap c : Nat) (hn : n ≤ cap) :
    (Builtin.append_ #[t, t] ty #[.slice s n cap, .slice ad 0 c]).run P w = .ok (.slice s n cap) w := by
  cases s <;> cases ad <;> simp [Builtin.append_, run_underlying ht, sizeOf, typeInfo, hi, Builtin.lenOf, Builtin.firstCells, loadCells, loadCellsFrom, hn, storeCells]
/-- append, of one leaf, to a row of the call's own. -/
theorem wpList_append_lf {u : World} {ops : Array Oper} {rest : List Oper} {o : Oper} {a : Act} {Q : Exit → Act → World → Prop} (hgd : o.guard = none) (s x : Operand)
    (ho : o.op = .call { callee := .builtin .append, args := #[s, x], argTypes := #[33, 33] })
    (base : Nat) (v : Value) (L : List (Nat × Nat)) (hs : a.eval s = v) (hown : OwnF u base v L) (hbase : base ≤ u.heap.size)
    (y z : Nat) (H : Nat) (hH : u.heap.size = H) (hx : a.eval x = .slice (some ⟨H, 0, none⟩) 1 1) (hl : L.length ≤ 10000000)
    (h : ∀ g cap w', OwnF w' base (.slice (some ⟨g, 0, none⟩) (L.length + 1) cap) (L ++ [(y, z)]) → Below base u w' → wpList Tryz.prog ops Q rest (a.put o.dst (.slice (some ⟨g, 0, none⟩) (L.length + 1) cap)) w') : wpList Tryz.prog ops Q (o :: rest) a (u.alloc (.cells #[.int .i64 (y : Int), .int .i64 (z : Int)] 38)) := by
  subst hH
  obtain ⟨i0, hi0, hz0, hz1, hz2⟩ := info_parts Tryz.infoLf
  refine wpList_append_lies _ hgd s x 33 ho base 38 i0 _ 2 16 Tryz.underlying33 hi0 hz0 hz1 hz2 rfl (by omega) v L.length _ hs (World.ownsRow.alloc hown _) ⟨u.heap.size, 0, none⟩ 1 1 (lfC (y, z)) hx rfl ?_ ?_ (by omega) (by unfold maxLen; omega) (by omega) (by simp; omega) _ rfl ?_
  · exact World.news_of_block (World.alloc_heap_new _ _)
  · intro q hq; simp [lfC] at hq; rcases hq with rfl | rfl <;> rfl
  intro g cap w1 hown1 hgrow hat hlt
  refine h g cap w1 ?_ (Below.grown ((Below.refl _ _).alloc hbase _) hgrow (by simp; omega) (fun k hk => (World.ownsRow.lt hown k hk).1))
  unfold OwnF
  rw [List.length_append, lfs_append]
  simpa [lfs] using hown1
/-- append, of a list of leaves, to a row of the call's own. -/
theorem wpList_append_lfs {u : World} {ops : Array Oper} {rest : List Oper} {o : Oper} {a : Act} {Q : Exit → Act → World → Prop} (hgd : o.guard = none) (s x : Operand)
    (ho : o.op = .call { callee := .builtin .append, args := #[s, x], argTypes := #[33, 33] })
    (base : Nat) (v : Value) (L : List (Nat × Nat)) (hs : a.eval s = v) (hown : OwnF u base v L) (hbase : base ≤ u.heap.size)
    (ad : Option Addr) (m c : Nat) (hx : a.eval x = .slice ad m c) (l2 : List (Nat × Nat)) (hm : l2.length = m) (hA : LfA u ad l2) (hl : L.length + m ≤ 10000000)
    (h : ∀ v' w', OwnF w' base v' (L ++ l2) → Below base u w' → wpList Tryz.prog ops Q rest (a.put o.dst v') w') : wpList Tryz.prog ops Q (o :: rest) a u := by
  obtain ⟨i0, hi0, hz0, hz1, hz2⟩ := info_parts Tryz.infoLf
  subst hm
  by_cases h0 : l2.length = 0
  · rw [h0] at hx
    have e2 := List.eq_nil_of_length_eq_zero h0
    obtain ⟨av, cv, rfl, -, hcap, -⟩ := hown.tells
    have hr := run_append_nothing (P := Tryz.prog) (w := u) 33 o.type 38 i0 Tryz.underlying33 hi0 av ad L.length cv c hcap
    have hk := h _ u (by rw [e2, List.append_nil]; exact hown) (Below.refl _ _)
    refine wpList_plain hgd fun K hK => ?_
    unfold Oper.wp
    simp [execOp, ho, resolve, invoke, builtin, hs, hx, hr, Result.andThen]
    exact hK _ _ hk
  · rcases hA with rfl | ⟨b, off, rfl, hI⟩
    · exact absurd rfl h0
    refine wpList_append_lies _ hgd s x 33 ho base 38 i0 _ 2 16 Tryz.underlying33 hi0 hz0 hz1 hz2 rfl (by omega) v L.length _ hs hown ⟨b, off, none⟩ l2.length c (lfs l2) hx (lfs_length l2) ?_ lfs_one (by omega) (by unfold maxLen; omega) (by omega) hbase _ rfl ?_
    · intro k q hq
      rw [Addr.add_mid]
      exact hI k q hq
    · intro g cap w1 hown1 hgrow hat hlt
      refine h _ w1 ?_ (Below.grown (Below.refl _ _) hgrow hbase (fun k hk => (World.ownsRow.lt hown k hk).1))
      unfold OwnF
      rw [List.length_append, lfs_append]
      exact hown1
/-- The first k of a list, and what stands behind them. -/
theorem slice_lfs (a : Option Addr) (n c k : Nat) (hk : k ≤ n) (hn : n ≤ c) (hc : c ≤ maxLen) (w : World) : (Instr.slice 33 (.slice a n c) none (some (.int .i64 (k : Int))) none).run Tryz.prog w = .ok (.slice a k c) w := by
  have h1 : k ≤ c := by omega
  unfold maxLen at hc
  cases a <;> simp [go_sem, h1] <;> omega
theorem slice_lft (a : Option Addr) (n c k : Nat) (hk : k ≤ n) (hn : n ≤ c) (hc : c ≤ maxLen) (h0 : ∀ p, a = some p → p = ⟨p.block, 0, none⟩) (h1 : a = none → c = 0) :
    ∃ a', (∀ w, (Instr.slice 33 (.slice a n c) (some (.int .i64 (k : Int))) none none).run Tryz.prog w = .ok (.slice a' (n - k) (c - k)) w) ∧ ∀ w l, LfA w a l → l.length = n → LfA w a' (l.drop k) := by
  cases a with
  | none =>
    have := h1 rfl
    obtain rfl : k = 0 := by omega
    refine ⟨none, fun w => ?_, fun w l hA hl => by simpa using hA⟩
    simp [go_sem]
  | some p =>
    rw [h0 p rfl]
    by_cases e : c = k
    · subst e
      refine ⟨some ⟨p.block, 0, none⟩, fun w => ?_, fun w l hA hl => .inl (List.drop_eq_nil_of_le (by omega))⟩
      simp [go_sem]
      omega
    · refine ⟨some ⟨p.block, 0 + k * 2, none⟩, fun w => ?_, fun w l hA hl => hA.drop k (by omega)⟩
      simp [go_sem, e]
      omega
end Go.Proofs.YtbfigaadbfggcaaGreatDoor
/- What slices.Equal at steps, scheme.Same and the document's own Same answer: for all schemes. -/
namespace Go.Proofs.YtbfigaadbfggcaaGreatDoor
open Go.RowKit
set_option linter.unusedVariables false

theorem run_neP (p q : Sp) (w : World) : (binOp .neq 50 (.agg #[.int .i64 p.d, .int .i64 p.n, .bool p.u]) (.agg #[.int .i64 q.d, .int .i64 q.n, .bool q.u])).run Tryz.prog w = .ok (.bool (!decide (p = q))) w := by
  obtain ⟨a, b, c⟩ := p
  obtain ⟨a', b', c'⟩ := q
  by_cases h0 : a = a' <;> by_cases h1 : b = b' <;> by_cases h2 : c = c'
  all_goals simp [go_sem, h0, h1, h2]

def EqRel (l1 l2 : List Sp) (F : Bool) (n : Nat) (w : World) (i : Value) (wr : World) : Prop :=
  ∃ k : Nat, k ≤ n ∧ i = .int .i64 (k : Int) ∧ Hid (decide (l1.drop k = l2.drop k) = F) ∧ ∃ u : Later w, wr = u.now
theorem eq_step {l1 l2 : List Sp} {k : Nat} {p q : Sp} (h1 : l1[k]? = some p) (h2 : l2[k]? = some q) : decide (l1.drop k = l2.drop k) = (decide (p = q) && decide (l1.drop (k + 1) = l2.drop (k + 1))) := by
  rw [drop_step h1, drop_step h2, Bool.eq_iff_iff]
  simp

theorem eqSc (s t : Sc) : decide (s = t) = ((s.c == t.c) && ((s.r == t.r) && decide (s.l = t.l))) := by
  obtain ⟨a, b, c⟩ := s
  obtain ⟨a', b', c'⟩ := t
  rw [Bool.eq_iff_iff]
  simp

def EqRel2 (l1 l2 : List Sp) (F : Bool) (n : Nat) (w : World) (i : Value) (wr : World) : Prop :=
  ∃ k : Nat, k ≤ n ∧ i = .int .i64 (k : Int) ∧ Hid (decide (l1.drop k = l2.drop k) = F) ∧ ∃ u : Later w, wr = u.now

end Go.Proofs.YtbfigaadbfggcaaGreatDoor
/- A load of a job by an operation that bears a guard. -/
namespace Go.Proofs.YtbfigaadbfggcaaGreatDoor
open Go.RowKit
set_option linter.unusedVariables false
section
variable {ops : Array Oper} {rest : List Oper} {o : Oper} {a : Act} {w : World} {Q : Exit → Act → World → Prop} {C : World → Prop} {K : Act → Prop}
/-- A job is loaded by an operation that bears a guard, and is wanted. -/
theorem wpList_load_job_want (x : Operand) (ho : o.op = .load 29 x) (hw : Region.wanted o (yielded ops a.tmps) = true) (b : Nat) (hx : a.eval x = .pointer (some ⟨b, 0, none⟩)) (cs : List Value) (hb : Bx w b cs) (hl : cs.length = 33)
    (h : wpList Tryz.prog ops Q rest (a.put o.dst (.agg cs.toArray)) w) : wpList Tryz.prog ops Q (o :: rest) a w := by
  unfold wpList
  rw [if_pos hw]
  refine .inl ?_
  unfold Oper.wp execOp
  simp only [ho, hx, Instr.loadAt, Instr.sureAddr, Sem.run_bind, Sem.run_pure, Result.andThen_ok, run_loadVar_mid w b 0 29 cs _ hb.range Tryz.underlying29 rfl (by rw [hl]; exact infoJob)]
  exact h
end
end Go.Proofs.YtbfigaadbfggcaaGreatDoor
/- What split.Folds, mostLast and takes answer, and the reference's Folds. -/
namespace Go.Proofs.YtbfigaadbfggcaaGreatDoor
open Go.RowKit
set_option linter.unusedVariables false
set_option linter.unusedSimpArgs false

/-- A scheme with too many steps is not right, however many they are. -/
theorem schRight_long (c r : Int) (a : Option Addr) (n cap : Nat) (w : World) (hn : 6 < n) :
    Calls Tryz.prog 74 #[.agg #[.int .i64 c, .int .i64 r, .slice a n cap]] w fun e w' => e = .returned (.bool false) ∧ Below w.heap.size w w' := by
  have KP := fun w => schPanels_any c r a n cap w
  have KI := fun w => in_any (panM c r) 1 64 w
  generalize panM c r = p at *
  generalize (decide (1 ≤ p) && decide (p ≤ 64)) = u2 at *
  have e1 : decide ((6 : Int) < (n : Int)) = true := by simp; omega
  have HP := Lib.hid KP; have HI := Lib.hid KI
  clear KP KI hn
  cases u2
  · clear e1
    go_enter Tryz.func74, Tryz.ntmps74
    go_wp2_with fail
    refine (HP.out _).mono ?_
    rintro e w1 ⟨rfl, hb⟩
    have B1 := Lib.hid (up_trans (up_alloc (Below.refl _ w) _) hb)
    clear hb
    go_wp2_with fail
    refine (HI.out _).mono ?_
    rintro e w2 ⟨rfl, rfl⟩
    go_wp2
    go_ret
    exact ⟨rfl, B1.out⟩
  · go_enter Tryz.func74, Tryz.ntmps74
    go_wp2_with fail
    refine (HP.out _).mono ?_
    rintro e w1 ⟨rfl, hb⟩
    have A := (Bx.new w 26 [.int .i64 c, .int .i64 r, .slice a n cap]).up hb
    have B1 := Lib.hid (up_trans (up_alloc (Below.refl _ w) _) hb)
    clear hb
    have a2 := A.cell 2 rfl
    go_wp2_with fail
    refine (HI.out _).mono ?_
    rintro e w2 ⟨rfl, rfl⟩
    go_wp2
    go_ret
    exact ⟨rfl, B1.out⟩
/-- What scheme.Right answers, however many steps there are. -/
theorem schRight_all (s : Sc) (a : Option Addr) (cap : Nat) (w : World) (hc : s.c ≤ 9223372036854775807) (hr : s.r ≤ 9223372036854775807) (h : InL w a s.l) :
    Calls Tryz.prog 74 #[.agg #[.int .i64 s.c, .int .i64 s.r, .slice a s.l.length cap]] w fun e w' => e = .returned (.bool (rightM s)) ∧ Below w.heap.size w w' := by
  by_cases hl : s.l.length ≤ 6
  · exact schRight_any s a cap w hc hr (by omega) h
  · have : rightM s = false := by unfold rightM; simp [hl]
    rw [this]
    exact schRight_long s.c s.r a _ cap w (by omega)

theorem spFolds_core (cs : List Value) (b c r p : Int) (a : Option Addr) (n cap : Nat) (u v z R : Bool) (w : World) (h11 : cs[11]? = some (.int .i64 b)) (h12 : cs[12]? = some (.int .i64 c)) (h13 : cs[13]? = some (.int .i64 r)) (h14 : cs[14]? = some (.slice a n cap))
    (e1 : (b == 3) = u) (e2 : decide (n = 0) = v)
    (KP : ∀ w1, Calls Tryz.prog 34 #[.agg #[.int .i64 c, .int .i64 r, .slice a n cap]] w1 fun e w' => e = .returned (.int .i64 p) ∧ Below w1.heap.size w1 w')
    (KI : ∀ w1, Calls Tryz.prog 40 #[.int .i64 p, .int .i64 1, .int .i64 64] w1 fun e w' => e = .returned (.bool z) ∧ w1 = w')
    (KR : ∀ w1, Below w.heap.size w w1 → Calls Tryz.prog 74 #[.agg #[.int .i64 c, .int .i64 r, .slice a n cap]] w1 fun e w' => e = .returned (.bool R) ∧ Below w1.heap.size w1 w') :
    Calls Tryz.prog 62 #[.agg cs.toArray] w fun e w' => e = .returned (.bool (if u = true then v && z else R)) ∧ Below w.heap.size w w' := by
  have HX := Bx.new w 29 cs
  have HB := Lib.hid (up_alloc (Below.refl w.heap.size w) (.cells cs.toArray 29))
  have c11 := HX.cell 11 h11; have c12 := HX.cell 12 h12; have c13 := HX.cell 13 h13; have c14 := HX.cell 14 h14
  have HP := Lib.hid KP; have HI := Lib.hid KI; have HR := Lib.hid KR
  have e2' : ((n : Int) == 0) = v := by rw [← e2, Bool.eq_iff_iff]; simp
  clear KP KI KR h11 h12 h13 h14 HX e2
  generalize cs.toArray = ca at *
  cases u
  · clear e2'
    go_enter Tryz.func62, Tryz.ntmps62
    go_wp2_with fail
    refine (HR.out _ HB.out).mono ?_
    rintro e w1 ⟨rfl, hb⟩
    have B1 := Lib.hid (up_trans HB.out hb)
    clear hb
    go_wp2
    go_ret
    exact ⟨rfl, B1.out⟩
  cases v
  · go_enter Tryz.func62, Tryz.ntmps62
    go_wp2
    go_ret
    exact ⟨rfl, HB.out⟩
  · go_enter Tryz.func62, Tryz.ntmps62
    go_wp2_with fail
    refine (HP.out _).mono ?_
    rintro e w1 ⟨rfl, hb⟩
    have B1 := Lib.hid (up_trans HB.out hb)
    clear hb
    go_wp2_with fail
    refine (HI.out _).mono ?_
    rintro e w2 ⟨rfl, rfl⟩
    go_wp2
    go_ret
    exact ⟨by simp, B1.out⟩

theorem refSpFolds_core (cs : List Value) (b c r p : Int) (a : Option Addr) (n cap : Nat) (u v z R : Bool) (w : World) (h11 : cs[11]? = some (.int .i64 b)) (h12 : cs[12]? = some (.int .i64 c)) (h13 : cs[13]? = some (.int .i64 r)) (h14 : cs[14]? = some (.slice a n cap))
    (e1 : (b == 3) = u) (e2 : decide (n = 0) = v)
    (KP : ∀ w1, Calls Tryz.prog 22 #[.agg #[.int .i64 c, .int .i64 r, .slice a n cap]] w1 fun e w' => e = .returned (.int .i64 p) ∧ Below w1.heap.size w1 w')
    (KI : ∀ w1, Calls Tryz.prog 35 #[.int .i64 p, .int .i64 1, .int .i64 64] w1 fun e w' => e = .returned (.bool z) ∧ w' = w1)
    (KR : ∀ w1, Below w.heap.size w w1 → Calls Tryz.prog 48 #[.agg #[.int .i64 c, .int .i64 r, .slice a n cap]] w1 fun e w' => e = .returned (.bool R) ∧ Below w1.heap.size w1 w') :
    Calls Tryz.prog 37 #[.agg cs.toArray] w fun e w' => e = .returned (.bool (if u = true then v && z else R)) ∧ Below w.heap.size w w' := by
  have HX := Bx.new w 29 cs
  have HB := Lib.hid (up_alloc (Below.refl w.heap.size w) (.cells cs.toArray 29))
  have c11 := HX.cell 11 h11; have c12 := HX.cell 12 h12; have c13 := HX.cell 13 h13; have c14 := HX.cell 14 h14
  have HP := Lib.hid KP; have HI := Lib.hid KI; have HR := Lib.hid KR
  have e2' : ((n : Int) == 0) = v := by rw [← e2, Bool.eq_iff_iff]; simp
  clear KP KI KR h11 h12 h13 h14 HX e2
  generalize cs.toArray = ca at *
  cases u
  · clear e2'
    go_enter Tryz.func37, Tryz.ntmps37
    go_wp2_with fail
    refine (HR.out _ HB.out).mono ?_
    rintro e w1 ⟨rfl, hb⟩
    have B1 := Lib.hid (up_trans HB.out hb)
    clear hb
    go_wp2
    go_ret
    exact ⟨rfl, B1.out⟩
  cases v
  · go_enter Tryz.func37, Tryz.ntmps37
    go_wp2
    go_ret
    exact ⟨rfl, HB.out⟩
  · go_enter Tryz.func37, Tryz.ntmps37
    go_wp2_with fail
    refine (HP.out _).mono ?_
    rintro e w1 ⟨rfl, hb⟩
    have B1 := Lib.hid (up_trans HB.out hb)
    clear hb
    go_wp2_with fail
    refine (HI.out _).mono ?_
    rintro e w2 ⟨rfl, rfl⟩
    go_wp2
    go_ret
    exact ⟨by simp, B1.out⟩

theorem JobA.cells {w : World} {cs : List Value} {j : Jb} (h : JobA w cs j) : ∃ a c a' c', cs[12]? = some (.int .i64 j.f.c) ∧ cs[13]? = some (.int .i64 j.f.r) ∧ cs[14]? = some (.slice a j.f.l.length c) ∧ cs[15]? = some (.slice a' j.ls.length c') ∧ InL w a j.f.l ∧ TxA w a' c' j.ls := by
  obtain ⟨a, c, a', c', rfl, h1, h2⟩ := h
  exact ⟨a, c, a', c', rfl, rfl, rfl, rfl, h1, h2⟩
/-- The sides of a job's sheet are ints. -/
def WfF (j : Jb) : Prop := j.f.c ≤ 9223372036854775807 ∧ j.f.r ≤ 9223372036854775807
theorem folds_if (j : Jb) : foldsM j = if (j.n 10 == 3) = true then decide (j.f.l.length = 0) && (decide (1 ≤ panM j.f.c j.f.r) && decide (panM j.f.c j.f.r ≤ 64)) else rightM j.f := by
  unfold foldsM panS
  simp only [beq_iff_eq]
theorem spFolds_any (cs : List Value) (j : Jb) (w : World) (h : JobA w cs j) (hf : WfF j) :
    Calls Tryz.prog 62 #[.agg cs.toArray] w fun e w' => e = .returned (.bool (foldsM j)) ∧ Below w.heap.size w w' := by
  obtain ⟨a, c, a', c', h12, h13, h14, h15, hI, hT⟩ := h.cells
  rw [folds_if]
  exact spFolds_core cs (j.n 10) j.f.c j.f.r _ a _ c _ _ _ _ w (h.num (k := 10) (by decide)) h12 h13 h14 rfl rfl (fun w1 => schPanels_any _ _ _ _ _ w1) (fun w1 => in_any _ 1 64 w1) (fun w1 hb => schRight_all j.f a c w1 hf.1 hf.2 (hI.up hb))
theorem refSpFolds_any (cs : List Value) (j : Jb) (w : World) (h : JobA w cs j) (hf : WfF j) (hl : j.f.l.length ≤ 1000000) :
    Calls Tryz.prog 37 #[.agg cs.toArray] w fun e w' => e = .returned (.bool (foldsM j)) ∧ Below w.heap.size w w' := by
  obtain ⟨a, c, a', c', h12, h13, h14, h15, hI, hT⟩ := h.cells
  rw [folds_if]
  exact refSpFolds_core cs (j.n 10) j.f.c j.f.r _ a _ c _ _ _ _ w (h.num (k := 10) (by decide)) h12 h13 h14 rfl rfl (fun w1 => refPanels_any _ _ _ _ _ w1) (fun w1 => refIn_any _ 1 64 w1) (fun w1 hb => refFine_any j.f a c w1 hf.1 hf.2 hl (hI.up hb))

theorem spMost_core (cs : List Value) (b : Int) (u v : Bool) (w : World) (h11 : cs[11]? = some (.int .i64 b)) (e1 : (b == 3) = u) (e2 : (b == 4) = v) :
    Calls Tryz.prog 63 #[.agg cs.toArray] w fun e w' => e = .returned (.int .i64 (if (u || v) = true then 0 else 4)) ∧ Below w.heap.size w w' := by
  have HX := Bx.new w 29 cs
  have HB := Lib.hid (up_alloc (Below.refl w.heap.size w) (.cells cs.toArray 29))
  have c11 := HX.cell 11 h11
  clear h11 HX
  generalize cs.toArray = ca at *
  cases u <;> cases v
  all_goals
    go_enter Tryz.func63, Tryz.ntmps63
    go_wp2
    go_ret
    exact ⟨rfl, HB.out⟩
theorem spMost_any (cs : List Value) (b : Int) (w : World) (h11 : cs[11]? = some (.int .i64 b)) :
    Calls Tryz.prog 63 #[.agg cs.toArray] w fun e w' => e = .returned (.int .i64 (mostM b)) ∧ Below w.heap.size w w' := by
  have := spMost_core cs b _ _ w h11 rfl rfl
  have e : (if ((b == 3) || (b == 4)) = true then (0 : Int) else 4) = (mostM b : Nat) := by
    unfold mostM
    simp only [Bool.or_eq_true, beq_iff_eq]
    split <;> rfl
  rw [e] at this
  exact this
theorem spTakes_any (c r : Int) (a : Option Addr) (n cap : Nat) (w : World) :
    Calls Tryz.prog 53 #[.agg #[.int .i64 c, .int .i64 r, .slice a n cap]] w fun e w' => e = .returned (.int .i64 (2 * panM c r)) ∧ Below w.heap.size w w' := by
  have KP := fun w => schPanels_any c r a n cap w
  have hp : 0 ≤ panM c r ∧ panM c r ≤ 4096 := pan_ge ⟨c, r, []⟩
  generalize panM c r = p at *
  obtain ⟨p0, p1⟩ := hp
  have HP := Lib.hid KP
  clear KP
  go_enter Tryz.func53, Tryz.ntmps53
  go_wp2_with fail
  refine (HP.out _).mono ?_
  rintro e w1 ⟨rfl, hb⟩
  have B1 := Lib.hid (up_trans (up_alloc (Below.refl _ w) _) hb)
  clear hb
  go_wp2
  go_ret
  exact ⟨rfl, B1.out⟩
end Go.Proofs.YtbfigaadbfggcaaGreatDoor
