/- Plain facts behind schemes: their texts, by their parts, come back; the catalogue; which parts tell a scheme. -/
import Derived.Test.YtaphkplidnepaaaDoorStepMath
import Derived.Test.YtaphkplidnepaaaDoorLexMath
import Derived.Lib.Split
namespace Go.Proofs.YtaphkplidnepaaaDoor
open Go.RowKit DecMath
set_option linter.unusedVariables false

/-- A scheme: columns, rows and steps. -/
structure Sc where
  c : Int
  r : Int
  l : List Sp
deriving DecidableEq
def zeroSc : Sc := ⟨0, 0, []⟩
def sideB (n : Int) : Bool := decide (1 ≤ n) && decide (n ≤ 64)
theorem sideB_true {n : Int} (h : sideB n = true) : 1 ≤ n ∧ n ≤ 64 := by simpa [sideB] using h
/-- Can it be told? -/
def toldB (s : Sc) : Bool := (sideB s.c && sideB s.r) && (decide (s.l.length ≤ 6) && s.l.all fun p => rightB p.d p.n)
theorem toldB_true {s : Sc} (h : toldB s = true) : (1 ≤ s.c ∧ s.c ≤ 64) ∧ (1 ≤ s.r ∧ s.r ≤ 64) ∧ s.l.length ≤ 6 ∧ ∀ p ∈ s.l, rightB p.d p.n = true := by
  unfold toldB at h
  simp only [Bool.and_eq_true, decide_eq_true_eq, List.all_eq_true] at h
  exact ⟨sideB_true h.1.1, sideB_true h.1.2, h.2⟩
def headT (s : Sc) : List UInt8 := Lib.itoa s.c ++ 120 :: Lib.itoa s.r
def tailT (l : List Sp) : List UInt8 := l.flatMap fun p => 32 :: textS p
/-- A scheme's text by its parts. -/
def partsM (s : Sc) : List (List UInt8) := headT s :: s.l.map textS
def tellM (s : Sc) : Option (List UInt8) := if toldB s = true then some (headT s ++ tailT s.l) else none

/-- Parts, with blanks between them. -/
def joinM : List (List UInt8) → List UInt8
  | [] => []
  | [p] => p
  | p :: q :: r => p ++ 32 :: joinM (q :: r)
theorem joinM_cons (p : List UInt8) (r : List (List UInt8)) : joinM (p :: r) = p ++ r.flatMap fun q => 32 :: q := by
  induction r generalizing p with
  | nil => simp [joinM]
  | cons q r ih => rw [joinM, ih]; simp
theorem joinM_parts (s : Sc) : joinM (partsM s) = headT s ++ tailT s.l := by
  unfold partsM tailT
  rw [joinM_cons, List.flatMap_map]
theorem joinM_snoc (l : List (List UInt8)) (x : List UInt8) : joinM (l ++ [x]) = if l = [] then x else joinM l ++ 32 :: x := by
  cases l with
  | nil => simp [joinM]
  | cons p r => rw [if_neg (by simp), List.cons_append, joinM_cons, joinM_cons]; simp
/-- What stands between blanks. -/
def cutB : List UInt8 → List UInt8 → List (List UInt8)
  | [], cur => [cur]
  | c :: r, cur => if c == 32 then cur :: cutB r [] else cutB r (cur ++ [c])
theorem cutB_part (p rest cur : List UInt8) (h : (32 : UInt8) ∉ p) : cutB (p ++ rest) cur = cutB rest (cur ++ p) := by
  induction p generalizing cur with
  | nil => simp
  | cons c p ih =>
    simp only [List.mem_cons, not_or] at h
    rw [List.cons_append, cutB, if_neg (by simpa using fun e => h.1 e.symm), ih _ h.2]
    simp
theorem cutB_join (p : List UInt8) (r : List (List UInt8)) (h : ∀ q ∈ p :: r, (32 : UInt8) ∉ q) : cutB (joinM (p :: r)) [] = p :: r := by
  induction r generalizing p with
  | nil => rw [joinM]; have := cutB_part p [] [] (h p (by simp)); simpa [cutB] using this
  | cons q r ih =>
    rw [joinM, cutB_part _ _ _ (h p (by simp)), cutB, if_pos (by decide), ih q (fun x hx => h x (by simp at hx ⊢; right; exact hx))]
    simp
theorem joinM_inj {l l' : List (List UInt8)} (h0 : l ≠ []) (h0' : l' ≠ []) (h : ∀ q ∈ l, (32 : UInt8) ∉ q) (h' : ∀ q ∈ l', (32 : UInt8) ∉ q) (e : joinM l = joinM l') : l = l' := by
  cases l with
  | nil => exact absurd rfl h0
  | cons p r =>
    cases l' with
    | nil => exact absurd rfl h0'
    | cons p' r' => rw [← cutB_join p r h, e, cutB_join p' r' h']
theorem joinM_blank {p q : List UInt8} {r : List (List UInt8)} : (32 : UInt8) ∈ joinM (p :: q :: r) := by simp [joinM]

/-- An octet that is no part of quotes, of a remark, of blanks. -/
def plainO (c : UInt8) : Bool := seenB c && !blankB c && !(c == 35) && !(c == 34)
theorem plain_field (p rest : List UInt8) (out : List (List UInt8)) (cur : List UInt8) (h : p.all plainO = true) : fieldsM (p ++ rest) out cur false false = fieldsM rest out (cur ++ p) false false := by
  induction p generalizing cur with
  | nil => simp
  | cons c p ih =>
    simp only [List.all_cons, Bool.and_eq_true] at h
    have hc := h.1
    simp only [plainO, Bool.and_eq_true, Bool.not_eq_true', beq_eq_false_iff_ne, ne_eq] at hc
    rw [List.cons_append, f_out _ _ _ _ hc.1.1.2 hc.1.2 hc.1.1.1, show (c == 34) = false by simpa using hc.2, ih _ h.2]
    simp
theorem fields_join (p : List UInt8) (r : List (List UInt8)) (out : List (List UInt8)) (h : ∀ q ∈ p :: r, q ≠ [] ∧ q.all plainO = true) : fieldsM (joinM (p :: r)) out [] false false = some (out ++ p :: r) := by
  induction r generalizing p out with
  | nil =>
    rw [joinM]
    have := plain_field p [] out [] (h p (by simp)).2
    rw [List.append_nil] at this
    rw [this, f_end, List.nil_append, addF_some (h p (by simp)).1]
  | cons q r ih =>
    rw [joinM, plain_field _ _ _ _ (h p (by simp)).2, f_blank _ _ _ _ (by decide), List.nil_append, addF_some (h p (by simp)).1, ih q _ (fun x hx => h x (by simp at hx ⊢; right; exact hx))]
    simp
theorem plain_digit {c : UInt8} (h : 48 ≤ c.toNat ∧ c.toNat ≤ 57) : plainO c = true := by
  have key : ∀ n : Fin 256, 48 ≤ n.val → n.val ≤ 57 → plainO (UInt8.ofNat n.val) = true := by decide +kernel
  have := key ⟨c.toNat, c.toNat_lt⟩ h.1 h.2
  simpa using this
theorem itoa_plain (n : Int) (n0 : 0 ≤ n) : (Lib.itoa n).all plainO = true := by
  unfold Lib.itoa
  rw [if_neg (by omega), List.all_eq_true]
  exact fun c hc => plain_digit (digits_each n.toNat c hc)
theorem itoa_some (n : Int) (n0 : 0 ≤ n) : Lib.itoa n ≠ [] := by
  unfold Lib.itoa
  rw [if_neg (by omega)]
  exact digits_ne _
theorem itoa_no (n : Int) (n0 : 0 ≤ n) (x : UInt8) (hx : ¬ (48 ≤ x.toNat ∧ x.toNat ≤ 57)) : x ∉ Lib.itoa n := by
  unfold Lib.itoa
  rw [if_neg (by omega)]
  exact fun h => hx (digits_each n.toNat x h)
theorem plain_blank {p : List UInt8} (h : p.all plainO = true) : (32 : UInt8) ∉ p := by
  intro hm
  have := List.all_eq_true.1 h 32 hm
  revert this
  decide
theorem textS_plain (p : Sp) (h : rightB p.d p.n = true) : textS p ≠ [] ∧ (textS p).all plainO = true := by
  obtain ⟨⟨d0, d1⟩, n0, n1⟩ := rightB_true h
  refine ⟨by simp [textS], ?_⟩
  unfold textS
  rw [List.all_cons, List.all_append, itoa_plain _ (by omega)]
  have h1 : plainO (sideC p.d) = true := by
    obtain e | e | e | e : p.d = 1 ∨ p.d = 2 ∨ p.d = 3 ∨ p.d = 4 := by omega
    all_goals (rw [e]; decide)
  rw [h1]
  cases p.u <;> decide
theorem headT_plain (s : Sc) (h : toldB s = true) : headT s ≠ [] ∧ (headT s).all plainO = true := by
  obtain ⟨h1, h2, -⟩ := toldB_true h
  refine ⟨by simp [headT], ?_⟩
  unfold headT
  rw [List.all_append, List.all_cons, itoa_plain _ (by omega), itoa_plain _ (by omega)]
  decide
theorem parts_plain (s : Sc) (h : toldB s = true) : ∀ q ∈ partsM s, q ≠ [] ∧ q.all plainO = true := by
  intro q hq
  simp only [partsM, List.mem_cons, List.mem_map] at hq
  rcases hq with rfl | ⟨p, hp, rfl⟩
  · exact headT_plain s h
  · exact textS_plain p ((toldB_true h).2.2.2 p hp)
theorem fields_parts (s : Sc) (h : toldB s = true) : fieldsL (joinM (partsM s)) = some (partsM s) := by
  have := fields_join (headT s) (s.l.map textS) [] (parts_plain s h)
  simpa [fieldsL, partsM] using this

/-- What stands ahead of the first x, and behind it. -/
def cutX : List UInt8 → List UInt8 × List UInt8
  | [] => ([], [])
  | c :: r => if c = 120 then ([], r) else (c :: (cutX r).1, (cutX r).2)
theorem cutX_lib (h : List UInt8) : ((Lib.cut h [120]).1, (Lib.cut h [120]).2.1) = cutX h := by
  have key : ∀ h : List UInt8, (Lib.index h [120] = -1 ∧ cutX h = (h, [])) ∨ ∃ i : Nat, Lib.index h [120] = i ∧ cutX h = (h.take i, h.drop (i + 1)) := by
    intro h
    induction h with
    | nil => left; exact ⟨by decide, rfl⟩
    | cons c r ih =>
      unfold Lib.index cutX
      by_cases e : c = 120
      · subst e; right; exact ⟨0, by simp, by simp⟩
      · have e1 : ((120 : UInt8) == c) = false := by simpa using fun h => e h.symm
        rw [if_neg e, show List.isPrefixOf [120] (c :: r) = false by simp [List.isPrefixOf, e1]]
        rcases ih with ⟨h1, h2⟩ | ⟨i, h1, h2⟩
        · left; simp [h1, h2]
        · right
          refine ⟨i + 1, ?_, by simp [h2]⟩
          have : ((i : Int) == -1) = false := by simp
          simp [h1, this]
  rcases key h with ⟨h1, h2⟩ | ⟨i, h1, h2⟩
  · simp [Lib.cut, h1, h2]
  · rw [h2]; simp [Lib.cut, h1]
theorem cutX_at {a : List UInt8} (b : List UInt8) (h : (120 : UInt8) ∉ a) : cutX (a ++ 120 :: b) = (a, b) := by
  induction a with
  | nil => simp [cutX]
  | cons c a ih =>
    simp only [List.mem_cons, not_or] at h
    rw [List.cons_append, cutX, if_neg (fun e => h.1 e.symm), ih h.2]
theorem cutX_back (h : List UInt8) : (cutX h).2 ≠ [] → h = (cutX h).1 ++ 120 :: (cutX h).2 := by
  induction h with
  | nil => intro e; exact absurd rfl e
  | cons c r ih =>
    unfold cutX
    by_cases e : c = 120
    · intro _; simp [e]
    · rw [if_neg e]
      intro h2
      simp only at h2 ⊢
      rw [List.cons_append, ← ih h2]

theorem numOf_true {l : List UInt8} {n : Int} (h : numOf l = (n, true)) : Lib.itoa n = l := by
  rcases numOf_cases l with ⟨m, _, e, h2⟩ | ⟨_, h2⟩
  · rw [h] at h2
    simp only [Prod.mk.injEq, and_true] at h2
    rw [h2, e]
  · rw [h] at h2; simp at h2
theorem inOf_true {l : List UInt8} {lo hi : Int} (h : (inOf l lo hi).2 = true) : Lib.itoa (inOf l lo hi).1 = l ∧ lo ≤ (inOf l lo hi).1 ∧ (inOf l lo hi).1 ≤ hi := by
  unfold inOf at h ⊢
  split at h
  · rename_i h2
    rw [if_pos h2]
    exact ⟨numOf_true (by rw [← h2.1]), h2.2⟩
  · cases h
/-- The steps of texts; none: one has none. -/
def stepsM : List (List UInt8) → Option (List Sp)
  | [] => some []
  | t :: r => if (getS t).2 = true then (stepsM r).map fun l => (getS t).1 :: l else none
/-- The scheme of parts, by columns, rows and steps. -/
def readM : List (List UInt8) → Option Sc
  | [] => none
  | h :: t => if t.length ≤ 6 ∧ (inOf (cutX h).1 1 64).2 = true ∧ (inOf (cutX h).2 1 64).2 = true then (stepsM t).map fun l => ⟨(inOf (cutX h).1 1 64).1, (inOf (cutX h).2 1 64).1, l⟩ else none
theorem stripU_back (r : List UInt8) : (stripU r).1 ++ (if (stripU r).2 = true then [117] else []) = r := by
  unfold stripU
  split
  · rename_i h
    obtain ⟨a, rfl⟩ := List.getLast?_eq_some_iff.1 h
    simp
  · simp
theorem sideC_O {c : UInt8} (h : sideO c ≠ 0) : sideC (sideO c) = c := by
  unfold sideO at h ⊢
  split at h
  · rename_i e; rw [if_pos e, e]; rfl
  · rename_i e1
    rw [if_neg e1]
    split at h
    · rename_i e; rw [if_pos e, e]; rfl
    · rename_i e2
      rw [if_neg e2]
      split at h
      · rename_i e; rw [if_pos e, e]; rfl
      · rename_i e3
        rw [if_neg e3]
        split at h
        · rename_i e; rw [if_pos e, e]; rfl
        · exact absurd rfl h
theorem getS_back {t : List UInt8} (h : (getS t).2 = true) : textS (getS t).1 = t ∧ rightB (getS t).1.d (getS t).1.n = true := by
  cases t with
  | nil => cases h
  | cons c r =>
    simp only [getS] at h ⊢
    split at h
    · rename_i hc
      rw [if_pos hc]
      obtain ⟨h1, h2, h3⟩ := inOf_true hc.2
      have hb := sideO_bounds c
      refine ⟨?_, ?_⟩
      · show sideC (sideO c) :: (Lib.itoa (inOf (stripU r).1 1 64).1 ++ if (stripU r).2 = true then [117] else []) = c :: r
        rw [sideC_O hc.1, h1, stripU_back]
      · have := hc.1
        simp [rightB]; omega
    · cases h
theorem stepsM_text (l : List Sp) (h : ∀ p ∈ l, rightB p.d p.n = true) : stepsM (l.map textS) = some l := by
  induction l with
  | nil => rfl
  | cons p l ih =>
    rw [List.map_cons, stepsM, getS_text p (h p (by simp)), ih fun q hq => h q (by simp [hq])]
    simp
theorem stepsM_back {t : List (List UInt8)} {l : List Sp} (h : stepsM t = some l) : t = l.map textS ∧ ∀ p ∈ l, rightB p.d p.n = true := by
  induction t generalizing l with
  | nil =>
    obtain rfl := Option.some.inj h
    exact ⟨rfl, by simp⟩
  | cons x t ih =>
    rw [stepsM] at h
    split at h
    · rename_i hx
      cases hs : stepsM t with
      | none => rw [hs] at h; cases h
      | some m =>
        rw [hs] at h
        obtain rfl := Option.some.inj h
        obtain ⟨e1, e2⟩ := ih hs
        obtain ⟨g1, g2⟩ := getS_back hx
        refine ⟨by rw [List.map_cons, g1, ← e1], ?_⟩
        intro p hp
        rcases List.mem_cons.1 hp with rfl | hp
        · exact g2
        · exact e2 p hp
    · cases h
theorem read_parts (s : Sc) (h : toldB s = true) : readM (partsM s) = some s := by
  obtain ⟨⟨c0, c1⟩, ⟨r0, r1⟩, h6, hl⟩ := toldB_true h
  have hx : cutX (headT s) = (Lib.itoa s.c, Lib.itoa s.r) := cutX_at _ (itoa_no _ (by omega) _ (by decide))
  simp only [partsM, readM]
  rw [hx, inOf_itoa s.c 1 64 (by omega) (by omega) c0 c1, inOf_itoa s.r 1 64 (by omega) (by omega) r0 r1, if_pos ⟨by simpa using h6, rfl, rfl⟩, stepsM_text _ hl]
  rfl
theorem read_back {l : List (List UInt8)} {s : Sc} (h : readM l = some s) : l = partsM s ∧ toldB s = true := by
  cases l with
  | nil => cases h
  | cons x t =>
    simp only [readM] at h
    split at h
    · rename_i hx
      obtain ⟨h6, ha, hb⟩ := hx
      cases hs : stepsM t with
      | none => rw [hs] at h; cases h
      | some m =>
        rw [hs] at h
        obtain rfl := Option.some.inj h
        obtain ⟨e1, e2⟩ := stepsM_back hs
        obtain ⟨a1, a2, a3⟩ := inOf_true ha
        obtain ⟨b1, b2, b3⟩ := inOf_true hb
        have hne : (cutX x).2 ≠ [] := by
          rw [← b1]
          exact itoa_some _ (by omega)
        refine ⟨?_, ?_⟩
        · show x :: t = headT _ :: m.map textS
          rw [← e1]
          congr 1
          show x = Lib.itoa _ ++ 120 :: Lib.itoa _
          rw [a1, b1]
          exact cutX_back x hne
        · unfold toldB sideB
          have hm : m.length = t.length := by rw [e1]; simp
          simp only [Bool.and_eq_true, decide_eq_true_eq, List.all_eq_true]
          exact ⟨⟨⟨a2, a3⟩, b2, b3⟩, by omega, e2⟩
    · cases h
theorem tell_inj {s s' : Sc} (h : toldB s = true) (h' : toldB s' = true) (e : headT s ++ tailT s.l = headT s' ++ tailT s'.l) : s = s' := by
  rw [← joinM_parts, ← joinM_parts] at e
  have := fields_parts s h
  rw [e, fields_parts s' h'] at this
  have h1 := read_parts s h
  rw [← Option.some.inj this, read_parts s' h'] at h1
  exact (Option.some.inj h1).symm
theorem tell_some {s : Sc} {t : List UInt8} (h : tellM s = some t) : toldB s = true ∧ t = joinM (partsM s) := by
  unfold tellM at h
  split at h
  · exact ⟨‹_›, by rw [joinM_parts]; exact (Option.some.inj h).symm⟩
  · cases h
theorem tell_len {s : Sc} (h : toldB s = true) : (headT s).length ≤ 41 ∧ (tailT s.l).length ≤ 23 * s.l.length := by
  obtain ⟨⟨c0, c1⟩, ⟨r0, r1⟩, h6, hl⟩ := toldB_true h
  refine ⟨?_, ?_⟩
  · have := itoa_len s.c (by omega) (by omega)
    have := itoa_len s.r (by omega) (by omega)
    unfold headT
    simp only [List.length_append, List.length_cons]
    omega
  · have key : ∀ l : List Sp, (∀ p ∈ l, rightB p.d p.n = true) → (tailT l).length ≤ 23 * l.length := by
      intro l hl
      induction l with
      | nil => simp [tailT]
      | cons p l ih =>
        obtain ⟨⟨d0, d1⟩, n0, n1⟩ := rightB_true (hl p (by simp))
        have := textS_len p (by omega) n1
        have := ih fun q hq => hl q (by simp [hq])
        unfold tailT at this ⊢
        rw [List.flatMap_cons]
        simp only [List.length_append, List.length_cons]
        omega
    exact key _ hl

/-- The catalogue. -/
def catS : List (List UInt8 × Sc) := [
  ([70, 50, 45, 49], ⟨1, 1, []⟩),
  ([70, 52, 45, 49], ⟨2, 1, [⟨1, 1, false⟩]⟩),
  ([70, 52, 45, 50], ⟨1, 2, [⟨3, 1, false⟩]⟩),
  ([70, 54, 45, 49], ⟨3, 1, [⟨2, 1, false⟩, ⟨1, 1, false⟩]⟩),
  ([70, 54, 45, 50], ⟨3, 1, [⟨1, 1, true⟩, ⟨2, 1, false⟩]⟩),
  ([70, 56, 45, 49], ⟨2, 2, [⟨3, 1, false⟩, ⟨1, 1, false⟩]⟩),
  ([70, 56, 45, 50], ⟨4, 1, [⟨1, 2, false⟩, ⟨1, 1, false⟩]⟩),
  ([70, 56, 45, 51], ⟨4, 1, [⟨1, 1, false⟩, ⟨2, 1, true⟩, ⟨1, 1, false⟩]⟩),
  ([70, 49, 50, 45, 49], ⟨3, 2, [⟨3, 1, false⟩, ⟨2, 1, false⟩, ⟨1, 1, false⟩]⟩),
  ([70, 49, 50, 45, 50], ⟨6, 1, [⟨1, 3, false⟩, ⟨2, 1, false⟩, ⟨1, 1, false⟩]⟩),
  ([70, 49, 54, 45, 49], ⟨4, 2, [⟨1, 2, false⟩, ⟨3, 1, false⟩, ⟨1, 1, false⟩]⟩),
  ([70, 49, 54, 45, 50], ⟨2, 4, [⟨3, 2, false⟩, ⟨3, 1, false⟩, ⟨1, 1, false⟩]⟩),
  ([70, 49, 54, 45, 51], ⟨8, 1, [⟨1, 4, false⟩, ⟨1, 2, false⟩, ⟨1, 1, false⟩]⟩),
  ([70, 49, 54, 45, 52], ⟨4, 2, [⟨3, 1, false⟩, ⟨1, 2, false⟩, ⟨1, 1, false⟩]⟩),
  ([70, 50, 52, 45, 49], ⟨3, 4, [⟨3, 2, false⟩, ⟨3, 1, false⟩, ⟨2, 1, false⟩, ⟨1, 1, false⟩]⟩),
  ([70, 50, 52, 45, 50], ⟨6, 2, [⟨1, 3, false⟩, ⟨3, 1, false⟩, ⟨2, 1, false⟩, ⟨1, 1, false⟩]⟩),
  ([70, 51, 50, 45, 49], ⟨4, 4, [⟨3, 2, false⟩, ⟨1, 2, false⟩, ⟨3, 1, false⟩, ⟨1, 1, false⟩]⟩),
  ([70, 51, 50, 45, 50], ⟨8, 2, [⟨1, 4, false⟩, ⟨1, 2, false⟩, ⟨3, 1, false⟩, ⟨1, 1, false⟩]⟩),
  ([70, 52, 56, 45, 49], ⟨6, 4, [⟨1, 3, false⟩, ⟨3, 2, false⟩, ⟨3, 1, false⟩, ⟨2, 1, false⟩, ⟨1, 1, false⟩]⟩),
  ([70, 54, 52, 45, 49], ⟨8, 4, [⟨1, 4, false⟩, ⟨3, 2, false⟩, ⟨1, 2, false⟩, ⟨3, 1, false⟩, ⟨1, 1, false⟩]⟩),
  ([70, 49, 50, 56, 45, 49], ⟨8, 8, [⟨1, 4, false⟩, ⟨3, 4, false⟩, ⟨1, 2, false⟩, ⟨3, 2, false⟩, ⟨3, 1, false⟩, ⟨1, 1, false⟩]⟩)]
/-- A number of one digit. -/
def dg (n : Int) : List UInt8 := [UInt8.ofNat (48 + n.toNat)]
theorem itoa_dg {n : Int} (h : (decide (0 ≤ n) && decide (n < 10)) = true) : Lib.itoa n = dg n := by
  simp only [Bool.and_eq_true, decide_eq_true_eq] at h
  rw [Lib.itoa, if_neg (by omega), Lib.decDigits_one (by omega)]
  rfl
def textC (p : Sp) : List UInt8 := sideC p.d :: (dg p.n ++ if p.u = true then [117] else [])
def partsC (s : Sc) : List (List UInt8) := (dg s.c ++ 120 :: dg s.r) :: s.l.map textC
def smallB (s : Sc) : Bool := ((decide (0 ≤ s.c) && decide (s.c < 10)) && (decide (0 ≤ s.r) && decide (s.r < 10))) && s.l.all fun p => decide (0 ≤ p.n) && decide (p.n < 10)
theorem parts_small (s : Sc) (h : smallB s = true) : partsM s = partsC s := by
  unfold smallB at h
  rw [Bool.and_eq_true, Bool.and_eq_true, List.all_eq_true] at h
  obtain ⟨⟨h1, h2⟩, h3⟩ := h
  unfold partsM partsC headT
  rw [itoa_dg h1, itoa_dg h2]
  congr 1
  refine List.map_congr_left fun p hp => ?_
  unfold textS textC
  rw [itoa_dg (h3 p hp)]
theorem cat_small : ∀ e ∈ catS, smallB e.2 = true := by decide +kernel
theorem cat_told : ∀ e ∈ catS, toldB e.2 = true := by decide +kernel
theorem cat_plain : ∀ e ∈ catS, e.1 ≠ [] ∧ e.1.all plainO = true ∧ (120 : UInt8) ∉ e.1 := by decide +kernel
theorem cat_names : (catS.map Prod.fst).Nodup := by decide +kernel
theorem cat_schemes : (catS.map Prod.snd).Nodup := by decide +kernel
theorem cat_parts : ∀ e ∈ catS, partsM e.2 = partsC e.2 := fun e he => parts_small e.2 (cat_small e he)

/-- The scheme of a name. -/
def findM (n : List UInt8) : Option Sc := (catS.find? fun e => decide (e.1 = n)).map Prod.snd
/-- The first name whose scheme is this one. -/
def nameM (s : Sc) : Option (List UInt8) := (catS.find? fun e => decide (e.2 = s)).map Prod.fst
def putM (s : Sc) : Option (List UInt8) := match nameM s with
  | some n => some n
  | none => tellM s
theorem find_of_mem {n : List UInt8} {s : Sc} (h : (n, s) ∈ catS) : findM n = some s ∧ nameM s = some n := by
  have key : ∀ e ∈ catS, findM e.1 = some e.2 ∧ nameM e.2 = some e.1 := by decide +kernel
  exact key (n, s) h
theorem find_some {n : List UInt8} {s : Sc} (h : findM n = some s) : (n, s) ∈ catS := by
  unfold findM at h
  rw [Option.map_eq_some_iff] at h
  obtain ⟨e, he, rfl⟩ := h
  have h1 := List.mem_of_find?_eq_some he
  have h2 := List.find?_some he
  simp only [decide_eq_true_eq] at h2
  rw [← h2]
  exact h1
theorem name_some {n : List UInt8} {s : Sc} (h : nameM s = some n) : (n, s) ∈ catS := by
  unfold nameM at h
  rw [Option.map_eq_some_iff] at h
  obtain ⟨e, he, rfl⟩ := h
  have h1 := List.mem_of_find?_eq_some he
  have h2 := List.find?_some he
  simp only [decide_eq_true_eq] at h2
  rw [← h2]
  exact h1
theorem find_none {n : List UInt8} (h : ∀ e ∈ catS, e.1 ≠ n) : findM n = none := by
  unfold findM
  rw [Option.map_eq_none_iff, List.find?_eq_none]
  intro e he
  simpa using h e he
theorem name_none {s : Sc} (h : ∀ e ∈ catS, e.2 ≠ s) : nameM s = none := by
  unfold nameM
  rw [Option.map_eq_none_iff, List.find?_eq_none]
  intro e he
  simpa using h e he
theorem name_not_told {s : Sc} (h : toldB s = false) : nameM s = none := name_none fun e he hs => by
  have := cat_told e he
  rw [hs, h] at this
  cases this
/-- The scheme of these parts. -/
def getM (l : List (List UInt8)) : Option Sc :=
  match (match l with | [n] => findM n | _ => none) with
  | some s => some s
  | none => match readM l with
    | some s => if nameM s = none then some s else none
    | none => none
theorem get_name {n : List UInt8} {s : Sc} (h : findM n = some s) : getM [n] = some s := by simp [getM, h]
theorem get_read {l : List (List UInt8)} {s : Sc} (h0 : ∀ n, l = [n] → findM n = none) (h : readM l = some s) (hn : nameM s = none) : getM l = some s := by
  unfold getM
  split
  · rename_i x hx
    split at hx
    · rw [h0 _ rfl] at hx; cases hx
    · cases hx
  · rw [h]; simp [hn]
theorem get_no_read {l : List (List UInt8)} (h0 : ∀ n, l = [n] → findM n = none) (h : readM l = none) : getM l = none := by
  unfold getM
  split
  · rename_i x hx
    split at hx
    · rw [h0 _ rfl] at hx; cases hx
    · cases hx
  · rw [h]
theorem get_named {l : List (List UInt8)} {s : Sc} {n : List UInt8} (h0 : ∀ n, l = [n] → findM n = none) (h : readM l = some s) (hn : nameM s = some n) : getM l = none := by
  unfold getM
  split
  · rename_i x hx
    split at hx
    · rw [h0 _ rfl] at hx; cases hx
    · cases hx
  · rw [h]; simp [hn]
/-- A text of its own is no name. -/
theorem find_head (s : Sc) : findM (headT s) = none := find_none fun e he h => by
  have := (cat_plain e he).2.2
  rw [h] at this
  exact this (by simp [headT])
/-- What can be told comes back from its text's parts. -/
theorem get_put {s : Sc} {t : List UInt8} (h : putM s = some t) : ∃ l, fieldsL t = some l ∧ getM l = some s := by
  unfold putM at h
  cases hn : nameM s with
  | some n =>
    rw [hn] at h
    obtain rfl := Option.some.inj h
    have hm := name_some hn
    have hp := cat_plain _ hm
    refine ⟨[n], ?_, get_name (find_of_mem hm).1⟩
    have := fields_join n [] [] (by simpa using ⟨hp.1, fun x hx => List.all_eq_true.1 hp.2.1 x hx⟩)
    simpa [fieldsL, joinM] using this
  | none =>
    rw [hn] at h
    obtain ⟨ht, rfl⟩ := tell_some h
    exact ⟨partsM s, fields_parts s ht, get_read (fun n e => by unfold partsM at e; injection e with e1 e2; rw [← e1]; exact find_head s) (read_parts s ht) hn⟩

/-- The document's own way: the text of all parts is read, told, and held against it. -/
def plainM (t : List UInt8) : Option Sc := readM ((fieldsL t).getD [])
def foundM (t : List UInt8) : Option Sc := match findM t with
  | some s => some s
  | none => plainM t
def refGetM (l : List (List UInt8)) : Option Sc :=
  if l.any (fun p => p.contains 32) = true then none
  else match foundM (joinM l) with
    | some s => if putM s = some (joinM l) then some s else none
    | none => none
theorem get_blank {l : List (List UInt8)} {s : Sc} (h : getM l = some s) : l.any (fun p => p.contains 32) = false := by
  have hnb : ∀ q ∈ l, (32 : UInt8) ∉ q := by
    unfold getM at h
    split at h
    · rename_i x hx
      split at hx
      · intro q hq
        simp only [List.mem_singleton] at hq
        subst hq
        exact plain_blank (cat_plain _ (find_some hx)).2.1
      · cases hx
    · split at h
      · rename_i y hy
        obtain ⟨rfl, ht⟩ := read_back hy
        exact fun q hq => plain_blank (parts_plain y ht q hq).2
      · cases h
  rw [List.any_eq_false]
  intro q hq
  have := hnb q hq
  simpa using this
theorem refGet_eq (l : List (List UInt8)) : refGetM l = getM l := by
  unfold refGetM
  by_cases hb : l.any (fun p => p.contains 32) = true
  · rw [if_pos hb]
    cases h : getM l with
    | none => rfl
    | some s => rw [get_blank h] at hb; cases hb
  · rw [if_neg hb]
    have hnb : ∀ q ∈ l, (32 : UInt8) ∉ q := by
      intro q hq hm
      exact hb (List.any_eq_true.2 ⟨q, hq, by simpa using hm⟩)
    have hlone : findM (joinM l) ≠ none → ∃ n, l = [n] := by
      intro h
      match l with
      | [] => exact absurd (by decide +kernel) h
      | [n] => exact ⟨n, rfl⟩
      | p :: q :: r =>
        refine absurd (find_none fun e he h2 => ?_) h
        have := plain_blank (cat_plain e he).2.1
        rw [h2] at this
        exact this joinM_blank
    cases hf : findM (joinM l) with
    | some s =>
      obtain ⟨n, rfl⟩ := hlone (by rw [hf]; simp)
      have hm := find_some hf
      simp only [joinM] at hf hm ⊢
      unfold foundM
      rw [hf]
      have : putM s = some n := by unfold putM; rw [(find_of_mem hm).2]
      simp only [this, if_true]
      exact (get_name hf).symm
    | none =>
      have h0 : ∀ n, l = [n] → findM n = none := by rintro n rfl; simpa [joinM] using hf
      have hfd : foundM (joinM l) = plainM (joinM l) := by unfold foundM; rw [hf]
      rw [hfd]
      cases hr : readM l with
      | some s =>
        obtain ⟨hl, ht⟩ := read_back hr
        have hp : plainM (joinM l) = some s := by
          unfold plainM
          rw [hl, fields_parts s ht]
          exact read_parts s ht
        rw [hp]
        cases hn : nameM s with
        | some n =>
          rw [get_named h0 hr hn]
          have hne : putM s ≠ some (joinM l) := by
            unfold putM
            rw [hn]
            intro e
            rw [← Option.some.inj e, (find_of_mem (name_some hn)).1] at hf
            cases hf
          simp [hne]
        | none =>
          rw [get_read h0 hr hn]
          have : putM s = some (joinM l) := by
            unfold putM tellM
            rw [hn, if_pos ht, ← joinM_parts, hl]
          simp [this]
      | none =>
        rw [get_no_read h0 hr]
        cases hp : plainM (joinM l) with
        | none => rfl
        | some s =>
          simp only
          rw [if_neg]
          intro e
          unfold putM at e
          cases hn : nameM s with
          | some n =>
            rw [hn] at e
            rw [← Option.some.inj e, (find_of_mem (name_some hn)).1] at hf
            cases hf
          | none =>
            rw [hn] at e
            obtain ⟨ht, e2⟩ := tell_some e
            have hl0 : l ≠ [] := by
              rintro rfl
              have := joinM_parts s
              rw [← e2] at this
              simp [joinM, headT] at this
            have := joinM_inj hl0 (by simp [partsM]) hnb (fun q hq => plain_blank (parts_plain s ht q hq).2) e2
            rw [this, read_parts s ht] at hr
            cases hr
end Go.Proofs.YtaphkplidnepaaaDoor
