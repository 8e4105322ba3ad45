/- Part 3 of the texts that the proofs of this seat share: LexMath, SchemeMath, StepText. -/
import Derived.Test.YtbfigaadbfggcaaGreatDoorPart2
import Derived.Test.YtbfigaadbfggcaaGreatDoorPart1
import Derived.Lib.Split
/- Lines, fields and quoted texts, as plain lists of octets. -/
namespace Go.Proofs.YtbfigaadbfggcaaGreatDoor
set_option linter.unusedVariables false

/-- May an octet be seen? -/
def seenB (c : UInt8) : Bool := decide (32 ≤ c.toNat) && decide (c.toNat ≤ 126)
/-- Is it blank? -/
def blankB (c : UInt8) : Bool := c == 32 || c == 9

/-- What stands between line feeds; cur: what there is of the first line. -/
def linesM : List UInt8 → List UInt8 → List (List UInt8)
  | [], cur => [cur]
  | c :: r, cur => if c == 10 then cur :: linesM r [] else linesM r (cur ++ [c])
/-- Lines, with line feeds between them. -/
def restJ : Bool → List (List UInt8) → List UInt8
  | _, [] => []
  | b, a :: r => (if b then [] else [10]) ++ a ++ restJ false r
theorem restJ_lines (s : List UInt8) : ∀ (b : Bool) (cur : List UInt8), restJ b (linesM s cur) = (if b then [] else [10]) ++ cur ++ s := by
  induction s with
  | nil => intro b cur; simp [linesM, restJ]
  | cons c r ih =>
    intro b cur
    unfold linesM
    by_cases h : c = 10
    · subst h
      simp only [beq_self_eq_true, if_true, restJ, ih]
      simp
    · rw [if_neg (by simpa using h), ih]
      simp
theorem lines_none (s : List UInt8) : ∀ (cur : List UInt8), (10 : UInt8) ∉ cur → ∀ a ∈ linesM s cur, (10 : UInt8) ∉ a := by
  induction s with
  | nil => intro cur hc a ha; simp [linesM] at ha; subst ha; exact hc
  | cons c r ih =>
    intro cur hc a ha
    unfold linesM at ha
    by_cases h : c = 10
    · subst h
      simp only [beq_self_eq_true, if_true, List.mem_cons] at ha
      rcases ha with rfl | ha
      · exact hc
      · exact ih [] (by simp) a ha
    · rw [if_neg (by simpa using h)] at ha
      exact ih _ (by simp only [List.mem_append, List.mem_singleton, not_or]; exact ⟨hc, fun e => h e.symm⟩) a ha
theorem lines_some (s : List UInt8) : ∀ (cur : List UInt8), linesM s cur ≠ [] := by
  induction s with
  | nil => intro cur; simp [linesM]
  | cons c r ih => intro cur; unfold linesM; split <;> simp [ih]
theorem lines_length (s : List UInt8) : ∀ (cur : List UInt8), (linesM s cur).length ≤ s.length + 1 := by
  induction s with
  | nil => intro cur; simp [linesM]
  | cons c r ih =>
    intro cur
    unfold linesM
    split
    · have := ih []; simp; omega
    · have := ih (cur ++ [c]); simp; omega
theorem lines_feed (r cur : List UInt8) : linesM (10 :: r) cur = cur :: linesM r [] := by simp [linesM]
theorem lines_other {c : UInt8} (r cur : List UInt8) (h : c ≠ 10) : linesM (c :: r) cur = linesM r (cur ++ [c]) := by simp [linesM, h]

/-- A part behind the others, if it has an octet. -/
def addF (out : List (List UInt8)) (cur : List UInt8) : List (List UInt8) := if cur = [] then out else out ++ [cur]
theorem addF_nil (out : List (List UInt8)) : addF out [] = out := if_pos rfl
theorem addF_some {out : List (List UInt8)} {cur : List UInt8} (h : cur ≠ []) : addF out cur = out ++ [cur] := if_neg h
theorem addF_length (out : List (List UInt8)) (cur : List UInt8) : (addF out cur).length ≤ out.length + 1 := by unfold addF; split <;> simp
/-- A line's parts; none: they can't be told apart. out: those that there are, cur: the part that is gone through, wi: within quotes, fr: right behind a backslash there. -/
def fieldsM : List UInt8 → List (List UInt8) → List UInt8 → Bool → Bool → Option (List (List UInt8))
  | [], out, cur, wi, _ => if wi then none else some (addF out cur)
  | c :: r, out, cur, wi, fr =>
    if wi then (if seenB c then fieldsM r out (cur ++ [c]) (fr || c != 34) (!fr && c == 92) else none)
    else if blankB c then fieldsM r (addF out cur) [] false false
    else if c == 35 then some (addF out cur)
    else if seenB c then fieldsM r out (cur ++ [c]) (c == 34) false
    else none
def fieldsL (s : List UInt8) : Option (List (List UInt8)) := fieldsM s [] [] false false

theorem f_end (out : List (List UInt8)) (cur : List UInt8) (fr : Bool) : fieldsM [] out cur false fr = some (addF out cur) := by simp [fieldsM]
theorem f_open (out : List (List UInt8)) (cur : List UInt8) (fr : Bool) : fieldsM [] out cur true fr = none := by simp [fieldsM]
theorem f_in {c : UInt8} (r : List UInt8) (out : List (List UInt8)) (cur : List UInt8) (fr : Bool) (h : seenB c = true) : fieldsM (c :: r) out cur true fr = fieldsM r out (cur ++ [c]) (fr || c != 34) (!fr && c == 92) := by simp [fieldsM, h]
theorem f_in_bad {c : UInt8} (r : List UInt8) (out : List (List UInt8)) (cur : List UInt8) (fr : Bool) (h : seenB c = false) : fieldsM (c :: r) out cur true fr = none := by simp [fieldsM, h]
theorem f_blank {c : UInt8} (r : List UInt8) (out : List (List UInt8)) (cur : List UInt8) (fr : Bool) (h : blankB c = true) : fieldsM (c :: r) out cur false fr = fieldsM r (addF out cur) [] false false := by simp [fieldsM, h]
theorem f_stop (r : List UInt8) (out : List (List UInt8)) (cur : List UInt8) (fr : Bool) : fieldsM (35 :: r) out cur false fr = some (addF out cur) := by
  have : blankB 35 = false := by decide
  simp [fieldsM, this]
theorem f_out {c : UInt8} (r : List UInt8) (out : List (List UInt8)) (cur : List UInt8) (fr : Bool) (h1 : blankB c = false) (h2 : c ≠ 35) (h : seenB c = true) : fieldsM (c :: r) out cur false fr = fieldsM r out (cur ++ [c]) (c == 34) false := by simp [fieldsM, h, h1, h2]
theorem f_out_bad {c : UInt8} (r : List UInt8) (out : List (List UInt8)) (cur : List UInt8) (fr : Bool) (h1 : blankB c = false) (h2 : c ≠ 35) (h : seenB c = false) : fieldsM (c :: r) out cur false fr = none := by simp [fieldsM, h, h1, h2]

/-- What stands for an octet within quotes. -/
def escO (c : UInt8) : List UInt8 := if c == 34 || c == 92 then [92, c] else [c]
theorem escO_q : escO 34 = [92, 34] := by decide
theorem escO_b : escO 92 = [92, 92] := by decide
theorem escO_o {c : UInt8} (h1 : c ≠ 34) (h2 : c ≠ 92) : escO c = [c] := by simp [escO, h1, h2]
def quoteT (l : List UInt8) : List UInt8 := 34 :: (l.flatMap escO ++ [34])
/-- A text's quoted text; none: an octet may not be. -/
def quoteO (l : List UInt8) : Option (List UInt8) := if l.all seenB then some (quoteT l) else none
theorem esc_length (l : List UInt8) : (l.flatMap escO).length ≤ 2 * l.length := by
  induction l with
  | nil => simp
  | cons c r ih =>
    have : (escO c).length ≤ 2 := by unfold escO; split <;> simp
    simp only [List.flatMap_cons, List.length_append, List.length_cons]
    omega
theorem esc_snoc (l : List UInt8) (c : UInt8) : (l ++ [c]).flatMap escO = l.flatMap escO ++ escO c := by simp
theorem quoteT_length (l : List UInt8) : (quoteT l).length = (l.flatMap escO).length + 2 := by simp [quoteT]

/-- Without the backslashes that stand ahead of other octets; e: right behind one. -/
def bareM : List UInt8 → Bool → List UInt8
  | [], _ => []
  | c :: r, e => if c == 92 && !e then bareM r true else c :: bareM r false
theorem bare_length (l : List UInt8) : ∀ e, (bareM l e).length ≤ l.length := by
  induction l with
  | nil => intro e; simp [bareM]
  | cons c r ih =>
    intro e
    unfold bareM
    split
    · have := ih true; simp; omega
    · have := ih false; simp; omega
theorem bare_esc (l : List UInt8) : bareM (l.flatMap escO) false = l := by
  induction l with
  | nil => rfl
  | cons c r ih =>
    rw [List.flatMap_cons]
    by_cases h1 : c = 34
    · subst h1; simp [escO_q, bareM, ih]
    by_cases h2 : c = 92
    · subst h2; simp [escO_b, bareM, ih]
    rw [escO_o h1 h2]
    simp [bareM, h2, ih]
/-- The same, by pairs. -/
def rbM : List UInt8 → List UInt8
  | [] => []
  | [c] => [c]
  | c :: d :: r => if c == 92 then d :: rbM r else c :: rbM (d :: r)
theorem rb_one {c : UInt8} (r : List UInt8) (h : c ≠ 92) : rbM (c :: r) = c :: rbM r := by
  cases r with
  | nil => simp [rbM]
  | cons d r => simp [rbM, h]
theorem rb_two (d : UInt8) (r : List UInt8) : rbM (92 :: d :: r) = d :: rbM r := by simp [rbM]
theorem rb_last (c : UInt8) : rbM [c] = [c] := by simp [rbM]
theorem rb_esc (l : List UInt8) : rbM (l.flatMap escO) = l := by
  induction l with
  | nil => simp [rbM]
  | cons c r ih =>
    rw [List.flatMap_cons]
    by_cases h1 : c = 34
    · subst h1; simp [escO_q, rb_two, ih]
    by_cases h2 : c = 92
    · subst h2; simp [escO_b, rb_two, ih]
    rw [escO_o h1 h2]
    show rbM (c :: r.flatMap escO) = _
    rw [rb_one _ h2, ih]

/-- What stands between the first octet and the last one. -/
def midL (s : List UInt8) : List UInt8 := (s.take (s.length - 1)).drop 1
theorem mid_quote (l : List UInt8) : midL (quoteT l) = l.flatMap escO := by
  unfold midL quoteT
  rw [show (34 :: (l.flatMap escO ++ [34])).length - 1 = (l.flatMap escO).length + 1 by simp]
  simp
/-- The text whose quoted text s is. -/
def unqO (s : List UInt8) : Option (List UInt8) := if quoteO (bareM (midL s) false) = some s then some (bareM (midL s) false) else none
theorem quote_some {t s : List UInt8} (h : quoteO t = some s) : t.all seenB = true ∧ quoteT t = s := by
  unfold quoteO at h
  split at h
  · exact ⟨‹_›, Option.some.inj h⟩
  · cases h
theorem unq_quote {t s : List UInt8} (h : quoteO t = some s) : unqO s = some t := by
  have e : bareM (midL s) false = t := by rw [← (quote_some h).2, mid_quote, bare_esc]
  unfold unqO
  rw [e, if_pos h]
theorem unq_short {s : List UInt8} (h : s.length < 2) : unqO s = none := by
  unfold unqO
  rw [if_neg]
  intro e
  have := (quote_some e).2
  have := congrArg List.length this
  rw [quoteT_length] at this
  omega
theorem unq_ref_yes {s : List UInt8} (h : quoteO (rbM (midL s)) = some s) : unqO s = some (rbM (midL s)) := unq_quote h
theorem unq_ref_no {s : List UInt8} (h : quoteO (rbM (midL s)) ≠ some s) : unqO s = none := by
  unfold unqO
  rw [if_neg]
  intro e
  apply h
  have e1 : rbM (midL s) = bareM (midL s) false := by
    have := (quote_some e).2
    rw [← this, mid_quote, rb_esc, bare_esc]
  rw [e1]
  exact e
theorem unq_code_yes {s : List UInt8} (h : quoteO (bareM (midL s) false) = some s) : unqO s = some (bareM (midL s) false) := if_pos h
theorem unq_code_no {s : List UInt8} (h : quoteO (bareM (midL s) false) ≠ some s) : unqO s = none := if_neg h

/-- Quoted octets leave quotes open. -/
theorem f_esc (l r : List UInt8) (out : List (List UInt8)) : ∀ cur, l.all seenB = true → fieldsM (l.flatMap escO ++ r) out cur true false = fieldsM r out (cur ++ l.flatMap escO) true false := by
  induction l with
  | nil => intro cur h; simp
  | cons c l ih =>
    intro cur h
    simp only [List.all_cons, Bool.and_eq_true] at h
    rw [List.flatMap_cons, List.append_assoc]
    have hb : seenB 92 = true := by decide
    have hstep : fieldsM (escO c ++ (l.flatMap escO ++ r)) out cur true false = fieldsM (l.flatMap escO ++ r) out (cur ++ escO c) true false := by
      by_cases h1 : c = 34
      · subst h1
        simp only [escO_q, List.cons_append, List.nil_append]
        rw [f_in _ _ _ _ hb, show ((false || (92 : UInt8) != 34) : Bool) = true by decide, show ((!false && (92 : UInt8) == 92) : Bool) = true by decide, f_in _ _ _ _ h.1]
        simp
      by_cases h2 : c = 92
      · subst h2
        simp only [escO_b, List.cons_append, List.nil_append]
        rw [f_in _ _ _ _ hb, show ((false || (92 : UInt8) != 34) : Bool) = true by decide, show ((!false && (92 : UInt8) == 92) : Bool) = true by decide, f_in _ _ _ _ h.1]
        simp
      rw [escO_o h1 h2]
      show fieldsM (c :: _) _ _ _ _ = _
      have e1 : ((false || c != 34) : Bool) = true := by simpa using h1
      have e2 : ((!false && c == 92) : Bool) = false := by simpa using h2
      rw [f_in _ _ _ _ h.1, e1, e2]
      rfl
    rw [hstep, ih _ h.2]
    simp
/-- A quoted text is one field. -/
theorem fields_quote {t q : List UInt8} (h : quoteO t = some q) : fieldsL q = some [q] := by
  obtain ⟨h1, rfl⟩ := quote_some h
  unfold fieldsL quoteT
  rw [f_out _ _ _ _ (by decide) (by decide) (by decide), show ((34 : UInt8) == 34) = true by decide, f_esc _ _ _ _ h1, f_in _ _ _ _ (by decide)]
  simp [fieldsM, addF]

/-- A field that there is: gone through from its begin to its end it is one part, or a part of one. -/
def GoodF (f : List UInt8) : Prop := f ≠ [] ∧ ∀ rest out cur, fieldsM (f ++ rest) out cur false false = fieldsM rest out (cur ++ f) false false
def PartF (cur : List UInt8) (wi fr : Bool) : Prop := ∀ rest out cur0, fieldsM (cur ++ rest) out cur0 false false = fieldsM rest out (cur0 ++ cur) wi fr
theorem part_nil : PartF [] false false := by intro r o c; simp
theorem addF_good {out : List (List UInt8)} {cur : List UInt8} (ho : ∀ f ∈ out, GoodF f) (hc : PartF cur false false) : ∀ f ∈ addF out cur, GoodF f := by
  unfold addF
  split
  · exact ho
  · intro f hf
    rcases List.mem_append.1 hf with h | h
    · exact ho f h
    · obtain rfl := List.mem_singleton.1 h
      exact ⟨‹_›, hc⟩
theorem part_snoc {cur : List UInt8} {wi fr wi' fr' : Bool} {c : UInt8} (h : PartF cur wi fr) (hs : ∀ rest out cur0, fieldsM (c :: rest) out cur0 wi fr = fieldsM rest out (cur0 ++ [c]) wi' fr') : PartF (cur ++ [c]) wi' fr' := by
  intro rest out cur0
  rw [List.append_assoc, h]
  show fieldsM (c :: rest) _ _ _ _ = _
  rw [hs, List.append_assoc]
theorem fields_good (s : List UInt8) : ∀ (out : List (List UInt8)) (cur : List UInt8) (wi fr : Bool) (l : List (List UInt8)), (∀ f ∈ out, GoodF f) → PartF cur wi fr → (wi = false → fr = false) → fieldsM s out cur wi fr = some l → ∀ f ∈ l, GoodF f := by
  induction s with
  | nil =>
    intro out cur wi fr l ho hc hw h
    cases wi
    · rw [f_end] at h
      obtain rfl := Option.some.inj h
      obtain rfl := hw rfl
      exact addF_good ho hc
    · rw [f_open] at h; cases h
  | cons c r ih =>
    intro out cur wi fr l ho hc hw h
    cases wi
    · obtain rfl := hw rfl
      cases h1 : blankB c
      · by_cases h2 : c = 35
        · subst h2
          rw [f_stop] at h
          obtain rfl := Option.some.inj h
          exact addF_good ho hc
        · cases h3 : seenB c
          · rw [f_out_bad _ _ _ _ h1 h2 h3] at h; cases h
          · rw [f_out _ _ _ _ h1 h2 h3] at h
            exact ih _ _ _ _ l ho (part_snoc hc fun _ _ _ => f_out _ _ _ _ h1 h2 h3) (fun _ => rfl) h
      · rw [f_blank _ _ _ _ h1] at h
        exact ih _ _ _ _ l (addF_good ho hc) part_nil (fun _ => rfl) h
    · cases h3 : seenB c
      · rw [f_in_bad _ _ _ _ h3] at h; cases h
      · rw [f_in _ _ _ _ h3] at h
        refine ih _ _ _ _ l ho (part_snoc hc fun _ _ _ => f_in _ _ _ _ h3) ?_ h
        intro e
        simp only [Bool.or_eq_false_iff, bne_eq_false_iff_eq] at e
        rw [e.2]
        simp
theorem fieldsL_good {s : List UInt8} {l : List (List UInt8)} (h : fieldsL s = some l) : ∀ f ∈ l, GoodF f := fields_good s [] [] false false l (by simp) part_nil (fun _ => rfl) h

/-- Blanks, however many, end a part. -/
theorem f_blanks (b rest : List UInt8) (hb : ∀ c ∈ b, blankB c = true) : ∀ (out : List (List UInt8)), fieldsM (b ++ rest) out [] false false = fieldsM rest out [] false false := by
  induction b with
  | nil => intro out; rfl
  | cons c b ih =>
    intro out
    show fieldsM (c :: (b ++ rest)) _ _ _ _ = _
    rw [f_blank _ _ _ _ (hb c (by simp)), addF_nil, ih (fun d hd => hb d (by simp [hd]))]
theorem f_blanks1 (b rest : List UInt8) (h0 : b ≠ []) (hb : ∀ c ∈ b, blankB c = true) (out : List (List UInt8)) (cur : List UInt8) : fieldsM (b ++ rest) out cur false false = fieldsM rest (addF out cur) [] false false := by
  cases b with
  | nil => exact absurd rfl h0
  | cons c b =>
    show fieldsM (c :: (b ++ rest)) _ _ _ _ = _
    rw [f_blank _ _ _ _ (hb c (by simp)), f_blanks b rest (fun d hd => hb d (by simp [hd]))]
/-- Fields, with blanks behind each. -/
def spread (b : List UInt8) (l : List (List UInt8)) : List UInt8 := l.flatMap fun f => f ++ b
theorem f_spread (b rest : List UInt8) (h0 : b ≠ []) (hb : ∀ c ∈ b, blankB c = true) (l : List (List UInt8)) : ∀ (out : List (List UInt8)), (∀ f ∈ l, GoodF f) → fieldsM (spread b l ++ rest) out [] false false = fieldsM rest (out ++ l) [] false false := by
  induction l with
  | nil => intro out _; simp [spread]
  | cons f l ih =>
    intro out hg
    have hf := hg f (by simp)
    have e : spread b (f :: l) ++ rest = f ++ (b ++ (spread b l ++ rest)) := by simp [spread]
    rw [e, hf.2, f_blanks1 _ _ h0 hb, List.nil_append, addF_some hf.1, ih _ (fun g hg' => hg g (by simp [hg']))]
    simp
theorem fields_spread {s : List UInt8} {l : List (List UInt8)} (h : fieldsL s = some l) (b remark : List UInt8) (h0 : b ≠ []) (hb : ∀ c ∈ b, blankB c = true) : fieldsL (b ++ spread b l ++ 35 :: remark) = some l := by
  unfold fieldsL
  rw [List.append_assoc, f_blanks _ _ hb, f_spread b _ h0 hb l [] (fieldsL_good h), f_stop, addF_nil, List.nil_append]
theorem fieldsM_length (s : List UInt8) : ∀ (out : List (List UInt8)) (cur : List UInt8) (wi fr : Bool) (l : List (List UInt8)), fieldsM s out cur wi fr = some l → l.length ≤ out.length + s.length + 1 := by
  induction s with
  | nil =>
    intro out cur wi fr l h
    cases wi
    · rw [f_end] at h
      obtain rfl := Option.some.inj h
      have := addF_length out cur
      simp; omega
    · rw [f_open] at h; cases h
  | cons c r ih =>
    intro out cur wi fr l h
    have ha := addF_length out cur
    unfold fieldsM at h
    simp only [List.length_cons]
    split at h
    · split at h
      · have := ih _ _ _ _ _ h; omega
      · cases h
    · split at h
      · have := ih _ _ _ _ _ h; omega
      · split at h
        · obtain rfl := Option.some.inj h; omega
        · split at h
          · have := ih _ _ _ _ _ h; omega
          · cases h
/-- All octets of the parts together are no more than the line's. -/
theorem fieldsM_octets (s : List UInt8) : ∀ (out : List (List UInt8)) (cur : List UInt8) (wi fr : Bool) (l : List (List UInt8)), fieldsM s out cur wi fr = some l → l.flatten.length ≤ out.flatten.length + cur.length + s.length := by
  have haf : ∀ (out : List (List UInt8)) (cur : List UInt8), (addF out cur).flatten.length = out.flatten.length + cur.length := by
    intro out cur
    unfold addF
    split
    · subst_vars; simp
    · simp
  induction s with
  | nil =>
    intro out cur wi fr l h
    cases wi
    · rw [f_end] at h
      obtain rfl := Option.some.inj h
      rw [haf]
      simp
    · rw [f_open] at h; cases h
  | cons c r ih =>
    intro out cur wi fr l h
    have ha := haf out cur
    unfold fieldsM at h
    simp only [List.length_cons]
    split at h
    · split at h
      · have := ih _ _ _ _ _ h; simp only [List.length_append, List.length_singleton] at this; omega
      · cases h
    · split at h
      · have := ih _ _ _ _ _ h; simp only [List.length_nil] at this; omega
      · split at h
        · obtain rfl := Option.some.inj h; omega
        · split at h
          · have := ih _ _ _ _ _ h; simp only [List.length_append, List.length_singleton] at this; omega
          · cases h
theorem spread_length (b : List UInt8) (l : List (List UInt8)) : (spread b l).length = l.flatten.length + l.length * b.length := by
  induction l with
  | nil => simp [spread]
  | cons f l ih =>
    have e : spread b (f :: l) = f ++ b ++ spread b l := by simp [spread]
    rw [e]
    simp only [List.length_append, List.flatten_cons, List.length_cons, ih, Nat.add_mul]
    omega
theorem fieldsL_length {s : List UInt8} {l : List (List UInt8)} (h : fieldsL s = some l) : l.length ≤ s.length + 1 := by
  have := fieldsM_length s [] [] false false l h
  simpa using this
theorem fieldsL_octets {s : List UInt8} {l : List (List UInt8)} (h : fieldsL s = some l) : l.flatten.length ≤ s.length := by
  have := fieldsM_octets s [] [] false false l h
  simpa using this
end Go.Proofs.YtbfigaadbfggcaaGreatDoor
/- Plain facts behind schemes: their texts, by their parts, come back; the catalogue; which parts tell a scheme. -/
namespace Go.Proofs.YtbfigaadbfggcaaGreatDoor
open Go.RowKit DecMath
set_option linter.unusedVariables false

/-- Can it be told? -/
def toldB (s : Sc) : Bool := (sideB s.c && sideB s.r) && (decide (s.l.length ≤ 6) && s.l.all fun p => rightB p.d p.n)
theorem toldB_true {s : Sc} (h : toldB s = true) : (1 ≤ s.c ∧ s.c ≤ 64) ∧ (1 ≤ s.r ∧ s.r ≤ 64) ∧ s.l.length ≤ 6 ∧ ∀ p ∈ s.l, rightB p.d p.n = true := by
  unfold toldB at h
  simp only [Bool.and_eq_true, decide_eq_true_eq, List.all_eq_true] at h
  exact ⟨sideB_true h.1.1, sideB_true h.1.2, h.2⟩
def headT (s : Sc) : List UInt8 := Lib.itoa s.c ++ 120 :: Lib.itoa s.r
def tailT (l : List Sp) : List UInt8 := l.flatMap fun p => 32 :: textS p
/-- A scheme's text by its parts. -/
def partsM (s : Sc) : List (List UInt8) := headT s :: s.l.map textS
def tellM (s : Sc) : Option (List UInt8) := if toldB s = true then some (headT s ++ tailT s.l) else none

/-- Parts, with blanks between them. -/
def joinM : List (List UInt8) → List UInt8
  | [] => []
  | [p] => p
  | p :: q :: r => p ++ 32 :: joinM (q :: r)
theorem joinM_cons (p : List UInt8) (r : List (List UInt8)) : joinM (p :: r) = p ++ r.flatMap fun q => 32 :: q := by
  induction r generalizing p with
  | nil => simp [joinM]
  | cons q r ih => rw [joinM, ih]; simp
theorem joinM_parts (s : Sc) : joinM (partsM s) = headT s ++ tailT s.l := by
  unfold partsM tailT
  rw [joinM_cons, List.flatMap_map]
theorem joinM_snoc (l : List (List UInt8)) (x : List UInt8) : joinM (l ++ [x]) = if l = [] then x else joinM l ++ 32 :: x := by
  cases l with
  | nil => simp [joinM]
  | cons p r => rw [if_neg (by simp), List.cons_append, joinM_cons, joinM_cons]; simp
/-- What stands between blanks. -/
def cutB : List UInt8 → List UInt8 → List (List UInt8)
  | [], cur => [cur]
  | c :: r, cur => if c == 32 then cur :: cutB r [] else cutB r (cur ++ [c])
theorem cutB_part (p rest cur : List UInt8) (h : (32 : UInt8) ∉ p) : cutB (p ++ rest) cur = cutB rest (cur ++ p) := by
  induction p generalizing cur with
  | nil => simp
  | cons c p ih =>
    simp only [List.mem_cons, not_or] at h
    rw [List.cons_append, cutB, if_neg (by simpa using fun e => h.1 e.symm), ih _ h.2]
    simp
theorem cutB_join (p : List UInt8) (r : List (List UInt8)) (h : ∀ q ∈ p :: r, (32 : UInt8) ∉ q) : cutB (joinM (p :: r)) [] = p :: r := by
  induction r generalizing p with
  | nil => rw [joinM]; have := cutB_part p [] [] (h p (by simp)); simpa [cutB] using this
  | cons q r ih =>
    rw [joinM, cutB_part _ _ _ (h p (by simp)), cutB, if_pos (by decide), ih q (fun x hx => h x (by simp at hx ⊢; right; exact hx))]
    simp
theorem joinM_inj {l l' : List (List UInt8)} (h0 : l ≠ []) (h0' : l' ≠ []) (h : ∀ q ∈ l, (32 : UInt8) ∉ q) (h' : ∀ q ∈ l', (32 : UInt8) ∉ q) (e : joinM l = joinM l') : l = l' := by
  cases l with
  | nil => exact absurd rfl h0
  | cons p r =>
    cases l' with
    | nil => exact absurd rfl h0'
    | cons p' r' => rw [← cutB_join p r h, e, cutB_join p' r' h']
theorem joinM_blank {p q : List UInt8} {r : List (List UInt8)} : (32 : UInt8) ∈ joinM (p :: q :: r) := by simp [joinM]

/-- An octet that is no part of quotes, of a remark, of blanks. -/
def plainO (c : UInt8) : Bool := seenB c && !blankB c && !(c == 35) && !(c == 34)
theorem plain_field (p rest : List UInt8) (out : List (List UInt8)) (cur : List UInt8) (h : p.all plainO = true) : fieldsM (p ++ rest) out cur false false = fieldsM rest out (cur ++ p) false false := by
  induction p generalizing cur with
  | nil => simp
  | cons c p ih =>
    simp only [List.all_cons, Bool.and_eq_true] at h
    have hc := h.1
    simp only [plainO, Bool.and_eq_true, Bool.not_eq_true', beq_eq_false_iff_ne, ne_eq] at hc
    rw [List.cons_append, f_out _ _ _ _ hc.1.1.2 hc.1.2 hc.1.1.1, show (c == 34) = false by simpa using hc.2, ih _ h.2]
    simp
theorem fields_join (p : List UInt8) (r : List (List UInt8)) (out : List (List UInt8)) (h : ∀ q ∈ p :: r, q ≠ [] ∧ q.all plainO = true) : fieldsM (joinM (p :: r)) out [] false false = some (out ++ p :: r) := by
  induction r generalizing p out with
  | nil =>
    rw [joinM]
    have := plain_field p [] out [] (h p (by simp)).2
    rw [List.append_nil] at this
    rw [this, f_end, List.nil_append, addF_some (h p (by simp)).1]
  | cons q r ih =>
    rw [joinM, plain_field _ _ _ _ (h p (by simp)).2, f_blank _ _ _ _ (by decide), List.nil_append, addF_some (h p (by simp)).1, ih q _ (fun x hx => h x (by simp at hx ⊢; right; exact hx))]
    simp
theorem plain_digit {c : UInt8} (h : 48 ≤ c.toNat ∧ c.toNat ≤ 57) : plainO c = true := by
  have key : ∀ n : Fin 256, 48 ≤ n.val → n.val ≤ 57 → plainO (UInt8.ofNat n.val) = true := by decide +kernel
  have := key ⟨c.toNat, c.toNat_lt⟩ h.1 h.2
  simpa using this
theorem itoa_plain (n : Int) (n0 : 0 ≤ n) : (Lib.itoa n).all plainO = true := by
  unfold Lib.itoa
  rw [if_neg (by omega), List.all_eq_true]
  exact fun c hc => plain_digit (digits_each n.toNat c hc)
theorem itoa_some (n : Int) (n0 : 0 ≤ n) : Lib.itoa n ≠ [] := by
  unfold Lib.itoa
  rw [if_neg (by omega)]
  exact digits_ne _
theorem itoa_no (n : Int) (n0 : 0 ≤ n) (x : UInt8) (hx : ¬ (48 ≤ x.toNat ∧ x.toNat ≤ 57)) : x ∉ Lib.itoa n := by
  unfold Lib.itoa
  rw [if_neg (by omega)]
  exact fun h => hx (digits_each n.toNat x h)
theorem plain_blank {p : List UInt8} (h : p.all plainO = true) : (32 : UInt8) ∉ p := by
  intro hm
  have := List.all_eq_true.1 h 32 hm
  revert this
  decide
theorem textS_plain (p : Sp) (h : rightB p.d p.n = true) : textS p ≠ [] ∧ (textS p).all plainO = true := by
  obtain ⟨⟨d0, d1⟩, n0, n1⟩ := rightB_true h
  refine ⟨by simp [textS], ?_⟩
  unfold textS
  rw [List.all_cons, List.all_append, itoa_plain _ (by omega)]
  have h1 : plainO (sideC p.d) = true := by
    obtain e | e | e | e : p.d = 1 ∨ p.d = 2 ∨ p.d = 3 ∨ p.d = 4 := by omega
    all_goals (rw [e]; decide)
  rw [h1]
  cases p.u <;> decide
theorem headT_plain (s : Sc) (h : toldB s = true) : headT s ≠ [] ∧ (headT s).all plainO = true := by
  obtain ⟨h1, h2, -⟩ := toldB_true h
  refine ⟨by simp [headT], ?_⟩
  unfold headT
  rw [List.all_append, List.all_cons, itoa_plain _ (by omega), itoa_plain _ (by omega)]
  decide
theorem parts_plain (s : Sc) (h : toldB s = true) : ∀ q ∈ partsM s, q ≠ [] ∧ q.all plainO = true := by
  intro q hq
  simp only [partsM, List.mem_cons, List.mem_map] at hq
  rcases hq with rfl | ⟨p, hp, rfl⟩
  · exact headT_plain s h
  · exact textS_plain p ((toldB_true h).2.2.2 p hp)
theorem fields_parts (s : Sc) (h : toldB s = true) : fieldsL (joinM (partsM s)) = some (partsM s) := by
  have := fields_join (headT s) (s.l.map textS) [] (parts_plain s h)
  simpa [fieldsL, partsM] using this

/-- What stands ahead of the first x, and behind it. -/
def cutX : List UInt8 → List UInt8 × List UInt8
  | [] => ([], [])
  | c :: r => if c = 120 then ([], r) else (c :: (cutX r).1, (cutX r).2)
theorem cutX_lib (h : List UInt8) : ((Lib.cut h [120]).1, (Lib.cut h [120]).2.1) = cutX h := by
  have key : ∀ h : List UInt8, (Lib.index h [120] = -1 ∧ cutX h = (h, [])) ∨ ∃ i : Nat, Lib.index h [120] = i ∧ cutX h = (h.take i, h.drop (i + 1)) := by
    intro h
    induction h with
    | nil => left; exact ⟨by decide, rfl⟩
    | cons c r ih =>
      unfold Lib.index cutX
      by_cases e : c = 120
      · subst e; right; exact ⟨0, by simp, by simp⟩
      · have e1 : ((120 : UInt8) == c) = false := by simpa using fun h => e h.symm
        rw [if_neg e, show List.isPrefixOf [120] (c :: r) = false by simp [List.isPrefixOf, e1]]
        rcases ih with ⟨h1, h2⟩ | ⟨i, h1, h2⟩
        · left; simp [h1, h2]
        · right
          refine ⟨i + 1, ?_, by simp [h2]⟩
          have : ((i : Int) == -1) = false := by simp
          simp [h1, this]
  rcases key h with ⟨h1, h2⟩ | ⟨i, h1, h2⟩
  · simp [Lib.cut, h1, h2]
  · rw [h2]; simp [Lib.cut, h1]
theorem cutX_at {a : List UInt8} (b : List UInt8) (h : (120 : UInt8) ∉ a) : cutX (a ++ 120 :: b) = (a, b) := by
  induction a with
  | nil => simp [cutX]
  | cons c a ih =>
    simp only [List.mem_cons, not_or] at h
    rw [List.cons_append, cutX, if_neg (fun e => h.1 e.symm), ih h.2]
theorem cutX_back (h : List UInt8) : (cutX h).2 ≠ [] → h = (cutX h).1 ++ 120 :: (cutX h).2 := by
  induction h with
  | nil => intro e; exact absurd rfl e
  | cons c r ih =>
    unfold cutX
    by_cases e : c = 120
    · intro _; simp [e]
    · rw [if_neg e]
      intro h2
      simp only at h2 ⊢
      rw [List.cons_append, ← ih h2]

theorem numOf_true {l : List UInt8} {n : Int} (h : numOf l = (n, true)) : Lib.itoa n = l := by
  rcases numOf_cases l with ⟨m, _, e, h2⟩ | ⟨_, h2⟩
  · rw [h] at h2
    simp only [Prod.mk.injEq, and_true] at h2
    rw [h2, e]
  · rw [h] at h2; simp at h2
theorem inOf_true {l : List UInt8} {lo hi : Int} (h : (inOf l lo hi).2 = true) : Lib.itoa (inOf l lo hi).1 = l ∧ lo ≤ (inOf l lo hi).1 ∧ (inOf l lo hi).1 ≤ hi := by
  unfold inOf at h ⊢
  split at h
  · rename_i h2
    rw [if_pos h2]
    exact ⟨numOf_true (by rw [← h2.1]), h2.2⟩
  · cases h
/-- The steps of texts; none: one has none. -/
def stepsM : List (List UInt8) → Option (List Sp)
  | [] => some []
  | t :: r => if (getS t).2 = true then (stepsM r).map fun l => (getS t).1 :: l else none
/-- The scheme of parts, by columns, rows and steps. -/
def readM : List (List UInt8) → Option Sc
  | [] => none
  | h :: t => if t.length ≤ 6 ∧ (inOf (cutX h).1 1 64).2 = true ∧ (inOf (cutX h).2 1 64).2 = true then (stepsM t).map fun l => ⟨(inOf (cutX h).1 1 64).1, (inOf (cutX h).2 1 64).1, l⟩ else none
theorem stripU_back (r : List UInt8) : (stripU r).1 ++ (if (stripU r).2 = true then [117] else []) = r := by
  unfold stripU
  split
  · rename_i h
    obtain ⟨a, rfl⟩ := List.getLast?_eq_some_iff.1 h
    simp
  · simp
theorem sideC_O {c : UInt8} (h : sideO c ≠ 0) : sideC (sideO c) = c := by
  unfold sideO at h ⊢
  split at h
  · rename_i e; rw [if_pos e, e]; rfl
  · rename_i e1
    rw [if_neg e1]
    split at h
    · rename_i e; rw [if_pos e, e]; rfl
    · rename_i e2
      rw [if_neg e2]
      split at h
      · rename_i e; rw [if_pos e, e]; rfl
      · rename_i e3
        rw [if_neg e3]
        split at h
        · rename_i e; rw [if_pos e, e]; rfl
        · exact absurd rfl h
theorem getS_back {t : List UInt8} (h : (getS t).2 = true) : textS (getS t).1 = t ∧ rightB (getS t).1.d (getS t).1.n = true := by
  cases t with
  | nil => cases h
  | cons c r =>
    simp only [getS] at h ⊢
    split at h
    · rename_i hc
      rw [if_pos hc]
      obtain ⟨h1, h2, h3⟩ := inOf_true hc.2
      have hb := sideO_bounds c
      refine ⟨?_, ?_⟩
      · show sideC (sideO c) :: (Lib.itoa (inOf (stripU r).1 1 64).1 ++ if (stripU r).2 = true then [117] else []) = c :: r
        rw [sideC_O hc.1, h1, stripU_back]
      · have := hc.1
        simp [rightB]; omega
    · cases h
theorem stepsM_text (l : List Sp) (h : ∀ p ∈ l, rightB p.d p.n = true) : stepsM (l.map textS) = some l := by
  induction l with
  | nil => rfl
  | cons p l ih =>
    rw [List.map_cons, stepsM, getS_text p (h p (by simp)), ih fun q hq => h q (by simp [hq])]
    simp
theorem stepsM_back {t : List (List UInt8)} {l : List Sp} (h : stepsM t = some l) : t = l.map textS ∧ ∀ p ∈ l, rightB p.d p.n = true := by
  induction t generalizing l with
  | nil =>
    obtain rfl := Option.some.inj h
    exact ⟨rfl, by simp⟩
  | cons x t ih =>
    rw [stepsM] at h
    split at h
    · rename_i hx
      cases hs : stepsM t with
      | none => rw [hs] at h; cases h
      | some m =>
        rw [hs] at h
        obtain rfl := Option.some.inj h
        obtain ⟨e1, e2⟩ := ih hs
        obtain ⟨g1, g2⟩ := getS_back hx
        refine ⟨by rw [List.map_cons, g1, ← e1], ?_⟩
        intro p hp
        rcases List.mem_cons.1 hp with rfl | hp
        · exact g2
        · exact e2 p hp
    · cases h
theorem read_parts (s : Sc) (h : toldB s = true) : readM (partsM s) = some s := by
  obtain ⟨⟨c0, c1⟩, ⟨r0, r1⟩, h6, hl⟩ := toldB_true h
  have hx : cutX (headT s) = (Lib.itoa s.c, Lib.itoa s.r) := cutX_at _ (itoa_no _ (by omega) _ (by decide))
  simp only [partsM, readM]
  rw [hx, inOf_itoa s.c 1 64 (by omega) (by omega) c0 c1, inOf_itoa s.r 1 64 (by omega) (by omega) r0 r1, if_pos ⟨by simpa using h6, rfl, rfl⟩, stepsM_text _ hl]
  rfl
theorem read_back {l : List (List UInt8)} {s : Sc} (h : readM l = some s) : l = partsM s ∧ toldB s = true := by
  cases l with
  | nil => cases h
  | cons x t =>
    simp only [readM] at h
    split at h
    · rename_i hx
      obtain ⟨h6, ha, hb⟩ := hx
      cases hs : stepsM t with
      | none => rw [hs] at h; cases h
      | some m =>
        rw [hs] at h
        obtain rfl := Option.some.inj h
        obtain ⟨e1, e2⟩ := stepsM_back hs
        obtain ⟨a1, a2, a3⟩ := inOf_true ha
        obtain ⟨b1, b2, b3⟩ := inOf_true hb
        have hne : (cutX x).2 ≠ [] := by
          rw [← b1]
          exact itoa_some _ (by omega)
        refine ⟨?_, ?_⟩
        · show x :: t = headT _ :: m.map textS
          rw [← e1]
          congr 1
          show x = Lib.itoa _ ++ 120 :: Lib.itoa _
          rw [a1, b1]
          exact cutX_back x hne
        · unfold toldB sideB
          have hm : m.length = t.length := by rw [e1]; simp
          simp only [Bool.and_eq_true, decide_eq_true_eq, List.all_eq_true]
          exact ⟨⟨⟨a2, a3⟩, b2, b3⟩, by omega, e2⟩
    · cases h
theorem tell_inj {s s' : Sc} (h : toldB s = true) (h' : toldB s' = true) (e : headT s ++ tailT s.l = headT s' ++ tailT s'.l) : s = s' := by
  rw [← joinM_parts, ← joinM_parts] at e
  have := fields_parts s h
  rw [e, fields_parts s' h'] at this
  have h1 := read_parts s h
  rw [← Option.some.inj this, read_parts s' h'] at h1
  exact (Option.some.inj h1).symm
theorem tell_some {s : Sc} {t : List UInt8} (h : tellM s = some t) : toldB s = true ∧ t = joinM (partsM s) := by
  unfold tellM at h
  split at h
  · exact ⟨‹_›, by rw [joinM_parts]; exact (Option.some.inj h).symm⟩
  · cases h
theorem tell_len {s : Sc} (h : toldB s = true) : (headT s).length ≤ 41 ∧ (tailT s.l).length ≤ 23 * s.l.length := by
  obtain ⟨⟨c0, c1⟩, ⟨r0, r1⟩, h6, hl⟩ := toldB_true h
  refine ⟨?_, ?_⟩
  · have := itoa_len s.c (by omega) (by omega)
    have := itoa_len s.r (by omega) (by omega)
    unfold headT
    simp only [List.length_append, List.length_cons]
    omega
  · have key : ∀ l : List Sp, (∀ p ∈ l, rightB p.d p.n = true) → (tailT l).length ≤ 23 * l.length := by
      intro l hl
      induction l with
      | nil => simp [tailT]
      | cons p l ih =>
        obtain ⟨⟨d0, d1⟩, n0, n1⟩ := rightB_true (hl p (by simp))
        have := textS_len p (by omega) n1
        have := ih fun q hq => hl q (by simp [hq])
        unfold tailT at this ⊢
        rw [List.flatMap_cons]
        simp only [List.length_append, List.length_cons]
        omega
    exact key _ hl

/-- The catalogue. -/
def catS : List (List UInt8 × Sc) := [
  ([70, 50, 45, 49], ⟨1, 1, []⟩),
  ([70, 52, 45, 49], ⟨2, 1, [⟨1, 1, false⟩]⟩),
  ([70, 52, 45, 50], ⟨1, 2, [⟨3, 1, false⟩]⟩),
  ([70, 54, 45, 49], ⟨3, 1, [⟨2, 1, false⟩, ⟨1, 1, false⟩]⟩),
  ([70, 54, 45, 50], ⟨3, 1, [⟨1, 1, true⟩, ⟨2, 1, false⟩]⟩),
  ([70, 56, 45, 49], ⟨2, 2, [⟨3, 1, false⟩, ⟨1, 1, false⟩]⟩),
  ([70, 56, 45, 50], ⟨4, 1, [⟨1, 2, false⟩, ⟨1, 1, false⟩]⟩),
  ([70, 56, 45, 51], ⟨4, 1, [⟨1, 1, false⟩, ⟨2, 1, true⟩, ⟨1, 1, false⟩]⟩),
  ([70, 49, 50, 45, 49], ⟨3, 2, [⟨3, 1, false⟩, ⟨2, 1, false⟩, ⟨1, 1, false⟩]⟩),
  ([70, 49, 50, 45, 50], ⟨6, 1, [⟨1, 3, false⟩, ⟨2, 1, false⟩, ⟨1, 1, false⟩]⟩),
  ([70, 49, 54, 45, 49], ⟨4, 2, [⟨1, 2, false⟩, ⟨3, 1, false⟩, ⟨1, 1, false⟩]⟩),
  ([70, 49, 54, 45, 50], ⟨2, 4, [⟨3, 2, false⟩, ⟨3, 1, false⟩, ⟨1, 1, false⟩]⟩),
  ([70, 49, 54, 45, 51], ⟨8, 1, [⟨1, 4, false⟩, ⟨1, 2, false⟩, ⟨1, 1, false⟩]⟩),
  ([70, 49, 54, 45, 52], ⟨4, 2, [⟨3, 1, false⟩, ⟨1, 2, false⟩, ⟨1, 1, false⟩]⟩),
  ([70, 50, 52, 45, 49], ⟨3, 4, [⟨3, 2, false⟩, ⟨3, 1, false⟩, ⟨2, 1, false⟩, ⟨1, 1, false⟩]⟩),
  ([70, 50, 52, 45, 50], ⟨6, 2, [⟨1, 3, false⟩, ⟨3, 1, false⟩, ⟨2, 1, false⟩, ⟨1, 1, false⟩]⟩),
  ([70, 51, 50, 45, 49], ⟨4, 4, [⟨3, 2, false⟩, ⟨1, 2, false⟩, ⟨3, 1, false⟩, ⟨1, 1, false⟩]⟩),
  ([70, 51, 50, 45, 50], ⟨8, 2, [⟨1, 4, false⟩, ⟨1, 2, false⟩, ⟨3, 1, false⟩, ⟨1, 1, false⟩]⟩),
  ([70, 52, 56, 45, 49], ⟨6, 4, [⟨1, 3, false⟩, ⟨3, 2, false⟩, ⟨3, 1, false⟩, ⟨2, 1, false⟩, ⟨1, 1, false⟩]⟩),
  ([70, 54, 52, 45, 49], ⟨8, 4, [⟨1, 4, false⟩, ⟨3, 2, false⟩, ⟨1, 2, false⟩, ⟨3, 1, false⟩, ⟨1, 1, false⟩]⟩),
  ([70, 49, 50, 56, 45, 49], ⟨8, 8, [⟨1, 4, false⟩, ⟨3, 4, false⟩, ⟨1, 2, false⟩, ⟨3, 2, false⟩, ⟨3, 1, false⟩, ⟨1, 1, false⟩]⟩)]
/-- A number of one digit. -/
def dg (n : Int) : List UInt8 := [UInt8.ofNat (48 + n.toNat)]
theorem itoa_dg {n : Int} (h : (decide (0 ≤ n) && decide (n < 10)) = true) : Lib.itoa n = dg n := by
  simp only [Bool.and_eq_true, decide_eq_true_eq] at h
  rw [Lib.itoa, if_neg (by omega), Lib.decDigits_one (by omega)]
  rfl
def textC (p : Sp) : List UInt8 := sideC p.d :: (dg p.n ++ if p.u = true then [117] else [])
def partsC (s : Sc) : List (List UInt8) := (dg s.c ++ 120 :: dg s.r) :: s.l.map textC
def smallB (s : Sc) : Bool := ((decide (0 ≤ s.c) && decide (s.c < 10)) && (decide (0 ≤ s.r) && decide (s.r < 10))) && s.l.all fun p => decide (0 ≤ p.n) && decide (p.n < 10)
theorem parts_small (s : Sc) (h : smallB s = true) : partsM s = partsC s := by
  unfold smallB at h
  rw [Bool.and_eq_true, Bool.and_eq_true, List.all_eq_true] at h
  obtain ⟨⟨h1, h2⟩, h3⟩ := h
  unfold partsM partsC headT
  rw [itoa_dg h1, itoa_dg h2]
  congr 1
  refine List.map_congr_left fun p hp => ?_
  unfold textS textC
  rw [itoa_dg (h3 p hp)]
theorem cat_small : ∀ e ∈ catS, smallB e.2 = true := by decide +kernel
theorem cat_told : ∀ e ∈ catS, toldB e.2 = true := by decide +kernel
theorem cat_plain : ∀ e ∈ catS, e.1 ≠ [] ∧ e.1.all plainO = true ∧ (120 : UInt8) ∉ e.1 := by decide +kernel
theorem cat_names : (catS.map Prod.fst).Nodup := by decide +kernel
theorem cat_schemes : (catS.map Prod.snd).Nodup := by decide +kernel
theorem cat_parts : ∀ e ∈ catS, partsM e.2 = partsC e.2 := fun e he => parts_small e.2 (cat_small e he)

/-- The scheme of a name. -/
def findM (n : List UInt8) : Option Sc := (catS.find? fun e => decide (e.1 = n)).map Prod.snd
/-- The first name whose scheme is this one. -/
def nameM (s : Sc) : Option (List UInt8) := (catS.find? fun e => decide (e.2 = s)).map Prod.fst
def putM (s : Sc) : Option (List UInt8) := match nameM s with
  | some n => some n
  | none => tellM s
theorem find_of_mem {n : List UInt8} {s : Sc} (h : (n, s) ∈ catS) : findM n = some s ∧ nameM s = some n := by
  have key : ∀ e ∈ catS, findM e.1 = some e.2 ∧ nameM e.2 = some e.1 := by decide +kernel
  exact key (n, s) h
theorem find_some {n : List UInt8} {s : Sc} (h : findM n = some s) : (n, s) ∈ catS := by
  unfold findM at h
  rw [Option.map_eq_some_iff] at h
  obtain ⟨e, he, rfl⟩ := h
  have h1 := List.mem_of_find?_eq_some he
  have h2 := List.find?_some he
  simp only [decide_eq_true_eq] at h2
  rw [← h2]
  exact h1
theorem name_some {n : List UInt8} {s : Sc} (h : nameM s = some n) : (n, s) ∈ catS := by
  unfold nameM at h
  rw [Option.map_eq_some_iff] at h
  obtain ⟨e, he, rfl⟩ := h
  have h1 := List.mem_of_find?_eq_some he
  have h2 := List.find?_some he
  simp only [decide_eq_true_eq] at h2
  rw [← h2]
  exact h1
theorem find_none {n : List UInt8} (h : ∀ e ∈ catS, e.1 ≠ n) : findM n = none := by
  unfold findM
  rw [Option.map_eq_none_iff, List.find?_eq_none]
  intro e he
  simpa using h e he
theorem name_none {s : Sc} (h : ∀ e ∈ catS, e.2 ≠ s) : nameM s = none := by
  unfold nameM
  rw [Option.map_eq_none_iff, List.find?_eq_none]
  intro e he
  simpa using h e he
theorem name_not_told {s : Sc} (h : toldB s = false) : nameM s = none := name_none fun e he hs => by
  have := cat_told e he
  rw [hs, h] at this
  cases this
/-- The scheme of these parts. -/
def getM (l : List (List UInt8)) : Option Sc :=
  match (match l with | [n] => findM n | _ => none) with
  | some s => some s
  | none => match readM l with
    | some s => if nameM s = none then some s else none
    | none => none
theorem get_name {n : List UInt8} {s : Sc} (h : findM n = some s) : getM [n] = some s := by simp [getM, h]
theorem get_read {l : List (List UInt8)} {s : Sc} (h0 : ∀ n, l = [n] → findM n = none) (h : readM l = some s) (hn : nameM s = none) : getM l = some s := by
  unfold getM
  split
  · rename_i x hx
    split at hx
    · rw [h0 _ rfl] at hx; cases hx
    · cases hx
  · rw [h]; simp [hn]
theorem get_no_read {l : List (List UInt8)} (h0 : ∀ n, l = [n] → findM n = none) (h : readM l = none) : getM l = none := by
  unfold getM
  split
  · rename_i x hx
    split at hx
    · rw [h0 _ rfl] at hx; cases hx
    · cases hx
  · rw [h]
theorem get_named {l : List (List UInt8)} {s : Sc} {n : List UInt8} (h0 : ∀ n, l = [n] → findM n = none) (h : readM l = some s) (hn : nameM s = some n) : getM l = none := by
  unfold getM
  split
  · rename_i x hx
    split at hx
    · rw [h0 _ rfl] at hx; cases hx
    · cases hx
  · rw [h]; simp [hn]
/-- A text of its own is no name. -/
theorem find_head (s : Sc) : findM (headT s) = none := find_none fun e he h => by
  have := (cat_plain e he).2.2
  rw [h] at this
  exact this (by simp [headT])
/-- What can be told comes back from its text's parts. -/
theorem get_put {s : Sc} {t : List UInt8} (h : putM s = some t) : ∃ l, fieldsL t = some l ∧ getM l = some s := by
  unfold putM at h
  cases hn : nameM s with
  | some n =>
    rw [hn] at h
    obtain rfl := Option.some.inj h
    have hm := name_some hn
    have hp := cat_plain _ hm
    refine ⟨[n], ?_, get_name (find_of_mem hm).1⟩
    have := fields_join n [] [] (by simpa using ⟨hp.1, fun x hx => List.all_eq_true.1 hp.2.1 x hx⟩)
    simpa [fieldsL, joinM] using this
  | none =>
    rw [hn] at h
    obtain ⟨ht, rfl⟩ := tell_some h
    exact ⟨partsM s, fields_parts s ht, get_read (fun n e => by unfold partsM at e; injection e with e1 e2; rw [← e1]; exact find_head s) (read_parts s ht) hn⟩

/-- The document's own way: the text of all parts is read, told, and held against it. -/
def plainM (t : List UInt8) : Option Sc := readM ((fieldsL t).getD [])
def foundM (t : List UInt8) : Option Sc := match findM t with
  | some s => some s
  | none => plainM t
def refGetM (l : List (List UInt8)) : Option Sc :=
  if l.any (fun p => p.contains 32) = true then none
  else match foundM (joinM l) with
    | some s => if putM s = some (joinM l) then some s else none
    | none => none
theorem get_blank {l : List (List UInt8)} {s : Sc} (h : getM l = some s) : l.any (fun p => p.contains 32) = false := by
  have hnb : ∀ q ∈ l, (32 : UInt8) ∉ q := by
    unfold getM at h
    split at h
    · rename_i x hx
      split at hx
      · intro q hq
        simp only [List.mem_singleton] at hq
        subst hq
        exact plain_blank (cat_plain _ (find_some hx)).2.1
      · cases hx
    · split at h
      · rename_i y hy
        obtain ⟨rfl, ht⟩ := read_back hy
        exact fun q hq => plain_blank (parts_plain y ht q hq).2
      · cases h
  rw [List.any_eq_false]
  intro q hq
  have := hnb q hq
  simpa using this
theorem refGet_eq (l : List (List UInt8)) : refGetM l = getM l := by
  unfold refGetM
  by_cases hb : l.any (fun p => p.contains 32) = true
  · rw [if_pos hb]
    cases h : getM l with
    | none => rfl
    | some s => rw [get_blank h] at hb; cases hb
  · rw [if_neg hb]
    have hnb : ∀ q ∈ l, (32 : UInt8) ∉ q := by
      intro q hq hm
      exact hb (List.any_eq_true.2 ⟨q, hq, by simpa using hm⟩)
    have hlone : findM (joinM l) ≠ none → ∃ n, l = [n] := by
      intro h
      match l with
      | [] => exact absurd (by decide +kernel) h
      | [n] => exact ⟨n, rfl⟩
      | p :: q :: r =>
        refine absurd (find_none fun e he h2 => ?_) h
        have := plain_blank (cat_plain e he).2.1
        rw [h2] at this
        exact this joinM_blank
    cases hf : findM (joinM l) with
    | some s =>
      obtain ⟨n, rfl⟩ := hlone (by rw [hf]; simp)
      have hm := find_some hf
      simp only [joinM] at hf hm ⊢
      unfold foundM
      rw [hf]
      have : putM s = some n := by unfold putM; rw [(find_of_mem hm).2]
      simp only [this, if_true]
      exact (get_name hf).symm
    | none =>
      have h0 : ∀ n, l = [n] → findM n = none := by rintro n rfl; simpa [joinM] using hf
      have hfd : foundM (joinM l) = plainM (joinM l) := by unfold foundM; rw [hf]
      rw [hfd]
      cases hr : readM l with
      | some s =>
        obtain ⟨hl, ht⟩ := read_back hr
        have hp : plainM (joinM l) = some s := by
          unfold plainM
          rw [hl, fields_parts s ht]
          exact read_parts s ht
        rw [hp]
        cases hn : nameM s with
        | some n =>
          rw [get_named h0 hr hn]
          have hne : putM s ≠ some (joinM l) := by
            unfold putM
            rw [hn]
            intro e
            rw [← Option.some.inj e, (find_of_mem (name_some hn)).1] at hf
            cases hf
          simp [hne]
        | none =>
          rw [get_read h0 hr hn]
          have : putM s = some (joinM l) := by
            unfold putM tellM
            rw [hn, if_pos ht, ← joinM_parts, hl]
          simp [this]
      | none =>
        rw [get_no_read h0 hr]
        cases hp : plainM (joinM l) with
        | none => rfl
        | some s =>
          simp only
          rw [if_neg]
          intro e
          unfold putM at e
          cases hn : nameM s with
          | some n =>
            rw [hn] at e
            rw [← Option.some.inj e, (find_of_mem (name_some hn)).1] at hf
            cases hf
          | none =>
            rw [hn] at e
            obtain ⟨ht, e2⟩ := tell_some e
            have hl0 : l ≠ [] := by
              rintro rfl
              have := joinM_parts s
              rw [← e2] at this
              simp [joinM, headT] at this
            have := joinM_inj hl0 (by simp [partsM]) hnb (fun q hq => plain_blank (parts_plain s ht q hq).2) e2
            rw [this, read_parts s ht] at hr
            cases hr
end Go.Proofs.YtbfigaadbfggcaaGreatDoor
/- What step.Put and step.Get answer, for every step and every text, where the library's variables are as the program's text lays them. -/
namespace Go.Proofs.YtbfigaadbfggcaaGreatDoor
open Go.RowKit DecMath
set_option linter.unusedVariables false

theorem retS {F : Sp × Bool} {p : Sp} {b : Bool} (h : F = (p, b)) : Ending.returned (.tuple #[.agg #[.int .i64 p.d, .int .i64 p.n, .bool p.u], .bool b]) = .returned (.tuple #[.agg #[.int .i64 F.1.d, .int .i64 F.1.n, .bool F.1.u], .bool F.2]) := by rw [h]

theorem stepGet_nil (w : World) :
    Calls Tryz.prog 85 #[.string ⟨#[]⟩] w fun e w' => e = .returned (.tuple #[.agg #[.int .i64 0, .int .i64 0, .bool false], .bool false]) ∧ Below w.heap.size w w' := by
  go_enter Tryz.func85, Tryz.ntmps85
  go_wp2
  refine bodyPost_ret (v := .tuple #[.agg #[.int .i64 0, .int .i64 0, .bool false], .bool false]) (by simp [results, Tryz.results85, go_sem]) rfl ⟨rfl, ?_⟩
  repeat (first | (with_reducible exact Below.refl _ _) | (with_reducible apply up_alloc) | (with_reducible refine up_set ?_ (by simp only; omega) _))

set_option maxHeartbeats 1000000 in
theorem stepGet_core (t c r g : ByteArray) (s n : Int) (k b f : Bool) (w : World) (t0 : 1 ≤ t.size) (t1 : t.size ≤ 9223372036854775807) (hne : (t.toList == []) = false) (hc : t.extract 0 1 = c) (hr : t.extract 1 t.size = r) (hg : Good w) (F : Sp × Bool) (hF : (if k = true ∧ f = true then ((⟨s, n, b⟩ : Sp), true) else (⟨0, 0, false⟩, false)) = F)
    (KW : ∀ w, Calls Tryz.prog 96 #[.int .i64 3, .string c] w fun e w' => e = .returned (.tuple #[.int .i64 s, .bool k]) ∧ Below w.heap.size w w')
    (KC : ∀ w, Calls Tryz.prog 97 #[.string r, .string ⟨#[117]⟩] w fun e w' => e = .returned (.tuple #[.string g, .bool b]) ∧ w' = w)
    (KD : ∀ w, Good w → Calls Tryz.prog 84 #[.string g, .int .i64 1, .int .i64 64] w fun e w' => e = .returned (.tuple #[.int .i64 n, .bool f]) ∧ Below w.heap.size w w') :
    Calls Tryz.prog 85 #[.string t] w fun e w' => e = .returned (.tuple #[.agg #[.int .i64 F.1.d, .int .i64 F.1.n, .bool F.1.u], .bool F.2]) ∧ Below w.heap.size w w' := by
  have HW := Lib.hid KW; have HC := Lib.hid KC; have HD := Lib.hid KD; have G := Lib.hid hg; have HF := Lib.hid hF
  clear KW KC KD hg hF
  go_enter Tryz.func85, Tryz.ntmps85
  go_wp2_with fail
  refine (HW.out _).mono ?_
  rintro e w1 ⟨rfl, hb⟩
  have A := (Bx.new w 50 [.int .i64 0, .int .i64 0, .bool false]).up hb
  have B1 := Lib.hid (up_trans (up_alloc (Below.refl _ w) _) hb)
  clear hb
  go_wp2_with fail
  refine (HC.out _).mono ?_
  rintro e w2 ⟨rfl, rfl⟩
  go_wp2_with fail
  refine (HD.out _ (G.out.below B1.out)).mono ?_
  rintro e w3 ⟨rfl, hb⟩
  have A3 := A.up hb
  have B3 := Lib.hid (up_trans B1.out hb)
  clear hb A
  have a0 := A3.cell 0 rfl; have a1 := A3.cell 1 rfl; have a2 := A3.cell 2 rfl; have af := A3.free
  clear A3
  cases k
  · go_wp2
    refine bodyPost_ret (v := .tuple #[.agg #[.int .i64 0, .int .i64 0, .bool false], .bool false]) (by simp [results, Tryz.results85, go_sem, a0, a1, a2]) rfl ⟨retS (p := ⟨0, 0, false⟩) (by rw [← HF.out, if_neg (by simp)]), ?_⟩
    have B4 := B3.out
    repeat (first | (with_reducible exact B4) | (with_reducible refine up_set ?_ (by simp only; omega) _))
  cases f
  · go_wp2
    refine bodyPost_ret (v := .tuple #[.agg #[.int .i64 0, .int .i64 0, .bool false], .bool false]) (by simp [results, Tryz.results85, go_sem, a0, a1, a2]) rfl ⟨retS (p := ⟨0, 0, false⟩) (by rw [← HF.out, if_neg (by simp)]), ?_⟩
    have B4 := B3.out
    repeat (first | (with_reducible exact B4) | (with_reducible refine up_set ?_ (by simp only; omega) _))
  · go_wp2
    refine bodyPost_ret (v := .tuple #[.agg #[.int .i64 s, .int .i64 n, .bool b], .bool true]) (by simp [results, Tryz.results85, go_sem, a0, a1, a2]) rfl ⟨retS (p := ⟨s, n, b⟩) (by rw [← HF.out, if_pos (by simp)]), ?_⟩
    have B4 := B3.out
    repeat (first | (with_reducible exact B4) | (with_reducible refine up_set ?_ (by simp only; omega) _))

theorem wordsGet_side (c : UInt8) (w : World) :
    Calls Tryz.prog 96 #[.int .i64 3, .string (tx [c])] w fun e w' => e = .returned (.tuple #[.int .i64 (sideO c), .bool (decide (sideO c ≠ 0))]) ∧ Below w.heap.size w w' := by
  by_cases h1 : c = 76
  · subst h1; exact wordsGet_yes (t := 3) (k := 0) (by decide +kernel) w
  by_cases h2 : c = 82
  · subst h2; exact wordsGet_yes (t := 3) (k := 1) (by decide +kernel) w
  by_cases h3 : c = 66
  · subst h3; exact wordsGet_yes (t := 3) (k := 2) (by decide +kernel) w
  by_cases h4 : c = 84
  · subst h4; exact wordsGet_yes (t := 3) (k := 3) (by decide +kernel) w
  have e : sideO c = 0 := by unfold sideO; rw [if_neg h1, if_neg h2, if_neg h3, if_neg h4]
  rw [e]
  refine wordsGet_no ?_ w
  have ht : tab 3 = [tx [76], tx [82], tx [66], tx [84]] := by decide +kernel
  rw [ht]
  intro hm
  have key : ∀ x : UInt8, tx [c] = tx [x] → c = x := fun x hx => by have := tx_inj hx; simpa using this
  simp only [List.mem_cons, List.not_mem_nil, or_false] at hm
  rcases hm with hm | hm | hm | hm
  · exact h1 (key _ hm)
  · exact h2 (key _ hm)
  · exact h3 (key _ hm)
  · exact h4 (key _ hm)

theorem stepGet_any (t : ByteArray) (w : World) (ht : t.size ≤ 9223372036854775807) (hg : Good w) :
    Calls Tryz.prog 85 #[.string t] w fun e w' => e = .returned (.tuple #[.agg #[.int .i64 (getS t.data.toList).1.d, .int .i64 (getS t.data.toList).1.n, .bool (getS t.data.toList).1.u], .bool (getS t.data.toList).2]) ∧ Below w.heap.size w w' := by
  obtain ⟨l, rfl⟩ : ∃ l, t = tx l := ⟨_, (tx_data t).symm⟩
  rw [tx_size] at ht
  rw [data_tx]
  cases l with
  | nil => exact stepGet_nil w
  | cons c r =>
    have hs := stripU_trim r
    have hr : (stripU r).1.length ≤ r.length := by
      unfold stripU
      split
      · simp
      · exact Nat.le_refl _
    simp only [List.length_cons] at ht
    refine stepGet_core (tx (c :: r)) (tx [c]) (tx r) (tx (stripU r).1) (sideO c) (inOf (stripU r).1 1 64).1 (decide (sideO c ≠ 0)) (stripU r).2 (inOf (stripU r).1 1 64).2 w (by rw [tx_size]; simp) (by rw [tx_size]; simpa using ht) (by rw [tx_toList]; rfl)
      (by rw [tx_extract, data_tx]; simp) (by rw [tx_extract, tx_size, data_tx]; simp) hg _ ?_ (fun w => wordsGet_side c w) (fun w => ?_) (fun w h => ?_)
    · unfold getS
      simp only [decide_eq_true_eq]
    · have := Tryz.strings_CutSuffix (tx r) ⟨#[117]⟩ w (by rw [tx_size]; omega)
      rw [data_tx, show (⟨#[117]⟩ : ByteArray).data.toList = [117] from rfl, hs.1, hs.2] at this
      exact this
    · have := decWithin_any (tx (stripU r).1) 1 64 w (by rw [tx_size]; omega) h
      rw [data_tx] at this
      exact this
end Go.Proofs.YtbfigaadbfggcaaGreatDoor
