/- Lines, fields and quoted texts, as plain lists of octets. -/
namespace Go.Proofs.YtaphkplidnepaaaDoor
set_option linter.unusedVariables false

/-- May an octet be seen? -/
def seenB (c : UInt8) : Bool := decide (32 ≤ c.toNat) && decide (c.toNat ≤ 126)
/-- Is it blank? -/
def blankB (c : UInt8) : Bool := c == 32 || c == 9

/-- What stands between line feeds; cur: what there is of the first line. -/
def linesM : List UInt8 → List UInt8 → List (List UInt8)
  | [], cur => [cur]
  | c :: r, cur => if c == 10 then cur :: linesM r [] else linesM r (cur ++ [c])
/-- Lines, with line feeds between them. -/
def restJ : Bool → List (List UInt8) → List UInt8
  | _, [] => []
  | b, a :: r => (if b then [] else [10]) ++ a ++ restJ false r
theorem restJ_lines (s : List UInt8) : ∀ (b : Bool) (cur : List UInt8), restJ b (linesM s cur) = (if b then [] else [10]) ++ cur ++ s := by
  induction s with
  | nil => intro b cur; simp [linesM, restJ]
  | cons c r ih =>
    intro b cur
    unfold linesM
    by_cases h : c = 10
    · subst h
      simp only [beq_self_eq_true, if_true, restJ, ih]
      simp
    · rw [if_neg (by simpa using h), ih]
      simp
theorem lines_none (s : List UInt8) : ∀ (cur : List UInt8), (10 : UInt8) ∉ cur → ∀ a ∈ linesM s cur, (10 : UInt8) ∉ a := by
  induction s with
  | nil => intro cur hc a ha; simp [linesM] at ha; subst ha; exact hc
  | cons c r ih =>
    intro cur hc a ha
    unfold linesM at ha
    by_cases h : c = 10
    · subst h
      simp only [beq_self_eq_true, if_true, List.mem_cons] at ha
      rcases ha with rfl | ha
      · exact hc
      · exact ih [] (by simp) a ha
    · rw [if_neg (by simpa using h)] at ha
      exact ih _ (by simp only [List.mem_append, List.mem_singleton, not_or]; exact ⟨hc, fun e => h e.symm⟩) a ha
theorem lines_some (s : List UInt8) : ∀ (cur : List UInt8), linesM s cur ≠ [] := by
  induction s with
  | nil => intro cur; simp [linesM]
  | cons c r ih => intro cur; unfold linesM; split <;> simp [ih]
theorem lines_length (s : List UInt8) : ∀ (cur : List UInt8), (linesM s cur).length ≤ s.length + 1 := by
  induction s with
  | nil => intro cur; simp [linesM]
  | cons c r ih =>
    intro cur
    unfold linesM
    split
    · have := ih []; simp; omega
    · have := ih (cur ++ [c]); simp; omega
theorem lines_feed (r cur : List UInt8) : linesM (10 :: r) cur = cur :: linesM r [] := by simp [linesM]
theorem lines_other {c : UInt8} (r cur : List UInt8) (h : c ≠ 10) : linesM (c :: r) cur = linesM r (cur ++ [c]) := by simp [linesM, h]

/-- A part behind the others, if it has an octet. -/
def addF (out : List (List UInt8)) (cur : List UInt8) : List (List UInt8) := if cur = [] then out else out ++ [cur]
theorem addF_nil (out : List (List UInt8)) : addF out [] = out := if_pos rfl
theorem addF_some {out : List (List UInt8)} {cur : List UInt8} (h : cur ≠ []) : addF out cur = out ++ [cur] := if_neg h
theorem addF_length (out : List (List UInt8)) (cur : List UInt8) : (addF out cur).length ≤ out.length + 1 := by unfold addF; split <;> simp
/-- A line's parts; none: they can't be told apart. out: those that there are, cur: the part that is gone through, wi: within quotes, fr: right behind a backslash there. -/
def fieldsM : List UInt8 → List (List UInt8) → List UInt8 → Bool → Bool → Option (List (List UInt8))
  | [], out, cur, wi, _ => if wi then none else some (addF out cur)
  | c :: r, out, cur, wi, fr =>
    if wi then (if seenB c then fieldsM r out (cur ++ [c]) (fr || c != 34) (!fr && c == 92) else none)
    else if blankB c then fieldsM r (addF out cur) [] false false
    else if c == 35 then some (addF out cur)
    else if seenB c then fieldsM r out (cur ++ [c]) (c == 34) false
    else none
def fieldsL (s : List UInt8) : Option (List (List UInt8)) := fieldsM s [] [] false false

theorem f_end (out : List (List UInt8)) (cur : List UInt8) (fr : Bool) : fieldsM [] out cur false fr = some (addF out cur) := by simp [fieldsM]
theorem f_open (out : List (List UInt8)) (cur : List UInt8) (fr : Bool) : fieldsM [] out cur true fr = none := by simp [fieldsM]
theorem f_in {c : UInt8} (r : List UInt8) (out : List (List UInt8)) (cur : List UInt8) (fr : Bool) (h : seenB c = true) : fieldsM (c :: r) out cur true fr = fieldsM r out (cur ++ [c]) (fr || c != 34) (!fr && c == 92) := by simp [fieldsM, h]
theorem f_in_bad {c : UInt8} (r : List UInt8) (out : List (List UInt8)) (cur : List UInt8) (fr : Bool) (h : seenB c = false) : fieldsM (c :: r) out cur true fr = none := by simp [fieldsM, h]
theorem f_blank {c : UInt8} (r : List UInt8) (out : List (List UInt8)) (cur : List UInt8) (fr : Bool) (h : blankB c = true) : fieldsM (c :: r) out cur false fr = fieldsM r (addF out cur) [] false false := by simp [fieldsM, h]
theorem f_stop (r : List UInt8) (out : List (List UInt8)) (cur : List UInt8) (fr : Bool) : fieldsM (35 :: r) out cur false fr = some (addF out cur) := by
  have : blankB 35 = false := by decide
  simp [fieldsM, this]
theorem f_out {c : UInt8} (r : List UInt8) (out : List (List UInt8)) (cur : List UInt8) (fr : Bool) (h1 : blankB c = false) (h2 : c ≠ 35) (h : seenB c = true) : fieldsM (c :: r) out cur false fr = fieldsM r out (cur ++ [c]) (c == 34) false := by simp [fieldsM, h, h1, h2]
theorem f_out_bad {c : UInt8} (r : List UInt8) (out : List (List UInt8)) (cur : List UInt8) (fr : Bool) (h1 : blankB c = false) (h2 : c ≠ 35) (h : seenB c = false) : fieldsM (c :: r) out cur false fr = none := by simp [fieldsM, h, h1, h2]

/-- What stands for an octet within quotes. -/
def escO (c : UInt8) : List UInt8 := if c == 34 || c == 92 then [92, c] else [c]
theorem escO_q : escO 34 = [92, 34] := by decide
theorem escO_b : escO 92 = [92, 92] := by decide
theorem escO_o {c : UInt8} (h1 : c ≠ 34) (h2 : c ≠ 92) : escO c = [c] := by simp [escO, h1, h2]
def quoteT (l : List UInt8) : List UInt8 := 34 :: (l.flatMap escO ++ [34])
/-- A text's quoted text; none: an octet may not be. -/
def quoteO (l : List UInt8) : Option (List UInt8) := if l.all seenB then some (quoteT l) else none
theorem esc_length (l : List UInt8) : (l.flatMap escO).length ≤ 2 * l.length := by
  induction l with
  | nil => simp
  | cons c r ih =>
    have : (escO c).length ≤ 2 := by unfold escO; split <;> simp
    simp only [List.flatMap_cons, List.length_append, List.length_cons]
    omega
theorem esc_snoc (l : List UInt8) (c : UInt8) : (l ++ [c]).flatMap escO = l.flatMap escO ++ escO c := by simp
theorem quoteT_length (l : List UInt8) : (quoteT l).length = (l.flatMap escO).length + 2 := by simp [quoteT]

/-- Without the backslashes that stand ahead of other octets; e: right behind one. -/
def bareM : List UInt8 → Bool → List UInt8
  | [], _ => []
  | c :: r, e => if c == 92 && !e then bareM r true else c :: bareM r false
theorem bare_length (l : List UInt8) : ∀ e, (bareM l e).length ≤ l.length := by
  induction l with
  | nil => intro e; simp [bareM]
  | cons c r ih =>
    intro e
    unfold bareM
    split
    · have := ih true; simp; omega
    · have := ih false; simp; omega
theorem bare_esc (l : List UInt8) : bareM (l.flatMap escO) false = l := by
  induction l with
  | nil => rfl
  | cons c r ih =>
    rw [List.flatMap_cons]
    by_cases h1 : c = 34
    · subst h1; simp [escO_q, bareM, ih]
    by_cases h2 : c = 92
    · subst h2; simp [escO_b, bareM, ih]
    rw [escO_o h1 h2]
    simp [bareM, h2, ih]
/-- The same, by pairs. -/
def rbM : List UInt8 → List UInt8
  | [] => []
  | [c] => [c]
  | c :: d :: r => if c == 92 then d :: rbM r else c :: rbM (d :: r)
theorem rb_one {c : UInt8} (r : List UInt8) (h : c ≠ 92) : rbM (c :: r) = c :: rbM r := by
  cases r with
  | nil => simp [rbM]
  | cons d r => simp [rbM, h]
theorem rb_two (d : UInt8) (r : List UInt8) : rbM (92 :: d :: r) = d :: rbM r := by simp [rbM]
theorem rb_last (c : UInt8) : rbM [c] = [c] := by simp [rbM]
theorem rb_esc (l : List UInt8) : rbM (l.flatMap escO) = l := by
  induction l with
  | nil => simp [rbM]
  | cons c r ih =>
    rw [List.flatMap_cons]
    by_cases h1 : c = 34
    · subst h1; simp [escO_q, rb_two, ih]
    by_cases h2 : c = 92
    · subst h2; simp [escO_b, rb_two, ih]
    rw [escO_o h1 h2]
    show rbM (c :: r.flatMap escO) = _
    rw [rb_one _ h2, ih]

/-- What stands between the first octet and the last one. -/
def midL (s : List UInt8) : List UInt8 := (s.take (s.length - 1)).drop 1
theorem mid_quote (l : List UInt8) : midL (quoteT l) = l.flatMap escO := by
  unfold midL quoteT
  rw [show (34 :: (l.flatMap escO ++ [34])).length - 1 = (l.flatMap escO).length + 1 by simp]
  simp
/-- The text whose quoted text s is. -/
def unqO (s : List UInt8) : Option (List UInt8) := if quoteO (bareM (midL s) false) = some s then some (bareM (midL s) false) else none
theorem quote_some {t s : List UInt8} (h : quoteO t = some s) : t.all seenB = true ∧ quoteT t = s := by
  unfold quoteO at h
  split at h
  · exact ⟨‹_›, Option.some.inj h⟩
  · cases h
theorem unq_quote {t s : List UInt8} (h : quoteO t = some s) : unqO s = some t := by
  have e : bareM (midL s) false = t := by rw [← (quote_some h).2, mid_quote, bare_esc]
  unfold unqO
  rw [e, if_pos h]
theorem unq_short {s : List UInt8} (h : s.length < 2) : unqO s = none := by
  unfold unqO
  rw [if_neg]
  intro e
  have := (quote_some e).2
  have := congrArg List.length this
  rw [quoteT_length] at this
  omega
theorem unq_ref_yes {s : List UInt8} (h : quoteO (rbM (midL s)) = some s) : unqO s = some (rbM (midL s)) := unq_quote h
theorem unq_ref_no {s : List UInt8} (h : quoteO (rbM (midL s)) ≠ some s) : unqO s = none := by
  unfold unqO
  rw [if_neg]
  intro e
  apply h
  have e1 : rbM (midL s) = bareM (midL s) false := by
    have := (quote_some e).2
    rw [← this, mid_quote, rb_esc, bare_esc]
  rw [e1]
  exact e
theorem unq_code_yes {s : List UInt8} (h : quoteO (bareM (midL s) false) = some s) : unqO s = some (bareM (midL s) false) := if_pos h
theorem unq_code_no {s : List UInt8} (h : quoteO (bareM (midL s) false) ≠ some s) : unqO s = none := if_neg h

/-- Quoted octets leave quotes open. -/
theorem f_esc (l r : List UInt8) (out : List (List UInt8)) : ∀ cur, l.all seenB = true → fieldsM (l.flatMap escO ++ r) out cur true false = fieldsM r out (cur ++ l.flatMap escO) true false := by
  induction l with
  | nil => intro cur h; simp
  | cons c l ih =>
    intro cur h
    simp only [List.all_cons, Bool.and_eq_true] at h
    rw [List.flatMap_cons, List.append_assoc]
    have hb : seenB 92 = true := by decide
    have hstep : fieldsM (escO c ++ (l.flatMap escO ++ r)) out cur true false = fieldsM (l.flatMap escO ++ r) out (cur ++ escO c) true false := by
      by_cases h1 : c = 34
      · subst h1
        simp only [escO_q, List.cons_append, List.nil_append]
        rw [f_in _ _ _ _ hb, show ((false || (92 : UInt8) != 34) : Bool) = true by decide, show ((!false && (92 : UInt8) == 92) : Bool) = true by decide, f_in _ _ _ _ h.1]
        simp
      by_cases h2 : c = 92
      · subst h2
        simp only [escO_b, List.cons_append, List.nil_append]
        rw [f_in _ _ _ _ hb, show ((false || (92 : UInt8) != 34) : Bool) = true by decide, show ((!false && (92 : UInt8) == 92) : Bool) = true by decide, f_in _ _ _ _ h.1]
        simp
      rw [escO_o h1 h2]
      show fieldsM (c :: _) _ _ _ _ = _
      have e1 : ((false || c != 34) : Bool) = true := by simpa using h1
      have e2 : ((!false && c == 92) : Bool) = false := by simpa using h2
      rw [f_in _ _ _ _ h.1, e1, e2]
      rfl
    rw [hstep, ih _ h.2]
    simp
/-- A quoted text is one field. -/
theorem fields_quote {t q : List UInt8} (h : quoteO t = some q) : fieldsL q = some [q] := by
  obtain ⟨h1, rfl⟩ := quote_some h
  unfold fieldsL quoteT
  rw [f_out _ _ _ _ (by decide) (by decide) (by decide), show ((34 : UInt8) == 34) = true by decide, f_esc _ _ _ _ h1, f_in _ _ _ _ (by decide)]
  simp [fieldsM, addF]

/-- A field that there is: gone through from its begin to its end it is one part, or a part of one. -/
def GoodF (f : List UInt8) : Prop := f ≠ [] ∧ ∀ rest out cur, fieldsM (f ++ rest) out cur false false = fieldsM rest out (cur ++ f) false false
def PartF (cur : List UInt8) (wi fr : Bool) : Prop := ∀ rest out cur0, fieldsM (cur ++ rest) out cur0 false false = fieldsM rest out (cur0 ++ cur) wi fr
theorem part_nil : PartF [] false false := by intro r o c; simp
theorem addF_good {out : List (List UInt8)} {cur : List UInt8} (ho : ∀ f ∈ out, GoodF f) (hc : PartF cur false false) : ∀ f ∈ addF out cur, GoodF f := by
  unfold addF
  split
  · exact ho
  · intro f hf
    rcases List.mem_append.1 hf with h | h
    · exact ho f h
    · obtain rfl := List.mem_singleton.1 h
      exact ⟨‹_›, hc⟩
theorem part_snoc {cur : List UInt8} {wi fr wi' fr' : Bool} {c : UInt8} (h : PartF cur wi fr) (hs : ∀ rest out cur0, fieldsM (c :: rest) out cur0 wi fr = fieldsM rest out (cur0 ++ [c]) wi' fr') : PartF (cur ++ [c]) wi' fr' := by
  intro rest out cur0
  rw [List.append_assoc, h]
  show fieldsM (c :: rest) _ _ _ _ = _
  rw [hs, List.append_assoc]
theorem fields_good (s : List UInt8) : ∀ (out : List (List UInt8)) (cur : List UInt8) (wi fr : Bool) (l : List (List UInt8)), (∀ f ∈ out, GoodF f) → PartF cur wi fr → (wi = false → fr = false) → fieldsM s out cur wi fr = some l → ∀ f ∈ l, GoodF f := by
  induction s with
  | nil =>
    intro out cur wi fr l ho hc hw h
    cases wi
    · rw [f_end] at h
      obtain rfl := Option.some.inj h
      obtain rfl := hw rfl
      exact addF_good ho hc
    · rw [f_open] at h; cases h
  | cons c r ih =>
    intro out cur wi fr l ho hc hw h
    cases wi
    · obtain rfl := hw rfl
      cases h1 : blankB c
      · by_cases h2 : c = 35
        · subst h2
          rw [f_stop] at h
          obtain rfl := Option.some.inj h
          exact addF_good ho hc
        · cases h3 : seenB c
          · rw [f_out_bad _ _ _ _ h1 h2 h3] at h; cases h
          · rw [f_out _ _ _ _ h1 h2 h3] at h
            exact ih _ _ _ _ l ho (part_snoc hc fun _ _ _ => f_out _ _ _ _ h1 h2 h3) (fun _ => rfl) h
      · rw [f_blank _ _ _ _ h1] at h
        exact ih _ _ _ _ l (addF_good ho hc) part_nil (fun _ => rfl) h
    · cases h3 : seenB c
      · rw [f_in_bad _ _ _ _ h3] at h; cases h
      · rw [f_in _ _ _ _ h3] at h
        refine ih _ _ _ _ l ho (part_snoc hc fun _ _ _ => f_in _ _ _ _ h3) ?_ h
        intro e
        simp only [Bool.or_eq_false_iff, bne_eq_false_iff_eq] at e
        rw [e.2]
        simp
theorem fieldsL_good {s : List UInt8} {l : List (List UInt8)} (h : fieldsL s = some l) : ∀ f ∈ l, GoodF f := fields_good s [] [] false false l (by simp) part_nil (fun _ => rfl) h

/-- Blanks, however many, end a part. -/
theorem f_blanks (b rest : List UInt8) (hb : ∀ c ∈ b, blankB c = true) : ∀ (out : List (List UInt8)), fieldsM (b ++ rest) out [] false false = fieldsM rest out [] false false := by
  induction b with
  | nil => intro out; rfl
  | cons c b ih =>
    intro out
    show fieldsM (c :: (b ++ rest)) _ _ _ _ = _
    rw [f_blank _ _ _ _ (hb c (by simp)), addF_nil, ih (fun d hd => hb d (by simp [hd]))]
theorem f_blanks1 (b rest : List UInt8) (h0 : b ≠ []) (hb : ∀ c ∈ b, blankB c = true) (out : List (List UInt8)) (cur : List UInt8) : fieldsM (b ++ rest) out cur false false = fieldsM rest (addF out cur) [] false false := by
  cases b with
  | nil => exact absurd rfl h0
  | cons c b =>
    show fieldsM (c :: (b ++ rest)) _ _ _ _ = _
    rw [f_blank _ _ _ _ (hb c (by simp)), f_blanks b rest (fun d hd => hb d (by simp [hd]))]
/-- Fields, with blanks behind each. -/
def spread (b : List UInt8) (l : List (List UInt8)) : List UInt8 := l.flatMap fun f => f ++ b
theorem f_spread (b rest : List UInt8) (h0 : b ≠ []) (hb : ∀ c ∈ b, blankB c = true) (l : List (List UInt8)) : ∀ (out : List (List UInt8)), (∀ f ∈ l, GoodF f) → fieldsM (spread b l ++ rest) out [] false false = fieldsM rest (out ++ l) [] false false := by
  induction l with
  | nil => intro out _; simp [spread]
  | cons f l ih =>
    intro out hg
    have hf := hg f (by simp)
    have e : spread b (f :: l) ++ rest = f ++ (b ++ (spread b l ++ rest)) := by simp [spread]
    rw [e, hf.2, f_blanks1 _ _ h0 hb, List.nil_append, addF_some hf.1, ih _ (fun g hg' => hg g (by simp [hg']))]
    simp
theorem fields_spread {s : List UInt8} {l : List (List UInt8)} (h : fieldsL s = some l) (b remark : List UInt8) (h0 : b ≠ []) (hb : ∀ c ∈ b, blankB c = true) : fieldsL (b ++ spread b l ++ 35 :: remark) = some l := by
  unfold fieldsL
  rw [List.append_assoc, f_blanks _ _ hb, f_spread b _ h0 hb l [] (fieldsL_good h), f_stop, addF_nil, List.nil_append]
theorem fieldsM_length (s : List UInt8) : ∀ (out : List (List UInt8)) (cur : List UInt8) (wi fr : Bool) (l : List (List UInt8)), fieldsM s out cur wi fr = some l → l.length ≤ out.length + s.length + 1 := by
  induction s with
  | nil =>
    intro out cur wi fr l h
    cases wi
    · rw [f_end] at h
      obtain rfl := Option.some.inj h
      have := addF_length out cur
      simp; omega
    · rw [f_open] at h; cases h
  | cons c r ih =>
    intro out cur wi fr l h
    have ha := addF_length out cur
    unfold fieldsM at h
    simp only [List.length_cons]
    split at h
    · split at h
      · have := ih _ _ _ _ _ h; omega
      · cases h
    · split at h
      · have := ih _ _ _ _ _ h; omega
      · split at h
        · obtain rfl := Option.some.inj h; omega
        · split at h
          · have := ih _ _ _ _ _ h; omega
          · cases h
/-- All octets of the parts together are no more than the line's. -/
theorem fieldsM_octets (s : List UInt8) : ∀ (out : List (List UInt8)) (cur : List UInt8) (wi fr : Bool) (l : List (List UInt8)), fieldsM s out cur wi fr = some l → l.flatten.length ≤ out.flatten.length + cur.length + s.length := by
  have haf : ∀ (out : List (List UInt8)) (cur : List UInt8), (addF out cur).flatten.length = out.flatten.length + cur.length := by
    intro out cur
    unfold addF
    split
    · subst_vars; simp
    · simp
  induction s with
  | nil =>
    intro out cur wi fr l h
    cases wi
    · rw [f_end] at h
      obtain rfl := Option.some.inj h
      rw [haf]
      simp
    · rw [f_open] at h; cases h
  | cons c r ih =>
    intro out cur wi fr l h
    have ha := haf out cur
    unfold fieldsM at h
    simp only [List.length_cons]
    split at h
    · split at h
      · have := ih _ _ _ _ _ h; simp only [List.length_append, List.length_singleton] at this; omega
      · cases h
    · split at h
      · have := ih _ _ _ _ _ h; simp only [List.length_nil] at this; omega
      · split at h
        · obtain rfl := Option.some.inj h; omega
        · split at h
          · have := ih _ _ _ _ _ h; simp only [List.length_append, List.length_singleton] at this; omega
          · cases h
theorem spread_length (b : List UInt8) (l : List (List UInt8)) : (spread b l).length = l.flatten.length + l.length * b.length := by
  induction l with
  | nil => simp [spread]
  | cons f l ih =>
    have e : spread b (f :: l) = f ++ b ++ spread b l := by simp [spread]
    rw [e]
    simp only [List.length_append, List.flatten_cons, List.length_cons, ih, Nat.add_mul]
    omega
theorem fieldsL_length {s : List UInt8} {l : List (List UInt8)} (h : fieldsL s = some l) : l.length ≤ s.length + 1 := by
  have := fieldsM_length s [] [] false false l h
  simpa using this
theorem fieldsL_octets {s : List UInt8} {l : List (List UInt8)} (h : fieldsL s = some l) : l.flatten.length ≤ s.length := by
  have := fieldsM_octets s [] [] false false l h
  simpa using this
end Go.Proofs.YtaphkplidnepaaaDoor
