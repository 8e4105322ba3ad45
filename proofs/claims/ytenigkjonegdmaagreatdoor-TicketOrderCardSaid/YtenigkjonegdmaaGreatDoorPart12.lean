/- Part 12 of the texts that the proofs of this seat share: TicketLines, TicketPut, TicketAlive, RefFirst, TicketRefRow, LexRefQuote. -/
import Derived.Test.YtenigkjonegdmaaGreatDoorPart10
import Derived.Test.YtenigkjonegdmaaGreatDoorPart11
import Derived.Test.YtenigkjonegdmaaGreatDoorPart5
import Derived.Test.YtenigkjonegdmaaGreatDoorPart7
import Derived.Test.YtenigkjonegdmaaGreatDoorPart1
import Derived.Test.YtenigkjonegdmaaGreatDoorPart2
import Derived.Test.YtenigkjonegdmaaGreatDoorPart8
/- Tickets as plain data: a told job's text comes back, however its lines are turned; how long it is. -/
namespace Go.Proofs.YtenigkjonegdmaaGreatDoor
open Go.RowKit DecMath
set_option linter.unusedVariables false
set_option linter.unusedSimpArgs false

/-- A key's line, without its line feed; the keys that a job has a line of; its lines. -/
def bodyT (j : Jb) (k : Ky) : List UInt8 := k.w ++ 32 :: joinM (prtM k j).1
def keysJ (j : Jb) : List Ky := keyL.filter (hasK j)
def rowsJ (j : Jb) : List (List UInt8) := (keysJ j).map (bodyT j)
theorem last_prt {k : Ky} (hd : k.d = 5) (j : Jb) : (prtM k j).1 = j.ls := by
  unfold prtM
  rw [if_neg (by omega), if_neg (by omega), if_neg (by omega), if_neg (by omega), if_pos hd]
theorem line_body (j : Jb) (k : Ky) : lineT j k = if hasK j k = true then bodyT j k ++ [10] else [] := by
  unfold lineT hasK bodyT
  by_cases hd : k.d = 5
  · rw [last_prt hd]
    by_cases hl : j.ls = []
    · simp [hd, hl]
    · simp [hd, hl]
  · simp [hd]
theorem text_rows (j : Jb) : textJ j = (rowsJ j).flatMap fun p => p ++ [10] := by
  unfold textJ rowsJ keysJ
  rw [List.flatMap_map]
  generalize keyL = l
  induction l with
  | nil => rfl
  | cons k l ih =>
    rw [List.flatMap_cons, line_body, ih, List.filter_cons]
    split
    · rw [List.flatMap_cons]
    · rfl
theorem lines_part (p rest : List UInt8) (h : (10 : UInt8) ∉ p) : ∀ cur, linesM (p ++ 10 :: rest) cur = (cur ++ p) :: linesM rest [] := by
  induction p with
  | nil => intro cur; simp [linesM]
  | cons c p ih =>
    intro cur
    simp only [List.mem_cons, not_or] at h
    rw [List.cons_append, lines_other _ _ (fun e => h.1 e.symm), ih h.2]
    simp
theorem lines_rows (P : List (List UInt8)) (h : ∀ p ∈ P, (10 : UInt8) ∉ p) : linesM (P.flatMap fun p => p ++ [10]) [] = P ++ [[]] := by
  induction P with
  | nil => rfl
  | cons p P ih =>
    rw [List.flatMap_cons, List.append_assoc]
    show linesM (p ++ 10 :: P.flatMap fun p => p ++ [10]) [] = _
    rw [lines_part _ _ (h p (by simp)), ih fun q hq => h q (by simp [hq])]
    rfl
/-- What may stand behind a line's last field. -/
def EndR (rest : List UInt8) : Prop := ∀ out cur, cur ≠ [] → fieldsM rest out cur false false = some (out ++ [cur])
theorem end_none : EndR [] := fun out cur h => by rw [f_end, addF_some h]
theorem end_remark (c : List UInt8) : EndR (32 :: 35 :: c) := fun out cur h => by rw [f_blank _ _ _ _ (by decide), f_stop, addF_nil, addF_some h]
theorem fields_joinE {rest : List UInt8} (he : EndR rest) : ∀ (r : List (List UInt8)) (p : List UInt8) (out : List (List UInt8)), (∀ q ∈ p :: r, GoodF q) → fieldsM (joinM (p :: r) ++ rest) out [] false false = some (out ++ p :: r)
  | [], p, out, h => by
    rw [joinM, (h p (by simp)).2, List.nil_append, he _ _ (h p (by simp)).1]
  | q :: r, p, out, h => by
    rw [joinM, List.append_assoc, (h p (by simp)).2, List.nil_append, List.cons_append, f_blank _ _ _ _ (by decide), addF_some (h p (by simp)).1, fields_joinE he r q _ fun x hx => h x (by simp at hx ⊢; right; exact hx)]
    simp
theorem join_seen {l : List (List UInt8)} (h : ∀ p ∈ l, p.all seenB = true) : (joinM l).all seenB = true := by
  cases l with
  | nil => rfl
  | cons p r =>
    rw [joinM_cons, List.all_append, h p (by simp), Bool.true_and, List.all_eq_true]
    intro c hc
    obtain ⟨q, hq, hc⟩ := List.mem_flatMap.1 hc
    rcases List.mem_cons.1 hc with rfl | hc
    · decide
    · exact List.all_eq_true.1 (h q (by simp [hq])) c hc

/-- The fields of what is told: fields of their own, and seen ones; as many octets at most. -/
theorem flds_good {j : Jb} {k : Ky} (hk : k ∈ keyL) (ht : (prtM k j).2 = true) (hh : hasK j k = true) : fldM k j ≠ [] ∧ joinM (fldM k j) = joinM (prtM k j).1 ∧ ∀ q ∈ fldM k j, GoodF q ∧ q.all seenB = true := by
  have hone := key_one k hk
  unfold fldM
  rcases key_kind k hk with hd | hd | hd | hd | hd | hd
  · have hpr : prtM k j = if 60 < j.t.length then ([], false) else ([(quoteO j.t).getD []], (quoteO j.t).isSome) := by unfold prtM; rw [if_pos hd]
    rw [hpr] at ht ⊢
    rw [if_neg (show ¬ k.d = 4 by omega)]
    split at ht
    · cases ht
    · rename_i hl
      rw [if_neg hl]
      obtain ⟨q, hq⟩ := Option.isSome_iff_exists.1 ht
      rw [hq]
      refine ⟨by simp, rfl, ?_⟩
      simp only [Option.getD_some, List.mem_singleton]
      rintro x rfl
      exact ⟨quote_good hq, quote_seen hq⟩
  · have hpr : prtM k j = ((List.range' k.f k.hi).map fun i => Lib.itoa (j.n i), true) := by
      unfold prtM
      rw [if_neg (by omega), if_neg (by omega), if_neg (by omega), if_neg (by omega), if_neg (by omega)]
    rw [hpr, if_neg (show ¬ k.d = 4 by omega)]
    have := key_places k hk
    refine ⟨?_, rfl, ?_⟩
    · intro e
      have := congrArg List.length e
      simp at this
      omega
    · intro q hq
      obtain ⟨i, -, rfl⟩ := List.mem_map.1 hq
      obtain ⟨h0, h1⟩ := itoa_plain_any (j.n i)
      exact ⟨plain_good h0 h1, all_seen h1⟩
  · have hpr : prtM k j = wprM 1 (j.n k.f) := by unfold prtM; rw [if_neg (by omega), if_pos hd]
    rw [hpr] at ht ⊢
    rw [if_neg (show ¬ k.d = 4 by omega)]
    obtain ⟨m, hm, hn, hw⟩ := word_ways (.inl rfl) (of_decide_eq_true ht)
    have := (tabL_nodup 1 (.inl rfl)).2.2 _ (List.mem_of_getElem? (tabL_at hw))
    refine ⟨by simp [wprM], rfl, ?_⟩
    simp only [wprM, List.mem_singleton]
    rintro x rfl
    exact ⟨plain_good this.1 this.2.1, all_seen this.2.1⟩
  · have hpr : prtM k j = wprM 2 (j.n k.f) := by unfold prtM; rw [if_neg (by omega), if_neg (by omega), if_pos hd]
    rw [hpr] at ht ⊢
    rw [if_neg (show ¬ k.d = 4 by omega)]
    obtain ⟨m, hm, hn, hw⟩ := word_ways (.inr rfl) (of_decide_eq_true ht)
    have := (tabL_nodup 2 (.inr rfl)).2.2 _ (List.mem_of_getElem? (tabL_at hw))
    refine ⟨by simp [wprM], rfl, ?_⟩
    simp only [wprM, List.mem_singleton]
    rintro x rfl
    exact ⟨plain_good this.1 this.2.1, all_seen this.2.1⟩
  · have hpr : prtM k j = ([(putM j.f).getD []], (putM j.f).isSome) := by unfold prtM; rw [if_neg (by omega), if_neg (by omega), if_neg (by omega), if_pos hd]
    rw [hpr] at ht ⊢
    obtain ⟨t, hq⟩ := Option.isSome_iff_exists.1 ht
    obtain ⟨e, h0, h7, hg, hp⟩ := sch_parts hq
    rw [if_pos hd]
    refine ⟨h0, by rw [hq, ← e]; rfl, fun q hq => ⟨plain_good (hp q hq).1 (hp q hq).2, all_seen (hp q hq).2⟩⟩
  · have hpr : prtM k j = (j.ls, decide (j.ls.length ≤ k.hi) && namesB j.ls) := by unfold prtM; rw [if_neg (by omega), if_neg (by omega), if_neg (by omega), if_neg (by omega), if_pos hd]
    rw [hpr] at ht ⊢
    rw [if_neg (show ¬ k.d = 4 by omega)]
    simp only [Bool.and_eq_true, decide_eq_true_eq] at ht
    refine ⟨?_, rfl, fun q hq => ?_⟩
    · unfold hasK at hh
      simpa [hd] using hh
    · have := nameB_some (List.all_eq_true.1 ht.2 q hq)
      exact ⟨plain_good this.1 this.2, all_seen this.2⟩
theorem body_join {j : Jb} {k : Ky} (hk : k ∈ keyL) (ht : (prtM k j).2 = true) (hh : hasK j k = true) : bodyT j k = joinM (k.w :: fldM k j) := by
  obtain ⟨h0, e, -⟩ := flds_good hk ht hh
  unfold bodyT
  cases hf : fldM k j with
  | nil => exact absurd hf h0
  | cons p r => rw [joinM, ← hf, e]
theorem fields_body {j : Jb} {k : Ky} (hk : k ∈ keyL) (ht : (prtM k j).2 = true) (hh : hasK j k = true) {rest : List UInt8} (he : EndR rest) : fieldsL (bodyT j k ++ rest) = some (k.w :: fldM k j) := by
  rw [body_join hk ht hh]
  have := fields_joinE he (fldM k j) k.w [] (fun q hq => by
    rcases List.mem_cons.1 hq with rfl | hq
    · exact plain_good (key_plain k hk).1 (key_plain k hk).2
    · exact ((flds_good hk ht hh).2.2 q hq).1)
  exact this
theorem body_feed {j : Jb} {k : Ky} (hk : k ∈ keyL) (ht : (prtM k j).2 = true) (hh : hasK j k = true) : (10 : UInt8) ∉ bodyT j k := by
  rw [body_join hk ht hh]
  refine seen_feed (join_seen fun q hq => ?_)
  rcases List.mem_cons.1 hq with rfl | hq
  · exact all_seen (key_plain k hk).2
  · exact ((flds_good hk ht hh).2.2 q hq).2
theorem keysJ_mem {j : Jb} {k : Ky} (h : k ∈ keysJ j) : k ∈ keyL ∧ hasK j k = true := List.mem_filter.1 h
theorem hasK_names {j : Jb} {k : Ky} (h : hasK j k = true) : k.d = 5 → j.ls ≠ [] := by
  unfold hasK at h
  intro hd
  simpa [hd] using h
theorem rows_feed {j : Jb} (ht : tellB j = true) : ∀ p ∈ rowsJ j, (10 : UInt8) ∉ p := by
  intro p hp
  obtain ⟨k, hk, rfl⟩ := List.mem_map.1 hp
  obtain ⟨h1, h2⟩ := keysJ_mem hk
  exact body_feed h1 (List.all_eq_true.1 ht k h1) h2
theorem text_lines {j : Jb} (ht : tellB j = true) : linesM (textJ j) [] = rowsJ j ++ [[]] := by rw [text_rows, lines_rows _ (rows_feed ht)]
theorem fm_map {α β : Type} (f : α → Option β) (g : α → β) : ∀ (l : List α), (∀ a ∈ l, f a = some (g a)) → l.filterMap f = l.map g
  | [], _ => rfl
  | a :: l, h => by rw [List.filterMap_cons, h a (by simp)]; simp only; rw [fm_map f g l fun x hx => h x (by simp [hx]), List.map_cons]
theorem fm_some {α β : Type} (g : α → β) (l : List α) : (l.map fun a => (g a, some a)).filterMap (fun x : β × Option α => x.2) = l := by
  induction l with
  | nil => rfl
  | cons a l ih => rw [List.map_cons, List.filterMap_cons]; simp only; rw [ih]

/-- What can be told comes back from its text. -/
theorem ticket_back {j : Jb} (ht : tellB j = true) (hw : WfJ j) : ∃ c, ticketM (textJ j) = (c, (rowsJ j).length + 1, 0) ∧ SameJ c j := by
  have hfm : ((keysJ j).map (fun k => (bodyT j k, some k)) ++ [([], none)]).filterMap (fun x : List UInt8 × Option Ky => x.2) = keysJ j := by
    rw [List.filterMap_append, fm_some]
    simp
  obtain ⟨c, e, hs⟩ := parse_all ht hw ((keysJ j).map (fun k => (bodyT j k, some k)) ++ [([], none)]) (fun x hx => by
    rcases List.mem_append.1 hx with hx | hx
    · obtain ⟨k, hk, rfl⟩ := List.mem_map.1 hx
      obtain ⟨h1, h2⟩ := keysJ_mem hk
      refine ⟨h1, ?_, hasK_names h2⟩
      have := fields_body h1 (List.all_eq_true.1 ht k h1) h2 end_none
      rwa [List.append_nil] at this
    · obtain rfl := List.mem_singleton.1 hx
      rfl) (by rw [hfm]; exact List.Nodup.sublist List.filter_sublist key_nodup) (fun k hk => by
    rw [hfm]
    unfold keysJ
    rw [List.mem_filter]
    exact ⟨fun h => h.2, fun h => ⟨hk, h⟩⟩)
  refine ⟨c, ?_, hs⟩
  unfold ticketM
  rw [text_lines ht]
  have hl : (keysJ j).length = (rowsJ j).length := by simp [rowsJ]
  rw [List.map_append, List.map_map, List.length_append, List.length_map, hl] at e
  exact e

/-- Lines, turned, each with a remark of its number behind it, behind a remark. -/
def turnRow (P : List (List UInt8)) (t i : Nat) : List UInt8 := P.getD ((i + t) % P.length) [] ++ [32, 35, 32] ++ Lib.itoa (i : Int)
def turnHead : List UInt8 := [35, 32, 116, 117, 114, 110, 101, 100, 10]
def turnT (P : List (List UInt8)) (t n : Nat) : List UInt8 := turnHead ++ (List.range n).flatMap fun i => turnRow P t i ++ [10]
theorem turn_next (P : List (List UInt8)) (t n : Nat) : turnT P t (n + 1) = turnT P t n ++ (turnRow P t n ++ [10]) := by
  unfold turnT
  rw [List.range_succ, List.flatMap_append, List.append_assoc]
  simp
theorem turn_inj {n t a b : Nat} (ha : a < n) (hb : b < n) (h : (a + t) % n = (b + t) % n) : a = b := by
  have h1 := Nat.div_add_mod (a + t) n
  have h2 := Nat.div_add_mod (b + t) n
  rw [h] at h1
  have h3 : n * ((a + t) / n) + (b + t) = n * ((b + t) / n) + (a + t) := by omega
  rcases Nat.lt_trichotomy ((a + t) / n) ((b + t) / n) with h4 | h4 | h4
  · have := Nat.mul_le_mul_left n h4
    rw [Nat.succ_eq_add_one, Nat.mul_add] at this
    omega
  · rw [h4] at h3; omega
  · have := Nat.mul_le_mul_left n h4
    rw [Nat.succ_eq_add_one, Nat.mul_add] at this
    omega
theorem turn_onto {n t c : Nat} (hc : c < n) : ∃ i, i < n ∧ (i + t) % n = c := by
  refine ⟨(c + (n - t % n)) % n, Nat.mod_lt _ (by omega), ?_⟩
  have h1 : t % n < n := Nat.mod_lt _ (by omega)
  rw [Nat.mod_add_mod, ← Nat.add_mod_mod]
  rw [show c + (n - t % n) + t % n = c + n by omega, Nat.add_mod_right, Nat.mod_eq_of_lt hc]
theorem ticket_turned {j : Jb} (ht : tellB j = true) (hw : WfJ j) (t : Nat) : ∃ c, ticketM (turnT (rowsJ j) t (rowsJ j).length) = (c, (rowsJ j).length + 2, 0) ∧ SameJ c j := by
  obtain ⟨n, hn⟩ : ∃ n, (rowsJ j).length = n := ⟨_, rfl⟩
  have hkn : (keysJ j).length = n := by rw [← hn]; simp [rowsJ]
  have hmem : ∀ i, i < n → ∃ k, (keysJ j)[(i + t) % n]? = some k ∧ k ∈ keysJ j ∧ (rowsJ j).getD ((i + t) % n) [] = bodyT j k := by
    intro i hi
    have hlt : (i + t) % n < (keysJ j).length := by rw [hkn]; exact Nat.mod_lt _ (by omega)
    refine ⟨(keysJ j)[(i + t) % n], List.getElem?_eq_getElem hlt, List.getElem_mem hlt, ?_⟩
    simp [rowsJ, List.getD, List.getElem?_eq_getElem hlt]
  have hbody : ∀ i, i < n → (10 : UInt8) ∉ turnRow (rowsJ j) t i := by
    intro i hi
    obtain ⟨k, -, hk, e⟩ := hmem i hi
    obtain ⟨h1, h2⟩ := keysJ_mem hk
    unfold turnRow
    rw [hn, e]
    simp only [List.mem_append, not_or]
    exact ⟨⟨body_feed h1 (List.all_eq_true.1 ht k h1) h2, by decide⟩, seen_feed (all_seen (itoa_plain_any _).2)⟩
  obtain ⟨L, hL⟩ : ∃ L : List (List UInt8 × Option Ky), L = ([35, 32, 116, 117, 114, 110, 101, 100], none) :: ((List.range n).map (fun i => (turnRow (rowsJ j) t i, (keysJ j)[(i + t) % n]?)) ++ [([], none)]) := ⟨_, rfl⟩
  have hfm : L.filterMap (·.2) = (List.range n).filterMap fun i => (keysJ j)[(i + t) % n]? := by
    rw [hL, List.filterMap_cons]
    simp only
    rw [List.filterMap_append, List.filterMap_map]
    simp [Function.comp_def]
  obtain ⟨c, e, hs⟩ := parse_all ht hw L (fun x hx => by
    rw [hL] at hx
    rcases List.mem_cons.1 hx with rfl | hx
    · show fieldsL _ = some []
      unfold fieldsL
      rw [f_stop]
      rfl
    rcases List.mem_append.1 hx with hx | hx
    · obtain ⟨i, hi, rfl⟩ := List.mem_map.1 hx
      obtain ⟨k, hk, hm, e⟩ := hmem i (List.mem_range.1 hi)
      obtain ⟨h1, h2⟩ := keysJ_mem hm
      unfold GoodLine
      simp only [hk]
      refine ⟨h1, ?_, hasK_names h2⟩
      unfold turnRow
      rw [hn, e, List.append_assoc]
      exact fields_body h1 (List.all_eq_true.1 ht k h1) h2 (end_remark _)
    · obtain rfl := List.mem_singleton.1 hx
      rfl) (by
    rw [hfm]
    have hid : (List.range n).filterMap (fun i => (keysJ j)[(i + t) % n]?) = (List.range n).map (fun i => ((keysJ j)[(i + t) % n]?).getD ⟨[], 0, 0, 0, 0⟩) := by
      refine fm_map _ _ _ fun i hi => ?_
      obtain ⟨k, hk, -, -⟩ := hmem i (List.mem_range.1 hi)
      simp [hk]
    rw [hid]
    unfold List.Nodup
    rw [List.pairwise_map]
    refine List.Pairwise.imp_of_mem ?_ (List.nodup_range (n := n))
    intro a b ha hb hab
    rw [List.mem_range] at ha hb
    obtain ⟨k, hk, -, -⟩ := hmem a ha
    obtain ⟨k', hk', -, -⟩ := hmem b hb
    simp only [hk, hk', Option.getD_some]
    intro e3
    subst e3
    have hnd : (keysJ j).Nodup := List.Nodup.sublist List.filter_sublist key_nodup
    obtain ⟨x1, x2⟩ := List.getElem?_eq_some_iff.1 hk
    obtain ⟨y1, y2⟩ := List.getElem?_eq_some_iff.1 hk'
    have := (List.getElem_inj hnd).1 (x2.trans y2.symm)
    exact hab (turn_inj ha hb this)) (fun k hk => by
    rw [hfm, List.mem_filterMap]
    constructor
    · rintro ⟨i, -, hi⟩
      exact (keysJ_mem (List.mem_of_getElem? hi)).2
    · intro h
      have : k ∈ keysJ j := by unfold keysJ; rw [List.mem_filter]; exact ⟨hk, h⟩
      obtain ⟨p, hp⟩ := List.getElem?_of_mem this
      obtain ⟨i, hi, e⟩ := turn_onto (t := t) (show p < n by have := (List.getElem?_eq_some_iff.1 hp).1; omega)
      exact ⟨i, List.mem_range.2 hi, by rw [e]; exact hp⟩)
  refine ⟨c, ?_, hs⟩
  have hlen : L.length = n + 2 := by rw [hL]; simp
  rw [hlen] at e
  unfold ticketM turnT
  rw [hn]
  have e2 : linesM (turnHead ++ (List.range n).flatMap fun i => turnRow (rowsJ j) t i ++ [10]) [] = L.map (·.1) := by
    have := lines_rows ([35, 32, 116, 117, 114, 110, 101, 100] :: (List.range n).map (turnRow (rowsJ j) t)) (fun p hp => by
      rcases List.mem_cons.1 hp with rfl | hp
      · decide
      · obtain ⟨i, hi, rfl⟩ := List.mem_map.1 hp
        exact hbody i (List.mem_range.1 hi))
    rw [List.flatMap_cons, List.flatMap_map] at this
    rw [hL]
    simp only [List.map_cons, List.map_append, List.map_map, List.map_nil, Function.comp_def]
    exact this
  rw [e2]
  exact e

/-! How long texts are. -/
theorem join_len (m : Nat) : ∀ (l : List (List UInt8)), (∀ q ∈ l, q.length ≤ m) → (joinM l).length ≤ l.length * (m + 1)
  | [], _ => by simp [joinM]
  | [p], h => by have := h p (by simp); simp [joinM]; omega
  | p :: q :: r, h => by
    have h1 := h p (by simp)
    have := join_len m (q :: r) (fun x hx => h x (by simp at hx ⊢; right; exact hx))
    rw [joinM]
    simp only [List.length_append, List.length_cons] at this ⊢
    rw [Nat.add_mul (r.length + 1) 1]
    omega
theorem prt_len {j : Jb} (hw : WfJ j) {k : Ky} (hk : k ∈ keyL) (ht : (prtM k j).2 = true) (B : Nat) (hB : ∀ p ∈ j.ls, p.length ≤ B) : (prtM k j).1.length ≤ 7 ∧ ∀ q ∈ (prtM k j).1, q.length ≤ 200 + B := by
  have hone := key_one k hk
  have hp := key_places k hk
  rcases key_kind k hk with hd | hd | hd | hd | hd | hd
  · have hpr : prtM k j = if 60 < j.t.length then ([], false) else ([(quoteO j.t).getD []], (quoteO j.t).isSome) := by unfold prtM; rw [if_pos hd]
    rw [hpr] at ht ⊢
    split at ht
    · cases ht
    · rename_i hl
      rw [if_neg hl]
      obtain ⟨q, hq⟩ := Option.isSome_iff_exists.1 ht
      rw [hq]
      refine ⟨by simp, ?_⟩
      simp only [Option.getD_some, List.mem_singleton]
      rintro x rfl
      obtain ⟨-, rfl⟩ := quote_some hq
      rw [quoteT_length]
      have := esc_length j.t
      omega
  · have hpr : prtM k j = ((List.range' k.f k.hi).map fun i => Lib.itoa (j.n i), true) := by
      unfold prtM
      rw [if_neg (by omega), if_neg (by omega), if_neg (by omega), if_neg (by omega), if_neg (by omega)]
    rw [hpr]
    refine ⟨by simp; omega, fun q hq => ?_⟩
    obtain ⟨i, -, rfl⟩ := List.mem_map.1 hq
    have := itoa_len (j.n i) (hw i).1 (hw i).2
    omega
  · have hpr : prtM k j = wprM 1 (j.n k.f) := by unfold prtM; rw [if_neg (by omega), if_pos hd]
    rw [hpr] at ht ⊢
    obtain ⟨m, hm, hn, hw⟩ := word_ways (.inl rfl) (of_decide_eq_true ht)
    have := (tabL_nodup 1 (.inl rfl)).2.2 _ (List.mem_of_getElem? (tabL_at hw))
    refine ⟨by simp [wprM], ?_⟩
    simp only [wprM, List.mem_singleton]
    rintro x rfl
    have := this.2.2
    omega
  · have hpr : prtM k j = wprM 2 (j.n k.f) := by unfold prtM; rw [if_neg (by omega), if_neg (by omega), if_pos hd]
    rw [hpr] at ht ⊢
    obtain ⟨m, hm, hn, hw⟩ := word_ways (.inr rfl) (of_decide_eq_true ht)
    have := (tabL_nodup 2 (.inr rfl)).2.2 _ (List.mem_of_getElem? (tabL_at hw))
    refine ⟨by simp [wprM], ?_⟩
    simp only [wprM, List.mem_singleton]
    rintro x rfl
    have := this.2.2
    omega
  · have hpr : prtM k j = ([(putM j.f).getD []], (putM j.f).isSome) := by unfold prtM; rw [if_neg (by omega), if_neg (by omega), if_neg (by omega), if_pos hd]
    rw [hpr] at ht ⊢
    obtain ⟨t, hq⟩ := Option.isSome_iff_exists.1 ht
    rw [hq]
    refine ⟨by simp, ?_⟩
    simp only [Option.getD_some, List.mem_singleton]
    rintro x rfl
    unfold putM at hq
    cases hn : nameM j.f with
    | some n =>
      rw [hn] at hq
      obtain rfl := Option.some.inj hq
      have : ∀ e ∈ catS, e.1.length ≤ 10 := by decide +kernel
      have := this _ (Go.Proofs.YtenigkjonegdmaaGreatDoor.name_some hn)
      simp only at this
      omega
    | none =>
      rw [hn] at hq
      obtain ⟨h1, rfl⟩ := tell_some hq
      obtain ⟨h2, h3⟩ := tell_len h1
      have := (toldB_true h1).2.2.1
      rw [joinM_parts, List.length_append]
      omega
  · have hpr : prtM k j = (j.ls, decide (j.ls.length ≤ k.hi) && namesB j.ls) := by unfold prtM; rw [if_neg (by omega), if_neg (by omega), if_neg (by omega), if_neg (by omega), if_pos hd]
    rw [hpr] at ht ⊢
    simp only [Bool.and_eq_true, decide_eq_true_eq] at ht
    refine ⟨by simp only; omega, fun q hq => ?_⟩
    have := hB q hq
    omega
theorem body_len {j : Jb} (hw : WfJ j) {k : Ky} (hk : k ∈ keyL) (ht : (prtM k j).2 = true) (B : Nat) (hB : ∀ p ∈ j.ls, p.length ≤ B) : (bodyT j k).length ≤ 8 + 7 * (201 + B) := by
  obtain ⟨h1, h2⟩ := prt_len hw hk ht B hB
  have h3 := join_len _ _ h2
  have h4 := Nat.mul_le_mul_right (200 + B + 1) h1
  have := (key_places k hk).2.2.2.2
  unfold bodyT
  simp only [List.length_append, List.length_cons]
  omega
theorem flat_len {α : Type} (g : α → List UInt8) (m : Nat) : ∀ (l : List α), (∀ a ∈ l, (g a).length ≤ m) → (l.flatMap g).length ≤ l.length * m
  | [], _ => by simp
  | a :: l, h => by
    have h1 := h a (by simp)
    have := flat_len g m l (fun x hx => h x (by simp [hx]))
    rw [List.flatMap_cons, List.length_append, List.length_cons, Nat.add_mul]
    omega
theorem text_len {j : Jb} (ht : tellB j = true) (hw : WfJ j) (B : Nat) (hB : ∀ p ∈ j.ls, p.length ≤ B) : (textJ j).length ≤ 16 * (9 + 7 * (201 + B)) := by
  unfold textJ
  refine flat_len _ _ keyL fun k hk => ?_
  have := body_len hw hk (List.all_eq_true.1 ht k hk) B hB
  rw [line_body]
  split
  · rw [List.length_append, List.length_singleton]; omega
  · simp
theorem rows_len {j : Jb} (ht : tellB j = true) (hw : WfJ j) (B : Nat) (hB : ∀ p ∈ j.ls, p.length ≤ B) : (rowsJ j).length ≤ 16 ∧ 1 ≤ (rowsJ j).length ∧ ∀ p ∈ rowsJ j, p.length ≤ 8 + 7 * (201 + B) := by
  refine ⟨?_, ?_, fun p hp => ?_⟩
  · have : (keysJ j).length ≤ keyL.length := List.length_filter_le _ _
    rw [keyL_length] at this
    simpa [rowsJ] using this
  · have : (⟨[116, 105, 116, 108, 101], 0, 0, 1, 1⟩ : Ky) ∈ keysJ j := by
      unfold keysJ
      rw [List.mem_filter]
      exact ⟨by decide, by simp [hasK]⟩
    have := List.length_pos_of_mem this
    have h2 : (rowsJ j).length = (keysJ j).length := by simp [rowsJ]
    omega
  · obtain ⟨k, hk, rfl⟩ := List.mem_map.1 hp
    obtain ⟨h1, h2⟩ := keysJ_mem hk
    exact body_len hw h1 (List.all_eq_true.1 ht k h1) B hB
theorem turnRow_len {P : List (List UInt8)} {M : Nat} (hP : ∀ p ∈ P, p.length ≤ M) (t : Nat) {i : Nat} (hi : i ≤ 1000) : (turnRow P t i).length ≤ M + 23 := by
  unfold turnRow
  have h1 : (P.getD ((i + t) % P.length) []).length ≤ M := by
    unfold List.getD
    cases h : P[(i + t) % P.length]? with
    | none => simp
    | some p => exact hP p (List.mem_of_getElem? h)
  have := itoa_len (i : Int) (by omega) (by omega)
  simp only [List.length_append, List.length_cons, List.length_nil]
  omega
theorem turn_len {P : List (List UInt8)} {M : Nat} (hP : ∀ p ∈ P, p.length ≤ M) (t : Nat) {n : Nat} (hn : n ≤ 1000) : (turnT P t n).length ≤ 9 + n * (M + 24) := by
  unfold turnT
  have := flat_len (fun i => turnRow P t i ++ [10]) (M + 24) (List.range n) (fun i hi => by
    have := turnRow_len hP t (i := i) (by have := List.mem_range.1 hi; omega)
    simp only [List.length_append, List.length_singleton]
    omega)
  rw [List.length_range] at this
  rw [List.length_append, show turnHead.length = 9 from rfl]
  omega
end Go.Proofs.YtenigkjonegdmaaGreatDoor
/- What ticket.Put answers. -/
namespace Go.Proofs.YtenigkjonegdmaaGreatDoor
open Go.RowKit
set_option linter.unusedVariables false
set_option linter.unusedSimpArgs false

theorem prt_empty {j : Jb} {k : Ky} (hk : k ∈ keyL) (ht : (prtM k j).2 = true) (h0 : (prtM k j).1 = []) : k.d = 5 := by
  by_cases hd : k.d = 5
  · exact hd
  · have hh : hasK j k = true := by unfold hasK; simp [hd]
    obtain ⟨h1, h2, -⟩ := flds_good hk ht hh
    have hp := key_places k hk
    revert h0 ht
    unfold prtM
    rcases key_kind k hk with hd' | hd' | hd' | hd' | hd' | hd'
    · rw [if_pos hd']; split <;> simp
    · rw [if_neg (by omega), if_neg (by omega), if_neg (by omega), if_neg (by omega), if_neg (by omega)]
      intro _ h
      have := congrArg List.length h
      simp at this
      omega
    · rw [if_neg (by omega), if_pos hd']; simp [wprM]
    · rw [if_neg (by omega), if_neg (by omega), if_pos hd']; simp [wprM]
    · rw [if_neg (by omega), if_neg (by omega), if_neg (by omega), if_pos hd']; simp
    · exact absurd hd' hd
/-- All keys ahead of the k-th are told, and stand in the builder. -/
def KeysPutRel (j : Jb) (wa : World) (b g : Nat) (i : Value) (wr : World) : Prop :=
  ∃ k : Nat, k ≤ 16 ∧ i = .int .i64 (k : Int) ∧ (∀ x ∈ keyL.take k, (prtM x j).2 = true) ∧ IsB b ((keyL.take k).flatMap (lineT j)) wr ∧ KeysH wr g ∧ Below wa.heap.size wa wr
theorem take_key {k : Nat} {x : Ky} (h : keyL[k]? = some x) : keyL.take (k + 1) = keyL.take k ++ [x] := by
  rw [List.take_add_one, h]; rfl
theorem told_next {j : Jb} {k : Nat} {x : Ky} (h : keyL[k]? = some x) (ha : ∀ x ∈ keyL.take k, (prtM x j).2 = true) (hx : (prtM x j).2 = true) : ∀ x ∈ keyL.take (k + 1), (prtM x j).2 = true := by
  rw [take_key h]
  intro y hy
  rcases List.mem_append.1 hy with hy | hy
  · exact ha y hy
  · obtain rfl := List.mem_singleton.1 hy
    exact hx
theorem flat_next (j : Jb) {k : Nat} {x : Ky} (h : keyL[k]? = some x) : (keyL.take (k + 1)).flatMap (lineT j) = (keyL.take k).flatMap (lineT j) ++ lineT j x := by
  rw [take_key h, List.flatMap_append]
  simp
theorem flat_short {j : Jb} (hw : WfJ j) (B : Nat) (hB : ∀ p ∈ j.ls, p.length ≤ B) (k : Nat) (ha : ∀ x ∈ keyL.take k, (prtM x j).2 = true) : ((keyL.take k).flatMap (lineT j)).length ≤ 16 * (9 + 7 * (201 + B)) := by
  have h1 := flat_len (lineT j) (9 + 7 * (201 + B)) (keyL.take k) fun x hx => by
    have := body_len hw (List.mem_of_mem_take hx) (ha x hx) B hB
    rw [line_body]
    split
    · rw [List.length_append, List.length_singleton]; omega
    · simp
  have h2 : (keyL.take k).length ≤ 16 := by rw [List.length_take, keyL_length]; omega
  exact Nat.le_trans h1 (Nat.mul_le_mul_right _ h2)
theorem tell_no {j : Jb} {x : Ky} (hx : x ∈ keyL) (h : (prtM x j).2 = false) : tellB j = false := by
  unfold tellB
  rw [List.all_eq_false]
  exact ⟨x, hx, by simp [h]⟩
/-- What Put answers. -/
def putT' (j : Jb) : List UInt8 := if tellB j = true then textJ j else []

theorem IsB.apart {b g : Nat} {l : List UInt8} {w : World} (h : IsB b l w) (k : KeysH w g) : g ≠ b := by
  rintro rfl
  unfold KeysH at k
  rcases h with ⟨-, v, h, -⟩ | ⟨-, v, h, -⟩
  all_goals
    rw [k] at h
    injection h with h
    injection h with h1 h2
    exact absurd h2 (by decide)
theorem KeysH.others {g b : Nat} {w w' : World} (h : KeysH w g) (hn : g ≠ b) (ho : Lib.OthersKept 5 (some b) w w') : KeysH w' g :=
  ho g _ h (fun e => hn (Option.some.inj e)) (fun c fz e => by injection e with e1 e2; exact absurd e2 (by decide))

set_option maxHeartbeats 2000000 in
set_option maxRecDepth 100000 in
theorem put_any (cs : List Value) (j : Jb) (w : World) (h : JobA w cs j) (hw : WfJ j) (B : Nat) (hz : ∀ l ∈ j.ls, l.length ≤ B) (hB : B ≤ 100000) (hls : j.ls.length ≤ 1000000) (hg : GoodM w) :
    Calls Tryz.prog 7 #[.agg cs.toArray] w fun e w' => e = .returned (.tuple #[.string (tx (putT' j)), .bool (tellB j)]) ∧ Below w.heap.size w w' := by
  have HL := Lib.hid h.length
  have hBa := up_alloc (Below.refl w.heap.size w) (.cells cs.toArray 29)
  have HBa := Lib.hid hBa
  have HJ := Lib.hid (h.up hBa)
  have HGd := Lib.hid (hg.below hBa)
  have HX := Lib.hid (Bx.new w 29 cs)
  have HIB := Lib.hid (IsB.new (w.alloc (.cells cs.toArray 29)))
  have HBb := Lib.hid (up_alloc (Below.refl (w.alloc (.cells cs.toArray 29)).heap.size (w.alloc (.cells cs.toArray 29))) (.cells #[.pointer none, .slice none 0 0] 46))
  have HK := Lib.hid (fun w => keysH_any w)
  have HP := Lib.hid (fun k (hk : k ∈ keyL) w1 (h1 : JobA w1 cs j) (g1 : GoodM w1) => parts_any hk cs j w1 h1 hw (fun l hl => Nat.le_trans (hz l hl) (by omega)) hls g1)
  have HW := Lib.hid hw
  clear h hg hls hBa
  go_enter Tryz.func7, Tryz.ntmps7
  go_wp2_with fail
  have hsz := World.size_alloc w (.cells cs.toArray 29)
  obtain ⟨wa, hwa⟩ : ∃ wa, w.alloc (.cells cs.toArray 29) = wa := ⟨_, rfl⟩
  rw [hwa] at HBa HJ HGd HX HIB HBb hsz ⊢
  rw [hsz] at HIB
  have Hsz := Lib.hid hsz
  clear hwa hsz
  refine (HK.out _).mono ?_
  rintro e w1 ⟨g, rfl, -, hk, hb⟩
  have HB1 := Lib.hid (up_trans HBb.out hb)
  have HIB1 := Lib.hid (HIB.out.up hb)
  have HKs := Lib.hid hk
  clear hk hb HK HIB HBb
  go_wp2
  go_loopw [11] (fun i wr => KeysPutRel j wa (w.heap.size + 1) g i wr) (fun i _ => 16 - (intOf i).toNat)
  case atStart => exact ⟨0, by omega, by go_num, by simp, HIB1.out, HKs.out, HB1.out⟩
  case round =>
    obtain ⟨k, hk, rfl, ha, hib, hks, hb⟩ := hrel
    have HA := Lib.hid ha; have HI := Lib.hid hib; have HKr := Lib.hid hks; have HBr := Lib.hid hb
    clear ha hib hks hb HIB1 HKs HB1
    by_cases hlt : k < 16
    · obtain ⟨x, hx⟩ : ∃ x, keyL[k]? = some x := ⟨keyL[k]'(by rw [keyL_length]; exact hlt), List.getElem?_eq_getElem _⟩
      have hxm := List.mem_of_getElem? hx
      have c0 := HKr.out.keys k x hx 0 _ rfl
      rw [Nat.add_zero] at c0
      have c1 := HKr.out.keys k x hx 1 _ rfl; have c2 := HKr.out.keys k x hx 2 _ rfl; have c3 := HKr.out.keys k x hx 3 _ rfl; have c4 := HKr.out.keys k x hx 4 _ rfl
      have z1 : (k : Int) < 16 := by omega
      have HXm := Lib.hid hxm; have Hx := Lib.hid hx
      have KP := HP.out x hxm
      have HE := Lib.hid (prt_empty (j := j) hxm)
      have HLn := Lib.hid (prt_len HW.out hxm (B := B) (hB := hz))
      have HT1 := Lib.hid (told_next hx HA.out)
      have HF1 := Lib.hid (flat_next j hx)
      have HFs := Lib.hid (flat_short HW.out B hz k HA.out)
      have KM := fun w => mayLack_any x w
      have HLT := Lib.hid (show lineT j x = if (prtM x j).1 = [] ∧ x.d = 5 then [] else x.w ++ 32 :: joinM (prtM x j).1 ++ [10] from rfl)
      have HNo := Lib.hid (tell_no (j := j) hxm)
      have hwl := (key_places x hxm).2.2.2.2
      generalize (keyL.take k).flatMap (lineT j) = fl at *
      obtain ⟨l, hl⟩ : ∃ l, (prtM x j).1 = l := ⟨_, rfl⟩
      obtain ⟨b, hb⟩ : ∃ b, (prtM x j).2 = b := ⟨_, rfl⟩
      rw [hl, hb] at KP
      rw [hl] at HE HLn HLT
      rw [hb] at HE HLn HT1 HNo
      clear hl hb hx hxm
      unfold keyV at KP KM
      obtain ⟨kw, kd, kf, klo, khi⟩ := x
      simp only at c0 c1 c2 c3 c4 KP KM HE HLT hwl HXm Hx HF1
      generalize (kf : Int) = kf' at *
      generalize (klo : Int) = klo' at *
      generalize (khi : Int) = khi' at *
      have hwz := tx_size kw
      obtain ⟨W, hW⟩ : ∃ W, tx kw = W := ⟨_, rfl⟩
      rw [hW] at c0 KP KM hwz
      have HN := Lib.hid (up_alloc (Below.refl wr.heap.size wr) (.cells #[.string W, .int .i64 kd, .int .i64 kf', .int .i64 klo', .int .i64 khi'] 51))
      have BN := Lib.hid (up_trans HBr.out HN.out)
      have HIN := Lib.hid (HI.out.up HN.out); have HKN := Lib.hid (HKr.out.up HN.out)
      have HXN := Lib.hid (HX.out.later (by rw [HL.out]; decide) BN.out)
      have HKP := Lib.hid (KP _ (HJ.out.up BN.out) (HGd.out.below BN.out))
      have hKX := Bx.new wr 51 [.string W, .int .i64 kd, .int .i64 kf', .int .i64 klo', .int .i64 khi']
      have q0 := hKX.cell 0 rfl; have q1 := hKX.cell 1 rfl; have q2 := hKX.cell 2 rfl; have q3 := hKX.cell 3 rfl; have q4 := hKX.cell 4 rfl
      have HKM := Lib.hid KM
      clear KP KM
      go_wp2_with (refine wpList_load_job rfl _ rfl w.heap.size rfl cs HXN.out HL.out ?_; simp only [Act.put, List.setIfInBounds_toArray, List.set_cons_succ, List.set_cons_zero])
      refine HKP.out.mono ?_
      rintro e w4 ⟨a, c, rfl, hT, hb⟩
      have B4 := Lib.hid (up_trans BN.out hb)
      have HI4 := Lib.hid (HIN.out.up hb); have HK4 := Lib.hid (HKN.out.up hb); have HT4 := Lib.hid hT
      have hKX4 := Lib.hid (hKX.up hb)
      clear hb hT hKX q0 q1 q2 q3 q4 c0 c1 c2 c3 c4
      cases b
      · have HN2 := Lib.hid (HNo.out rfl)
        go_wp2
        go_ret2
        refine ⟨?_, up_trans HBa.out B4.out⟩
        rw [HN2.out]
        unfold putT'
        rw [HN2.out]
        rfl
      · have q0 := hKX4.out.cell 0 rfl; have q1 := hKX4.out.cell 1 rfl; have q2 := hKX4.out.cell 2 rfl; have q3 := hKX4.out.cell 3 rfl; have q4 := hKX4.out.cell 4 rfl
        by_cases h0 : l = []
        · have z2 : ((l.length : Int) == 0) = true := by rw [h0]; rfl
          have hd5 : kd = 5 := HE.out rfl h0
          have HLT0 := Lib.hid (show lineT j _ = [] from HLT.out.trans (if_pos ⟨h0, hd5⟩))
          have KM5 := HKM.out
          rw [decide_eq_true hd5] at KM5
          have HKM5 := Lib.hid KM5
          clear KM5 h0 hd5
          go_wp2_with fail
          refine (HKM5.out _).mono ?_
          rintro e w5 ⟨rfl, hb⟩
          have B5 := Lib.hid (up_trans B4.out hb)
          have HI5 := Lib.hid (HI4.out.up hb); have HK5 := Lib.hid (HK4.out.up hb)
          clear hb
          go_wp2
          go_roundw
          case rel => exact ⟨k + 1, by omega, by go_num, HT1.out (by trivial), by rw [HF1.out, HLT0.out, List.append_nil]; exact HI5.out, HK5.out, B5.out⟩
          case measure => simp [intOf]; omega
        · have z2 : ((l.length : Int) == 0) = false := by
            have : l.length ≠ 0 := fun h => h0 (List.eq_nil_of_length_eq_zero h)
            simp [h0]
          have hjl := join_len _ _ ((HLn.out rfl).2)
          have hl7 := (HLn.out rfl).1
          have hj : (joinM l).length ≤ 1000000 := Nat.le_trans hjl (Nat.le_trans (Nat.mul_le_mul_right _ hl7) (by omega))
          have HLT1 := Lib.hid (show lineT j _ = kw ++ 32 :: joinM l ++ [10] from HLT.out.trans (if_neg fun h => h0 h.1))
          have KJ := fun u : Later w4 => join_any a c l u.now (HT4.out.up u.up) (by omega) (by omega)
          have hJz := tx_size (joinM l)
          have hR3 : W ++ (⟨#[32]⟩ : ByteArray) ++ tx (joinM l) ++ (⟨#[10]⟩ : ByteArray) = tx (kw ++ 32 :: joinM l ++ [10]) := by
            rw [← hW, show (⟨#[32]⟩ : ByteArray) = tx [32] from rfl, show (⟨#[10]⟩ : ByteArray) = tx [10] from rfl, tx_append, tx_append, tx_append]
            simp
          have hLz : (kw ++ 32 :: joinM l ++ [10]).length ≤ 2000000 := by simp; omega
          generalize kw ++ 32 :: joinM l ++ [10] = LN at *
          obtain ⟨J, hJ⟩ : ∃ J, tx (joinM l) = J := ⟨_, rfl⟩
          rw [hJ] at KJ hJz hR3
          obtain ⟨R1, hR1⟩ : ∃ R1, W ++ (⟨#[32]⟩ : ByteArray) = R1 := ⟨_, rfl⟩
          rw [hR1] at hR3
          obtain ⟨R2, hR2⟩ : ∃ R2, R1 ++ J = R2 := ⟨_, rfl⟩
          rw [hR2] at hR3
          have hz1 : R1.size ≤ 1000 := by rw [← hR1, ByteArray.size_append, hwz, show (⟨#[32]⟩ : ByteArray).size = 1 from rfl]; omega
          have hz2 : R2.size ≤ 1002000 := by rw [← hR2, ByteArray.size_append, hJz]; omega
          have hz3 : J.size ≤ 1000000 := by omega
          have hz4 : W.size ≤ 100 := by omega
          have hfl := HFs.out
          have HLz := Lib.hid hLz
          have HIl := Lib.hid (fun u (hu : Below w4.heap.size w4 u) => write_any (w.heap.size + 1) fl LN u (HI4.out.up hu) (by omega))
          obtain ⟨R3, hR3'⟩ : ∃ R3, tx LN = R3 := ⟨_, rfl⟩
          rw [hR3'] at hR3 HIl
          have HKJ := Lib.hid KJ
          clear hjl hj hJz hJ hR3' hLz h0 hwz hW KJ HLT HLn hfl HKP HFs
          go_wp2_with fail
          refine later_start (w := w4) ?_
          intro u
          have j0 := fun u : Later w4 => u.cell q0
          clear q0 q1 q2 q3 q4
          refine wp_region_later_tail 7 (by kernel_rfl) (by kernel_rfl) ?_
          simp only [List.take_succ_cons, List.take_zero, List.drop_succ_cons, List.drop_zero]
          repeat (go_big_quiet_step ((go_at_call 20; with_reducible exact Later.call (HKJ.out _))))
          refine wpQuiet_nil ?_
          rintro _ ⟨u2, rfl⟩
          clear j0 hR1 hR2 hR3
          go_wp2_with fail
          refine (HIl.out _ u2.up).mono ?_
          rintro e w6 ⟨rfl, hi6, hb6, ho6⟩
          have HI6 := Lib.hid hi6
          have HK6 := Lib.hid ((HK4.out.up u2.up).others ((HI4.out.up u2.up).apart (HK4.out.up u2.up)) ho6)
          have B6 := Lib.hid ((up_trans B4.out u2.up).trans (by rw [Hsz.out]; exact hb6))
          clear hi6 hb6 ho6
          go_wp2
          go_roundw
          case rel => exact ⟨k + 1, by omega, by go_num, HT1.out (by trivial), by rw [HF1.out, HLT1.out]; exact HI6.out, HK6.out, B6.out⟩
          case measure => simp [intOf]; omega
    · obtain rfl : k = 16 := by omega
      have htl : tellB j = true := by
        unfold tellB
        rw [List.all_eq_true]
        exact fun x hx => HA.out x (by rw [List.take_of_length_le (by rw [keyL_length]; decide)]; exact hx)
      have htx : (keyL.take 16).flatMap (lineT j) = putT' j := by
        unfold putT'
        rw [if_pos htl]
        rw [List.take_of_length_le (by rw [keyL_length]; decide)]
        rfl
      have hib := HI.out
      rw [htx] at hib
      have HS := Lib.hid (string_any _ _ _ hib)
      have Htl := Lib.hid htl
      clear htl htx hib
      go_wp2_with fail
      refine HS.out.mono ?_
      rintro e w4 ⟨rfl, hb⟩
      have B4 := Lib.hid (HBr.out.trans (by rw [Hsz.out]; exact hb))
      clear hb
      go_wp2
      go_ret2
      exact ⟨by rw [Htl.out]; rfl, up_trans HBa.out B4.out⟩
end Go.Proofs.YtenigkjonegdmaaGreatDoor
/- The chapter's example of tickets holds. -/
namespace Go.Proofs.YtenigkjonegdmaaGreatDoor
open Go.RowKit
set_option linter.unusedVariables false
set_option linter.unusedSimpArgs false

theorem usual_told : tellB usualJ = true := by decide +kernel
theorem usual_wf : WfJ usualJ := by
  intro i
  have h : ∀ z ∈ usualL, -9223372036854775808 ≤ z ∧ z ≤ 9223372036854775807 := by decide
  show -9223372036854775808 ≤ usualL.getD i 0 ∧ usualL.getD i 0 ≤ 9223372036854775807
  rw [List.getD_eq_getElem?_getD]
  by_cases hi : i < usualL.length
  · rw [List.getElem?_eq_getElem hi]
    exact h _ (List.getElem_mem hi)
  · rw [List.getElem?_eq_none (by omega)]
    decide
theorem usual_rows : (rowsJ usualJ).length = 15 := by
  unfold rowsJ
  rw [List.length_map]
  decide
theorem bleed_x : (ticketM [98, 108, 101, 101, 100, 32, 120]).2 = (0, 5) := by decide +kernel
/-- What Parse answers of a told job's text. -/
theorem parse_told_any {j : Jb} (ht : tellB j = true) (hw : WfJ j) (B : Nat) (hz : ∀ l ∈ j.ls, l.length ≤ B) (hB : B ≤ 5000) (w : World) (hg : GoodM w) :
    Calls Tryz.prog 9 #[.string (tx (textJ j))] w fun e w' => ∃ cs, e = .returned (.tuple #[.agg cs.toArray, .int .i64 (((rowsJ j).length + 1 : Nat) : Int), .int .i64 0]) ∧ JobA w' cs j ∧ Below w.heap.size w w' := by
  obtain ⟨c, hc, hs⟩ := ticket_back ht hw
  have hl := text_len ht hw B hz
  have := parse_any (textJ j) w (by omega) hg
  rw [hc] at this
  refine this.mono ?_
  rintro e w' ⟨cs, he, hJ, hb⟩
  exact ⟨cs, he, hs.jobA hJ.jobA, hb⟩

set_option maxRecDepth 100000 in
set_option maxHeartbeats 1000000 in
theorem tAlive_any (w : World) (hg : GoodM w) : Calls Tryz.prog 6 #[] w fun e w' => e = .returned (.bool true) ∧ Below w.heap.size w w' := by
  have K0 := parse_any [98, 108, 101, 101, 100, 32, 120] w (by decide) hg
  unfold GivesPa at K0
  rw [bleed_x] at K0
  have K0 : Calls Tryz.prog 9 #[.string ⟨#[98, 108, 101, 101, 100, 32, 120]⟩] w fun e w' => ∃ cs j, e = .returned (.tuple #[.agg cs.toArray, .int .i64 0, .int .i64 5]) ∧ JobA w' cs j ∧ Below w.heap.size w w' :=
    K0.mono fun e w' ⟨cs, he, hJ, hb⟩ => ⟨cs, _, he, hJ.jobA, hb⟩
  have K1 := fun w1 => refUsual_any w1
  have K2 := fun cs w1 (h : JobA w1 cs usualJ) (g : GoodM w1) => put_any cs usualJ w1 h usual_wf 0 (by decide) (by decide) (by decide) g
  unfold putT' at K2
  rw [usual_told, if_pos rfl] at K2
  have K3 := fun w1 g => parse_told_any usual_told usual_wf 0 (by decide) (by decide) w1 g
  rw [usual_rows] at K3
  have HG := Lib.hid hg
  have K0 := Lib.hid K0; have K1 := Lib.hid K1; have K2 := Lib.hid K2; have K3 := Lib.hid K3
  generalize tx (textJ usualJ) = T at *
  clear hg
  go_enter Tryz.func6, Tryz.ntmps6
  go_wp2_with fail
  refine K0.out.mono ?_
  rintro e w1 ⟨cs, j, rfl, hJ, hb⟩
  have hl := hJ.length
  have HL := Lib.hid hl
  have H1 := Lib.hid hJ.one
  have HZ := Lib.hid (Bx.new w1 29 zeroL)
  have HB2 := Lib.hid (below_setCells (show w.heap.size ≤ w1.heap.size from hb.size) cs 0 _ (up_alloc hb (.cells zeroL.toArray 29)))
  clear hJ hl hb
  go_wp2_with (first
    | (refine wpList_alloc_to rfl 29 rfl _ _ (job_alloc _) ?_; simp only [Act.put, List.setIfInBounds_toArray, List.set_cons_succ, List.set_cons_zero])
    | (refine wpList_store_job rfl _ _ rfl w1.heap.size rfl zeroL cs rfl HZ.out rfl HL.out H1.out ?_; simp only [Act.put]))
  generalize (w1.alloc (.cells zeroL.toArray 29)).setCells w1.heap.size 0 cs = w2 at *
  refine (K1.out _).mono ?_
  rintro e w3 ⟨us, rfl, hJ, hb⟩
  have HB3 := Lib.hid (up_trans HB2.out hb)
  have HJ := Lib.hid hJ.jobA
  clear hJ hb
  go_wp2_with fail
  refine (K2.out _ _ HJ.out (HG.out.below HB3.out)).mono ?_
  rintro e w4 ⟨rfl, hb⟩
  have HB4 := Lib.hid (up_trans HB3.out hb)
  clear hb
  go_wp2_with fail
  refine (K3.out _ (HG.out.below HB4.out)).mono ?_
  rintro e w5 ⟨ds, rfl, hJ, hb⟩
  have hl := hJ.length
  have HLd := Lib.hid hl
  have H1d := Lib.hid hJ.one
  have hZ5 := Bx.new w5 29 zeroL
  have HZ5 := Lib.hid hZ5
  have X6 := hZ5.sets (ws := ds) (by rw [hl]; rfl)
  have c1 := X6.cell 1 (hJ.num (show 0 < 28 by decide))
  rw [show usualJ.n 0 = 16 from rfl] at c1
  have hb5 := up_trans HB4.out hb
  have HB6 := Lib.hid (below_setCells (show w.heap.size ≤ w5.heap.size from hb5.size) ds 0 _ (up_alloc hb5 (.cells zeroL.toArray 29)))
  clear hJ hl hb hZ5 hb5 X6
  go_wp2_with (first
    | (refine wpList_alloc_to rfl 29 rfl _ _ (job_alloc _) ?_; simp only [Act.put, List.setIfInBounds_toArray, List.set_cons_succ, List.set_cons_zero])
    | (refine wpList_store_job rfl _ _ rfl w5.heap.size rfl zeroL ds rfl HZ5.out rfl HLd.out H1d.out ?_; simp only [Act.put]))
  go_ret
  exact ⟨rfl, HB6.out⟩
end Go.Proofs.YtenigkjonegdmaaGreatDoor
/- What the reference's Get and First answer, for every job. -/
namespace Go.Proofs.YtenigkjonegdmaaGreatDoor
open Go.RowKit
set_option linter.unusedVariables false

theorem enc_nums (n : Nat → Int) {k : Nat} (hk : k < 28) : (enc (numsL n))[k]? = some (.int .i64 (n k)) := by
  unfold enc
  rw [List.getElem?_map, numsL_at n hk]; rfl
theorem enc_from {k : Nat} (hk : k < 28) : (enc fromL)[k]? = some (.int .i64 (lowJ k)) := by
  unfold enc
  rw [List.getElem?_map, low_at hk]; rfl
theorem enc_to {k : Nat} (hk : k < 28) : (enc toL)[k]? = some (.int .i64 (topJ k)) := by
  unfold enc
  rw [List.getElem?_map, top_at hk]; rfl

theorem refJobGet_core (cs : List Value) (n : Nat → Int) (i v : Int) (b1 b2 : Bool) (w : World) (hl : cs.length = 33) (hv : ∀ k, k < 28 → cs[cellJ k]? = some (.int .i64 (n k))) (h1 : decide (i < 0) = b1) (h2 : decide (28 ≤ i) = b2)
    (h : (b1 = true ∧ v = 0) ∨ (b1 = false ∧ b2 = true ∧ v = 0) ∨ (b1 = false ∧ b2 = false ∧ ∃ k : Nat, k < 28 ∧ i = (k : Int) ∧ v = n k)) :
    Calls Tryz.prog 51 #[.agg cs.toArray, .int .i64 i] w fun e w' => e = .returned (.int .i64 v) ∧ Below w.heap.size w w' := by
  have HB := Lib.hid (up_alloc (Below.refl w.heap.size w) (.cells cs.toArray 29))
  have HX := Lib.hid (Bx.new w 29 cs)
  have HL := Lib.hid hl
  have HA := Lib.hid (fun w1 => refAll_any cs n w1 hv)
  have HH := Lib.hid h
  clear hv hl h
  go_enter Tryz.func51, Tryz.ntmps51
  go_wp2_with (refine wpList_load_job rfl _ rfl w.heap.size rfl cs HX.out HL.out ?_; simp only [Act.put, List.setIfInBounds_toArray, List.set_cons_succ, List.set_cons_zero])
  refine (HA.out _).mono ?_
  rintro e w1 ⟨g, rfl, hg, hL, hb⟩
  have HB1 := Lib.hid (up_trans HB.out hb)
  clear hb
  rcases HH.out with ⟨rfl, rfl⟩ | ⟨rfl, rfl, rfl⟩ | ⟨rfl, rfl, k, hk, rfl, rfl⟩
  · go_wp2
    go_ret
    exact ⟨rfl, HB1.out⟩
  · go_wp2
    go_ret
    exact ⟨rfl, HB1.out⟩
  · have hc := hL.cell k (enc_nums n hk)
    have z0 : (0 : Int) ≤ (k : Int) := by omega
    have z1 : (k : Int) < 28 := by omega
    clear hL
    go_wp2
    go_ret
    exact ⟨rfl, HB1.out⟩
theorem refJobGet_any (cs : List Value) (n : Nat → Int) (i : Int) (w : World) (hl : cs.length = 33) (hv : ∀ k, k < 28 → cs[cellJ k]? = some (.int .i64 (n k))) :
    Calls Tryz.prog 51 #[.agg cs.toArray, .int .i64 i] w fun e w' => e = .returned (.int .i64 (getJ n i)) ∧ Below w.heap.size w w' := by
  refine refJobGet_core cs n i _ _ _ w hl hv rfl rfl ?_
  by_cases h1 : i < 0
  · exact .inl ⟨decide_eq_true h1, getJ_out (by rw [decide_eq_false (by omega)]; rfl)⟩
  · by_cases h2 : 28 ≤ i
    · exact .inr (.inl ⟨decide_eq_false h1, decide_eq_true h2, getJ_out (by rw [decide_eq_false (show ¬ i ≤ 27 by omega), Bool.and_false])⟩)
    · refine .inr (.inr ⟨decide_eq_false h1, decide_eq_false h2, i.toNat, by omega, by omega, ?_⟩)
      unfold getJ
      rw [if_pos ⟨by omega, by omega⟩]

/-- As far as the k-th number, all may be; the three lists stand. -/
def RefFirstRel (w : World) (n : Nat → Int) (i : Value) (wr : World) : Prop := ∃ k : Nat, k ≤ 28 ∧ i = .int .i64 (k : Int) ∧ Hid (∀ j, j < k → okJ n j = true) ∧ ∃ u : Later w, wr = u.now
end Go.Proofs.YtenigkjonegdmaaGreatDoor
/- What the reference's key words, places, names and numbers of tickets answer. -/
namespace Go.Proofs.YtenigkjonegdmaaGreatDoor
open Go.RowKit
set_option linter.unusedVariables false
set_option linter.unusedSimpArgs false

/-- The places of each key's first number, and how many there are; the keys' words. -/
def firstL : List Int := [0, 0, 1, 3, 5, 6, 10, 11, 11, 11, 12, 14, 17, 20, 21, 24, 28]
def wordsV : List Value := keyL.map fun k => .string (tx k.w)
set_option maxRecDepth 100000 in
theorem refKeys_any (w : World) : Calls Tryz.prog 26 #[] w fun e w' => ∃ g, e = .returned (.slice (some ⟨g, 0, none⟩) 16 16) ∧ w.heap.size ≤ g ∧ Bx w' g wordsV ∧ Below w.heap.size w w' := by
  go_enter Tryz.func26, Tryz.ntmps26
  go_wp2
  go_ret
  exact ⟨w.heap.size, rfl, Nat.le_refl _, Bx.new w 9 wordsV, up_alloc (Below.refl _ _) _⟩
set_option maxRecDepth 100000 in
theorem refPlaces_any (w : World) : Calls Tryz.prog 27 #[] w fun e w' => ∃ g, e = .returned (.slice (some ⟨g, 0, none⟩) 17 17) ∧ w.heap.size ≤ g ∧ Bx w' g (enc firstL) ∧ Below w.heap.size w w' := by
  go_enter Tryz.func27, Tryz.ntmps27
  go_wp2
  go_ret
  exact ⟨w.heap.size, rfl, Nat.le_refl _, Bx.new w 3 (enc firstL), up_alloc (Below.refl _ _) _⟩

theorem plain_eq16 (c : UInt8) : plainO c = !(decide ((c.toNat : Int) < 33) || decide ((126 : Int) < (c.toNat : Int)) || ((c.toNat : Int) == 34) || ((c.toNat : Int) == 35)) := by
  have h1 : decide ((c.toNat : Int) ≤ 32) = decide ((c.toNat : Int) < 33) := decide_eq_decide.2 (by omega)
  rw [plain_eq, h1, Bool.or_right_comm]
set_option maxHeartbeats 1000000 in
theorem refName_core (s : ByteArray) (w : World) (hs : s.size ≤ 1000000000) : Calls Tryz.prog 50 #[.string s] w fun e w' => e = .returned (.bool (nameB s.data.toList)) ∧ w' = w := by
  obtain ⟨F, hF⟩ : ∃ F, nameB s.data.toList = F := ⟨_, rfl⟩
  have HF := Lib.hid hF
  rw [hF]
  clear hF
  go_enter Tryz.func50, Tryz.ntmps50
  go_wp2
  go_loopw [3] (fun i wr => NameRel s w i wr) (fun i _ => s.size - (intOf i).toNat)
  case atStart => exact ⟨rfl, 0, Nat.zero_le _, by go_num, rfl⟩
  case round =>
    obtain ⟨hw, k, hk, rfl, ha⟩ := hrel
    obtain rfl : w = wr := hw.symm
    have HA := Lib.hid ha
    clear ha hw
    by_cases hlt : k < s.size
    · have z1 : (k : Int) < (s.size : Int) := by omega
      have hpe := plain_eq16 s[k]
      have HB := Lib.hid (fun h => name_bad hlt h)
      have HN := Lib.hid (fun h => plain_next hlt HA.out h)
      obtain ⟨x, hx⟩ : ∃ x, ((s[k].toNat : Nat) : Int) = x := ⟨_, rfl⟩
      rw [hx] at hpe
      obtain ⟨b1, e1⟩ : ∃ b, decide (x < (33 : Int)) = b := ⟨_, rfl⟩
      obtain ⟨b2, e2⟩ : ∃ b, decide ((126 : Int) < x) = b := ⟨_, rfl⟩
      obtain ⟨b3, e3⟩ : ∃ b, (x == 34) = b := ⟨_, rfl⟩
      obtain ⟨b4, e4⟩ : ∃ b, (x == 35) = b := ⟨_, rfl⟩
      rw [e1, e2, e3, e4] at hpe
      have HP := Lib.hid hpe
      clear hpe
      cases b1 <;> cases b2 <;> cases b3 <;> cases b4
      · go_wp2
        go_roundw
        case rel => exact ⟨rfl, k + 1, by omega, by go_num, HN.out HP.out⟩
        case measure => simp [intOf]; omega
      all_goals
        have E := Lib.hid (HB.out HP.out)
        rw [HF.out] at E
        go_wp2
        go_ret
        exact ⟨by rw [E.out]; rfl, rfl⟩
    · obtain rfl : k = s.size := by omega
      have E := Lib.hid (name_end HA.out)
      rw [HF.out] at E
      obtain ⟨b, hb⟩ : ∃ b, (s.toList == []) = b := ⟨_, rfl⟩
      rw [hb] at E
      go_wp2
      go_ret
      exact ⟨by rw [E.out]; rfl, rfl⟩
theorem refName_any (l : List UInt8) (w : World) (hs : l.length ≤ 1000000000) : Calls Tryz.prog 50 #[.string (tx l)] w fun e w' => e = .returned (.bool (nameB l)) ∧ w' = w := by
  have := refName_core (tx l) w (by rw [tx_size]; exact hs)
  rwa [data_tx] at this

def NamesRel (ls : List (List UInt8)) (N : Nat) (w : World) (i : Value) (wr : World) : Prop := wr = w ∧ ∃ k : Nat, k ≤ N ∧ i = .int .i64 (k : Int) ∧ (ls.take k).all nameB = true
theorem names_bad {ls : List (List UInt8)} {k : Nat} {l : List UInt8} (h : ls[k]? = some l) (hb : nameB l = false) : namesB ls = false := by
  unfold namesB
  rw [List.all_eq_false]
  exact ⟨l, List.mem_of_getElem? h, by simp [hb]⟩
theorem names_next {ls : List (List UInt8)} {k : Nat} {l : List UInt8} (h : ls[k]? = some l) (ha : (ls.take k).all nameB = true) (hb : nameB l = true) : (ls.take (k + 1)).all nameB = true := by
  rw [List.take_add_one, h, List.all_append, ha]
  simp [hb]
set_option maxHeartbeats 1000000 in
theorem refNames16_any (a : Option Addr) (c : Nat) (ls : List (List UInt8)) (w : World) (h : TxA w a c ls) (hz : ∀ l ∈ ls, l.length ≤ 1000000000) (hl : ls.length ≤ 1000000) :
    Calls Tryz.prog 24 #[.slice a ls.length c] w fun e w' => e = .returned (.bool (decide (ls.length ≤ 4) && namesB ls)) ∧ w' = w := by
  obtain ⟨N, hN⟩ : ∃ N, ls.length = N := ⟨_, rfl⟩
  obtain ⟨b4, h4⟩ : ∃ b, decide (N ≤ 4) = b := ⟨_, rfl⟩
  have z4 : decide ((N : Int) ≤ 4) = b4 := by rw [← h4]; exact decide_eq_decide.2 (by omega)
  rw [hN] at hl ⊢
  rw [h4]
  have HN := Lib.hid hN; have HZ := Lib.hid hz; have HT := Lib.hid h
  clear hz h hN h4
  go_enter Tryz.func24, Tryz.ntmps24
  go_wp2
  go_loopw [3] (fun i wr => NamesRel ls N w i wr) (fun i _ => N - (intOf i).toNat)
  case atStart => exact ⟨rfl, 0, Nat.zero_le _, by go_num, rfl⟩
  case round =>
    obtain ⟨hw, k, hk, rfl, ha⟩ := hrel
    obtain rfl : w = wr := hw.symm
    have HA := Lib.hid ha
    clear ha hw
    by_cases hlt : k < N
    · obtain ⟨l, hl1⟩ : ∃ l, ls[k]? = some l := ⟨ls[k]'(by rw [HN.out]; exact hlt), List.getElem?_eq_getElem _⟩
      obtain ⟨g, o, rfl, hc, -, -⟩ := HT.out.resolve_left (by rintro rfl; cases hl1)
      have c0 := hc k l hl1
      have z0 : (0 : Int) ≤ (k : Int) := by omega
      have z1 : (k : Int) < (N : Int) := by omega
      have HB := Lib.hid (names_bad hl1); have HX := Lib.hid (names_next hl1 HA.out)
      have KN := Lib.hid (refName_any l w (HZ.out l (List.mem_of_getElem? hl1)))
      generalize nameB l = b at *
      generalize tx l = p at *
      clear hc hl1
      cases b
      · have E := Lib.hid (HB.out rfl)
        go_wp2_with fail
        refine KN.out.mono ?_
        rintro e w1 ⟨rfl, rfl⟩
        go_wp2
        go_ret
        exact ⟨by rw [E.out, Bool.and_false]; rfl, rfl⟩
      · have E := Lib.hid (HX.out rfl)
        go_wp2_with fail
        refine KN.out.mono ?_
        rintro e w1 ⟨rfl, rfl⟩
        go_wp2
        go_roundw
        case rel => exact ⟨rfl, k + 1, by omega, by go_num, E.out⟩
        case measure => simp [intOf]; omega
    · obtain rfl : k = N := by omega
      have hall : namesB ls = true := by
        have := HA.out
        rwa [List.take_of_length_le (by rw [HN.out]; omega)] at this
      have HE := Lib.hid hall
      clear hall
      go_wp2
      go_ret
      exact ⟨by rw [HE.out, Bool.and_true]; rfl, rfl⟩

/-- Numbers, h of them from the f-th on, each behind a blank. -/
def numsT (f h : Nat) (n : Nat → Int) : List UInt8 := ((List.range' f h).map fun i => Lib.itoa (n i)).flatMap fun p => 32 :: p
theorem numsT_next (f m : Nat) (n : Nat → Int) : numsT f (m + 1) n = numsT f m n ++ 32 :: Lib.itoa (n (f + m)) := by
  unfold numsT
  rw [digits_next, List.flatMap_append]
  simp
theorem numsT_len {n : Nat → Int} (hw : ∀ i, -9223372036854775808 ≤ n i ∧ n i ≤ 9223372036854775807) (f : Nat) : ∀ m, (numsT f m n).length ≤ 21 * m
  | 0 => by simp [numsT]
  | m + 1 => by
    have := numsT_len hw f m
    have h2 := (DecMath.itoa_len (n (f + m)) (hw _).1 (hw _).2).2
    rw [numsT_next, List.length_append, List.length_cons]
    omega
/-- The numbers ahead of the k-th stand in the text. -/
def RefNumsRel (w1 : World) (f t : Nat) (n : Nat → Int) (v i : Value) (wr : World) : Prop :=
  ∃ m : Nat, f + m ≤ t ∧ i = .int .i64 ((f + m : Nat) : Int) ∧ v = .string (tx (numsT f m n)) ∧ Below w1.heap.size w1 wr
set_option maxHeartbeats 1000000 in
set_option maxRecDepth 100000 in
theorem refNumbers_any (cs : List Value) (n : Nat → Int) (f t : Nat) (w : World) (hl : cs.length = 33) (hv : ∀ k, k < 28 → cs[cellJ k]? = some (.int .i64 (n k))) (hft : f ≤ t) (ht : t ≤ 28)
    (hw : ∀ i, -9223372036854775808 ≤ n i ∧ n i ≤ 9223372036854775807) :
    Calls Tryz.prog 28 #[.agg cs.toArray, .int .i64 (f : Int), .int .i64 (t : Int)] w fun e w' => e = .returned (.string (tx (numsT f (t - f) n))) ∧ Below w.heap.size w w' := by
  have HX := Lib.hid (Bx.new w 29 cs)
  have HB := Lib.hid (up_alloc (Below.refl w.heap.size w) (.cells cs.toArray 29))
  have HL := Lib.hid hl
  have HG := Lib.hid (fun i w1 => refJobGet_any cs n i w1 hl hv)
  have HW := Lib.hid hw
  clear hl hv hw
  go_enter Tryz.func28, Tryz.ntmps28
  go_wp2
  obtain ⟨w1, hw1⟩ : ∃ w1, w.alloc (.cells cs.toArray 29) = w1 := ⟨_, rfl⟩
  rw [hw1] at HX HB ⊢
  clear hw1
  go_loopw [7, 8] (fun v i wr => RefNumsRel w1 f t n v i wr) (fun _ i _ => t - (intOf i).toNat)
  case atStart => exact ⟨0, by omega, by go_num, rfl, Below.refl _ _⟩
  case round =>
    obtain ⟨m, hm, rfl, rfl, hb⟩ := hrel
    have HBr := Lib.hid hb
    clear hb
    by_cases hlt : f + m < t
    · have z1 : ((f + m : Nat) : Int) < (t : Int) := by omega
      have z0 : (0 : Int) ≤ ((f + m : Nat) : Int) := by omega
      have z2 : ((f + m : Nat) : Int) ≤ 28 := by omega
      have HX3 := Lib.hid (HX.out.later (by rw [HL.out]; decide) HBr.out)
      have KG := fun w1 => HG.out ((f + m : Nat) : Int) w1
      rw [getJ_in (by omega)] at KG
      have hd := numsT_next f m n
      have hP := numsT_len HW.out f m
      have hz := DecMath.itoa_len (n (f + m)) (HW.out _).1 (HW.out _).2
      have HKP := Lib.hid (fun w1 => refPut_any (n (f + m)) w1 (HW.out _).1 (HW.out _).2)
      have HKG := Lib.hid KG
      have HNx := Lib.hid (show f + (m + 1) = f + m + 1 from rfl)
      generalize n (f + m) = z at *
      obtain ⟨D, hD⟩ : ∃ D, (⟨(Lib.itoa z).toArray⟩ : ByteArray) = D := ⟨_, rfl⟩
      have hDz : D.size ≤ 20 := by rw [← hD]; exact (show (tx (Lib.itoa z)).size ≤ 20 by rw [tx_size]; exact hz.2)
      obtain ⟨P, hPe⟩ : ∃ P, tx (numsT f m n) = P := ⟨_, rfl⟩
      have hPz : P.size ≤ 600 := by rw [← hPe, tx_size]; omega
      obtain ⟨R1, hR1⟩ : ∃ R1, P ++ (⟨#[32]⟩ : ByteArray) = R1 := ⟨_, rfl⟩
      have hR1z : R1.size ≤ 601 := by rw [← hR1, ByteArray.size_append, show (⟨#[32]⟩ : ByteArray).size = 1 from rfl]; omega
      obtain ⟨R2, hR2⟩ : ∃ R2, R1 ++ D = R2 := ⟨_, rfl⟩
      have HR2 := Lib.hid (show R2 = tx (numsT f (m + 1) n) by
        rw [hd, ← hR2, ← hR1, ← hPe, ← hD, show (⟨#[32]⟩ : ByteArray) = tx [32] from rfl, tx_append, show (⟨(Lib.itoa z).toArray⟩ : ByteArray) = tx (Lib.itoa z) from rfl, tx_append]
        simp)
      rw [hD] at HKP
      rw [hPe]
      obtain ⟨K, hK⟩ : ∃ K, f + m = K := ⟨_, rfl⟩
      rw [hK] at z0 z1 z2 HKG HNx hlt ⊢
      have hfm := Lib.hid hK
      clear KG hd hP hz hD hPe hK hm
      go_wp2_with (refine wpList_load_job rfl _ rfl w.heap.size rfl cs HX3.out HL.out ?_; simp only [Act.put, List.setIfInBounds_toArray, List.set_cons_succ, List.set_cons_zero])
      refine (HKG.out _).mono ?_
      rintro e w4 ⟨rfl, hb⟩
      have HB4 := Lib.hid (up_trans HBr.out hb)
      clear hb
      go_wp2_with fail
      refine (HKP.out _).mono ?_
      rintro e w5 ⟨rfl, rfl⟩
      go_wp2
      go_roundw
      case rel => exact ⟨m + 1, by have := HNx.out; omega, by rw [HNx.out]; go_num, by rw [HR2.out], HB4.out⟩
      case measure => simp [intOf]; omega
    · have hmt : m = t - f := by omega
      have HM := Lib.hid hmt
      obtain ⟨P, hPe⟩ : ∃ P, tx (numsT f m n) = P := ⟨_, rfl⟩
      have HPe := Lib.hid hPe
      rw [hPe]
      have z1 : ¬ ((f + m : Nat) : Int) < (t : Int) := by omega
      clear hPe hmt
      go_wp2
      go_ret
      exact ⟨by rw [← HM.out, HPe.out]; rfl, up_trans HB.out HBr.out⟩
end Go.Proofs.YtenigkjonegdmaaGreatDoor
/- What the document's own Quote and Unquote answer. -/
namespace Go.Proofs.YtenigkjonegdmaaGreatDoor
open Go.RowKit
set_option linter.unusedVariables false

def RefQuoteRel (s : ByteArray) (t i : Value) : Prop :=
  ∃ k : Nat, k ≤ s.size ∧ i = .int .i64 (k : Int) ∧ t = .string (tx ((s.data.toList.take k).flatMap escO)) ∧ (s.data.toList.take k).all seenB = true
theorem const_one (n : UInt8) : (⟨#[n]⟩ : ByteArray) = tx [n] := rfl

set_option maxHeartbeats 2000000 in
theorem refQuote_core (s : ByteArray) (w : World) (hs : s.size ≤ 999999) :
    Calls Tryz.prog 22 #[.string s] w (GivesQ (quoteO s.data.toList) w) := by
  obtain ⟨F, hF0⟩ : ∃ F, quoteO s.data.toList = F := ⟨_, rfl⟩
  have HF := Lib.hid hF0
  rw [hF0]
  clear hF0
  go_enter Tryz.func22, Tryz.ntmps22
  go_wp2
  go_loop [4, 5] (fun t i => RefQuoteRel s t i) (fun _ i => s.size - (intOf i).toNat)
  case atStart => exact ⟨0, Nat.zero_le _, rfl, rfl, rfl⟩
  case round =>
    obtain ⟨k, hk, rfl, rfl, hall⟩ := hrel
    have HA := Lib.hid hall
    clear hall
    have hEl : ((s.data.toList.take k).flatMap escO).length ≤ 9999999 := by
      have := esc_length (s.data.toList.take k)
      rw [List.length_take, size_data] at this
      omega
    have hPz : (tx ((s.data.toList.take k).flatMap escO)).size ≤ 9999999 := by rw [tx_size]; exact hEl
    clear hEl
    by_cases hlt : k < s.size
    · have z1 : (k : Int) < (s.size : Int) := by omega
      have EO := Lib.hid (esc_octet hlt)
      have AO := Lib.hid (all_octet hlt HA.out)
      have AB := Lib.hid (all_bad hlt)
      have hsl := slice_one hlt hs
      obtain ⟨c, hc⟩ : ∃ c, s[k] = c := ⟨_, rfl⟩
      rw [hc] at EO AO AB hsl
      have hx : ((s[k].toNat : Nat) : Int) = (c.toNat : Int) := by rw [hc]
      clear hc
      have hqz : (tx [c]).size ≤ 1 := by rw [tx_size]; exact Nat.le_refl _
      have KP := fun w => refSeen_any c w
      have e34 := oct34 c; have e92 := oct92 c
      generalize (c.toNat : Int) = x at *
      obtain ⟨E, hE⟩ : ∃ E, (s.data.toList.take k).flatMap escO = E := ⟨_, rfl⟩
      have HE := Lib.hid hE
      rw [hE] at hPz
      rw [hE]
      clear hE
      cases hse : seenB c
      · rw [hse] at KP
        have HKP := Lib.hid KP
        have HN := Lib.hid (quote_no (AB.out hse))
        rw [HF.out] at HN
        clear KP e34 e92 hse
        go_wp2_with (go_at_call 44; refine (HKP.out _).mono ?_; rintro e w' ⟨rfl, rfl⟩)
        go_ret2
        exact ⟨ret_text HN.out.symm rfl rfl, Below.refl _ _⟩
      · rw [hse] at KP
        have HKP := Lib.hid KP
        have HA1 := Lib.hid (AO.out hse)
        clear KP hse
        by_cases hq : c = 34 ∨ c = 92
        · have ES := Lib.hid (show escO c = [92, c] by rcases hq with rfl | rfl <;> decide)
          have a1 : tx E ++ (⟨#[92]⟩ : ByteArray) = tx (E ++ [92]) := tx_append E [92]
          have a2 : tx (E ++ [92]) ++ tx [c] = tx (E ++ [92] ++ [c]) := tx_append _ _
          have hPz2 : (tx (E ++ [92])).size ≤ 99999999 := by rw [tx_size, List.length_append, List.length_singleton]; rw [tx_size] at hPz; omega
          have HR := Lib.hid (show tx (E ++ [92] ++ [c]) = tx ((s.data.toList.take (k + 1)).flatMap escO) by rw [EO.out, HE.out, ES.out]; simp)
          generalize tx (E ++ [92] ++ [c]) = R at *
          generalize tx (E ++ [92]) = P1 at *
          generalize tx E = P at *
          generalize tx [c] = q at *
          have b1 : (x == 34) = decide (c = 34) := by rw [e34, Bool.eq_iff_iff]; simp
          have b2 : (x == 92) = decide (c = 92) := by rw [e92, Bool.eq_iff_iff]; simp
          clear e34 e92
          rcases hq with hq | hq
          · rw [decide_eq_true hq] at b1
            clear b2 hq
            go_wp2_with (go_at_call 44; refine (HKP.out _).mono ?_; rintro e w' ⟨rfl, rfl⟩)
            go_round
            case rel => exact ⟨k + 1, by omega, by go_num, by rw [HR.out], HA1.out⟩
            case measure => simp [intOf]; omega
          · have b1' : (x == 34) = false := by rw [b1, hq]; decide
            rw [decide_eq_true hq] at b2
            clear b1 hq
            go_wp2_with (go_at_call 44; refine (HKP.out _).mono ?_; rintro e w' ⟨rfl, rfl⟩)
            go_round
            case rel => exact ⟨k + 1, by omega, by go_num, by rw [HR.out], HA1.out⟩
            case measure => simp [intOf]; omega
        · have ES := Lib.hid (escO_o (fun e => hq (.inl e)) (fun e => hq (.inr e)))
          have a2 : tx E ++ tx [c] = tx (E ++ [c]) := tx_append _ _
          have HR := Lib.hid (show tx (E ++ [c]) = tx ((s.data.toList.take (k + 1)).flatMap escO) by rw [EO.out, HE.out, ES.out])
          generalize tx (E ++ [c]) = R at *
          generalize tx E = P at *
          generalize tx [c] = q at *
          have b1 : (x == 34) = false := by rw [e34]; simpa using fun e => hq (.inl e)
          have b2 : (x == 92) = false := by rw [e92]; simpa using fun e => hq (.inr e)
          clear e34 e92 hq
          go_wp2_with (go_at_call 44; refine (HKP.out _).mono ?_; rintro e w' ⟨rfl, rfl⟩)
          go_round
          case rel => exact ⟨k + 1, by omega, by go_num, by rw [HR.out], HA1.out⟩
          case measure => simp [intOf]; omega
    · obtain rfl : k = s.size := by omega
      have HN := Lib.hid HA.out
      rw [List.take_of_length_le (by rw [size_data]; exact Nat.le_refl _)] at HN hPz
      have HY := Lib.hid (quote_yes HN.out)
      rw [HF.out] at HY
      rw [List.take_of_length_le (by rw [size_data]; exact Nat.le_refl _)]
      obtain ⟨E, hE⟩ : ∃ E, s.data.toList.flatMap escO = E := ⟨_, rfl⟩
      have HE := Lib.hid hE
      rw [hE] at hPz
      rw [hE]
      clear hE
      have a1 : (⟨#[34]⟩ : ByteArray) ++ tx E = tx (34 :: E) := tx_append [34] E
      have a2 : tx (34 :: E) ++ (⟨#[34]⟩ : ByteArray) = tx (34 :: E ++ [34]) := tx_append (34 :: E) [34]
      have hPz2 : (tx (34 :: E)).size ≤ 99999999 := by rw [tx_size, List.length_cons]; rw [tx_size] at hPz; omega
      have HR := Lib.hid (show tx (34 :: E ++ [34]) = tx (quoteT s.data.toList) by unfold quoteT; rw [HE.out]; rfl)
      generalize tx (34 :: E ++ [34]) = R at *
      generalize tx (34 :: E) = P1 at *
      generalize tx E = P at *
      go_wp2
      go_ret2
      exact ⟨ret_text HY.out.symm HR.out rfl, Below.refl _ _⟩
theorem refQuote_any (l : List UInt8) (w : World) (hs : l.length ≤ 999999) : Calls Tryz.prog 22 #[.string (tx l)] w (GivesQ (quoteO l) w) := by
  have := refQuote_core (tx l) w (by rw [tx_size]; exact hs)
  rwa [data_tx] at this

/-- What is left between the first and the last octet, from i on. -/
def restO (s : ByteArray) (i : Nat) : List UInt8 := (s.data.toList.take (s.size - 1)).drop i
theorem rest_mid (s : ByteArray) : restO s 1 = midL s.data.toList := by unfold restO midL; rw [size_data]
theorem rest_octet {s : ByteArray} {i : Nat} (h : i < s.size - 1) : restO s i = s[i]'(by omega) :: restO s (i + 1) := by
  unfold restO
  have hl : i < (s.data.toList.take (s.size - 1)).length := by rw [List.length_take, size_data]; omega
  rw [List.drop_eq_getElem_cons hl, List.getElem_take]
  rfl
theorem rest_none {s : ByteArray} {i : Nat} (h : s.size - 1 ≤ i) : restO s i = [] := List.drop_eq_nil_of_le (by rw [List.length_take, size_data]; omega)
def RefUnqRel (s : ByteArray) (t i : Value) : Prop :=
  ∃ (k : Nat) (out : List UInt8), 1 ≤ k ∧ k ≤ s.size - 1 ∧ out.length ≤ k ∧ i = .int .i64 (k : Int) ∧ t = .string (tx out) ∧ out ++ rbM (restO s k) = rbM (midL s.data.toList)
theorem slice_two {s : ByteArray} {k : Nat} (h : k + 1 < s.size) (hs : s.size ≤ 999999) (w : World) : (Instr.slice 9 (.string s) (some (.int .i64 ((k : Int) + 1))) (some (.int .i64 ((k : Int) + 1 + 1))) none).run Tryz.prog w = .ok (.string (tx [s[k + 1]])) w := by
  have := slice_one h hs w
  rwa [show (((k + 1 : Nat) : Nat) : Int) = (k : Int) + 1 by omega] at this

end Go.Proofs.YtenigkjonegdmaaGreatDoor
