/- Part 18 of the texts that the proofs of this seat share: AnyOrder, RefPut, Usual, SplitPart, AppendNone. -/
import Derived.Test.YtbfigaadbfggcaaGreatDoorPart1
import Derived.StillTail
import Derived.Lib.Hide
import Derived.Test.YtbfigaadbfggcaaGreatDoorPart17
import Derived.Test.YtbfigaadbfggcaaGreatDoorPart5
import Derived.Deep.DeepCutAuto
import Derived.Test.YtbfigaadbfggcaaGreatDoorPart13
import Derived.Test.YtbfigaadbfggcaaGreatDoorPart14
import Derived.Test.YtbfigaadbfggcaaGreatDoorPart4
import Derived.Deep.AppendLies
import Derived.Laws.OwnMore
import Derived.Tactics
/- A region that draws its order, whose head reads, calls and makes boxes for new variables, and whose tail, in one forced order, writes: whatever the order, the slots hold at the head's end what one walk in the order of the text gives, and each new box is a block of its own. -/
namespace Go.Proofs.YtbfigaadbfggcaaGreatDoor
open Go.RowKit
set_option linter.unusedVariables false

def isAlloc (o : Oper) : Bool := match o.op with | .alloc _ => true | _ => false
def dstAt (l : List Oper) (i : Nat) : Option Tmp := (l[i]?).bind (·.dst)
/-- What is asked of the head, to be looked through: each operation has a slot of its own, waits only for earlier ones, and waits for whatever it looks at; none looks at a new box. -/
def headOk (l : List Oper) (n N : Nat) : Bool :=
  (List.range n).all fun i => match l[i]? with
    | none => false
    | some o => (match o.dst with
        | none => false
        | some d => decide (d < N) && (List.range n).all fun j => j == i || dstAt l j != some d) &&
      (!(isAlloc o) || o.guard.isNone) && (o.after.all fun e => !Region.binds .any e || decide (e.on < i)) &&
      ((List.range n).all fun j => match l[j]? with
        | none => false
        | some oj => match oj.dst with
          | none => false
          | some d => !(o.looksAt l.toArray).contains d || (decide (j < i) && !(isAlloc oj) && o.after.any fun e => Region.binds .any e && e.on == j))
theorem headOk_spec {l : List Oper} {n N : Nat} (h : headOk l n N = true) (i : Nat) (hi : i < n) :
    ∃ o d, l[i]? = some o ∧ o.dst = some d ∧ d < N ∧ (∀ j, j < n → j ≠ i → dstAt l j ≠ some d) ∧ (isAlloc o = true → o.guard = none) ∧ (∀ e ∈ o.after, Region.binds .any e = true → e.on < i) ∧
      ∀ j, j < n → ∀ oj d', l[j]? = some oj → oj.dst = some d' → d' ∈ o.looksAt l.toArray → j < i ∧ isAlloc oj = false ∧ ∃ e ∈ o.after, Region.binds .any e = true ∧ e.on = j := by
  have h0 := List.all_eq_true.1 h i (List.mem_range.2 hi)
  cases ho : l[i]? with
  | none => rw [ho] at h0; cases h0
  | some o =>
    rw [ho] at h0
    simp only [Bool.and_eq_true] at h0
    obtain ⟨⟨⟨h1, h2⟩, h3⟩, h4⟩ := h0
    cases hd : o.dst with
    | none => rw [hd] at h1; cases h1
    | some d =>
      rw [hd] at h1
      simp only [Bool.and_eq_true, decide_eq_true_eq] at h1
      refine ⟨o, d, rfl, hd, h1.1, fun j hj hji => ?_, fun ha => ?_, fun e he hb => ?_, fun j hj oj d' hoj hd' hm => ?_⟩
      · have := List.all_eq_true.1 h1.2 j (List.mem_range.2 hj)
        simpa [hji] using this
      · simp only [ha, Bool.not_true, Bool.false_or, Option.isNone_iff_eq_none] at h2
        exact h2
      · have := Array.all_eq_true_iff_forall_mem.1 h3 e he
        simpa [hb] using this
      · have := List.all_eq_true.1 h4 j (List.mem_range.2 hj)
        rw [hoj] at this
        simp only [hd'] at this
        have hc : (o.looksAt l.toArray).contains d' = true := by simpa using hm
        rw [hc] at this
        simp only [Bool.not_true, Bool.false_or, Bool.and_eq_true, decide_eq_true_eq, Bool.not_eq_true'] at this
        obtain ⟨⟨k1, k2⟩, k3⟩ := this
        obtain ⟨e, he, hb⟩ := Array.any_eq_true'.1 k3
        simp only [Bool.and_eq_true, beq_iff_eq] at hb
        exact ⟨k1, k2, e, he, hb.1, hb.2⟩

theorem exec_same {ops : Array Oper} {a a' : Act} (o : Oper) (hs : ∀ cs b, o.op ≠ .select cs b) (h : ∀ t ∈ o.looksAt ops, a.tmps[t]? = a'.tmps[t]?) : execOp a.eval o = execOp a'.eval o :=
  execOp_congr o hs fun x hx => by
    cases x with
    | tmp t =>
      have := h t (List.mem_append_left _ (List.mem_filterMap.2 ⟨.tmp t, by simpa using hx, rfl⟩))
      simp [Act.eval, this]
    | _ => rfl
theorem wanted_same {ops : Array Oper} {a a' : Act} (o : Oper) (h : ∀ t ∈ o.looksAt ops, a.tmps[t]? = a'.tmps[t]?) : Region.wanted o (yielded ops a.tmps) = Region.wanted o (yielded ops a'.tmps) := by
  unfold Region.wanted
  cases hg : o.guard with
  | none => rfl
  | some gw =>
    obtain ⟨g, want⟩ := gw
    have hy : yielded ops a.tmps g = yielded ops a'.tmps g := by
      unfold yielded
      cases ht : (ops[g]?).bind (·.dst) with
      | none => rfl
      | some t =>
        have := h t (by simp [Oper.looksAt, hg, ht])
        simp [this]
    simp only [hy]

section
variable {P : Program} {ops : Array Oper} {C : World → Prop} {aF : Act}
/-- Behind the walk a slot that no operation fills is as it was. -/
theorem walk_keeps : ∀ (L : List Oper) (a : Act), wpQuiet P ops C (fun a' => a' = aF) L a → aF.tmps.size = a.tmps.size ∧ aF.defers = a.defers ∧ ∀ t, (∀ o ∈ L, o.dst ≠ some t) → aF.tmps[t]? = a.tmps[t]? := by
  intro L
  induction L with
  | nil => intro a h; obtain rfl : a = aF := h; exact ⟨rfl, rfl, fun _ _ => rfl⟩
  | cons o L ih =>
    intro a h
    have hv : ∃ v, wpQuiet P ops C (fun a' => a' = aF) L (a.put o.dst v) := by
      unfold wpQuiet at h
      split at h
      · obtain ⟨v, _, h⟩ := h; exact ⟨v, h⟩
      · exact ⟨_, h⟩
    obtain ⟨v, hv⟩ := hv
    obtain ⟨h1, h2, h3⟩ := ih _ hv
    refine ⟨h1.trans (by cases o.dst <;> simp [Act.put]), h2.trans (by cases o.dst <;> simp [Act.put]), fun t ht => (h3 t fun o' ho' => ht o' (List.mem_cons_of_mem _ ho')).trans ?_⟩
    have hne := ht o List.mem_cons_self
    cases hd : o.dst with
    | none => rfl
    | some d =>
      have : d ≠ t := fun e => hne (by rw [hd, e])
      simp [Act.put, Array.getElem?_setIfInBounds_ne this]

/-- What the walk shows of its k-th operation: with what is filled ahead of it as at the end, and all else as at the start, it yields what its slot holds at the end. -/
theorem walk_at : ∀ (L : List Oper) (a : Act), wpQuiet P ops C (fun a' => a' = aF) (L.filter fun o => !isAlloc o) a →
    (∀ (i j : Nat) (oi oj : Oper) (t : Tmp), L[i]? = some oi → L[j]? = some oj → oi.dst = some t → oj.dst = some t → i = j) →
    ∀ (k : Nat) (o : Oper) (d : Tmp), L[k]? = some o → isAlloc o = false → o.dst = some d → d < a.tmps.size →
    ∃ act : Act, (∀ (j : Nat) (oj : Oper) (t : Tmp), j < k → L[j]? = some oj → isAlloc oj = false → oj.dst = some t → act.tmps[t]? = aF.tmps[t]?) ∧
      (∀ (t : Tmp), (∀ (j : Nat) (oj : Oper), j < k → L[j]? = some oj → isAlloc oj = false → oj.dst ≠ some t) → act.tmps[t]? = a.tmps[t]?) ∧
      ∃ v, aF.tmps[d]? = some v ∧ ((Region.wanted o (yielded ops act.tmps) = true ∧ ∀ w, C w → o.quietAt P act C w v) ∨ (Region.wanted o (yielded ops act.tmps) = false ∧ v = undef)) := by
  intro L
  induction L with
  | nil => intro a _ _ k o d hk; simp at hk
  | cons o0 L ih =>
    intro a h hdis k o d hk ha hd hlt
    have hdis' : ∀ (i j : Nat) (oi oj : Oper) (t : Tmp), L[i]? = some oi → L[j]? = some oj → oi.dst = some t → oj.dst = some t → i = j := fun i j oi oj t h1 h2 h3 h4 => by
      have := hdis (i + 1) (j + 1) oi oj t (by simpa using h1) (by simpa using h2) h3 h4
      omega
    cases h0 : isAlloc o0 with
    | true =>
      rw [List.filter_cons_of_neg (by simp [h0])] at h
      cases k with
      | zero =>
        simp at hk
        subst hk
        rw [h0] at ha
        cases ha
      | succ k =>
        obtain ⟨act, q1, q2, q3⟩ := ih a h hdis' k o d (by simpa using hk) ha hd hlt
        refine ⟨act, fun j oj t hj hoj hja hjd => ?_, fun t ht => q2 t fun j oj hj hoj hja => ht (j + 1) oj (by omega) (by simpa using hoj) hja, q3⟩
        cases j with
        | zero => simp at hoj; subst hoj; rw [h0] at hja; cases hja
        | succ j => exact q1 j oj t (by omega) (by simpa using hoj) hja hjd
    | false =>
      rw [List.filter_cons_of_pos (by simp [h0])] at h
      have hv : ∃ v, ((Region.wanted o0 (yielded ops a.tmps) = true ∧ ∀ w, C w → o0.quietAt P a C w v) ∨ (Region.wanted o0 (yielded ops a.tmps) = false ∧ v = undef)) ∧ wpQuiet P ops C (fun a' => a' = aF) (L.filter fun o => !isAlloc o) (a.put o0.dst v) := by
        unfold wpQuiet at h
        split at h
        · rename_i hw; obtain ⟨v, h1, h2⟩ := h; exact ⟨v, .inl ⟨hw, h1⟩, h2⟩
        · rename_i hw; exact ⟨_, .inr ⟨by simpa using hw, rfl⟩, h⟩
      obtain ⟨v, hy, hrest⟩ := hv
      obtain ⟨z1, _, z3⟩ := walk_keeps _ _ hrest
      have later : ∀ t, o0.dst = some t → ∀ o' ∈ L.filter (fun o => !isAlloc o), o'.dst ≠ some t := fun t ht o' ho' hd' => by
        obtain ⟨j, hj⟩ := List.getElem?_of_mem (List.mem_filter.1 ho').1
        have := hdis 0 (j + 1) o0 o' t (by simp) (by simpa using hj) ht hd'
        omega
      have fill : ∀ t, o0.dst = some t → t < a.tmps.size → aF.tmps[t]? = some v := fun t ht hs => by
        rw [z3 t (later t ht)]
        simp [Act.put, ht, hs]
      cases k with
      | zero =>
        simp at hk
        subst hk
        exact ⟨a, fun j _ _ hj => absurd hj (by omega), fun _ _ => rfl, v, fill d hd hlt, hy⟩
      | succ k =>
        have hsz : (a.put o0.dst v).tmps.size = a.tmps.size := by cases o0.dst <;> simp [Act.put]
        obtain ⟨act, q1, q2, q3⟩ := ih _ hrest hdis' k o d (by simpa using hk) ha hd (by rw [hsz]; exact hlt)
        refine ⟨act, fun j oj t hj hoj hja hjd => ?_, fun t ht => ?_, q3⟩
        · cases j with
          | zero =>
            simp at hoj
            subst hoj
            rw [q2 t fun j oj hj hoj hja hd' => ?_, z3 t (later t hjd)]
            have := hdis 0 (j + 1) o0 oj t (by simp) (by simpa using hoj) hjd hd'
            omega
          | succ j => exact q1 j oj t (by omega) (by simpa using hoj) hja hjd
        · rw [q2 t fun j oj hj hoj hja => ht (j + 1) oj (by omega) (by simpa using hoj) hja]
          have hne := ht 0 o0 (by omega) (by simp) h0
          cases hd0 : o0.dst with
          | none => rfl
          | some d0 =>
            have : d0 ≠ t := fun e => hne (by rw [hd0, e])
            simp [Act.put, Array.getElem?_setIfInBounds_ne this]
end

theorem Bx.upTo {w w' : World} {B : Nat} {vs : List Value} (h : Bx w B vs) (hlt : B < w.heap.size) (hb : Below w.heap.size w w') : Bx w' B vs :=
  ⟨fun j v hj => bl_cell hb (h.1 j v hj), fun j => (kept_marks hb B j hlt).trans (h.2 j)⟩

/-- The slots of the new boxes, filled. -/
def puts (gf : Nat → Nat) : List (Nat × Tmp) → Act → Act
  | [], a => a
  | x :: r, a => puts gf r (a.put (some x.2) (.pointer (some ⟨gf x.1, 0, none⟩)))
theorem puts_same (gf : Nat → Nat) : ∀ (al : List (Nat × Tmp)) (a : Act), (puts gf al a).tmps.size = a.tmps.size ∧ (puts gf al a).defers = a.defers ∧ ∀ t, (∀ x ∈ al, x.2 ≠ t) → (puts gf al a).tmps[t]? = a.tmps[t]? := by
  intro al
  induction al with
  | nil => intro a; exact ⟨rfl, rfl, fun _ _ => rfl⟩
  | cons x r ih =>
    intro a
    obtain ⟨h1, h2, h3⟩ := ih (a.put (some x.2) (.pointer (some ⟨gf x.1, 0, none⟩)))
    refine ⟨h1.trans (by simp [Act.put]), h2.trans rfl, fun t ht => (h3 t fun y hy => ht y (List.mem_cons_of_mem _ hy)).trans ?_⟩
    simp [Act.put, Array.getElem?_setIfInBounds_ne (ht x List.mem_cons_self)]
theorem puts_at (gf : Nat → Nat) : ∀ (al : List (Nat × Tmp)) (a : Act), (al.map (·.2)).Nodup → ∀ x ∈ al, x.2 < a.tmps.size → (puts gf al a).tmps[x.2]? = some (.pointer (some ⟨gf x.1, 0, none⟩)) := by
  intro al
  induction al with
  | nil => intro a _ x hx; cases hx
  | cons y r ih =>
    intro a hnd x hx hlt
    simp only [List.map_cons, List.nodup_cons] at hnd
    rcases List.mem_cons.1 hx with rfl | hx
    · show (puts gf r _).tmps[x.2]? = _
      rw [(puts_same gf r _).2.2 x.2 fun z hz e => hnd.1 (e ▸ List.mem_map_of_mem hz)]
      simp [Act.put, hlt]
    · exact ih _ hnd.2 x hx (by simpa [Act.put] using hlt)

/-- The list of new boxes, by operation and slot, is right. -/
def boxesOk (l : List Oper) (n : Nat) (al : List (Nat × Tmp)) (ts : List TypeId) : Bool :=
  (al.all fun x => decide (x.1 < n) && (match l[x.1]? with | some o => isAlloc o && o.dst == some x.2 | none => false)) &&
  ((List.range n).all fun i => match l[i]? with | some o => (match o.op with | .alloc t => ts.contains t && al.any (fun x => x.1 == i) | _ => true) | none => false) &&
  decide ((al.map (·.2)).Nodup)
def anyOk (l : List Oper) (n N : Nat) (al : List (Nat × Tmp)) (ts : List TypeId) : Bool :=
  Region.noSelect l.toArray && decide (n < l.length) && Region.sinkB .any l.toArray n && Region.chainB .any l.toArray n &&
  Region.seqB .any l.toArray (l.length - n) n (List.replicate n true ++ List.replicate (l.length - n) false).toArray && headOk l n N && boxesOk l n al ts

/-- As long as the head comes up, in whatever order. -/
structure Under (l : List Oper) (n : Nat) (Z : TypeId → List Value) (a0 aF : Act) (w1 : World) (s : Array Bool) (a : Act) (w : World) : Prop where
  head : HeadInv .any l.toArray n s
  size : a.tmps.size = a0.tmps.size
  defers : a.defers = a0.defers
  fill : ∀ (i : Nat) (o : Oper) (t : Tmp), i < n → s.getD i false = true → l[i]? = some o → isAlloc o = false → o.dst = some t → a.tmps[t]? = aF.tmps[t]?
  rest : ∀ t : Tmp, (∀ (i : Nat) (o : Oper), i < n → s.getD i false = true → l[i]? = some o → o.dst ≠ some t) → a.tmps[t]? = a0.tmps[t]?
  up : Below w1.heap.size w1 w
  boxes : ∃ gf : Nat → Nat, ∀ (i : Nat) (o : Oper) (d : Tmp) (t : TypeId), i < n → s.getD i false = true → l[i]? = some o → o.op = .alloc t → o.dst = some d →
    a.tmps[d]? = some (.pointer (some ⟨gf i, 0, none⟩)) ∧ w1.heap.size ≤ gf i ∧ gf i < w.heap.size ∧ Bx w (gf i) (Z t) ∧ ∀ (j : Nat) (oj : Oper) (tj : TypeId), j < n → s.getD j false = true → l[j]? = some oj → oj.op = .alloc tj → j ≠ i → gf j ≠ gf i

theorem set_listed {s : Array Bool} {i j : Nat} (h : (s.setIfInBounds i true).getD j false = true) (hne : j ≠ i) : s.getD j false = true := by rwa [getD_set_ne false (Ne.symm hne)] at h

/-- An operation of the head that is no new box yields what its slot holds at the end. -/
theorem Under.quiet {l : List Oper} {n N : Nat} {Z : TypeId → List Value} {a0 aF a : Act} {w1 w w' : World} {s : Array Bool} (I : Under l n Z a0 aF w1 s a w) (hok : headOk l n N = true) {i : Nat} {o : Oper} {d : Tmp} {v : Value} (hi : i < n)
    (ho : l[i]? = some o) (ha : isAlloc o = false) (hd : o.dst = some d) (hr : i ∈ Region.ready .any l.toArray s) (hlt : d < a0.tmps.size) (hv : aF.tmps[d]? = some v) (hb : Below w.heap.size w w') :
    Under l n Z a0 aF w1 (s.setIfInBounds i true) (a.put o.dst v) w' := by
  obtain ⟨o', d', ho', hd', _, hdis, _, _, _⟩ := headOk_spec hok i hi
  obtain rfl : o' = o := Option.some.inj (ho'.symm.trans ho)
  obtain rfl : d' = d := Option.some.inj (hd'.symm.trans hd)
  have other : ∀ (j : Nat) (oj : Oper), j < n → l[j]? = some oj → j ≠ i → ∀ t, oj.dst = some t → d' ≠ t := fun j oj hj hoj hji t ht e => hdis j hj hji (by subst e; simp [dstAt, hoj, ht])
  have putNe : ∀ t, d' ≠ t → (a.put o'.dst v).tmps[t]? = a.tmps[t]? := fun t ht => by rw [hd]; simp [Act.put, Array.getElem?_setIfInBounds_ne ht]
  have putAt : (a.put o'.dst v).tmps[d']? = some v := by rw [hd]; simp [Act.put, I.size, hlt]
  refine ⟨I.head.set hr hi, by rw [hd]; simp [Act.put, I.size], by rw [hd]; simp [Act.put, I.defers], fun j oj t hj hl hoj hja hjd => ?_, fun t ht => ?_, up_trans I.up hb, ?_⟩
  · by_cases e : j = i
    · subst e
      obtain rfl : oj = o' := Option.some.inj (hoj.symm.trans ho)
      obtain rfl : t = d' := Option.some.inj (hjd.symm.trans hd)
      rw [putAt, hv]
    · rw [putNe t (other j oj hj hoj e t hjd)]
      exact I.fill j oj t hj (set_listed hl e) hoj hja hjd
  · have hsi : (s.setIfInBounds i true).getD i false = true := by
      have : i < s.size := by rw [I.head.size]; exact (List.getElem?_eq_some_iff.1 ho).1
      simp [this]
    rw [putNe t fun e => ht i o' hi hsi ho (by rw [hd, e])]
    exact I.rest t fun j oj hj hl hoj => ht j oj hj (getD_set_true hl) hoj
  · obtain ⟨gf, hg⟩ := I.boxes
    refine ⟨gf, fun j oj dj t hj hl hoj hop hjd => ?_⟩
    have hja : isAlloc oj = true := by simp [isAlloc, hop]
    have e : j ≠ i := fun e => by
      subst e
      obtain rfl : oj = o' := Option.some.inj (hoj.symm.trans ho)
      rw [hja] at ha; cases ha
    obtain ⟨g1, g2, g3, g4, g5⟩ := hg j oj dj t hj (set_listed hl e) hoj hop hjd
    refine ⟨by rw [putNe dj (other j oj hj hoj e dj hjd)]; exact g1, g2, Nat.lt_of_lt_of_le g3 hb.size, g4.upTo g3 hb, fun k ok tk hk hkl hok' hkop hkj => ?_⟩
    have e' : k ≠ i := fun e => by
      subst e
      obtain rfl : ok = o' := Option.some.inj (hok'.symm.trans ho)
      have : isAlloc ok = true := by simp [isAlloc, hkop]
      rw [this] at ha; cases ha
    exact g5 k ok tk hk (set_listed hkl e') hok' hkop hkj

/-- A new box. -/
theorem Under.box {l : List Oper} {n N : Nat} {Z : TypeId → List Value} {a0 aF a : Act} {w1 w : World} {s : Array Bool} (I : Under l n Z a0 aF w1 s a w) (hok : headOk l n N = true) {i : Nat} {o : Oper} {d : Tmp} {t : TypeId} (hi : i < n)
    (ho : l[i]? = some o) (ha : o.op = .alloc t) (hd : o.dst = some d) (hr : i ∈ Region.ready .any l.toArray s) (hlt : d < a0.tmps.size) :
    Under l n Z a0 aF w1 (s.setIfInBounds i true) (a.put o.dst (.pointer (some ⟨w.heap.size, 0, none⟩))) (w.alloc (.cells (Z t).toArray t)) := by
  obtain ⟨o', d', ho', hd', _, hdis, _, _, _⟩ := headOk_spec hok i hi
  obtain rfl : o' = o := Option.some.inj (ho'.symm.trans ho)
  obtain rfl : d' = d := Option.some.inj (hd'.symm.trans hd)
  have hal : isAlloc o' = true := by simp [isAlloc, ha]
  have hb : Below w.heap.size w (w.alloc (.cells (Z t).toArray t)) := up_alloc (Below.refl _ _) _
  have other : ∀ (j : Nat) (oj : Oper), j < n → l[j]? = some oj → j ≠ i → ∀ t, oj.dst = some t → d' ≠ t := fun j oj hj hoj hji t ht e => hdis j hj hji (by subst e; simp [dstAt, hoj, ht])
  have putNe : ∀ v t, d' ≠ t → (a.put o'.dst v).tmps[t]? = a.tmps[t]? := fun v t ht => by rw [hd]; simp [Act.put, Array.getElem?_setIfInBounds_ne ht]
  have putAt : ∀ v, (a.put o'.dst v).tmps[d']? = some v := fun v => by rw [hd]; simp [Act.put, I.size, hlt]
  refine ⟨I.head.set hr hi, by rw [hd]; simp [Act.put, I.size], by rw [hd]; simp [Act.put, I.defers], fun j oj t hj hl hoj hja hjd => ?_, fun t ht => ?_, up_trans I.up hb, ?_⟩
  · have e : j ≠ i := fun e => by
      subst e
      obtain rfl : oj = o' := Option.some.inj (hoj.symm.trans ho)
      rw [hal] at hja; cases hja
    rw [putNe _ t (other j oj hj hoj e t hjd)]
    exact I.fill j oj t hj (set_listed hl e) hoj hja hjd
  · have hsi : (s.setIfInBounds i true).getD i false = true := by
      have : i < s.size := by rw [I.head.size]; exact (List.getElem?_eq_some_iff.1 ho).1
      simp [this]
    rw [putNe _ t fun e => ht i o' hi hsi ho (by rw [hd, e])]
    exact I.rest t fun j oj hj hl hoj => ht j oj hj (getD_set_true hl) hoj
  · obtain ⟨gf, hg⟩ := I.boxes
    refine ⟨fun k => if k = i then w.heap.size else gf k, fun j oj dj tj hj hl hoj hop hjd => ?_⟩
    by_cases e : j = i
    · subst e
      obtain rfl : oj = o' := Option.some.inj (hoj.symm.trans ho)
      obtain rfl : dj = d' := Option.some.inj (hjd.symm.trans hd)
      obtain rfl : tj = t := by rw [ha] at hop; injection hop with hop; exact hop.symm
      simp only [if_true]
      refine ⟨putAt _, I.up.size, by simp, Bx.new w tj (Z tj), fun k ok tk hk hkl hok' hkop hkj => ?_⟩
      rw [if_neg hkj]
      cases hkd : ok.dst with
      | none =>
        obtain ⟨o2, d2, h2, h3, _⟩ := headOk_spec hok k hk
        obtain rfl : o2 = ok := Option.some.inj (h2.symm.trans hok')
        rw [hkd] at h3; cases h3
      | some dk =>
        have := (hg k ok dk tk hk (set_listed hkl hkj) hok' hkop hkd).2.2.1
        omega
    · obtain ⟨g1, g2, g3, g4, g5⟩ := hg j oj dj tj hj (set_listed hl e) hoj hop hjd
      simp only [if_neg e]
      refine ⟨by rw [putNe _ dj (other j oj hj hoj e dj hjd)]; exact g1, g2, Nat.lt_of_lt_of_le g3 hb.size, g4.upTo g3 hb, fun k ok tk hk hkl hok' hkop hkj => ?_⟩
      by_cases e' : k = i
      · subst e'; simp only [if_true]; omega
      · rw [if_neg e']; exact g5 k ok tk hk (set_listed hkl e') hok' hkop hkj

theorem count_less {p q : Nat → Bool} {i : Nat} (hp : p i = true) (hq : q i = false) (hpq : ∀ j, j ≠ i → q j = p j) : ∀ L : List Nat, L.Nodup → i ∈ L → L.countP p = L.countP q + 1 := by
  intro L
  induction L with
  | nil => intro _ h; cases h
  | cons x L ih =>
    intro hn hi
    rw [List.nodup_cons] at hn
    by_cases e : x = i
    · subst e
      rw [List.countP_cons_of_pos hp, List.countP_cons_of_neg (by simp [hq])]
      congr 1
      exact List.countP_congr fun y hy => by rw [hpq y fun e => hn.1 (e ▸ hy)]
    · have hm : i ∈ L := (List.mem_cons.1 hi).resolve_left fun h => e h.symm
      have := ih hn.2 hm
      rw [List.countP_cons, List.countP_cons, hpq x e, this]
      omega
theorem least_unlisted (s : Array Bool) : ∀ m : Nat, (∀ j, j < m → s.getD j false = true) ∨ ∃ i, i < m ∧ s.getD i false = false ∧ ∀ j, j < i → s.getD j false = true := by
  intro m
  induction m with
  | zero => exact .inl fun j hj => absurd hj (by omega)
  | succ m ih =>
    rcases ih with h | ⟨i, h1, h2, h3⟩
    · cases e : s.getD m false with
      | true => exact .inl fun j hj => (Nat.lt_or_eq_of_le (Nat.le_of_lt_succ hj)).elim (h j) fun e' => e' ▸ e
      | false => exact .inr ⟨m, by omega, e, h⟩
    · exact .inr ⟨i, by omega, h2, h3⟩

theorem under_wp {P : Program} {l : List Oper} {n N : Nat} {al : List (Nat × Tmp)} {ts : List TypeId} {Z : TypeId → List Value} {a0 aF : Act} {w1 : World} {Q : Exit → Act → World → Prop} (hB : anyOk l n N al ts = true) (hN : a0.tmps.size = N)
    (hwalk : ∀ v0 : World, Below w1.heap.size w1 v0 → wpQuiet P l.toArray (fun w' => ∃ u : Later v0, w' = u.now) (fun a' => a' = aF) ((l.take n).filter fun o => !isAlloc o) a0)
    (hz : ∀ t ∈ ts, ∀ (o : Oper) (ρ : Operand → Value) (w : World), o.op = .alloc t → (execOp ρ o).run P w = .ok (.value (.pointer (some ⟨w.heap.size, 0, none⟩))) (w.alloc (.cells (Z t).toArray t)))
    (htail : ∀ (gf : Nat → Nat) (w' : World), Below w1.heap.size w1 w' → (∀ x ∈ al, ∀ (o : Oper) (t : TypeId), l[x.1]? = some o → o.op = .alloc t → w1.heap.size ≤ gf x.1 ∧ Bx w' (gf x.1) (Z t)) →
      (∀ x ∈ al, ∀ y ∈ al, x.1 ≠ y.1 → gf x.1 ≠ gf y.1) → wpList P l.toArray Q (l.drop n) (puts gf al aF) w') :
    ∀ (f : Nat) (s : Array Bool) (a : Act) (w : World), Under l n Z a0 aF w1 s a w → (List.range n).countP (fun i => !s.getD i false) = f → wpAny P .any l.toArray Q (f + (l.length - n)) s a w := by
  simp only [anyOk, boxesOk, Bool.and_eq_true, decide_eq_true_eq] at hB
  obtain ⟨⟨⟨⟨⟨⟨hsel, hn⟩, hs⟩, hc⟩, hseq⟩, hok⟩, ⟨hal1, hal2⟩, hnd⟩ := hB
  have hbox : ∀ x ∈ al, x.1 < n ∧ ∃ o t, l[x.1]? = some o ∧ o.op = .alloc t ∧ o.dst = some x.2 := fun x hx => by
    have := List.all_eq_true.1 hal1 x hx
    simp only [Bool.and_eq_true, decide_eq_true_eq] at this
    refine ⟨this.1, ?_⟩
    have h2 := this.2
    cases ho : l[x.1]? with
    | none => rw [ho] at h2; cases h2
    | some o =>
      rw [ho] at h2
      simp only [Bool.and_eq_true, beq_iff_eq] at h2
      have h3 := h2.1
      unfold isAlloc at h3
      split at h3
      · rename_i t ht; exact ⟨o, t, rfl, ht, h2.2⟩
      · cases h3
  have hcov : ∀ (i : Nat) (o : Oper) (t : TypeId), i < n → l[i]? = some o → o.op = .alloc t → t ∈ ts ∧ ∃ x ∈ al, x.1 = i := fun i o t hi ho ht => by
    have := List.all_eq_true.1 hal2 i (List.mem_range.2 hi)
    rw [ho] at this
    simp only [ht, Bool.and_eq_true] at this
    obtain ⟨h1, h2⟩ := this
    obtain ⟨x, hx, hxi⟩ := List.any_eq_true.1 h2
    exact ⟨by simpa using h1, x, hx, by simpa using hxi⟩
  obtain ⟨zF1, zF2, zF3⟩ := walk_keeps _ _ (hwalk w1 (Below.refl _ _))
  intro f
  induction f with
  | zero =>
    intro s a w I hcount
    have hall : ∀ i, i < n → s.getD i false = true := fun i hi => by
      have := List.countP_eq_zero.1 hcount i (List.mem_range.2 hi)
      simpa using this
    obtain ⟨gf, hg⟩ := I.boxes
    have hsz : s.size = l.length := by rw [I.head.size]; simp
    have es : s = (List.replicate n true ++ List.replicate (l.length - n) false).toArray := by
      refine Array.ext (by simp [hsz]; omega) fun i h1 h2 => ?_
      by_cases hi : i < n
      · have := hall i hi
        simp [h1] at this
        simp [hi, this]
      · have := I.head.tail i (by omega) (by simpa [hsz] using h1)
        simp [h1] at this
        simp [List.getElem_append, hi, this]
    have ea : a = puts gf al aF := by
      obtain ⟨p1, p2, p3⟩ := puts_same gf al aF
      have et : a.tmps = (puts gf al aF).tmps := by
        refine Array.ext_getElem? fun t => ?_
        by_cases hx : ∃ x ∈ al, x.2 = t
        · obtain ⟨x, hx, rfl⟩ := hx
          obtain ⟨hxn, o, ty, ho, hop, hd⟩ := hbox x hx
          obtain ⟨o', d', ho', hd', hdN, _⟩ := headOk_spec hok x.1 hxn
          obtain rfl : o' = o := Option.some.inj (ho'.symm.trans ho)
          obtain rfl : d' = x.2 := Option.some.inj (hd'.symm.trans hd)
          rw [(hg x.1 o' x.2 ty hxn (hall _ hxn) ho hop hd).1, puts_at gf al aF hnd x hx (by rw [zF1, hN]; exact hdN)]
        · have hx' : ∀ x ∈ al, x.2 ≠ t := fun x hxm e => hx ⟨x, hxm, e⟩
          rw [p3 t hx']
          by_cases hj : ∃ j o, j < n ∧ l[j]? = some o ∧ o.dst = some t
          · obtain ⟨j, o, hj, ho, hd⟩ := hj
            refine I.fill j o t hj (hall j hj) ho ?_ hd
            cases ha : isAlloc o with
            | false => rfl
            | true =>
              unfold isAlloc at ha
              split at ha
              · rename_i ty hty
                obtain ⟨_, x, hxm, hxj⟩ := hcov j o ty hj ho hty
                obtain ⟨_, o2, _, ho2, _, hd2⟩ := hbox x hxm
                rw [hxj] at ho2
                obtain rfl : o2 = o := Option.some.inj (ho2.symm.trans ho)
                exact absurd (Option.some.inj (hd2.symm.trans hd)) (hx' x hxm)
              · cases ha
          · rw [I.rest t fun j o hjn _ ho hd => hj ⟨j, o, hjn, ho, hd⟩, zF3 t fun o hm hd => ?_]
            · obtain ⟨j, hjj⟩ := List.getElem?_of_mem (List.mem_filter.1 hm).1
              rw [List.getElem?_take] at hjj
              split at hjj
              · rename_i hjn; exact hj ⟨j, o, hjn, hjj, hd⟩
              · cases hjj
      have ed : a.defers = (puts gf al aF).defers := by rw [p2, zF2, I.defers]
      cases a
      cases hp : puts gf al aF
      rw [hp] at et ed
      simp only at et ed
      rw [et, ed]
    have dl : (l.drop n).length = l.length - n := by simp
    have T := wpAny_of_seq (P := P) (md := .any) (ops := l.toArray) (Q' := Q) (l.drop n) n s a w (fun j => by simp [List.getElem?_drop]) (by rw [dl, es]; exact hseq)
      (by
        rw [ea]
        refine htail gf w I.up (fun x hx o t ho ht => ?_) fun x hx y hy hxy => ?_
        · obtain ⟨hxn, o', t', ho', hop, hd⟩ := hbox x hx
          obtain rfl : o' = o := Option.some.inj (ho'.symm.trans ho)
          obtain ⟨_, g2, _, g4, _⟩ := hg x.1 o' x.2 t hxn (hall _ hxn) ho ht hd
          exact ⟨g2, g4⟩
        · obtain ⟨hxn, o1, t1, ho1, hop1, hd1⟩ := hbox x hx
          obtain ⟨hyn, o2, t2, ho2, hop2, hd2⟩ := hbox y hy
          exact fun e => (hg x.1 o1 x.2 t1 hxn (hall _ hxn) ho1 hop1 hd1).2.2.2.2 y.1 o2 t2 hyn (hall _ hyn) ho2 hop2 (Ne.symm hxy) e.symm)
    rw [dl] at T
    rw [Nat.zero_add]
    exact T
  | succ f ih =>
    intro s a w I hcount
    obtain ⟨i0, hi0, hun, hbefore⟩ : ∃ i, i < n ∧ s.getD i false = false ∧ ∀ j, j < i → s.getD j false = true := by
      rcases least_unlisted s n with h | h
      · have : (List.range n).countP (fun i => !s.getD i false) = 0 := List.countP_eq_zero.2 fun i hi => by simp [h i (List.mem_range.1 hi)]
        omega
      · exact h
    have hsz : s.size = l.length := by rw [I.head.size]; simp
    have hun' : s.getD i0 true = false := getD_in (by rw [hsz]; omega) hun
    have hready : i0 ∈ Region.ready .any l.toArray s := by
      obtain ⟨o, d, ho, _, _, _, _, hback, _⟩ := headOk_spec hok i0 hi0
      exact mem_ready.2 ⟨hun', o, by simpa using ho, fun e he hb => hbefore _ (hback e he hb)⟩
    rw [show f + 1 + (l.length - n) = f + (l.length - n) + 1 by omega]
    refine ⟨fun h => (by rw [h] at hready; cases hready), fun i hi => ?_⟩
    have hin : i < n := Nat.lt_of_not_le fun h => tail_waits hs hc (by simpa using hn) I.head _ i0 rfl hi0 hun' i h hi
    obtain ⟨o, d, ho, hd, hdN, hdis, hguard, _, hlook⟩ := headOk_spec hok i hin
    have hiun := (mem_ready.1 hi).1
    have hcount' : (List.range n).countP (fun j => !(s.setIfInBounds i true).getD j false) = f := by
      have := count_less (p := fun j => !s.getD j false) (q := fun j => !(s.setIfInBounds i true).getD j false) (i := i) (by simp only [getD_both hiun]; rfl)
        (by have : i < s.size := by rw [hsz]; omega
            simp [this]) (fun j hj => by simp only [getD_set_ne false (Ne.symm hj)]) (List.range n) List.nodup_range (List.mem_range.2 hin)
      omega
    have hdlt : d < a0.tmps.size := by rw [hN]; exact hdN
    unfold wpOp
    simp only [List.getElem?_toArray, ho]
    cases ha : isAlloc o with
    | true =>
      obtain ⟨t, ht⟩ : ∃ t, o.op = .alloc t := by
        unfold isAlloc at ha
        split at ha
        · rename_i t ht; exact ⟨t, ht⟩
        · cases ha
      rw [if_pos (by unfold Region.wanted; rw [hguard ha])]
      refine .inl ?_
      unfold Oper.wp
      rw [hz t (hcov i o t hin ho ht).1 o a.eval w ht]
      exact ih _ _ _ (I.box hok hin ho ht hd hi hdlt) hcount'
    | false =>
      obtain ⟨act, q1, q2, v, hv, hy⟩ := walk_at (l.take n) a0 (hwalk w I.up) (fun i j oi oj t h1 h2 h3 h4 => by
          rw [List.getElem?_take] at h1 h2
          split at h1 <;> split at h2
          · rename_i hi' hj'
            obtain ⟨o1, d1, ho1, hd1, _, hdis1, _⟩ := headOk_spec hok i hi'
            obtain rfl : o1 = oi := Option.some.inj (ho1.symm.trans h1)
            obtain rfl : d1 = t := Option.some.inj (hd1.symm.trans h3)
            exact Classical.byContradiction fun e => hdis1 j hj' (fun e' => e e'.symm) (by simp [dstAt, h2, h4])
          · cases h2
          · cases h1
          · cases h1) i o d (by rw [List.getElem?_take, if_pos hin]; exact ho) ha hd hdlt
      have agree : ∀ t ∈ o.looksAt l.toArray, a.tmps[t]? = act.tmps[t]? := fun t ht => by
        by_cases hj : ∃ j oj, j < n ∧ l[j]? = some oj ∧ oj.dst = some t
        · obtain ⟨j, oj, hjn, hoj, hjd⟩ := hj
          obtain ⟨hji, hja, e, he, hb, hon⟩ := hlook j hjn oj t hoj hjd ht
          have hlj : s.getD j false = true := by
            obtain ⟨_, o', ho', hdeps⟩ := mem_ready.1 hi
            obtain rfl : o' = o := Option.some.inj (ho'.symm.trans (by simpa using ho))
            rw [← hon]; exact hdeps e he hb
          rw [I.fill j oj t hjn hlj hoj hja hjd, q1 j oj t hji (by rw [List.getElem?_take, if_pos hjn]; exact hoj) hja hjd]
        · rw [I.rest t fun j oj hjn _ hoj hjd => hj ⟨j, oj, hjn, hoj, hjd⟩, q2 t fun j oj hjk hoj _ hjd => ?_]
          rw [List.getElem?_take] at hoj
          split at hoj
          · rename_i hjn; exact hj ⟨j, oj, hjn, hoj, hjd⟩
          · cases hoj
      have hsel' := Region.noSelect_spec hsel i o
      have hex : execOp a.eval o = execOp act.eval o := exec_same o (fun cs b => hsel' cs b (by simpa using ho)) agree
      rw [wanted_same o agree]
      rcases hy with ⟨hw, hq⟩ | ⟨hw, rfl⟩
      · rw [if_pos hw]
        refine .inl (Oper.wp_of_quiet (C := fun w' => ∃ u : Later w, w' = u.now) (K := fun a' => a' = a.put o.dst v) ⟨⟨w, Below.refl _ _⟩, rfl⟩ (fun a' w' hw' e => ?_) ⟨v, fun x hx => ?_, rfl⟩)
        · obtain ⟨u, rfl⟩ := hw'
          subst e
          exact ih _ _ _ (I.quiet hok hin ho ha hd hi hdlt hv u.up) hcount'
        · have := hq x hx
          unfold Oper.quietAt at *
          rw [hex]; exact this
      · rw [if_neg (by simp [hw])]
        exact ih _ _ _ (I.quiet hok hin ho ha hd hi hdlt hv (Below.refl _ _)) hcount'

/-- The region: the walk of the head, in the order of the text, in every later world; then the tail, with new boxes at blocks of their own. -/
theorem wp_region_boxes {P : Program} {id : Nat} {l : List Oper} {Q : Exit → Act → World → Prop} {a0 aF : Act} {w1 : World} (n N : Nat) (al : List (Nat × Tmp)) (ts : List TypeId) (Z : TypeId → List Value) (hm : P.follows .mixedOrders = true) (hB : anyOk l n N al ts = true) (hN : a0.tmps.size = N)
    (hz : ∀ t ∈ ts, ∀ (o : Oper) (ρ : Operand → Value) (w : World), o.op = .alloc t → (execOp ρ o).run P w = .ok (.value (.pointer (some ⟨w.heap.size, 0, none⟩))) (w.alloc (.cells (Z t).toArray t)))
    (hwalk : ∀ v0 : World, Below w1.heap.size w1 v0 → ∀ K : Act → Prop, Hid (∀ a', a' = aF → K a') → wpQuiet P l.toArray (fun w' => ∃ u : Later v0, w' = u.now) K ((l.take n).filter fun o => !isAlloc o) a0)
    (htail : ∀ (gf : Nat → Nat) (w' : World), Below w1.heap.size w1 w' → (∀ x ∈ al, ∀ (o : Oper) (t : TypeId), l[x.1]? = some o → o.op = .alloc t → w1.heap.size ≤ gf x.1 ∧ Bx w' (gf x.1) (Z t)) →
      (∀ x ∈ al, ∀ y ∈ al, x.1 ≠ y.1 → gf x.1 ≠ gf y.1) → wpList P l.toArray Q (l.drop n) (puts gf al aF) w') :
    (Code.region id l.toArray true).wp P Q a0 w1 := by
  refine wp_region_any hm ?_
  have hn : n < l.length := by
    have := hB
    simp only [anyOk, Bool.and_eq_true, decide_eq_true_eq] at this
    exact this.1.1.1.1.1.2
  have G := under_wp (P := P) (Q := Q) (a0 := a0) (aF := aF) (w1 := w1) hB hN (fun v0 h0 => hwalk v0 h0 _ (Lib.hid fun a' h => h)) hz htail n (Array.replicate l.toArray.size false) a0 w1.drew
    ⟨⟨by simp, fun j oj _ hj => (by rw [getD_replicate_false] at hj; cases hj), fun t _ ht => getD_in (by simpa using ht) (getD_replicate_false _ _)⟩, rfl, rfl,
      fun i o t _ hl => (by rw [getD_replicate_false] at hl; cases hl), fun _ _ => rfl, up_drew (Below.refl _ _), fun _ => 0, fun i o d t _ hl => by rw [getD_replicate_false] at hl; cases hl⟩
    (by
      have : (fun i => !(Array.replicate l.toArray.size false).getD i false) = fun _ => true := by funext i; rw [getD_replicate_false]; rfl
      rw [this]; simp)
  rw [show n + (l.length - n) = l.toArray.size by simp; omega] at G
  exact G
/-- The same, the slots at the head's end found by the walk. -/
theorem wp_region_boxes' {P : Program} {id : Nat} {l : List Oper} {Q : Exit → Act → World → Prop} {a0 : Act} {w1 : World} (n N : Nat) (al : List (Nat × Tmp)) (ts : List TypeId) (Z : TypeId → List Value) (hm : P.follows .mixedOrders = true) (hB : anyOk l n N al ts = true) (hN : a0.tmps.size = N)
    (hz : ∀ t ∈ ts, ∀ (o : Oper) (ρ : Operand → Value) (w : World), o.op = .alloc t → (execOp ρ o).run P w = .ok (.value (.pointer (some ⟨w.heap.size, 0, none⟩))) (w.alloc (.cells (Z t).toArray t)))
    (h : ∃ aF : Act, (∀ v0 : World, Below w1.heap.size w1 v0 → ∀ K : Act → Prop, Hid (∀ a', a' = aF → K a') → wpQuiet P l.toArray (fun w' => ∃ u : Later v0, w' = u.now) K ((l.take n).filter fun o => !isAlloc o) a0) ∧
      ∀ (gf : Nat → Nat) (w' : World), Below w1.heap.size w1 w' → (∀ x ∈ al, ∀ (o : Oper) (t : TypeId), l[x.1]? = some o → o.op = .alloc t → w1.heap.size ≤ gf x.1 ∧ Bx w' (gf x.1) (Z t)) →
        (∀ x ∈ al, ∀ y ∈ al, x.1 ≠ y.1 → gf x.1 ≠ gf y.1) → wpList P l.toArray Q (l.drop n) (puts gf al aF) w') :
    (Code.region id l.toArray true).wp P Q a0 w1 := by
  obtain ⟨aF, h1, h2⟩ := h
  exact wp_region_boxes n N al ts Z hm hB hN hz h1 h2
end Go.Proofs.YtbfigaadbfggcaaGreatDoor
/- What the reference's Put and Set answer, for every job. -/
namespace Go.Proofs.YtbfigaadbfggcaaGreatDoor
open Go.RowKit
set_option linter.unusedVariables false

/-- The zero job's cells. -/
def zeroL : List Value := jobL ⟨#[]⟩ (fun _ => 0) 0 0 (.slice none 0 0) (.slice none 0 0)
theorem job_alloc (w : World) : (Instr.alloc 29 true (.tuple #[])).run Tryz.prog w = .ok (.pointer (some ⟨w.heap.size, 0, none⟩)) (w.alloc (.cells zeroL.toArray 29)) := by
  kernel_rfl
theorem enc_set (n : Nat → Int) {k : Nat} (hk : k < 28) (z : Int) : (enc (numsL n)).set k (.int .i64 z) = enc (numsL (setN n k z)) := by
  rcases num_ways hk with rfl | rfl | rfl | rfl | rfl | rfl | rfl | rfl | rfl | rfl | rfl | rfl | rfl | rfl | rfl | rfl | rfl | rfl | rfl | rfl | rfl | rfl | rfl | rfl | rfl | rfl | rfl | rfl <;> rfl
theorem enc_there (n : Nat → Int) {k : Nat} (hk : k < 28) : (enc (numsL n))[k]? = some (.int .i64 (n k)) := by
  unfold enc
  rw [List.getElem?_map, numsL_at n hk]; rfl
/-- The first k numbers, and zeros. -/
def firstN (k : Nat) (n : Nat → Int) : Nat → Int := fun i => if i < k then n i else 0

/-- What stands while the reference's Put lays one number behind another one: the first i are laid. -/
def PutRel (w : World) (g g2 : Nat) (t : ByteArray) (m : Nat → Int) (c r : Int) (fv lv : Value) (i : Nat) (wx : World) : Prop :=
  Bx wx g2 (jobL t (firstN i m) c r fv lv) ∧ Bx wx g (enc (numsL m)) ∧ Bx wx (w.heap.size + 1) zeroL ∧ Below w.heap.size w wx
theorem firstN_next (i : Nat) (m : Nat → Int) : setN (firstN i m) i (m i) = firstN (i + 1) m := by
  funext j
  unfold setN firstN
  by_cases h : j = i
  · subst h; simp
  · have : (j < i + 1) = (j < i) := by apply propext; omega
    rw [if_neg h]
    simp only [this]
theorem PutRel.put {w : World} {g g2 : Nat} {t : ByteArray} {m : Nat → Int} {c r : Int} {fv lv : Value} {wx : World} {i : Nat} (h : PutRel w g g2 t m c r fv lv i wx) (hn : g ≠ g2 ∧ w.heap.size + 1 ≠ g2 ∧ w.heap.size ≤ g2) (hi : i < 28) : PutRel w g g2 t m c r fv lv (i + 1) (wx.setCell ⟨g2, cellJ i, none⟩ (.int .i64 (m i))) := by
  refine ⟨?_, h.2.1.far (p := ⟨g2, cellJ i, none⟩) (fun e => hn.1 e.symm) _, h.2.2.1.far (p := ⟨g2, cellJ i, none⟩) (fun e => hn.2.1 e.symm) _, h.2.2.2.setCell (p := ⟨g2, cellJ i, none⟩) hn.2.2 _⟩
  have := h.1.set (cellJ i) (.int .i64 (m i))
  rwa [job_set _ _ _ _ _ _ hi, firstN_next] at this
theorem firstN_all (t : ByteArray) (m : Nat → Int) (c r : Int) (fv lv : Value) : jobL t (firstN 28 m) c r fv lv = jobL t m c r fv lv := rfl

end Go.Proofs.YtbfigaadbfggcaaGreatDoor
/- The usual job, as the program and the reference tell it. -/
namespace Go.Proofs.YtbfigaadbfggcaaGreatDoor
open Go.RowKit
set_option linter.unusedVariables false
set_option linter.unusedSimpArgs false

def usualL : List Int := [16, 0, 0, 148000, 210000, 3000, 5000, 5000, 5000, 0, 1, 1, 640000, 900000, 10000, 12000, 8000, 100, 1, 1, 0, 5000, 3000, 100, 20000, 5000, 10, 0]
def usualN (i : Nat) : Int := usualL.getD i 0
def usualF : Sc := ⟨2, 2, [⟨3, 1, false⟩, ⟨1, 1, false⟩]⟩
/-- The usual job. -/
def usualJ : Jb := ⟨[98, 111, 111, 107], usualN, usualF, []⟩
theorem keep_sets (w : World) (B o : Nat) (ws : List Value) : ∀ p : Addr, p.block ≠ B → ∀ v, w.cell? p = some v → (w.setCells B o ws).cell? p = some v := fun p hp v hv => by
  rw [World.cell?_setCells_out B ws o w p (fun e _ => absurd e hp)]
  exact hv
theorem find_usual : findM [70, 56, 45, 49] = some usualF := by decide +kernel
theorem usual_first : firstJ usualN = -1 := by decide +kernel

/-- A job is built out of its parts, in a region that does not draw its order. -/
theorem wpList_build_job {ops : Array Oper} {rest : List Oper} {o : Oper} {a : Act} {w : World} {Q : Exit → Act → World → Prop} (hg : o.guard = none) (parts : Array (Nat × Operand)) (ho : o.op = .build 29 parts) (cells : Array Value)
    (hc : Tryz.prog.built 29 (parts.map fun (i, x) => (i, a.eval x)).toList = some cells) (h : wpList Tryz.prog ops Q rest (a.put o.dst (.agg cells)) w) : wpList Tryz.prog ops Q (o :: rest) a w :=
  wpList_build_to hg _ parts ho cells hc h

set_option maxRecDepth 100000 in
theorem refUsual_any (w : World) : Calls Tryz.prog 17 #[] w fun e w' => ∃ cs, e = .returned (.agg cs.toArray) ∧ JobF w.heap.size w' cs usualJ ∧ Below w.heap.size w w' := by
  have HR := Bx.new w 29 zeroL
  have HB := up_alloc (Below.refl w.heap.size w) (.cells zeroL.toArray 29)
  have HZ := World.size_alloc w (.cells zeroL.toArray 29)
  obtain ⟨w1, hw1⟩ : ∃ w1, w.alloc (.cells zeroL.toArray 29) = w1 := ⟨_, rfl⟩
  have R2 := HR.later (by decide) (up_alloc (Below.refl _ _) (.cells #[.int .i64 3, .int .i64 1, .bool false, .int .i64 1, .int .i64 1, .bool false] 50))
  have B2 := up_alloc HB (.cells #[.int .i64 3, .int .i64 1, .bool false, .int .i64 1, .int .i64 1, .bool false] 50)
  have S2 := Bx.new (w.alloc (.cells zeroL.toArray 29)) 50 [.int .i64 3, .int .i64 1, .bool false, .int .i64 1, .int .i64 1, .bool false]
  rw [hw1] at R2 B2 S2 HZ
  have HR2 := Lib.hid R2; have HB2 := Lib.hid B2; have HS2 := Lib.hid S2; have HZ2 := Lib.hid HZ; have HW := Lib.hid hw1
  clear R2 B2 S2 HR HB HZ hw1
  go_enter Tryz.func17, Tryz.ntmps17
  go_wp2_with (first
    | (refine wpList_alloc_to rfl 29 rfl _ _ (job_alloc _) ?_; simp only [Act.put, HW.out, List.setIfInBounds_toArray, List.set_cons_succ, List.set_cons_zero])
    | (refine wpList_build_job rfl _ rfl (jobL (tx usualJ.t) usualN 2 2 (.slice (some ⟨w1.heap.size, 0, none⟩) 2 2) (.slice none 0 0)).toArray ?_ ?_; kernel_rfl; simp only [Act.put, List.setIfInBounds_toArray, List.set_cons_succ, List.set_cons_zero])
    | (refine wpList_store_job rfl _ _ rfl w.heap.size rfl zeroL (jobL (tx usualJ.t) usualN 2 2 (.slice (some ⟨w1.heap.size, 0, none⟩) 2 2) (.slice none 0 0)) rfl HR2.out rfl rfl (job_one _ _ _ _ _ _ _ _ _ _) ?_; simp only [Act.put]))
  have hz := HZ2.out
  have R3 := HR2.out.sets (ws := jobL (tx usualJ.t) usualN 2 2 (.slice (some ⟨w1.heap.size, 0, none⟩) 2 2) (.slice none 0 0)) rfl
  have B3 := below_setCells (Nat.le_refl w.heap.size) (jobL (tx usualJ.t) usualN 2 2 (.slice (some ⟨w1.heap.size, 0, none⟩) 2 2) (.slice none 0 0)) 0 _ HB2.out
  have S3 := sets_far HS2.out (show w1.heap.size ≠ w.heap.size by omega) 0 (jobL (tx usualJ.t) usualN 2 2 (.slice (some ⟨w1.heap.size, 0, none⟩) 2 2) (.slice none 0 0))
  refine bodyPost_ret (v := .agg (jobL (tx usualJ.t) usualN 2 2 (.slice (some ⟨w1.heap.size, 0, none⟩) 2 2) (.slice none 0 0)).toArray) (results_wide Tryz.results17 w.heap.size rfl _ _ R3.range Tryz.underlying29 rfl infoJob) rfl
    ⟨_, rfl, ⟨some ⟨w1.heap.size, 0, none⟩, 2, none, 0, rfl, .inr ⟨w1.heap.size, 0, rfl, by omega, fun j p hp => ?_⟩, .inl rfl⟩, B3⟩
  match j, hp with
  | 0, hp => cases hp; exact ⟨S3.cell 0 rfl, S3.cell 1 rfl, S3.cell 2 rfl⟩
  | 1, hp => cases hp; exact ⟨S3.cell 3 rfl, S3.cell 4 rfl, S3.cell 5 rfl⟩
  | j + 2, hp => simp [usualJ, usualF] at hp
end Go.Proofs.YtbfigaadbfggcaaGreatDoor
/- What split.part answers. -/
namespace Go.Proofs.YtbfigaadbfggcaaGreatDoor
open Go.RowKit
set_option linter.unusedVariables false
set_option linter.unusedSimpArgs false

theorem zero_part : (Tryz.prog.info? 69).map (·.size) = some 7 := by kernel_rfl

set_option maxHeartbeats 1000000 in
theorem spPart_no (cs : List Value) (N : Int) (u v : Bool) (w : World) (h1 : cs[1]? = some (.int .i64 N)) (hL : cs.length = 33) (h : (u && v) = false)
    (KL : ∀ w1, Below w.heap.size w w1 → Calls Tryz.prog 52 #[.agg cs.toArray] w1 fun e w' => e = .returned (.bool u) ∧ Below w1.heap.size w1 w')
    (KI : ∀ w1, Calls Tryz.prog 40 #[.int .i64 N, .int .i64 1, .int .i64 100000] w1 fun e w' => e = .returned (.bool v) ∧ w1 = w') :
    Calls Tryz.prog 41 #[.agg cs.toArray] w fun e w' => e = .returned (.agg #[.int .i64 0, .int .i64 0, .int .i64 0, .slice none 0 0, .int .i64 0, .int .i64 0, .slice none 0 0]) ∧ Below w.heap.size w w' := by
  have X1 := (Bx.new w 29 cs)
  have U1 := up_alloc (Below.refl w.heap.size w) (.cells cs.toArray 29)
  have V1 := up_alloc (Below.refl _ (w.alloc (.cells cs.toArray 29))) (.cells #[.int .i64 0, .int .i64 0, .int .i64 0, .slice none 0 0, .int .i64 0, .int .i64 0, .slice none 0 0] 69)
  have HX := Lib.hid (X1.later (by rw [hL]; decide) V1)
  have HB := Lib.hid (up_trans U1 V1)
  have R1 := Bx.new (w.alloc (.cells cs.toArray 29)) 69 [.int .i64 0, .int .i64 0, .int .i64 0, .slice none 0 0, .int .i64 0, .int .i64 0, .slice none 0 0]
  rw [World.size_alloc] at R1
  have HR := Lib.hid R1
  have HL := Lib.hid hL; have HKL := Lib.hid KL; have HKI := Lib.hid KI
  clear X1 U1 V1 R1 hL KL KI
  go_enter Tryz.func41, Tryz.ntmps41
  go_wp2_with (refine wpList_load_job rfl _ rfl w.heap.size rfl cs HX.out HL.out ?_; simp only [Act.put, List.setIfInBounds_toArray, List.set_cons_succ, List.set_cons_zero])
  refine (HKL.out _ HB.out).mono ?_
  rintro e w1 ⟨rfl, hb⟩
  have b1 := (HX.out.later (by rw [HL.out]; decide) hb).cell 1 h1
  have R2 := HR.out.up hb
  have B1 := Lib.hid (up_trans HB.out hb)
  have p0 := R2.cell 0 rfl; have p1 := R2.cell 1 rfl; have p2 := R2.cell 2 rfl; have p3 := R2.cell 3 rfl; have p4 := R2.cell 4 rfl; have p5 := R2.cell 5 rfl; have p6 := R2.cell 6 rfl
  have pf := R2.free
  clear hb
  have R3 := ((((((R2.set 0 (.int .i64 0)).set 1 (.int .i64 0)).set 2 (.int .i64 0)).set 3 (.slice none 0 0)).set 4 (.int .i64 0)).set 5 (.int .i64 0)).set 6 (.slice none 0 0)
  have q0 := R3.cell 0 rfl; have q1 := R3.cell 1 rfl; have q2 := R3.cell 2 rfl; have q3 := R3.cell 3 rfl; have q4 := R3.cell 4 rfl; have q5 := R3.cell 5 rfl; have q6 := R3.cell 6 rfl
  have B3 := up_set (up_set (up_set (up_set (up_set (up_set (up_set B1.out (p := ⟨w.heap.size + 1, 0, none⟩) (by simp only; omega) (.int .i64 0)) (p := ⟨w.heap.size + 1, 1, none⟩) (by simp only; omega) (.int .i64 0)) (p := ⟨w.heap.size + 1, 2, none⟩) (by simp only; omega) (.int .i64 0)) (p := ⟨w.heap.size + 1, 3, none⟩) (by simp only; omega) (.slice none 0 0)) (p := ⟨w.heap.size + 1, 4, none⟩) (by simp only; omega) (.int .i64 0)) (p := ⟨w.heap.size + 1, 5, none⟩) (by simp only; omega) (.int .i64 0)) (p := ⟨w.heap.size + 1, 6, none⟩) (by simp only; omega) (.slice none 0 0)
  have HQ := Lib.hid (And.intro q0 (And.intro q1 (And.intro q2 (And.intro q3 (And.intro q4 (And.intro q5 q6))))))
  have HB3 := Lib.hid B3
  clear R3 q0 q1 q2 q3 q4 q5 q6 B3 R2
  cases u
  · go_wp2
    obtain ⟨q0, q1, q2, q3, q4, q5, q6⟩ := HQ.out
    exact bodyPost_ret (v := .agg #[.int .i64 0, .int .i64 0, .int .i64 0, .slice none 0 0, .int .i64 0, .int .i64 0, .slice none 0 0]) (by simp [results, Tryz.results41, go_sem, q0, q1, q2, q3, q4, q5, q6]) rfl ⟨rfl, HB3.out⟩
  · obtain rfl : v = false := by simpa using h
    go_wp2_with fail
    refine (HKI.out _).mono ?_
    rintro e w2 ⟨rfl, rfl⟩
    go_wp2
    obtain ⟨q0, q1, q2, q3, q4, q5, q6⟩ := HQ.out
    exact bodyPost_ret (v := .agg #[.int .i64 0, .int .i64 0, .int .i64 0, .slice none 0 0, .int .i64 0, .int .i64 0, .slice none 0 0]) (by simp [results, Tryz.results41, go_sem, q0, q1, q2, q3, q4, q5, q6]) rfl ⟨rfl, HB3.out⟩

set_option maxRecDepth 100000 in
set_option maxHeartbeats 1000000 in
theorem spPart_yes (cs : List Value) (N c r q o z rst m : Int) (a : Option Addr) (n cap : Nat) (E : Sc) (w : World) (h1 : cs[1]? = some (.int .i64 N)) (h12 : cs[12]? = some (.int .i64 c)) (h13 : cs[13]? = some (.int .i64 r)) (h14 : cs[14]? = some (.slice a n cap)) (hL : cs.length = 33)
    (n1 : 1 ≤ N) (n2 : N ≤ 100000) (q1 : 2 ≤ q) (q2 : q ≤ 128) (ho : (N - 1).tdiv q = o) (o1 : 0 ≤ o) (o2 : o < 50000) (hz : o * q = z) (z1 : 0 ≤ z) (z2 : z ≤ 100000) (hr : N - z = rst) (hm : o + 1 = m)
    (KL : ∀ w1, Below w.heap.size w w1 → Calls Tryz.prog 52 #[.agg cs.toArray] w1 fun e w' => e = .returned (.bool true) ∧ Below w1.heap.size w1 w')
    (KI : ∀ w1, Calls Tryz.prog 40 #[.int .i64 N, .int .i64 1, .int .i64 100000] w1 fun e w' => e = .returned (.bool true) ∧ w1 = w')
    (KT : ∀ w1, Calls Tryz.prog 53 #[.agg #[.int .i64 c, .int .i64 r, .slice a n cap]] w1 fun e w' => e = .returned (.int .i64 q) ∧ Below w1.heap.size w1 w')
    (KE : ∀ w1, Below w.heap.size w w1 → w.heap.size + 2 ≤ w1.heap.size → Calls Tryz.prog 54 #[.agg cs.toArray, .int .i64 rst] w1 fun e w' => ∃ a1 c1, e = .returned (.agg #[.int .i64 E.c, .int .i64 E.r, .slice a1 E.l.length c1]) ∧ LiG (fun b => b ≠ w.heap.size + 1) w' a1 E.l ∧ Below w1.heap.size w1 w') :
    Calls Tryz.prog 41 #[.agg cs.toArray] w fun e w' => ∃ a1 c1, e = .returned (.agg #[.int .i64 m, .int .i64 c, .int .i64 r, .slice a n cap, .int .i64 E.c, .int .i64 E.r, .slice a1 E.l.length c1]) ∧ InL w' a1 E.l ∧ Below w.heap.size w w' := by
  have X1 := (Bx.new w 29 cs)
  have U1 := up_alloc (Below.refl w.heap.size w) (.cells cs.toArray 29)
  have V1 := up_alloc (Below.refl _ (w.alloc (.cells cs.toArray 29))) (.cells #[.int .i64 0, .int .i64 0, .int .i64 0, .slice none 0 0, .int .i64 0, .int .i64 0, .slice none 0 0] 69)
  have HX := Lib.hid (X1.later (by rw [hL]; decide) V1)
  have HB := Lib.hid (up_trans U1 V1)
  have R1 := Bx.new (w.alloc (.cells cs.toArray 29)) 69 [.int .i64 0, .int .i64 0, .int .i64 0, .slice none 0 0, .int .i64 0, .int .i64 0, .slice none 0 0]
  rw [World.size_alloc] at R1
  have HR := Lib.hid R1
  have HL := Lib.hid hL; have HKL := Lib.hid KL; have HKI := Lib.hid KI; have HKT := Lib.hid KT; have HKE := Lib.hid KE
  have H12 := Lib.hid h12; have H13 := Lib.hid h13; have H14 := Lib.hid h14; have H1 := Lib.hid h1
  have hq : ¬ q = 0 := by omega
  have hqb : (q == 0) = false := by simp; omega
  clear X1 U1 V1 R1 hL KL KI KT KE h12 h13 h14 h1
  go_enter Tryz.func41, Tryz.ntmps41
  go_wp2_with (refine wpList_load_job rfl _ rfl w.heap.size rfl cs HX.out HL.out ?_; simp only [Act.put, List.setIfInBounds_toArray, List.set_cons_succ, List.set_cons_zero])
  refine (HKL.out _ HB.out).mono ?_
  rintro e w1 ⟨rfl, hb⟩
  have X2 := HX.out.later (by rw [HL.out]; decide) hb
  have b1 := X2.cell 1 H1.out
  have R2 := Lib.hid (HR.out.up hb)
  have B1 := Lib.hid (up_trans HB.out hb)
  clear hb
  go_wp2_with fail
  refine (HKI.out _).mono ?_
  rintro e w2 ⟨rfl, rfl⟩
  have b12 := X2.cell 12 H12.out; have b13 := X2.cell 13 H13.out; have b14 := X2.cell 14 H14.out
  have X2h := Lib.hid X2
  clear X2
  go_wp2_with fail
  have j1 := fun x : Later w1 => x.cell b1
  have j12 := fun x : Later w1 => x.cell b12
  have j13 := fun x : Later w1 => x.cell b13
  have j14 := fun x : Later w1 => x.cell b14
  clear b1 b12 b13 b14
  refine later_start (w := w1) ?_
  intro x
  refine wp_region_later (by kernel_rfl) (by kernel_rfl) ?_
  repeat (go_big_quiet_step ((go_at_call 53; with_reducible exact Later.call (HKT.out _))))
  refine wpQuiet_nil ?_
  rintro _ ⟨x2, rfl⟩
  have X3 := Lib.hid (X2h.out.later (by rw [HL.out]; decide) x2.up)
  have R3 := Lib.hid (R2.out.up x2.up)
  have B3 := Lib.hid (up_trans B1.out x2.up)
  obtain ⟨w3, hw3⟩ : ∃ w3, x2.now = w3 := ⟨_, rfl⟩
  rw [hw3] at X3 R3 B3 ⊢
  clear hw3 j1 j12 j13 j14 x2 x
  have b1 := X3.out.cell 1 H1.out; have b12 := X3.out.cell 12 H12.out; have b13 := X3.out.cell 13 H13.out; have b14 := X3.out.cell 14 H14.out
  have j1 := fun x : Held w.heap.size w3 => x.cell b1
  have j12 := fun x : Held w.heap.size w3 => x.cell b12
  have j13 := fun x : Held w.heap.size w3 => x.cell b13
  have j14 := fun x : Held w.heap.size w3 => x.cell b14
  have HRG := Lib.hid (held_range X3.out)
  have hlow := R3.out.lt
  clear b1 b12 b13 b14
  go_wp2_with fail
  refine wp_region_callsS (fun w' => ∃ u : Held w.heap.size w3, w' = u.now) [([0, 1, 2, 3, 4, 5, 6, 7, 8, 9], 10), ([11, 12], 13), ([14], 15)] [] (by kernel_rfl) (by kernel_rfl) rfl (fun _ _ d _ _ h => by cases d <;> exact h) (held_drew _ _) ?_
  refine walkC_take _ rfl (fun K0 hK0 => ?_)
  simp only [List.map_cons, List.map_nil, List.getD_cons_zero, List.getD_cons_succ]
  repeat (first
    | (go_big_quiet_want; refine quiet_load_job _ rfl w.heap.size rfl cs HL.out HRG.out ?_; simp only [Act.put, List.setIfInBounds_toArray, List.set_cons_succ, List.set_cons_zero]; go_big_quiet_on)
    | go_big_quiet_step (fail))
  refine wpQuiet_nil (hK0.out _ (fun K hK => ?_))
  go_simp
  refine (HKT.out _).mono ?_
  rintro e w4 ⟨rfl, hb⟩
  have C4 := Lib.hid (up_trans (up_drew (Below.refl _ w3)) hb)
  refine hK.out _ _ (held_up C4.out) ?_
  clear hK K hK0 K0 hb
  try simp only [List.setIfInBounds_toArray, List.set_cons_zero, List.set_cons_succ]
  refine walkC_take _ rfl (fun K0 hK0 => ?_)
  simp only [List.map_cons, List.map_nil, List.getD_cons_zero, List.getD_cons_succ]
  repeat (go_big_quiet_step (fail))
  refine wpQuiet_nil (hK0.out _ (fun K hK => ?_))
  go_simp
  refine (HKE.out _ (up_trans B3.out C4.out) (by have := C4.out.size; omega)).mono ?_
  rintro e w5 ⟨a1, c1, rfl, hE, hb⟩
  have C5 := Lib.hid (up_trans C4.out hb)
  have HE := Lib.hid hE
  refine hK.out _ _ (held_up C5.out) ?_
  clear hK K hK0 K0 hb hE
  try simp only [List.setIfInBounds_toArray, List.set_cons_zero, List.set_cons_succ]
  refine walkC_take _ rfl (fun K0 hK0 => ?_)
  simp only [List.map_cons, List.map_nil, List.getD_cons_zero, List.getD_cons_succ]
  repeat (go_big_quiet_step (fail))
  refine wpQuiet_nil (hK0.out _ (fun K hK => ?_))
  refine (if_pos (by kernel_rfl)).mpr ?_
  refine wp_store_mid 69 _ _ rfl (w.heap.size + 1) 0 #[.int .i64 m, .int .i64 c, .int .i64 r, .slice a n cap, .int .i64 E.c, .int .i64 E.r, .slice a1 E.l.length c1] rfl rfl ?there zero_part (by simp; exact ⟨rfl, rfl, rfl, rfl, rfl, rfl, rfl⟩) ?_
  case there => exact (R3.out.up C5.out).present
  have C6 := held_sets (B := w.heap.size) C5.out (B' := w.heap.size + 1) (by omega) 0 [.int .i64 m, .int .i64 c, .int .i64 r, .slice a n cap, .int .i64 E.c, .int .i64 E.r, .slice a1 E.l.length c1]
  refine hK.out _ _ C6 ?_
  clear hK K hK0 K0 C6
  try simp only [List.setIfInBounds_toArray, List.set_cons_zero, List.set_cons_succ]
  refine walkC_last (fun K0 hK0 => ?_)
  simp only [List.map_nil]
  refine wpQuiet_nil (hK0.out _ ?_)
  clear hK0 K0
  have R6 := (R3.out.up C5.out).sets (ws := [.int .i64 m, .int .i64 c, .int .i64 r, .slice a n cap, .int .i64 E.c, .int .i64 E.r, .slice a1 E.l.length c1]) rfl
  have B6 := below_setCells (B := w.heap.size + 1) (show w.heap.size ≤ w.heap.size + 1 by omega) [.int .i64 m, .int .i64 c, .int .i64 r, .slice a n cap, .int .i64 E.c, .int .i64 E.r, .slice a1 E.l.length c1] 0 _ (up_trans B3.out C5.out)
  have E6 := (HE.out.keep (B := w.heap.size + 1) (fun h => h rfl) (keep_sets _ (w.heap.size + 1) 0 [.int .i64 m, .int .i64 c, .int .i64 r, .slice a n cap, .int .i64 E.c, .int .i64 E.r, .slice a1 E.l.length c1])).inL
  have HR6 := Lib.hid R6; have HB6 := Lib.hid B6; have HE6 := Lib.hid E6
  clear R6 B6 E6
  go_wp2
  exact bodyPost_ret (v := .agg #[.int .i64 m, .int .i64 c, .int .i64 r, .slice a n cap, .int .i64 E.c, .int .i64 E.r, .slice a1 E.l.length c1]) (results_wide Tryz.results41 (w.heap.size + 1) rfl _ _ HR6.out.range Tryz.underlying69 rfl zero_part) rfl ⟨a1, c1, rfl, HE6.out, HB6.out⟩

/-- The schemes of all signatures but the last one, and of the last one. -/
def partF (j : Jb) : Sc := if partB j = true then j.f else zeroSc
def partE (j : Jb) : Sc := if partB j = true then lastS j else zeroSc
theorem spPart_any (cs : List Value) (j : Jb) (w : World) (h : JobA w cs j) (hf : WfF j) (hg : GoodM w) :
    Calls Tryz.prog 41 #[.agg cs.toArray] w fun e w' => ∃ a1 c1 a2 c2, e = .returned (.agg #[.int .i64 (cntS j), .int .i64 (partF j).c, .int .i64 (partF j).r, .slice a1 (partF j).l.length c1, .int .i64 (partE j).c, .int .i64 (partE j).r, .slice a2 (partE j).l.length c2])
      ∧ InL w' a1 (partF j).l ∧ InL w' a2 (partE j).l ∧ Below w.heap.size w w' := by
  obtain ⟨a, c, a', c', h12, h13, h14, h15, hI, hT⟩ := h.cells
  have h1 : cs[1]? = some (.int .i64 (j.n 0)) := h.num (k := 0) (by decide)
  have KL := fun w1 (hb : Below w.heap.size w w1) => spLast_any cs j w1 (h.up hb) hf (hg.below hb)
  have KI := fun w1 => in_any (j.n 0) 1 100000 w1
  by_cases hp : partB j = true
  · have hp2 := hp
    unfold partB at hp2
    rw [Bool.and_eq_true] at hp2
    obtain ⟨p1, p2, p3, -⟩ := part_facts hp
    obtain ⟨o1, o2, r1, r2, z2, z1⟩ := others_bounds p3.1 p3.2 p1.1
    simp only [hp2.1] at KL
    simp only [hp2.2] at KI
    have e1 : cntS j = othersM (j.n 0) (panS j.f) + 1 := by unfold cntS; rw [if_pos hp]
    have e2 : partF j = j.f := by unfold partF; rw [if_pos hp]
    have e3 : partE j = lastS j := by unfold partE; rw [if_pos hp]
    rw [e1, e2, e3]
    refine (spPart_yes cs (j.n 0) j.f.c j.f.r (2 * panM j.f.c j.f.r) (othersM (j.n 0) (panS j.f)) _ (restM2 (j.n 0) (panS j.f)) _ a _ c (lastS j) w h1 h12 h13 h14 h.length p3.1 p3.2 (by unfold panS at p1; omega) (by unfold panS at p1; omega) rfl o1 o2 rfl z1 z2 rfl rfl KL KI (fun w1 => spTakes_any _ _ _ _ _ w1) (fun w1 hb hs => ?_)).mono ?_
    · refine spEnd_any cs j _ w1 (h.up hb) (hg.below hb) (fun b => b ≠ w.heap.size + 1) (fun b hb2 => by omega) (fun a0 c0 h0 => ?_)
      rw [h14] at h0
      injection h0 with h0
      injection h0 with h0 h0' h0''
      subst h0
      exact (hI.liG.up hb).mono fun b hb2 => by omega
    · rintro e w' ⟨a1, c1, rfl, hE, hb⟩
      exact ⟨a, c, a1, c1, rfl, hI.up hb, hE, hb⟩
  · have hp2 : (lastM j && (decide (1 ≤ j.n 0) && decide (j.n 0 ≤ 100000))) = false := by
      rw [← Bool.not_eq_true]
      exact hp
    have e1 : cntS j = 0 := by unfold cntS; rw [if_neg hp]
    have e2 : partF j = zeroSc := by unfold partF; rw [if_neg hp]
    have e3 : partE j = zeroSc := by unfold partE; rw [if_neg hp]
    rw [e1, e2, e3]
    exact (spPart_no cs (j.n 0) _ _ w h1 h.length hp2 KL KI).mono fun e w' ⟨he, hb⟩ => ⟨none, 0, none, 0, he, .inl rfl, .inl rfl, hb⟩
end Go.Proofs.YtbfigaadbfggcaaGreatDoor
/- append to a nil slice: of a slice without elements; of steps that lie somewhere. -/
namespace Go.Proofs.YtbfigaadbfggcaaGreatDoor
open Go.RowKit
set_option linter.unusedVariables false

theorem run_append_zero {P : Program} {w : World} (t ty e : TypeId) (i : TypeInfo) (ht : P.underlying t = some (.slice e)) (hi : P.info? e = some i) (ad : Option Addr) (c : Nat) :
    (Builtin.append_ #[t, t] ty #[.slice none 0 0, .slice ad 0 c]).run P w = .ok (.slice none 0 0) w := by
  cases ad <;> simp [Builtin.append_, run_underlying ht, sizeOf, typeInfo, hi, Builtin.lenOf, Builtin.firstCells, loadCells, loadCellsFrom]
theorem wpList_append_zero {P : Program} {w : World} {ops : Array Oper} {rest : List Oper} {o : Oper} {a : Act} {Q : Exit → Act → World → Prop} (hgd : o.guard = none) (s x : Operand) (t : TypeId)
    (ho : o.op = .call { callee := .builtin .append, args := #[s, x], argTypes := #[t, t] }) (e : TypeId) (i : TypeInfo) (ht : P.underlying t = some (.slice e)) (hi : P.info? e = some i)
    (hs : a.eval s = .slice none 0 0) (ad : Option Addr) (c : Nat) (hx : a.eval x = .slice ad 0 c)
    (h : wpList P ops Q rest (a.put o.dst (.slice none 0 0)) w) : wpList P ops Q (o :: rest) a w := by
  refine wpList_plain hgd fun K hK => ?_
  have hrun := run_append_zero (P := P) (w := w) t o.type e i ht hi ad c
  unfold Oper.wp
  simp [execOp, ho, resolve, invoke, builtin, hs, hx, hrun, Result.andThen]
  exact hK _ _ h
/-- Steps that lie somewhere, appended to a nil slice: a new list. -/
theorem wpList_append_steps {u : World} {ops : Array Oper} {rest : List Oper} {o : Oper} {a : Act} {Q : Exit → Act → World → Prop} (hgd : o.guard = none) (s x : Operand)
    (ho : o.op = .call { callee := .builtin .append, args := #[s, x], argTypes := #[24, 24] })
    (hs : a.eval s = .slice none 0 0) (l : List Sp) (n c : Nat) (hn : l.length = n) (ad : Option Addr) (hx : a.eval x = .slice ad n c) (hl : n ≤ 1000000) (hI : InL u ad l)
    (h : ∀ a2 c2 w', InF u.heap.size w' a2 l → Below u.heap.size u w' → wpList Tryz.prog ops Q rest (a.put o.dst (.slice a2 n c2)) w') : wpList Tryz.prog ops Q (o :: rest) a u := by
  obtain ⟨i0, hi0, hz0, hz1, hz2⟩ := info_parts Tryz.infoStep
  subst hn
  by_cases h0 : l.length = 0
  · rw [h0] at hx
    refine wpList_append_zero hgd s x 24 ho 50 i0 Tryz.underlying24 hi0 hs ad c hx ?_
    have := h none 0 u (.inl (List.eq_nil_of_length_eq_zero h0)) (Below.refl _ _)
    rw [h0] at this
    exact this
  · rcases hI with rfl | ⟨b, off, rfl, hI⟩
    · exact absurd rfl h0
    refine wpList_append_lies _ hgd s x 24 ho u.heap.size 50 i0 _ 3 24 Tryz.underlying24 hi0 hz0 hz1 hz2 rfl (by omega) _ 0 [] hs (World.ownsRow_nil _ _ _ _) ⟨b, off, none⟩ l.length c (flatS l) hx (flatS_length l) ?_ (flatS_one l) (by omega) (by unfold maxLen; omega) (by omega) (Nat.le_refl _) _ rfl ?_
    · intro j v hj
      rw [Addr.add_mid]
      exact flatS_read l b off u hI j v hj
    · intro g cap w1 hown hgrow hat hlt
      simp only [Nat.zero_add, List.nil_append] at hown ⊢
      have hr : rowP w1 u.heap.size (.slice (some ⟨g, 0, none⟩) l.length cap) l := hown
      exact h _ cap w1 hr.inF (Below.grown (Below.refl _ _) hgrow (Nat.le_refl _) (fun k hk => by simp [Value.ownBlock] at hk))
end Go.Proofs.YtbfigaadbfggcaaGreatDoor
