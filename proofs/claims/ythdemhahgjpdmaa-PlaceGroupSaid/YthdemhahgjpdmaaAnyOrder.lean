/- A region that draws its order, whose head reads, calls and makes boxes for new variables, and whose tail, in one forced order, writes: whatever the order, the slots hold at the head's end what one walk in the order of the text gives, and each new box is a block of its own. -/
import Derived.Test.YthdemhahgjpdmaaBoxes
import Derived.StillTail
import Derived.Lib.Hide
namespace Go.Proofs.Ythdemhahgjpdmaa
open Go.RowKit
set_option linter.unusedVariables false

def isAlloc (o : Oper) : Bool := match o.op with | .alloc _ => true | _ => false
def dstAt (l : List Oper) (i : Nat) : Option Tmp := (l[i]?).bind (·.dst)
/-- What is asked of the head, to be looked through: each operation has a slot of its own, waits only for earlier ones, and waits for whatever it looks at; none looks at a new box. -/
def headOk (l : List Oper) (n N : Nat) : Bool :=
  (List.range n).all fun i => match l[i]? with
    | none => false
    | some o => (match o.dst with
        | none => false
        | some d => decide (d < N) && (List.range n).all fun j => j == i || dstAt l j != some d) &&
      (!(isAlloc o) || o.guard.isNone) && (o.after.all fun e => !Region.binds .any e || decide (e.on < i)) &&
      ((List.range n).all fun j => match l[j]? with
        | none => false
        | some oj => match oj.dst with
          | none => false
          | some d => !(o.looksAt l.toArray).contains d || (decide (j < i) && !(isAlloc oj) && o.after.any fun e => Region.binds .any e && e.on == j))
theorem headOk_spec {l : List Oper} {n N : Nat} (h : headOk l n N = true) (i : Nat) (hi : i < n) :
    ∃ o d, l[i]? = some o ∧ o.dst = some d ∧ d < N ∧ (∀ j, j < n → j ≠ i → dstAt l j ≠ some d) ∧ (isAlloc o = true → o.guard = none) ∧ (∀ e ∈ o.after, Region.binds .any e = true → e.on < i) ∧
      ∀ j, j < n → ∀ oj d', l[j]? = some oj → oj.dst = some d' → d' ∈ o.looksAt l.toArray → j < i ∧ isAlloc oj = false ∧ ∃ e ∈ o.after, Region.binds .any e = true ∧ e.on = j := by
  have h0 := List.all_eq_true.1 h i (List.mem_range.2 hi)
  cases ho : l[i]? with
  | none => rw [ho] at h0; cases h0
  | some o =>
    rw [ho] at h0
    simp only [Bool.and_eq_true] at h0
    obtain ⟨⟨⟨h1, h2⟩, h3⟩, h4⟩ := h0
    cases hd : o.dst with
    | none => rw [hd] at h1; cases h1
    | some d =>
      rw [hd] at h1
      simp only [Bool.and_eq_true, decide_eq_true_eq] at h1
      refine ⟨o, d, rfl, hd, h1.1, fun j hj hji => ?_, fun ha => ?_, fun e he hb => ?_, fun j hj oj d' hoj hd' hm => ?_⟩
      · have := List.all_eq_true.1 h1.2 j (List.mem_range.2 hj)
        simpa [hji] using this
      · simp only [ha, Bool.not_true, Bool.false_or, Option.isNone_iff_eq_none] at h2
        exact h2
      · have := Array.all_eq_true_iff_forall_mem.1 h3 e he
        simpa [hb] using this
      · have := List.all_eq_true.1 h4 j (List.mem_range.2 hj)
        rw [hoj] at this
        simp only [hd'] at this
        have hc : (o.looksAt l.toArray).contains d' = true := by simpa using hm
        rw [hc] at this
        simp only [Bool.not_true, Bool.false_or, Bool.and_eq_true, decide_eq_true_eq, Bool.not_eq_true'] at this
        obtain ⟨⟨k1, k2⟩, k3⟩ := this
        obtain ⟨e, he, hb⟩ := Array.any_eq_true'.1 k3
        simp only [Bool.and_eq_true, beq_iff_eq] at hb
        exact ⟨k1, k2, e, he, hb.1, hb.2⟩

theorem exec_same {ops : Array Oper} {a a' : Act} (o : Oper) (hs : ∀ cs b, o.op ≠ .select cs b) (h : ∀ t ∈ o.looksAt ops, a.tmps[t]? = a'.tmps[t]?) : execOp a.eval o = execOp a'.eval o :=
  execOp_congr o hs fun x hx => by
    cases x with
    | tmp t =>
      have := h t (List.mem_append_left _ (List.mem_filterMap.2 ⟨.tmp t, by simpa using hx, rfl⟩))
      simp [Act.eval, this]
    | _ => rfl
theorem wanted_same {ops : Array Oper} {a a' : Act} (o : Oper) (h : ∀ t ∈ o.looksAt ops, a.tmps[t]? = a'.tmps[t]?) : Region.wanted o (yielded ops a.tmps) = Region.wanted o (yielded ops a'.tmps) := by
  unfold Region.wanted
  cases hg : o.guard with
  | none => rfl
  | some gw =>
    obtain ⟨g, want⟩ := gw
    have hy : yielded ops a.tmps g = yielded ops a'.tmps g := by
      unfold yielded
      cases ht : (ops[g]?).bind (·.dst) with
      | none => rfl
      | some t =>
        have := h t (by simp [Oper.looksAt, hg, ht])
        simp [this]
    simp only [hy]

section
variable {P : Program} {ops : Array Oper} {C : World → Prop} {aF : Act}
/-- Behind the walk a slot that no operation fills is as it was. -/
theorem walk_keeps : ∀ (L : List Oper) (a : Act), wpQuiet P ops C (fun a' => a' = aF) L a → aF.tmps.size = a.tmps.size ∧ aF.defers = a.defers ∧ ∀ t, (∀ o ∈ L, o.dst ≠ some t) → aF.tmps[t]? = a.tmps[t]? := by
  intro L
  induction L with
  | nil => intro a h; obtain rfl : a = aF := h; exact ⟨rfl, rfl, fun _ _ => rfl⟩
  | cons o L ih =>
    intro a h
    have hv : ∃ v, wpQuiet P ops C (fun a' => a' = aF) L (a.put o.dst v) := by
      unfold wpQuiet at h
      split at h
      · obtain ⟨v, _, h⟩ := h; exact ⟨v, h⟩
      · exact ⟨_, h⟩
    obtain ⟨v, hv⟩ := hv
    obtain ⟨h1, h2, h3⟩ := ih _ hv
    refine ⟨h1.trans (by cases o.dst <;> simp [Act.put]), h2.trans (by cases o.dst <;> simp [Act.put]), fun t ht => (h3 t fun o' ho' => ht o' (List.mem_cons_of_mem _ ho')).trans ?_⟩
    have hne := ht o List.mem_cons_self
    cases hd : o.dst with
    | none => rfl
    | some d =>
      have : d ≠ t := fun e => hne (by rw [hd, e])
      simp [Act.put, Array.getElem?_setIfInBounds_ne this]

/-- What the walk shows of its k-th operation: with what is filled ahead of it as at the end, and all else as at the start, it yields what its slot holds at the end. -/
theorem walk_at : ∀ (L : List Oper) (a : Act), wpQuiet P ops C (fun a' => a' = aF) (L.filter fun o => !isAlloc o) a →
    (∀ (i j : Nat) (oi oj : Oper) (t : Tmp), L[i]? = some oi → L[j]? = some oj → oi.dst = some t → oj.dst = some t → i = j) →
    ∀ (k : Nat) (o : Oper) (d : Tmp), L[k]? = some o → isAlloc o = false → o.dst = some d → d < a.tmps.size →
    ∃ act : Act, (∀ (j : Nat) (oj : Oper) (t : Tmp), j < k → L[j]? = some oj → isAlloc oj = false → oj.dst = some t → act.tmps[t]? = aF.tmps[t]?) ∧
      (∀ (t : Tmp), (∀ (j : Nat) (oj : Oper), j < k → L[j]? = some oj → isAlloc oj = false → oj.dst ≠ some t) → act.tmps[t]? = a.tmps[t]?) ∧
      ∃ v, aF.tmps[d]? = some v ∧ ((Region.wanted o (yielded ops act.tmps) = true ∧ ∀ w, C w → o.quietAt P act C w v) ∨ (Region.wanted o (yielded ops act.tmps) = false ∧ v = undef)) := by
  intro L
  induction L with
  | nil => intro a _ _ k o d hk; simp at hk
  | cons o0 L ih =>
    intro a h hdis k o d hk ha hd hlt
    have hdis' : ∀ (i j : Nat) (oi oj : Oper) (t : Tmp), L[i]? = some oi → L[j]? = some oj → oi.dst = some t → oj.dst = some t → i = j := fun i j oi oj t h1 h2 h3 h4 => by
      have := hdis (i + 1) (j + 1) oi oj t (by simpa using h1) (by simpa using h2) h3 h4
      omega
    cases h0 : isAlloc o0 with
    | true =>
      rw [List.filter_cons_of_neg (by simp [h0])] at h
      cases k with
      | zero =>
        simp at hk
        subst hk
        rw [h0] at ha
        cases ha
      | succ k =>
        obtain ⟨act, q1, q2, q3⟩ := ih a h hdis' k o d (by simpa using hk) ha hd hlt
        refine ⟨act, fun j oj t hj hoj hja hjd => ?_, fun t ht => q2 t fun j oj hj hoj hja => ht (j + 1) oj (by omega) (by simpa using hoj) hja, q3⟩
        cases j with
        | zero => simp at hoj; subst hoj; rw [h0] at hja; cases hja
        | succ j => exact q1 j oj t (by omega) (by simpa using hoj) hja hjd
    | false =>
      rw [List.filter_cons_of_pos (by simp [h0])] at h
      have hv : ∃ v, ((Region.wanted o0 (yielded ops a.tmps) = true ∧ ∀ w, C w → o0.quietAt P a C w v) ∨ (Region.wanted o0 (yielded ops a.tmps) = false ∧ v = undef)) ∧ wpQuiet P ops C (fun a' => a' = aF) (L.filter fun o => !isAlloc o) (a.put o0.dst v) := by
        unfold wpQuiet at h
        split at h
        · rename_i hw; obtain ⟨v, h1, h2⟩ := h; exact ⟨v, .inl ⟨hw, h1⟩, h2⟩
        · rename_i hw; exact ⟨_, .inr ⟨by simpa using hw, rfl⟩, h⟩
      obtain ⟨v, hy, hrest⟩ := hv
      obtain ⟨z1, _, z3⟩ := walk_keeps _ _ hrest
      have later : ∀ t, o0.dst = some t → ∀ o' ∈ L.filter (fun o => !isAlloc o), o'.dst ≠ some t := fun t ht o' ho' hd' => by
        obtain ⟨j, hj⟩ := List.getElem?_of_mem (List.mem_filter.1 ho').1
        have := hdis 0 (j + 1) o0 o' t (by simp) (by simpa using hj) ht hd'
        omega
      have fill : ∀ t, o0.dst = some t → t < a.tmps.size → aF.tmps[t]? = some v := fun t ht hs => by
        rw [z3 t (later t ht)]
        simp [Act.put, ht, hs]
      cases k with
      | zero =>
        simp at hk
        subst hk
        exact ⟨a, fun j _ _ hj => absurd hj (by omega), fun _ _ => rfl, v, fill d hd hlt, hy⟩
      | succ k =>
        have hsz : (a.put o0.dst v).tmps.size = a.tmps.size := by cases o0.dst <;> simp [Act.put]
        obtain ⟨act, q1, q2, q3⟩ := ih _ hrest hdis' k o d (by simpa using hk) ha hd (by rw [hsz]; exact hlt)
        refine ⟨act, fun j oj t hj hoj hja hjd => ?_, fun t ht => ?_, q3⟩
        · cases j with
          | zero =>
            simp at hoj
            subst hoj
            rw [q2 t fun j oj hj hoj hja hd' => ?_, z3 t (later t hjd)]
            have := hdis 0 (j + 1) o0 oj t (by simp) (by simpa using hoj) hjd hd'
            omega
          | succ j => exact q1 j oj t (by omega) (by simpa using hoj) hja hjd
        · rw [q2 t fun j oj hj hoj hja => ht (j + 1) oj (by omega) (by simpa using hoj) hja]
          have hne := ht 0 o0 (by omega) (by simp) h0
          cases hd0 : o0.dst with
          | none => rfl
          | some d0 =>
            have : d0 ≠ t := fun e => hne (by rw [hd0, e])
            simp [Act.put, Array.getElem?_setIfInBounds_ne this]
end

theorem Bx.upTo {w w' : World} {B : Nat} {vs : List Value} (h : Bx w B vs) (hlt : B < w.heap.size) (hb : Below w.heap.size w w') : Bx w' B vs :=
  ⟨fun j v hj => bl_cell hb (h.1 j v hj), fun j => (kept_marks hb B j hlt).trans (h.2 j)⟩

/-- The slots of the new boxes, filled. -/
def puts (gf : Nat → Nat) : List (Nat × Tmp) → Act → Act
  | [], a => a
  | x :: r, a => puts gf r (a.put (some x.2) (.pointer (some ⟨gf x.1, 0, none⟩)))
theorem puts_same (gf : Nat → Nat) : ∀ (al : List (Nat × Tmp)) (a : Act), (puts gf al a).tmps.size = a.tmps.size ∧ (puts gf al a).defers = a.defers ∧ ∀ t, (∀ x ∈ al, x.2 ≠ t) → (puts gf al a).tmps[t]? = a.tmps[t]? := by
  intro al
  induction al with
  | nil => intro a; exact ⟨rfl, rfl, fun _ _ => rfl⟩
  | cons x r ih =>
    intro a
    obtain ⟨h1, h2, h3⟩ := ih (a.put (some x.2) (.pointer (some ⟨gf x.1, 0, none⟩)))
    refine ⟨h1.trans (by simp [Act.put]), h2.trans rfl, fun t ht => (h3 t fun y hy => ht y (List.mem_cons_of_mem _ hy)).trans ?_⟩
    simp [Act.put, Array.getElem?_setIfInBounds_ne (ht x List.mem_cons_self)]
theorem puts_at (gf : Nat → Nat) : ∀ (al : List (Nat × Tmp)) (a : Act), (al.map (·.2)).Nodup → ∀ x ∈ al, x.2 < a.tmps.size → (puts gf al a).tmps[x.2]? = some (.pointer (some ⟨gf x.1, 0, none⟩)) := by
  intro al
  induction al with
  | nil => intro a _ x hx; cases hx
  | cons y r ih =>
    intro a hnd x hx hlt
    simp only [List.map_cons, List.nodup_cons] at hnd
    rcases List.mem_cons.1 hx with rfl | hx
    · show (puts gf r _).tmps[x.2]? = _
      rw [(puts_same gf r _).2.2 x.2 fun z hz e => hnd.1 (e ▸ List.mem_map_of_mem hz)]
      simp [Act.put, hlt]
    · exact ih _ hnd.2 x hx (by simpa [Act.put] using hlt)

/-- The list of new boxes, by operation and slot, is right. -/
def boxesOk (l : List Oper) (n : Nat) (al : List (Nat × Tmp)) (ts : List TypeId) : Bool :=
  (al.all fun x => decide (x.1 < n) && (match l[x.1]? with | some o => isAlloc o && o.dst == some x.2 | none => false)) &&
  ((List.range n).all fun i => match l[i]? with | some o => (match o.op with | .alloc t => ts.contains t && al.any (fun x => x.1 == i) | _ => true) | none => false) &&
  decide ((al.map (·.2)).Nodup)
def anyOk (l : List Oper) (n N : Nat) (al : List (Nat × Tmp)) (ts : List TypeId) : Bool :=
  Region.noSelect l.toArray && decide (n < l.length) && Region.sinkB .any l.toArray n && Region.chainB .any l.toArray n &&
  Region.seqB .any l.toArray (l.length - n) n (List.replicate n true ++ List.replicate (l.length - n) false).toArray && headOk l n N && boxesOk l n al ts

/-- As long as the head comes up, in whatever order. -/
structure Under (l : List Oper) (n : Nat) (Z : TypeId → List Value) (a0 aF : Act) (w1 : World) (s : Array Bool) (a : Act) (w : World) : Prop where
  head : HeadInv .any l.toArray n s
  size : a.tmps.size = a0.tmps.size
  defers : a.defers = a0.defers
  fill : ∀ (i : Nat) (o : Oper) (t : Tmp), i < n → s.getD i false = true → l[i]? = some o → isAlloc o = false → o.dst = some t → a.tmps[t]? = aF.tmps[t]?
  rest : ∀ t : Tmp, (∀ (i : Nat) (o : Oper), i < n → s.getD i false = true → l[i]? = some o → o.dst ≠ some t) → a.tmps[t]? = a0.tmps[t]?
  up : Below w1.heap.size w1 w
  boxes : ∃ gf : Nat → Nat, ∀ (i : Nat) (o : Oper) (d : Tmp) (t : TypeId), i < n → s.getD i false = true → l[i]? = some o → o.op = .alloc t → o.dst = some d →
    a.tmps[d]? = some (.pointer (some ⟨gf i, 0, none⟩)) ∧ w1.heap.size ≤ gf i ∧ gf i < w.heap.size ∧ Bx w (gf i) (Z t) ∧ ∀ (j : Nat) (oj : Oper) (tj : TypeId), j < n → s.getD j false = true → l[j]? = some oj → oj.op = .alloc tj → j ≠ i → gf j ≠ gf i

theorem set_listed {s : Array Bool} {i j : Nat} (h : (s.setIfInBounds i true).getD j false = true) (hne : j ≠ i) : s.getD j false = true := by rwa [getD_set_ne false (Ne.symm hne)] at h

/-- An operation of the head that is no new box yields what its slot holds at the end. -/
theorem Under.quiet {l : List Oper} {n N : Nat} {Z : TypeId → List Value} {a0 aF a : Act} {w1 w w' : World} {s : Array Bool} (I : Under l n Z a0 aF w1 s a w) (hok : headOk l n N = true) {i : Nat} {o : Oper} {d : Tmp} {v : Value} (hi : i < n)
    (ho : l[i]? = some o) (ha : isAlloc o = false) (hd : o.dst = some d) (hr : i ∈ Region.ready .any l.toArray s) (hlt : d < a0.tmps.size) (hv : aF.tmps[d]? = some v) (hb : Below w.heap.size w w') :
    Under l n Z a0 aF w1 (s.setIfInBounds i true) (a.put o.dst v) w' := by
  obtain ⟨o', d', ho', hd', _, hdis, _, _, _⟩ := headOk_spec hok i hi
  obtain rfl : o' = o := Option.some.inj (ho'.symm.trans ho)
  obtain rfl : d' = d := Option.some.inj (hd'.symm.trans hd)
  have other : ∀ (j : Nat) (oj : Oper), j < n → l[j]? = some oj → j ≠ i → ∀ t, oj.dst = some t → d' ≠ t := fun j oj hj hoj hji t ht e => hdis j hj hji (by subst e; simp [dstAt, hoj, ht])
  have putNe : ∀ t, d' ≠ t → (a.put o'.dst v).tmps[t]? = a.tmps[t]? := fun t ht => by rw [hd]; simp [Act.put, Array.getElem?_setIfInBounds_ne ht]
  have putAt : (a.put o'.dst v).tmps[d']? = some v := by rw [hd]; simp [Act.put, I.size, hlt]
  refine ⟨I.head.set hr hi, by rw [hd]; simp [Act.put, I.size], by rw [hd]; simp [Act.put, I.defers], fun j oj t hj hl hoj hja hjd => ?_, fun t ht => ?_, up_trans I.up hb, ?_⟩
  · by_cases e : j = i
    · subst e
      obtain rfl : oj = o' := Option.some.inj (hoj.symm.trans ho)
      obtain rfl : t = d' := Option.some.inj (hjd.symm.trans hd)
      rw [putAt, hv]
    · rw [putNe t (other j oj hj hoj e t hjd)]
      exact I.fill j oj t hj (set_listed hl e) hoj hja hjd
  · have hsi : (s.setIfInBounds i true).getD i false = true := by
      have : i < s.size := by rw [I.head.size]; exact (List.getElem?_eq_some_iff.1 ho).1
      simp [this]
    rw [putNe t fun e => ht i o' hi hsi ho (by rw [hd, e])]
    exact I.rest t fun j oj hj hl hoj => ht j oj hj (getD_set_true hl) hoj
  · obtain ⟨gf, hg⟩ := I.boxes
    refine ⟨gf, fun j oj dj t hj hl hoj hop hjd => ?_⟩
    have hja : isAlloc oj = true := by simp [isAlloc, hop]
    have e : j ≠ i := fun e => by
      subst e
      obtain rfl : oj = o' := Option.some.inj (hoj.symm.trans ho)
      rw [hja] at ha; cases ha
    obtain ⟨g1, g2, g3, g4, g5⟩ := hg j oj dj t hj (set_listed hl e) hoj hop hjd
    refine ⟨by rw [putNe dj (other j oj hj hoj e dj hjd)]; exact g1, g2, Nat.lt_of_lt_of_le g3 hb.size, g4.upTo g3 hb, fun k ok tk hk hkl hok' hkop hkj => ?_⟩
    have e' : k ≠ i := fun e => by
      subst e
      obtain rfl : ok = o' := Option.some.inj (hok'.symm.trans ho)
      have : isAlloc ok = true := by simp [isAlloc, hkop]
      rw [this] at ha; cases ha
    exact g5 k ok tk hk (set_listed hkl e') hok' hkop hkj

/-- A new box. -/
theorem Under.box {l : List Oper} {n N : Nat} {Z : TypeId → List Value} {a0 aF a : Act} {w1 w : World} {s : Array Bool} (I : Under l n Z a0 aF w1 s a w) (hok : headOk l n N = true) {i : Nat} {o : Oper} {d : Tmp} {t : TypeId} (hi : i < n)
    (ho : l[i]? = some o) (ha : o.op = .alloc t) (hd : o.dst = some d) (hr : i ∈ Region.ready .any l.toArray s) (hlt : d < a0.tmps.size) :
    Under l n Z a0 aF w1 (s.setIfInBounds i true) (a.put o.dst (.pointer (some ⟨w.heap.size, 0, none⟩))) (w.alloc (.cells (Z t).toArray t)) := by
  obtain ⟨o', d', ho', hd', _, hdis, _, _, _⟩ := headOk_spec hok i hi
  obtain rfl : o' = o := Option.some.inj (ho'.symm.trans ho)
  obtain rfl : d' = d := Option.some.inj (hd'.symm.trans hd)
  have hal : isAlloc o' = true := by simp [isAlloc, ha]
  have hb : Below w.heap.size w (w.alloc (.cells (Z t).toArray t)) := up_alloc (Below.refl _ _) _
  have other : ∀ (j : Nat) (oj : Oper), j < n → l[j]? = some oj → j ≠ i → ∀ t, oj.dst = some t → d' ≠ t := fun j oj hj hoj hji t ht e => hdis j hj hji (by subst e; simp [dstAt, hoj, ht])
  have putNe : ∀ v t, d' ≠ t → (a.put o'.dst v).tmps[t]? = a.tmps[t]? := fun v t ht => by rw [hd]; simp [Act.put, Array.getElem?_setIfInBounds_ne ht]
  have putAt : ∀ v, (a.put o'.dst v).tmps[d']? = some v := fun v => by rw [hd]; simp [Act.put, I.size, hlt]
  refine ⟨I.head.set hr hi, by rw [hd]; simp [Act.put, I.size], by rw [hd]; simp [Act.put, I.defers], fun j oj t hj hl hoj hja hjd => ?_, fun t ht => ?_, up_trans I.up hb, ?_⟩
  · have e : j ≠ i := fun e => by
      subst e
      obtain rfl : oj = o' := Option.some.inj (hoj.symm.trans ho)
      rw [hal] at hja; cases hja
    rw [putNe _ t (other j oj hj hoj e t hjd)]
    exact I.fill j oj t hj (set_listed hl e) hoj hja hjd
  · have hsi : (s.setIfInBounds i true).getD i false = true := by
      have : i < s.size := by rw [I.head.size]; exact (List.getElem?_eq_some_iff.1 ho).1
      simp [this]
    rw [putNe _ t fun e => ht i o' hi hsi ho (by rw [hd, e])]
    exact I.rest t fun j oj hj hl hoj => ht j oj hj (getD_set_true hl) hoj
  · obtain ⟨gf, hg⟩ := I.boxes
    refine ⟨fun k => if k = i then w.heap.size else gf k, fun j oj dj tj hj hl hoj hop hjd => ?_⟩
    by_cases e : j = i
    · subst e
      obtain rfl : oj = o' := Option.some.inj (hoj.symm.trans ho)
      obtain rfl : dj = d' := Option.some.inj (hjd.symm.trans hd)
      obtain rfl : tj = t := by rw [ha] at hop; injection hop with hop; exact hop.symm
      simp only [if_true]
      refine ⟨putAt _, I.up.size, by simp, Bx.new w tj (Z tj), fun k ok tk hk hkl hok' hkop hkj => ?_⟩
      rw [if_neg hkj]
      cases hkd : ok.dst with
      | none =>
        obtain ⟨o2, d2, h2, h3, _⟩ := headOk_spec hok k hk
        obtain rfl : o2 = ok := Option.some.inj (h2.symm.trans hok')
        rw [hkd] at h3; cases h3
      | some dk =>
        have := (hg k ok dk tk hk (set_listed hkl hkj) hok' hkop hkd).2.2.1
        omega
    · obtain ⟨g1, g2, g3, g4, g5⟩ := hg j oj dj tj hj (set_listed hl e) hoj hop hjd
      simp only [if_neg e]
      refine ⟨by rw [putNe _ dj (other j oj hj hoj e dj hjd)]; exact g1, g2, Nat.lt_of_lt_of_le g3 hb.size, g4.upTo g3 hb, fun k ok tk hk hkl hok' hkop hkj => ?_⟩
      by_cases e' : k = i
      · subst e'; simp only [if_true]; omega
      · rw [if_neg e']; exact g5 k ok tk hk (set_listed hkl e') hok' hkop hkj

theorem count_less {p q : Nat → Bool} {i : Nat} (hp : p i = true) (hq : q i = false) (hpq : ∀ j, j ≠ i → q j = p j) : ∀ L : List Nat, L.Nodup → i ∈ L → L.countP p = L.countP q + 1 := by
  intro L
  induction L with
  | nil => intro _ h; cases h
  | cons x L ih =>
    intro hn hi
    rw [List.nodup_cons] at hn
    by_cases e : x = i
    · subst e
      rw [List.countP_cons_of_pos hp, List.countP_cons_of_neg (by simp [hq])]
      congr 1
      exact List.countP_congr fun y hy => by rw [hpq y fun e => hn.1 (e ▸ hy)]
    · have hm : i ∈ L := (List.mem_cons.1 hi).resolve_left fun h => e h.symm
      have := ih hn.2 hm
      rw [List.countP_cons, List.countP_cons, hpq x e, this]
      omega
theorem least_unlisted (s : Array Bool) : ∀ m : Nat, (∀ j, j < m → s.getD j false = true) ∨ ∃ i, i < m ∧ s.getD i false = false ∧ ∀ j, j < i → s.getD j false = true := by
  intro m
  induction m with
  | zero => exact .inl fun j hj => absurd hj (by omega)
  | succ m ih =>
    rcases ih with h | ⟨i, h1, h2, h3⟩
    · cases e : s.getD m false with
      | true => exact .inl fun j hj => (Nat.lt_or_eq_of_le (Nat.le_of_lt_succ hj)).elim (h j) fun e' => e' ▸ e
      | false => exact .inr ⟨m, by omega, e, h⟩
    · exact .inr ⟨i, by omega, h2, h3⟩

theorem under_wp {P : Program} {l : List Oper} {n N : Nat} {al : List (Nat × Tmp)} {ts : List TypeId} {Z : TypeId → List Value} {a0 aF : Act} {w1 : World} {Q : Exit → Act → World → Prop} (hB : anyOk l n N al ts = true) (hN : a0.tmps.size = N)
    (hwalk : ∀ v0 : World, Below w1.heap.size w1 v0 → wpQuiet P l.toArray (fun w' => ∃ u : Later v0, w' = u.now) (fun a' => a' = aF) ((l.take n).filter fun o => !isAlloc o) a0)
    (hz : ∀ t ∈ ts, ∀ (o : Oper) (ρ : Operand → Value) (w : World), o.op = .alloc t → (execOp ρ o).run P w = .ok (.value (.pointer (some ⟨w.heap.size, 0, none⟩))) (w.alloc (.cells (Z t).toArray t)))
    (htail : ∀ (gf : Nat → Nat) (w' : World), Below w1.heap.size w1 w' → (∀ x ∈ al, ∀ (o : Oper) (t : TypeId), l[x.1]? = some o → o.op = .alloc t → w1.heap.size ≤ gf x.1 ∧ Bx w' (gf x.1) (Z t)) →
      (∀ x ∈ al, ∀ y ∈ al, x.1 ≠ y.1 → gf x.1 ≠ gf y.1) → wpList P l.toArray Q (l.drop n) (puts gf al aF) w') :
    ∀ (f : Nat) (s : Array Bool) (a : Act) (w : World), Under l n Z a0 aF w1 s a w → (List.range n).countP (fun i => !s.getD i false) = f → wpAny P .any l.toArray Q (f + (l.length - n)) s a w := by
  simp only [anyOk, boxesOk, Bool.and_eq_true, decide_eq_true_eq] at hB
  obtain ⟨⟨⟨⟨⟨⟨hsel, hn⟩, hs⟩, hc⟩, hseq⟩, hok⟩, ⟨hal1, hal2⟩, hnd⟩ := hB
  have hbox : ∀ x ∈ al, x.1 < n ∧ ∃ o t, l[x.1]? = some o ∧ o.op = .alloc t ∧ o.dst = some x.2 := fun x hx => by
    have := List.all_eq_true.1 hal1 x hx
    simp only [Bool.and_eq_true, decide_eq_true_eq] at this
    refine ⟨this.1, ?_⟩
    have h2 := this.2
    cases ho : l[x.1]? with
    | none => rw [ho] at h2; cases h2
    | some o =>
      rw [ho] at h2
      simp only [Bool.and_eq_true, beq_iff_eq] at h2
      have h3 := h2.1
      unfold isAlloc at h3
      split at h3
      · rename_i t ht; exact ⟨o, t, rfl, ht, h2.2⟩
      · cases h3
  have hcov : ∀ (i : Nat) (o : Oper) (t : TypeId), i < n → l[i]? = some o → o.op = .alloc t → t ∈ ts ∧ ∃ x ∈ al, x.1 = i := fun i o t hi ho ht => by
    have := List.all_eq_true.1 hal2 i (List.mem_range.2 hi)
    rw [ho] at this
    simp only [ht, Bool.and_eq_true] at this
    obtain ⟨h1, h2⟩ := this
    obtain ⟨x, hx, hxi⟩ := List.any_eq_true.1 h2
    exact ⟨by simpa using h1, x, hx, by simpa using hxi⟩
  obtain ⟨zF1, zF2, zF3⟩ := walk_keeps _ _ (hwalk w1 (Below.refl _ _))
  intro f
  induction f with
  | zero =>
    intro s a w I hcount
    have hall : ∀ i, i < n → s.getD i false = true := fun i hi => by
      have := List.countP_eq_zero.1 hcount i (List.mem_range.2 hi)
      simpa using this
    obtain ⟨gf, hg⟩ := I.boxes
    have hsz : s.size = l.length := by rw [I.head.size]; simp
    have es : s = (List.replicate n true ++ List.replicate (l.length - n) false).toArray := by
      refine Array.ext (by simp [hsz]; omega) fun i h1 h2 => ?_
      by_cases hi : i < n
      · have := hall i hi
        simp [h1] at this
        simp [hi, this]
      · have := I.head.tail i (by omega) (by simpa [hsz] using h1)
        simp [h1] at this
        simp [List.getElem_append, hi, this]
    have ea : a = puts gf al aF := by
      obtain ⟨p1, p2, p3⟩ := puts_same gf al aF
      have et : a.tmps = (puts gf al aF).tmps := by
        refine Array.ext_getElem? fun t => ?_
        by_cases hx : ∃ x ∈ al, x.2 = t
        · obtain ⟨x, hx, rfl⟩ := hx
          obtain ⟨hxn, o, ty, ho, hop, hd⟩ := hbox x hx
          obtain ⟨o', d', ho', hd', hdN, _⟩ := headOk_spec hok x.1 hxn
          obtain rfl : o' = o := Option.some.inj (ho'.symm.trans ho)
          obtain rfl : d' = x.2 := Option.some.inj (hd'.symm.trans hd)
          rw [(hg x.1 o' x.2 ty hxn (hall _ hxn) ho hop hd).1, puts_at gf al aF hnd x hx (by rw [zF1, hN]; exact hdN)]
        · have hx' : ∀ x ∈ al, x.2 ≠ t := fun x hxm e => hx ⟨x, hxm, e⟩
          rw [p3 t hx']
          by_cases hj : ∃ j o, j < n ∧ l[j]? = some o ∧ o.dst = some t
          · obtain ⟨j, o, hj, ho, hd⟩ := hj
            refine I.fill j o t hj (hall j hj) ho ?_ hd
            cases ha : isAlloc o with
            | false => rfl
            | true =>
              unfold isAlloc at ha
              split at ha
              · rename_i ty hty
                obtain ⟨_, x, hxm, hxj⟩ := hcov j o ty hj ho hty
                obtain ⟨_, o2, _, ho2, _, hd2⟩ := hbox x hxm
                rw [hxj] at ho2
                obtain rfl : o2 = o := Option.some.inj (ho2.symm.trans ho)
                exact absurd (Option.some.inj (hd2.symm.trans hd)) (hx' x hxm)
              · cases ha
          · rw [I.rest t fun j o hjn _ ho hd => hj ⟨j, o, hjn, ho, hd⟩, zF3 t fun o hm hd => ?_]
            · obtain ⟨j, hjj⟩ := List.getElem?_of_mem (List.mem_filter.1 hm).1
              rw [List.getElem?_take] at hjj
              split at hjj
              · rename_i hjn; exact hj ⟨j, o, hjn, hjj, hd⟩
              · cases hjj
      have ed : a.defers = (puts gf al aF).defers := by rw [p2, zF2, I.defers]
      cases a
      cases hp : puts gf al aF
      rw [hp] at et ed
      simp only at et ed
      rw [et, ed]
    have dl : (l.drop n).length = l.length - n := by simp
    have T := wpAny_of_seq (P := P) (md := .any) (ops := l.toArray) (Q' := Q) (l.drop n) n s a w (fun j => by simp [List.getElem?_drop]) (by rw [dl, es]; exact hseq)
      (by
        rw [ea]
        refine htail gf w I.up (fun x hx o t ho ht => ?_) fun x hx y hy hxy => ?_
        · obtain ⟨hxn, o', t', ho', hop, hd⟩ := hbox x hx
          obtain rfl : o' = o := Option.some.inj (ho'.symm.trans ho)
          obtain ⟨_, g2, _, g4, _⟩ := hg x.1 o' x.2 t hxn (hall _ hxn) ho ht hd
          exact ⟨g2, g4⟩
        · obtain ⟨hxn, o1, t1, ho1, hop1, hd1⟩ := hbox x hx
          obtain ⟨hyn, o2, t2, ho2, hop2, hd2⟩ := hbox y hy
          exact fun e => (hg x.1 o1 x.2 t1 hxn (hall _ hxn) ho1 hop1 hd1).2.2.2.2 y.1 o2 t2 hyn (hall _ hyn) ho2 hop2 (Ne.symm hxy) e.symm)
    rw [dl] at T
    rw [Nat.zero_add]
    exact T
  | succ f ih =>
    intro s a w I hcount
    obtain ⟨i0, hi0, hun, hbefore⟩ : ∃ i, i < n ∧ s.getD i false = false ∧ ∀ j, j < i → s.getD j false = true := by
      rcases least_unlisted s n with h | h
      · have : (List.range n).countP (fun i => !s.getD i false) = 0 := List.countP_eq_zero.2 fun i hi => by simp [h i (List.mem_range.1 hi)]
        omega
      · exact h
    have hsz : s.size = l.length := by rw [I.head.size]; simp
    have hun' : s.getD i0 true = false := getD_in (by rw [hsz]; omega) hun
    have hready : i0 ∈ Region.ready .any l.toArray s := by
      obtain ⟨o, d, ho, _, _, _, _, hback, _⟩ := headOk_spec hok i0 hi0
      exact mem_ready.2 ⟨hun', o, by simpa using ho, fun e he hb => hbefore _ (hback e he hb)⟩
    rw [show f + 1 + (l.length - n) = f + (l.length - n) + 1 by omega]
    refine ⟨fun h => (by rw [h] at hready; cases hready), fun i hi => ?_⟩
    have hin : i < n := Nat.lt_of_not_le fun h => tail_waits hs hc (by simpa using hn) I.head _ i0 rfl hi0 hun' i h hi
    obtain ⟨o, d, ho, hd, hdN, hdis, hguard, _, hlook⟩ := headOk_spec hok i hin
    have hiun := (mem_ready.1 hi).1
    have hcount' : (List.range n).countP (fun j => !(s.setIfInBounds i true).getD j false) = f := by
      have := count_less (p := fun j => !s.getD j false) (q := fun j => !(s.setIfInBounds i true).getD j false) (i := i) (by simp only [getD_both hiun]; rfl)
        (by have : i < s.size := by rw [hsz]; omega
            simp [this]) (fun j hj => by simp only [getD_set_ne false (Ne.symm hj)]) (List.range n) List.nodup_range (List.mem_range.2 hin)
      omega
    have hdlt : d < a0.tmps.size := by rw [hN]; exact hdN
    unfold wpOp
    simp only [List.getElem?_toArray, ho]
    cases ha : isAlloc o with
    | true =>
      obtain ⟨t, ht⟩ : ∃ t, o.op = .alloc t := by
        unfold isAlloc at ha
        split at ha
        · rename_i t ht; exact ⟨t, ht⟩
        · cases ha
      rw [if_pos (by unfold Region.wanted; rw [hguard ha])]
      refine .inl ?_
      unfold Oper.wp
      rw [hz t (hcov i o t hin ho ht).1 o a.eval w ht]
      exact ih _ _ _ (I.box hok hin ho ht hd hi hdlt) hcount'
    | false =>
      obtain ⟨act, q1, q2, v, hv, hy⟩ := walk_at (l.take n) a0 (hwalk w I.up) (fun i j oi oj t h1 h2 h3 h4 => by
          rw [List.getElem?_take] at h1 h2
          split at h1 <;> split at h2
          · rename_i hi' hj'
            obtain ⟨o1, d1, ho1, hd1, _, hdis1, _⟩ := headOk_spec hok i hi'
            obtain rfl : o1 = oi := Option.some.inj (ho1.symm.trans h1)
            obtain rfl : d1 = t := Option.some.inj (hd1.symm.trans h3)
            exact Classical.byContradiction fun e => hdis1 j hj' (fun e' => e e'.symm) (by simp [dstAt, h2, h4])
          · cases h2
          · cases h1
          · cases h1) i o d (by rw [List.getElem?_take, if_pos hin]; exact ho) ha hd hdlt
      have agree : ∀ t ∈ o.looksAt l.toArray, a.tmps[t]? = act.tmps[t]? := fun t ht => by
        by_cases hj : ∃ j oj, j < n ∧ l[j]? = some oj ∧ oj.dst = some t
        · obtain ⟨j, oj, hjn, hoj, hjd⟩ := hj
          obtain ⟨hji, hja, e, he, hb, hon⟩ := hlook j hjn oj t hoj hjd ht
          have hlj : s.getD j false = true := by
            obtain ⟨_, o', ho', hdeps⟩ := mem_ready.1 hi
            obtain rfl : o' = o := Option.some.inj (ho'.symm.trans (by simpa using ho))
            rw [← hon]; exact hdeps e he hb
          rw [I.fill j oj t hjn hlj hoj hja hjd, q1 j oj t hji (by rw [List.getElem?_take, if_pos hjn]; exact hoj) hja hjd]
        · rw [I.rest t fun j oj hjn _ hoj hjd => hj ⟨j, oj, hjn, hoj, hjd⟩, q2 t fun j oj hjk hoj _ hjd => ?_]
          rw [List.getElem?_take] at hoj
          split at hoj
          · rename_i hjn; exact hj ⟨j, oj, hjn, hoj, hjd⟩
          · cases hoj
      have hsel' := Region.noSelect_spec hsel i o
      have hex : execOp a.eval o = execOp act.eval o := exec_same o (fun cs b => hsel' cs b (by simpa using ho)) agree
      rw [wanted_same o agree]
      rcases hy with ⟨hw, hq⟩ | ⟨hw, rfl⟩
      · rw [if_pos hw]
        refine .inl (Oper.wp_of_quiet (C := fun w' => ∃ u : Later w, w' = u.now) (K := fun a' => a' = a.put o.dst v) ⟨⟨w, Below.refl _ _⟩, rfl⟩ (fun a' w' hw' e => ?_) ⟨v, fun x hx => ?_, rfl⟩)
        · obtain ⟨u, rfl⟩ := hw'
          subst e
          exact ih _ _ _ (I.quiet hok hin ho ha hd hi hdlt hv u.up) hcount'
        · have := hq x hx
          unfold Oper.quietAt at *
          rw [hex]; exact this
      · rw [if_neg (by simp [hw])]
        exact ih _ _ _ (I.quiet hok hin ho ha hd hi hdlt hv (Below.refl _ _)) hcount'

/-- The region: the walk of the head, in the order of the text, in every later world; then the tail, with new boxes at blocks of their own. -/
theorem wp_region_boxes {P : Program} {id : Nat} {l : List Oper} {Q : Exit → Act → World → Prop} {a0 aF : Act} {w1 : World} (n N : Nat) (al : List (Nat × Tmp)) (ts : List TypeId) (Z : TypeId → List Value) (hm : P.follows .mixedOrders = true) (hB : anyOk l n N al ts = true) (hN : a0.tmps.size = N)
    (hz : ∀ t ∈ ts, ∀ (o : Oper) (ρ : Operand → Value) (w : World), o.op = .alloc t → (execOp ρ o).run P w = .ok (.value (.pointer (some ⟨w.heap.size, 0, none⟩))) (w.alloc (.cells (Z t).toArray t)))
    (hwalk : ∀ v0 : World, Below w1.heap.size w1 v0 → ∀ K : Act → Prop, Hid (∀ a', a' = aF → K a') → wpQuiet P l.toArray (fun w' => ∃ u : Later v0, w' = u.now) K ((l.take n).filter fun o => !isAlloc o) a0)
    (htail : ∀ (gf : Nat → Nat) (w' : World), Below w1.heap.size w1 w' → (∀ x ∈ al, ∀ (o : Oper) (t : TypeId), l[x.1]? = some o → o.op = .alloc t → w1.heap.size ≤ gf x.1 ∧ Bx w' (gf x.1) (Z t)) →
      (∀ x ∈ al, ∀ y ∈ al, x.1 ≠ y.1 → gf x.1 ≠ gf y.1) → wpList P l.toArray Q (l.drop n) (puts gf al aF) w') :
    (Code.region id l.toArray true).wp P Q a0 w1 := by
  refine wp_region_any hm ?_
  have hn : n < l.length := by
    have := hB
    simp only [anyOk, Bool.and_eq_true, decide_eq_true_eq] at this
    exact this.1.1.1.1.1.2
  have G := under_wp (P := P) (Q := Q) (a0 := a0) (aF := aF) (w1 := w1) hB hN (fun v0 h0 => hwalk v0 h0 _ (Lib.hid fun a' h => h)) hz htail n (Array.replicate l.toArray.size false) a0 w1.drew
    ⟨⟨by simp, fun j oj _ hj => (by rw [getD_replicate_false] at hj; cases hj), fun t _ ht => getD_in (by simpa using ht) (getD_replicate_false _ _)⟩, rfl, rfl,
      fun i o t _ hl => (by rw [getD_replicate_false] at hl; cases hl), fun _ _ => rfl, up_drew (Below.refl _ _), fun _ => 0, fun i o d t _ hl => by rw [getD_replicate_false] at hl; cases hl⟩
    (by
      have : (fun i => !(Array.replicate l.toArray.size false).getD i false) = fun _ => true := by funext i; rw [getD_replicate_false]; rfl
      rw [this]; simp)
  rw [show n + (l.length - n) = l.toArray.size by simp; omega] at G
  exact G
/-- The same, the slots at the head's end found by the walk. -/
theorem wp_region_boxes' {P : Program} {id : Nat} {l : List Oper} {Q : Exit → Act → World → Prop} {a0 : Act} {w1 : World} (n N : Nat) (al : List (Nat × Tmp)) (ts : List TypeId) (Z : TypeId → List Value) (hm : P.follows .mixedOrders = true) (hB : anyOk l n N al ts = true) (hN : a0.tmps.size = N)
    (hz : ∀ t ∈ ts, ∀ (o : Oper) (ρ : Operand → Value) (w : World), o.op = .alloc t → (execOp ρ o).run P w = .ok (.value (.pointer (some ⟨w.heap.size, 0, none⟩))) (w.alloc (.cells (Z t).toArray t)))
    (h : ∃ aF : Act, (∀ v0 : World, Below w1.heap.size w1 v0 → ∀ K : Act → Prop, Hid (∀ a', a' = aF → K a') → wpQuiet P l.toArray (fun w' => ∃ u : Later v0, w' = u.now) K ((l.take n).filter fun o => !isAlloc o) a0) ∧
      ∀ (gf : Nat → Nat) (w' : World), Below w1.heap.size w1 w' → (∀ x ∈ al, ∀ (o : Oper) (t : TypeId), l[x.1]? = some o → o.op = .alloc t → w1.heap.size ≤ gf x.1 ∧ Bx w' (gf x.1) (Z t)) →
        (∀ x ∈ al, ∀ y ∈ al, x.1 ≠ y.1 → gf x.1 ≠ gf y.1) → wpList P l.toArray Q (l.drop n) (puts gf al aF) w') :
    (Code.region id l.toArray true).wp P Q a0 w1 := by
  obtain ⟨aF, h1, h2⟩ := h
  exact wp_region_boxes n N al ts Z hm hB hN hz h1 h2
end Go.Proofs.Ythdemhahgjpdmaa
