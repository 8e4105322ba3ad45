/- Part 6 of the texts that the proofs of this seat share: AnyOrder, RefPut, SchemeTell, SchemeCat. -/
import Derived.Test.YtenigkjonegdmaaGreatDoorPart1
import Derived.StillTail
import Derived.Lib.Hide
import Derived.Test.YtenigkjonegdmaaGreatDoorPart5
import Derived.Deep.DeepCutAuto
import Derived.Test.YtenigkjonegdmaaGreatDoorPart3
import Derived.RangeFuncNested
import Derived.RangeFuncBound
import Derived.RangeFuncCalls
import Derived.RangeFuncLeaves
import Derived.Shelf.Abstract
import Derived.Shelf.RegionOpen
import Derived.WalkKit
import Derived.OwnWalkIn
import Derived.TacticsInMore
import Derived.LoopNIn
import Derived.LoopIn
import Derived.Test.YtenigkjonegdmaaGreatDoorPart4
/- A region that draws its order, whose head reads, calls and makes boxes for new variables, and whose tail, in one forced order, writes: whatever the order, the slots hold at the head's end what one walk in the order of the text gives, and each new box is a block of its own. -/
namespace Go.Proofs.YtenigkjonegdmaaGreatDoor
open Go.RowKit
set_option linter.unusedVariables false

def isAlloc (o : Oper) : Bool := match o.op with | .alloc _ => true | _ => false
def dstAt (l : List Oper) (i : Nat) : Option Tmp := (l[i]?).bind (·.dst)
/-- What is asked of the head, to be looked through: each operation has a slot of its own, waits only for earlier ones, and waits for whatever it looks at; none looks at a new box. -/
def headOk (l : List Oper) (n N : Nat) : Bool :=
  (List.range n).all fun i => match l[i]? with
    | none => false
    | some o => (match o.dst with
        | none => false
        | some d => decide (d < N) && (List.range n).all fun j => j == i || dstAt l j != some d) &&
      (!(isAlloc o) || o.guard.isNone) && (o.after.all fun e => !Region.binds .any e || decide (e.on < i)) &&
      ((List.range n).all fun j => match l[j]? with
        | none => false
        | some oj => match oj.dst with
          | none => false
          | some d => !(o.looksAt l.toArray).contains d || (decide (j < i) && !(isAlloc oj) && o.after.any fun e => Region.binds .any e && e.on == j))
theorem headOk_spec {l : List Oper} {n N : Nat} (h : headOk l n N = true) (i : Nat) (hi : i < n) :
    ∃ o d, l[i]? = some o ∧ o.dst = some d ∧ d < N ∧ (∀ j, j < n → j ≠ i → dstAt l j ≠ some d) ∧ (isAlloc o = true → o.guard = none) ∧ (∀ e ∈ o.after, Region.binds .any e = true → e.on < i) ∧
      ∀ j, j < n → ∀ oj d', l[j]? = some oj → oj.dst = some d' → d' ∈ o.looksAt l.toArray → j < i ∧ isAlloc oj = false ∧ ∃ e ∈ o.after, Region.binds .any e = true ∧ e.on = j := by
  have h0 := List.all_eq_true.1 h i (List.mem_range.2 hi)
  cases ho : l[i]? with
  | none => rw [ho] at h0; cases h0
  | some o =>
    rw [ho] at h0
    simp only [Bool.and_eq_true] at h0
    obtain ⟨⟨⟨h1, h2⟩, h3⟩, h4⟩ := h0
    cases hd : o.dst with
    | none => rw [hd] at h1; cases h1
    | some d =>
      rw [hd] at h1
      simp only [Bool.and_eq_true, decide_eq_true_eq] at h1
      refine ⟨o, d, rfl, hd, h1.1, fun j hj hji => ?_, fun ha => ?_, fun e he hb => ?_, fun j hj oj d' hoj hd' hm => ?_⟩
      · have := List.all_eq_true.1 h1.2 j (List.mem_range.2 hj)
        simpa [hji] using this
      · simp only [ha, Bool.not_true, Bool.false_or, Option.isNone_iff_eq_none] at h2
        exact h2
      · have := Array.all_eq_true_iff_forall_mem.1 h3 e he
        simpa [hb] using this
      · have := List.all_eq_true.1 h4 j (List.mem_range.2 hj)
        rw [hoj] at this
        simp only [hd'] at this
        have hc : (o.looksAt l.toArray).contains d' = true := by simpa using hm
        rw [hc] at this
        simp only [Bool.not_true, Bool.false_or, Bool.and_eq_true, decide_eq_true_eq, Bool.not_eq_true'] at this
        obtain ⟨⟨k1, k2⟩, k3⟩ := this
        obtain ⟨e, he, hb⟩ := Array.any_eq_true'.1 k3
        simp only [Bool.and_eq_true, beq_iff_eq] at hb
        exact ⟨k1, k2, e, he, hb.1, hb.2⟩

theorem exec_same {ops : Array Oper} {a a' : Act} (o : Oper) (hs : ∀ cs b, o.op ≠ .select cs b) (h : ∀ t ∈ o.looksAt ops, a.tmps[t]? = a'.tmps[t]?) : execOp a.eval o = execOp a'.eval o :=
  execOp_congr o hs fun x hx => by
    cases x with
    | tmp t =>
      have := h t (List.mem_append_left _ (List.mem_filterMap.2 ⟨.tmp t, by simpa using hx, rfl⟩))
      simp [Act.eval, this]
    | _ => rfl
theorem wanted_same {ops : Array Oper} {a a' : Act} (o : Oper) (h : ∀ t ∈ o.looksAt ops, a.tmps[t]? = a'.tmps[t]?) : Region.wanted o (yielded ops a.tmps) = Region.wanted o (yielded ops a'.tmps) := by
  unfold Region.wanted
  cases hg : o.guard with
  | none => rfl
  | some gw =>
    obtain ⟨g, want⟩ := gw
    have hy : yielded ops a.tmps g = yielded ops a'.tmps g := by
      unfold yielded
      cases ht : (ops[g]?).bind (·.dst) with
      | none => rfl
      | some t =>
        have := h t (by simp [Oper.looksAt, hg, ht])
        simp [this]
    simp only [hy]

section
variable {P : Program} {ops : Array Oper} {C : World → Prop} {aF : Act}
/-- Behind the walk a slot that no operation fills is as it was. -/
theorem walk_keeps : ∀ (L : List Oper) (a : Act), wpQuiet P ops C (fun a' => a' = aF) L a → aF.tmps.size = a.tmps.size ∧ aF.defers = a.defers ∧ ∀ t, (∀ o ∈ L, o.dst ≠ some t) → aF.tmps[t]? = a.tmps[t]? := by
  intro L
  induction L with
  | nil => intro a h; obtain rfl : a = aF := h; exact ⟨rfl, rfl, fun _ _ => rfl⟩
  | cons o L ih =>
    intro a h
    have hv : ∃ v, wpQuiet P ops C (fun a' => a' = aF) L (a.put o.dst v) := by
      unfold wpQuiet at h
      split at h
      · obtain ⟨v, _, h⟩ := h; exact ⟨v, h⟩
      · exact ⟨_, h⟩
    obtain ⟨v, hv⟩ := hv
    obtain ⟨h1, h2, h3⟩ := ih _ hv
    refine ⟨h1.trans (by cases o.dst <;> simp [Act.put]), h2.trans (by cases o.dst <;> simp [Act.put]), fun t ht => (h3 t fun o' ho' => ht o' (List.mem_cons_of_mem _ ho')).trans ?_⟩
    have hne := ht o List.mem_cons_self
    cases hd : o.dst with
    | none => rfl
    | some d =>
      have : d ≠ t := fun e => hne (by rw [hd, e])
      simp [Act.put, Array.getElem?_setIfInBounds_ne this]

/-- What the walk shows of its k-th operation: with what is filled ahead of it as at the end, and all else as at the start, it yields what its slot holds at the end. -/
theorem walk_at : ∀ (L : List Oper) (a : Act), wpQuiet P ops C (fun a' => a' = aF) (L.filter fun o => !isAlloc o) a →
    (∀ (i j : Nat) (oi oj : Oper) (t : Tmp), L[i]? = some oi → L[j]? = some oj → oi.dst = some t → oj.dst = some t → i = j) →
    ∀ (k : Nat) (o : Oper) (d : Tmp), L[k]? = some o → isAlloc o = false → o.dst = some d → d < a.tmps.size →
    ∃ act : Act, (∀ (j : Nat) (oj : Oper) (t : Tmp), j < k → L[j]? = some oj → isAlloc oj = false → oj.dst = some t → act.tmps[t]? = aF.tmps[t]?) ∧
      (∀ (t : Tmp), (∀ (j : Nat) (oj : Oper), j < k → L[j]? = some oj → isAlloc oj = false → oj.dst ≠ some t) → act.tmps[t]? = a.tmps[t]?) ∧
      ∃ v, aF.tmps[d]? = some v ∧ ((Region.wanted o (yielded ops act.tmps) = true ∧ ∀ w, C w → o.quietAt P act C w v) ∨ (Region.wanted o (yielded ops act.tmps) = false ∧ v = undef)) := by
  intro L
  induction L with
  | nil => intro a _ _ k o d hk; simp at hk
  | cons o0 L ih =>
    intro a h hdis k o d hk ha hd hlt
    have hdis' : ∀ (i j : Nat) (oi oj : Oper) (t : Tmp), L[i]? = some oi → L[j]? = some oj → oi.dst = some t → oj.dst = some t → i = j := fun i j oi oj t h1 h2 h3 h4 => by
      have := hdis (i + 1) (j + 1) oi oj t (by simpa using h1) (by simpa using h2) h3 h4
      omega
    cases h0 : isAlloc o0 with
    | true =>
      rw [List.filter_cons_of_neg (by simp [h0])] at h
      cases k with
      | zero =>
        simp at hk
        subst hk
        rw [h0] at ha
        cases ha
      | succ k =>
        obtain ⟨act, q1, q2, q3⟩ := ih a h hdis' k o d (by simpa using hk) ha hd hlt
        refine ⟨act, fun j oj t hj hoj hja hjd => ?_, fun t ht => q2 t fun j oj hj hoj hja => ht (j + 1) oj (by omega) (by simpa using hoj) hja, q3⟩
        cases j with
        | zero => simp at hoj; subst hoj; rw [h0] at hja; cases hja
        | succ j => exact q1 j oj t (by omega) (by simpa using hoj) hja hjd
    | false =>
      rw [List.filter_cons_of_pos (by simp [h0])] at h
      have hv : ∃ v, ((Region.wanted o0 (yielded ops a.tmps) = true ∧ ∀ w, C w → o0.quietAt P a C w v) ∨ (Region.wanted o0 (yielded ops a.tmps) = false ∧ v = undef)) ∧ wpQuiet P ops C (fun a' => a' = aF) (L.filter fun o => !isAlloc o) (a.put o0.dst v) := by
        unfold wpQuiet at h
        split at h
        · rename_i hw; obtain ⟨v, h1, h2⟩ := h; exact ⟨v, .inl ⟨hw, h1⟩, h2⟩
        · rename_i hw; exact ⟨_, .inr ⟨by simpa using hw, rfl⟩, h⟩
      obtain ⟨v, hy, hrest⟩ := hv
      obtain ⟨z1, _, z3⟩ := walk_keeps _ _ hrest
      have later : ∀ t, o0.dst = some t → ∀ o' ∈ L.filter (fun o => !isAlloc o), o'.dst ≠ some t := fun t ht o' ho' hd' => by
        obtain ⟨j, hj⟩ := List.getElem?_of_mem (List.mem_filter.1 ho').1
        have := hdis 0 (j + 1) o0 o' t (by simp) (by simpa using hj) ht hd'
        omega
      have fill : ∀ t, o0.dst = some t → t < a.tmps.size → aF.tmps[t]? = some v := fun t ht hs => by
        rw [z3 t (later t ht)]
        simp [Act.put, ht, hs]
      cases k with
      | zero =>
        simp at hk
        subst hk
        exact ⟨a, fun j _ _ hj => absurd hj (by omega), fun _ _ => rfl, v, fill d hd hlt, hy⟩
      | succ k =>
        have hsz : (a.put o0.dst v).tmps.size = a.tmps.size := by cases o0.dst <;> simp [Act.put]
        obtain ⟨act, q1, q2, q3⟩ := ih _ hrest hdis' k o d (by simpa using hk) ha hd (by rw [hsz]; exact hlt)
        refine ⟨act, fun j oj t hj hoj hja hjd => ?_, fun t ht => ?_, q3⟩
        · cases j with
          | zero =>
            simp at hoj
            subst hoj
            rw [q2 t fun j oj hj hoj hja hd' => ?_, z3 t (later t hjd)]
            have := hdis 0 (j + 1) o0 oj t (by simp) (by simpa using hoj) hjd hd'
            omega
          | succ j => exact q1 j oj t (by omega) (by simpa using hoj) hja hjd
        · rw [q2 t fun j oj hj hoj hja => ht (j + 1) oj (by omega) (by simpa using hoj) hja]
          have hne := ht 0 o0 (by omega) (by simp) h0
          cases hd0 : o0.dst with
          | none => rfl
          | some d0 =>
            have : d0 ≠ t := fun e => hne (by rw [hd0, e])
            simp [Act.put, Array.getElem?_setIfInBounds_ne this]
end

theorem Bx.upTo {w w' : World} {B : Nat} {vs : List Value} (h : Bx w B vs) (hlt : B < w.heap.size) (hb : Below w.heap.size w w') : Bx w' B vs :=
  ⟨fun j v hj => bl_cell hb (h.1 j v hj), fun j => (kept_marks hb B j hlt).trans (h.2 j)⟩

/-- The slots of the new boxes, filled. -/
def puts (gf : Nat → Nat) : List (Nat × Tmp) → Act → Act
  | [], a => a
  | x :: r, a => puts gf r (a.put (some x.2) (.pointer (some ⟨gf x.1, 0, none⟩)))
theorem puts_same (gf : Nat → Nat) : ∀ (al : List (Nat × Tmp)) (a : Act), (puts gf al a).tmps.size = a.tmps.size ∧ (puts gf al a).defers = a.defers ∧ ∀ t, (∀ x ∈ al, x.2 ≠ t) → (puts gf al a).tmps[t]? = a.tmps[t]? := by
  intro al
  induction al with
  | nil => intro a; exact ⟨rfl, rfl, fun _ _ => rfl⟩
  | cons x r ih =>
    intro a
    obtain ⟨h1, h2, h3⟩ := ih (a.put (some x.2) (.pointer (some ⟨gf x.1, 0, none⟩)))
    refine ⟨h1.trans (by simp [Act.put]), h2.trans rfl, fun t ht => (h3 t fun y hy => ht y (List.mem_cons_of_mem _ hy)).trans ?_⟩
    simp [Act.put, Array.getElem?_setIfInBounds_ne (ht x List.mem_cons_self)]
theorem puts_at (gf : Nat → Nat) : ∀ (al : List (Nat × Tmp)) (a : Act), (al.map (·.2)).Nodup → ∀ x ∈ al, x.2 < a.tmps.size → (puts gf al a).tmps[x.2]? = some (.pointer (some ⟨gf x.1, 0, none⟩)) := by
  intro al
  induction al with
  | nil => intro a _ x hx; cases hx
  | cons y r ih =>
    intro a hnd x hx hlt
    simp only [List.map_cons, List.nodup_cons] at hnd
    rcases List.mem_cons.1 hx with rfl | hx
    · show (puts gf r _).tmps[x.2]? = _
      rw [(puts_same gf r _).2.2 x.2 fun z hz e => hnd.1 (e ▸ List.mem_map_of_mem hz)]
      simp [Act.put, hlt]
    · exact ih _ hnd.2 x hx (by simpa [Act.put] using hlt)

/-- The list of new boxes, by operation and slot, is right. -/
def boxesOk (l : List Oper) (n : Nat) (al : List (Nat × Tmp)) (ts : List TypeId) : Bool :=
  (al.all fun x => decide (x.1 < n) && (match l[x.1]? with | some o => isAlloc o && o.dst == some x.2 | none => false)) &&
  ((List.range n).all fun i => match l[i]? with | some o => (match o.op with | .alloc t => ts.contains t && al.any (fun x => x.1 == i) | _ => true) | none => false) &&
  decide ((al.map (·.2)).Nodup)
def anyOk (l : List Oper) (n N : Nat) (al : List (Nat × Tmp)) (ts : List TypeId) : Bool :=
  Region.noSelect l.toArray && decide (n < l.length) && Region.sinkB .any l.toArray n && Region.chainB .any l.toArray n &&
  Region.seqB .any l.toArray (l.length - n) n (List.replicate n true ++ List.replicate (l.length - n) false).toArray && headOk l n N && boxesOk l n al ts

/-- As long as the head comes up, in whatever order. -/
structure Under (l : List Oper) (n : Nat) (Z : TypeId → List Value) (a0 aF : Act) (w1 : World) (s : Array Bool) (a : Act) (w : World) : Prop where
  head : HeadInv .any l.toArray n s
  size : a.tmps.size = a0.tmps.size
  defers : a.defers = a0.defers
  fill : ∀ (i : Nat) (o : Oper) (t : Tmp), i < n → s.getD i false = true → l[i]? = some o → isAlloc o = false → o.dst = some t → a.tmps[t]? = aF.tmps[t]?
  rest : ∀ t : Tmp, (∀ (i : Nat) (o : Oper), i < n → s.getD i false = true → l[i]? = some o → o.dst ≠ some t) → a.tmps[t]? = a0.tmps[t]?
  up : Below w1.heap.size w1 w
  boxes : ∃ gf : Nat → Nat, ∀ (i : Nat) (o : Oper) (d : Tmp) (t : TypeId), i < n → s.getD i false = true → l[i]? = some o → o.op = .alloc t → o.dst = some d →
    a.tmps[d]? = some (.pointer (some ⟨gf i, 0, none⟩)) ∧ w1.heap.size ≤ gf i ∧ gf i < w.heap.size ∧ Bx w (gf i) (Z t) ∧ ∀ (j : Nat) (oj : Oper) (tj : TypeId), j < n → s.getD j false = true → l[j]? = some oj → oj.op = .alloc tj → j ≠ i → gf j ≠ gf i

theorem set_listed {s : Array Bool} {i j : Nat} (h : (s.setIfInBounds i true).getD j false = true) (hne : j ≠ i) : s.getD j false = true := by rwa [getD_set_ne false (Ne.symm hne)] at h

/-- An operation of the head that is no new box yields what its slot holds at the end. -/
theorem Under.quiet {l : List Oper} {n N : Nat} {Z : TypeId → List Value} {a0 aF a : Act} {w1 w w' : World} {s : Array Bool} (I : Under l n Z a0 aF w1 s a w) (hok : headOk l n N = true) {i : Nat} {o : Oper} {d : Tmp} {v : Value} (hi : i < n)
    (ho : l[i]? = some o) (ha : isAlloc o = false) (hd : o.dst = some d) (hr : i ∈ Region.ready .any l.toArray s) (hlt : d < a0.tmps.size) (hv : aF.tmps[d]? = some v) (hb : Below w.heap.size w w') :
    Under l n Z a0 aF w1 (s.setIfInBounds i true) (a.put o.dst v) w' := by
  obtain ⟨o', d', ho', hd', _, hdis, _, _, _⟩ := headOk_spec hok i hi
  obtain rfl : o' = o := Option.some.inj (ho'.symm.trans ho)
  obtain rfl : d' = d := Option.some.inj (hd'.symm.trans hd)
  have other : ∀ (j : Nat) (oj : Oper), j < n → l[j]? = some oj → j ≠ i → ∀ t, oj.dst = some t → d' ≠ t := fun j oj hj hoj hji t ht e => hdis j hj hji (by subst e; simp [dstAt, hoj, ht])
  have putNe : ∀ t, d' ≠ t → (a.put o'.dst v).tmps[t]? = a.tmps[t]? := fun t ht => by rw [hd]; simp [Act.put, Array.getElem?_setIfInBounds_ne ht]
  have putAt : (a.put o'.dst v).tmps[d']? = some v := by rw [hd]; simp [Act.put, I.size, hlt]
  refine ⟨I.head.set hr hi, by rw [hd]; simp [Act.put, I.size], by rw [hd]; simp [Act.put, I.defers], fun j oj t hj hl hoj hja hjd => ?_, fun t ht => ?_, up_trans I.up hb, ?_⟩
  · by_cases e : j = i
    · subst e
      obtain rfl : oj = o' := Option.some.inj (hoj.symm.trans ho)
      obtain rfl : t = d' := Option.some.inj (hjd.symm.trans hd)
      rw [putAt, hv]
    · rw [putNe t (other j oj hj hoj e t hjd)]
      exact I.fill j oj t hj (set_listed hl e) hoj hja hjd
  · have hsi : (s.setIfInBounds i true).getD i false = true := by
      have : i < s.size := by rw [I.head.size]; exact (List.getElem?_eq_some_iff.1 ho).1
      simp [this]
    rw [putNe t fun e => ht i o' hi hsi ho (by rw [hd, e])]
    exact I.rest t fun j oj hj hl hoj => ht j oj hj (getD_set_true hl) hoj
  · obtain ⟨gf, hg⟩ := I.boxes
    refine ⟨gf, fun j oj dj t hj hl hoj hop hjd => ?_⟩
    have hja : isAlloc oj = true := by simp [isAlloc, hop]
    have e : j ≠ i := fun e => by
      subst e
      obtain rfl : oj = o' := Option.some.inj (hoj.symm.trans ho)
      rw [hja] at ha; cases ha
    obtain ⟨g1, g2, g3, g4, g5⟩ := hg j oj dj t hj (set_listed hl e) hoj hop hjd
    refine ⟨by rw [putNe dj (other j oj hj hoj e dj hjd)]; exact g1, g2, Nat.lt_of_lt_of_le g3 hb.size, g4.upTo g3 hb, fun k ok tk hk hkl hok' hkop hkj => ?_⟩
    have e' : k ≠ i := fun e => by
      subst e
      obtain rfl : ok = o' := Option.some.inj (hok'.symm.trans ho)
      have : isAlloc ok = true := by simp [isAlloc, hkop]
      rw [this] at ha; cases ha
    exact g5 k ok tk hk (set_listed hkl e') hok' hkop hkj

/-- A new box. -/
theorem Under.box {l : List Oper} {n N : Nat} {Z : TypeId → List Value} {a0 aF a : Act} {w1 w : World} {s : Array Bool} (I : Under l n Z a0 aF w1 s a w) (hok : headOk l n N = true) {i : Nat} {o : Oper} {d : Tmp} {t : TypeId} (hi : i < n)
    (ho : l[i]? = some o) (ha : o.op = .alloc t) (hd : o.dst = some d) (hr : i ∈ Region.ready .any l.toArray s) (hlt : d < a0.tmps.size) :
    Under l n Z a0 aF w1 (s.setIfInBounds i true) (a.put o.dst (.pointer (some ⟨w.heap.size, 0, none⟩))) (w.alloc (.cells (Z t).toArray t)) := by
  obtain ⟨o', d', ho', hd', _, hdis, _, _, _⟩ := headOk_spec hok i hi
  obtain rfl : o' = o := Option.some.inj (ho'.symm.trans ho)
  obtain rfl : d' = d := Option.some.inj (hd'.symm.trans hd)
  have hal : isAlloc o' = true := by simp [isAlloc, ha]
  have hb : Below w.heap.size w (w.alloc (.cells (Z t).toArray t)) := up_alloc (Below.refl _ _) _
  have other : ∀ (j : Nat) (oj : Oper), j < n → l[j]? = some oj → j ≠ i → ∀ t, oj.dst = some t → d' ≠ t := fun j oj hj hoj hji t ht e => hdis j hj hji (by subst e; simp [dstAt, hoj, ht])
  have putNe : ∀ v t, d' ≠ t → (a.put o'.dst v).tmps[t]? = a.tmps[t]? := fun v t ht => by rw [hd]; simp [Act.put, Array.getElem?_setIfInBounds_ne ht]
  have putAt : ∀ v, (a.put o'.dst v).tmps[d']? = some v := fun v => by rw [hd]; simp [Act.put, I.size, hlt]
  refine ⟨I.head.set hr hi, by rw [hd]; simp [Act.put, I.size], by rw [hd]; simp [Act.put, I.defers], fun j oj t hj hl hoj hja hjd => ?_, fun t ht => ?_, up_trans I.up hb, ?_⟩
  · have e : j ≠ i := fun e => by
      subst e
      obtain rfl : oj = o' := Option.some.inj (hoj.symm.trans ho)
      rw [hal] at hja; cases hja
    rw [putNe _ t (other j oj hj hoj e t hjd)]
    exact I.fill j oj t hj (set_listed hl e) hoj hja hjd
  · have hsi : (s.setIfInBounds i true).getD i false = true := by
      have : i < s.size := by rw [I.head.size]; exact (List.getElem?_eq_some_iff.1 ho).1
      simp [this]
    rw [putNe _ t fun e => ht i o' hi hsi ho (by rw [hd, e])]
    exact I.rest t fun j oj hj hl hoj => ht j oj hj (getD_set_true hl) hoj
  · obtain ⟨gf, hg⟩ := I.boxes
    refine ⟨fun k => if k = i then w.heap.size else gf k, fun j oj dj tj hj hl hoj hop hjd => ?_⟩
    by_cases e : j = i
    · subst e
      obtain rfl : oj = o' := Option.some.inj (hoj.symm.trans ho)
      obtain rfl : dj = d' := Option.some.inj (hjd.symm.trans hd)
      obtain rfl : tj = t := by rw [ha] at hop; injection hop with hop; exact hop.symm
      simp only [if_true]
      refine ⟨putAt _, I.up.size, by simp, Bx.new w tj (Z tj), fun k ok tk hk hkl hok' hkop hkj => ?_⟩
      rw [if_neg hkj]
      cases hkd : ok.dst with
      | none =>
        obtain ⟨o2, d2, h2, h3, _⟩ := headOk_spec hok k hk
        obtain rfl : o2 = ok := Option.some.inj (h2.symm.trans hok')
        rw [hkd] at h3; cases h3
      | some dk =>
        have := (hg k ok dk tk hk (set_listed hkl hkj) hok' hkop hkd).2.2.1
        omega
    · obtain ⟨g1, g2, g3, g4, g5⟩ := hg j oj dj tj hj (set_listed hl e) hoj hop hjd
      simp only [if_neg e]
      refine ⟨by rw [putNe _ dj (other j oj hj hoj e dj hjd)]; exact g1, g2, Nat.lt_of_lt_of_le g3 hb.size, g4.upTo g3 hb, fun k ok tk hk hkl hok' hkop hkj => ?_⟩
      by_cases e' : k = i
      · subst e'; simp only [if_true]; omega
      · rw [if_neg e']; exact g5 k ok tk hk (set_listed hkl e') hok' hkop hkj

theorem count_less {p q : Nat → Bool} {i : Nat} (hp : p i = true) (hq : q i = false) (hpq : ∀ j, j ≠ i → q j = p j) : ∀ L : List Nat, L.Nodup → i ∈ L → L.countP p = L.countP q + 1 := by
  intro L
  induction L with
  | nil => intro _ h; cases h
  | cons x L ih =>
    intro hn hi
    rw [List.nodup_cons] at hn
    by_cases e : x = i
    · subst e
      rw [List.countP_cons_of_pos hp, List.countP_cons_of_neg (by simp [hq])]
      congr 1
      exact List.countP_congr fun y hy => by rw [hpq y fun e => hn.1 (e ▸ hy)]
    · have hm : i ∈ L := (List.mem_cons.1 hi).resolve_left fun h => e h.symm
      have := ih hn.2 hm
      rw [List.countP_cons, List.countP_cons, hpq x e, this]
      omega
theorem least_unlisted (s : Array Bool) : ∀ m : Nat, (∀ j, j < m → s.getD j false = true) ∨ ∃ i, i < m ∧ s.getD i false = false ∧ ∀ j, j < i → s.getD j false = true := by
  intro m
  induction m with
  | zero => exact .inl fun j hj => absurd hj (by omega)
  | succ m ih =>
    rcases ih with h | ⟨i, h1, h2, h3⟩
    · cases e : s.getD m false with
      | true => exact .inl fun j hj => (Nat.lt_or_eq_of_le (Nat.le_of_lt_succ hj)).elim (h j) fun e' => e' ▸ e
      | false => exact .inr ⟨m, by omega, e, h⟩
    · exact .inr ⟨i, by omega, h2, h3⟩

theorem under_wp {P : Program} {l : List Oper} {n N : Nat} {al : List (Nat × Tmp)} {ts : List TypeId} {Z : TypeId → List Value} {a0 aF : Act} {w1 : World} {Q : Exit → Act → World → Prop} (hB : anyOk l n N al ts = true) (hN : a0.tmps.size = N)
    (hwalk : ∀ v0 : World, Below w1.heap.size w1 v0 → wpQuiet P l.toArray (fun w' => ∃ u : Later v0, w' = u.now) (fun a' => a' = aF) ((l.take n).filter fun o => !isAlloc o) a0)
    (hz : ∀ t ∈ ts, ∀ (o : Oper) (ρ : Operand → Value) (w : World), o.op = .alloc t → (execOp ρ o).run P w = .ok (.value (.pointer (some ⟨w.heap.size, 0, none⟩))) (w.alloc (.cells (Z t).toArray t)))
    (htail : ∀ (gf : Nat → Nat) (w' : World), Below w1.heap.size w1 w' → (∀ x ∈ al, ∀ (o : Oper) (t : TypeId), l[x.1]? = some o → o.op = .alloc t → w1.heap.size ≤ gf x.1 ∧ Bx w' (gf x.1) (Z t)) →
      (∀ x ∈ al, ∀ y ∈ al, x.1 ≠ y.1 → gf x.1 ≠ gf y.1) → wpList P l.toArray Q (l.drop n) (puts gf al aF) w') :
    ∀ (f : Nat) (s : Array Bool) (a : Act) (w : World), Under l n Z a0 aF w1 s a w → (List.range n).countP (fun i => !s.getD i false) = f → wpAny P .any l.toArray Q (f + (l.length - n)) s a w := by
  simp only [anyOk, boxesOk, Bool.and_eq_true, decide_eq_true_eq] at hB
  obtain ⟨⟨⟨⟨⟨⟨hsel, hn⟩, hs⟩, hc⟩, hseq⟩, hok⟩, ⟨hal1, hal2⟩, hnd⟩ := hB
  have hbox : ∀ x ∈ al, x.1 < n ∧ ∃ o t, l[x.1]? = some o ∧ o.op = .alloc t ∧ o.dst = some x.2 := fun x hx => by
    have := List.all_eq_true.1 hal1 x hx
    simp only [Bool.and_eq_true, decide_eq_true_eq] at this
    refine ⟨this.1, ?_⟩
    have h2 := this.2
    cases ho : l[x.1]? with
    | none => rw [ho] at h2; cases h2
    | some o =>
      rw [ho] at h2
      simp only [Bool.and_eq_true, beq_iff_eq] at h2
      have h3 := h2.1
      unfold isAlloc at h3
      split at h3
      · rename_i t ht; exact ⟨o, t, rfl, ht, h2.2⟩
      · cases h3
  have hcov : ∀ (i : Nat) (o : Oper) (t : TypeId), i < n → l[i]? = some o → o.op = .alloc t → t ∈ ts ∧ ∃ x ∈ al, x.1 = i := fun i o t hi ho ht => by
    have := List.all_eq_true.1 hal2 i (List.mem_range.2 hi)
    rw [ho] at this
    simp only [ht, Bool.and_eq_true] at this
    obtain ⟨h1, h2⟩ := this
    obtain ⟨x, hx, hxi⟩ := List.any_eq_true.1 h2
    exact ⟨by simpa using h1, x, hx, by simpa using hxi⟩
  obtain ⟨zF1, zF2, zF3⟩ := walk_keeps _ _ (hwalk w1 (Below.refl _ _))
  intro f
  induction f with
  | zero =>
    intro s a w I hcount
    have hall : ∀ i, i < n → s.getD i false = true := fun i hi => by
      have := List.countP_eq_zero.1 hcount i (List.mem_range.2 hi)
      simpa using this
    obtain ⟨gf, hg⟩ := I.boxes
    have hsz : s.size = l.length := by rw [I.head.size]; simp
    have es : s = (List.replicate n true ++ List.replicate (l.length - n) false).toArray := by
      refine Array.ext (by simp [hsz]; omega) fun i h1 h2 => ?_
      by_cases hi : i < n
      · have := hall i hi
        simp [h1] at this
        simp [hi, this]
      · have := I.head.tail i (by omega) (by simpa [hsz] using h1)
        simp [h1] at this
        simp [List.getElem_append, hi, this]
    have ea : a = puts gf al aF := by
      obtain ⟨p1, p2, p3⟩ := puts_same gf al aF
      have et : a.tmps = (puts gf al aF).tmps := by
        refine Array.ext_getElem? fun t => ?_
        by_cases hx : ∃ x ∈ al, x.2 = t
        · obtain ⟨x, hx, rfl⟩ := hx
          obtain ⟨hxn, o, ty, ho, hop, hd⟩ := hbox x hx
          obtain ⟨o', d', ho', hd', hdN, _⟩ := headOk_spec hok x.1 hxn
          obtain rfl : o' = o := Option.some.inj (ho'.symm.trans ho)
          obtain rfl : d' = x.2 := Option.some.inj (hd'.symm.trans hd)
          rw [(hg x.1 o' x.2 ty hxn (hall _ hxn) ho hop hd).1, puts_at gf al aF hnd x hx (by rw [zF1, hN]; exact hdN)]
        · have hx' : ∀ x ∈ al, x.2 ≠ t := fun x hxm e => hx ⟨x, hxm, e⟩
          rw [p3 t hx']
          by_cases hj : ∃ j o, j < n ∧ l[j]? = some o ∧ o.dst = some t
          · obtain ⟨j, o, hj, ho, hd⟩ := hj
            refine I.fill j o t hj (hall j hj) ho ?_ hd
            cases ha : isAlloc o with
            | false => rfl
            | true =>
              unfold isAlloc at ha
              split at ha
              · rename_i ty hty
                obtain ⟨_, x, hxm, hxj⟩ := hcov j o ty hj ho hty
                obtain ⟨_, o2, _, ho2, _, hd2⟩ := hbox x hxm
                rw [hxj] at ho2
                obtain rfl : o2 = o := Option.some.inj (ho2.symm.trans ho)
                exact absurd (Option.some.inj (hd2.symm.trans hd)) (hx' x hxm)
              · cases ha
          · rw [I.rest t fun j o hjn _ ho hd => hj ⟨j, o, hjn, ho, hd⟩, zF3 t fun o hm hd => ?_]
            · obtain ⟨j, hjj⟩ := List.getElem?_of_mem (List.mem_filter.1 hm).1
              rw [List.getElem?_take] at hjj
              split at hjj
              · rename_i hjn; exact hj ⟨j, o, hjn, hjj, hd⟩
              · cases hjj
      have ed : a.defers = (puts gf al aF).defers := by rw [p2, zF2, I.defers]
      cases a
      cases hp : puts gf al aF
      rw [hp] at et ed
      simp only at et ed
      rw [et, ed]
    have dl : (l.drop n).length = l.length - n := by simp
    have T := wpAny_of_seq (P := P) (md := .any) (ops := l.toArray) (Q' := Q) (l.drop n) n s a w (fun j => by simp [List.getElem?_drop]) (by rw [dl, es]; exact hseq)
      (by
        rw [ea]
        refine htail gf w I.up (fun x hx o t ho ht => ?_) fun x hx y hy hxy => ?_
        · obtain ⟨hxn, o', t', ho', hop, hd⟩ := hbox x hx
          obtain rfl : o' = o := Option.some.inj (ho'.symm.trans ho)
          obtain ⟨_, g2, _, g4, _⟩ := hg x.1 o' x.2 t hxn (hall _ hxn) ho ht hd
          exact ⟨g2, g4⟩
        · obtain ⟨hxn, o1, t1, ho1, hop1, hd1⟩ := hbox x hx
          obtain ⟨hyn, o2, t2, ho2, hop2, hd2⟩ := hbox y hy
          exact fun e => (hg x.1 o1 x.2 t1 hxn (hall _ hxn) ho1 hop1 hd1).2.2.2.2 y.1 o2 t2 hyn (hall _ hyn) ho2 hop2 (Ne.symm hxy) e.symm)
    rw [dl] at T
    rw [Nat.zero_add]
    exact T
  | succ f ih =>
    intro s a w I hcount
    obtain ⟨i0, hi0, hun, hbefore⟩ : ∃ i, i < n ∧ s.getD i false = false ∧ ∀ j, j < i → s.getD j false = true := by
      rcases least_unlisted s n with h | h
      · have : (List.range n).countP (fun i => !s.getD i false) = 0 := List.countP_eq_zero.2 fun i hi => by simp [h i (List.mem_range.1 hi)]
        omega
      · exact h
    have hsz : s.size = l.length := by rw [I.head.size]; simp
    have hun' : s.getD i0 true = false := getD_in (by rw [hsz]; omega) hun
    have hready : i0 ∈ Region.ready .any l.toArray s := by
      obtain ⟨o, d, ho, _, _, _, _, hback, _⟩ := headOk_spec hok i0 hi0
      exact mem_ready.2 ⟨hun', o, by simpa using ho, fun e he hb => hbefore _ (hback e he hb)⟩
    rw [show f + 1 + (l.length - n) = f + (l.length - n) + 1 by omega]
    refine ⟨fun h => (by rw [h] at hready; cases hready), fun i hi => ?_⟩
    have hin : i < n := Nat.lt_of_not_le fun h => tail_waits hs hc (by simpa using hn) I.head _ i0 rfl hi0 hun' i h hi
    obtain ⟨o, d, ho, hd, hdN, hdis, hguard, _, hlook⟩ := headOk_spec hok i hin
    have hiun := (mem_ready.1 hi).1
    have hcount' : (List.range n).countP (fun j => !(s.setIfInBounds i true).getD j false) = f := by
      have := count_less (p := fun j => !s.getD j false) (q := fun j => !(s.setIfInBounds i true).getD j false) (i := i) (by simp only [getD_both hiun]; rfl)
        (by have : i < s.size := by rw [hsz]; omega
            simp [this]) (fun j hj => by simp only [getD_set_ne false (Ne.symm hj)]) (List.range n) List.nodup_range (List.mem_range.2 hin)
      omega
    have hdlt : d < a0.tmps.size := by rw [hN]; exact hdN
    unfold wpOp
    simp only [List.getElem?_toArray, ho]
    cases ha : isAlloc o with
    | true =>
      obtain ⟨t, ht⟩ : ∃ t, o.op = .alloc t := by
        unfold isAlloc at ha
        split at ha
        · rename_i t ht; exact ⟨t, ht⟩
        · cases ha
      rw [if_pos (by unfold Region.wanted; rw [hguard ha])]
      refine .inl ?_
      unfold Oper.wp
      rw [hz t (hcov i o t hin ho ht).1 o a.eval w ht]
      exact ih _ _ _ (I.box hok hin ho ht hd hi hdlt) hcount'
    | false =>
      obtain ⟨act, q1, q2, v, hv, hy⟩ := walk_at (l.take n) a0 (hwalk w I.up) (fun i j oi oj t h1 h2 h3 h4 => by
          rw [List.getElem?_take] at h1 h2
          split at h1 <;> split at h2
          · rename_i hi' hj'
            obtain ⟨o1, d1, ho1, hd1, _, hdis1, _⟩ := headOk_spec hok i hi'
            obtain rfl : o1 = oi := Option.some.inj (ho1.symm.trans h1)
            obtain rfl : d1 = t := Option.some.inj (hd1.symm.trans h3)
            exact Classical.byContradiction fun e => hdis1 j hj' (fun e' => e e'.symm) (by simp [dstAt, h2, h4])
          · cases h2
          · cases h1
          · cases h1) i o d (by rw [List.getElem?_take, if_pos hin]; exact ho) ha hd hdlt
      have agree : ∀ t ∈ o.looksAt l.toArray, a.tmps[t]? = act.tmps[t]? := fun t ht => by
        by_cases hj : ∃ j oj, j < n ∧ l[j]? = some oj ∧ oj.dst = some t
        · obtain ⟨j, oj, hjn, hoj, hjd⟩ := hj
          obtain ⟨hji, hja, e, he, hb, hon⟩ := hlook j hjn oj t hoj hjd ht
          have hlj : s.getD j false = true := by
            obtain ⟨_, o', ho', hdeps⟩ := mem_ready.1 hi
            obtain rfl : o' = o := Option.some.inj (ho'.symm.trans (by simpa using ho))
            rw [← hon]; exact hdeps e he hb
          rw [I.fill j oj t hjn hlj hoj hja hjd, q1 j oj t hji (by rw [List.getElem?_take, if_pos hjn]; exact hoj) hja hjd]
        · rw [I.rest t fun j oj hjn _ hoj hjd => hj ⟨j, oj, hjn, hoj, hjd⟩, q2 t fun j oj hjk hoj _ hjd => ?_]
          rw [List.getElem?_take] at hoj
          split at hoj
          · rename_i hjn; exact hj ⟨j, oj, hjn, hoj, hjd⟩
          · cases hoj
      have hsel' := Region.noSelect_spec hsel i o
      have hex : execOp a.eval o = execOp act.eval o := exec_same o (fun cs b => hsel' cs b (by simpa using ho)) agree
      rw [wanted_same o agree]
      rcases hy with ⟨hw, hq⟩ | ⟨hw, rfl⟩
      · rw [if_pos hw]
        refine .inl (Oper.wp_of_quiet (C := fun w' => ∃ u : Later w, w' = u.now) (K := fun a' => a' = a.put o.dst v) ⟨⟨w, Below.refl _ _⟩, rfl⟩ (fun a' w' hw' e => ?_) ⟨v, fun x hx => ?_, rfl⟩)
        · obtain ⟨u, rfl⟩ := hw'
          subst e
          exact ih _ _ _ (I.quiet hok hin ho ha hd hi hdlt hv u.up) hcount'
        · have := hq x hx
          unfold Oper.quietAt at *
          rw [hex]; exact this
      · rw [if_neg (by simp [hw])]
        exact ih _ _ _ (I.quiet hok hin ho ha hd hi hdlt hv (Below.refl _ _)) hcount'

/-- The region: the walk of the head, in the order of the text, in every later world; then the tail, with new boxes at blocks of their own. -/
theorem wp_region_boxes {P : Program} {id : Nat} {l : List Oper} {Q : Exit → Act → World → Prop} {a0 aF : Act} {w1 : World} (n N : Nat) (al : List (Nat × Tmp)) (ts : List TypeId) (Z : TypeId → List Value) (hm : P.follows .mixedOrders = true) (hB : anyOk l n N al ts = true) (hN : a0.tmps.size = N)
    (hz : ∀ t ∈ ts, ∀ (o : Oper) (ρ : Operand → Value) (w : World), o.op = .alloc t → (execOp ρ o).run P w = .ok (.value (.pointer (some ⟨w.heap.size, 0, none⟩))) (w.alloc (.cells (Z t).toArray t)))
    (hwalk : ∀ v0 : World, Below w1.heap.size w1 v0 → ∀ K : Act → Prop, Hid (∀ a', a' = aF → K a') → wpQuiet P l.toArray (fun w' => ∃ u : Later v0, w' = u.now) K ((l.take n).filter fun o => !isAlloc o) a0)
    (htail : ∀ (gf : Nat → Nat) (w' : World), Below w1.heap.size w1 w' → (∀ x ∈ al, ∀ (o : Oper) (t : TypeId), l[x.1]? = some o → o.op = .alloc t → w1.heap.size ≤ gf x.1 ∧ Bx w' (gf x.1) (Z t)) →
      (∀ x ∈ al, ∀ y ∈ al, x.1 ≠ y.1 → gf x.1 ≠ gf y.1) → wpList P l.toArray Q (l.drop n) (puts gf al aF) w') :
    (Code.region id l.toArray true).wp P Q a0 w1 := by
  refine wp_region_any hm ?_
  have hn : n < l.length := by
    have := hB
    simp only [anyOk, Bool.and_eq_true, decide_eq_true_eq] at this
    exact this.1.1.1.1.1.2
  have G := under_wp (P := P) (Q := Q) (a0 := a0) (aF := aF) (w1 := w1) hB hN (fun v0 h0 => hwalk v0 h0 _ (Lib.hid fun a' h => h)) hz htail n (Array.replicate l.toArray.size false) a0 w1.drew
    ⟨⟨by simp, fun j oj _ hj => (by rw [getD_replicate_false] at hj; cases hj), fun t _ ht => getD_in (by simpa using ht) (getD_replicate_false _ _)⟩, rfl, rfl,
      fun i o t _ hl => (by rw [getD_replicate_false] at hl; cases hl), fun _ _ => rfl, up_drew (Below.refl _ _), fun _ => 0, fun i o d t _ hl => by rw [getD_replicate_false] at hl; cases hl⟩
    (by
      have : (fun i => !(Array.replicate l.toArray.size false).getD i false) = fun _ => true := by funext i; rw [getD_replicate_false]; rfl
      rw [this]; simp)
  rw [show n + (l.length - n) = l.toArray.size by simp; omega] at G
  exact G
/-- The same, the slots at the head's end found by the walk. -/
theorem wp_region_boxes' {P : Program} {id : Nat} {l : List Oper} {Q : Exit → Act → World → Prop} {a0 : Act} {w1 : World} (n N : Nat) (al : List (Nat × Tmp)) (ts : List TypeId) (Z : TypeId → List Value) (hm : P.follows .mixedOrders = true) (hB : anyOk l n N al ts = true) (hN : a0.tmps.size = N)
    (hz : ∀ t ∈ ts, ∀ (o : Oper) (ρ : Operand → Value) (w : World), o.op = .alloc t → (execOp ρ o).run P w = .ok (.value (.pointer (some ⟨w.heap.size, 0, none⟩))) (w.alloc (.cells (Z t).toArray t)))
    (h : ∃ aF : Act, (∀ v0 : World, Below w1.heap.size w1 v0 → ∀ K : Act → Prop, Hid (∀ a', a' = aF → K a') → wpQuiet P l.toArray (fun w' => ∃ u : Later v0, w' = u.now) K ((l.take n).filter fun o => !isAlloc o) a0) ∧
      ∀ (gf : Nat → Nat) (w' : World), Below w1.heap.size w1 w' → (∀ x ∈ al, ∀ (o : Oper) (t : TypeId), l[x.1]? = some o → o.op = .alloc t → w1.heap.size ≤ gf x.1 ∧ Bx w' (gf x.1) (Z t)) →
        (∀ x ∈ al, ∀ y ∈ al, x.1 ≠ y.1 → gf x.1 ≠ gf y.1) → wpList P l.toArray Q (l.drop n) (puts gf al aF) w') :
    (Code.region id l.toArray true).wp P Q a0 w1 := by
  obtain ⟨aF, h1, h2⟩ := h
  exact wp_region_boxes n N al ts Z hm hB hN hz h1 h2
end Go.Proofs.YtenigkjonegdmaaGreatDoor
/- What the reference's Put and Set answer, for every job. -/
namespace Go.Proofs.YtenigkjonegdmaaGreatDoor
open Go.RowKit
set_option linter.unusedVariables false

/-- The zero job's cells. -/
def zeroL : List Value := jobL ⟨#[]⟩ (fun _ => 0) 0 0 (.slice none 0 0) (.slice none 0 0)
theorem job_alloc (w : World) : (Instr.alloc 29 true (.tuple #[])).run Tryz.prog w = .ok (.pointer (some ⟨w.heap.size, 0, none⟩)) (w.alloc (.cells zeroL.toArray 29)) := by
  kernel_rfl
theorem enc_set (n : Nat → Int) {k : Nat} (hk : k < 28) (z : Int) : (enc (numsL n)).set k (.int .i64 z) = enc (numsL (setN n k z)) := by
  rcases num_ways hk with rfl | rfl | rfl | rfl | rfl | rfl | rfl | rfl | rfl | rfl | rfl | rfl | rfl | rfl | rfl | rfl | rfl | rfl | rfl | rfl | rfl | rfl | rfl | rfl | rfl | rfl | rfl | rfl <;> rfl
theorem enc_there (n : Nat → Int) {k : Nat} (hk : k < 28) : (enc (numsL n))[k]? = some (.int .i64 (n k)) := by
  unfold enc
  rw [List.getElem?_map, numsL_at n hk]; rfl
/-- The first k numbers, and zeros. -/
def firstN (k : Nat) (n : Nat → Int) : Nat → Int := fun i => if i < k then n i else 0

/-- What stands while the reference's Put lays one number behind another one: the first i are laid. -/
def PutRel (w : World) (g g2 : Nat) (t : ByteArray) (m : Nat → Int) (c r : Int) (fv lv : Value) (i : Nat) (wx : World) : Prop :=
  Bx wx g2 (jobL t (firstN i m) c r fv lv) ∧ Bx wx g (enc (numsL m)) ∧ Bx wx (w.heap.size + 1) zeroL ∧ Below w.heap.size w wx
theorem firstN_next (i : Nat) (m : Nat → Int) : setN (firstN i m) i (m i) = firstN (i + 1) m := by
  funext j
  unfold setN firstN
  by_cases h : j = i
  · subst h; simp
  · have : (j < i + 1) = (j < i) := by apply propext; omega
    rw [if_neg h]
    simp only [this]
theorem PutRel.put {w : World} {g g2 : Nat} {t : ByteArray} {m : Nat → Int} {c r : Int} {fv lv : Value} {wx : World} {i : Nat} (h : PutRel w g g2 t m c r fv lv i wx) (hn : g ≠ g2 ∧ w.heap.size + 1 ≠ g2 ∧ w.heap.size ≤ g2) (hi : i < 28) : PutRel w g g2 t m c r fv lv (i + 1) (wx.setCell ⟨g2, cellJ i, none⟩ (.int .i64 (m i))) := by
  refine ⟨?_, h.2.1.far (p := ⟨g2, cellJ i, none⟩) (fun e => hn.1 e.symm) _, h.2.2.1.far (p := ⟨g2, cellJ i, none⟩) (fun e => hn.2.1 e.symm) _, h.2.2.2.setCell (p := ⟨g2, cellJ i, none⟩) hn.2.2 _⟩
  have := h.1.set (cellJ i) (.int .i64 (m i))
  rwa [job_set _ _ _ _ _ _ hi, firstN_next] at this
theorem firstN_all (t : ByteArray) (m : Nat → Int) (c r : Int) (fv lv : Value) : jobL t (firstN 28 m) c r fv lv = jobL t m c r fv lv := rfl

end Go.Proofs.YtenigkjonegdmaaGreatDoor
/- What scheme.tell answers: for every scheme. -/
namespace Go.Proofs.YtenigkjonegdmaaGreatDoor
open Go.RowKit DecMath
set_option linter.unusedVariables false

/-- A scheme's text by its parts; empty: it has none. -/
def tellT (s : Sc) : ByteArray := if toldB s = true then tx (headT s ++ tailT s.l) else ⟨#[]⟩

set_option maxHeartbeats 1000000 in
theorem schTell_bad (c r : Int) (a : Option Addr) (n cap : Nat) (u1 u2 u3 : Bool) (w : World) (e3 : decide ((6 : Int) < (n : Int)) = u3) (h : u1 = false ∨ u2 = false ∨ u3 = true)
    (K1 : ∀ w, Calls Tryz.prog 86 #[.int .i64 c] w fun e w' => e = .returned (.bool u1) ∧ w = w')
    (K2 : ∀ w, Calls Tryz.prog 86 #[.int .i64 r] w fun e w' => e = .returned (.bool u2) ∧ w = w') :
    Calls Tryz.prog 63 #[.agg #[.int .i64 c, .int .i64 r, .slice a n cap]] w fun e w' => e = .returned (.tuple #[.string ⟨#[]⟩, .bool false]) ∧ Below w.heap.size w w' := by
  have H1 := Lib.hid K1; have H2 := Lib.hid K2
  clear K1 K2
  cases u1
  · clear h e3
    go_enter Tryz.func63, Tryz.ntmps63
    go_wp2_with fail
    refine (H1.out _).mono ?_
    rintro e w1 ⟨rfl, rfl⟩
    go_wp2
    go_ret2
    exact ⟨rfl, up_alloc (Below.refl _ _) _⟩
  cases u2
  · clear h e3
    go_enter Tryz.func63, Tryz.ntmps63
    go_wp2_with (first
      | (go_at_call 86; with_reducible refine (H1.out _).mono ?_; rintro e w' ⟨rfl, rfl⟩)
      | (go_at_call 86; with_reducible refine (H2.out _).mono ?_; rintro e w' ⟨rfl, rfl⟩))
    go_ret2
    exact ⟨rfl, up_alloc (Below.refl _ _) _⟩
  · obtain rfl : u3 = true := by simpa using h
    clear h
    go_enter Tryz.func63, Tryz.ntmps63
    go_wp2_with (first
      | (go_at_call 86; with_reducible refine (H1.out _).mono ?_; rintro e w' ⟨rfl, rfl⟩)
      | (go_at_call 86; with_reducible refine (H2.out _).mono ?_; rintro e w' ⟨rfl, rfl⟩))
    go_ret2
    exact ⟨rfl, up_alloc (Below.refl _ _) _⟩

def TellRel (H : List UInt8) (l : List Sp) (n : Nat) (w : World) (t i : Value) (wr : World) : Prop :=
  ∃ k : Nat, k ≤ n ∧ t = .string (tx (H ++ tailT (l.take k))) ∧ i = .int .i64 (k : Int) ∧ Hid (∀ p ∈ l.take k, rightB p.d p.n = true) ∧ ∃ u : Later w, wr = u.now
theorem take_snoc {α : Type} {l : List α} {k : Nat} {p : α} (h : l[k]? = some p) : l.take (k + 1) = l.take k ++ [p] := by
  obtain ⟨hlt, rfl⟩ := List.getElem?_eq_some_iff.1 h
  exact List.take_succ_eq_append_getElem hlt
theorem tail_snoc (l : List Sp) (p : Sp) : tailT (l ++ [p]) = tailT l ++ 32 :: textS p := by simp [tailT]
theorem tail_len (l : List Sp) (h : ∀ p ∈ l, rightB p.d p.n = true) : (tailT l).length ≤ 23 * l.length := by
  induction l with
  | nil => simp [tailT]
  | cons p l ih =>
    obtain ⟨⟨d0, d1⟩, n0, n1⟩ := rightB_true (h p (by simp))
    have := textS_len p (by omega) n1
    have := ih fun q hq => h q (by simp [hq])
    unfold tailT at this ⊢
    rw [List.flatMap_cons]
    simp only [List.length_append, List.length_cons]
    omega

set_option maxRecDepth 100000 in
set_option maxHeartbeats 2000000 in
theorem schTell_good (c r : Int) (a : Option Addr) (l : List Sp) (n cap : Nat) (w : World) (H P q R1 : ByteArray) (F : ByteArray × Bool) (hn : l.length = n) (hn6 : n ≤ 6)
    (hR1 : P ++ ⟨#[120]⟩ = R1) (hR2 : R1 ++ q = H) (p1 : P.size ≤ 20) (q1 : q.size ≤ 20) (r1 : R1.size ≤ 21) (L : List UInt8) (hL : H = tx L) (hH : L.length ≤ 41)
    (hF : F = if (l.all fun p => rightB p.d p.n) = true then (tx (L ++ tailT l), true) else (⟨#[]⟩, false)) (hg : Tab w) (hI : InL w a l)
    (K1 : ∀ w, Calls Tryz.prog 86 #[.int .i64 c] w fun e w' => e = .returned (.bool true) ∧ w = w')
    (K2 : ∀ w, Calls Tryz.prog 86 #[.int .i64 r] w fun e w' => e = .returned (.bool true) ∧ w = w')
    (D1 : ∀ w, Tab w → Calls Tryz.prog 67 #[.int .i64 c] w fun e w' => e = .returned (.string P) ∧ Below w.heap.size w w')
    (D2 : ∀ w, Tab w → Calls Tryz.prog 67 #[.int .i64 r] w fun e w' => e = .returned (.string q) ∧ Below w.heap.size w w') :
    Calls Tryz.prog 63 #[.agg #[.int .i64 c, .int .i64 r, .slice a n cap]] w fun e w' => e = .returned (.tuple #[.string F.1, .bool F.2]) ∧ Below w.heap.size w w' := by
  have z6 : decide ((6 : Int) < (n : Int)) = false := by simp; omega
  have H1 := Lib.hid K1; have H2 := Lib.hid K2; have HD1 := Lib.hid D1; have HD2 := Lib.hid D2; have HN := Lib.hid hn; have HF := Lib.hid hF; have HI := Lib.hid hI; have G := Lib.hid hg; have HL := Lib.hid hL
  clear K1 K2 D1 D2 hn hF hI hg hL
  have hHz : H.size ≤ 41 := by rw [HL.out, tx_size]; exact hH
  go_enter Tryz.func63, Tryz.ntmps63
  have A := Bx.new w 26 [.int .i64 c, .int .i64 r, .slice a n cap]
  have B0 := Lib.hid (up_alloc (Below.refl _ w) (.cells #[.int .i64 c, .int .i64 r, .slice a n cap] 26))
  go_wp2_with (first
    | (go_at_call 86; with_reducible refine (H1.out _).mono ?_; rintro e w' ⟨rfl, rfl⟩)
    | (go_at_call 86; with_reducible refine (H2.out _).mono ?_; rintro e w' ⟨rfl, rfl⟩))
  have k0 := A.cell 0 rfl; have k1 := A.cell 1 rfl; have k2 := A.cell 2 rfl
  have G0 := Lib.hid (G.out.below B0.out)
  have HI0 := Lib.hid (HI.out.up B0.out)
  clear A
  generalize hw0 : (w.alloc (.cells #[.int .i64 c, .int .i64 r, .slice a n cap] 26)) = w0 at *
  clear hw0
  refine later_start (w := w0) ?_
  intro u
  have j0 := fun u : Later w0 => u.cell k0
  have j1 := fun u : Later w0 => u.cell k1
  have j2 := fun u : Later w0 => u.cell k2
  clear k0 k1 k2
  refine wp_region_later (by kernel_rfl) (by kernel_rfl) ?_
  repeat (go_big_quiet_step ((first
    | (go_at_call 67; with_reducible exact Later.call (HD1.out _ (G0.out.below (Later.up _))))
    | (go_at_call 67; with_reducible exact Later.call (HD2.out _ (G0.out.below (Later.up _)))))))
  refine wpQuiet_nil ?_
  rintro _ ⟨u1, rfl⟩
  have x2 := j2 u1
  clear j0 j1 j2
  go_wp2
  go_loopw [4, 36] (fun t i wr => TellRel L l n w0 t i wr) (fun _ i _ => n - (intOf i).toNat)
  case atStart => exact ⟨0, by omega, by rw [HL.out]; simp [tailT], by go_num, Lib.hid (by simp), u1, rfl⟩
  case round =>
    obtain ⟨k, hk, rfl, rfl, HA, u, rfl⟩ := hrel
    by_cases hlt : k < n
    · obtain ⟨p, hp⟩ : ∃ p, l[k]? = some p := ⟨l[k]'(by rw [HN.out]; exact hlt), List.getElem?_eq_getElem _⟩
      obtain ⟨b, off, rfl, hc⟩ := HI0.out.resolve_left (by rintro rfl; cases hp)
      obtain ⟨d0, d1, d2⟩ := (hc.up u.up) k p hp
      have HT := Lib.hid (take_snoc hp)
      have hmem : p ∈ l := List.mem_of_getElem? hp
      have KP := stepPut_any p
      have z0 : (0 : Int) ≤ (k : Int) := by omega
      have z1 : (k : Int) < (n : Int) := by omega
      cases hr : rightB p.d p.n
      · have E := Lib.hid (show F = (⟨#[]⟩, false) by
          rw [HF.out, if_neg]
          intro h
          rw [List.all_eq_true] at h
          rw [h p hmem] at hr
          cases hr)
        rw [hr] at KP
        simp only [Bool.false_eq_true, if_false] at KP
        obtain ⟨pd, pn, pu⟩ := p
        simp only at d0 d1 d2 KP
        have HP := Lib.hid KP
        clear KP hc hp hr hmem
        go_wp2_with fail
        refine (HP.out _ ((G0.out.below u.up).below (up_alloc (Below.refl _ _) _))).mono ?_
        rintro e w2 ⟨rfl, hb2⟩
        have B2 := Lib.hid (up_trans (up_alloc u.up (.cells #[.int .i64 pd, .int .i64 pn, .bool pu] 78)) hb2)
        clear hb2
        go_wp2
        go_ret2
        exact ⟨by rw [E.out]; rfl, up_trans B0.out B2.out⟩
      · have HA2 := Lib.hid (show ∀ q ∈ l.take (k + 1), rightB q.d q.n = true by
          rw [HT.out]
          intro q hq
          rcases List.mem_append.1 hq with h | h
          · exact HA.out q h
          · obtain rfl := List.mem_singleton.1 h; exact hr)
        rw [hr] at KP
        simp only [if_true] at KP
        have hz := textS_len p (by have := rightB_true hr; omega) (by have := rightB_true hr; omega)
        have htl := tail_len (l.take k) HA.out
        rw [List.length_take, HN.out] at htl
        have hts : (tx (L ++ tailT (l.take k))).size ≤ 200 := by rw [tx_size, List.length_append]; omega
        have hps : (tx (textS p)).size ≤ 22 := by rw [tx_size]; exact hz.1
        have hq1 : (⟨#[32]⟩ : ByteArray) ++ tx (textS p) = tx (32 :: textS p) := by
          have : (⟨#[32]⟩ : ByteArray) = tx [32] := rfl
          rw [this, tx_append]; rfl
        have hqs : (tx (32 :: textS p)).size ≤ 23 := by rw [tx_size]; simp; exact hz.1
        have hq2 : tx (L ++ tailT (l.take k)) ++ tx (32 :: textS p) = tx (L ++ tailT (l.take (k + 1))) := by rw [tx_append, HT.out, tail_snoc, List.append_assoc]
        have HR := Lib.hid (rfl : tx (L ++ tailT (l.take (k + 1))) = tx (L ++ tailT (l.take (k + 1))))
        obtain ⟨R, hR⟩ : ∃ R, tx (L ++ tailT (l.take (k + 1))) = R := ⟨_, rfl⟩
        rw [hR] at hq2
        have HRR := Lib.hid hR
        clear hR HR
        generalize tx (L ++ tailT (l.take k)) = T at *
        generalize tx (32 :: textS p) = Q at *
        generalize tx (textS p) = S at *
        obtain ⟨pd, pn, pu⟩ := p
        simp only at d0 d1 d2 KP
        have HP := Lib.hid KP
        clear KP hc hp hr hmem htl hz
        go_wp2_with fail
        refine (HP.out _ ((G0.out.below u.up).below (up_alloc (Below.refl _ _) _))).mono ?_
        rintro e w2 ⟨rfl, hb2⟩
        have B2 := Lib.hid (up_trans (up_alloc u.up (.cells #[.int .i64 pd, .int .i64 pn, .bool pu] 78)) hb2)
        clear hb2
        go_wp2
        go_roundw
        case rel => exact ⟨k + 1, by omega, by rw [HRR.out], by go_num, HA2, ⟨_, B2.out⟩, rfl⟩
        case measure => simp [intOf]; omega
    · obtain rfl : k = n := by omega
      have hall : l.take k = l := List.take_of_length_le (by rw [HN.out]; omega)
      have E := Lib.hid (show F = (tx (L ++ tailT (l.take k)), true) by
        rw [HF.out, if_pos, hall]
        rw [List.all_eq_true]
        rw [hall] at HA
        exact HA.out)
      generalize tx (L ++ tailT (l.take k)) = T at *
      clear hall
      go_wp2
      go_ret2
      exact ⟨by rw [E.out]; rfl, up_trans B0.out u.up⟩

theorem itoa_size (n : Int) (n0 : -9223372036854775808 ≤ n) (n1 : n ≤ 9223372036854775807) : (tx (Lib.itoa n)).size ≤ 20 := by rw [tx_size]; exact (itoa_len n n0 n1).2
theorem schTell_any (s : Sc) (a : Option Addr) (cap : Nat) (w : World) (h : InL w a s.l) (hg : Tab w) :
    Calls Tryz.prog 63 #[.agg #[.int .i64 s.c, .int .i64 s.r, .slice a s.l.length cap]] w fun e w' => e = .returned (.tuple #[.string (tellT s), .bool (toldB s)]) ∧ Below w.heap.size w w' := by
  have K1 := fun w => schIsSide_any s.c w
  have K2 := fun w => schIsSide_any s.r w
  by_cases hb : sideB s.c = true ∧ sideB s.r = true ∧ s.l.length ≤ 6
  · obtain ⟨h1, h2, h6⟩ := hb
    have c1 := sideB_true h1
    have r1 := sideB_true h2
    rw [h1] at K1
    rw [h2] at K2
    have hx : (⟨#[120]⟩ : ByteArray) = tx [120] := rfl
    refine (schTell_good s.c s.r a s.l _ cap w (tx (headT s)) (tx (Lib.itoa s.c)) (tx (Lib.itoa s.r)) (tx (Lib.itoa s.c ++ [120])) (tellT s, toldB s) rfl h6 (by rw [hx, tx_append]) (by rw [tx_append]; simp [headT]) (itoa_size _ (by omega) (by omega)) (itoa_size _ (by omega) (by omega)) ?_ (headT s) rfl ?_ ?_ hg h K1 K2 (fun w hw => decPut_any s.c w (by omega) (by omega) hw) (fun w hw => decPut_any s.r w (by omega) (by omega) hw)).mono ?_
    · have := itoa_len s.c (by omega) (by omega)
      rw [tx_size, List.length_append, List.length_singleton]
      omega
    · have := itoa_len s.c (by omega) (by omega)
      have := itoa_len s.r (by omega) (by omega)
      unfold headT
      simp only [List.length_append, List.length_cons]
      omega
    · unfold tellT toldB
      rw [h1, h2]
      simp only [Bool.and_self, Bool.true_and, decide_eq_true h6]
      split
      · rename_i e; rw [e]
      · rename_i e; simp [e]
    · rintro e w' ⟨rfl, hb⟩
      exact ⟨rfl, hb⟩
  · have ht : toldB s = false := by
      rw [← Bool.not_eq_true]
      intro h2
      unfold toldB at h2
      simp only [Bool.and_eq_true, decide_eq_true_eq] at h2
      exact hb ⟨h2.1.1, h2.1.2, h2.2.1⟩
    unfold tellT
    rw [ht]
    refine schTell_bad s.c s.r a _ cap _ _ _ w rfl ?_ K1 K2
    by_cases h1 : sideB s.c = true
    · by_cases h2 : sideB s.r = true
      · right; right
        have : ¬ s.l.length ≤ 6 := fun h6 => hb ⟨h1, h2, h6⟩
        simp; omega
      · right; left; simpa using h2
    · left; simpa using h1
end Go.Proofs.YtenigkjonegdmaaGreatDoor
/- What scheme.catalogue yields: each name, in order, and the text of its scheme, as long as they are wanted, whatever is done with each. -/
namespace Go.Proofs.YtenigkjonegdmaaGreatDoor
open Go.RowKit Go.Shelf
set_option linter.unusedVariables false

/-- A row of the catalogue. -/
abbrev CatE := { e : List UInt8 × Sc // e ∈ catS }
def catL : List CatE := catS.attach
def textE (x : CatE) : List UInt8 := joinM (partsM x.1.2)
/-- A name, and its scheme's text, as a loop's two variables. -/
def encE (x : CatE) : Array Value := #[.string (tx x.1.1), .string (tx (textE x))]
/-- A row as the program writes it. -/
def rowE (e : List UInt8 × Sc) : List UInt8 := e.1 ++ 32 :: joinM (partsC e.2)
theorem cat_cut : ∀ e ∈ catS, Lib.cut (rowE e) [32] = (e.1, joinM (partsC e.2), true) := by decide +kernel
theorem cat_split : ∀ e ∈ catS, Lib.split (joinM (partsC e.2)) [32] = partsC e.2 := by decide +kernel
theorem cat_short : ∀ e ∈ catS, (rowE e).length ≤ 100 ∧ (joinM (partsC e.2)).length ≤ 100 ∧ ∀ p ∈ partsC e.2, p.length ≤ 100 := by decide +kernel
theorem catL_length : catL.length = 21 := by simp [catL]; rfl
theorem catL_at {k : Nat} {x : CatE} (h : catL[k]? = some x) : catS[k]? = some x.1 := by
  unfold catL at h
  rw [List.getElem?_attach] at h
  simp only [Option.pmap_eq_some_iff] at h
  obtain ⟨a, ha, h1, rfl⟩ := h
  exact h1
theorem below_drewN {B : Nat} {a w : World} (h : Below B a w) : ∀ n, Below B a (w.drewN n)
  | 0 => h
  | n + 1 => (below_drewN h n).drew

def catC : Array Value := (catS.map fun e => Value.string (tx (rowE e))).toArray
def catZ : Array Value := (List.replicate 21 (Value.string ⟨#[]⟩)).toArray
theorem cat_alloc (w : World) : (Instr.alloc 132 true (.tuple #[])).run Tryz.prog w = .ok (.pointer (some ⟨w.heap.size, 0, none⟩)) (w.alloc (.cells catZ 132)) := by
  kernel_rfl

theorem cat_row (k : Nat) (e : List UInt8 × Sc) (h : catS[k]? = some e) (w : World) : (Instr.index 132 (.agg catC) (.int .i64 (k : Int))).run Tryz.prog w = .ok (.string (tx (rowE e))) w := by
  have hk : k < 21 := (List.getElem?_eq_some_iff.1 h).1
  have hc : k = 0 ∨ k = 1 ∨ k = 2 ∨ k = 3 ∨ k = 4 ∨ k = 5 ∨ k = 6 ∨ k = 7 ∨ k = 8 ∨ k = 9 ∨ k = 10 ∨ k = 11 ∨ k = 12 ∨ k = 13 ∨ k = 14 ∨ k = 15 ∨ k = 16 ∨ k = 17 ∨ k = 18 ∨ k = 19 ∨ k = 20 := by omega
  rcases hc with rfl | rfl | rfl | rfl | rfl | rfl | rfl | rfl | rfl | rfl | rfl | rfl | rfl | rfl | rfl | rfl | rfl | rfl | rfl | rfl | rfl
  all_goals
    obtain rfl := Option.some.inj h
    exact (show _ = _ from by kernel_rfl)
theorem grown_row (W : World) (cs cs' : Array Value) (t : TypeId) : W.grownBy ((W.alloc (.cells cs t)).setRow W.heap.size cs') none := by
  refine ⟨rfl, rfl, rfl, by simp [World.setRow], fun k hk _ => ?_⟩
  unfold World.setRow
  simp only [Array.getElem?_modify]
  rw [if_neg (by omega)]
  exact Below.heap_alloc W _ _ hk
theorem below_row (W : World) {B : Nat} (cs cs' : Array Value) (t : TypeId) (h : B ≤ W.heap.size) : Below B W ((W.alloc (.cells cs t)).setRow W.heap.size cs') := by
  have hg := grown_row W cs cs' t
  exact Below.grown (Below.refl B W) hg h (fun k e => by cases e)

theorem cat_cutRow (x : CatE) (w : World) (hm : Mx w) :
    Calls Tryz.prog 99 #[.string (tx (rowE x.1)), .string ⟨#[32]⟩] w fun e w' => e = .returned (.tuple #[.string (tx x.1.1), .string (tx (textE x)), .bool true]) ∧ ∃ n, w' = w.drewN n := by
  obtain ⟨m, hm⟩ := hm
  refine (Tryz.strings_Cut (tx (rowE x.1)) ⟨#[32]⟩ m w (by have := (cat_short x.1 x.2).1; rw [tx_size]; omega) hm).mono ?_
  rintro e w' ⟨rfl, n, rfl⟩
  refine ⟨?_, n, rfl⟩
  rw [data_tx, show (⟨#[32]⟩ : ByteArray).data.toList = [32] from rfl, cat_cut x.1 x.2]
  unfold textE
  rw [cat_parts x.1 x.2]
  rfl

set_option maxRecDepth 100000 in
set_option maxHeartbeats 4000000 in
theorem catalogue_in (n l0 n₀ : Nat) (J Jx : List CatE → World → Prop)
    (hal : ∀ pre W W', J pre W → W.grownBy W' none → J pre W')
    (hY : ∀ pre x W, J pre W → pre.length < 21 → YieldAt Fence.wide (n - 1) Tryz.prog l0 (encE x) W fun e W' =>
      (e = .returned (.bool true) ∧ J (pre ++ [x]) W' ∧ Below n₀ W W') ∨ (e = .returned (.bool false) ∧ Jx (pre ++ [x]) W'))
    (W : World) (hn : n₀ ≤ W.heap.size) (hm : ∃ m, 0 < n₀ ∧ W.cell? ⟨0, 0, none⟩ = some (.int .i64 m)) (h0 : J [] W) :
    CallsIn Fence.wide n Tryz.prog 85 #[.func (.yield l0) #[] #[]] W fun e W' => (∃ v, e = .returned v) ∧
      ((∃ ys, ys = catL ∧ J ys W') ∨ (∃ pre, (∃ k, k < 21 ∧ pre = catL.take (k + 1)) ∧ Jx pre W')) := by
  refine callsIn_of_wp Tryz.func85 rfl trivial ?_ rfl
  simp only [Tryz.ntmps85, List.size_toArray, List.length_cons, List.length_nil, Nat.reduceAdd, Nat.reduceSub, Array.replicate_succ, Array.replicate_zero, List.push_toArray, List.append_toArray, List.nil_append, List.cons_append]
  have HY := Lib.hid hY; have HJ := Lib.hid h0; have HN := Lib.hid hn; have HL := Lib.hid hal; have HM := Lib.hid hm
  clear hY hal h0 hm
  clear hn
  refine wpIn_seq (wpIn_wide.2 (wp_region_lit ?_))
  refine wpList_build_to rfl 132 _ rfl catC (by kernel_rfl) ?_
  refine wpList_alloc_to rfl _ rfl _ _ (cat_alloc W) ?_
  refine wpList_store_row rfl _ _ _ rfl W.heap.size catC rfl rfl _ _ (heap_alloc_new W _) (by kernel_rfl) (by kernel_rfl) (by kernel_rfl) ?_
  refine wpList_nil ?_
  show Code.wpIn Fence.wide n Tryz.prog _ _ _ _
  refine wpIn_seq (wpIn_wide.2 (wp_region_lit ?_))
  refine wpList_load_row rfl _ _ rfl W.heap.size rfl _ catC _ _ (setRow_heap _ _ _ _ _ _ (heap_alloc_new W _)) Tryz.underlying132 rfl (by kernel_rfl) ?_
  have hr := fun k e h w => cat_row k e h w
  obtain ⟨A, hA⟩ : ∃ A, Value.agg catC = A := ⟨_, rfl⟩
  have hg : W.grownBy ((W.alloc (.cells catZ 132)).setRow W.heap.size catC) none := grown_row W _ _ _
  have hw : Below n₀ W ((W.alloc (.cells catZ 132)).setRow W.heap.size catC) := below_row W _ _ _ HN.out
  have hJ1 := HL.out _ _ _ HJ.out hg
  rw [hA] at hr ⊢
  generalize ((W.alloc (.cells catZ 132)).setRow W.heap.size catC) = w1 at *
  have HJ1 := Lib.hid hJ1; have HB := Lib.hid hw; have HR := Lib.hid hr
  clear hA hg hw hJ1 hr
  refine wpList_plain rfl fun _ hK => ?_
  unfold Oper.wp execOp
  refine hK _ _ (wpList_nil ?_)
  show Code.wpIn Fence.wide n Tryz.prog _ _ _ _
  gi_wp2
  gi_loopw [10] (fun i wr => ∃ k : Nat, k ≤ 21 ∧ i = .int .i64 (k : Int) ∧ J (catL.take k) wr ∧ Below n₀ W wr) (fun i _ => 21 - (intOf i).toNat)
  case atStart => exact ⟨0, by omega, by go_num, HJ1.out, HB.out⟩
  case round =>
    obtain ⟨k, hk, rfl, hJs, hb⟩ := hrel
    by_cases hlt : k < 21
    · obtain ⟨x, hx⟩ : ∃ x, catL[k]? = some x := ⟨catL[k]'(by rw [catL_length]; exact hlt), List.getElem?_eq_getElem _⟩
      have hix := fun w => HR.out k x.1 (catL_at hx) w
      have hs := take_snoc hx
      have z0 : (0 : Int) ≤ (k : Int) := by omega
      have z1 : (k : Int) < 21 := by omega
      obtain ⟨m, hm, hcm⟩ := HM.out
      have KC := cat_cutRow x wr ⟨m, (hb.cell (p := ⟨0, 0, none⟩) hm).trans hcm⟩
      have KY := fun W' h => HY.out (catL.take k) x W' h (by rw [List.length_take, catL_length]; omega)
      unfold encE at KY
      have HKC := Lib.hid KC; have HKY := Lib.hid KY; have HS := Lib.hid hs; have HBk := Lib.hid hb; have HJk := Lib.hid hJs
      generalize tx (rowE x.1) = P at *
      generalize tx x.1.1 = Q at *
      generalize tx (textE x) = R at *
      clear KC KY hs hb hJs hx
      gi_wp2
      refine ⟨trivial, fun h => by simp [Fence.wide] at h, (callsIn_wide.2 HKC.out).mono ?_⟩
      rintro e w2 ⟨rfl, nd, rfl⟩
      have hJ2 := HL.out _ _ (wr.drewN nd) HJk.out ⟨rfl, rfl, rfl, Nat.le_refl _, fun _ _ _ => rfl⟩
      obtain ⟨fn, tmps, assign, body, hy, hR⟩ := HKY.out _ hJ2
      clear hJ2 HKY HKC hix hcm
      gi_wp2
      refine ⟨fun h => by simp [Fence.wide] at h, hR.mono ?_⟩
      rintro e W3 (⟨rfl, hJ3, hk3⟩ | ⟨rfl, hJx3⟩)
      · gi_wp2
        go_roundw
        case rel => exact ⟨k + 1, by omega, by go_num, by rw [HS.out]; exact hJ3, (below_drewN HBk.out nd).trans hk3⟩
        case measure => simp [intOf]; omega
      · gi_wp2
        refine bodyPost_ret (results_none rfl _ _ _) rfl ?_
        exact ⟨⟨_, rfl⟩, .inr ⟨_, ⟨k, hlt, rfl⟩, by rw [HS.out]; exact hJx3⟩⟩
    · obtain rfl : k = 21 := by omega
      have HJ2 := Lib.hid hJs
      clear hJs hb
      gi_wp2
      go_end0
      exact ⟨⟨_, rfl⟩, .inl ⟨_, rfl, by have := HJ2.out; rwa [List.take_of_length_le (by rw [catL_length]; omega)] at this⟩⟩

/-- What catalogue yields, as a range over it sees it; the body may write what lies in block n₀ or behind it. -/
theorem catalogue_from (n n₀ : Nat) (w : World) (hn : n₀ ≤ w.heap.size) (hm : ∃ m, 0 < n₀ ∧ w.cell? ⟨0, 0, none⟩ = some (.int .i64 m)) :
    SeqStopsK Fence.wide n Tryz.prog 85 #[] encE (Below n₀) (fun ys => ys = catL) (fun pre => ∃ k, k < 21 ∧ pre = catL.take (k + 1)) 21 w := fun l0 J Jx W hW hJ _ hY h0 => by
  obtain ⟨m, hlt, hm⟩ := hm
  exact catalogue_in n l0 n₀ J Jx (fun pre W W' h hg => hJ pre W W' none h hg (fun r e => by cases e)) hY W (by have := hW.size; omega) ⟨m, hlt, bl_cell hW hm⟩ h0
/-- What catalogue yields, as a range over it sees it. -/
theorem catalogue_stops (n : Nat) (w : World) (hm : Mx w) :
    SeqStopsK Fence.wide n Tryz.prog 85 #[] encE (Below w.heap.size) (fun ys => ys = catL) (fun pre => ∃ k, k < 21 ∧ pre = catL.take (k + 1)) 21 w := fun l0 J Jx W hW hJ _ hY h0 => by
  obtain ⟨m, hm⟩ := hm
  have hlt := World.block_lt_of_cell? w _ hm
  exact catalogue_in n l0 w.heap.size J Jx (fun pre W W' h hg => hJ pre W W' none h hg (fun r e => by cases e)) hY W hW.size ⟨m, hlt, bl_cell hW hm⟩ h0
end Go.Proofs.YtenigkjonegdmaaGreatDoor
