/- Part 14 of the texts that the proofs of this seat share: CallOrder, CallHeld, NumRow, IntsSame, RefNums, QuickOrder, AnyOrder. -/
import Derived.Test.YtomakbnbokaigaaGreatDoorPart1
import Derived.Deep.RegionHeld3
import Derived.BigQuiet
import Derived.Test.YtomakbnbokaigaaGreatDoorPart4
import Derived.Deep.MidRow
import Derived.Test.YtomakbnbokaigaaGreatDoorProg
import Derived.IntWalk
import Derived.Laws.AppendOwn
import Derived.Laws.IdiomCopy
import Derived.RangeFuncBox
import Derived.Deep.Upon
import Derived.Lib.Hide
import Derived.WalkKit
import Derived.StillTail
import Derived.KernelRfl
/- A region that draws its order and holds calls which make memory: what only reads is taken ahead of each call, in an order that is handed over and checked. -/
namespace Go.Proofs.YtomakbnbokaigaaGreatDoor
open Go.RowKit
set_option linter.unusedVariables false

/-- An operation that only hands on, reckons or reads: it yields a value, or none. -/
def takeable (o : Oper) : Bool := match o.op with
  | .move _ | .assign _ | .pick .. | .load .. | .fieldAddr .. | .indexAddr .. | .binOp .. | .unOp .. | .build .. | .field .. | .index ..  | .convert .. | .extract .. | .slice .. => true
  | _ => false
theorem value_of {P : Program} {m : Sem Value} {w w' : World} {n : Next} (h : (m >>= fun x => pure (Next.value x)).run P w = .ok n w') : ∃ u, n = .value u := by
  rw [Sem.run_bind] at h
  cases hm : m.run P w with
  | ok x w1 => rw [hm] at h; cases h; exact ⟨x, rfl⟩
  | halt x w1 => rw [hm] at h; cases h
theorem bool_of {P : Program} {m : Sem Bool} {x y : Value} {w w' : World} {n : Next} (h : (m >>= fun b => pure (Next.value (if b = true then x else y))).run P w = .ok n w') : ∃ u, n = .value u := by
  rw [Sem.run_bind] at h
  cases hm : m.run P w with
  | ok b w1 => rw [hm] at h; cases h; exact ⟨_, rfl⟩
  | halt b w1 => rw [hm] at h; cases h
theorem takeable_value {P : Program} {o : Oper} {ρ : Operand → Value} {w w' : World} {n : Next} (ht : takeable o = true) (h : (execOp ρ o).run P w = .ok n w') : ∃ u, n = .value u := by
  unfold takeable at ht
  unfold execOp at h
  split at ht
  all_goals first
    | exact absurd ht (by decide)
    | (rename_i e; rw [e] at h; exact value_of h)
    | (rename_i e; rw [e] at h; cases h; exact ⟨_, rfl⟩)
    | (rename_i e; rw [e] at h; exact bool_of h)

def takesB (ops : Array Oper) : Array Bool → List Nat → Option (Array Bool)
  | s, [] => some s
  | s, i :: r => if (Region.ready .any ops s).contains i && Region.free .any ops s i && (ops[i]?.map takeable).getD false then takesB ops (s.setIfInBounds i true) r else none
def planB (ops : Array Oper) : Array Bool → List (List Nat × Nat) → List Nat → Bool
  | s, [], fin => match takesB ops s fin with
    | some s' => (Region.ready .any ops s').isEmpty
    | none => false
  | s, (is, c) :: r, fin => match takesB ops s is with
    | some s' => decide (Region.ready .any ops s' = [c]) && planB ops (s'.setIfInBounds c true) r fin
    | none => false
/-- The plan serves: what it takes may be taken, each call is all that may come up then. -/
def planOk (l : List Oper) (plan : List (List Nat × Nat)) (fin : List Nat) : Bool := Region.noSelect l.toArray && planB l.toArray (Array.replicate l.length false) plan fin

/-- Stands where there is no operation. -/
def noOper : Oper := { dst := none, op := .move (.tmp 0), type := 0, pos := "", after := #[], guard := none }
/-- The walk: of each part what is taken, quietly; then the call. -/
def walkC (P : Program) (l : List Oper) (Q : Exit → Act → World → Prop) (S : World → Prop) : List (List Nat × Nat) → List Nat → Act → World → Prop
  | [], fin, a, w => wpQuiet P l.toArray S (fun a' => Q .normal a' w) (fin.map fun i => l.getD i noOper) a
  | (is, c) :: r, fin, a, w => wpQuiet P l.toArray S (fun a' => ∀ o, l[c]? = some o → ∀ K : Act → World → Prop, Shut (∀ a w, S w → walkC P l Q S r fin a w → K a w) →
      if Region.wanted o (yielded l.toArray a'.tmps) = true then Oper.wp P o a' w K Q else K (a'.put o.dst undef) w) (is.map fun i => l.getD i noOper) a

section
variable {P : Program} {l : List Oper} {Q : Exit → Act → World → Prop} {S : World → Prop}
/-- A part of the walk: what is taken; then the call. -/
theorem walkC_take {is : List Nat} {c : Nat} {r : List (List Nat × Nat)} {fin : List Nat} {a : Act} {w : World} (oc : Oper) (hc : l[c]? = some oc)
    (h : ∀ K0 : Act → Prop, Shut (∀ a', (∀ K : Act → World → Prop, Shut (∀ a w, S w → walkC P l Q S r fin a w → K a w) → if Region.wanted oc (yielded l.toArray a'.tmps) = true then Oper.wp P oc a' w K Q else K (a'.put oc.dst undef) w) → K0 a') →
      wpQuiet P l.toArray S K0 (is.map fun i => l.getD i noOper) a) : walkC P l Q S ((is, c) :: r) fin a w := by
  refine h _ (fun a' h' o ho => ?_)
  rw [hc] at ho
  cases ho
  exact h'
/-- The last part. -/
theorem walkC_last {fin : List Nat} {a : Act} {w : World} (h : ∀ K0 : Act → Prop, Shut (∀ a', Q .normal a' w → K0 a') → wpQuiet P l.toArray S K0 (fin.map fun i => l.getD i noOper) a) : walkC P l Q S [] fin a w :=
  h _ (fun _ h => h)
theorem takes_list (hsel : Region.noSelect l.toArray = true) (hQ : ∀ c (a : Act) d v w, Q (.panic c) (a.put d v) w → Q (.panic c) a w) {w : World} (hS : S w) (fuel : Nat) :
    ∀ (is : List Nat) (s s' : Array Bool) (a : Act), takesB l.toArray s is = some s' → wpQuiet P l.toArray S (fun a' => wpAnyH P .any l.toArray Q S fuel s' a' w) (is.map fun i => l.getD i noOper) a → wpAnyH P .any l.toArray Q S (fuel + is.length) s a w
  | [], s, s', a, h, hq => by
    simp only [takesB, Option.some.injEq] at h
    subst h
    exact hq
  | i :: r, s, s', a, h, hq => by
    unfold takesB at h
    split at h
    · rename_i hc
      simp only [Bool.and_eq_true] at hc
      obtain ⟨⟨h1, h2⟩, h3⟩ := hc
      cases ho : l[i]? with
      | none => rw [show l.toArray[i]? = none by simpa using ho] at h3; cases h3
      | some o =>
        have ho' : l.toArray[i]? = some o := by simpa using ho
        rw [ho'] at h3
        simp only [Option.map_some, Option.getD_some] at h3
        rw [List.map_cons, List.getD_eq_getElem?_getD, ho, Option.getD_some] at hq
        have go : ∀ v, YieldsIf P l.toArray S o v a → wpQuiet P l.toArray S (fun a' => wpAnyH P .any l.toArray Q S fuel s' a' w) (r.map fun i => l.getD i noOper) (a.put o.dst v) → wpAnyH P .any l.toArray Q S (fuel + (i :: r).length) s a w := fun v hy hv =>
          wpAnyH_take ho' hsel h2 h1 (fun c a w h => hQ c a _ _ w h) hy hS (takes_list hsel hQ hS fuel r _ s' _ h hv)
        simp only [wpQuiet] at hq
        split at hq
        · rename_i hw
          obtain ⟨v, hv, hr⟩ := hq
          refine go v (.inl ⟨hw, fun w hw => ?_⟩) hr
          have := hv w hw
          unfold Oper.quietAt at this
          cases hrun : (execOp a.eval o).run P w with
          | ok n w' =>
            obtain ⟨u, rfl⟩ := takeable_value h3 hrun
            rw [hrun] at this
            simp only [Oper.quietUpon] at this
            rw [this.1, this.2]
          | halt x w' => rw [hrun] at this; exact this.elim
        · rename_i hw
          exact go undef (.inr ⟨by simpa using hw, rfl⟩) hq
    · cases h

theorem walkC_wp (hsel : Region.noSelect l.toArray = true) (hQ : ∀ c (a : Act) d v w, Q (.panic c) (a.put d v) w → Q (.panic c) a w) (fin : List Nat) :
    ∀ (plan : List (List Nat × Nat)) (s : Array Bool) (a : Act) (w : World), S w → planB l.toArray s plan fin = true → walkC P l Q S plan fin a w → ∀ fuel, wpAnyH P .any l.toArray Q S ((plan.map fun x => x.1.length + 1).sum + fin.length + fuel) s a w
  | [], s, a, w, hS, hB, h, fuel => by
    simp only [planB] at hB
    split at hB
    · rename_i s' hs
      have hr : Region.ready .any l.toArray s' = [] := by simpa using hB
      have H : ∀ (m : List Oper) (a : Act), wpQuiet P l.toArray S (fun a' => Q .normal a' w) m a → wpQuiet P l.toArray S (fun a' => wpAnyH P .any l.toArray Q S fuel s' a' w) m a := by
        intro m
        induction m with
        | nil => intro a h; exact wpAnyH_done hr h _
        | cons o m ih =>
          intro a h
          simp only [wpQuiet] at h ⊢
          split
          · rename_i hw
            rw [if_pos hw] at h
            obtain ⟨v, h1, h2⟩ := h
            exact ⟨v, h1, ih _ h2⟩
          · rename_i hw
            rw [if_neg hw] at h
            exact ih _ h
      have := takes_list hsel hQ hS fuel fin s s' a hs (H _ _ h)
      rwa [show ([] : List (List Nat × Nat)).map (fun x => x.1.length + 1) = [] from rfl, List.sum_nil, Nat.zero_add, Nat.add_comm]
    · cases hB
  | (is, c) :: r, s, a, w, hS, hB, h, fuel => by
    simp only [planB] at hB
    split at hB
    · rename_i s' hs
      simp only [Bool.and_eq_true, decide_eq_true_eq] at hB
      obtain ⟨hr, hB⟩ := hB
      have hmem : c ∈ Region.ready .any l.toArray s' := by rw [hr]; simp
      obtain ⟨-, o, ho, -⟩ := mem_ready.1 hmem
      have ho' : l[c]? = some o := by simpa using ho
      have H : ∀ (m : List Oper) (a : Act), wpQuiet P l.toArray S (fun a' => ∀ o, l[c]? = some o → ∀ K : Act → World → Prop, Shut (∀ a w, S w → walkC P l Q S r fin a w → K a w) →
          if Region.wanted o (yielded l.toArray a'.tmps) = true then Oper.wp P o a' w K Q else K (a'.put o.dst undef) w) m a → wpQuiet P l.toArray S (fun a' => wpAnyH P .any l.toArray Q S ((r.map fun x => x.1.length + 1).sum + fin.length + fuel + 1) s' a' w) m a := by
        intro m
        induction m with
        | nil =>
          intro a h
          refine wpAnyH_ready hr (by simp) (AllReadyH.cons ho (fun K hK => h o ho' K (fun a w hS hW => hK a w hS (fun hS => walkC_wp hsel hQ fin r _ a w hS hB hW fuel))) AllReadyH.nil)
        | cons o m ih =>
          intro a h
          simp only [wpQuiet] at h ⊢
          split
          · rename_i hw
            rw [if_pos hw] at h
            obtain ⟨v, h1, h2⟩ := h
            exact ⟨v, h1, ih _ h2⟩
          · rename_i hw
            rw [if_neg hw] at h
            exact ih _ h
      have := takes_list hsel hQ hS _ is s s' a hs (H _ _ h)
      rw [List.map_cons, List.sum_cons]
      rwa [show is.length + 1 + (r.map fun x => x.1.length + 1).sum + fin.length + fuel = (r.map fun x => x.1.length + 1).sum + fin.length + fuel + 1 + is.length by omega]
    · cases hB
end

/-- The region; what stands in later worlds of w stands all along. -/
theorem wp_region_calls {P : Program} {id : Nat} {Q : Exit → Act → World → Prop} {a : Act} {w : World} {l : List Oper} (plan : List (List Nat × Nat)) (fin : List Nat) (hm : P.follows .mixedOrders = true) (hB : planOk l plan fin = true)
    (hn : l.length = (plan.map fun x => x.1.length + 1).sum + fin.length) (hQ : ∀ c (a : Act) d v w, Q (.panic c) (a.put d v) w → Q (.panic c) a w)
    (h : walkC P l Q (fun w' => ∃ u : Later w, w' = u.now) plan fin a w.drew) : (Code.region id l.toArray true).wp P Q a w := by
  simp only [planOk, Bool.and_eq_true] at hB
  have hS : (fun w' => ∃ u : Later w, w' = u.now) w.drew := ⟨⟨_, up_drew (Below.refl _ _)⟩, rfl⟩
  refine wp_region_held_drew (S := fun w' => ∃ u : Later w, w' = u.now) hm hS fun _ => ?_
  have := walkC_wp (S := fun w' => ∃ u : Later w, w' = u.now) hB.1 hQ fin plan _ a w.drew hS hB.2 h 0
  rw [Nat.add_zero, ← hn] at this
  simpa using this
end Go.Proofs.YtomakbnbokaigaaGreatDoor
/- The walk of CallOrder, where the region also stores: what one block's cells hold stands all along. -/
namespace Go.Proofs.YtomakbnbokaigaaGreatDoor
open Go.RowKit
set_option linter.unusedVariables false

/-- A world in which the cells of block B hold what they held. -/
structure Held (B : Nat) (w : World) where
  now : World
  kept : ∀ p : Addr, p.block = B → ∀ v, w.cell? p = some v → now.cell? p = some v
instance (B : Nat) (w : World) : Nonempty (Held B w) := ⟨⟨w, fun _ _ _ h => h⟩⟩
theorem Held.cell {B o : Nat} {w : World} {v : Value} (u : Held B w) (h : w.cell? ⟨B, o, none⟩ = some v) : u.now.cell? ⟨B, o, none⟩ = some v := u.kept _ rfl _ h
theorem held_refl (B : Nat) (w : World) : ∃ u : Held B w, w = u.now := ⟨⟨w, fun _ _ _ h => h⟩, rfl⟩
theorem held_drew (B : Nat) (w : World) : ∃ u : Held B w, w.drew = u.now := ⟨⟨w.drew, fun _ _ _ h => h⟩, rfl⟩
theorem held_up {B : Nat} {w w' : World} (h : Below w.heap.size w w') : ∃ u : Held B w, w' = u.now := ⟨⟨w', fun _ _ _ hv => bl_cell h hv⟩, rfl⟩
/-- Another block is stored to. -/
theorem held_sets {B B' : Nat} {w w' : World} (h : Below w.heap.size w w') (hB : B ≠ B') (o : Nat) (vs : List Value) : ∃ u : Held B w, w'.setCells B' o vs = u.now := ⟨⟨_, fun p hp v hv => by
  rw [World.cell?_setCells_out B' vs o w' p (fun e _ => absurd (hp.symm.trans e) hB)]
  exact bl_cell h hv⟩, rfl⟩
theorem held_range {w : World} {B : Nat} {cs : List Value} (h : Bx w B cs) : ∀ w', (∃ u : Held B w, w' = u.now) → w'.rangeAt B 0 cs := by
  rintro _ ⟨u, rfl⟩ j v hj
  exact u.kept _ rfl _ (by simpa using h.cell j hj)

/-- The region; S stands all along. -/
theorem wp_region_callsS {P : Program} {id : Nat} {Q : Exit → Act → World → Prop} {a : Act} {w : World} {l : List Oper} (S : World → Prop) (plan : List (List Nat × Nat)) (fin : List Nat) (hm : P.follows .mixedOrders = true) (hB : planOk l plan fin = true)
    (hn : l.length = (plan.map fun x => x.1.length + 1).sum + fin.length) (hQ : ∀ c (a : Act) d v w, Q (.panic c) (a.put d v) w → Q (.panic c) a w)
    (hS : S w.drew) (h : walkC P l Q S plan fin a w.drew) : (Code.region id l.toArray true).wp P Q a w := by
  simp only [planOk, Bool.and_eq_true] at hB
  refine wp_region_held_drew (S := S) hm hS fun _ => ?_
  have := walkC_wp (S := S) hB.1 hQ fin plan _ a w.drew hS hB.2 h 0
  rw [Nat.add_zero, ← hn] at this
  simpa using this
end Go.Proofs.YtomakbnbokaigaaGreatDoor
/- Lists of numbers, as they come in and as a deck keeps them; what a call leaves as it was. -/
namespace Go.Proofs.YtomakbnbokaigaaGreatDoor
open Go.RowKit
set_option linter.unusedVariables false

theorem Tryz.infoInt : (Tryz.prog.info? 3).map (fun i => (i.zero, i.size, i.bytes)) = some (some (.int .i64 0), 1, 8) := by kernel_rfl
/-- The numbers as cells. -/
def enc (l : List Int) : List Value := l.map (Value.int .i64)
theorem enc_length (l : List Int) : (enc l).length = l.length := by simp [enc]
theorem enc_get {l : List Int} {j : Nat} {u : Value} (h : (enc l)[j]? = some u) : ∃ x, l[j]? = some x ∧ u = .int .i64 x := by
  simp [enc] at h
  obtain ⟨x, h1, h2⟩ := h
  exact ⟨x, h1, h2.symm⟩
theorem enc_one {l : List Int} : ∀ u ∈ enc l, u.oneCell' = true := by
  intro u hu
  obtain ⟨x, _, rfl⟩ := List.mem_map.1 hu
  rfl
theorem enc_append (l m : List Int) : enc (l ++ m) = enc l ++ enc m := by simp [enc]

/-- The numbers of a slice that lies at a. -/
def Nums (w : World) (a : Option Addr) (l : List Int) : Prop := l = [] ∨ ∃ b off, a = some ⟨b, off, none⟩ ∧ ∀ j x, l[j]? = some x → w.cell? ⟨b, off + j, none⟩ = some (.int .i64 x)
theorem Nums.nil {w : World} {a : Option Addr} : Nums w a [] := .inl rfl
theorem Nums.up {w w' : World} {a : Option Addr} {l : List Int} (h : Nums w a l) (hb : Below w.heap.size w w') : Nums w' a l := by
  rcases h with h | ⟨b, off, e, h⟩
  · exact .inl h
  · exact .inr ⟨b, off, e, fun j x hx => bl_cell hb (h j x hx)⟩
theorem Nums.take {w : World} {a : Option Addr} {l : List Int} (h : Nums w a l) (k : Nat) : Nums w a (l.take k) := by
  rcases h with rfl | ⟨b, off, e, h⟩
  · exact .inl (by simp)
  · refine .inr ⟨b, off, e, fun j x hx => h j x ?_⟩
    rw [List.getElem?_take] at hx
    split at hx
    · exact hx
    · cases hx
theorem Nums.drop {w : World} {b off : Nat} {l : List Int} (h : Nums w (some ⟨b, off, none⟩) l) (k : Nat) : Nums w (some ⟨b, off + k, none⟩) (l.drop k) := by
  rcases h with rfl | ⟨b', off', e, h⟩
  · exact .inl (by simp)
  · cases e
    refine .inr ⟨b, off + k, rfl, fun j x hx => ?_⟩
    rw [List.getElem?_drop] at hx
    rw [Nat.add_assoc]
    exact h _ x hx
theorem Nums.cell {w : World} {a : Option Addr} {l : List Int} (h : Nums w a l) (hl : 0 < l.length) : ∃ b off, a = some ⟨b, off, none⟩ ∧ ∀ j x, l[j]? = some x → w.cell? ⟨b, off + j, none⟩ = some (.int .i64 x) := by
  rcases h with rfl | h
  · simp at hl
  · exact h
/-- A list of the call's own, as any list. -/
theorem Nums.own {w : World} {base : Nat} {v : Value} {l : List Int} (h : w.ownsRow base 3 1 v l.length (enc l)) : ∃ a c, v = .slice a l.length c ∧ Nums w a l ∧ (∀ p, a = some p → p.block < w.heap.size ∧ base ≤ p.block) := by
  rcases h.2 with ⟨rfl, h0⟩ | ⟨g, cap, cur, rfl, hb, hg, hcap, hmax, hsz, htk⟩
  · exact ⟨none, 0, by rw [h0], .inl (List.eq_nil_of_length_eq_zero h0), fun p hp => by cases hp⟩
  · refine ⟨some ⟨g, 0, none⟩, cap, rfl, .inr ⟨g, 0, rfl, fun j x hx => ?_⟩, fun p hp => by cases hp; exact ⟨(Array.getElem?_eq_some_iff.1 hg).1, hb⟩⟩
    have := h.cells (g := g) rfl j (.int .i64 x) (by simp [enc, hx])
    rwa [show (⟨g, 0, none⟩ : Addr).add j = ⟨g, 0 + j, none⟩ by unfold Addr.add; split <;> simp_all] at this

theorem Nums.but {D R : Nat} {w w' : World} {a : Option Addr} {l : List Int} (h : Nums w a l) (hb : But D R w w') (hn : ∀ p, a = some p → p.block ≠ D ∧ p.block ≠ R) : Nums w' a l := by
  rcases h with h | ⟨b, off, rfl, h⟩
  · exact .inl h
  · obtain ⟨h1, h2⟩ := hn _ rfl
    exact .inr ⟨b, off, rfl, fun j x hx => (World.cell?_of_block (hb.block b (World.block_lt_of_cell? w _ (h j x hx)) h1 h2)).trans (h j x hx)⟩

/-- v is a slice of numbers that may be written, and grows as far as its block goes: it lies in R (a nil one lies nowhere). -/
def RowAt (w : World) (R : Nat) (v : Value) (l : List Int) : Prop :=
  (v = .slice none 0 0 ∧ l = []) ∨ ∃ off c cur, v = .slice (some ⟨R, off, none⟩) l.length c ∧ w.heap[R]? = some (.cells cur 3 (0, 0)) ∧ l.length ≤ c ∧ c ≤ maxLen ∧ off + c ≤ cur.size ∧ ∀ j x, l[j]? = some x → w.cell? ⟨R, off + j, none⟩ = some (.int .i64 x)
theorem RowAt.kept {w w' : World} {R : Nat} {v : Value} {l : List Int} (h : RowAt w R v l) (hb : R < w.heap.size → w'.heap[R]? = w.heap[R]?) : RowAt w' R v l := by
  rcases h with h | ⟨off, c, cur, hv, hc, h1, h2, h3, h4⟩
  · exact .inl h
  · have e := hb (Array.getElem?_eq_some_iff.1 hc).1
    exact .inr ⟨off, c, cur, hv, e.trans hc, h1, h2, h3, fun j x hx => (World.cell?_of_block (a := ⟨R, off + j, none⟩) e).trans (h4 j x hx)⟩
theorem RowAt.nums {w : World} {R : Nat} {v : Value} {l : List Int} (h : RowAt w R v l) : ∃ a c, v = .slice a l.length c ∧ Nums w a l ∧ l.length ≤ c ∧ c ≤ maxLen := by
  rcases h with ⟨rfl, rfl⟩ | ⟨off, c, cur, rfl, hc, h1, h2, h3, h4⟩
  · exact ⟨none, 0, rfl, .inl rfl, Nat.le_refl _, Nat.zero_le _⟩
  · exact ⟨_, c, rfl, .inr ⟨R, off, rfl, h4⟩, h1, h2⟩
theorem RowAt.of {w : World} {base : Nat} {v : Value} {l : List Int} (h : w.ownsRow base 3 1 v l.length (enc l)) (D : Nat) : ∃ R, RowAt w R v l ∧ ((v = .slice none 0 0 ∧ R = D) ∨ (base ≤ R ∧ R < w.heap.size ∧ v ≠ .slice none 0 0)) := by
  obtain ⟨a, c, e, hn, _⟩ := Nums.own h
  rcases h.2 with ⟨rfl, h0⟩ | ⟨g, cap, cur, rfl, hb, hg, hcap, hmax, hsz, htk⟩
  · exact ⟨D, .inl ⟨rfl, List.eq_nil_of_length_eq_zero h0⟩, .inl ⟨rfl, rfl⟩⟩
  · refine ⟨g, .inr ⟨0, cap, cur, rfl, hg, hcap, hmax, by omega, ?_⟩, .inr ⟨hb, (Array.getElem?_eq_some_iff.1 hg).1, by simp⟩⟩
    intro j x hx
    rcases hn with h0 | ⟨b, off, e1, h1⟩
    · rw [h0] at hx; simp at hx
    · cases e
      cases e1
      exact h1 j x hx
end Go.Proofs.YtomakbnbokaigaaGreatDoor
/- What the reference's comparison of two lists of numbers answers, of a list twice. -/
namespace Go.Proofs.YtomakbnbokaigaaGreatDoor
open Go.RowKit
set_option linter.unusedVariables false


end Go.Proofs.YtomakbnbokaigaaGreatDoor
/- A job's numbers by the reference: all of them, from what to what they may be. -/
namespace Go.Proofs.YtomakbnbokaigaaGreatDoor
open Go.RowKit
set_option linter.unusedVariables false

end Go.Proofs.YtomakbnbokaigaaGreatDoor
/- A cheaper check that a great region's head may be walked in the order of the text, its tail in one forced order. -/
namespace Go.Proofs.YtomakbnbokaigaaGreatDoor
set_option linter.unusedVariables false
set_option linter.unnecessarySimpa false

/-- What counts of an operation: its slot, what it looks at, what it waits for. -/
abbrev Tr := Option Nat × List Nat × List Nat
def tripOf (ops : Array Oper) (o : Oper) : Tr := (o.dst, o.looksAt ops, (o.after.toList.filter (Region.binds .any)).map (·.on))
def apartT (t s : Tr) : Bool :=
  (match t.1 with | some d => !s.2.1.contains d && s.1 != some d | none => true) && (match s.1 with | some d => !t.2.1.contains d | none => true)
def backT : Nat → List Tr → Bool
  | _, [] => true
  | k, t :: r => t.2.2.all (fun j => decide (j < k)) && backT (k + 1) r
def freeT : Nat → Nat → List Tr → Bool
  | 0, _, _ => true
  | _, _, [] => true
  | f + 1, k, t :: r => r.all (fun s => s.2.2.contains k || apartT t s) && freeT f (k + 1) r
def chainT : Nat → List Tr → Bool
  | _, [] => true
  | k, t :: r => t.2.2.contains (k - 1) && chainT (k + 1) r
def sinkT (T : List Tr) (n : Nat) : Bool := (List.range n).all fun i => T.any fun t => t.2.2.contains i
def quickT (T : List Tr) (n : Nat) : Bool := decide (n < T.length) && backT 0 T && freeT n 0 T && sinkT (T.take (n + 1)) n && chainT (n + 1) (T.drop (n + 1))
def forceN {β : Type} : List Nat → (List Nat → β) → β
  | [], k => k []
  | x :: xs, k => forceN xs fun ys => k (x :: ys)
theorem forceN_eq {β : Type} (l : List Nat) (k : List Nat → β) : forceN l k = k l := by
  induction l generalizing k with
  | nil => rfl
  | cons x xs ih => simp only [forceN, ih]
def forceT {β : Type} : List Tr → (List Tr → β) → β
  | [], k => k []
  | x :: xs, k => forceN x.2.1 fun a => forceN x.2.2 fun b => forceT xs fun ys => k ((x.1, a, b) :: ys)
theorem forceT_eq {β : Type} (l : List Tr) (k : List Tr → β) : forceT l k = k l := by
  induction l generalizing k with
  | nil => rfl
  | cons x xs ih => simp only [forceT, forceN_eq, ih]
def quickB (l : List Oper) (n : Nat) : Bool := Region.noSelect l.toArray && forceT (l.map (tripOf l.toArray)) fun T => quickT T n

theorem backT_spec : ∀ (T : List Tr) (k : Nat), backT k T = true → ∀ i t, T[i]? = some t → ∀ j ∈ t.2.2, j < k + i
  | [], _, _, i, t, ht, _, _ => by simp at ht
  | t0 :: r, k, h, i, t, ht, j, hj => by
    simp only [backT, Bool.and_eq_true, List.all_eq_true, decide_eq_true_eq] at h
    cases i with
    | zero => simp only [List.getElem?_cons_zero, Option.some.injEq] at ht; subst ht; exact h.1 j hj
    | succ i => have := backT_spec r (k + 1) h.2 i t (by simpa using ht) j hj; omega
theorem freeT_spec : ∀ (f : Nat) (T : List Tr) (k : Nat), freeT f k T = true → ∀ i t, i < f → T[i]? = some t → ∀ j s, i < j → T[j]? = some s → (s.2.2.contains (k + i) || apartT t s) = true
  | 0, _, _, _, i, _, hi, _, _, _, _, _ => by omega
  | f + 1, [], _, _, i, t, _, ht, _, _, _, _ => by simp at ht
  | f + 1, t0 :: r, k, h, i, t, hi, ht, j, s, hij, hs => by
    simp only [freeT, Bool.and_eq_true, List.all_eq_true] at h
    obtain ⟨j, rfl⟩ : ∃ m, j = m + 1 := ⟨j - 1, by omega⟩
    simp only [List.getElem?_cons_succ] at hs
    cases i with
    | zero =>
      simp only [List.getElem?_cons_zero, Option.some.injEq] at ht
      subst ht
      exact h.1 s (List.mem_of_getElem? hs)
    | succ i =>
      have := freeT_spec f r (k + 1) h.2 i t (by omega) (by simpa using ht) j s (by omega) hs
      rwa [show k + (i + 1) = k + 1 + i by omega]
theorem chainT_spec : ∀ (T : List Tr) (k : Nat), chainT k T = true → ∀ (i : Nat) (t : Tr), T[i]? = some t → t.2.2.contains (k + i - 1) = true
  | [], _, _, i, t, ht => by simp at ht
  | t0 :: r, k, h, i, t, ht => by
    simp only [chainT, Bool.and_eq_true] at h
    cases i with
    | zero => simp only [List.getElem?_cons_zero, Option.some.injEq] at ht; subst ht; simpa using h.1
    | succ i =>
      have := chainT_spec r (k + 1) h.2 i t (by simpa using ht)
      rwa [show k + (i + 1) - 1 = k + 1 + i - 1 by omega]

section
variable {l : List Oper}
theorem trip_waits {o : Oper} {i : Nat} : (tripOf l.toArray o).2.2.contains i = true ↔ ∃ e ∈ o.after, Region.binds .any e = true ∧ e.on = i := by
  simp only [tripOf, List.contains_iff_mem, List.mem_map, List.mem_filter, Array.mem_toList_iff]
  exact ⟨fun ⟨e, ⟨h1, h2⟩, h3⟩ => ⟨e, h1, h2, h3⟩, fun ⟨e, h1, h2, h3⟩ => ⟨e, ⟨h1, h2⟩, h3⟩⟩
theorem trip_any {o : Oper} {i : Nat} (h : (tripOf l.toArray o).2.2.contains i = true) : (o.after.any fun e => Region.binds .any e && e.on == i) = true := by
  obtain ⟨e, he, hb, rfl⟩ := trip_waits.1 h
  exact Array.any_eq_true'.2 ⟨e, he, by simp [hb]⟩
theorem trip_at {i : Nat} {o : Oper} (h : l[i]? = some o) : (l.map (tripOf l.toArray))[i]? = some (tripOf l.toArray o) := by
  rw [List.getElem?_map, h]; rfl

/-- The first k operations are listed. -/
def Upto (l : List Oper) (k : Nat) (s : Array Bool) : Prop := s.size = l.length ∧ ∀ j, j < l.length → s[j]? = some (decide (j < k))
theorem Upto.getD {k : Nat} {s : Array Bool} (h : Upto l k s) {j : Nat} (hj : j < l.length) (b : Bool) : s.getD j b = decide (j < k) := by
  rw [Array.getD_eq_getD_getElem?, h.2 j hj]; rfl
theorem Upto.next {k : Nat} {s : Array Bool} (h : Upto l k s) : Upto l (k + 1) (s.setIfInBounds k true) := by
  refine ⟨by rw [Array.size_setIfInBounds]; exact h.1, fun j hj => ?_⟩
  rw [Array.getElem?_setIfInBounds]
  by_cases e : k = j
  · subst e
    have : k < s.size := by rw [h.1]; exact hj
    simp [this]
  · rw [if_neg e, h.2 j hj]
    congr 1
    by_cases hk : j < k
    · simp [hk]; omega
    · have h1 : ¬ j < k + 1 := by omega
      simp [hk, h1]

theorem quick_ready {k : Nat} {s : Array Bool} (h : Upto l k s) {o : Oper} (ho : l[k]? = some o) (hb : ∀ j ∈ (tripOf l.toArray o).2.2, j < k) : k ∈ Region.ready .any l.toArray s := by
  have hk : k < l.length := (List.getElem?_eq_some_iff.1 ho).1
  rw [mem_ready]
  refine ⟨by rw [h.getD hk]; simp, o, by simpa using ho, fun e he hbind => ?_⟩
  have hlt : e.on < k := hb e.on (List.contains_iff_mem.1 (trip_waits.2 ⟨e, he, hbind, rfl⟩))
  rw [h.getD (by omega)]
  simpa using hlt
theorem quick_free {k : Nat} {s : Array Bool} (h : Upto l k s) {o : Oper} (ho : l[k]? = some o)
    (hf : ∀ j p, k < j → l[j]? = some p → ((tripOf l.toArray p).2.2.contains k || apartT (tripOf l.toArray o) (tripOf l.toArray p)) = true) : Region.free .any l.toArray s k = true := by
  have ho' : l.toArray[k]? = some o := by simpa using ho
  unfold Region.free
  rw [ho']
  simp only [List.all_eq_true, List.mem_range, List.size_toArray]
  intro j hj
  by_cases e : j = k
  · simp [e]
  · by_cases hk : j < k
    · rw [h.getD hj]; simp [hk]
    · have hp : l[j]? = some l[j] := List.getElem?_eq_getElem hj
      have hp' : l.toArray[j]? = some l[j] := by simpa using hp
      have := hf j _ (by omega) hp
      rw [hp']
      simp only [Bool.or_eq_true] at this ⊢
      rcases this with hw | ha
      · exact .inr (.inl (trip_any hw))
      · exact .inr (.inr ha)
end

theorem filter_one {n k : Nat} (p : Nat → Bool) (hk : k < n) (h : ∀ j, j < n → (p j = true ↔ j = k)) : (List.range n).filter p = [k] := by
  have : (List.range n).filter p = (List.range n).filter (· == k) := by
    apply List.filter_congr
    intro j hj
    have := h j (List.mem_range.1 hj)
    by_cases e : j = k
    · simp [e, (h k hk).2 rfl]
    · have : p j = false := by cases hp : p j with | false => rfl | true => exact absurd (this.1 hp) e
      simp [this, e]
  rw [this, List.filter_beq, List.nodup_range.count, if_pos (List.mem_range.2 hk)]
  rfl

theorem lexTail_quick {l : List Oper} {n : Nat} (h : quickB l n = true) : Region.lexTailB .any l.toArray n = true := by
  simp only [quickB, forceT_eq, quickT, Bool.and_eq_true, decide_eq_true_eq, List.length_map] at h
  obtain ⟨hsel, ⟨⟨⟨hn, hback⟩, hfree⟩, hsink⟩, hchain⟩ := h
  have Hb : ∀ k o, l[k]? = some o → ∀ j ∈ (tripOf l.toArray o).2.2, j < k := fun k o ho j hj => by
    have := backT_spec _ 0 hback k _ (trip_at ho) j hj
    omega
  have Hf : ∀ k o, k < n → l[k]? = some o → ∀ j p, k < j → l[j]? = some p → ((tripOf l.toArray p).2.2.contains k || apartT (tripOf l.toArray o) (tripOf l.toArray p)) = true := fun k o hk ho j p hj hp => by
    have := freeT_spec n _ 0 hfree k _ hk (trip_at ho) j _ hj (trip_at hp)
    rwa [Nat.zero_add] at this
  have Hc : ∀ t o, n < t → l[t]? = some o → (tripOf l.toArray o).2.2.contains (t - 1) = true := fun t o ht ho => by
    have := chainT_spec _ (n + 1) hchain (t - (n + 1)) (tripOf l.toArray o) (by rw [List.getElem?_drop, show n + 1 + (t - (n + 1)) = t by omega]; exact trip_at ho)
    rwa [show n + 1 + (t - (n + 1)) - 1 = t - 1 by omega] at this
  have Hs : ∀ i, i < n → ∃ j o, i < j ∧ j ≤ n ∧ l[j]? = some o ∧ (tripOf l.toArray o).2.2.contains i = true := fun i hi => by
    simp only [sinkT, List.all_eq_true, List.mem_range, List.any_eq_true] at hsink
    obtain ⟨t, ht, hc⟩ := hsink i hi
    obtain ⟨j, hj⟩ := List.getElem?_of_mem ht
    rw [List.getElem?_take] at hj
    split at hj
    · rename_i hjn
      rw [List.getElem?_map, Option.map_eq_some_iff] at hj
      obtain ⟨o, ho, rfl⟩ := hj
      exact ⟨j, o, Hb j o ho i (List.contains_iff_mem.1 hc), by omega, ho, hc⟩
    · cases hj
  have hsz : l.toArray.size = l.length := by simp
  simp only [Region.lexTailB, Bool.and_eq_true, decide_eq_true_eq]
  refine ⟨⟨⟨⟨hsel, by rw [hsz]; exact hn⟩, ?_⟩, ?_⟩, ?_⟩
  · simp only [Region.sinkB, List.all_eq_true, List.mem_range, List.any_eq_true, Bool.and_eq_true, decide_eq_true_eq]
    intro i hi
    obtain ⟨j, o, hij, hjn, ho, hc⟩ := Hs i hi
    refine ⟨j, by omega, hij, ?_⟩
    unfold Region.waitsFor
    rw [show l.toArray[j]? = some o by simpa using ho]
    exact trip_any hc
  · simp only [Region.chainB, List.all_eq_true, List.mem_range, Bool.or_eq_true, decide_eq_true_eq]
    intro t ht
    by_cases hle : t ≤ n
    · exact .inl hle
    · right
      rw [hsz] at ht
      have ho := List.getElem?_eq_getElem ht
      unfold Region.waitsFor
      rw [show l.toArray[t]? = some l[t] by simpa using ho]
      exact trip_any (Hc t _ (by omega) ho)
  · have hseq : ∀ g k s, Upto l k s → n ≤ k → k + g = l.length → Region.seqB .any l.toArray g k s = true := by
      intro g
      induction g with
      | zero =>
        intro k s hu hk hg
        simp only [Region.seqB, List.isEmpty_iff]
        apply List.eq_nil_iff_forall_not_mem.2
        intro j hj
        obtain ⟨h1, o, ho, -⟩ := mem_ready.1 hj
        have hj' : j < l.length := by have := (Array.getElem?_eq_some_iff.1 ho).1; simpa using this
        rw [hu.getD hj'] at h1
        simp only [decide_eq_false_iff_not] at h1
        omega
      | succ g ih =>
        intro k s hu hk hg
        simp only [Region.seqB, Bool.and_eq_true, decide_eq_true_eq]
        refine ⟨?_, ih (k + 1) _ hu.next (by omega) (by omega)⟩
        have hkl : k < l.length := by omega
        have hok := List.getElem?_eq_getElem hkl
        unfold Region.ready
        rw [hsz]
        apply filter_one _ hkl
        intro j hj
        have e : (!s.getD j true && ((l.toArray[j]?).map (·.after.all fun e => !Region.binds .any e || s.getD e.on false)).getD false) = true ↔ j ∈ Region.ready .any l.toArray s := by
          unfold Region.ready
          rw [List.mem_filter, List.mem_range, hsz]
          exact ⟨fun h => ⟨hj, h⟩, fun h => h.2⟩
        rw [e]
        constructor
        · intro hr
          obtain ⟨h1, o, ho, h2⟩ := mem_ready.1 hr
          rw [hu.getD hj] at h1
          simp only [decide_eq_false_iff_not] at h1
          by_cases ejk : j = k
          · exact ejk
          · have hjo : l[j]? = some o := by simpa using ho
            obtain ⟨x, hx, hbx, hon⟩ := trip_waits.1 (Hc j o (by omega) hjo)
            have h3 := h2 x hx hbx
            rw [hu.getD (by omega)] at h3
            simp only [decide_eq_true_eq] at h3
            omega
        · rintro rfl
          exact quick_ready hu hok (Hb _ _ hok)
    have hhead : ∀ f k s, Upto l k s → k + f = n → Region.lexHead .any l.toArray (l.length - n) f k s = true := by
      intro f
      induction f with
      | zero =>
        intro k s hu hk
        simp only [Region.lexHead]
        exact hseq _ k s hu (by omega) (by omega)
      | succ f ih =>
        intro k s hu hk
        have hkl : k < l.length := by omega
        have hok := List.getElem?_eq_getElem hkl
        simp only [Region.lexHead, Bool.and_eq_true]
        exact ⟨⟨List.contains_iff_mem.2 (quick_ready hu hok (Hb _ _ hok)), quick_free hu hok (fun j p hj hp => Hf k _ (by omega) hok j p hj hp)⟩, ih (k + 1) _ hu.next (by omega)⟩
    rw [hsz]
    exact hhead n 0 _ ⟨by simp, fun j hj => by simp [hj]⟩ (by omega)
end Go.Proofs.YtomakbnbokaigaaGreatDoor
/- A region that draws its order, whose head reads, calls and makes boxes for new variables, and whose tail, in one forced order, writes: whatever the order, the slots hold at the head's end what one walk in the order of the text gives, and each new box is a block of its own. -/
namespace Go.Proofs.YtomakbnbokaigaaGreatDoor
open Go.RowKit
set_option linter.unusedVariables false

def isAlloc (o : Oper) : Bool := match o.op with | .alloc _ => true | _ => false
def dstAt (l : List Oper) (i : Nat) : Option Tmp := (l[i]?).bind (·.dst)
/-- What is asked of the head, to be looked through: each operation has a slot of its own, waits only for earlier ones, and waits for whatever it looks at; none looks at a new box. -/
def headOk (l : List Oper) (n N : Nat) : Bool :=
  (List.range n).all fun i => match l[i]? with
    | none => false
    | some o => (match o.dst with
        | none => false
        | some d => decide (d < N) && (List.range n).all fun j => j == i || dstAt l j != some d) &&
      (!(isAlloc o) || o.guard.isNone) && (o.after.all fun e => !Region.binds .any e || decide (e.on < i)) &&
      ((List.range n).all fun j => match l[j]? with
        | none => false
        | some oj => match oj.dst with
          | none => false
          | some d => !(o.looksAt l.toArray).contains d || (decide (j < i) && !(isAlloc oj) && o.after.any fun e => Region.binds .any e && e.on == j))
theorem headOk_spec {l : List Oper} {n N : Nat} (h : headOk l n N = true) (i : Nat) (hi : i < n) :
    ∃ o d, l[i]? = some o ∧ o.dst = some d ∧ d < N ∧ (∀ j, j < n → j ≠ i → dstAt l j ≠ some d) ∧ (isAlloc o = true → o.guard = none) ∧ (∀ e ∈ o.after, Region.binds .any e = true → e.on < i) ∧
      ∀ j, j < n → ∀ oj d', l[j]? = some oj → oj.dst = some d' → d' ∈ o.looksAt l.toArray → j < i ∧ isAlloc oj = false ∧ ∃ e ∈ o.after, Region.binds .any e = true ∧ e.on = j := by
  have h0 := List.all_eq_true.1 h i (List.mem_range.2 hi)
  cases ho : l[i]? with
  | none => rw [ho] at h0; cases h0
  | some o =>
    rw [ho] at h0
    simp only [Bool.and_eq_true] at h0
    obtain ⟨⟨⟨h1, h2⟩, h3⟩, h4⟩ := h0
    cases hd : o.dst with
    | none => rw [hd] at h1; cases h1
    | some d =>
      rw [hd] at h1
      simp only [Bool.and_eq_true, decide_eq_true_eq] at h1
      refine ⟨o, d, rfl, hd, h1.1, fun j hj hji => ?_, fun ha => ?_, fun e he hb => ?_, fun j hj oj d' hoj hd' hm => ?_⟩
      · have := List.all_eq_true.1 h1.2 j (List.mem_range.2 hj)
        simpa [hji] using this
      · simp only [ha, Bool.not_true, Bool.false_or, Option.isNone_iff_eq_none] at h2
        exact h2
      · have := Array.all_eq_true_iff_forall_mem.1 h3 e he
        simpa [hb] using this
      · have := List.all_eq_true.1 h4 j (List.mem_range.2 hj)
        rw [hoj] at this
        simp only [hd'] at this
        have hc : (o.looksAt l.toArray).contains d' = true := by simpa using hm
        rw [hc] at this
        simp only [Bool.not_true, Bool.false_or, Bool.and_eq_true, decide_eq_true_eq, Bool.not_eq_true'] at this
        obtain ⟨⟨k1, k2⟩, k3⟩ := this
        obtain ⟨e, he, hb⟩ := Array.any_eq_true'.1 k3
        simp only [Bool.and_eq_true, beq_iff_eq] at hb
        exact ⟨k1, k2, e, he, hb.1, hb.2⟩

theorem exec_same {ops : Array Oper} {a a' : Act} (o : Oper) (hs : ∀ cs b, o.op ≠ .select cs b) (h : ∀ t ∈ o.looksAt ops, a.tmps[t]? = a'.tmps[t]?) : execOp a.eval o = execOp a'.eval o :=
  execOp_congr o hs fun x hx => by
    cases x with
    | tmp t =>
      have := h t (List.mem_append_left _ (List.mem_filterMap.2 ⟨.tmp t, by simpa using hx, rfl⟩))
      simp [Act.eval, this]
    | _ => rfl
theorem wanted_same {ops : Array Oper} {a a' : Act} (o : Oper) (h : ∀ t ∈ o.looksAt ops, a.tmps[t]? = a'.tmps[t]?) : Region.wanted o (yielded ops a.tmps) = Region.wanted o (yielded ops a'.tmps) := by
  unfold Region.wanted
  cases hg : o.guard with
  | none => rfl
  | some gw =>
    obtain ⟨g, want⟩ := gw
    have hy : yielded ops a.tmps g = yielded ops a'.tmps g := by
      unfold yielded
      cases ht : (ops[g]?).bind (·.dst) with
      | none => rfl
      | some t =>
        have := h t (by simp [Oper.looksAt, hg, ht])
        simp [this]
    simp only [hy]

section
variable {P : Program} {ops : Array Oper} {C : World → Prop} {aF : Act}
/-- Behind the walk a slot that no operation fills is as it was. -/
theorem walk_keeps : ∀ (L : List Oper) (a : Act), wpQuiet P ops C (fun a' => a' = aF) L a → aF.tmps.size = a.tmps.size ∧ aF.defers = a.defers ∧ ∀ t, (∀ o ∈ L, o.dst ≠ some t) → aF.tmps[t]? = a.tmps[t]? := by
  intro L
  induction L with
  | nil => intro a h; obtain rfl : a = aF := h; exact ⟨rfl, rfl, fun _ _ => rfl⟩
  | cons o L ih =>
    intro a h
    have hv : ∃ v, wpQuiet P ops C (fun a' => a' = aF) L (a.put o.dst v) := by
      unfold wpQuiet at h
      split at h
      · obtain ⟨v, _, h⟩ := h; exact ⟨v, h⟩
      · exact ⟨_, h⟩
    obtain ⟨v, hv⟩ := hv
    obtain ⟨h1, h2, h3⟩ := ih _ hv
    refine ⟨h1.trans (by cases o.dst <;> simp [Act.put]), h2.trans (by cases o.dst <;> simp [Act.put]), fun t ht => (h3 t fun o' ho' => ht o' (List.mem_cons_of_mem _ ho')).trans ?_⟩
    have hne := ht o List.mem_cons_self
    cases hd : o.dst with
    | none => rfl
    | some d =>
      have : d ≠ t := fun e => hne (by rw [hd, e])
      simp [Act.put, Array.getElem?_setIfInBounds_ne this]

/-- What the walk shows of its k-th operation: with what is filled ahead of it as at the end, and all else as at the start, it yields what its slot holds at the end. -/
theorem walk_at : ∀ (L : List Oper) (a : Act), wpQuiet P ops C (fun a' => a' = aF) (L.filter fun o => !isAlloc o) a →
    (∀ (i j : Nat) (oi oj : Oper) (t : Tmp), L[i]? = some oi → L[j]? = some oj → oi.dst = some t → oj.dst = some t → i = j) →
    ∀ (k : Nat) (o : Oper) (d : Tmp), L[k]? = some o → isAlloc o = false → o.dst = some d → d < a.tmps.size →
    ∃ act : Act, (∀ (j : Nat) (oj : Oper) (t : Tmp), j < k → L[j]? = some oj → isAlloc oj = false → oj.dst = some t → act.tmps[t]? = aF.tmps[t]?) ∧
      (∀ (t : Tmp), (∀ (j : Nat) (oj : Oper), j < k → L[j]? = some oj → isAlloc oj = false → oj.dst ≠ some t) → act.tmps[t]? = a.tmps[t]?) ∧
      ∃ v, aF.tmps[d]? = some v ∧ ((Region.wanted o (yielded ops act.tmps) = true ∧ ∀ w, C w → o.quietAt P act C w v) ∨ (Region.wanted o (yielded ops act.tmps) = false ∧ v = undef)) := by
  intro L
  induction L with
  | nil => intro a _ _ k o d hk; simp at hk
  | cons o0 L ih =>
    intro a h hdis k o d hk ha hd hlt
    have hdis' : ∀ (i j : Nat) (oi oj : Oper) (t : Tmp), L[i]? = some oi → L[j]? = some oj → oi.dst = some t → oj.dst = some t → i = j := fun i j oi oj t h1 h2 h3 h4 => by
      have := hdis (i + 1) (j + 1) oi oj t (by simpa using h1) (by simpa using h2) h3 h4
      omega
    cases h0 : isAlloc o0 with
    | true =>
      rw [List.filter_cons_of_neg (by simp [h0])] at h
      cases k with
      | zero =>
        simp at hk
        subst hk
        rw [h0] at ha
        cases ha
      | succ k =>
        obtain ⟨act, q1, q2, q3⟩ := ih a h hdis' k o d (by simpa using hk) ha hd hlt
        refine ⟨act, fun j oj t hj hoj hja hjd => ?_, fun t ht => q2 t fun j oj hj hoj hja => ht (j + 1) oj (by omega) (by simpa using hoj) hja, q3⟩
        cases j with
        | zero => simp at hoj; subst hoj; rw [h0] at hja; cases hja
        | succ j => exact q1 j oj t (by omega) (by simpa using hoj) hja hjd
    | false =>
      rw [List.filter_cons_of_pos (by simp [h0])] at h
      have hv : ∃ v, ((Region.wanted o0 (yielded ops a.tmps) = true ∧ ∀ w, C w → o0.quietAt P a C w v) ∨ (Region.wanted o0 (yielded ops a.tmps) = false ∧ v = undef)) ∧ wpQuiet P ops C (fun a' => a' = aF) (L.filter fun o => !isAlloc o) (a.put o0.dst v) := by
        unfold wpQuiet at h
        split at h
        · rename_i hw; obtain ⟨v, h1, h2⟩ := h; exact ⟨v, .inl ⟨hw, h1⟩, h2⟩
        · rename_i hw; exact ⟨_, .inr ⟨by simpa using hw, rfl⟩, h⟩
      obtain ⟨v, hy, hrest⟩ := hv
      obtain ⟨z1, _, z3⟩ := walk_keeps _ _ hrest
      have later : ∀ t, o0.dst = some t → ∀ o' ∈ L.filter (fun o => !isAlloc o), o'.dst ≠ some t := fun t ht o' ho' hd' => by
        obtain ⟨j, hj⟩ := List.getElem?_of_mem (List.mem_filter.1 ho').1
        have := hdis 0 (j + 1) o0 o' t (by simp) (by simpa using hj) ht hd'
        omega
      have fill : ∀ t, o0.dst = some t → t < a.tmps.size → aF.tmps[t]? = some v := fun t ht hs => by
        rw [z3 t (later t ht)]
        simp [Act.put, ht, hs]
      cases k with
      | zero =>
        simp at hk
        subst hk
        exact ⟨a, fun j _ _ hj => absurd hj (by omega), fun _ _ => rfl, v, fill d hd hlt, hy⟩
      | succ k =>
        have hsz : (a.put o0.dst v).tmps.size = a.tmps.size := by cases o0.dst <;> simp [Act.put]
        obtain ⟨act, q1, q2, q3⟩ := ih _ hrest hdis' k o d (by simpa using hk) ha hd (by rw [hsz]; exact hlt)
        refine ⟨act, fun j oj t hj hoj hja hjd => ?_, fun t ht => ?_, q3⟩
        · cases j with
          | zero =>
            simp at hoj
            subst hoj
            rw [q2 t fun j oj hj hoj hja hd' => ?_, z3 t (later t hjd)]
            have := hdis 0 (j + 1) o0 oj t (by simp) (by simpa using hoj) hjd hd'
            omega
          | succ j => exact q1 j oj t (by omega) (by simpa using hoj) hja hjd
        · rw [q2 t fun j oj hj hoj hja => ht (j + 1) oj (by omega) (by simpa using hoj) hja]
          have hne := ht 0 o0 (by omega) (by simp) h0
          cases hd0 : o0.dst with
          | none => rfl
          | some d0 =>
            have : d0 ≠ t := fun e => hne (by rw [hd0, e])
            simp [Act.put, Array.getElem?_setIfInBounds_ne this]
end

theorem Bx.upTo {w w' : World} {B : Nat} {vs : List Value} (h : Bx w B vs) (hlt : B < w.heap.size) (hb : Below w.heap.size w w') : Bx w' B vs :=
  ⟨fun j v hj => bl_cell hb (h.1 j v hj), fun j => (kept_marks hb B j hlt).trans (h.2 j)⟩

/-- The slots of the new boxes, filled. -/
def puts (gf : Nat → Nat) : List (Nat × Tmp) → Act → Act
  | [], a => a
  | x :: r, a => puts gf r (a.put (some x.2) (.pointer (some ⟨gf x.1, 0, none⟩)))
theorem puts_same (gf : Nat → Nat) : ∀ (al : List (Nat × Tmp)) (a : Act), (puts gf al a).tmps.size = a.tmps.size ∧ (puts gf al a).defers = a.defers ∧ ∀ t, (∀ x ∈ al, x.2 ≠ t) → (puts gf al a).tmps[t]? = a.tmps[t]? := by
  intro al
  induction al with
  | nil => intro a; exact ⟨rfl, rfl, fun _ _ => rfl⟩
  | cons x r ih =>
    intro a
    obtain ⟨h1, h2, h3⟩ := ih (a.put (some x.2) (.pointer (some ⟨gf x.1, 0, none⟩)))
    refine ⟨h1.trans (by simp [Act.put]), h2.trans rfl, fun t ht => (h3 t fun y hy => ht y (List.mem_cons_of_mem _ hy)).trans ?_⟩
    simp [Act.put, Array.getElem?_setIfInBounds_ne (ht x List.mem_cons_self)]
theorem puts_at (gf : Nat → Nat) : ∀ (al : List (Nat × Tmp)) (a : Act), (al.map (·.2)).Nodup → ∀ x ∈ al, x.2 < a.tmps.size → (puts gf al a).tmps[x.2]? = some (.pointer (some ⟨gf x.1, 0, none⟩)) := by
  intro al
  induction al with
  | nil => intro a _ x hx; cases hx
  | cons y r ih =>
    intro a hnd x hx hlt
    simp only [List.map_cons, List.nodup_cons] at hnd
    rcases List.mem_cons.1 hx with rfl | hx
    · show (puts gf r _).tmps[x.2]? = _
      rw [(puts_same gf r _).2.2 x.2 fun z hz e => hnd.1 (e ▸ List.mem_map_of_mem hz)]
      simp [Act.put, hlt]
    · exact ih _ hnd.2 x hx (by simpa [Act.put] using hlt)

/-- The list of new boxes, by operation and slot, is right. -/
def boxesOk (l : List Oper) (n : Nat) (al : List (Nat × Tmp)) (ts : List TypeId) : Bool :=
  (al.all fun x => decide (x.1 < n) && (match l[x.1]? with | some o => isAlloc o && o.dst == some x.2 | none => false)) &&
  ((List.range n).all fun i => match l[i]? with | some o => (match o.op with | .alloc t => ts.contains t && al.any (fun x => x.1 == i) | _ => true) | none => false) &&
  decide ((al.map (·.2)).Nodup)
def anyOk (l : List Oper) (n N : Nat) (al : List (Nat × Tmp)) (ts : List TypeId) : Bool :=
  Region.noSelect l.toArray && decide (n < l.length) && Region.sinkB .any l.toArray n && Region.chainB .any l.toArray n &&
  Region.seqB .any l.toArray (l.length - n) n (List.replicate n true ++ List.replicate (l.length - n) false).toArray && headOk l n N && boxesOk l n al ts

/-- As long as the head comes up, in whatever order. -/
structure Under (l : List Oper) (n : Nat) (Z : TypeId → List Value) (a0 aF : Act) (w1 : World) (s : Array Bool) (a : Act) (w : World) : Prop where
  head : HeadInv .any l.toArray n s
  size : a.tmps.size = a0.tmps.size
  defers : a.defers = a0.defers
  fill : ∀ (i : Nat) (o : Oper) (t : Tmp), i < n → s.getD i false = true → l[i]? = some o → isAlloc o = false → o.dst = some t → a.tmps[t]? = aF.tmps[t]?
  rest : ∀ t : Tmp, (∀ (i : Nat) (o : Oper), i < n → s.getD i false = true → l[i]? = some o → o.dst ≠ some t) → a.tmps[t]? = a0.tmps[t]?
  up : Below w1.heap.size w1 w
  boxes : ∃ gf : Nat → Nat, ∀ (i : Nat) (o : Oper) (d : Tmp) (t : TypeId), i < n → s.getD i false = true → l[i]? = some o → o.op = .alloc t → o.dst = some d →
    a.tmps[d]? = some (.pointer (some ⟨gf i, 0, none⟩)) ∧ w1.heap.size ≤ gf i ∧ gf i < w.heap.size ∧ Bx w (gf i) (Z t) ∧ ∀ (j : Nat) (oj : Oper) (tj : TypeId), j < n → s.getD j false = true → l[j]? = some oj → oj.op = .alloc tj → j ≠ i → gf j ≠ gf i

theorem set_listed {s : Array Bool} {i j : Nat} (h : (s.setIfInBounds i true).getD j false = true) (hne : j ≠ i) : s.getD j false = true := by rwa [getD_set_ne false (Ne.symm hne)] at h

/-- An operation of the head that is no new box yields what its slot holds at the end. -/
theorem Under.quiet {l : List Oper} {n N : Nat} {Z : TypeId → List Value} {a0 aF a : Act} {w1 w w' : World} {s : Array Bool} (I : Under l n Z a0 aF w1 s a w) (hok : headOk l n N = true) {i : Nat} {o : Oper} {d : Tmp} {v : Value} (hi : i < n)
    (ho : l[i]? = some o) (ha : isAlloc o = false) (hd : o.dst = some d) (hr : i ∈ Region.ready .any l.toArray s) (hlt : d < a0.tmps.size) (hv : aF.tmps[d]? = some v) (hb : Below w.heap.size w w') :
    Under l n Z a0 aF w1 (s.setIfInBounds i true) (a.put o.dst v) w' := by
  obtain ⟨o', d', ho', hd', _, hdis, _, _, _⟩ := headOk_spec hok i hi
  obtain rfl : o' = o := Option.some.inj (ho'.symm.trans ho)
  obtain rfl : d' = d := Option.some.inj (hd'.symm.trans hd)
  have other : ∀ (j : Nat) (oj : Oper), j < n → l[j]? = some oj → j ≠ i → ∀ t, oj.dst = some t → d' ≠ t := fun j oj hj hoj hji t ht e => hdis j hj hji (by subst e; simp [dstAt, hoj, ht])
  have putNe : ∀ t, d' ≠ t → (a.put o'.dst v).tmps[t]? = a.tmps[t]? := fun t ht => by rw [hd]; simp [Act.put, Array.getElem?_setIfInBounds_ne ht]
  have putAt : (a.put o'.dst v).tmps[d']? = some v := by rw [hd]; simp [Act.put, I.size, hlt]
  refine ⟨I.head.set hr hi, by rw [hd]; simp [Act.put, I.size], by rw [hd]; simp [Act.put, I.defers], fun j oj t hj hl hoj hja hjd => ?_, fun t ht => ?_, up_trans I.up hb, ?_⟩
  · by_cases e : j = i
    · subst e
      obtain rfl : oj = o' := Option.some.inj (hoj.symm.trans ho)
      obtain rfl : t = d' := Option.some.inj (hjd.symm.trans hd)
      rw [putAt, hv]
    · rw [putNe t (other j oj hj hoj e t hjd)]
      exact I.fill j oj t hj (set_listed hl e) hoj hja hjd
  · have hsi : (s.setIfInBounds i true).getD i false = true := by
      have : i < s.size := by rw [I.head.size]; exact (List.getElem?_eq_some_iff.1 ho).1
      simp [this]
    rw [putNe t fun e => ht i o' hi hsi ho (by rw [hd, e])]
    exact I.rest t fun j oj hj hl hoj => ht j oj hj (getD_set_true hl) hoj
  · obtain ⟨gf, hg⟩ := I.boxes
    refine ⟨gf, fun j oj dj t hj hl hoj hop hjd => ?_⟩
    have hja : isAlloc oj = true := by simp [isAlloc, hop]
    have e : j ≠ i := fun e => by
      subst e
      obtain rfl : oj = o' := Option.some.inj (hoj.symm.trans ho)
      rw [hja] at ha; cases ha
    obtain ⟨g1, g2, g3, g4, g5⟩ := hg j oj dj t hj (set_listed hl e) hoj hop hjd
    refine ⟨by rw [putNe dj (other j oj hj hoj e dj hjd)]; exact g1, g2, Nat.lt_of_lt_of_le g3 hb.size, g4.upTo g3 hb, fun k ok tk hk hkl hok' hkop hkj => ?_⟩
    have e' : k ≠ i := fun e => by
      subst e
      obtain rfl : ok = o' := Option.some.inj (hok'.symm.trans ho)
      have : isAlloc ok = true := by simp [isAlloc, hkop]
      rw [this] at ha; cases ha
    exact g5 k ok tk hk (set_listed hkl e') hok' hkop hkj

/-- A new box. -/
theorem Under.box {l : List Oper} {n N : Nat} {Z : TypeId → List Value} {a0 aF a : Act} {w1 w : World} {s : Array Bool} (I : Under l n Z a0 aF w1 s a w) (hok : headOk l n N = true) {i : Nat} {o : Oper} {d : Tmp} {t : TypeId} (hi : i < n)
    (ho : l[i]? = some o) (ha : o.op = .alloc t) (hd : o.dst = some d) (hr : i ∈ Region.ready .any l.toArray s) (hlt : d < a0.tmps.size) :
    Under l n Z a0 aF w1 (s.setIfInBounds i true) (a.put o.dst (.pointer (some ⟨w.heap.size, 0, none⟩))) (w.alloc (.cells (Z t).toArray t)) := by
  obtain ⟨o', d', ho', hd', _, hdis, _, _, _⟩ := headOk_spec hok i hi
  obtain rfl : o' = o := Option.some.inj (ho'.symm.trans ho)
  obtain rfl : d' = d := Option.some.inj (hd'.symm.trans hd)
  have hal : isAlloc o' = true := by simp [isAlloc, ha]
  have hb : Below w.heap.size w (w.alloc (.cells (Z t).toArray t)) := up_alloc (Below.refl _ _) _
  have other : ∀ (j : Nat) (oj : Oper), j < n → l[j]? = some oj → j ≠ i → ∀ t, oj.dst = some t → d' ≠ t := fun j oj hj hoj hji t ht e => hdis j hj hji (by subst e; simp [dstAt, hoj, ht])
  have putNe : ∀ v t, d' ≠ t → (a.put o'.dst v).tmps[t]? = a.tmps[t]? := fun v t ht => by rw [hd]; simp [Act.put, Array.getElem?_setIfInBounds_ne ht]
  have putAt : ∀ v, (a.put o'.dst v).tmps[d']? = some v := fun v => by rw [hd]; simp [Act.put, I.size, hlt]
  refine ⟨I.head.set hr hi, by rw [hd]; simp [Act.put, I.size], by rw [hd]; simp [Act.put, I.defers], fun j oj t hj hl hoj hja hjd => ?_, fun t ht => ?_, up_trans I.up hb, ?_⟩
  · have e : j ≠ i := fun e => by
      subst e
      obtain rfl : oj = o' := Option.some.inj (hoj.symm.trans ho)
      rw [hal] at hja; cases hja
    rw [putNe _ t (other j oj hj hoj e t hjd)]
    exact I.fill j oj t hj (set_listed hl e) hoj hja hjd
  · have hsi : (s.setIfInBounds i true).getD i false = true := by
      have : i < s.size := by rw [I.head.size]; exact (List.getElem?_eq_some_iff.1 ho).1
      simp [this]
    rw [putNe _ t fun e => ht i o' hi hsi ho (by rw [hd, e])]
    exact I.rest t fun j oj hj hl hoj => ht j oj hj (getD_set_true hl) hoj
  · obtain ⟨gf, hg⟩ := I.boxes
    refine ⟨fun k => if k = i then w.heap.size else gf k, fun j oj dj tj hj hl hoj hop hjd => ?_⟩
    by_cases e : j = i
    · subst e
      obtain rfl : oj = o' := Option.some.inj (hoj.symm.trans ho)
      obtain rfl : dj = d' := Option.some.inj (hjd.symm.trans hd)
      obtain rfl : tj = t := by rw [ha] at hop; injection hop with hop; exact hop.symm
      simp only [if_true]
      refine ⟨putAt _, I.up.size, by simp, Bx.new w tj (Z tj), fun k ok tk hk hkl hok' hkop hkj => ?_⟩
      rw [if_neg hkj]
      cases hkd : ok.dst with
      | none =>
        obtain ⟨o2, d2, h2, h3, _⟩ := headOk_spec hok k hk
        obtain rfl : o2 = ok := Option.some.inj (h2.symm.trans hok')
        rw [hkd] at h3; cases h3
      | some dk =>
        have := (hg k ok dk tk hk (set_listed hkl hkj) hok' hkop hkd).2.2.1
        omega
    · obtain ⟨g1, g2, g3, g4, g5⟩ := hg j oj dj tj hj (set_listed hl e) hoj hop hjd
      simp only [if_neg e]
      refine ⟨by rw [putNe _ dj (other j oj hj hoj e dj hjd)]; exact g1, g2, Nat.lt_of_lt_of_le g3 hb.size, g4.upTo g3 hb, fun k ok tk hk hkl hok' hkop hkj => ?_⟩
      by_cases e' : k = i
      · subst e'; simp only [if_true]; omega
      · rw [if_neg e']; exact g5 k ok tk hk (set_listed hkl e') hok' hkop hkj

theorem count_less {p q : Nat → Bool} {i : Nat} (hp : p i = true) (hq : q i = false) (hpq : ∀ j, j ≠ i → q j = p j) : ∀ L : List Nat, L.Nodup → i ∈ L → L.countP p = L.countP q + 1 := by
  intro L
  induction L with
  | nil => intro _ h; cases h
  | cons x L ih =>
    intro hn hi
    rw [List.nodup_cons] at hn
    by_cases e : x = i
    · subst e
      rw [List.countP_cons_of_pos hp, List.countP_cons_of_neg (by simp [hq])]
      congr 1
      exact List.countP_congr fun y hy => by rw [hpq y fun e => hn.1 (e ▸ hy)]
    · have hm : i ∈ L := (List.mem_cons.1 hi).resolve_left fun h => e h.symm
      have := ih hn.2 hm
      rw [List.countP_cons, List.countP_cons, hpq x e, this]
      omega
theorem least_unlisted (s : Array Bool) : ∀ m : Nat, (∀ j, j < m → s.getD j false = true) ∨ ∃ i, i < m ∧ s.getD i false = false ∧ ∀ j, j < i → s.getD j false = true := by
  intro m
  induction m with
  | zero => exact .inl fun j hj => absurd hj (by omega)
  | succ m ih =>
    rcases ih with h | ⟨i, h1, h2, h3⟩
    · cases e : s.getD m false with
      | true => exact .inl fun j hj => (Nat.lt_or_eq_of_le (Nat.le_of_lt_succ hj)).elim (h j) fun e' => e' ▸ e
      | false => exact .inr ⟨m, by omega, e, h⟩
    · exact .inr ⟨i, by omega, h2, h3⟩

theorem under_wp {P : Program} {l : List Oper} {n N : Nat} {al : List (Nat × Tmp)} {ts : List TypeId} {Z : TypeId → List Value} {a0 aF : Act} {w1 : World} {Q : Exit → Act → World → Prop} (hB : anyOk l n N al ts = true) (hN : a0.tmps.size = N)
    (hwalk : ∀ v0 : World, Below w1.heap.size w1 v0 → wpQuiet P l.toArray (fun w' => ∃ u : Later v0, w' = u.now) (fun a' => a' = aF) ((l.take n).filter fun o => !isAlloc o) a0)
    (hz : ∀ t ∈ ts, ∀ (o : Oper) (ρ : Operand → Value) (w : World), o.op = .alloc t → (execOp ρ o).run P w = .ok (.value (.pointer (some ⟨w.heap.size, 0, none⟩))) (w.alloc (.cells (Z t).toArray t)))
    (htail : ∀ (gf : Nat → Nat) (w' : World), Below w1.heap.size w1 w' → (∀ x ∈ al, ∀ (o : Oper) (t : TypeId), l[x.1]? = some o → o.op = .alloc t → w1.heap.size ≤ gf x.1 ∧ Bx w' (gf x.1) (Z t)) →
      (∀ x ∈ al, ∀ y ∈ al, x.1 ≠ y.1 → gf x.1 ≠ gf y.1) → wpList P l.toArray Q (l.drop n) (puts gf al aF) w') :
    ∀ (f : Nat) (s : Array Bool) (a : Act) (w : World), Under l n Z a0 aF w1 s a w → (List.range n).countP (fun i => !s.getD i false) = f → wpAny P .any l.toArray Q (f + (l.length - n)) s a w := by
  simp only [anyOk, boxesOk, Bool.and_eq_true, decide_eq_true_eq] at hB
  obtain ⟨⟨⟨⟨⟨⟨hsel, hn⟩, hs⟩, hc⟩, hseq⟩, hok⟩, ⟨hal1, hal2⟩, hnd⟩ := hB
  have hbox : ∀ x ∈ al, x.1 < n ∧ ∃ o t, l[x.1]? = some o ∧ o.op = .alloc t ∧ o.dst = some x.2 := fun x hx => by
    have := List.all_eq_true.1 hal1 x hx
    simp only [Bool.and_eq_true, decide_eq_true_eq] at this
    refine ⟨this.1, ?_⟩
    have h2 := this.2
    cases ho : l[x.1]? with
    | none => rw [ho] at h2; cases h2
    | some o =>
      rw [ho] at h2
      simp only [Bool.and_eq_true, beq_iff_eq] at h2
      have h3 := h2.1
      unfold isAlloc at h3
      split at h3
      · rename_i t ht; exact ⟨o, t, rfl, ht, h2.2⟩
      · cases h3
  have hcov : ∀ (i : Nat) (o : Oper) (t : TypeId), i < n → l[i]? = some o → o.op = .alloc t → t ∈ ts ∧ ∃ x ∈ al, x.1 = i := fun i o t hi ho ht => by
    have := List.all_eq_true.1 hal2 i (List.mem_range.2 hi)
    rw [ho] at this
    simp only [ht, Bool.and_eq_true] at this
    obtain ⟨h1, h2⟩ := this
    obtain ⟨x, hx, hxi⟩ := List.any_eq_true.1 h2
    exact ⟨by simpa using h1, x, hx, by simpa using hxi⟩
  obtain ⟨zF1, zF2, zF3⟩ := walk_keeps _ _ (hwalk w1 (Below.refl _ _))
  intro f
  induction f with
  | zero =>
    intro s a w I hcount
    have hall : ∀ i, i < n → s.getD i false = true := fun i hi => by
      have := List.countP_eq_zero.1 hcount i (List.mem_range.2 hi)
      simpa using this
    obtain ⟨gf, hg⟩ := I.boxes
    have hsz : s.size = l.length := by rw [I.head.size]; simp
    have es : s = (List.replicate n true ++ List.replicate (l.length - n) false).toArray := by
      refine Array.ext (by simp [hsz]; omega) fun i h1 h2 => ?_
      by_cases hi : i < n
      · have := hall i hi
        simp [h1] at this
        simp [hi, this]
      · have := I.head.tail i (by omega) (by simpa [hsz] using h1)
        simp [h1] at this
        simp [List.getElem_append, hi, this]
    have ea : a = puts gf al aF := by
      obtain ⟨p1, p2, p3⟩ := puts_same gf al aF
      have et : a.tmps = (puts gf al aF).tmps := by
        refine Array.ext_getElem? fun t => ?_
        by_cases hx : ∃ x ∈ al, x.2 = t
        · obtain ⟨x, hx, rfl⟩ := hx
          obtain ⟨hxn, o, ty, ho, hop, hd⟩ := hbox x hx
          obtain ⟨o', d', ho', hd', hdN, _⟩ := headOk_spec hok x.1 hxn
          obtain rfl : o' = o := Option.some.inj (ho'.symm.trans ho)
          obtain rfl : d' = x.2 := Option.some.inj (hd'.symm.trans hd)
          rw [(hg x.1 o' x.2 ty hxn (hall _ hxn) ho hop hd).1, puts_at gf al aF hnd x hx (by rw [zF1, hN]; exact hdN)]
        · have hx' : ∀ x ∈ al, x.2 ≠ t := fun x hxm e => hx ⟨x, hxm, e⟩
          rw [p3 t hx']
          by_cases hj : ∃ j o, j < n ∧ l[j]? = some o ∧ o.dst = some t
          · obtain ⟨j, o, hj, ho, hd⟩ := hj
            refine I.fill j o t hj (hall j hj) ho ?_ hd
            cases ha : isAlloc o with
            | false => rfl
            | true =>
              unfold isAlloc at ha
              split at ha
              · rename_i ty hty
                obtain ⟨_, x, hxm, hxj⟩ := hcov j o ty hj ho hty
                obtain ⟨_, o2, _, ho2, _, hd2⟩ := hbox x hxm
                rw [hxj] at ho2
                obtain rfl : o2 = o := Option.some.inj (ho2.symm.trans ho)
                exact absurd (Option.some.inj (hd2.symm.trans hd)) (hx' x hxm)
              · cases ha
          · rw [I.rest t fun j o hjn _ ho hd => hj ⟨j, o, hjn, ho, hd⟩, zF3 t fun o hm hd => ?_]
            · obtain ⟨j, hjj⟩ := List.getElem?_of_mem (List.mem_filter.1 hm).1
              rw [List.getElem?_take] at hjj
              split at hjj
              · rename_i hjn; exact hj ⟨j, o, hjn, hjj, hd⟩
              · cases hjj
      have ed : a.defers = (puts gf al aF).defers := by rw [p2, zF2, I.defers]
      cases a
      cases hp : puts gf al aF
      rw [hp] at et ed
      simp only at et ed
      rw [et, ed]
    have dl : (l.drop n).length = l.length - n := by simp
    have T := wpAny_of_seq (P := P) (md := .any) (ops := l.toArray) (Q' := Q) (l.drop n) n s a w (fun j => by simp [List.getElem?_drop]) (by rw [dl, es]; exact hseq)
      (by
        rw [ea]
        refine htail gf w I.up (fun x hx o t ho ht => ?_) fun x hx y hy hxy => ?_
        · obtain ⟨hxn, o', t', ho', hop, hd⟩ := hbox x hx
          obtain rfl : o' = o := Option.some.inj (ho'.symm.trans ho)
          obtain ⟨_, g2, _, g4, _⟩ := hg x.1 o' x.2 t hxn (hall _ hxn) ho ht hd
          exact ⟨g2, g4⟩
        · obtain ⟨hxn, o1, t1, ho1, hop1, hd1⟩ := hbox x hx
          obtain ⟨hyn, o2, t2, ho2, hop2, hd2⟩ := hbox y hy
          exact fun e => (hg x.1 o1 x.2 t1 hxn (hall _ hxn) ho1 hop1 hd1).2.2.2.2 y.1 o2 t2 hyn (hall _ hyn) ho2 hop2 (Ne.symm hxy) e.symm)
    rw [dl] at T
    rw [Nat.zero_add]
    exact T
  | succ f ih =>
    intro s a w I hcount
    obtain ⟨i0, hi0, hun, hbefore⟩ : ∃ i, i < n ∧ s.getD i false = false ∧ ∀ j, j < i → s.getD j false = true := by
      rcases least_unlisted s n with h | h
      · have : (List.range n).countP (fun i => !s.getD i false) = 0 := List.countP_eq_zero.2 fun i hi => by simp [h i (List.mem_range.1 hi)]
        omega
      · exact h
    have hsz : s.size = l.length := by rw [I.head.size]; simp
    have hun' : s.getD i0 true = false := getD_in (by rw [hsz]; omega) hun
    have hready : i0 ∈ Region.ready .any l.toArray s := by
      obtain ⟨o, d, ho, _, _, _, _, hback, _⟩ := headOk_spec hok i0 hi0
      exact mem_ready.2 ⟨hun', o, by simpa using ho, fun e he hb => hbefore _ (hback e he hb)⟩
    rw [show f + 1 + (l.length - n) = f + (l.length - n) + 1 by omega]
    refine ⟨fun h => (by rw [h] at hready; cases hready), fun i hi => ?_⟩
    have hin : i < n := Nat.lt_of_not_le fun h => tail_waits hs hc (by simpa using hn) I.head _ i0 rfl hi0 hun' i h hi
    obtain ⟨o, d, ho, hd, hdN, hdis, hguard, _, hlook⟩ := headOk_spec hok i hin
    have hiun := (mem_ready.1 hi).1
    have hcount' : (List.range n).countP (fun j => !(s.setIfInBounds i true).getD j false) = f := by
      have := count_less (p := fun j => !s.getD j false) (q := fun j => !(s.setIfInBounds i true).getD j false) (i := i) (by simp only [getD_both hiun]; rfl)
        (by have : i < s.size := by rw [hsz]; omega
            simp [this]) (fun j hj => by simp only [getD_set_ne false (Ne.symm hj)]) (List.range n) List.nodup_range (List.mem_range.2 hin)
      omega
    have hdlt : d < a0.tmps.size := by rw [hN]; exact hdN
    unfold wpOp
    simp only [List.getElem?_toArray, ho]
    cases ha : isAlloc o with
    | true =>
      obtain ⟨t, ht⟩ : ∃ t, o.op = .alloc t := by
        unfold isAlloc at ha
        split at ha
        · rename_i t ht; exact ⟨t, ht⟩
        · cases ha
      rw [if_pos (by unfold Region.wanted; rw [hguard ha])]
      refine .inl ?_
      unfold Oper.wp
      rw [hz t (hcov i o t hin ho ht).1 o a.eval w ht]
      exact ih _ _ _ (I.box hok hin ho ht hd hi hdlt) hcount'
    | false =>
      obtain ⟨act, q1, q2, v, hv, hy⟩ := walk_at (l.take n) a0 (hwalk w I.up) (fun i j oi oj t h1 h2 h3 h4 => by
          rw [List.getElem?_take] at h1 h2
          split at h1 <;> split at h2
          · rename_i hi' hj'
            obtain ⟨o1, d1, ho1, hd1, _, hdis1, _⟩ := headOk_spec hok i hi'
            obtain rfl : o1 = oi := Option.some.inj (ho1.symm.trans h1)
            obtain rfl : d1 = t := Option.some.inj (hd1.symm.trans h3)
            exact Classical.byContradiction fun e => hdis1 j hj' (fun e' => e e'.symm) (by simp [dstAt, h2, h4])
          · cases h2
          · cases h1
          · cases h1) i o d (by rw [List.getElem?_take, if_pos hin]; exact ho) ha hd hdlt
      have agree : ∀ t ∈ o.looksAt l.toArray, a.tmps[t]? = act.tmps[t]? := fun t ht => by
        by_cases hj : ∃ j oj, j < n ∧ l[j]? = some oj ∧ oj.dst = some t
        · obtain ⟨j, oj, hjn, hoj, hjd⟩ := hj
          obtain ⟨hji, hja, e, he, hb, hon⟩ := hlook j hjn oj t hoj hjd ht
          have hlj : s.getD j false = true := by
            obtain ⟨_, o', ho', hdeps⟩ := mem_ready.1 hi
            obtain rfl : o' = o := Option.some.inj (ho'.symm.trans (by simpa using ho))
            rw [← hon]; exact hdeps e he hb
          rw [I.fill j oj t hjn hlj hoj hja hjd, q1 j oj t hji (by rw [List.getElem?_take, if_pos hjn]; exact hoj) hja hjd]
        · rw [I.rest t fun j oj hjn _ hoj hjd => hj ⟨j, oj, hjn, hoj, hjd⟩, q2 t fun j oj hjk hoj _ hjd => ?_]
          rw [List.getElem?_take] at hoj
          split at hoj
          · rename_i hjn; exact hj ⟨j, oj, hjn, hoj, hjd⟩
          · cases hoj
      have hsel' := Region.noSelect_spec hsel i o
      have hex : execOp a.eval o = execOp act.eval o := exec_same o (fun cs b => hsel' cs b (by simpa using ho)) agree
      rw [wanted_same o agree]
      rcases hy with ⟨hw, hq⟩ | ⟨hw, rfl⟩
      · rw [if_pos hw]
        refine .inl (Oper.wp_of_quiet (C := fun w' => ∃ u : Later w, w' = u.now) (K := fun a' => a' = a.put o.dst v) ⟨⟨w, Below.refl _ _⟩, rfl⟩ (fun a' w' hw' e => ?_) ⟨v, fun x hx => ?_, rfl⟩)
        · obtain ⟨u, rfl⟩ := hw'
          subst e
          exact ih _ _ _ (I.quiet hok hin ho ha hd hi hdlt hv u.up) hcount'
        · have := hq x hx
          unfold Oper.quietAt at *
          rw [hex]; exact this
      · rw [if_neg (by simp [hw])]
        exact ih _ _ _ (I.quiet hok hin ho ha hd hi hdlt hv (Below.refl _ _)) hcount'

/-- The region: the walk of the head, in the order of the text, in every later world; then the tail, with new boxes at blocks of their own. -/
theorem wp_region_boxes {P : Program} {id : Nat} {l : List Oper} {Q : Exit → Act → World → Prop} {a0 aF : Act} {w1 : World} (n N : Nat) (al : List (Nat × Tmp)) (ts : List TypeId) (Z : TypeId → List Value) (hm : P.follows .mixedOrders = true) (hB : anyOk l n N al ts = true) (hN : a0.tmps.size = N)
    (hz : ∀ t ∈ ts, ∀ (o : Oper) (ρ : Operand → Value) (w : World), o.op = .alloc t → (execOp ρ o).run P w = .ok (.value (.pointer (some ⟨w.heap.size, 0, none⟩))) (w.alloc (.cells (Z t).toArray t)))
    (hwalk : ∀ v0 : World, Below w1.heap.size w1 v0 → ∀ K : Act → Prop, Hid (∀ a', a' = aF → K a') → wpQuiet P l.toArray (fun w' => ∃ u : Later v0, w' = u.now) K ((l.take n).filter fun o => !isAlloc o) a0)
    (htail : ∀ (gf : Nat → Nat) (w' : World), Below w1.heap.size w1 w' → (∀ x ∈ al, ∀ (o : Oper) (t : TypeId), l[x.1]? = some o → o.op = .alloc t → w1.heap.size ≤ gf x.1 ∧ Bx w' (gf x.1) (Z t)) →
      (∀ x ∈ al, ∀ y ∈ al, x.1 ≠ y.1 → gf x.1 ≠ gf y.1) → wpList P l.toArray Q (l.drop n) (puts gf al aF) w') :
    (Code.region id l.toArray true).wp P Q a0 w1 := by
  refine wp_region_any hm ?_
  have hn : n < l.length := by
    have := hB
    simp only [anyOk, Bool.and_eq_true, decide_eq_true_eq] at this
    exact this.1.1.1.1.1.2
  have G := under_wp (P := P) (Q := Q) (a0 := a0) (aF := aF) (w1 := w1) hB hN (fun v0 h0 => hwalk v0 h0 _ (Lib.hid fun a' h => h)) hz htail n (Array.replicate l.toArray.size false) a0 w1.drew
    ⟨⟨by simp, fun j oj _ hj => (by rw [getD_replicate_false] at hj; cases hj), fun t _ ht => getD_in (by simpa using ht) (getD_replicate_false _ _)⟩, rfl, rfl,
      fun i o t _ hl => (by rw [getD_replicate_false] at hl; cases hl), fun _ _ => rfl, up_drew (Below.refl _ _), fun _ => 0, fun i o d t _ hl => by rw [getD_replicate_false] at hl; cases hl⟩
    (by
      have : (fun i => !(Array.replicate l.toArray.size false).getD i false) = fun _ => true := by funext i; rw [getD_replicate_false]; rfl
      rw [this]; simp)
  rw [show n + (l.length - n) = l.toArray.size by simp; omega] at G
  exact G
/-- The same, the slots at the head's end found by the walk. -/
theorem wp_region_boxes' {P : Program} {id : Nat} {l : List Oper} {Q : Exit → Act → World → Prop} {a0 : Act} {w1 : World} (n N : Nat) (al : List (Nat × Tmp)) (ts : List TypeId) (Z : TypeId → List Value) (hm : P.follows .mixedOrders = true) (hB : anyOk l n N al ts = true) (hN : a0.tmps.size = N)
    (hz : ∀ t ∈ ts, ∀ (o : Oper) (ρ : Operand → Value) (w : World), o.op = .alloc t → (execOp ρ o).run P w = .ok (.value (.pointer (some ⟨w.heap.size, 0, none⟩))) (w.alloc (.cells (Z t).toArray t)))
    (h : ∃ aF : Act, (∀ v0 : World, Below w1.heap.size w1 v0 → ∀ K : Act → Prop, Hid (∀ a', a' = aF → K a') → wpQuiet P l.toArray (fun w' => ∃ u : Later v0, w' = u.now) K ((l.take n).filter fun o => !isAlloc o) a0) ∧
      ∀ (gf : Nat → Nat) (w' : World), Below w1.heap.size w1 w' → (∀ x ∈ al, ∀ (o : Oper) (t : TypeId), l[x.1]? = some o → o.op = .alloc t → w1.heap.size ≤ gf x.1 ∧ Bx w' (gf x.1) (Z t)) →
        (∀ x ∈ al, ∀ y ∈ al, x.1 ≠ y.1 → gf x.1 ≠ gf y.1) → wpList P l.toArray Q (l.drop n) (puts gf al aF) w') :
    (Code.region id l.toArray true).wp P Q a0 w1 := by
  obtain ⟨aF, h1, h2⟩ := h
  exact wp_region_boxes n N al ts Z hm hB hN hz h1 h2
end Go.Proofs.YtomakbnbokaigaaGreatDoor
