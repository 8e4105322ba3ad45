/- Part 14 of the texts that the proofs of this seat share: SplitLast, SchemeNames, LexSmall, LexFields, LexRefFields, StepRef. -/
import Derived.Test.YtbfigaadbfggcaaGreatDoorPart13
import Derived.Maps.AppendAt
import Derived.Maps.OwnIn
import Derived.Test.YtbfigaadbfggcaaGreatDoorPart2
import Derived.Test.YtbfigaadbfggcaaGreatDoorPart3
import Derived.Test.YtbfigaadbfggcaaGreatDoorPart1
import Derived.LoopN
/- What split.Last answers. -/
namespace Go.Proofs.YtbfigaadbfggcaaGreatDoor
open Go.RowKit
set_option linter.unusedVariables false
set_option linter.unusedSimpArgs false

theorem all_snoc {E : List UInt8 → Bool} {l : List (List UInt8)} {x : List UInt8} (h : l.all E = true) (hx : E x = true) : (l ++ [x]).all E = true := by simp_all
theorem all_not {E : List UInt8 → Bool} {l : List (List UInt8)} {x : List UInt8} (h : x ∈ l) (hx : E x = false) : l.all E = false := by
  rw [List.all_eq_false]
  exact ⟨x, h, by simp [hx]⟩

set_option maxHeartbeats 1000000 in
theorem spLast_core (cs : List Value) (a : Option Addr) (k cap : Nat) (ls : List (List UInt8)) (F t : Bool) (M : Nat) (E : List UInt8 → Bool) (w : World) (hL : cs.length = 33) (h15 : cs[15]? = some (.slice a k cap)) (hk : ls.length = k) (hT : TxA w a cap ls) (hk2 : k ≤ maxLen)
    (e1 : decide ((M : Int) < (k : Int)) = t) (e0 : decide (M < k) = t)
    (KF : ∀ w1, Below w.heap.size w w1 → Calls Tryz.prog 62 #[.agg cs.toArray] w1 fun e w' => e = .returned (.bool F) ∧ Below w1.heap.size w1 w')
    (KM : ∀ w1, Calls Tryz.prog 63 #[.agg cs.toArray] w1 fun e w' => e = .returned (.int .i64 (M : Int)) ∧ Below w1.heap.size w1 w')
    (KE : ∀ x w1, Below w.heap.size w w1 → Calls Tryz.prog 64 #[.agg cs.toArray, .string (tx x)] w1 fun e w' => e = .returned (.bool (E x)) ∧ Below w1.heap.size w1 w') :
    Calls Tryz.prog 52 #[.agg cs.toArray] w fun e w' => e = .returned (.bool (F && (!t && ls.all E))) ∧ Below w.heap.size w w' := by
  unfold maxLen at hk2
  have HX := Lib.hid (Bx.new w 29 cs)
  have HB := Lib.hid (up_alloc (Below.refl w.heap.size w) (.cells cs.toArray 29))
  have c15 := HX.out.cell 15 h15
  have HL := Lib.hid hL; have HN := Lib.hid hk
  have HA := Lib.hid (hT.up HB.out)
  have HF := Lib.hid KF; have HM := Lib.hid KM; have HE := Lib.hid KE
  clear KF KM KE h15 hL hk hT
  go_enter Tryz.func52, Tryz.ntmps52
  go_wp2_with fail
  obtain ⟨w1, hw1⟩ : ∃ w1, w.alloc (.cells cs.toArray 29) = w1 := ⟨_, rfl⟩
  rw [hw1] at c15 HA HB HX ⊢
  clear hw1
  have HRG := Lib.hid (later_range HX.out (by rw [HL.out]; decide))
  have j15 := fun x : Later w1 => x.cell c15
  clear c15
  cases F
  · clear e1 e0
    refine later_start (w := w1) ?_
    intro x
    refine wp_region_later (by kernel_rfl) (by kernel_rfl) ?_
    repeat (first
      | (go_big_quiet_want; refine quiet_load_job _ rfl w.heap.size rfl cs HL.out HRG.out ?_; simp only [Act.put, List.setIfInBounds_toArray, List.set_cons_succ, List.set_cons_zero]; go_big_quiet_on)
      | go_big_quiet_step ((go_at_call 62; with_reducible exact Later.call (HF.out _ (up_trans HB.out (Later.up _))))))
    refine wpQuiet_nil ?_
    rintro _ ⟨x2, rfl⟩
    have BB := Lib.hid (up_trans HB.out x2.up)
    go_wp2
    go_ret
    exact ⟨rfl, BB.out⟩
  cases t
  · refine later_start (w := w1) ?_
    intro x
    refine wp_region_later (by kernel_rfl) (by kernel_rfl) ?_
    repeat (first
      | (go_big_quiet_want; refine quiet_load_job _ rfl w.heap.size rfl cs HL.out HRG.out ?_; simp only [Act.put, List.setIfInBounds_toArray, List.set_cons_succ, List.set_cons_zero]; go_big_quiet_on)
      | go_big_quiet_step ((first | (go_at_call 62; with_reducible exact Later.call (HF.out _ (up_trans HB.out (Later.up _)))) | (go_at_call 63; with_reducible exact Later.call (HM.out _)))))
    refine wpQuiet_nil ?_
    rintro _ ⟨x2, rfl⟩
    have d15 := j15 x2
    have BB := Lib.hid x2.up
    clear e1 e0
    go_wp2
    go_loopw [19] (fun i wr => ∃ j : Nat, j ≤ k ∧ i = .int .i64 (j : Int) ∧ Hid ((ls.take j).all E = true) ∧ ∃ y : Later w1, wr = y.now) (fun i _ => k - (intOf i).toNat)
    case atStart => exact ⟨0, by omega, by go_num, Lib.hid rfl, x2, rfl⟩
    case round =>
      obtain ⟨j, hj, rfl, HS, y, rfl⟩ := hrel
      by_cases hlt : j < k
      · obtain ⟨z, hx⟩ : ∃ x, ls[j]? = some x := ⟨ls[j]'(by rw [HN.out]; exact hlt), List.getElem?_eq_getElem _⟩
        obtain ⟨g, o, rfl, hc, -, -⟩ := HA.out.resolve_left (by rintro rfl; cases hx)
        have hcx := y.cell (hc j z hx)
        have HXy := Lib.hid (HX.out.later (by rw [HL.out]; decide) y.up)
        have z0 : (0 : Int) ≤ (j : Int) := by omega
        have z3 : (j : Int) < (k : Int) := by omega
        have htk := Lib.hid (take_next hx)
        have KZ := HE.out z
        have HZ := Lib.hid (List.mem_of_getElem? hx)
        clear hx hc
        generalize hez : E z = ez at *
        generalize tx z = Z at *
        have HEZ := Lib.hid hez; have HKZ := Lib.hid KZ
        clear hez KZ
        go_wp2_with (refine wpList_load_job rfl _ rfl w.heap.size rfl cs HXy.out HL.out ?_; simp only [Act.put, List.setIfInBounds_toArray, List.set_cons_succ, List.set_cons_zero])
        refine (HKZ.out _ (up_trans HB.out y.up)).mono ?_
        rintro e w3 ⟨rfl, hb⟩
        obtain ⟨y2, rfl⟩ := Later.next hb
        clear hb
        cases ez
        · go_wp2
          go_ret
          exact ⟨by rw [all_not HZ.out HEZ.out]; rfl, up_trans HB.out y2.up⟩
        · go_wp2
          go_roundw
          case rel => exact ⟨j + 1, by omega, by go_num, Lib.hid (by rw [htk.out]; exact all_snoc HS.out HEZ.out), y2, rfl⟩
          case measure => simp [intOf]; omega
      · obtain rfl : j = k := by omega
        have hall : ls.take j = ls := List.take_of_length_le (by rw [HN.out]; omega)
        have HH := Lib.hid (hall ▸ HS.out)
        clear hall
        go_wp2
        go_ret
        exact ⟨by rw [HH.out]; rfl, up_trans HB.out y.up⟩
  · refine later_start (w := w1) ?_
    intro x
    refine wp_region_later (by kernel_rfl) (by kernel_rfl) ?_
    repeat (first
      | (go_big_quiet_want; refine quiet_load_job _ rfl w.heap.size rfl cs HL.out HRG.out ?_; simp only [Act.put, List.setIfInBounds_toArray, List.set_cons_succ, List.set_cons_zero]; go_big_quiet_on)
      | go_big_quiet_step ((first | (go_at_call 62; with_reducible exact Later.call (HF.out _ (up_trans HB.out (Later.up _)))) | (go_at_call 63; with_reducible exact Later.call (HM.out _)))))
    refine wpQuiet_nil ?_
    rintro _ ⟨x2, rfl⟩
    have BB := Lib.hid (up_trans HB.out x2.up)
    go_wp2
    go_ret
    exact ⟨rfl, BB.out⟩

theorem TxA.small {w : World} {a : Option Addr} {c : Nat} {ls : List (List UInt8)} (h : TxA w a c ls) : ls.length ≤ maxLen := by
  rcases h with rfl | ⟨g, o, e, h, h1, h2⟩
  · simp [maxLen]
  · omega
theorem spLast_any (cs : List Value) (j : Jb) (w : World) (h : JobA w cs j) (hf : WfF j) (hg : GoodM w) :
    Calls Tryz.prog 52 #[.agg cs.toArray] w fun e w' => e = .returned (.bool (lastM j)) ∧ Below w.heap.size w w' := by
  obtain ⟨a, c, a', c', h12, h13, h14, h15, hI, hT⟩ := h.cells
  have K := spLast_core cs a' j.ls.length c' j.ls _ _ _ (endB (j.n 10) (panS j.f)) w h.length h15 rfl hT hT.small rfl (by rw [Bool.eq_iff_iff]; simp)
    (fun w1 hb => spFolds_any cs j w1 (h.up hb) hf) (fun w1 => spMost_any cs (j.n 10) w1 (h.num (k := 10) (by decide))) (fun x w1 hb => spMay_any cs j x w1 (h.up hb) (hg.below hb))
  have e : (!(decide (((mostM (j.n 10) : Nat) : Int) < (j.ls.length : Int)))) = decide (j.ls.length ≤ mostM (j.n 10)) := by rw [Bool.eq_iff_iff]; simp
  rw [e] at K
  exact K
end Go.Proofs.YtbfigaadbfggcaaGreatDoor
/- What scheme.Names and scheme.Name answer: all names, in order; the first name of any scheme. -/
namespace Go.Proofs.YtbfigaadbfggcaaGreatDoor
open Go.RowKit Go.Shelf
set_option linter.unusedVariables false
attribute [local go_sem] Oper.semAt_some

/-- The names that have come, as cells. -/
def namesV (pre : List CatE) : List Value := pre.map fun e => .string (tx e.1.1)
theorem namesV_snoc (pre : List CatE) (x : CatE) : namesV (pre ++ [x]) = namesV pre ++ [.string (tx x.1.1)] := by simp [namesV]
def namesL : List (List UInt8) := catS.map Prod.fst
theorem namesV_all : namesV catL = namesL.map fun l => .string (tx l) := by
  unfold namesV namesL catL
  rw [List.map_map]
  have : (fun e : CatE => Value.string (tx e.1.1)) = (fun e : List UInt8 × Sc => Value.string (tx e.1)) ∘ Subtype.val := rfl
  rw [this, ← List.map_map, List.attach_map_subtype_val]
  rfl
theorem cell_one (w : World) (x : Value) (t : TypeId) : ∀ j u, [x][j]? = some u → (w.alloc (.cells #[x] t)).cell? ((⟨w.heap.size, 0, none⟩ : Addr).add j) = some u := by
  intro j u hj
  match j, hj with
  | 0, hj => simp at hj; subst hj; simp [Addr.add]
  | j + 1, hj => simp at hj

/-- A scheme's first name; empty: it has none. -/
def nameT (s : Sc) : ByteArray := match nameM s with
  | some n => tx n
  | none => ⟨#[]⟩
theorem told_eq (s : Sc) (x : CatE) : ((tx (textE x)).toList == (tellT s).toList) = decide (x.1.2 = s) := by
  have hx := cat_told x.1 x.2
  have ht : textE x = headT x.1.2 ++ tailT x.1.2.l := joinM_parts _
  unfold tellT
  split
  · rename_i hs
    rw [tx_same, ht, Bool.eq_iff_iff, decide_eq_true_eq, decide_eq_true_eq]
    exact ⟨fun e => tell_inj hx hs e, fun e => by rw [e]⟩
  · rename_i hs
    rw [show (⟨#[]⟩ : ByteArray) = tx [] from rfl, tx_same, Bool.eq_iff_iff, decide_eq_true_eq, decide_eq_true_eq, ht]
    constructor
    · intro e; simp [headT] at e
    · intro e; rw [e] at hx; exact absurd hx hs

theorem name_own (c' : Code) (s : Sc) (w : World) (B : Nat) (hB : w.heap.size ≤ B) : OwnFrom B (fun (_ : List CatE) W => c' = .ret ∧ ∃ n : List UInt8, nameM s = some n ∧ W.cell? ⟨w.heap.size + 1, 0, none⟩ = some (.string (tx n)) ∧ W.cell? ⟨w.heap.size + 1 + 1, 0, none⟩ = some (.bool true) ∧ Below w.heap.size w W) := by
  rintro _ W W' row ⟨e, n, h1, h2, h3, h5⟩ hg hr
  have hr' : ∀ r, row = some r → ∃ o : Obj, W.heap[r]? = some o ∧ o.isCells = false := fun r e => (hr r e).2
  exact ⟨e, n, h1, cell_kept h2 hg hr', cell_kept h3 hg hr', h5.grown hg h5.size (fun k e => by have := (hr k e).1; omega)⟩

end Go.Proofs.YtbfigaadbfggcaaGreatDoor
/- What the small calls of package lex, the library's Clone and the document's own seen and Same answer. -/
namespace Go.Proofs.YtbfigaadbfggcaaGreatDoor
open Go.RowKit
set_option linter.unusedVariables false

theorem seen_eq (c : UInt8) : seenB c = (decide ((32 : Int) ≤ (c.toNat : Int)) && decide ((c.toNat : Int) ≤ 126)) := by
  unfold seenB
  rw [Bool.eq_iff_iff]
  simp
  omega
theorem refSeen_any (c : UInt8) (w : World) : Calls Tryz.prog 81 #[.int .u8 (c.toNat : Int)] w fun e w' => e = .returned (.bool (seenB c)) ∧ w = w' := by
  rw [seen_eq]
  generalize (c.toNat : Int) = x at *
  obtain ⟨b1, h1⟩ : ∃ b, decide ((32 : Int) ≤ x) = b := ⟨_, rfl⟩
  obtain ⟨b2, h2⟩ : ∃ b, decide (x ≤ (126 : Int)) = b := ⟨_, rfl⟩
  rw [h1, h2]
  cases b1 <;> cases b2
  all_goals
    go_enter Tryz.func81, Tryz.ntmps81
    go_wp2
    go_ret
    exact ⟨rfl, rfl⟩
/-- A text of no octet, or one. -/
theorem toList_none (l : List UInt8) : ((tx l).toList == []) = decide (l = []) := by rw [tx_toList, Bool.eq_iff_iff]; simp

/-- What a call answers that makes a list of texts. -/
def GivesT (base : Nat) (ls : List (List UInt8)) (w : World) (e : Ending) (w' : World) : Prop := ∃ v, e = .returned v ∧ rowT w' base v ls ∧ Below base w w'
end Go.Proofs.YtbfigaadbfggcaaGreatDoor
/- What lex's take and Fields answer. -/
namespace Go.Proofs.YtbfigaadbfggcaaGreatDoor
open Go.RowKit
set_option linter.unusedVariables false

theorem Bx.keptB {w w' : World} {B : Nat} {vs : List Value} (h : Bx w B vs) (hb : w'.heap[B]? = w.heap[B]?) : Bx w' B vs :=
  ⟨fun j v hj => (World.cell?_of_block (a := ⟨B, j, none⟩) hb).trans (h.1 j v hj), fun j => by
    have := h.2 j
    unfold World.frozen? at this ⊢
    rw [hb]
    exact this⟩
/-- But for the block B, all is as it was. -/
def Only (B : Nat) (w w' : World) : Prop := Below B w w' ∧ w'.heap.size = w.heap.size ∧ ∀ k, k ≠ B → w'.heap[k]? = w.heap[k]?
theorem only_refl (B : Nat) (w : World) : Only B w w := ⟨Below.refl _ _, rfl, fun _ _ => rfl⟩
theorem only_set (B o : Nat) (w : World) (v : Value) : Only B w (w.setCell ⟨B, o, none⟩ v) := ⟨(Below.refl B w).setCell (p := ⟨B, o, none⟩) (Nat.le_refl _) v, by simp [World.setCell], fun k hk => Below.heap_setCell _ _ _ _ hk⟩

/-- What take makes of the two truths. -/
def TookQ (B : Nat) (wi fr : Bool) (w : World) (e : Ending) (w' : World) : Prop := e = .returned (.tuple #[]) ∧ Bx w' B [.bool wi, .bool fr] ∧ Only B w w'
theorem oct92 (c : UInt8) : ((c.toNat : Int) == 92) = (c == 92) := oct_eq c 92
theorem oct34 (c : UInt8) : ((c.toNat : Int) == 34) = (c == 34) := oct_eq c 34
theorem oct35 (c : UInt8) : ((c.toNat : Int) == 35) = (c == 35) := oct_eq c 35
theorem oct_apart (c : UInt8) : ¬ ((c == 92) = true ∧ (c == 34) = true) := by
  rintro ⟨h1, h2⟩
  simp at h1 h2
  rw [h1] at h2
  exact absurd h2 (by decide)
/-- What a call answers that tells fields apart. -/
def GivesF (F : Option (List (List UInt8))) (w : World) (e : Ending) (w' : World) : Prop := ∃ v, e = .returned (.tuple #[v, .bool F.isSome]) ∧ TxS w' v (F.getD []) ∧ Below w.heap.size w w'

/-- The same; the list is the call's own. -/
def GivesFR (F : Option (List (List UInt8))) (w : World) (e : Ending) (w' : World) : Prop := ∃ v, e = .returned (.tuple #[v, .bool F.isSome]) ∧ rowT w' (w.heap.size + 1) v (F.getD []) ∧ Below w.heap.size w w'

def FieldsRel (s : ByteArray) (w : World) (F : Option (List (List UInt8))) (l f n i : Value) (wr : World) : Prop :=
  n = .int .i64 (s.size : Int) ∧ ∃ (k from_ : Nat) (out : List (List UInt8)) (wi fr : Bool), k ≤ s.size ∧ from_ ≤ k ∧ out.length ≤ k ∧ i = .int .i64 (k : Int) ∧ f = .int .i64 (from_ : Int) ∧ rowT wr (w.heap.size + 1) l out ∧ Bx wr w.heap.size [.bool wi, .bool fr] ∧ Below w.heap.size w wr ∧ w.heap.size + 1 ≤ wr.heap.size ∧
    (wi = false → fr = false) ∧ fieldsM (s.data.toList.drop k) out ((s.data.toList.take k).drop from_) wi fr = F

theorem ret_fields {v : Value} {F G : Option (List (List UInt8))} {b : Bool} (h : F = G) (hb : F.isSome = b) : Ending.returned (.tuple #[v, .bool b]) = .returned (.tuple #[v, .bool G.isSome]) := by rw [← h, hb]

end Go.Proofs.YtbfigaadbfggcaaGreatDoor
/- What the document's own Fields answers. -/
namespace Go.Proofs.YtbfigaadbfggcaaGreatDoor
open Go.RowKit
set_option linter.unusedVariables false

def RefFieldsRel (s : ByteArray) (w : World) (F : Option (List (List UInt8))) (o p a b i : Value) (wr : World) : Prop :=
  ∃ (k : Nat) (out : List (List UInt8)) (cur : List UInt8) (wi fr : Bool), k ≤ s.size ∧ cur.length ≤ k ∧ out.length ≤ k ∧ i = .int .i64 (k : Int) ∧ p = .string (tx cur) ∧ a = .bool wi ∧ b = .bool fr ∧ rowT wr w.heap.size o out ∧ Below w.heap.size w wr ∧
    (wi = false → fr = false) ∧ fieldsM (s.data.toList.drop k) out cur wi fr = F

theorem one_octet {s : ByteArray} {k : Nat} (h : k < s.size) : s.extract k (k + 1) = tx [s[k]] := by
  rw [tx_extract, cur_octet (Nat.le_refl _) h, cur_none]
  rfl
theorem add_octet (cur : List UInt8) (c : UInt8) : tx cur ++ tx [c] = tx (cur ++ [c]) := tx_append _ _
theorem slice_one {s : ByteArray} {k : Nat} (h : k < s.size) (hs : s.size ≤ 999999) (w : World) : (Instr.slice 9 (.string s) (some (.int .i64 (k : Int))) (some (.int .i64 ((k : Int) + 1))) none).run Tryz.prog w = .ok (.string (tx [s[k]])) w := by
  rw [run_slice_string_if w 9 s .i64 .i64 _ _ Tryz.underlying9, if_pos (by omega), if_pos (by omega), ← one_octet h]
  simp

theorem oct32 (c : UInt8) : ((c.toNat : Int) == 32) = (c == 32) := oct_eq c 32
theorem oct9 (c : UInt8) : ((c.toNat : Int) == 9) = (c == 9) := oct_eq c 9

set_option maxRecDepth 100000 in
set_option maxHeartbeats 2000000 in
theorem refFields_any (s : ByteArray) (w : World) (hs : s.size ≤ 999999) :
    Calls Tryz.prog 72 #[.string s] w (GivesF (fieldsL s.data.toList) w) := by
  obtain ⟨F, hF0⟩ : ∃ F, fieldsL s.data.toList = F := ⟨_, rfl⟩
  have HF0 := Lib.hid hF0
  rw [hF0]
  clear hF0
  go_enter Tryz.func72, Tryz.ntmps72
  go_wp2
  go_loopw [4, 5, 6, 7, 8] (fun o p a b i wr => RefFieldsRel s w F o p a b i wr) (fun _ _ _ _ i _ => s.size - (intOf i).toNat)
  case atStart =>
    refine ⟨0, [], [], false, false, Nat.zero_le _, Nat.le_refl _, Nat.le_refl _, rfl, rfl, rfl, rfl, rowT_nil _ _, Below.refl _ _, fun _ => rfl, ?_⟩
    rw [← HF0.out]
    rfl
  case round =>
    obtain ⟨k, out, cur, wi, fr, hk, hcur, ho, rfl, rfl, rfl, rfl, hrow, hb, hwf, hF⟩ := hrel
    have HR := Lib.hid hrow; have HB := Lib.hid hb; have HF := Lib.hid hF; have HW := Lib.hid hwf
    clear hrow hb hF hwf
    have eP := toList_none cur
    have hPz : (tx cur).size ≤ 999999 := by rw [tx_size]; omega
    by_cases hlt : k < s.size
    · have z1 : (k : Int) < (s.size : Int) := by omega
      have DO := Lib.hid (drop_octet hlt)
      have hsl := slice_one hlt hs
      obtain ⟨c, hc⟩ : ∃ c, s[k] = c := ⟨_, rfl⟩
      rw [hc] at DO hsl
      have hx : ((s[k].toNat : Nat) : Int) = (c.toNat : Int) := by rw [hc]
      clear hc
      have hadd := add_octet cur c
      have hqz : (tx [c]).size ≤ 1 := by rw [tx_size]; exact Nat.le_refl _
      have HX := Lib.hid (rfl : tx (cur ++ [c]) = tx (cur ++ [c]))
      obtain ⟨R, hR⟩ : ∃ R, tx (cur ++ [c]) = R := ⟨_, rfl⟩
      rw [hR] at hadd
      have HRR := Lib.hid hR
      obtain ⟨P, hP⟩ : ∃ P, tx cur = P := ⟨_, rfl⟩
      have HPP := Lib.hid hP
      rw [hP] at hadd hPz eP
      rw [hP]
      clear hP hR HX
      generalize tx [c] = q at *
      have KS := fun w => refSeen_any c w
      have e35 := oct35 c; have e34 := oct34 c; have e92 := oct92 c; have e32 := oct32 c; have e9 := oct9 c
      generalize (c.toNat : Int) = x at *
      cases wi
      · obtain rfl := HW.out rfl
        cases hbl : blankB c
        · have hbl2 := hbl
          unfold blankB at hbl2
          rw [Bool.or_eq_false_iff] at hbl2
          rw [hbl2.1] at e32; rw [hbl2.2] at e9
          by_cases h35 : c = 35
          · have HH := Lib.hid HF.out
            rw [DO.out, h35, f_stop] at HH
            have e1 : (x == 35) = true := by rw [e35, h35]; rfl
            by_cases hcn : cur = []
            · rw [decide_eq_true hcn] at eP
              rw [hcn, addF_nil] at HH
              clear KS e35 e34 e92 hbl hbl2 hcn h35
              go_wp2
              go_ret2
              refine ⟨_, ret_fields HH.out rfl, ?_, HB.out⟩
              rw [← HH.out]
              exact HR.out.texts
            · rw [decide_eq_false hcn] at eP
              rw [addF_some hcn] at HH
              clear KS e35 e34 e92 hbl hbl2 hcn h35
              go_wp2_with (at_builtin; refine wpList_append_text rfl _ _ rfl w.heap.size _ out rfl HR.out ?c1 _ cur HPP.out.symm rfl ?c2 ?_)
              case c1 => exact HB.out.size
              case c2 => omega
              intro v1 w2 h1 hb2
              have H1 := Lib.hid h1; have HB2 := Lib.hid hb2
              clear h1 hb2
              go_wp2
              go_ret2
              refine ⟨_, ret_fields HH.out rfl, ?_, HB.out.trans HB2.out⟩
              rw [← HH.out]
              exact H1.out.texts
          · have e1 : (x == 35) = false := by rw [e35]; simpa using h35
            cases hse : seenB c
            · rw [hse] at KS
              have HKS := Lib.hid KS
              have HH := Lib.hid HF.out
              rw [DO.out, f_out_bad _ _ _ _ hbl h35 hse] at HH
              clear KS e35 e34 e92 hbl hbl2 hse
              go_wp2_with (go_at_call 81; refine (HKS.out _).mono ?_; rintro e w' ⟨rfl, rfl⟩)
              go_ret2
              refine ⟨_, ret_fields HH.out rfl, ?_, HB.out⟩
              rw [← HH.out]
              exact TxS.nil _
            · rw [hse] at KS
              have HKS := Lib.hid KS
              have HH := Lib.hid HF.out
              rw [DO.out, f_out _ _ _ _ hbl h35 hse] at HH
              generalize (c == 34) = b34 at *
              clear KS e35 e92 hbl hbl2 hse
              go_wp2_with (go_at_call 81; refine (HKS.out _).mono ?_; rintro e w' ⟨rfl, rfl⟩)
              go_roundw
              case rel => exact ⟨k + 1, out, cur ++ [c], b34, false, by omega, by simp; omega, by omega, by go_num, by rw [HRR.out], rfl, rfl, HR.out, HB.out, fun _ => rfl, HH.out⟩
              case measure => simp [intOf]; omega
        · have HH := Lib.hid HF.out
          rw [DO.out, f_blank _ _ _ _ hbl] at HH
          unfold blankB at hbl
          generalize (c == 32) = b32 at *
          generalize (c == 9) = b9 at *
          clear KS e35 e34 e92
          by_cases hcn : cur = []
          · rw [decide_eq_true hcn] at eP
            rw [hcn, addF_nil] at HH
            clear hcn
            cases b32 <;> cases b9
            · cases hbl
            all_goals
              go_wp2
              go_roundw
              case rel => exact ⟨k + 1, out, [], false, false, by omega, by simp, by omega, by go_num, rfl, rfl, rfl, HR.out, HB.out, fun _ => rfl, HH.out⟩
              case measure => simp [intOf]; omega
          · rw [decide_eq_false hcn] at eP
            rw [addF_some hcn] at HH
            clear hcn
            cases b32 <;> cases b9
            · cases hbl
            all_goals
              go_wp2_with (at_builtin; refine wpList_append_text rfl _ _ rfl w.heap.size _ out rfl HR.out HB.out.size _ cur HPP.out.symm rfl (by omega) ?_)
              intro v1 w2 h1 hb2
              have H1 := Lib.hid h1; have HB2 := Lib.hid hb2
              clear h1 hb2
              go_wp2
              go_roundw
              case rel => exact ⟨k + 1, out ++ [cur], [], false, false, by omega, by simp, by simp; omega, by go_num, rfl, rfl, rfl, H1.out, HB.out.trans HB2.out, fun _ => rfl, HH.out⟩
              case measure => simp [intOf]; omega
      · cases hse : seenB c
        · rw [hse] at KS
          have HKS := Lib.hid KS
          have HH := Lib.hid HF.out
          rw [DO.out, f_in_bad _ _ _ _ hse] at HH
          clear KS e35 e34 e92 e32 e9 hse
          go_wp2_with (go_at_call 81; refine (HKS.out _).mono ?_; rintro e w' ⟨rfl, rfl⟩)
          go_ret2
          refine ⟨_, ret_fields HH.out rfl, ?_, HB.out⟩
          rw [← HH.out]
          exact TxS.nil _
        · rw [hse] at KS
          have HKS := Lib.hid KS
          have HH := Lib.hid HF.out
          rw [DO.out, f_in _ _ _ _ hse, show (c != 34) = !(c == 34) from rfl] at HH
          have hap := oct_apart c
          generalize (c == 34) = b34 at *
          generalize (c == 92) = b92 at *
          clear KS e35 e32 e9 hse
          have n34 : (x != 34) = !b34 := by rw [← e34]; rfl
          cases fr
          · cases b34 <;> cases b92
            · go_wp2_with (go_at_call 81; refine (HKS.out _).mono ?_; rintro e w' ⟨rfl, rfl⟩)
              go_roundw
              case rel => exact ⟨k + 1, out, cur ++ [c], true, false, by omega, by simp; omega, by omega, by go_num, by rw [HRR.out], rfl, rfl, HR.out, HB.out, fun _ => rfl, HH.out⟩
              case measure => simp [intOf]; omega
            · go_wp2_with (go_at_call 81; refine (HKS.out _).mono ?_; rintro e w' ⟨rfl, rfl⟩)
              go_roundw
              case rel => exact ⟨k + 1, out, cur ++ [c], true, true, by omega, by simp; omega, by omega, by go_num, by rw [HRR.out], rfl, rfl, HR.out, HB.out, (fun h => by cases h), HH.out⟩
              case measure => simp [intOf]; omega
            · go_wp2_with (go_at_call 81; refine (HKS.out _).mono ?_; rintro e w' ⟨rfl, rfl⟩)
              go_roundw
              case rel => exact ⟨k + 1, out, cur ++ [c], false, false, by omega, by simp; omega, by omega, by go_num, by rw [HRR.out], rfl, rfl, HR.out, HB.out, fun _ => rfl, HH.out⟩
              case measure => simp [intOf]; omega
            · exact absurd ⟨rfl, rfl⟩ hap
          · clear e34 e92 hap n34
            go_wp2_with (go_at_call 81; refine (HKS.out _).mono ?_; rintro e w' ⟨rfl, rfl⟩)
            go_roundw
            case rel => exact ⟨k + 1, out, cur ++ [c], true, false, by omega, by simp; omega, by omega, by go_num, by rw [HRR.out], rfl, rfl, HR.out, HB.out, fun _ => rfl, HH.out⟩
            case measure => simp [intOf]; omega
    · obtain rfl : k = s.size := by omega
      have HH := Lib.hid HF.out
      rw [List.drop_of_length_le (by rw [size_data]; exact Nat.le_refl _)] at HH
      by_cases hcn : cur = []
      · rw [decide_eq_true hcn] at eP
        have HC := Lib.hid hcn
        clear hcn
        generalize tx cur = P at *
        cases wi
        · rw [f_end, HC.out, addF_nil] at HH
          go_wp2
          go_ret2
          refine ⟨_, ret_fields HH.out rfl, ?_, HB.out⟩
          rw [← HH.out]
          exact HR.out.texts
        · rw [f_open] at HH
          go_wp2
          go_ret2
          refine ⟨_, ret_fields HH.out rfl, ?_, HB.out⟩
          rw [← HH.out]
          exact TxS.nil _
      · rw [decide_eq_false hcn] at eP
        obtain ⟨P, hP⟩ : ∃ P, tx cur = P := ⟨_, rfl⟩
        have HPP := Lib.hid hP
        have HC := Lib.hid hcn
        rw [hP] at eP hPz
        rw [hP]
        clear hP hcn
        cases wi
        · rw [f_end, addF_some HC.out] at HH
          go_wp2_with (at_builtin; refine wpList_append_text rfl _ _ rfl w.heap.size _ out rfl HR.out HB.out.size _ cur HPP.out.symm rfl (by omega) ?_)
          intro v1 w2 h1 hb2
          have H1 := Lib.hid h1; have HB2 := Lib.hid hb2
          clear h1 hb2
          go_wp2
          go_ret2
          refine ⟨_, ret_fields HH.out rfl, ?_, HB.out.trans HB2.out⟩
          rw [← HH.out]
          exact H1.out.texts
        · rw [f_open] at HH
          go_wp2_with (at_builtin; refine wpList_append_text rfl _ _ rfl w.heap.size _ out rfl HR.out HB.out.size _ cur HPP.out.symm rfl (by omega) ?_)
          intro v1 w2 h1 hb2
          have H1 := Lib.hid h1; have HB2 := Lib.hid hb2
          clear h1 hb2
          go_wp2
          go_ret2
          refine ⟨_, ret_fields HH.out rfl, ?_, HB.out.trans HB2.out⟩
          rw [← HH.out]
          exact TxS.nil _
end Go.Proofs.YtbfigaadbfggcaaGreatDoor
/- What the document's own Text and Step answer: of a right step its text; of any text its step. -/
namespace Go.Proofs.YtbfigaadbfggcaaGreatDoor
open Go.RowKit DecMath
set_option linter.unusedVariables false

theorem refStep_short (t : ByteArray) (w : World) (h : t.size < 2) :
    Calls Tryz.prog 61 #[.string t] w fun e w' => e = .returned (.tuple #[.agg #[.int .i64 0, .int .i64 0, .bool false], .bool false]) ∧ Below w.heap.size w w' := by
  have z1 : (t.size : Int) < 2 := by omega
  go_enter Tryz.func61, Tryz.ntmps61
  go_wp2
  refine bodyPost_ret (v := .tuple #[.agg #[.int .i64 0, .int .i64 0, .bool false], .bool false]) (by simp [results, Tryz.results61, go_sem]) rfl ⟨rfl, ?_⟩
  repeat (first | (with_reducible exact Below.refl _ _) | (with_reducible apply up_alloc) | (with_reducible refine up_set ?_ (by simp only; omega) _))

theorem lr0 : (((⟨#[76, 82, 66, 84]⟩ : ByteArray)[0].toNat : Nat) : Int) = 76 := rfl
theorem lr1 : (((⟨#[76, 82, 66, 84]⟩ : ByteArray)[1].toNat : Nat) : Int) = 82 := rfl
theorem lr2 : (((⟨#[76, 82, 66, 84]⟩ : ByteArray)[2].toNat : Nat) : Int) = 66 := rfl
theorem lr3 : (((⟨#[76, 82, 66, 84]⟩ : ByteArray)[3].toNat : Nat) : Int) = 84 := rfl

set_option maxRecDepth 100000 in
set_option maxHeartbeats 2000000 in
theorem refStep_core (t r g : ByteArray) (x y s n : Int) (k f u : Bool) (w : World) (t0 : 2 ≤ t.size) (t1 : t.size ≤ 9223372036854775807) (hx : ((t[0].toNat : Nat) : Int) = x)
    (hs : ((x == 76) = true ∧ (x == 82) = false ∧ (x == 66) = false ∧ (x == 84) = false ∧ s = 1) ∨ ((x == 76) = false ∧ (x == 82) = true ∧ (x == 66) = false ∧ (x == 84) = false ∧ s = 2) ∨ ((x == 76) = false ∧ (x == 82) = false ∧ (x == 66) = true ∧ (x == 84) = false ∧ s = 3) ∨ ((x == 76) = false ∧ (x == 82) = false ∧ (x == 66) = false ∧ (x == 84) = true ∧ s = 4) ∨ ((x == 76) = false ∧ (x == 82) = false ∧ (x == 66) = false ∧ (x == 84) = false ∧ s = 0))
    (hr : t.extract 1 t.size = r) (r0 : 1 ≤ r.size) (r1 : r.size ≤ 9223372036854775807) (F : Sp × Bool) (hF : (if k = true ∧ f = true then ((⟨s, n, u⟩ : Sp), true) else (⟨0, 0, false⟩, false)) = F)
    (hu : ((r[r.size - 1].toNat : Nat) : Int) = y) (hy : (y == 117) = u) (hg : (u = true ∧ r.extract 0 (r.size - 1) = g) ∨ (u = false ∧ r = g))
    (KD : ∀ w, Calls Tryz.prog 60 #[.string g] w fun e w' => e = .returned (.tuple #[.int .i64 n, .bool k]) ∧ w = w')
    (KR : ∀ w, Calls Tryz.prog 71 #[.agg #[.int .i64 s, .int .i64 n, .bool u]] w fun e w' => e = .returned (.bool f) ∧ Below w.heap.size w w') :
    Calls Tryz.prog 61 #[.string t] w fun e w' => e = .returned (.tuple #[.agg #[.int .i64 F.1.d, .int .i64 F.1.n, .bool F.1.u], .bool F.2]) ∧ Below w.heap.size w w' := by
  have HD := Lib.hid KD; have HR := Lib.hid KR; have HF := Lib.hid hF
  clear KD KR hF
  have z1 : decide ((t.size : Int) < 2) = false := by simp; omega
  have c0 := lr0; have c1 := lr1; have c2 := lr2; have c3 := lr3
  rcases hg with ⟨rfl, hg⟩ | ⟨rfl, rfl⟩
  all_goals
    rcases hs with ⟨b1, b2, b3, b4, rfl⟩ | ⟨b1, b2, b3, b4, rfl⟩ | ⟨b1, b2, b3, b4, rfl⟩ | ⟨b1, b2, b3, b4, rfl⟩ | ⟨b1, b2, b3, b4, rfl⟩
  all_goals
    as_aux_lemma =>
      go_enter Tryz.func61, Tryz.ntmps61
      go_wp2
      refine wp_loop_rounds 5 ?_
      rw [rounds_succ]; go_wp2; go_region; go_wp2
      rw [rounds_succ]; go_wp2; go_region; go_wp2
      rw [rounds_succ]; go_wp2; go_region; go_wp2
      rw [rounds_succ]; go_wp2; go_region; go_wp2
      rw [rounds_succ]; go_wp2_with fail
      refine (HD.out _).mono ?_
      rintro e w' ⟨rfl, rfl⟩
      cases k
      · go_wp2
        refine bodyPost_ret (v := .tuple #[.agg #[.int .i64 0, .int .i64 0, .bool false], .bool false]) (by simp [results, Tryz.results61, go_sem]) rfl ⟨retS (p := ⟨0, 0, false⟩) (by rw [← HF.out, if_neg (by simp)]), ?_⟩
        repeat (first | (with_reducible exact Below.refl _ _) | (with_reducible apply up_drew) | (with_reducible apply up_alloc) | (with_reducible refine up_set ?_ (by simp only; omega) _))
      · go_wp2_with fail
        refine (HR.out _).mono ?_
        rintro e w2 ⟨rfl, hb⟩
        have A0 := (((((((Bx.new w 50 [.int .i64 0, .int .i64 0, .bool false]).alloc _).drew).drew).drew).drew).up hb)
        have A1 := ((((((Bx.new (w.alloc _) 50 [.int .i64 _, .int .i64 n, .bool _]).drew).drew).drew).drew).up hb)
        simp only [World.size_alloc] at A1
        have B1 := up_trans (up_drew (up_drew (up_drew (up_drew (up_alloc (up_alloc (Below.refl _ w) _) _))))) hb
        have HB := Lib.hid B1
        have m0 := A0.cell 0 rfl; have m1 := A0.cell 1 rfl; have m2 := A0.cell 2 rfl; have mf := A0.free
        have n0 := A1.cell 0 rfl; have n1 := A1.cell 1 rfl; have n2 := A1.cell 2 rfl; have nf := A1.free
        clear hb B1 A0 A1
        cases f
        · go_wp2
          refine bodyPost_ret (v := .tuple #[.agg #[.int .i64 0, .int .i64 0, .bool false], .bool false]) (by simp [results, Tryz.results61, go_sem, m0, m1, m2]) rfl ⟨retS (p := ⟨0, 0, false⟩) (by rw [← HF.out, if_neg (by simp)]), ?_⟩
          have B4 := HB.out
          repeat (first | (with_reducible exact B4) | (with_reducible refine up_set ?_ (by simp only; omega) _))
        · go_wp2
          have e := HF.out
          simp only [and_self, if_true] at e
          subst e
          refine bodyPost_ret ?_ rfl ⟨rfl, ?_⟩
          · simp [results, Tryz.results61, go_sem, m0, m1, m2]
          have B4 := HB.out
          repeat (first | (with_reducible exact B4) | (with_reducible refine up_set ?_ (by simp only; omega) _))

theorem numIn (l : List UInt8) (d : Int) (d0 : 0 ≤ d) (d1 : d ≤ 4) : ((numOf l).2 = true ∧ rightB d (numOf l).1 = true) ↔ (d ≠ 0 ∧ (inOf l 1 64).2 = true) := by
  unfold inOf
  split
  · rename_i h
    constructor
    · rintro ⟨h1, h2⟩
      have := rightB_true h2
      exact ⟨by omega, h1⟩
    · rintro ⟨h1, h2⟩
      exact ⟨h2, by simp [rightB]; omega⟩
  · rename_i h
    constructor
    · rintro ⟨h1, h2⟩
      have := rightB_true h2
      exact absurd ⟨h1, by omega, by omega⟩ h
    · rintro ⟨h1, h2⟩
      cases h2
theorem inOf_num {l : List UInt8} {lo hi : Int} (h : (inOf l lo hi).2 = true) : (inOf l lo hi).1 = (numOf l).1 := by
  unfold inOf at h ⊢
  split at h
  · rename_i h2; rw [if_pos h2]
  · cases h
theorem sideO_cases (c : UInt8) : ((((c.toNat : Nat) : Int) == 76) = true ∧ (((c.toNat : Nat) : Int) == 82) = false ∧ (((c.toNat : Nat) : Int) == 66) = false ∧ (((c.toNat : Nat) : Int) == 84) = false ∧ sideO c = 1) ∨ ((((c.toNat : Nat) : Int) == 76) = false ∧ (((c.toNat : Nat) : Int) == 82) = true ∧ (((c.toNat : Nat) : Int) == 66) = false ∧ (((c.toNat : Nat) : Int) == 84) = false ∧ sideO c = 2) ∨ ((((c.toNat : Nat) : Int) == 76) = false ∧ (((c.toNat : Nat) : Int) == 82) = false ∧ (((c.toNat : Nat) : Int) == 66) = true ∧ (((c.toNat : Nat) : Int) == 84) = false ∧ sideO c = 3) ∨ ((((c.toNat : Nat) : Int) == 76) = false ∧ (((c.toNat : Nat) : Int) == 82) = false ∧ (((c.toNat : Nat) : Int) == 66) = false ∧ (((c.toNat : Nat) : Int) == 84) = true ∧ sideO c = 4) ∨ ((((c.toNat : Nat) : Int) == 76) = false ∧ (((c.toNat : Nat) : Int) == 82) = false ∧ (((c.toNat : Nat) : Int) == 66) = false ∧ (((c.toNat : Nat) : Int) == 84) = false ∧ sideO c = 0) := by
  have e1 := oct_eq c 76; have e2 := oct_eq c 82; have e3 := oct_eq c 66; have e4 := oct_eq c 84
  simp only [show (((76 : UInt8).toNat : Nat) : Int) = 76 from rfl, show (((82 : UInt8).toNat : Nat) : Int) = 82 from rfl, show (((66 : UInt8).toNat : Nat) : Int) = 66 from rfl, show (((84 : UInt8).toNat : Nat) : Int) = 84 from rfl] at e1 e2 e3 e4
  rw [e1, e2, e3, e4]
  by_cases h1 : c = 76
  · subst h1; left; decide
  by_cases h2 : c = 82
  · subst h2; right; left; decide
  by_cases h3 : c = 66
  · subst h3; right; right; left; decide
  by_cases h4 : c = 84
  · subst h4; right; right; right; left; decide
  right; right; right; right
  refine ⟨by simpa using h1, by simpa using h2, by simpa using h3, by simpa using h4, ?_⟩
  unfold sideO
  rw [if_neg h1, if_neg h2, if_neg h3, if_neg h4]
theorem getS_short (l : List UInt8) (h : l.length < 2) : getS l = (⟨0, 0, false⟩, false) := by
  match l, h with
  | [], _ => rfl
  | [c], _ =>
    have : (inOf (stripU []).1 1 64).2 = false := by
      unfold inOf stripU
      simp only [List.getLast?_nil, reduceCtorEq, if_false]
      rw [numOf_len [] (by simp)]
      rfl
    simp [getS, this]
theorem last_octet (r : ByteArray) (h : 1 ≤ r.size) : r.data.toList.getLast? = some (r[r.size - 1]'(by omega)) := by
  rw [List.getLast?_eq_getElem?, size_data, List.getElem?_eq_getElem (by rw [size_data]; omega)]
  rfl
theorem refStepGet_any (t : ByteArray) (w : World) (ht : t.size ≤ 9223372036854775807) :
    Calls Tryz.prog 61 #[.string t] w fun e w' => e = .returned (.tuple #[.agg #[.int .i64 (getS t.data.toList).1.d, .int .i64 (getS t.data.toList).1.n, .bool (getS t.data.toList).1.u], .bool (getS t.data.toList).2]) ∧ Below w.heap.size w w' := by
  by_cases h2 : t.size < 2
  · rw [getS_short _ (by rw [size_data]; exact h2)]
    exact refStep_short t w h2
  · obtain ⟨c, r, hl⟩ : ∃ c r, t.data.toList = c :: r := by
      cases h : t.data.toList with
      | nil => have := size_data t; rw [h] at this; simp at this; omega
      | cons c r => exact ⟨c, r, rfl⟩
    obtain rfl : t = tx (c :: r) := by rw [← hl, tx_data]
    rw [tx_size] at h2 ht
    simp only [List.length_cons] at h2 ht
    have hc : (tx (c :: r))[0]'(by rw [tx_size]; simp) = c := rfl
    have hlast := last_octet (tx r) (by rw [tx_size]; omega)
    rw [data_tx] at hlast
    have hb := sideO_bounds c
    refine refStep_core (tx (c :: r)) (tx r) (tx (stripU r).1) (((tx (c :: r))[0]'(by rw [tx_size]; simp)).toNat : Nat) _ (sideO c) (numOf (stripU r).1).1 (numOf (stripU r).1).2 (rightB (sideO c) (numOf (stripU r).1).1) (stripU r).2 w (by rw [tx_size, List.length_cons]; omega) (by rw [tx_size, List.length_cons]; omega) rfl (by rw [hc]; exact sideO_cases c) (by rw [tx_extract, tx_size, data_tx]; simp) (by rw [tx_size]; omega) (by rw [tx_size]; omega) _ ?_ rfl ?_ ?_ (fun w => ?_) (fun w => refRight_any _ _ _ w)
    · rw [data_tx]
      simp only [getS]
      have hn := numIn (stripU r).1 (sideO c) hb.1 hb.2
      by_cases h : sideO c ≠ 0 ∧ (inOf (stripU r).1 1 64).2 = true
      · rw [if_pos h, if_pos (hn.2 h), inOf_num h.2]
      · rw [if_neg h, if_neg (fun e => h (hn.1 e))]
    · have e := oct_eq ((tx r)[(tx r).size - 1]'(by rw [tx_size]; omega)) 117
      simp only [show (((117 : UInt8).toNat : Nat) : Int) = 117 from rfl] at e
      rw [e]
      unfold stripU
      rw [hlast]
      split
      · rename_i h; simpa using h
      · rename_i h; simpa using h
    · unfold stripU
      split
      · left
        refine ⟨rfl, ?_⟩
        rw [tx_extract, tx_size, data_tx, List.drop_zero, List.dropLast_eq_take]
      · right; exact ⟨rfl, rfl⟩
    · have := refGet_any (tx (stripU r).1) w (by
        have : (stripU r).1.length ≤ r.length := by
          unfold stripU
          split
          · simp
          · exact Nat.le_refl _
        rw [tx_size]; omega)
      rw [data_tx] at this
      exact this
end Go.Proofs.YtbfigaadbfggcaaGreatDoor
