/- What the library's Reverse and Insert make of lists of pieces. -/
import Derived.Test.YtnofncibplgmpaaPile
import Derived.Maps.AppendAt
import Derived.Lib.AppendZerosOnto
import Derived.Lib.Overlaps
import Derived.Shelf.Spec.SlicesInsert
import Derived.Laws.NewBlocks
import Derived.Deep.RegionLaw
namespace Go.Proofs.Ytnofncibplgmpaa
open Go.RowKit Go.Sort Go.Lib
set_option linter.unusedVariables false

theorem flat_pcs (l : List Pc) : flatK Pc.cells 4 l.toArray = (pcs l).toArray := by
  apply Array.ext
  · simp [pcs_length]
  · intro t h1 h2
    have ht : t < l.length * 4 := by simpa using h1
    have e := get_flatK Pc.cells 4 l.toArray t (by simpa using ht)
    rw [getElem!_pos _ t h1] at e
    rw [e]
    have hj : t / 4 < l.length := by omega
    have hp := pcs_at (l := l) (j := t / 4) (p := l[t / 4]) (List.getElem?_eq_getElem hj) (t % 4) (by omega)
    rw [show t / 4 * 4 + t % 4 = t by omega] at hp
    have hc : t % 4 < (l[t / 4]).cells.length := by simp [Pc.cells]; omega
    rw [List.getElem?_eq_getElem (by rw [pcs_length]; exact ht), List.getElem?_eq_getElem hc] at hp
    have e2 : l.toArray[t / 4]! = l[t / 4] := by rw [getElem!_pos _ (t / 4) (by simpa using hj)]; simp
    rw [e2, getElem!_pos _ (t % 4) hc]
    simpa using (Option.some.inj hp).symm

theorem Row.holds {w : World} {base g cap : Nat} {l : List Pc} (h : Row w base g cap l) : HoldsK Pc.cells 4 w g 0 l.toArray := by
  unfold HoldsK
  rw [flat_pcs]
  intro j hj
  have hj' : j < (pcs l).length := by simpa using hj
  refine ⟨?_, h.free _⟩
  rw [Nat.zero_add, h.at j _ (List.getElem?_eq_getElem hj'), getElem!_pos _ j hj]
  simp
theorem put_heap {w : World} {g n : Nat} {cur : Array Value} {e : TypeId} {fr : Nat × Nat} (F : Array Value) (hb : w.heap[g]? = some (.cells cur e fr)) : (putRow id (Sort.ahead w n) g 0 F).heap[g]? = some (.cells (putCells id 0 F cur) e fr) := by
  simp [putRow, mapBlock, Sort.ahead, Array.getElem?_modify, hb, onCells]
theorem put_other {w : World} {g n : Nat} (F : Array Value) {k : Nat} (hk : k ≠ g) : (putRow id (Sort.ahead w n) g 0 F).heap[k]? = w.heap[k]? := by
  have : g ≠ k := fun e => hk e.symm
  simp [putRow, mapBlock, Sort.ahead, Array.getElem?_modify, this]
theorem put_take (cur : Array Value) (F : List Value) (h : F.length ≤ cur.size) : (putCells id 0 F.toArray cur).toList.take F.length = F := by
  apply List.ext_getElem?
  intro j
  by_cases hj : j < F.length
  · rw [List.getElem?_take_of_lt hj, Array.getElem?_toList]
    simp [putCells, hj, show j < cur.size by omega]
  · rw [List.getElem?_take_eq_none (by omega), List.getElem?_eq_none (by omega)]

theorem pcReverse_any {w : World} {base g cap : Nat} {l : List Pc} (h : Row w base g cap l) (hm : l.length ≤ 1000000) :
    Calls Try.prog 54 #[.slice (some ⟨g, 0, none⟩) l.length cap] w fun e w' => e = .returned (.tuple #[]) ∧ Row w' base g cap l.reverse ∧ Below base w w' := by
  have K : Calls Try.prog 54 _ _ _ := AnyQ.slices_Reverse Try.laysSlgn35 4 Try.isAgg42 Try.sizeOf42 Pc.cells (fun _ => rfl) (fun p v hv => pcs_one (l := [p]) v (by simpa [pcs] using hv)) g 0 cap l.toArray w h.holds (by simp; omega)
  rw [show l.toArray.size = l.length by simp] at K
  refine K.mono ?_
  rintro e w' ⟨rfl, n, rfl⟩
  obtain ⟨cur, h2, h3, h4, h5, h6, h1⟩ := h.block
  have e1 : l.toArray.reverse = l.reverse.toArray := by simp
  have hpl : (pcs l.reverse).length = l.length * 4 := by rw [pcs_length, List.length_reverse]
  refine ⟨rfl, Row.of_block h1 (put_heap _ h2) (by simpa using h3) h4 (by simpa [putCells] using h5) ?_, ?_⟩
  · rw [e1, flat_pcs, List.length_reverse]
    have := put_take cur (pcs l.reverse) (by rw [hpl]; omega)
    rwa [hpl] at this
  · exact ⟨rfl, rfl, rfl, by simp [putRowK, putRow, mapBlock, Sort.ahead], fun k hk => put_other _ (by have := h.lt; omega)⟩

/-- copy, of elements of k cells: all is read before anything is written. -/
theorem run_copy_k {P : Program} (w : World) (dT sT ty elem : TypeId) (k b o dLen dCap : Nat) (a : Addr) (sLen sCap : Nat) (cs : List Value)
    (hu : P.underlying dT = some (.slice elem)) (hs : (P.info? elem).map (·.size) = some k) (hn : cs.length = Nat.min sLen dLen * k)
    (hsrc : ∀ j v, cs[j]? = some v → w.cell? (a.add j) = some v) (hc : ∀ j, j < cs.length → (w.cell? ⟨b, o + j, none⟩).isSome = true) (hf : ∀ j, j < cs.length → w.frozen? ⟨b, o + j, none⟩ = false) (h1 : ∀ v ∈ cs, v.oneCell' = true) :
    (Builtin.copy_ #[dT, sT] ty #[.slice (some ⟨b, o, none⟩) dLen dCap, .slice (some a) sLen sCap]).run P w = .ok (goInt (Nat.min sLen dLen)) (w.setCells b o cs) := by
  have hst := run_storeCells_cells (P := P) b o cs 0 w (by simpa using hc) (by simpa using hf) h1
  cases hq : P.info? elem with
  | none => simp [hq] at hs
  | some i =>
    have hi : i.size = k := by simpa [hq] using hs
    have hl := run_firstCells_some (P := P) w i.size (Nat.min sLen dLen) a sLen sCap cs (by rw [hi]; exact hn) hsrc
    simp [Builtin.copy_, run_underlying hu, Builtin.lenOf, sizeOf, typeInfo, hq, hl, hst]

/-- Cells laid one by one: what stands in the block then. -/
theorem heap_setCells_list (b : Nat) : ∀ (vs : List Value) (o : Nat) (w : World) (cur : Array Value) (t : TypeId), w.heap[b]? = some (.cells cur t (0, 0)) → o + vs.length ≤ cur.size → ∃ cur', (w.setCells b o vs).heap[b]? = some (.cells cur' t (0, 0)) ∧ cur'.toList = cur.toList.take o ++ vs ++ cur.toList.drop (o + vs.length)
  | [], o, w, cur, t, h, _ => ⟨cur, h, by simp⟩
  | v :: r, o, w, cur, t, h, hlen => by
    simp only [List.length_cons] at hlen
    have h1 : (w.setCell ⟨b, o, none⟩ v).heap[b]? = some (.cells (cur.setIfInBounds o v) t (0, 0)) := by
      obtain ⟨hlt, hk⟩ := Array.getElem?_eq_some_iff.1 h
      show (w.heap.modify b _)[b]? = _
      rw [Array.getElem?_eq_getElem (by rw [Array.size_modify]; exact hlt), Array.getElem_modify_self, hk]
      rfl
    obtain ⟨cur', h2, h3⟩ := heap_setCells_list b r (o + 1) _ _ t h1 (by simp; omega)
    refine ⟨cur', h2, ?_⟩
    rw [h3]
    have e : (cur.setIfInBounds o v).toList = cur.toList.take o ++ v :: cur.toList.drop (o + 1) := by
      rw [Array.toList_setIfInBounds, List.set_eq_take_append_cons_drop, if_pos (by simp; omega)]
    have lt : (cur.toList.take o).length = o := by rw [List.length_take]; simp; omega
    have e1 : (cur.toList.take o ++ v :: cur.toList.drop (o + 1)).take (o + 1) = cur.toList.take o ++ [v] := by
      rw [List.take_append, lt, List.take_of_length_le (by omega), show o + 1 - o = 1 by omega]
      rfl
    have e2 : (cur.toList.take o ++ v :: cur.toList.drop (o + 1)).drop (o + 1 + r.length) = cur.toList.drop (o + (r.length + 1)) := by
      rw [List.drop_append, lt, List.drop_eq_nil_of_le (by omega), show o + 1 + r.length - o = r.length + 1 by omega, List.drop_succ_cons, List.drop_drop, List.nil_append]
      congr 1
      omega
    rw [e, e1, e2]
    simp

/-- What Insert answers, of a list in block g. -/
def InsP (base : Nat) (w : World) (g : Nat) (l : List Pc) (e : Ending) (w' : World) : Prop :=
  ∃ g' cap', e = .returned (.slice (some ⟨g', 0, none⟩) l.length cap') ∧ Row w' base g' cap' l ∧ (g' = g ∨ w.heap.size ≤ g') ∧ But g g w w'

theorem but_of_grown {w w' : World} {g : Nat} (h : w.grownBy w' (some g)) : But g g w w' := ⟨h.os, h.tape, h.output, h.size, fun k hk h1 _ => h.block k hk (by simpa using h1)⟩
theorem addr0 (g j : Nat) : (⟨g, 0, none⟩ : Addr).add j = ⟨g, j, none⟩ := by unfold Addr.add; split <;> simp_all

set_option maxHeartbeats 1000000 in
theorem pcInsert_end {w : World} {base g cap : Nat} {l xs : List Pc} (h : Row w base g cap l) (u c2 : Nat) (hu : PcsAt w u xs) (hl0 : 0 < l.length) (hx0 : 0 < xs.length) (hl : l.length ≤ 1000000) (hx : xs.length ≤ 1000000) :
    Calls Try.prog 58 #[.slice (some ⟨g, 0, none⟩) l.length cap, .int .i64 (l.length : Int), .slice (some ⟨u, 0, none⟩) xs.length c2] w (InsP base w g (l ++ xs)) := by
  obtain ⟨i0, hi, hz0, hz1, hz2⟩ := info_parts Try.infoPc
  have hcap : l.length ≤ cap ∧ cap ≤ maxLen := by obtain ⟨cur, _, h3, h4, _⟩ := h.block; exact ⟨h3, h4⟩
  have HR := Lib.hid h; have HU := Lib.hid hu
  have HX : Hid ((pcs xs).length = xs.length * 4) := Lib.hid (pcs_length xs)
  have HLX : Hid ((l ++ xs).length = l.length + xs.length) := Lib.hid List.length_append
  have hbase := h.lt
  clear h hu
  generalize hn : l.length = n at *
  generalize hm : xs.length = m at *
  have HN := Lib.hid hn; have HM := Lib.hid hm
  clear hn hm
  have z1 : ¬ ((m : Int) = 0) := by omega
  rcases Decidable.em (cap = n) with rfl | hne
  all_goals
    go_enter Try.func58, Try.ntmps58
    go_wp2_with (at_builtin; refine wpList_append_own_at _ rfl _ _ 59 rfl base 42 i0 _ 4 24 Try.underlying59 hi hz0 hz1 hz2 rfl (by omega) _ _ _ rfl (HN.out ▸ HR.out.own) ⟨u, 0, none⟩ m c2 (pcs xs) rfl ?qc1 ?qc2 ?qc3 ?qc4 ?qc5 ?qc6 ?_)
    case qc1 => exact HX.out
    case qc2 => intro j v hj; rw [addr0]; exact HU.out j v hj
    case qc3 => exact pcs_one
    case qc4 => unfold maxLen; omega
    case qc5 => omega
    case qc6 => omega
    intro v' w1 hown hgrow hnil hat
    rw [← pcs_append, ← HLX.out] at hown
    obtain ⟨g', cap', rfl, hrow⟩ := Row.of_own hown (by rw [HLX.out]; omega)
    have HO := Lib.hid hrow; have HG := Lib.hid (but_of_grown (g := g) hgrow)
    have HA := Lib.hid hat
    clear hown hgrow hnil hat hrow
    go_wp2
    go_ret
    refine ⟨g', cap', rfl, HO.out, ?_, HG.out⟩
    have := HA.out
    simp [Value.ownBlock] at this
    omega

theorem run_overlaps_pc {w : World} (u g o : Nat) (m c2 lb cb : Nat) (hne : u ≠ g) (curu curg : Array Value) (hu : w.heap[u]? = some (.cells curu 42 (0, 0))) (hg : w.heap[g]? = some (.cells curg 42 (0, 0))) (h0 : curg.size ≠ 0) :
    (callFunc 59 #[.slice (some ⟨u, 0, none⟩) m c2, .slice (some ⟨g, o, none⟩) lb cb]).run Try.prog w = .ok (.value (.bool false)) w := by
  rw [run_callFunc_extern Try.func59 (by kernel_rfl) (by kernel_rfl) (by kernel_rfl) (e := Extern.SlicesOverlaps.overlaps #[59, 59] #[4]) (by kernel_rfl),
    Lib.run_overlaps_apart w 59 4 42 Try.underlying59 4 Try.sizeOf42 ⟨u, 0, none⟩ ⟨g, o, none⟩ m c2 lb cb hne 42 42 curu.size curg.size (by simp [World.shape?, hu]) (by simp [World.shape?, hg]) h0 (row_frozen hu _) (row_frozen hu _)]
  rfl

set_option maxHeartbeats 4000000 in
set_option maxRecDepth 100000 in
theorem pcInsert_room {w : World} {base g cap : Nat} {l xs : List Pc} (h : Row w base g cap l) (base2 u c2 : Nat) (hu : Row w base2 u c2 xs) (hne : u ≠ g) (hl0 : 0 < l.length) (hx0 : 0 < xs.length) (hl : l.length ≤ 1000000) (hx : xs.length ≤ 1000000) (hroom : l.length + xs.length ≤ cap) :
    Calls Try.prog 58 #[.slice (some ⟨g, 0, none⟩) l.length cap, .int .i64 0, .slice (some ⟨u, 0, none⟩) xs.length c2] w (InsP base w g (xs ++ l)) := by
  obtain ⟨cur, h2, h3, h4, h5, h6, h1⟩ := h.block
  obtain ⟨curu, k2, k3, k4, k5, k6, k1⟩ := hu.block
  have hov := fun o lb cb => run_overlaps_pc (w := w) u g o xs.length c2 lb cb hne curu cur k2 h2 (by omega)
  have HL := Lib.hid (pcs_length l); have HX := Lib.hid (pcs_length xs); have HA := Lib.hid h.at; have HU := Lib.hid hu.at
  have hsz : (Try.prog.info? 42).map (·.size) = some 4 := by kernel_rfl
  have c1 : ∀ ty dc sc, (Builtin.copy_ #[59, 59] ty #[.slice (some ⟨g, xs.length * 4, none⟩) l.length dc, .slice (some ⟨g, 0, none⟩) (l.length + xs.length) sc]).run Try.prog w.drew = .ok (goInt l.length) (w.drew.setCells g (xs.length * 4) (pcs l)) := fun ty dc sc => by
    have := run_copy_k (P := Try.prog) w.drew _ 59 ty _ 4 g (xs.length * 4) l.length dc ⟨g, 0, none⟩ (l.length + xs.length) sc (pcs l) Try.underlying59 hsz (by rw [pcs_length, show Nat.min (l.length + xs.length) l.length = l.length from Nat.min_eq_right (by omega)])
      (fun j v hj => by rw [addr0]; exact h.at j v hj) (fun j hj => row_some (w := w.drew) h2 _ (by rw [HL.out] at hj; omega)) (fun j _ => row_frozen (w := w.drew) h2 _) pcs_one
    rwa [show Nat.min (l.length + xs.length) l.length = l.length from Nat.min_eq_right (by omega)] at this
  obtain ⟨cur1, e1, e2⟩ := heap_setCells_list g (pcs l) (xs.length * 4) w.drew cur _ h2 (by rw [pcs_length]; omega)
  obtain ⟨W1, hW1⟩ : ∃ W1, w.drew.setCells g (xs.length * 4) (pcs l) = W1 := ⟨_, rfl⟩
  have hb1 : But g g w W1 := by rw [← hW1]; exact (drew_but g g w).trans (setCells_but g g _ _ _) (.inl rfl)
  rw [hW1] at e1 c1
  have s1 : cur1.size = cap * 4 := by
    have := congrArg List.length e2
    simp [HL.out] at this
    omega
  have hU1 : PcsAt W1 u xs := fun j v hv => by
    rw [World.cell?_of_block (a := ⟨u, j, none⟩) (hb1.block u hu.lt.2 hne hne)]
    exact hu.at j v hv
  have c2' : ∀ ty dc sc, (Builtin.copy_ #[59, 59] ty #[.slice (some ⟨g, 0, none⟩) (l.length + xs.length) dc, .slice (some ⟨u, 0, none⟩) xs.length sc]).run Try.prog W1 = .ok (goInt xs.length) (W1.setCells g 0 (pcs xs)) := fun ty dc sc => by
    have := run_copy_k (P := Try.prog) W1 _ 59 ty _ 4 g 0 (l.length + xs.length) dc ⟨u, 0, none⟩ xs.length sc (pcs xs) Try.underlying59 hsz (by rw [pcs_length, show Nat.min xs.length (l.length + xs.length) = xs.length from Nat.min_eq_left (by omega)])
      (fun j v hj => by rw [addr0]; exact hU1 j v hj) (fun j hj => row_some e1 _ (by rw [HX.out] at hj; omega)) (fun j _ => row_frozen e1 _) pcs_one
    rwa [show Nat.min xs.length (l.length + xs.length) = xs.length from Nat.min_eq_left (by omega)] at this
  obtain ⟨cur2, f1, f2⟩ := heap_setCells_list g (pcs xs) 0 W1 cur1 _ e1 (by rw [pcs_length]; omega)
  have s2 : cur2.size = cap * 4 := by
    have := congrArg List.length f2
    simp [HX.out] at this
    omega
  have hfin : InsP base w g (xs ++ l) (.returned (.slice (some ⟨g, 0, none⟩) (l.length + xs.length) cap)) (W1.setCells g 0 (pcs xs)) := by
    refine ⟨g, cap, by rw [List.length_append, Nat.add_comm], Row.of_block h1 f1 (by rw [List.length_append]; omega) h4 s2 ?_, .inl rfl, hb1.trans (setCells_but g g _ _ _) (.inl rfl)⟩
    rw [f2, e2]
    have lt : (cur.toList.take (xs.length * 4)).length = xs.length * 4 := by rw [List.length_take]; simp; omega
    have t1 : ((cur.toList.take (xs.length * 4) ++ pcs l ++ cur.toList.drop (xs.length * 4 + (pcs l).length)).drop (0 + (pcs xs).length)) = pcs l ++ cur.toList.drop (xs.length * 4 + (pcs l).length) := by
      rw [Nat.zero_add, HX.out, List.append_assoc, List.drop_append, lt, List.drop_eq_nil_of_le (by omega), Nat.sub_self]
      rfl
    rw [t1, List.take_zero, List.nil_append, ← List.append_assoc, ← pcs_append, List.length_append, List.take_append, List.take_of_length_le (by rw [pcs_length, List.length_append]; exact Nat.le_refl _)]
    rw [pcs_length (xs ++ l), List.length_append, Nat.sub_self]
    simp
  have HF := Lib.hid hfin
  clear hfin f1 f2 e1 e2 s1 s2 hU1 hb1 h2 h5 h6 h1 k1 k2 k3 k4 k5 k6 h hu HA HU cur2 cur1
  generalize l.length = n at *
  generalize xs.length = m at *
  have z1 : ¬ ((m : Int) = 0) := by omega
  have z2 : ¬ ((n : Int) = 0) := by omega
  have z3 : ¬ ((cap : Int) < (n : Int) + (m : Int)) := by omega
  have z4 : cap ≤ 9223372036854775807 := by unfold maxLen at h4; omega
  have z5 : IntKind.i64.wrap (m : Int) = (m : Int) := IntWalk.i64_in _ (by omega)
  have z6 : (0 : Int) ≤ (m : Int) := by omega
  have z7 : (m : Int) ≤ (n : Int) + (m : Int) := by omega
  have z8 : ¬ (cap = m) := by omega
  have z10 : (0 : Int) ≤ (n : Int) + (m : Int) := by omega
  have z9 : n + m - m = n := by omega
  have HW := Lib.hid hW1
  clear hW1
  go_enter Try.func58, Try.ntmps58
  go_wp2_with (simp only [hov])
  go_region_law (refine step_copy_runI rfl _ _ 59 59 rfl _ _ (by simp [Act.eval, Act.put]) (by simp [Act.eval, Act.put]) (c1 _ _ _) ?_)
  go_wp2_with (at_builtin; refine wpList_copy_runI _ rfl _ _ 59 59 rfl _ _ rfl rfl (c2' _ _ _) ?_)
  go_ret
  exact HF.out

theorem zeros4_size (n : Nat) : (Builtin.zeroCells (Value.agg #[.int .i64 0, .int .i64 0, .bool false, .bool false]).cells n).size = n * 4 := by simp [Builtin.zeroCells, Value.cells]

set_option maxHeartbeats 4000000 in
set_option maxRecDepth 100000 in
theorem pcInsert_grow {w : World} {base g cap : Nat} {l xs : List Pc} (h : Row w base g cap l) (base2 u c2 : Nat) (hu : Row w base2 u c2 xs) (hl0 : 0 < l.length) (hx0 : 0 < xs.length) (hl : l.length ≤ 1000000) (hx : xs.length ≤ 1000000) (hroom : cap < l.length + xs.length) :
    Calls Try.prog 58 #[.slice (some ⟨g, 0, none⟩) l.length cap, .int .i64 0, .slice (some ⟨u, 0, none⟩) xs.length c2] w (InsP base w g (xs ++ l)) := by
  obtain ⟨cur, h2, h3, h4, h5, h6, h1⟩ := h.block
  obtain ⟨i0, hi, hz0, hz1, hz2⟩ := info_parts Try.infoPc
  have HL := Lib.hid (pcs_length l); have HX := Lib.hid (pcs_length xs); have HA := Lib.hid h.at; have HU := Lib.hid hu.at
  have hsz : (Try.prog.info? 42).map (·.size) = some 4 := by kernel_rfl
  obtain ⟨N, hN⟩ : ∃ N, l.length + xs.length = N := ⟨_, rfl⟩
  rw [hN] at hroom
  -- the new row of zeros
  have hrz : ∀ ty, (Builtin.append_ #[59, 3] ty #[.slice (some ⟨g, 0, none⟩) 0 cap, .int .i64 (N : Int)]).run Try.prog w =
      .ok (.slice (some ⟨w.heap.size, 0, none⟩) N (grownCap w N cap 42)) (w.drew.alloc (.cells (#[] ++ Builtin.zeroCells (Value.agg #[.int .i64 0, .int .i64 0, .bool false, .bool false]).cells N ++ Builtin.zeroCells (Value.agg #[.int .i64 0, .int .i64 0, .bool false, .bool false]).cells (grownCap w N cap 42 - N)) 42)) := fun ty => by
    have hold : (Builtin.firstCells i0.size 0 (.slice (some ⟨g, 0, none⟩) 0 cap)).run Try.prog w.drew = .ok ([] : List Value).toArray w.drew := run_firstCells_some w.drew i0.size 0 ⟨g, 0, none⟩ 0 cap [] (by simp) (fun j v hj => by simp at hj)
    have h := Lib.run_append_grow_zeros w 59 3 ty 42 i0 _ .i64 .i64 Try.underlying59 Try.underlying3 hi hz0 (some ⟨g, 0, none⟩) 0 cap [] hold N (by omega) (by omega) (by omega) (by omega) (by rw [hz2]; omega) (by rw [hz2, Nat.zero_add]; exact growslice_fits hroom (by omega))
    rw [Nat.zero_add] at h
    exact h
  have hGn : N ≤ grownCap w N cap 42 := grownCap_ge w _ _ _
  have hGm := grownCap_le_maxLen w N cap 42 (by unfold maxLen; omega)
  generalize grownCap w N cap 42 = G at *
  obtain ⟨ROW, hROW⟩ : ∃ ROW : Array Value, #[] ++ Builtin.zeroCells (Value.agg #[.int .i64 0, .int .i64 0, .bool false, .bool false]).cells N ++ Builtin.zeroCells (Value.agg #[.int .i64 0, .int .i64 0, .bool false, .bool false]).cells (G - N) = ROW := ⟨_, rfl⟩
  rw [hROW] at hrz
  have hRs : ROW.size = G * 4 := by
    rw [← hROW, Array.size_append, Array.size_append, zeros4_size, zeros4_size]
    simp
    omega
  clear hROW
  obtain ⟨W0, hW0⟩ : ∃ W0, w.drew.alloc (.cells ROW 42) = W0 := ⟨_, rfl⟩
  have e0 : W0.heap[w.heap.size]? = some (.cells ROW 42 (0, 0)) := by rw [← hW0]; exact heap_new w.drew _
  have hbw : Below w.heap.size w W0 := by rw [← hW0]; exact up_alloc (up_drew (Below.refl _ _)) _
  rw [hW0] at hrz
  have c1 : ∀ ty dc sc, (Builtin.copy_ #[59, 59] ty #[.slice (some ⟨w.heap.size, 0, none⟩) N dc, .slice (some ⟨u, 0, none⟩) xs.length sc]).run Try.prog W0 = .ok (goInt xs.length) (W0.setCells w.heap.size 0 (pcs xs)) := fun ty dc sc => by
    have := run_copy_k (P := Try.prog) W0 _ 59 ty _ 4 w.heap.size 0 N dc ⟨u, 0, none⟩ xs.length sc (pcs xs) Try.underlying59 hsz (by rw [pcs_length, show Nat.min xs.length N = xs.length from Nat.min_eq_left (by omega)])
      (fun j v hj => by rw [addr0]; exact (hu.at.up hbw) j v hj) (fun j hj => row_some e0 _ (by rw [HX.out] at hj; omega)) (fun j _ => row_frozen e0 _) pcs_one
    rwa [show Nat.min xs.length N = xs.length from Nat.min_eq_left (by omega)] at this
  obtain ⟨cur1, e1, e2⟩ := heap_setCells_list w.heap.size (pcs xs) 0 W0 ROW _ e0 (by rw [pcs_length]; omega)
  obtain ⟨W1, hW1⟩ : ∃ W1, W0.setCells w.heap.size 0 (pcs xs) = W1 := ⟨_, rfl⟩
  have hb1 : But w.heap.size w.heap.size W0 W1 := by rw [← hW1]; exact setCells_but _ _ _ _ _
  rw [hW1] at e1 c1
  have s1 : cur1.size = G * 4 := by
    have := congrArg List.length e2
    simp [HX.out] at this
    omega
  have hA1 : PcsAt W1.drew g l := fun j v hv => by
    show W1.cell? ⟨g, j, none⟩ = some v
    rw [World.cell?_of_block (a := ⟨g, j, none⟩) (hb1.block g (Nat.lt_of_lt_of_le h.lt.2 hbw.size) (by have := h.lt; omega) (by have := h.lt; omega))]
    exact (h.at.up hbw) j v hv
  have c2' : ∀ ty dc sc, (Builtin.copy_ #[59, 59] ty #[.slice (some ⟨w.heap.size, xs.length * 4, none⟩) l.length dc, .slice (some ⟨g, 0, none⟩) l.length sc]).run Try.prog W1.drew = .ok (goInt l.length) (W1.drew.setCells w.heap.size (xs.length * 4) (pcs l)) := fun ty dc sc => by
    have := run_copy_k (P := Try.prog) W1.drew _ 59 ty _ 4 w.heap.size (xs.length * 4) l.length dc ⟨g, 0, none⟩ l.length sc (pcs l) Try.underlying59 hsz (by rw [pcs_length, show Nat.min l.length l.length = l.length from Nat.min_self _])
      (fun j v hj => by rw [addr0]; exact hA1 j v hj) (fun j hj => row_some (w := W1.drew) e1 _ (by rw [HL.out] at hj; omega)) (fun j _ => row_frozen (w := W1.drew) e1 _) pcs_one
    rwa [show Nat.min l.length l.length = l.length from Nat.min_self _] at this
  obtain ⟨cur2, f1, f2⟩ := heap_setCells_list w.heap.size (pcs l) (xs.length * 4) W1.drew cur1 _ e1 (by rw [pcs_length]; omega)
  have s2 : cur2.size = G * 4 := by
    have := congrArg List.length f2
    simp [HL.out] at this
    omega
  have hfin : InsP base w g (xs ++ l) (.returned (.slice (some ⟨w.heap.size, 0, none⟩) N G)) (W1.drew.setCells w.heap.size (xs.length * 4) (pcs l)) := by
    refine ⟨w.heap.size, G, by rw [List.length_append, Nat.add_comm, hN], Row.of_block (by have := h.lt; omega) f1 (by rw [List.length_append]; omega) hGm s2 ?_, .inr (Nat.le_refl _), ?_⟩
    · rw [f2, e2]
      have t1 : (List.take 0 ROW.toList ++ pcs xs ++ ROW.toList.drop (0 + (pcs xs).length)).take (xs.length * 4) = pcs xs := by
        rw [List.take_zero, List.nil_append, ← HX.out, List.take_left' rfl]
      rw [t1, ← pcs_append, List.length_append, List.take_append, List.take_of_length_le (by rw [pcs_length, List.length_append]; exact Nat.le_refl _)]
      rw [pcs_length (xs ++ l), List.length_append, Nat.sub_self]
      simp
    · have b2 := setCells_but w.heap.size w.heap.size (xs.length * 4) (pcs l) W1.drew
      exact ⟨b2.os.trans (hb1.os.trans hbw.os), b2.tape.trans (hb1.tape.trans hbw.tape), b2.output.trans (hb1.output.trans hbw.output), Nat.le_trans hbw.size (Nat.le_trans hb1.size b2.size), fun k hk _ _ =>
        (b2.block k (Nat.lt_of_lt_of_le hk (Nat.le_trans hbw.size hb1.size)) (by omega) (by omega)).trans ((hb1.block k (Nat.lt_of_lt_of_le hk hbw.size) (by omega) (by omega)).trans (hbw.block k hk))⟩
  have HF := Lib.hid hfin
  clear hfin f1 f2 e1 e2 e0 s1 s2 hA1 hb1 hbw h2 h5 h6 h1 h hu HA HU cur2 cur1 cur hRs
  have HW := Lib.hid hW1; have HW0 := Lib.hid hW0
  clear hW1 hW0
  generalize l.length = n at *
  generalize xs.length = m at *
  have z1 : ¬ ((m : Int) = 0) := by omega
  have z2 : ¬ ((n : Int) = 0) := by omega
  have z3 : (cap : Int) < (n : Int) + (m : Int) := by omega
  have z4 : cap ≤ 9223372036854775807 := by unfold maxLen at h4; omega
  have z5 : IntKind.i64.wrap (m : Int) = (m : Int) := IntWalk.i64_in _ (by omega)
  have z6 : (0 : Int) ≤ (m : Int) := by omega
  have z7 : (m : Int) ≤ (N : Int) := by omega
  have z8 : ¬ (G = m) := by omega
  have z9 : N - m = n := by omega
  have z11 : (n : Int) + (m : Int) = (N : Int) := by omega
  have z12 : IntKind.i64.wrap (N : Int) = (N : Int) := IntWalk.i64_in _ (by omega)
  have z13 : ¬ (G = 0) := by omega
  have z14 : ¬ (cap = 0) := by omega
  go_enter Try.func58, Try.ntmps58
  go_wp2_with (first
    | (at_builtin; refine Lib.wpList_append_run _ rfl _ _ _ _ rfl _ _ rfl rfl _ _ (hrz _) ?_)
    | (at_builtin; refine wpList_copy_runI _ rfl _ _ 59 59 rfl _ _ rfl rfl (c1 _ _ _) ?_))
  go_region_law (refine step_copy_runI rfl _ _ 59 59 rfl _ _ (by simp [Act.eval, Act.put]) (by simp [Act.eval, Act.put]) (c2' _ _ _) ?_)
  go_wp2
  go_ret
  exact HF.out
end Go.Proofs.Ytnofncibplgmpaa
