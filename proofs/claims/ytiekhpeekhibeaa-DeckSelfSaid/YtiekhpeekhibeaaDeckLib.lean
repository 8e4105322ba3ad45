/- What the library's Clone, Reverse and Insert make of lists of numbers. -/
import Derived.Test.YtiekhpeekhibeaaNums
import Derived.Test.YtiekhpeekhibeaaShelf
import Derived.Sort.OwnSortedInts
namespace Go.Proofs.Ytiekhpeekhibeaa
open Go.RowKit Go.Sort Go.Lib
set_option linter.unusedVariables false

theorem clone_any {w : World} {a : Option Addr} {l : List Int} (c : Nat) (h : Nums w a l) (hm : l.length ≤ 1000000) :
    Calls Try.prog 21 #[.slice a l.length c] w fun e w' => ∃ v', e = .returned v' ∧ w'.ownsRow w.heap.size 3 1 v' l.length (enc l) ∧ Below w.heap.size w w' := by
  cases a with
  | none =>
    have e : l = [] := by
      rcases h with h | ⟨b, off, e, _⟩
      · exact h
      · cases e
    subst e
    refine (Try.slices_Clone_int_nil _ c w).mono ?_
    rintro e w' ⟨rfl, rfl⟩
    exact ⟨_, rfl, World.ownsRow_nil _ _ _ _, Below.refl _ _⟩
  | some p =>
    rcases h with rfl | ⟨b, off, e, h⟩
    · refine (Try.slices_Clone_int_zero p c w).mono ?_
      rintro e w' ⟨v', rfl, h1, _, h2⟩
      exact ⟨v', rfl, h1, h2⟩
    · cases e
      refine (Try.slices_Clone_int b off l.length c l w (Nat.le_refl _) (by omega) (fun j hj => h j _ (by simp [List.getD, List.getElem?_eq_getElem hj]))).mono ?_
      rintro e w' ⟨v', rfl, h1, _, h2⟩
      rw [List.take_length] at h1
      exact ⟨v', rfl, h1, h2⟩

theorem grow_nothing (w : World) : grow w #[] = w := by simp [grow]
theorem reverse_any (base : Nat) (v : Value) (l : List Int) (w : World) (h : w.ownsRow base 3 1 v l.length (enc l)) (hm : l.length ≤ 1000000) :
    Calls Try.prog 22 #[v] w fun e w' => e = .returned (.tuple #[]) ∧ w'.ownsRow base 3 1 v l.length (enc l.reverse) ∧ Below base w w' := by
  rcases h.2 with ⟨rfl, h0⟩ | ⟨g, cap, cur, rfl, hbase, hg, hcap, hmax, hcur, htake⟩
  · have e : l = [] := List.eq_nil_of_length_eq_zero h0
    subst e
    refine (Try.slices_Reverse_int_empty none 0 w).mono ?_
    rintro e w' ⟨rfl, rfl⟩
    exact ⟨rfl, h, Below.refl _ _⟩
  · refine (Try.slices_Reverse_int g 0 cap l w (holds_of_blockI hg (by simpa [enc] using htake)) (by omega)).mono ?_
    rintro e w' ⟨rfl, n, rfl⟩
    have h1 := ownsRow_sortedI (n := n) (os := #[]) (ss := l) (ts := l.reverse) (by simp) hbase hg hcap hmax hcur
    have h2 := grownBy_sortedI (w := w) (g := g) (n := n) (os := #[]) l.reverse.toArray
    rw [grow_nothing] at h1 h2
    exact ⟨rfl, h1, Below.grown (B := base) (Below.refl _ _) h2 (by have := (Array.getElem?_eq_some_iff.1 hg).1; omega) (fun k hk => by cases hk; exact hbase)⟩

/-- xs, laid ahead of the thing at place k. -/
def ins (k : Nat) (xs l : List Int) : List Int := l.take k ++ xs ++ l.drop k
theorem ins_length (k : Nat) (xs l : List Int) : (ins k xs l).length = l.length + xs.length := by simp [ins]; omega
theorem ins_get {k j : Nat} {xs l : List Int} {x : Int} (hk : k ≤ l.length) (h : (ins k xs l)[j]? = some x) :
    (j < k ∧ l[j]? = some x) ∨ (k ≤ j ∧ j < k + xs.length ∧ xs[j - k]? = some x) ∨ (k + xs.length ≤ j ∧ (l.drop k)[j - (k + xs.length)]? = some x) := by
  have hl : (l.take k).length = k := by simp; omega
  unfold ins at h
  by_cases h1 : j < k
  · rw [List.append_assoc, List.getElem?_append_left (by omega), List.getElem?_take_of_lt h1] at h
    exact .inl ⟨h1, h⟩
  · by_cases h2 : j < k + xs.length
    · rw [List.getElem?_append_left (by rw [List.length_append, hl]; exact h2), List.getElem?_append_right (by omega), hl] at h
      exact .inr (.inl ⟨by omega, h2, h⟩)
    · rw [List.getElem?_append_right (by rw [List.length_append, hl]; omega)] at h
      refine .inr (.inr ⟨by omega, ?_⟩)
      rw [List.length_append, hl] at h
      exact h

/-- What Insert answers, of a list in R that v is. -/
def Ins (w : World) (R : Nat) (v : Value) (l : List Int) (e : Ending) (w' : World) : Prop :=
  ∃ v' R', e = .returned v' ∧ RowAt w' R' v' l ∧ (v' = .slice none 0 0 → v = .slice none 0 0 ∧ R' = R) ∧ (R' = R ∨ w.heap.size ≤ R') ∧ But R R w w' ∧ (v = .slice none 0 0 → Below w.heap.size w w')

theorem insert_none {w : World} {R : Nat} {v : Value} {l : List Int} (h : RowAt w R v l) (k : Nat) (hk : k ≤ l.length) (hl : l.length ≤ 1000000) (a : Option Addr) (c : Nat) :
    Calls Try.prog 25 #[v, .int .i64 (k : Int), .slice a 0 c] w (Ins w R v (ins k [] l)) := by
  have hI : ins k [] l = l := by simp [ins]
  rw [hI]
  have HR := Lib.hid h
  obtain ⟨a', c', rfl, _, hc, hm⟩ := h.nums
  clear h hI
  obtain ⟨n, hn⟩ : ∃ n, l.length = n := ⟨_, rfl⟩
  rw [hn] at hk hl hc HR ⊢
  have z0 : (0 : Int) ≤ (k : Int) := by omega
  have z1 : (k : Int) ≤ (n : Int) := by omega
  clear hn
  rcases Decidable.em (c' = k) with rfl | hne
  all_goals
    go_enter Try.func25, Try.ntmps25
    go_wp2
    go_ret
    exact ⟨_, R, rfl, HR.out, fun e => ⟨e, rfl⟩, .inl rfl, But.refl _ _ _, fun _ => Below.refl _ _⟩

theorem row_frozen {w : World} {R : Nat} {cur : Array Value} {t : TypeId} (h : w.heap[R]? = some (.cells cur t (0, 0))) (j : Nat) : w.frozen? ⟨R, j, none⟩ = false := by simp [World.frozen?, h]
theorem row_some {w : World} {R : Nat} {cur : Array Value} {t : TypeId} (h : w.heap[R]? = some (.cells cur t (0, 0))) (j : Nat) (hj : j < cur.size) : (w.cell? ⟨R, j, none⟩).isSome = true := by simp [World.cell?, h, hj]
theorem drew_but (D R : Nat) (w : World) : But D R w w.drew := ⟨rfl, rfl, rfl, Nat.le_refl _, fun _ _ _ _ => rfl⟩
theorem alloc_but (D R : Nat) (w : World) (o : Obj) : But D R w (w.alloc o) := But.of (up_alloc (Below.refl _ _) o)
theorem enc_drop (k : Nat) (l : List Int) : (enc l).drop k = enc (l.drop k) := by simp [enc, List.map_drop]
theorem enc_take (k : Nat) (l : List Int) : (enc l).take k = enc (l.take k) := by simp [enc, List.map_take]

/-- Cells that are laid in two runs: what is laid stands there, all else is as it was. -/
theorem cells_in {w : World} {b o : Nat} {ys : List Int} (h : ∀ j, j < ys.length → (w.cell? ⟨b, o + j, none⟩).isSome = true) {j : Nat} {x : Int} (hx : ys[j]? = some x) : (w.setCells b o (enc ys)).cell? ⟨b, o + j, none⟩ = some (.int .i64 x) := by
  obtain ⟨hj, rfl⟩ := List.getElem?_eq_some_iff.1 hx
  have := World.cell?_setCells_in b (enc ys) o w (fun j hj => h j (by rwa [enc_length] at hj)) j (by rwa [enc_length])
  rw [this]
  simp [enc]
theorem cells_out {w : World} {b o : Nat} {vs : List Value} {j : Nat} (h : j < o ∨ o + vs.length ≤ j) : (w.setCells b o vs).cell? ⟨b, j, none⟩ = w.cell? ⟨b, j, none⟩ := World.cell?_setCells_out b vs o w _ (fun _ _ => h)

theorem insert_shift {w : World} {R off c k : Nat} {l xs : List Int} {cur : Array Value} (hc : w.heap[R]? = some (.cells cur 3 (0, 0))) (h1 : l.length + xs.length ≤ c) (h2 : c ≤ maxLen) (h3 : off + c ≤ cur.size) (h4 : ∀ j x, l[j]? = some x → w.cell? ⟨R, off + j, none⟩ = some (.int .i64 x))
    (hk : k < l.length) (g cap : Nat) (curg : Array Value) (hg : w.heap[g]? = some (.cells curg 3 (0, 0))) (hgx : ∀ j x, xs[j]? = some x → w.cell? ⟨g, 0 + j, none⟩ = some (.int .i64 x)) (hx : 0 < xs.length) (hne : g ≠ R) :
    Calls Try.prog 25 #[.slice (some ⟨R, off, none⟩) l.length c, .int .i64 (k : Int), .slice (some ⟨g, 0, none⟩) xs.length cap] w (Ins w R (.slice (some ⟨R, off, none⟩) l.length c) (ins k xs l)) := by
  have K : Calls Try.prog 25 _ _ _ := Any2.slices_Insert_int_shift Try.laysNm221 R off l.length c k g 0 xs.length cap (enc l) (enc xs) w hk hx h1 (by unfold maxLen at h2; omega) hne (enc_length _) (enc_length _)
    (fun j v hv => by obtain ⟨x, hx, rfl⟩ := enc_get hv; exact h4 j x hx) (fun j hj => row_some hc _ (by omega)) (fun j hj => row_frozen hc _) (fun j v hv => by obtain ⟨x, hx, rfl⟩ := enc_get hv; exact hgx j x hx) enc_one enc_one
    3 3 curg.size cur.size (by simp [World.shape?, hg]) (by simp [World.shape?, hc]) (by omega) (row_frozen hg _) (row_frozen hg _)
  refine K.mono ?_
  rintro e w' ⟨rfl, rfl⟩
  rw [enc_drop]
  obtain ⟨c1, hc1, hs1⟩ := heap_setCells_at R (enc (l.drop k)) (off + (k + xs.length)) w.drew cur 3 hc
  obtain ⟨c2, hc2, hs2⟩ := heap_setCells_at R (enc xs) (off + k) _ c1 3 hc1
  have hlen := ins_length k xs l
  have hdl : (enc (l.drop k)).length = l.length - k := by rw [enc_length, List.length_drop]
  refine ⟨_, R, rfl, .inr ⟨off, c, c2, by rw [hlen], hc2, by omega, h2, by omega, fun j x hj => ?_⟩, (fun e => by cases e), .inl rfl, ?_, (fun e => by cases e)⟩
  · rcases ins_get (by omega) hj with ⟨q1, q2⟩ | ⟨q1, q2, q3⟩ | ⟨q1, q2⟩
    · rw [cells_out (.inl (by omega)), cells_out (.inl (by omega))]
      exact h4 j x q2
    · have := cells_in (w := w.drew.setCells R (off + (k + xs.length)) (enc (l.drop k))) (b := R) (o := off + k) (ys := xs) (fun j hj => row_some hc1 _ (by omega)) q3
      rwa [show off + k + (j - k) = off + j by omega] at this
    · rw [cells_out (.inr (by rw [enc_length]; omega))]
      have := cells_in (w := w.drew) (b := R) (o := off + (k + xs.length)) (ys := l.drop k) (fun j hj => row_some (w := w.drew) hc _ (by rw [List.length_drop] at hj; omega)) q2
      rwa [show off + (k + xs.length) + (j - (k + xs.length)) = off + j by omega] at this
  · exact ((drew_but R R w).trans (setCells_but R R _ _ _) (.inl rfl)).trans (setCells_but R R _ _ _) (.inl rfl)

theorem insert_end_room {w : World} {R off c : Nat} {l xs : List Int} {cur : Array Value} (hc : w.heap[R]? = some (.cells cur 3 (0, 0))) (h1 : l.length + xs.length ≤ c) (h2 : c ≤ maxLen) (h3 : off + c ≤ cur.size) (h4 : ∀ j x, l[j]? = some x → w.cell? ⟨R, off + j, none⟩ = some (.int .i64 x))
    (g cap : Nat) (hgx : ∀ j x, xs[j]? = some x → w.cell? ⟨g, 0 + j, none⟩ = some (.int .i64 x)) (hx : 0 < xs.length) :
    Calls Try.prog 25 #[.slice (some ⟨R, off, none⟩) l.length c, .int .i64 (l.length : Int), .slice (some ⟨g, 0, none⟩) xs.length cap] w (Ins w R (.slice (some ⟨R, off, none⟩) l.length c) (ins l.length xs l)) := by
  have K : Calls Try.prog 25 _ _ _ := Any2.slices_Insert_int_end_room Try.laysNm221 R off l.length c g 0 xs.length cap (enc xs) w hx h1 (by unfold maxLen at h2; omega) (enc_length _)
    (fun j hj => row_some hc _ (by omega)) (fun j hj => row_frozen hc _) (fun j v hv => by obtain ⟨x, hx, rfl⟩ := enc_get hv; exact hgx j x hx) enc_one
  refine K.mono ?_
  rintro e w' ⟨rfl, rfl⟩
  obtain ⟨c1, hc1, hs1⟩ := heap_setCells_at R (enc xs) (off + l.length) w cur 3 hc
  have hlen := ins_length l.length xs l
  refine ⟨_, R, rfl, .inr ⟨off, c, c1, by rw [hlen], hc1, by omega, h2, by omega, fun j x hj => ?_⟩, (fun e => by cases e), .inl rfl, setCells_but R R _ _ _, (fun e => by cases e)⟩
  rcases ins_get (by omega) hj with ⟨q1, q2⟩ | ⟨q1, q2, q3⟩ | ⟨q1, q2⟩
  · rw [cells_out (.inl (by omega))]
    exact h4 j x q2
  · have := cells_in (w := w) (b := R) (o := off + l.length) (ys := xs) (fun j hj => row_some hc _ (by omega)) q3
    rwa [show off + l.length + (j - l.length) = off + j by omega] at this
  · simp at q2

/-- What lies in a block that is just made. -/
theorem cell_new (w : World) (cur : Array Value) (t : TypeId) (j : Nat) : (w.alloc (.cells cur t)).cell? ⟨w.heap.size, j, none⟩ = cur[j]? := by simp [go_sem]
theorem heap_new (w : World) (o : Obj) : (w.alloc o).heap[w.heap.size]? = some o := World.alloc_heap_new w o
theorem zeros_size (n : Nat) : (Builtin.zeroCells (Value.int .i64 0).cells n).size = n := by simp [Builtin.zeroCells, Value.cells]

theorem insert_end_grow {w : World} {R n c : Nat} {base : Option Addr} {l xs : List Int} (hn : l.length = n) (hnc : n ≤ c) (h1 : c < n + xs.length) (hnil : base = none → n = 0) (hcs : ∀ a, base = some a → ∀ j x, l[j]? = some x → w.cell? (a.add j) = some (.int .i64 x)) (hbig : (n + xs.length) * 8 ≤ 140737488355328)
    (g cap : Nat) (hgx : ∀ j x, xs[j]? = some x → w.cell? ⟨g, 0 + j, none⟩ = some (.int .i64 x)) (hx : 0 < xs.length) :
    Calls Try.prog 25 #[.slice base n c, .int .i64 (n : Int), .slice (some ⟨g, 0, none⟩) xs.length cap] w (Ins w R (.slice base n c) (ins n xs l)) := by
  have K : Calls Try.prog 25 _ _ _ := Any2.slices_Insert_int_end_grow Try.laysNm221 base n c g 0 xs.length cap (enc l) (enc xs) w hx hnc h1 hbig (by rw [enc_length, hn]) (enc_length _) hnil
    (fun a ha j v hv => by obtain ⟨x, hx, rfl⟩ := enc_get hv; exact hcs a ha j x hx) (fun j v hv => by obtain ⟨x, hx, rfl⟩ := enc_get hv; exact hgx j x hx) enc_one
  refine K.mono ?_
  rintro e w' ⟨rfl, rfl⟩
  have e3 : Try.laysNm221_ren.t 3 = 3 := rfl
  rw [e3]
  have hG := grownCap_ge w (n + xs.length) c 3
  have hG2 := grownCap_le_maxLen w (n + xs.length) c 3 (by unfold maxLen; omega)
  generalize grownCap w (n + xs.length) c 3 = G at *
  have hlen := ins_length n xs l
  have hI : ins n xs l = l ++ xs := by simp [ins, ← hn]
  refine ⟨_, w.heap.size, rfl, .inr ⟨0, G, _, by rw [hlen, hn], heap_new w.drew _, by omega, hG2, ?_, fun j x hj => ?_⟩, (fun e => by cases e), .inr (Nat.le_refl _), (drew_but R R w).trans (alloc_but R R _ _) (.inl rfl), fun _ => up_alloc (up_drew (Below.refl _ _)) _⟩
  · rw [Array.size_append, zeros_size, List.size_toArray, List.length_append, enc_length, enc_length]
    omega
  · rw [hI] at hj
    have := cell_new w.drew ((enc l ++ enc xs).toArray ++ Builtin.zeroCells (Value.int .i64 0).cells (G - (n + xs.length))) 3 (0 + j)
    rw [show w.drew.heap.size = w.heap.size from rfl] at this
    rw [this, Nat.zero_add, ← enc_append, Array.getElem?_append_left (by rw [List.size_toArray, enc_length]; exact (List.getElem?_eq_some_iff.1 hj).1)]
    simp [enc, -List.map_append, hj]

theorem insert_grow {w : World} {R off c k : Nat} {l xs : List Int} (hnc : l.length ≤ c) (h1 : c < l.length + xs.length) (h4 : ∀ j x, l[j]? = some x → w.cell? ⟨R, off + j, none⟩ = some (.int .i64 x)) (hbig : (l.length + xs.length) * 8 ≤ 140737488355328)
    (hk : k < l.length) (g cap : Nat) (hgx : ∀ j x, xs[j]? = some x → w.cell? ⟨g, 0 + j, none⟩ = some (.int .i64 x)) (hx : 0 < xs.length) :
    Calls Try.prog 25 #[.slice (some ⟨R, off, none⟩) l.length c, .int .i64 (k : Int), .slice (some ⟨g, 0, none⟩) xs.length cap] w (Ins w R (.slice (some ⟨R, off, none⟩) l.length c) (ins k xs l)) := by
  have K : Calls Try.prog 25 _ _ _ := Any2.slices_Insert_int_grow Try.laysNm221 R off l.length c k g 0 xs.length cap (enc l) (enc xs) w hk hx hnc h1 hbig (enc_length _) (enc_length _)
    (fun j v hv => by obtain ⟨x, hx, rfl⟩ := enc_get hv; exact h4 j x hx) (fun j v hv => by obtain ⟨x, hx, rfl⟩ := enc_get hv; exact hgx j x hx) enc_one enc_one
  refine K.mono ?_
  rintro e w' ⟨rfl, rfl⟩
  have e3 : Try.laysNm221_ren.t 3 = 3 := rfl
  rw [e3, enc_drop, enc_take]
  have hG := grownCap_ge w (l.length + xs.length) c 3
  have hG2 := grownCap_le_maxLen w (l.length + xs.length) c 3 (by unfold maxLen; omega)
  generalize grownCap w (l.length + xs.length) c 3 = G at *
  obtain ⟨ROW, hROW⟩ : ∃ ROW : Array Value, (enc (l.take k)).toArray ++ Builtin.zeroCells (Value.int .i64 0).cells (l.length + xs.length - k) ++ Builtin.zeroCells (Value.int .i64 0).cells (G - (l.length + xs.length)) = ROW := ⟨_, rfl⟩
  rw [hROW]
  have hRs : ROW.size = G := by
    rw [← hROW, Array.size_append, Array.size_append, zeros_size, zeros_size, List.size_toArray, enc_length, List.length_take]
    omega
  have hlen := ins_length k xs l
  have hdl : (enc (l.drop k)).length = l.length - k := by rw [enc_length, List.length_drop]
  obtain ⟨c1, hc1, hs1⟩ := heap_setCells_at w.heap.size (enc xs) k (w.alloc (.cells ROW 3)).drew ROW 3 (heap_new w _)
  obtain ⟨c2, hc2, hs2⟩ := heap_setCells_at w.heap.size (enc (l.drop k)) (k + xs.length) ((w.alloc (.cells ROW 3)).drew.setCells w.heap.size k (enc xs)).drew c1 3 hc1
  refine ⟨_, w.heap.size, rfl, .inr ⟨0, G, c2, by rw [hlen], hc2, by omega, hG2, by omega, fun j x hj => ?_⟩, (fun e => by cases e), .inr (Nat.le_refl _), ?_, (fun e => by cases e)⟩
  · rw [Nat.zero_add]
    rcases ins_get (by omega) hj with ⟨q1, q2⟩ | ⟨q1, q2, q3⟩ | ⟨q1, q2⟩
    · rw [cells_out (.inl (by omega))]
      show ((w.alloc (.cells ROW 3)).drew.setCells w.heap.size k (enc xs)).cell? _ = _
      rw [cells_out (.inl (by omega))]
      show (w.alloc (.cells ROW 3)).cell? _ = _
      rw [cell_new, ← hROW, Array.append_assoc, Array.getElem?_append_left (by rw [List.size_toArray, enc_length, List.length_take]; omega)]
      simp [enc, q2, q1]
    · rw [cells_out (.inl (by omega))]
      have := cells_in (w := (w.alloc (.cells ROW 3)).drew) (b := w.heap.size) (o := k) (ys := xs) (fun j hj => row_some (cur := ROW) (t := 3) (heap_new w _) _ (by omega)) q3
      rw [show k + (j - k) = j by omega] at this
      exact this
    · have := cells_in (w := ((w.alloc (.cells ROW 3)).drew.setCells w.heap.size k (enc xs)).drew) (b := w.heap.size) (o := k + xs.length) (ys := l.drop k) (fun j hj => row_some (cur := c1) (t := 3) hc1 _ (by rw [List.length_drop] at hj; omega)) q2
      rw [show k + xs.length + (j - (k + xs.length)) = j by omega] at this
      exact this
  · have b1 : But R R w ((w.alloc (.cells ROW 3)).drew.setCells w.heap.size k (enc xs)) := by
      refine ⟨?_, ?_, ?_, ?_, ?_⟩
      all_goals have h := setCells_but R w.heap.size k (enc xs) (w.alloc (.cells ROW 3)).drew
      · exact h.os
      · exact h.tape
      · exact h.output
      · exact Nat.le_trans (alloc_but R R w _).size h.size
      · intro j hj h1 h2
        exact (h.block j (Nat.lt_of_lt_of_le hj (alloc_but R R w (.cells ROW 3)).size) h1 (by omega)).trans ((alloc_but R R w _).block j hj h1 h2)
    have h := setCells_but R w.heap.size (k + xs.length) (enc (l.drop k)) ((w.alloc (.cells ROW 3)).drew.setCells w.heap.size k (enc xs)).drew
    exact (b1.trans (drew_but R R _) (.inl rfl)).trans h (.inr (.inr (Nat.le_refl _)))

/-- Insert, of a list in R, and of another one that was made later: those of that come ahead of place k. -/
theorem insert_any {w : World} {R : Nat} {v : Value} {l : List Int} (h : RowAt w R v l) (base : Nat) (u : Value) (xs : List Int) (hu : w.ownsRow base 3 1 u xs.length (enc xs)) (hR : R < base) (k : Nat) (hk : k ≤ l.length) (hl : l.length ≤ 1000000) (hx : xs.length ≤ 1000000) :
    Calls Try.prog 25 #[v, .int .i64 (k : Int), u] w (Ins w R v (ins k xs l)) := by
  obtain ⟨a, cu, rfl, hnu, _⟩ := Nums.own hu
  by_cases h0 : xs.length = 0
  · obtain rfl : xs = [] := List.eq_nil_of_length_eq_zero h0
    exact insert_none h k hk hl a cu
  · rcases hu.2 with ⟨_, h0'⟩ | ⟨g, cap, curg, e, hbg, hg, hcap, hmax, hsz, htk⟩
    · omega
    cases e
    obtain ⟨b', off', e, hgx⟩ := hnu.cell (by omega)
    cases e
    rcases h with ⟨rfl, rfl⟩ | ⟨off, c, cur, rfl, hc, h1, h2, h3, h4⟩
    · obtain rfl : k = 0 := by simpa using hk
      exact insert_end_grow (base := none) (l := []) (n := 0) (c := 0) rfl (Nat.le_refl _) (by omega) (fun _ => rfl) (fun a e => by cases e) (by omega) _ _ hgx (by omega)
    · by_cases hroom : l.length + xs.length ≤ c
      · by_cases hkn : k < l.length
        · exact insert_shift hc hroom h2 h3 h4 hkn _ _ curg hg hgx (by omega) (by omega)
        · obtain rfl : k = l.length := by omega
          exact insert_end_room hc hroom h2 h3 h4 _ _ hgx (by omega)
      · by_cases hkn : k < l.length
        · exact insert_grow h1 (by omega) h4 (by omega) hkn _ _ hgx (by omega)
        · obtain rfl : k = l.length := by omega
          exact insert_end_grow rfl h1 (by omega) (fun e => by cases e) (fun a e j x hj => by cases e; rw [show (⟨R, off, none⟩ : Addr).add j = ⟨R, off + j, none⟩ by unfold Addr.add; split <;> simp_all]; exact h4 j x hj) (by omega) _ _ hgx (by omega)
end Go.Proofs.Ytiekhpeekhibeaa
