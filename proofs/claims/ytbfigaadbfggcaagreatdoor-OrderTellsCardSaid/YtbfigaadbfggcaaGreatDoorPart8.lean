/- Part 8 of the texts that the proofs of this seat share: UnfoldFlat, UnfoldAfter. -/
import Derived.Test.YtbfigaadbfggcaaGreatDoorPart6
import Derived.Test.YtbfigaadbfggcaaGreatDoorPart7
/- What unfold.flat answers: a sheet that isn't folded yet, a deck of one panel at each place. -/
namespace Go.Proofs.YtbfigaadbfggcaaGreatDoor
open Go.RowKit Go.Shelf
set_option linter.unusedVariables false
attribute [local go_sem] Oper.semAt_some

/-- A deck's pointer. -/
def ptrD (D : Nat) : Ptr := some ⟨D, 0, none⟩
/-- Decks laid one by one. -/
def laidD (c r : Int) (xs : List (((Int × Int) × Ptr) × Nat)) : List Ptr := xs.foldl (fun L x => setS c r L x.1.1.1 x.1.1.2 (ptrD x.2)) (List.replicate (c * r).toNat none)
theorem laidD_snoc (c r : Int) (xs : List (((Int × Int) × Ptr) × Nat)) (x : ((Int × Int) × Ptr) × Nat) : laidD c r (xs ++ [x]) = setS c r (laidD c r xs) x.1.1.1 x.1.1.2 (ptrD x.2) := by simp [laidD]
theorem zip_snoc {α β : Type} {l : List α} {m : List β} (h : l.length = m.length) (a : α) (b : β) : (l ++ [a]).zip (m ++ [b]) = l.zip m ++ [(a, b)] := by rw [List.zip_append h]; rfl

/-- What has been laid so far. -/
def FlatI (base G A : Nat) (c r : Int) (pre : List ((Int × Int) × Ptr)) (W : World) : Prop :=
  ∃ (ds : List Nat) (R : Nat → Nat) (S : Nat → List Pc), ds.length = pre.length ∧ ds.Nodup ∧ Decks W base (· ∈ ds) R S ∧ (∀ (k : Nat) D, ds[k]? = some D → S D = [⟨(k : Int), false, false⟩]) ∧ Gs W G A c r (laidD c r (pre.zip ds)) ∧
    (∀ D ∈ ds, D ≠ G ∧ D ≠ A ∧ R D ≠ G ∧ R D ≠ A)
theorem flatI_own (base G A : Nat) (c r : Int) : Own (FlatI base G A c r) := by
  rintro pre X Y row ⟨ds, R, S, h1, h2, h3, h4, h5, h6⟩ hg hr
  exact ⟨ds, R, S, h1, h2, h3.kept hg hr, h4, gs_own G A c r (fun _ : Unit => _) () X Y row h5 hg hr, h6⟩
theorem FlatI.up {base G A : Nat} {c r : Int} {pre : List ((Int × Int) × Ptr)} {W W' : World} (h : FlatI base G A c r pre W) (hb : Below W.heap.size W W') : FlatI base G A c r pre W' := by
  obtain ⟨ds, R, S, h1, h2, h3, h4, h5, h6⟩ := h
  exact ⟨ds, R, S, h1, h2, h3.up hb, h4, h5.up hb, h6⟩
/-- Another block was written. -/
theorem FlatI.far {base G A : Nat} {c r : Int} {pre : List ((Int × Int) × Ptr)} {W : World} (h : FlatI base G A c r pre W) {B o : Nat} {v u : Value} {t : TypeId} (hB : Boxed W B t u) (ht : t ≠ 109 ∧ t ≠ 127) (hG : B ≠ G ∧ B ≠ A) : FlatI base G A c r pre (W.setCell ⟨B, o, none⟩ v) := by
  obtain ⟨ds, R, S, h1, h2, h3, h4, h5, h6⟩ := h
  have e : ∀ k, k ≠ B → (W.setCell ⟨B, o, none⟩ v).heap[k]? = W.heap[k]? := fun k hk => Below.heap_setCell _ _ _ _ hk
  refine ⟨ds, R, S, h1, h2, ⟨fun D hD => ?_, h3.ne, h3.far⟩, h4, h5.same (e _ (Ne.symm hG.1)) (e _ (Ne.symm hG.2)), h6⟩
  have k := h3.dk D hD
  obtain ⟨x, hx⟩ := k.cellsD
  obtain ⟨y, hy⟩ := k.cellsR
  refine k.kept (e _ ?_) (e _ ?_)
  · rintro rfl
    rw [show W.heap[D]? = _ from hB] at hx
    injection hx with hx
    injection hx with _ hx
    exact ht.2 hx
  · intro he
    rw [he, show W.heap[B]? = _ from hB] at hy
    injection hy with hy
    injection hy with _ hy
    exact ht.1 hy
/-- A new deck is laid at a place. -/
theorem FlatI.more {base G A D R0 : Nat} {c r : Int} {pre : List ((Int × Int) × Ptr)} {W W1 W2 : World} {x : (Int × Int) × Ptr} {ds : List Nat} {R : Nat → Nat} {S : Nat → List Pc} (h1 : ds.length = pre.length) (h2 : ds.Nodup) (h3 : Decks W base (· ∈ ds) R S) (h4 : ∀ (k : Nat) D, ds[k]? = some D → S D = [⟨(k : Int), false, false⟩]) (h5 : Gs W G A c r (laidD c r (pre.zip ds)))
    (h6 : ∀ D ∈ ds, D ≠ G ∧ D ≠ A ∧ R D ≠ G ∧ R D ≠ A) (hbase : base ≤ W.heap.size) (hb : Below W.heap.size W W1) (hD : Dp W1 W.heap.size D R0 [⟨(pre.length : Int), false, false⟩])
    (hG : Gs W2 G A c r (setS c r (laidD c r (pre.zip ds)) x.1.1 x.1.2 (ptrD D))) (hg : W1.grownBy W2 (some A)) : FlatI base G A c r (pre ++ [x]) W2 := by
  have lt : ∀ E ∈ ds, E < W.heap.size ∧ R E < W.heap.size := fun E hE => ⟨(h3.dk E hE).ltD, (h3.dk E hE).ltR.2⟩
  have hDl := hD.low
  have hRl := hD.ltR.1
  have nD : D ∉ ds := fun hE => by have := (lt D hE).1; omega
  have k1 := h3.up hb
  have ltG := h5.ltG
  have ltA := h5.ltA
  have keep : ∀ {D R : Nat} {l : List Pc} {b : Nat}, Dp W1 b D R l → D ≠ A → R ≠ A → Dp W2 b D R l := fun k n1 n2 => k.kept (hg.block _ k.ltD (by simpa using n1)) (hg.block _ k.ltR.2 (by simpa using n2))
  refine ⟨ds ++ [D], fun E => if E = D then R0 else R E, fun E => if E = D then [⟨(pre.length : Int), false, false⟩] else S E, by simp [h1], ?_, ⟨?_, ?_, ?_⟩, ?_, ?_, ?_⟩
  · rw [List.nodup_append]
    exact ⟨h2, by simp, fun a ha b hb e => nD (by simp at hb; rw [← hb, ← e]; exact ha)⟩
  · intro E hE
    by_cases e : E = D
    · subst e
      simp only [if_true]
      exact keep (hD.base base (Nat.le_trans hbase hDl) (Nat.le_trans hbase hRl)) (by omega) (by omega)
    · simp only [if_neg e]
      have hE' : E ∈ ds := by simpa [e] using hE
      exact keep (k1.dk E hE') (h6 E hE').2.1 (h6 E hE').2.2.2
  · intro E hE
    by_cases e : E = D
    · simp [e]
    · simp only [if_neg e]; exact h3.ne E (by simpa [e] using hE)
  · intro E E' hE hE' hne
    by_cases e : E = D
    · subst e
      have e' : E' ≠ E := fun h => hne h.symm
      have := (lt E' (by simpa [e'] using hE')).2
      simp only [if_true, if_neg e']
      omega
    · by_cases e' : E' = D
      · subst e'
        have := (lt E (by simpa [e] using hE)).2
        simp only [if_true, if_neg e]
        omega
      · simp only [if_neg e, if_neg e']
        exact h3.far E E' (by simpa [e] using hE) (by simpa [e'] using hE') hne
  · intro k E hk
    by_cases hlt : k < ds.length
    · rw [List.getElem?_append_left hlt] at hk
      have hE : E ∈ ds := List.mem_of_getElem? hk
      have e : E ≠ D := fun h => nD (h ▸ hE)
      simp only [if_neg e]
      exact h4 k E hk
    · rw [List.getElem?_append_right (by omega), List.getElem?_singleton] at hk
      split at hk
      · obtain rfl : D = E := by simpa using hk
        simp only [if_true]
        congr 2
        omega
      · cases hk
  · rw [zip_snoc h1.symm, laidD_snoc]
    exact hG
  · intro E hE
    by_cases e : E = D
    · subst e
      simp only [if_true]
      omega
    · simp only [if_neg e]; exact h6 E (by simpa [e] using hE)

theorem keepS_box {O : World → Nat → Prop} {W : World} {B o : Nat} {t : TypeId} {v u : Value} (hB : Boxed W B t v) (ht : t ≠ 106) (hO : ∀ b, O (W.setCell ⟨B, o, none⟩ u) b → O W b) : KeepS O W (W.setCell ⟨B, o, none⟩ u) :=
  ⟨by simp [World.setCell], fun b _ ho => hO b ho, fun b cur fr _ hb => by
    refine (Below.heap_setCell _ _ _ _ (fun e => ?_)).trans hb
    subst e
    rw [show W.heap[b]? = _ from hB] at hb
    injection hb with h1
    injection h1 with _ h2
    exact ht h2⟩
theorem set_end {A : List Ptr} {k m : Nat} (h : A.length = k) (hk : k < m) (v : Ptr) : (A ++ List.replicate (m - k) none).set k v = (A ++ [v]) ++ List.replicate (m - (k + 1)) none := by
  rw [List.set_append_right _ _ (by omega), h, Nat.sub_self, show m - k = (m - (k + 1)) + 1 by omega, List.replicate_succ, List.set_cons_zero, List.append_assoc]
  rfl
theorem laid_all (c r : Int) (hc : 1 ≤ c ∧ c ≤ 64) (hr : 1 ≤ r ∧ r ≤ 64) (L0 : List Ptr) (ds : List Nat) (hd : ds.length = (c * r).toNat) : ∀ k, k ≤ ds.length → laidD c r ((ptS c L0 k).zip (ds.take k)) = (ds.take k).map ptrD ++ List.replicate ((c * r).toNat - k) none := by
  intro k
  induction k with
  | zero => intro _; simp [ptS, laidD]
  | succ k ih =>
    intro hk
    have hp : 0 ≤ c * r := Int.mul_nonneg (by omega) (by omega)
    obtain ⟨x, y, e1, e2, b0, b1, b2, b3, b4⟩ := split_place k c r hc.1 (by omega)
    have hl : ((ds.take k).map ptrD).length = k := by simp; omega
    rw [ptS_succ, List.take_succ_eq_append_getElem (by omega), zip_snoc (by rw [ptS_length]; simp; omega), laidD_snoc, ih (by omega), e1, e2]
    simp only
    unfold setS
    rw [if_pos (by simp [hasB]; omega), show at1 c x y = k by unfold at1; omega, set_end hl (by omega), List.map_append]
    rfl

/-- A sheet that was made just now: one deck at each place. -/
def FlatP (w : World) (c r : Int) (e : Ending) (w' : World) : Prop :=
  ∃ (G A : Nat) (ds : List Nat) (R : Nat → Nat) (S : Nat → List Pc), e = .returned (.pointer (some ⟨G, 0, none⟩)) ∧ (ds.length : Int) = c * r ∧ ds.Nodup ∧ Decks w' w.heap.size (· ∈ ds) R S ∧ (∀ (k : Nat) D, ds[k]? = some D → S D = [⟨(k : Int), false, false⟩]) ∧ Gs w' G A c r (ds.map ptrD) ∧
    w.heap.size ≤ G ∧ w.heap.size ≤ A ∧ Below w.heap.size w w'

set_option maxRecDepth 100000 in
set_option maxHeartbeats 4000000 in
theorem flat_any (c r : Int) (hc : 1 ≤ c ∧ c ≤ 64) (hr : 1 ≤ r ∧ r ≤ 64) (w : World) :
    Calls Tryz.prog 87 #[.int .i64 c, .int .i64 r] w (FlatP w c r) := by
  have i1 : inB c 1 64 = true := by simp [inB]; omega
  have i2 : inB r 1 64 = true := by simp [inB]; omega
  have HN := Lib.hid (shNew_yes c r i1 i2 w)
  clear i1 i2
  refine (callsIn_wide (n := 3)).1 ?_
  refine callsIn_of_wp_marks Tryz.func87 rfl trivial ?_ rfl
  simp only [Tryz.ntmps87, List.size_toArray, List.length_cons, List.length_nil, Nat.reduceAdd, Nat.reduceSub, Array.replicate_succ, Array.replicate_zero, List.push_toArray, List.append_toArray, List.nil_append, List.cons_append]
  gi_wp2_with (first
    | (refine ⟨trivial, ?_⟩; gi_at_call 101; refine (callsIn_wide.2 HN.out).mono ?_; rintro e w1 ⟨rfl, hP, hb1⟩; have HP := Lib.hid hP; have HB1 := Lib.hid hb1; clear hP hb1)
    | (refine ⟨trivial, ?_⟩; gi_at_call 102; refine (callsIn_wide.2 (shAll_any _ _)).mono ?_; rintro e w4 ⟨rfl, rfl⟩))
  obtain ⟨W0, hW0⟩ : ∃ W0, (((w1.alloc (.cells #[.pointer (some ⟨w.heap.size + 1, 0, none⟩)] 120)).alloc (.cells #[.int .i64 0] 3)).alloc (.cells #[.pointer (some ⟨w.heap.size + 1, 0, none⟩)] 120)) = W0 := ⟨_, rfl⟩
  have up1 : Below w1.heap.size w1 W0 := by rw [← hW0]; exact up_alloc (up_alloc (up_alloc (Below.refl _ _) _) _) _
  have upw : Below w.heap.size w W0 := up_trans HB1.out up1
  have y5 : Boxed W0 w1.heap.size 120 (.pointer (some ⟨w.heap.size + 1, 0, none⟩)) := by rw [← hW0]; exact ((Boxed.new w1 _ _).alloc _).alloc _
  have y6 : Boxed W0 (w1.heap.size + 1) 3 (.int .i64 0) := by
    rw [← hW0]
    have := (Boxed.new (w1.alloc (.cells #[.pointer (some ⟨w.heap.size + 1, 0, none⟩)] 120)) 3 (.int .i64 0)).alloc (.cells #[.pointer (some ⟨w.heap.size + 1, 0, none⟩)] 120)
    simpa only [World.size_alloc] using this
  have yG : W0.cell? ⟨w1.heap.size + 1 + 1, 0, none⟩ = some (.pointer (some ⟨w.heap.size + 1, 0, none⟩)) := by rw [← hW0]; simp [go_sem]
  have gP := HP.out.up up1
  have hsz : W0.heap.size = w1.heap.size + 3 := by rw [← hW0]; simp
  have lt1 := HP.out.ltG
  have hI0 : FlatI w.heap.size (w.heap.size + 1) w.heap.size c r [] W0 := ⟨[], fun _ => 0, fun _ => [], rfl, List.nodup_nil, ⟨fun D h => by simp at h, fun D h => by simp at h, fun D E h => by simp at h⟩, fun k D h => by simp at h, gP, fun D h => by simp at h⟩
  rw [hW0]
  clear hW0 HB1 HP HN up1
  refine wpIn_rangeFunc_ownH rfl (by decide) (gf := 123) (lb := #[.pointer (some ⟨w1.heap.size + 1 + 1, 0, none⟩)]) rfl trivial (enters_of Tryz.func123 (by kernel_rfl) rfl)
    (shAll_stops 2 (OneS w.heap.size) (w1.heap.size + 1 + 1) (w.heap.size + 1) w.heap.size c r (List.replicate (c * r).toNat none) W0 yG gP (fun W' hb b ho => by unfold OneS at ho; omega) (fun V V' _ h => oneS_up _ V V' h)) KeepS.trans (fun W l o o' _ h1 h2 _ => oneS_put _ W l o o' h1 h2) (Below.refl _ _) (fun _ => rfl)
    (fun pre W => (FlatI w.heap.size (w.heap.size + 1) w.heap.size c r pre W ∧ (Boxed W w1.heap.size 120 (.pointer (some ⟨w.heap.size + 1, 0, none⟩)) ∧ Boxed W (w1.heap.size + 1) 3 (.int .i64 (pre.length : Int)))) ∧ Below w.heap.size w W)
    (fun c pre W => False)
    (OwnFrom.and (OwnFrom.and (Own.from (flatI_own _ _ _ _ _) _) (OwnFrom.and (Own.from (boxed_own _ _ _) _) (Own.from (boxed_own _ _ fun pre : List ((Int × Int) × Ptr) => .int .i64 (pre.length : Int)) _))) (ownFrom_below (Nat.le_refl _) (by omega)))
    (fun c => ownFrom_pure _ (fun _ => False))
    ⟨⟨hI0, y5, y6⟩, upw⟩
    (fun x a' W => ∃ Bq, w1.heap.size + 1 < Bq ∧ Boxed2 W Bq 23 (.int .i64 x.1.1) (.int .i64 x.1.2) ∧
      a' = { tmps := #[.int .i64 c, .int .i64 r, undef, undef, .pointer none, .pointer (some ⟨w1.heap.size, 0, none⟩), .pointer (some ⟨w1.heap.size + 1, 0, none⟩), .pointer (some ⟨Bq, 0, none⟩), .int .i64 c, .int .i64 r, .pointer (some ⟨w.heap.size + 1, 0, none⟩), .pointer (some ⟨w.heap.size + 1, 0, none⟩), .func (.func 123) #[] #[.pointer (some ⟨w1.heap.size + 1 + 1, 0, none⟩)], .agg #[.int .i64 x.1.1, .int .i64 x.1.2], .pointer x.2, undef, undef, undef, undef, undef, undef, undef, undef, undef, undef, undef, undef, undef], defers := [] })
    (fun x a' _ X Y row hs hg hr => by obtain ⟨Bx, h1, h2, h4⟩ := hs; exact ⟨Bx, h1, boxed2_own Bx _ _ _ () X Y row h2 hg (fun r e => (hr r e).2), h4⟩)
    ?assign ?body ?done ?stop
  case assign =>
    rintro l0 pre x W K ⟨⟨hi, k5, k6⟩, hB1⟩ hK
    unfold encV
    gi_wp2
    exact hK _ _ ((KeepsOthers.alloc _ _).from _) (oneS_up _ _ _ (up_alloc (Below.refl _ _) _)) ⟨⟨hi.up (up_alloc (Below.refl _ _) _), k5.alloc _, k6.alloc _⟩, hB1.alloc hB1.size _⟩ ⟨W.heap.size, k6.lt, World.alloc_heap_new W _, rfl⟩
  case body =>
    rintro l0 pre x a' W hl _ ⟨⟨hi, k5, k6⟩, hB1⟩ ⟨Bq, hBq, kQ, rfl⟩ hlen
    obtain ⟨⟨px, py⟩, v⟩ := x
    simp only at kQ
    have c5 := k5.cell; have c6 := k6.cell; have q0 := kQ.c0; have q1 := kQ.c1
    have hn64 : (List.replicate (c * r).toNat (none : Ptr)).length ≤ 4096 := gP.le
    obtain ⟨n, hn⟩ : ∃ n, pre.length = n := ⟨_, rfl⟩
    rw [hn] at c6 k6 hlen
    have HI := Lib.hid hi; have HN := Lib.hid hn
    clear hi hn
    gi_wp2
    refine round_held (fun w' => w'.cell? ⟨w1.heap.size, 0, none⟩ = some (.pointer (some ⟨w.heap.size + 1, 0, none⟩)) ∧ w'.cell? ⟨w1.heap.size + 1, 0, none⟩ = some (.int .i64 (n : Int)) ∧ w'.cell? ⟨Bq, 0, none⟩ = some (.int .i64 px) ∧ w'.cell? ⟨Bq, 1, none⟩ = some (.int .i64 py)) (by kernel_rfl) (by kernel_rfl) ?_ ⟨c5, c6, q0, q1⟩ (fun hHeld => ?_)
    · rintro ⟨a, w, h⟩
      exact h
    simp only [List.size_toArray, List.length_cons, List.length_nil, Nat.reduceAdd, Array.replicate_succ, Array.replicate_zero, List.push_toArray, List.nil_append, List.cons_append]
    refine held_take 0 (some 15) (.pointer (some ⟨w.heap.size + 1, 0, none⟩)) rfl rfl (by kernel_rfl) (by kernel_rfl) (by kernel_rfl) (fun _ _ _ h => h) (Or.inl ⟨by rfl, ?_⟩) (by assumption) ?_
    · intro w hSw
      obtain ⟨s5, s6, sq0, sq1⟩ := hSw
      go_simp
    simp only [Act.put, List.setIfInBounds_toArray, List.set_cons_zero, List.set_cons_succ]
    refine held_take 1 (some 16) (.pointer (some ⟨Bq, 0, none⟩)) rfl rfl (by kernel_rfl) (by kernel_rfl) (by kernel_rfl) (fun _ _ _ h => h) (Or.inl ⟨by rfl, ?_⟩) (by assumption) ?_
    · intro w hSw
      obtain ⟨s5, s6, sq0, sq1⟩ := hSw
      go_simp
    simp only [Act.put, List.setIfInBounds_toArray, List.set_cons_zero, List.set_cons_succ]
    refine held_take 2 (some 17) (.int .i64 px) rfl rfl (by kernel_rfl) (by kernel_rfl) (by kernel_rfl) (fun _ _ _ h => h) (Or.inl ⟨by rfl, ?_⟩) (by assumption) ?_
    · intro w hSw
      obtain ⟨s5, s6, sq0, sq1⟩ := hSw
      go_simp
    simp only [Act.put, List.setIfInBounds_toArray, List.set_cons_zero, List.set_cons_succ]
    refine held_take 3 (some 18) (.pointer (some ⟨Bq, 1, none⟩)) rfl rfl (by kernel_rfl) (by kernel_rfl) (by kernel_rfl) (fun _ _ _ h => h) (Or.inl ⟨by rfl, ?_⟩) (by assumption) ?_
    · intro w hSw
      obtain ⟨s5, s6, sq0, sq1⟩ := hSw
      go_simp
    simp only [Act.put, List.setIfInBounds_toArray, List.set_cons_zero, List.set_cons_succ]
    refine held_take 4 (some 19) (.int .i64 py) rfl rfl (by kernel_rfl) (by kernel_rfl) (by kernel_rfl) (fun _ _ _ h => h) (Or.inl ⟨by rfl, ?_⟩) (by assumption) ?_
    · intro w hSw
      obtain ⟨s5, s6, sq0, sq1⟩ := hSw
      go_simp
    simp only [Act.put, List.setIfInBounds_toArray, List.set_cons_zero, List.set_cons_succ]
    refine held_take 5 (some 20) (.int .i64 (n : Int)) rfl rfl (by kernel_rfl) (by kernel_rfl) (by kernel_rfl) (fun _ _ _ h => h) (Or.inl ⟨by rfl, ?_⟩) (by assumption) ?_
    · intro w hSw
      obtain ⟨s5, s6, sq0, sq1⟩ := hSw
      go_simp
    simp only [Act.put, List.setIfInBounds_toArray, List.set_cons_zero, List.set_cons_succ]
    refine held_take 6 (some 21) (.agg #[.int .i64 (n : Int), .int .i64 0, .bool false, .bool false]) rfl rfl (by kernel_rfl) (by kernel_rfl) (by kernel_rfl) (fun _ _ _ h => h) (Or.inl ⟨by rfl, ?_⟩) (by assumption) ?_
    · intro w hSw
      obtain ⟨s5, s6, sq0, sq1⟩ := hSw
      go_simp
    simp only [Act.put, List.setIfInBounds_toArray, List.set_cons_zero, List.set_cons_succ]
    refine held_next 7 (by kernel_rfl) rfl (fun K hK => ?_)
    go_simp
    refine hK.out _ _ ?_ (fun hHeld => ?_)
    · have hal : Below W.drew.heap.size W.drew (W.drew.alloc (.cells #[.int .i64 (n : Int), .int .i64 0, .bool false, .bool false] 109)) := up_alloc (Below.refl _ _) _
      exact ⟨bl_cell hal hHeld.1, bl_cell hal hHeld.2.1, bl_cell hal hHeld.2.2.1, bl_cell hal hHeld.2.2.2⟩
    clear hK K
    simp only [List.setIfInBounds_toArray, List.set_cons_zero, List.set_cons_succ]
    obtain ⟨ds, R, S, h1, h2, h3, h4, h5, h6⟩ := HI.out
    have hbW : Below W.heap.size W (W.alloc (.cells #[.int .i64 (n : Int), .int .i64 0, .bool false, .bool false] 109)).drew := up_drew (up_alloc (Below.refl _ _) _)
    have KO : Calls Tryz.prog 104 #[.slice (some ⟨W.heap.size, 0, none⟩) 1 1] (W.alloc (.cells #[.int .i64 (n : Int), .int .i64 0, .bool false, .bool false] 109)).drew (NewP (W.alloc (.cells #[.int .i64 (n : Int), .int .i64 0, .bool false, .bool false] 109)).drew [⟨(n : Int), false, false⟩]) :=
      pcOf_any (l := [⟨(n : Int), false, false⟩]) 1 (fun j u hu => (Bx.new W 109 [.int .i64 (n : Int), .int .i64 0, .bool false, .bool false]).1 j u hu) (by simp) (by simp)
    generalize (W.alloc (.cells #[.int .i64 (n : Int), .int .i64 0, .bool false, .bool false] 109)).drew = W1 at *
    have HO := Lib.hid KO; have HB1 := Lib.hid hbW; have H5 := Lib.hid h5; have H3 := Lib.hid h3; have H4 := Lib.hid h4; have H6 := Lib.hid h6; have H1 := Lib.hid h1; have H2 := Lib.hid h2
    clear KO hbW h1 h2 h3 h4 h5 h6
    refine held_next 8 (by kernel_rfl) rfl (fun K hK => ?_)
    go_simp
    refine HO.out.mono ?_
    rintro e w2 ⟨D, R0, rfl, hD, hb2⟩
    have hbw2 : Below W.heap.size W w2 := up_trans HB1.out hb2
    refine hK.out _ _ ⟨bl_cell hb2 hHeld.1, bl_cell hb2 hHeld.2.1, bl_cell hb2 hHeld.2.2.1, bl_cell hb2 hHeld.2.2.2⟩ (fun hHeld2 => ?_)
    clear hK K
    simp only [List.setIfInBounds_toArray, List.set_cons_zero, List.set_cons_succ]
    have HS := Lib.hid (shSet_any (H5.out.up hbw2) px py (ptrD D))
    have HD := Lib.hid hD; have HB2 := Lib.hid hbw2
    clear hHeld hD hbw2 hb2 HO
    refine held_next 9 (by kernel_rfl) rfl (fun K hK => ?_)
    go_simp
    refine HS.out.mono ?_
    rintro e w3 ⟨rfl, hG3, hg3⟩
    have kc : ∀ {b o : Nat} {u : Value}, w2.cell? ⟨b, o, none⟩ = some u → b ≠ w.heap.size → w3.cell? ⟨b, o, none⟩ = some u := fun h hne => (World.cell?_of_block (hg3.block _ (World.block_lt_of_cell? w2 _ h) (fun e => hne (by injection e)))).trans h
    refine hK.out _ _ ⟨kc hHeld2.1 (by omega), kc hHeld2.2.1 (by omega), kc hHeld2.2.2.1 (by omega), kc hHeld2.2.2.2 (by omega)⟩ (fun hHeld3 => ?_)
    clear hK K
    refine wpAnyH_done (by kernel_rfl) ?_ _
    have hA1 : ∀ o : Obj, w2.heap[w.heap.size]? = some o → o.isCells = true := fun o ho => (H5.out.up HB2.out).isCells ho
    have hm := FlatI.more H1.out H2.out H3.out H4.out H5.out H6.out hB1.size HB2.out (x := ((px, py), v)) (by rw [HN.out]; exact HD.out.base W.heap.size (Nat.le_trans HB1.out.size HD.out.low) (Nat.le_trans HB1.out.size HD.out.ltR.1)) hG3 hg3
    have k6' : Boxed w3 (w1.heap.size + 1) 3 (.int .i64 (n : Int)) := (hg3.block _ (Nat.lt_of_lt_of_le k6.lt HB2.out.size) (fun e => by injection e with e; omega)).trans ((HB2.out.block _ k6.lt).trans k6)
    have k5' : Boxed w3 w1.heap.size 120 (.pointer (some ⟨w.heap.size + 1, 0, none⟩)) := (hg3.block _ (Nat.lt_of_lt_of_le k5.lt HB2.out.size) (fun e => by injection e with e; omega)).trans ((HB2.out.block _ k5.lt).trans k5)
    have kw : KeepsOthers W w3 := (KeepsOthers.of_grownBy (row := none) ⟨HB2.out.os, HB2.out.tape, HB2.out.output, HB2.out.size, fun k hk _ => HB2.out.block k hk⟩ (fun j o e => by cases e)).trans (KeepsOthers.of_grownBy hg3 (fun j o e ho => by cases e; exact hA1 o ho))
    have ks : KeepS (OneS w.heap.size) W w3 := (oneS_up _ _ _ HB2.out).trans (oneS_grown _ hg3)
    have hb3 : Below w.heap.size w w3 := (hB1.trans (HB2.out.mono hB1.size)).grown hg3 (Nat.le_trans hB1.size HB2.out.size) (fun k e => by cases e; exact Nat.le_refl _)
    have c6 := k6'.cell; have f6 := k6'.frozen
    have wn : IntKind.i64.wrap ((n : Int) + 1) = (n : Int) + 1 := IntWalk.i64_in _ (by omega)
    have HM := Lib.hid hm; have HKW := Lib.hid kw; have HKS := Lib.hid ks; have HB3 := Lib.hid hb3
    clear hm kw ks hb3 hHeld2 hHeld3 hg3 hG3 HS H1 H2 H3 H4 H5 H6 HD hA1 kc q0 q1 c5
    gi_wp2
    refine ⟨(HKW.out.trans (KeepsOthers.setCell _ _ _)).from _, HKS.out.trans (keepS_box k6' (by decide) (fun b h => h)), ⟨HM.out.far k6' ⟨by decide, by decide⟩ (by omega), k5'.other (by omega) _, ?_⟩, HB3.out.setCell (by simp; omega) _⟩
    have e : ((pre ++ [((px, py), v)]).length : Int) = (n : Int) + 1 := by rw [List.length_append, HN.out]; simp
    simp only [e]
    exact k6'.set _
  case done =>
    rintro D ys W hD rfl ⟨⟨hi, k5, k6⟩, hB1⟩ hK
    have hc5 := k5.cell
    gi_wp2
    refine ⟨by simp, .inl ⟨_, _, rfl, run_takeDeferred hK, ?_⟩⟩
    obtain ⟨ds, R, S, h1, h2, h3, h4, h5, h6⟩ := hi
    have hp : 0 ≤ c * r := Int.mul_nonneg (by omega) (by omega)
    have hl : ds.length = (c * r).toNat := by rw [h1, ptS_length]; simp
    have e := laid_all c r hc hr (List.replicate (c * r).toNat none) ds hl ds.length (Nat.le_refl _)
    rw [List.take_length, hl, Nat.sub_self, List.replicate_zero, List.append_nil] at e
    rw [List.length_replicate, e] at h5
    have hg := grownBy_putObj' W D (.deferred none)
    have hr' : ∀ r, some D = some r → ∃ o : Obj, W.heap[r]? = some o ∧ o.isCells = false := fun r e => by cases e; exact ⟨_, hK, rfl⟩
    exact ⟨_, results_tmp rfl _ _ _, _, _, ds, R, S, rfl, by omega, h2, h3.kept hg hr', h4, h5.put hK rfl, by omega, Nat.le_refl _, hB1.trans (belowK_b (w := w) (Nat.le_refl _) W D _ _ (by omega) hK rfl rfl)⟩
  case stop =>
    rintro D c pre W hD hpre h hK
    exact h.elim
end Go.Proofs.YtbfigaadbfggcaaGreatDoor
/- What unfold.after makes of a sheet: the flap's piles, turned over, lie upon (beneath) those of the rest. -/
namespace Go.Proofs.YtbfigaadbfggcaaGreatDoor
open Go.RowKit Go.Shelf
set_option linter.unusedVariables false
attribute [local go_sem] Oper.semAt_some
theorem run_store_func {P : Program} {w : World} {a : Addr} {m : Mode} (f : Fn) (x y : Array Value) : (store a (.func f x y) m).run P w = stored P w a (.func f x y) m := run_store P w a _ m rfl
attribute [local go_sem] run_store_func

/-- The pile t is turned over, and comes upon (under: beneath) the pile h. -/
def stepS (under up : Bool) (t h : Nat) (S : Nat → List Pc) : Nat → List Pc :=
  putS (putS S t ((S t).reverse.map (flipP up))) h (if under = true then S h ++ (S t).reverse.map (flipP up) else (S t).reverse.map (flipP up) ++ S h)
/-- One pile behind the other. -/
def runS {m : Nat} (under up : Bool) (tb hb : Ix m → Nat) (pre : List (Ix m)) (S : Nat → List Pc) : Nat → List Pc := pre.foldl (fun S k => stepS under up (tb k) (hb k) S) S
theorem runS_snoc {m : Nat} (under up : Bool) (tb hb : Ix m → Nat) (pre : List (Ix m)) (k : Ix m) (S : Nat → List Pc) : runS under up tb hb (pre ++ [k]) S = stepS under up (tb k) (hb k) (runS under up tb hb pre S) := by simp [runS]

theorem stepS_len {under up : Bool} {t h : Nat} {S : Nat → List Pc} (hne : t ≠ h) : (stepS under up t h S t).length = (S t).length ∧ (stepS under up t h S h).length = (S h).length + (S t).length := by
  unfold stepS
  rw [putS_ne hne, putS_at, putS_at]
  refine ⟨by simp, ?_⟩
  cases under <;> simp <;> omega
theorem stepS_far {under up : Bool} {t h D : Nat} {S : Nat → List Pc} (h1 : D ≠ t) (h2 : D ≠ h) : stepS under up t h S D = S D := by unfold stepS; rw [putS_ne h2, putS_ne h1]
/-- The flap's piles stay as great as they are; the rest's grow by one a round. -/
theorem runS_len {m : Nat} {under up : Bool} {tb hb : Ix m → Nat} {S : Nat → List Pc} {B : Nat} (hap : ∀ k j, tb k ≠ hb j) (ht : ∀ k, (S (tb k)).length ≤ B) (hh : ∀ k, (S (hb k)).length ≤ B) (n : Nat) : ∀ pre : List (Ix m), pre.length = n → (∀ k, (runS under up tb hb pre S (tb k)).length ≤ B) ∧ ∀ k, (runS under up tb hb pre S (hb k)).length ≤ B * (n + 1) := by
  induction n with
  | zero =>
    intro pre h
    obtain rfl : pre = [] := List.eq_nil_of_length_eq_zero h
    exact ⟨ht, fun k => by have := hh k; simpa [runS] using this⟩
  | succ n ih =>
    intro pre h
    obtain ⟨pre, x, rfl⟩ : ∃ p x, pre = p ++ [x] := ⟨pre.dropLast, pre.getLast (by rintro rfl; simp at h), (List.dropLast_concat_getLast _).symm⟩
    obtain ⟨h1, h2⟩ := ih pre (by simpa using h)
    rw [runS_snoc]
    generalize runS under up tb hb pre S = S' at *
    obtain ⟨l1, l2⟩ := stepS_len (under := under) (up := up) (S := S') (hap x x)
    have hB : B * (n + 1) + B = B * (n + 1 + 1) := by rw [Nat.mul_add B (n + 1) 1, Nat.mul_one]
    refine ⟨fun k => ?_, fun k => ?_⟩
    · by_cases e : tb k = tb x
      · rw [e, l1]; exact h1 x
      · rw [stepS_far e (hap k x)]; exact h1 k
    · by_cases e : hb k = hb x
      · rw [e, l2]; have := h1 x; have := h2 x; omega
      · rw [stepS_far (fun e' => hap x k e'.symm) e]; have := h2 k; omega

/-- A call in a round that changes one deck: what it leaves as it was. -/
theorem loop_keep {W W1 : World} {base b0 b1 D : Nat} {M : Nat → Prop} {R : Nat → Nat} {S : Nat → List Pc} {l : List Pc} (hD : Decks W base M R S) (ht : M D) (hlow : ∀ D, M D → D < b0) (hR : ∀ D, M D → R D < b0 ∨ b1 ≤ R D) (hb1 : b1 ≤ W.heap.size) (hm : MadeP base W D (R D) l W1) (hl : 0 < l.length) :
    ∃ R1, Decks W1 base M R1 (putS S D l) ∧ (∀ D, M D → R1 D < b0 ∨ b1 ≤ R1 D) ∧ (∀ k, b0 ≤ k → k < b1 → W1.heap[k]? = W.heap[k]?) ∧ Below base W W1 ∧ KeepsOthers W W1 ∧ KeepS NoS W W1 ∧ b1 ≤ W1.heap.size := by
  have k := hD.dk D ht
  obtain ⟨R1, d1, r1, b⟩ := hD.made ht hm hl
  have hbase : base ≤ W.heap.size := Nat.le_of_lt (Nat.lt_of_le_of_lt k.low k.ltD)
  obtain ⟨x, hx⟩ := k.cellsD
  obtain ⟨y, hy⟩ := k.cellsR
  refine ⟨R1, d1, fun E hM => ?_, fun j j0 j1 => b.block j (by omega) (by have := hlow D ht; omega) (by have := hR D ht; omega), b.below hbase k.low k.ltR.1, b.others ⟨_, _, hx⟩ ⟨_, _, hy⟩, b.keepS k, Nat.le_trans hb1 b.size⟩
  rcases r1 E hM with e | e
  · rw [e]; exact hR E hM
  · exact .inr (Nat.le_trans hb1 e)

/-- What stands between two rounds. -/
def LoopI (w W0 : World) (base b0 b1 : Nat) (M : Nat → Prop) (S : Nat → List Pc) (W : World) : Prop :=
  (∃ R, Decks W base M R S ∧ ∀ D, M D → R D < b0 ∨ b1 ≤ R D) ∧ (∀ k, b0 ≤ k → k < b1 → W.heap[k]? = W0.heap[k]?) ∧ b1 ≤ W.heap.size ∧ Below base w W
theorem loopI_own {β : Type} {w W0 : World} {base b0 b1 : Nat} {M : Nat → Prop} (f : β → Nat → List Pc) (hbw : base ≤ w.heap.size) (hb : base ≤ b1) : OwnFrom b1 (fun s W => LoopI w W0 base b0 b1 M (f s) W) := by
  rintro s X Y row ⟨⟨R, h1, h2⟩, h3, h4, h5⟩ hg hr
  refine ⟨⟨R, h1.kept hg (fun r e => (hr r e).2), h2⟩, fun k k0 k1 => (hg.block k (by omega) (fun e => ?_)).trans (h3 k k0 k1), Nat.le_trans h4 hg.size, h5.grown hg (Nat.le_trans hbw h5.size) (fun r e => Nat.le_trans hb (hr r e).1)⟩
  have := (hr k e.symm).1
  omega
theorem LoopI.alloc {w W0 : World} {base b0 b1 : Nat} {M : Nat → Prop} {S : Nat → List Pc} {W : World} (h : LoopI w W0 base b0 b1 M S W) (hbw : base ≤ w.heap.size) (o : Obj) : LoopI w W0 base b0 b1 M S (W.alloc o) := by
  obtain ⟨⟨R, h1, h2⟩, h3, h4, h5⟩ := h
  exact ⟨⟨R, h1.up (up_alloc (Below.refl _ _) _), h2⟩, fun k k0 k1 => (Below.heap_alloc _ _ _ (by omega)).trans (h3 k k0 k1), by simp; omega, h5.alloc (Nat.le_trans hbw h5.size) _⟩

set_option maxRecDepth 100000 in
set_option maxHeartbeats 4000000 in
theorem after_one {w : World} {base G : Nat} {c : Int} {L : List Ptr} (n : Int) (u : Bool) (K : Cut) (F LQ : List Ptr) (tb hb : Ix F.length → Nat) {M : Nat → Prop} {R : Nat → Nat} {S : Nat → List Pc}
    (KP : ∀ w', Below w.heap.size w w' → Calls Tryz.prog 106 #[.pointer (some ⟨G, 0, none⟩), .agg #[.int .i64 1, .int .i64 n, .bool u]] w' (PartedP w' c L K))
    (hF0 : wantMs true K.fc K.fr (wantPs c K.fx K.fy K.fc K.fr L) = F) (hQ0 : wantPs c K.rx K.ry K.rc K.rr L = LQ) (hD : Decks w base M R S) (hbase : base ≤ w.heap.size)
    (hT : ∀ k : Ix F.length, F[k.1]'k.2 = ptrD (tb k) ∧ M (tb k)) (hx : 0 ≤ K.x ∧ K.x ≤ 64 ∧ 0 ≤ K.y ∧ K.y ≤ 64)
    (hH : ∀ k : Ix F.length, hasB K.rc K.rr (K.x + (k.1 : Int).tmod K.fc) (K.y + (k.1 : Int).tdiv K.fc) = true ∧ LQ[at1 K.rc (K.x + (k.1 : Int).tmod K.fc) (K.y + (k.1 : Int).tdiv K.fc)]? = some (ptrD (hb k)) ∧ M (hb k))
    (hap : ∀ k j, tb k ≠ hb j) (hlen : ∀ D, M D → (S D).length ≤ 64) :
    Calls Tryz.prog 88 #[.pointer (some ⟨G, 0, none⟩), .agg #[.int .i64 1, .int .i64 n, .bool u]] w fun e w' => ∃ Q QA R', e = .returned (.pointer (some ⟨Q, 0, none⟩)) ∧ Gs w' Q QA K.rc K.rr LQ ∧ Decks w' base M R' (runS u true tb hb (ixs F.length F.length) S) ∧ w.heap.size ≤ Q ∧ w.heap.size ≤ QA ∧ Below base w w' := by
  have HP := Lib.hid KP; have HD := Lib.hid hD; have HT := Lib.hid hT; have HH := Lib.hid hH; have HA := Lib.hid hap; have HLn := Lib.hid hlen; have HF0 := Lib.hid hF0; have HQ0 := Lib.hid hQ0
  clear KP hD hT hH hap hlen hF0 hQ0
  have xF := ((Bx.new w 50 [.int .i64 1, .int .i64 n, .bool u]).alloc (.cells #[.bool true] 4)).alloc (.cells #[.func (.func 105) #[] #[.pointer (some ⟨w.heap.size + 1, 0, none⟩)]] 141)
  have xU := (Boxed.new (w.alloc (.cells #[.int .i64 1, .int .i64 n, .bool u] 50)) 4 (.bool true)).alloc (.cells #[.func (.func 105) #[] #[.pointer (some ⟨w.heap.size + 1, 0, none⟩)]] 141)
  have xT := Boxed.new ((w.alloc (.cells #[.int .i64 1, .int .i64 n, .bool u] 50)).alloc (.cells #[.bool true] 4)) 141 (.func (.func 105) #[] #[.pointer (some ⟨w.heap.size + 1, 0, none⟩)])
  have hb0 : Below w.heap.size w (((w.alloc (.cells #[.int .i64 1, .int .i64 n, .bool u] 50)).alloc (.cells #[.bool true] 4)).alloc (.cells #[.func (.func 105) #[] #[.pointer (some ⟨w.heap.size + 1, 0, none⟩)]] 141)) := up_alloc (up_alloc (up_alloc (Below.refl _ _) _) _) _
  have hs0 : (((w.alloc (.cells #[.int .i64 1, .int .i64 n, .bool u] 50)).alloc (.cells #[.bool true] 4)).alloc (.cells #[.func (.func 105) #[] #[.pointer (some ⟨w.heap.size + 1, 0, none⟩)]] 141)).heap.size = w.heap.size + 3 := by simp
  simp only [World.size_alloc] at xU xT
  refine (callsIn_wide (n := 3)).1 ?_
  refine callsIn_of_wp_marks Tryz.func88 rfl trivial ?_ rfl
  simp only [Tryz.ntmps88, List.size_toArray, List.length_cons, List.length_nil, Nat.reduceAdd, Nat.reduceSub, Array.replicate_succ, Array.replicate_zero, List.push_toArray, List.append_toArray, List.nil_append, List.cons_append]
  gi_wp2_with (first
    | (refine ⟨trivial, ?_⟩; gi_at_call 106; refine (callsIn_wide.2 (HP.out _ hb0)).mono ?_; rintro e w1 ⟨Fl, FA, Q, QA, rfl, hF, hQ, ⟨g1, g2, g3, g4⟩, hb1⟩; rw [hs0] at g1 g2 g3 g4; have yU : Boxed w1 (w.heap.size + 1) 4 (.bool true) := (hb1.block _ xU.lt).trans xU; have yT : Boxed w1 (w.heap.size + 1 + 1) 141 (.func (.func 105) #[] #[.pointer (some ⟨w.heap.size + 1, 0, none⟩)]) := (hb1.block _ xT.lt).trans xT; have yF := xF.up hb1; have hbw1 := up_trans hb0 hb1; have hs1 := hb1.size; rw [hs0] at hs1; have zU := ((yU.alloc (.cells #[.pointer (some ⟨Q, 0, none⟩)] 120)).alloc (.cells #[.int .i64 K.x, .int .i64 K.y] 23)).cell; have YU := Lib.hid yU; have YT := Lib.hid yT; have YF := Lib.hid yF; have HBW := Lib.hid hbw1; have HFl := Lib.hid hF; have HQ := Lib.hid hQ; clear hb1 yU yT yF hbw1 hF hQ xF xU xT hb0 hs0)
    | (refine ⟨trivial, ?_⟩; gi_at_call 107; refine (callsIn_wide.2 (shMirror_yes (HFl.out.up (up_alloc (up_alloc (Below.refl _ _) _) _)) true)).mono ?_; rintro e w3 ⟨P, PA, rfl, hP, gP1, gP2, hb3⟩)
    | (refine ⟨trivial, ?_⟩; gi_at_call 102; refine (callsIn_wide.2 (shAll_any _ _)).mono ?_; rintro e w4 ⟨rfl, rfl⟩))
  have hfl := HFl.out
  rw [mirror_eqS true K.fc K.fr _ hfl.len hfl.c1 hfl.c64 hfl.r64 hfl.r1, HF0.out] at hP
  have hQ1 := HQ.out
  rw [HQ0.out] at hQ1
  obtain ⟨W0, hW0⟩ : ∃ W0, w3.alloc (.cells #[.pointer (some ⟨P, 0, none⟩)] 120) = W0 := ⟨_, rfl⟩
  have up3 : Below w3.heap.size w3 W0 := by rw [← hW0]; exact up_alloc (Below.refl _ _) _
  have z8 := (Boxed.new w1 120 (.pointer (some ⟨Q, 0, none⟩))).alloc (.cells #[.int .i64 K.x, .int .i64 K.y] 23)
  have z9 : Boxed2 ((w1.alloc (.cells #[.pointer (some ⟨Q, 0, none⟩)] 120)).alloc (.cells #[.int .i64 K.x, .int .i64 K.y] 23)) (w1.heap.size + 1) 23 (.int .i64 K.x) (.int .i64 K.y) := by
    have := World.alloc_heap_new (w1.alloc (.cells #[.pointer (some ⟨Q, 0, none⟩)] 120)) (.cells #[.int .i64 K.x, .int .i64 K.y] 23)
    rwa [World.size_alloc] at this
  have hs2 : ((w1.alloc (.cells #[.pointer (some ⟨Q, 0, none⟩)] 120)).alloc (.cells #[.int .i64 K.x, .int .i64 K.y] 23)).heap.size = w1.heap.size + 2 := by simp
  have hs3 := hb3.size
  rw [hs2] at hs3 gP1 gP2
  have up2 : Below ((w1.alloc (.cells #[.pointer (some ⟨Q, 0, none⟩)] 120)).alloc (.cells #[.int .i64 K.x, .int .i64 K.y] 23)).heap.size ((w1.alloc (.cells #[.pointer (some ⟨Q, 0, none⟩)] 120)).alloc (.cells #[.int .i64 K.x, .int .i64 K.y] 23)) W0 := up_trans hb3 up3
  have up1 : Below w1.heap.size w1 W0 := up_trans (up_alloc (up_alloc (Below.refl _ _) _) _) up2
  have upw : Below w.heap.size w W0 := up_trans HBW.out up1
  have f8 : Boxed W0 w1.heap.size 120 (.pointer (some ⟨Q, 0, none⟩)) := (up2.block _ z8.lt).trans z8
  have f9 : Boxed2 W0 (w1.heap.size + 1) 23 (.int .i64 K.x) (.int .i64 K.y) := (up2.block _ (by rw [hs2]; omega)).trans z9
  have fU : Boxed W0 (w.heap.size + 1) 4 (.bool true) := (up1.block _ YU.out.lt).trans YU.out
  have fT : Boxed W0 (w.heap.size + 1 + 1) 141 (.func (.func 105) #[] #[.pointer (some ⟨w.heap.size + 1, 0, none⟩)]) := (up1.block _ YT.out.lt).trans YT.out
  have fF := YF.out.up up1
  have gQ := hQ1.up up1
  have gP := hP.up up3
  have yG : W0.cell? ⟨w3.heap.size, 0, none⟩ = some (.pointer (some ⟨P, 0, none⟩)) := by rw [← hW0]; simp [go_sem]
  have hsz : W0.heap.size = w3.heap.size + 1 := by rw [← hW0]; simp
  have hlow : ∀ D, M D → D < w.heap.size := fun D h => (HD.out.dk D h).ltD
  have hI0 : LoopI w W0 base w.heap.size W0.heap.size M (runS u true tb hb [] S) W0 := ⟨⟨R, HD.out.up upw, fun D h => .inl (HD.out.dk D h).ltR.2⟩, fun k _ _ => rfl, Nat.le_refl _, upw.mono hbase⟩
  have ltQ := gQ.ltG
  have ltQA := gQ.ltA
  rw [hW0]
  clear hW0 z8 z9 hs2 up3 up2 up1 hQ1 hP hfl HP HFl HQ YU YT YF HBW hb3 zU
  have H8 := Lib.hid f8; have H9 := Lib.hid f9; have HU := Lib.hid fU; have HTF := Lib.hid fT; have HF := Lib.hid fF; have HGQ := Lib.hid gQ; have HLow := Lib.hid hlow
  clear f8 f9 fU fT fF gQ hlow
  have hm64 := gP.le
  refine wpIn_rangeFunc_ownH rfl (by decide) (gf := 123) (lb := #[.pointer (some ⟨w3.heap.size, 0, none⟩)]) rfl trivial (enters_of Tryz.func123 (by kernel_rfl) rfl)
    (shAll_stopsI 2 NoS w3.heap.size P PA K.fc K.fr F W0 yG gP (fun W' hb b ho => ho.elim) (fun V V' _ h => noS_up V V' h)) KeepS.trans (fun W l o o' _ h1 h2 _ => noS_put W l o o' h1 h2) (Below.refl _ _) (fun _ => rfl)
    (fun pre W => LoopI w W0 base w.heap.size W0.heap.size M (runS u true tb hb pre S) W)
    (fun c pre W => False)
    (loopI_own (fun pre => runS u true tb hb pre S) hbase (Nat.le_trans hbase (by omega)))
    (fun c => ownFrom_pure _ (fun _ => False))
    hI0
    (fun k a' W => ∃ Bq, W0.heap.size ≤ Bq ∧ Boxed2 W Bq 23 (.int .i64 ((k.1 : Int).tmod K.fc)) (.int .i64 ((k.1 : Int).tdiv K.fc)) ∧
      a' = { tmps := #[.pointer (some ⟨G, 0, none⟩), .agg #[.int .i64 1, .int .i64 n, .bool u], undef, .pointer (some ⟨w.heap.size, 0, none⟩), .pointer none, .pointer (some ⟨w.heap.size + 1, 0, none⟩), .pointer (some ⟨w.heap.size + 1 + 1, 0, none⟩), .pointer (some ⟨Fl, 0, none⟩), .pointer (some ⟨w1.heap.size, 0, none⟩), .pointer (some ⟨w1.heap.size + 1, 0, none⟩), .pointer (some ⟨Bq, 0, none⟩), .pointer (some ⟨tb k, 0, none⟩), undef, undef, .pointer (some ⟨w.heap.size, 0, none⟩), .int .i64 1, .bool true, .bool true, undef, undef, undef, .bool true, .func (.func 105) #[] #[.pointer (some ⟨w.heap.size + 1, 0, none⟩)], .tuple #[.pointer (some ⟨Fl, 0, none⟩), .pointer (some ⟨Q, 0, none⟩), .agg #[.int .i64 K.x, .int .i64 K.y]], .pointer (some ⟨G, 0, none⟩), .agg #[.int .i64 1, .int .i64 n, .bool u], .tuple #[.pointer (some ⟨Fl, 0, none⟩), .pointer (some ⟨Q, 0, none⟩), .agg #[.int .i64 K.x, .int .i64 K.y]], .pointer (some ⟨Fl, 0, none⟩), .pointer (some ⟨Q, 0, none⟩), .agg #[.int .i64 K.x, .int .i64 K.y], .pointer (some ⟨Fl, 0, none⟩), .bool true, .pointer (some ⟨P, 0, none⟩), .func (.func 123) #[] #[.pointer (some ⟨w3.heap.size, 0, none⟩)], .agg #[.int .i64 ((k.1 : Int).tmod K.fc), .int .i64 ((k.1 : Int).tdiv K.fc)], .pointer (some ⟨tb k, 0, none⟩), undef, undef, undef, undef, undef, undef, undef, undef, undef, undef, undef, undef, undef, undef, undef, undef, undef, undef, undef, undef, undef, undef, undef, undef, undef, undef, undef], defers := [] })
    (fun k a' _ X Y row hs hg hr => by obtain ⟨Bx, h1, h2, h4⟩ := hs; exact ⟨Bx, h1, boxed2_own Bx _ _ _ () X Y row h2 hg (fun r e => (hr r e).2), h4⟩)
    ?assign ?body ?done ?stop
  case assign =>
    rintro l0 pre k W Kk hI hK
    have hk := (HT.out k).1
    unfold encI encV
    simp only [hk, ptrD]
    generalize (k.1 : Int).tmod K.fc = px at *
    generalize (k.1 : Int).tdiv K.fc = py at *
    gi_wp2
    exact hK _ _ ((KeepsOthers.alloc _ _).from _) (noS_up _ _ (up_alloc (Below.refl _ _) _)) (hI.alloc hbase _) ⟨W.heap.size, hI.2.2.1, World.alloc_heap_new W _, rfl⟩
  case body =>
    rintro l0 pre k a' W hl _ hI ⟨Bq, hBq, kQ, rfl⟩ hlen
    obtain ⟨⟨R1, d1, r1⟩, hsame, hb1W, hbW⟩ := hI
    obtain ⟨_, hMt⟩ := HT.out k
    obtain ⟨hh1, hh2, hMh⟩ := HH.out k
    obtain ⟨hl1, hl2⟩ := runS_len (under := u) (up := true) HA.out (fun k => HLn.out _ (HT.out k).2) (fun k => HLn.out _ (HH.out k).2.2) pre.length pre rfl
    have hl1 := hl1 k; have hl2 := hl2 k
    have hne := HA.out k k
    generalize (k.1 : Int).tmod K.fc = px at *
    generalize (k.1 : Int).tdiv K.fc = py at *
    have hsn := runS_snoc u true tb hb pre k S
    obtain ⟨S1, hS1⟩ : ∃ S1, runS u true tb hb pre S = S1 := ⟨_, rfl⟩
    rw [hS1] at d1 hl1 hl2 hsn
    have HSn := Lib.hid hsn
    clear hsn hS1
    obtain ⟨t, ht⟩ : ∃ t, tb k = t := ⟨_, rfl⟩
    obtain ⟨h, hh⟩ : ∃ h, hb k = h := ⟨_, rfl⟩
    rw [ht] at hMt hl1 hne HSn ⊢
    rw [hh] at hMh hl2 hne hh2 HSn
    clear ht hh
    have kU : Boxed W (w.heap.size + 1) 4 (.bool true) := (hsame _ (by omega) (by omega)).trans HU.out
    have kT : Boxed W (w.heap.size + 1 + 1) 141 (.func (.func 105) #[] #[.pointer (some ⟨w.heap.size + 1, 0, none⟩)]) := (hsame _ (by omega) (by omega)).trans HTF.out
    have KT := Lib.hid (pcTurn_any (d1.dk _ hMt) (d1.ne _ hMt) (by omega) kU.cell)
    have cT := kT.cell
    have KD := d1.dk _ hMt
    obtain ⟨yR, hyR⟩ := KD.cellsR
    have hQR : Bq ≠ R1 t := by
      rintro rfl
      rw [show W.heap[R1 t]? = _ from kQ] at hyR
      injection hyR with hyR
      injection hyR with _ hyR
      exact absurd hyR (by decide)
    have hQt : Bq ≠ t := by have := HLow.out t hMt; omega
    have hlt1 : w.heap.size + 3 ≤ W0.heap.size := by omega
    have hr := HGQ.out.c64; have hr2 := HGQ.out.r64
    have hsx : 0 ≤ K.x + px ∧ K.x + px < 64 ∧ 0 ≤ K.y + py ∧ K.y + py < 64 := by simp [hasB] at hh1; omega
    have wx : IntKind.i64.wrap (K.x + px) = K.x + px := IntWalk.i64_in _ (by omega)
    have wy : IntKind.i64.wrap (K.y + py) = K.y + py := IntWalk.i64_in _ (by omega)
    have KT2 : Calls Tryz.prog 108 #[.pointer (some ⟨t, 0, none⟩), .func (.func 105) #[] #[.pointer (some ⟨w.heap.size + 1, 0, none⟩)]] W fun e WT => e = .returned (.tuple #[]) ∧ ∃ R2,
        (WT.cell? ⟨w1.heap.size, 0, none⟩ = some (.pointer (some ⟨Q, 0, none⟩)) ∧ WT.cell? ⟨w1.heap.size + 1, 0, none⟩ = some (.int .i64 K.x) ∧ WT.cell? ⟨w1.heap.size + 1, 1, none⟩ = some (.int .i64 K.y) ∧ WT.cell? ⟨Bq, 0, none⟩ = some (.int .i64 px) ∧ WT.cell? ⟨Bq, 1, none⟩ = some (.int .i64 py)) ∧
        Hid (Calls Tryz.prog 89 #[.pointer (some ⟨Q, 0, none⟩), .int .i64 (K.x + px), .int .i64 (K.y + py)] WT fun e WA => e = .returned (.tuple #[.pointer (some ⟨h, 0, none⟩), .bool true]) ∧ WA.cell? ⟨w.heap.size, 2, none⟩ = some (.bool u) ∧
          Hid (Calls Tryz.prog 109 #[.pointer (some ⟨h, 0, none⟩), .pointer (some ⟨t, 0, none⟩)] WA fun e w' => e = .returned (.tuple #[]) ∧ MadeP base WA h (R2 h) (S1 h ++ (S1 t).reverse.map (flipP true)) w') ∧
          Hid (Calls Tryz.prog 110 #[.pointer (some ⟨h, 0, none⟩), .pointer (some ⟨t, 0, none⟩)] WA fun e w' => e = .returned (.tuple #[]) ∧ MadeP base WA h (R2 h) ((S1 t).reverse.map (flipP true) ++ S1 h) w') ∧
          Hid (Decks WA base M R2 (putS S1 t ((S1 t).reverse.map (flipP true)))) ∧ Hid (Below WT.heap.size WT WA)) ∧ Hid (∀ D, M D → R2 D < w.heap.size ∨ W0.heap.size ≤ R2 D) ∧ Hid (∀ k, w.heap.size ≤ k → k < W0.heap.size → WT.heap[k]? = W0.heap[k]?) ∧ Hid (Below base w WT) ∧ Hid (KeepsOthers W WT) ∧ Hid (KeepS NoS W WT) ∧ Hid (W0.heap.size ≤ WT.heap.size) ∧ Hid (Bx WT w.heap.size [.int .i64 1, .int .i64 n, .bool u]) := by
      refine KT.out.mono ?_
      rintro e WT ⟨rfl, hmT⟩
      obtain ⟨R2, d2, r2, hs2, hbe2, ko2, ks2, hb2⟩ := loop_keep d1 hMt HLow.out r1 hb1W hmT (by simpa using d1.ne t hMt)
      have hs3 := fun k k0 k1 => (hs2 k k0 k1).trans (hsame k k0 k1)
      have k8 : Boxed WT w1.heap.size 120 (.pointer (some ⟨Q, 0, none⟩)) := (hs3 _ (by omega) (by omega)).trans H8.out
      have k9 : Boxed2 WT (w1.heap.size + 1) 23 (.int .i64 K.x) (.int .i64 K.y) := (hs3 _ (by omega) (by omega)).trans H9.out
      have kQ : Boxed2 WT Bq 23 (.int .i64 px) (.int .i64 py) := by
        obtain ⟨_, _, _, hb⟩ := hmT
        exact (hb.block Bq (Array.getElem?_eq_some_iff.1 kQ).1 hQt hQR).trans kQ
      have kF : Bx WT w.heap.size [.int .i64 1, .int .i64 n, .bool u] := HF.out.same (hs3 _ (by omega) (by omega))
      have gQ := HGQ.out.same (hs3 Q (by omega) (by omega)) (hs3 QA (by omega) (by omega))
      have KA : Calls Tryz.prog 89 #[.pointer (some ⟨Q, 0, none⟩), .int .i64 (K.x + px), .int .i64 (K.y + py)] WT fun e w' => e = .returned (.tuple #[.pointer (some ⟨h, 0, none⟩), .bool true]) ∧ Below WT.heap.size WT w' := shAt_yes gQ (K.x + px) (K.y + py) (ptrD h) hh1 hh2
      refine ⟨rfl, R2, ⟨k8.cell, k9.c0, k9.c1, kQ.c0, kQ.c1⟩, Lib.hid (KA.mono ?_), Lib.hid r2, Lib.hid hs3, Lib.hid (hbW.trans hbe2), Lib.hid ko2, Lib.hid ks2, Lib.hid hb2, Lib.hid kF⟩
      rintro e WA ⟨rfl, hbA⟩
      have dA := d2.up hbA
      have kh := dA.dk h hMh
      have kt := dA.dk t hMt
      rw [putS_ne hne.symm] at kh
      rw [putS_at] at kt
      have n1 : 0 < (S1 h).length := d1.ne h hMh
      have n2 : 0 < ((S1 t).reverse.map (flipP true)).length := by simpa using d1.ne t hMt
      have n3 : ((S1 t).reverse.map (flipP true)).length ≤ 1000000 := by simp; omega
      exact ⟨rfl, (kF.up hbA).cell 2 rfl, Lib.hid (pcUnder_any kh kt n1 n2 (by omega) n3), Lib.hid (pcOver_any kh kt n1 n2 (by omega) n3), Lib.hid dA, Lib.hid hbA⟩
    have HT2 := Lib.hid KT2; have HNE := Lib.hid hne; have HN1 := Lib.hid (d1.ne h hMh)
    clear KT2 KT KD hyR hQR hQt d1 r1 hsame hbW kQ kU kT hne hl1 hl2 hh1 hh2 hr hr2 hsx
    dsimp only
    gi_wp2_with (first
      | (refine ⟨trivial, ?_⟩; gi_at_call 108; refine (CallsIn.inRound l0 (callsIn_wide.2 HT2.out)).mono ?_; rintro e WT ⟨rfl, R2, ⟨c8, c90, c91, q0, q1⟩, HA2, HR2, HS2, HBE2, HKO2, HKS2, HB2, HKF⟩)
      | (refine ⟨trivial, ?_⟩; gi_at_call 89; refine (CallsIn.inRound l0 (callsIn_wide.2 HA2.out)).mono ?_; rintro e WA ⟨rfl, cu, HUn, HOv, HDA, HBA⟩; clear c8 c90 c91 q0 q1)
      | (refine ⟨trivial, ?_⟩; gi_at_call 109; refine (CallsIn.inRound l0 (callsIn_wide.2 HUn.out)).mono ?_; rintro e WU ⟨rfl, hmU⟩; have HMU := Lib.hid hmU; clear hmU)
      | (refine ⟨trivial, ?_⟩; gi_at_call 110; refine (CallsIn.inRound l0 (callsIn_wide.2 HOv.out)).mono ?_; rintro e WU ⟨rfl, hmU⟩; have HMU := Lib.hid hmU; clear hmU))
    · have hu : u = true := by assumption
      rw [hu] at HSn
      have hbA := HBA.out
      obtain ⟨R3, d3, r3, hs3', hbe3, ko3, ks3, hb3'⟩ := loop_keep HDA.out hMh HLow.out HR2.out (Nat.le_trans HB2.out hbA.size) HMU.out (by rw [List.length_append]; have := HN1.out; omega)
      refine ⟨((HKO2.out.trans (others_below hbA)).trans ko3).from _, (HKS2.out.trans (noS_up _ _ hbA)).trans ks3, ?_⟩
      show LoopI w W0 base w.heap.size W0.heap.size M (runS u true tb hb (pre ++ [k]) S) WU
      rw [hu, HSn.out]
      refine ⟨⟨R3, ?_, r3⟩, fun j j0 j1 => (hs3' j j0 j1).trans ((hbA.block j (Nat.lt_of_lt_of_le j1 HB2.out)).trans (HS2.out j j0 j1)), hb3', (HBE2.out.trans (hbA.mono (Nat.le_trans hbase HBE2.out.size))).trans hbe3⟩
      exact d3
    · have hu : u = false := by assumption
      rw [hu] at HSn
      have hbA := HBA.out
      obtain ⟨R3, d3, r3, hs3', hbe3, ko3, ks3, hb3'⟩ := loop_keep HDA.out hMh HLow.out HR2.out (Nat.le_trans HB2.out hbA.size) HMU.out (by rw [List.length_append]; have := HN1.out; omega)
      refine ⟨((HKO2.out.trans (others_below hbA)).trans ko3).from _, (HKS2.out.trans (noS_up _ _ hbA)).trans ks3, ?_⟩
      show LoopI w W0 base w.heap.size W0.heap.size M (runS u true tb hb (pre ++ [k]) S) WU
      rw [hu, HSn.out]
      refine ⟨⟨R3, ?_, r3⟩, fun j j0 j1 => (hs3' j j0 j1).trans ((hbA.block j (Nat.lt_of_lt_of_le j1 HB2.out)).trans (HS2.out j j0 j1)), hb3', (HBE2.out.trans (hbA.mono (Nat.le_trans hbase HBE2.out.size))).trans hbe3⟩
      exact d3
  case done =>
    rintro D ys W hD rfl hI hK
    obtain ⟨⟨R1, d1, r1⟩, hsame, hb1W, hbW⟩ := hI
    have k8 : Boxed W w1.heap.size 120 (.pointer (some ⟨Q, 0, none⟩)) := (hsame _ (by omega) (by omega)).trans H8.out
    have gQ := HGQ.out.same (hsame Q (by omega) (by omega)) (hsame QA (by omega) (by omega))
    have c8 := k8.cell
    gi_wp2
    refine ⟨by simp, .inl ⟨_, _, rfl, run_takeDeferred hK, ?_⟩⟩
    have hg := grownBy_putObj' W D (.deferred none)
    have hr' : ∀ r, some D = some r → ∃ o : Obj, W.heap[r]? = some o ∧ o.isCells = false := fun r e => by cases e; exact ⟨_, hK, rfl⟩
    exact ⟨_, results_tmp rfl _ _ _, Q, QA, R1, rfl, gQ.put hK rfl, d1.kept hg hr', by omega, by omega, hbW.trans (belowK_b (w := W0) (Nat.le_trans hbase (by omega)) W D _ _ hD hK rfl rfl)⟩
  case stop =>
    rintro D c pre W hD hpre h hK
    exact h.elim

set_option maxRecDepth 100000 in
set_option maxHeartbeats 4000000 in
theorem after_more {w : World} {base G : Nat} {c : Int} {L : List Ptr} (d n : Int) (u up : Bool) (K : Cut) (F LQ : List Ptr) (tb hb : Ix F.length → Nat) {M : Nat → Prop} {R : Nat → Nat} {S : Nat → List Pc} (e1 : (d == 1) = false) (e2 : (d == 2) = up)
    (KP : ∀ w', Below w.heap.size w w' → Calls Tryz.prog 106 #[.pointer (some ⟨G, 0, none⟩), .agg #[.int .i64 d, .int .i64 n, .bool u]] w' (PartedP w' c L K))
    (hF0 : wantMs up K.fc K.fr (wantPs c K.fx K.fy K.fc K.fr L) = F) (hQ0 : wantPs c K.rx K.ry K.rc K.rr L = LQ) (hD : Decks w base M R S) (hbase : base ≤ w.heap.size)
    (hT : ∀ k : Ix F.length, F[k.1]'k.2 = ptrD (tb k) ∧ M (tb k)) (hx : 0 ≤ K.x ∧ K.x ≤ 64 ∧ 0 ≤ K.y ∧ K.y ≤ 64)
    (hH : ∀ k : Ix F.length, hasB K.rc K.rr (K.x + (k.1 : Int).tmod K.fc) (K.y + (k.1 : Int).tdiv K.fc) = true ∧ LQ[at1 K.rc (K.x + (k.1 : Int).tmod K.fc) (K.y + (k.1 : Int).tdiv K.fc)]? = some (ptrD (hb k)) ∧ M (hb k))
    (hap : ∀ k j, tb k ≠ hb j) (hlen : ∀ D, M D → (S D).length ≤ 64) :
    Calls Tryz.prog 88 #[.pointer (some ⟨G, 0, none⟩), .agg #[.int .i64 d, .int .i64 n, .bool u]] w fun e w' => ∃ Q QA R', e = .returned (.pointer (some ⟨Q, 0, none⟩)) ∧ Gs w' Q QA K.rc K.rr LQ ∧ Decks w' base M R' (runS u up tb hb (ixs F.length F.length) S) ∧ w.heap.size ≤ Q ∧ w.heap.size ≤ QA ∧ Below base w w' := by
  have HP := Lib.hid KP; have HD := Lib.hid hD; have HT := Lib.hid hT; have HH := Lib.hid hH; have HA := Lib.hid hap; have HLn := Lib.hid hlen; have HF0 := Lib.hid hF0; have HQ0 := Lib.hid hQ0
  clear KP hD hT hH hap hlen hF0 hQ0
  have xF := ((Bx.new w 50 [.int .i64 d, .int .i64 n, .bool u]).alloc (.cells #[.bool up] 4)).alloc (.cells #[.func (.func 105) #[] #[.pointer (some ⟨w.heap.size + 1, 0, none⟩)]] 141)
  have xU := (Boxed.new (w.alloc (.cells #[.int .i64 d, .int .i64 n, .bool u] 50)) 4 (.bool up)).alloc (.cells #[.func (.func 105) #[] #[.pointer (some ⟨w.heap.size + 1, 0, none⟩)]] 141)
  have xT := Boxed.new ((w.alloc (.cells #[.int .i64 d, .int .i64 n, .bool u] 50)).alloc (.cells #[.bool up] 4)) 141 (.func (.func 105) #[] #[.pointer (some ⟨w.heap.size + 1, 0, none⟩)])
  have hb0 : Below w.heap.size w (((w.alloc (.cells #[.int .i64 d, .int .i64 n, .bool u] 50)).alloc (.cells #[.bool up] 4)).alloc (.cells #[.func (.func 105) #[] #[.pointer (some ⟨w.heap.size + 1, 0, none⟩)]] 141)) := up_alloc (up_alloc (up_alloc (Below.refl _ _) _) _) _
  have hs0 : (((w.alloc (.cells #[.int .i64 d, .int .i64 n, .bool u] 50)).alloc (.cells #[.bool up] 4)).alloc (.cells #[.func (.func 105) #[] #[.pointer (some ⟨w.heap.size + 1, 0, none⟩)]] 141)).heap.size = w.heap.size + 3 := by simp
  simp only [World.size_alloc] at xU xT
  refine (callsIn_wide (n := 3)).1 ?_
  refine callsIn_of_wp_marks Tryz.func88 rfl trivial ?_ rfl
  simp only [Tryz.ntmps88, List.size_toArray, List.length_cons, List.length_nil, Nat.reduceAdd, Nat.reduceSub, Array.replicate_succ, Array.replicate_zero, List.push_toArray, List.append_toArray, List.nil_append, List.cons_append]
  gi_wp2_with (first
    | (refine ⟨trivial, ?_⟩; gi_at_call 106; refine (callsIn_wide.2 (HP.out _ hb0)).mono ?_; rintro e w1 ⟨Fl, FA, Q, QA, rfl, hF, hQ, ⟨g1, g2, g3, g4⟩, hb1⟩; rw [hs0] at g1 g2 g3 g4; have yU : Boxed w1 (w.heap.size + 1) 4 (.bool up) := (hb1.block _ xU.lt).trans xU; have yT : Boxed w1 (w.heap.size + 1 + 1) 141 (.func (.func 105) #[] #[.pointer (some ⟨w.heap.size + 1, 0, none⟩)]) := (hb1.block _ xT.lt).trans xT; have yF := xF.up hb1; have hbw1 := up_trans hb0 hb1; have hs1 := hb1.size; rw [hs0] at hs1; have zU := ((yU.alloc (.cells #[.pointer (some ⟨Q, 0, none⟩)] 120)).alloc (.cells #[.int .i64 K.x, .int .i64 K.y] 23)).cell; have YU := Lib.hid yU; have YT := Lib.hid yT; have YF := Lib.hid yF; have HBW := Lib.hid hbw1; have HFl := Lib.hid hF; have HQ := Lib.hid hQ; clear hb1 yU yT yF hbw1 hF hQ xF xU xT hb0 hs0)
    | (refine ⟨trivial, ?_⟩; gi_at_call 107; refine (callsIn_wide.2 (shMirror_yes (HFl.out.up (up_alloc (up_alloc (Below.refl _ _) _) _)) up)).mono ?_; rintro e w3 ⟨P, PA, rfl, hP, gP1, gP2, hb3⟩)
    | (refine ⟨trivial, ?_⟩; gi_at_call 102; refine (callsIn_wide.2 (shAll_any _ _)).mono ?_; rintro e w4 ⟨rfl, rfl⟩))
  have hfl := HFl.out
  rw [mirror_eqS up K.fc K.fr _ hfl.len hfl.c1 hfl.c64 hfl.r64 hfl.r1, HF0.out] at hP
  have hQ1 := HQ.out
  rw [HQ0.out] at hQ1
  obtain ⟨W0, hW0⟩ : ∃ W0, w3.alloc (.cells #[.pointer (some ⟨P, 0, none⟩)] 120) = W0 := ⟨_, rfl⟩
  have up3 : Below w3.heap.size w3 W0 := by rw [← hW0]; exact up_alloc (Below.refl _ _) _
  have z8 := (Boxed.new w1 120 (.pointer (some ⟨Q, 0, none⟩))).alloc (.cells #[.int .i64 K.x, .int .i64 K.y] 23)
  have z9 : Boxed2 ((w1.alloc (.cells #[.pointer (some ⟨Q, 0, none⟩)] 120)).alloc (.cells #[.int .i64 K.x, .int .i64 K.y] 23)) (w1.heap.size + 1) 23 (.int .i64 K.x) (.int .i64 K.y) := by
    have := World.alloc_heap_new (w1.alloc (.cells #[.pointer (some ⟨Q, 0, none⟩)] 120)) (.cells #[.int .i64 K.x, .int .i64 K.y] 23)
    rwa [World.size_alloc] at this
  have hs2 : ((w1.alloc (.cells #[.pointer (some ⟨Q, 0, none⟩)] 120)).alloc (.cells #[.int .i64 K.x, .int .i64 K.y] 23)).heap.size = w1.heap.size + 2 := by simp
  have hs3 := hb3.size
  rw [hs2] at hs3 gP1 gP2
  have up2 : Below ((w1.alloc (.cells #[.pointer (some ⟨Q, 0, none⟩)] 120)).alloc (.cells #[.int .i64 K.x, .int .i64 K.y] 23)).heap.size ((w1.alloc (.cells #[.pointer (some ⟨Q, 0, none⟩)] 120)).alloc (.cells #[.int .i64 K.x, .int .i64 K.y] 23)) W0 := up_trans hb3 up3
  have up1 : Below w1.heap.size w1 W0 := up_trans (up_alloc (up_alloc (Below.refl _ _) _) _) up2
  have upw : Below w.heap.size w W0 := up_trans HBW.out up1
  have f8 : Boxed W0 w1.heap.size 120 (.pointer (some ⟨Q, 0, none⟩)) := (up2.block _ z8.lt).trans z8
  have f9 : Boxed2 W0 (w1.heap.size + 1) 23 (.int .i64 K.x) (.int .i64 K.y) := (up2.block _ (by rw [hs2]; omega)).trans z9
  have fU : Boxed W0 (w.heap.size + 1) 4 (.bool up) := (up1.block _ YU.out.lt).trans YU.out
  have fT : Boxed W0 (w.heap.size + 1 + 1) 141 (.func (.func 105) #[] #[.pointer (some ⟨w.heap.size + 1, 0, none⟩)]) := (up1.block _ YT.out.lt).trans YT.out
  have fF := YF.out.up up1
  have gQ := hQ1.up up1
  have gP := hP.up up3
  have yG : W0.cell? ⟨w3.heap.size, 0, none⟩ = some (.pointer (some ⟨P, 0, none⟩)) := by rw [← hW0]; simp [go_sem]
  have hsz : W0.heap.size = w3.heap.size + 1 := by rw [← hW0]; simp
  have hlow : ∀ D, M D → D < w.heap.size := fun D h => (HD.out.dk D h).ltD
  have hI0 : LoopI w W0 base w.heap.size W0.heap.size M (runS u up tb hb [] S) W0 := ⟨⟨R, HD.out.up upw, fun D h => .inl (HD.out.dk D h).ltR.2⟩, fun k _ _ => rfl, Nat.le_refl _, upw.mono hbase⟩
  have ltQ := gQ.ltG
  have ltQA := gQ.ltA
  rw [hW0]
  clear hW0 z8 z9 hs2 up3 up2 up1 hQ1 hP hfl HP HFl HQ YU YT YF HBW hb3 zU
  have H8 := Lib.hid f8; have H9 := Lib.hid f9; have HU := Lib.hid fU; have HTF := Lib.hid fT; have HF := Lib.hid fF; have HGQ := Lib.hid gQ; have HLow := Lib.hid hlow
  clear f8 f9 fU fT fF gQ hlow
  have hm64 := gP.le
  refine wpIn_rangeFunc_ownH rfl (by decide) (gf := 123) (lb := #[.pointer (some ⟨w3.heap.size, 0, none⟩)]) rfl trivial (enters_of Tryz.func123 (by kernel_rfl) rfl)
    (shAll_stopsI 2 NoS w3.heap.size P PA K.fc K.fr F W0 yG gP (fun W' hb b ho => ho.elim) (fun V V' _ h => noS_up V V' h)) KeepS.trans (fun W l o o' _ h1 h2 _ => noS_put W l o o' h1 h2) (Below.refl _ _) (fun _ => rfl)
    (fun pre W => LoopI w W0 base w.heap.size W0.heap.size M (runS u up tb hb pre S) W)
    (fun c pre W => False)
    (loopI_own (fun pre => runS u up tb hb pre S) hbase (Nat.le_trans hbase (by omega)))
    (fun c => ownFrom_pure _ (fun _ => False))
    hI0
    (fun k a' W => ∃ Bq, W0.heap.size ≤ Bq ∧ Boxed2 W Bq 23 (.int .i64 ((k.1 : Int).tmod K.fc)) (.int .i64 ((k.1 : Int).tdiv K.fc)) ∧
      a' = { tmps := #[.pointer (some ⟨G, 0, none⟩), .agg #[.int .i64 d, .int .i64 n, .bool u], undef, .pointer (some ⟨w.heap.size, 0, none⟩), .pointer none, .pointer (some ⟨w.heap.size + 1, 0, none⟩), .pointer (some ⟨w.heap.size + 1 + 1, 0, none⟩), .pointer (some ⟨Fl, 0, none⟩), .pointer (some ⟨w1.heap.size, 0, none⟩), .pointer (some ⟨w1.heap.size + 1, 0, none⟩), .pointer (some ⟨Bq, 0, none⟩), .pointer (some ⟨tb k, 0, none⟩), undef, undef, .pointer (some ⟨w.heap.size, 0, none⟩), .int .i64 d, .bool false, .bool false, .pointer (some ⟨w.heap.size, 0, none⟩), .int .i64 d, .bool up, .bool up, .func (.func 105) #[] #[.pointer (some ⟨w.heap.size + 1, 0, none⟩)], .tuple #[.pointer (some ⟨Fl, 0, none⟩), .pointer (some ⟨Q, 0, none⟩), .agg #[.int .i64 K.x, .int .i64 K.y]], .pointer (some ⟨G, 0, none⟩), .agg #[.int .i64 d, .int .i64 n, .bool u], .tuple #[.pointer (some ⟨Fl, 0, none⟩), .pointer (some ⟨Q, 0, none⟩), .agg #[.int .i64 K.x, .int .i64 K.y]], .pointer (some ⟨Fl, 0, none⟩), .pointer (some ⟨Q, 0, none⟩), .agg #[.int .i64 K.x, .int .i64 K.y], .pointer (some ⟨Fl, 0, none⟩), .bool up, .pointer (some ⟨P, 0, none⟩), .func (.func 123) #[] #[.pointer (some ⟨w3.heap.size, 0, none⟩)], .agg #[.int .i64 ((k.1 : Int).tmod K.fc), .int .i64 ((k.1 : Int).tdiv K.fc)], .pointer (some ⟨tb k, 0, none⟩), undef, undef, undef, undef, undef, undef, undef, undef, undef, undef, undef, undef, undef, undef, undef, undef, undef, undef, undef, undef, undef, undef, undef, undef, undef, undef, undef], defers := [] })
    (fun k a' _ X Y row hs hg hr => by obtain ⟨Bx, h1, h2, h4⟩ := hs; exact ⟨Bx, h1, boxed2_own Bx _ _ _ () X Y row h2 hg (fun r e => (hr r e).2), h4⟩)
    ?assign ?body ?done ?stop
  case assign =>
    rintro l0 pre k W Kk hI hK
    have hk := (HT.out k).1
    unfold encI encV
    simp only [hk, ptrD]
    generalize (k.1 : Int).tmod K.fc = px at *
    generalize (k.1 : Int).tdiv K.fc = py at *
    gi_wp2
    exact hK _ _ ((KeepsOthers.alloc _ _).from _) (noS_up _ _ (up_alloc (Below.refl _ _) _)) (hI.alloc hbase _) ⟨W.heap.size, hI.2.2.1, World.alloc_heap_new W _, rfl⟩
  case body =>
    rintro l0 pre k a' W hl _ hI ⟨Bq, hBq, kQ, rfl⟩ hlen
    obtain ⟨⟨R1, d1, r1⟩, hsame, hb1W, hbW⟩ := hI
    obtain ⟨_, hMt⟩ := HT.out k
    obtain ⟨hh1, hh2, hMh⟩ := HH.out k
    obtain ⟨hl1, hl2⟩ := runS_len (under := u) (up := up) HA.out (fun k => HLn.out _ (HT.out k).2) (fun k => HLn.out _ (HH.out k).2.2) pre.length pre rfl
    have hl1 := hl1 k; have hl2 := hl2 k
    have hne := HA.out k k
    generalize (k.1 : Int).tmod K.fc = px at *
    generalize (k.1 : Int).tdiv K.fc = py at *
    have hsn := runS_snoc u up tb hb pre k S
    obtain ⟨S1, hS1⟩ : ∃ S1, runS u up tb hb pre S = S1 := ⟨_, rfl⟩
    rw [hS1] at d1 hl1 hl2 hsn
    have HSn := Lib.hid hsn
    clear hsn hS1
    obtain ⟨t, ht⟩ : ∃ t, tb k = t := ⟨_, rfl⟩
    obtain ⟨h, hh⟩ : ∃ h, hb k = h := ⟨_, rfl⟩
    rw [ht] at hMt hl1 hne HSn ⊢
    rw [hh] at hMh hl2 hne hh2 HSn
    clear ht hh
    have kU : Boxed W (w.heap.size + 1) 4 (.bool up) := (hsame _ (by omega) (by omega)).trans HU.out
    have kT : Boxed W (w.heap.size + 1 + 1) 141 (.func (.func 105) #[] #[.pointer (some ⟨w.heap.size + 1, 0, none⟩)]) := (hsame _ (by omega) (by omega)).trans HTF.out
    have KT := Lib.hid (pcTurn_any (d1.dk _ hMt) (d1.ne _ hMt) (by omega) kU.cell)
    have cT := kT.cell
    have KD := d1.dk _ hMt
    obtain ⟨yR, hyR⟩ := KD.cellsR
    have hQR : Bq ≠ R1 t := by
      rintro rfl
      rw [show W.heap[R1 t]? = _ from kQ] at hyR
      injection hyR with hyR
      injection hyR with _ hyR
      exact absurd hyR (by decide)
    have hQt : Bq ≠ t := by have := HLow.out t hMt; omega
    have hlt1 : w.heap.size + 3 ≤ W0.heap.size := by omega
    have hr := HGQ.out.c64; have hr2 := HGQ.out.r64
    have hsx : 0 ≤ K.x + px ∧ K.x + px < 64 ∧ 0 ≤ K.y + py ∧ K.y + py < 64 := by simp [hasB] at hh1; omega
    have wx : IntKind.i64.wrap (K.x + px) = K.x + px := IntWalk.i64_in _ (by omega)
    have wy : IntKind.i64.wrap (K.y + py) = K.y + py := IntWalk.i64_in _ (by omega)
    have KT2 : Calls Tryz.prog 108 #[.pointer (some ⟨t, 0, none⟩), .func (.func 105) #[] #[.pointer (some ⟨w.heap.size + 1, 0, none⟩)]] W fun e WT => e = .returned (.tuple #[]) ∧ ∃ R2,
        (WT.cell? ⟨w1.heap.size, 0, none⟩ = some (.pointer (some ⟨Q, 0, none⟩)) ∧ WT.cell? ⟨w1.heap.size + 1, 0, none⟩ = some (.int .i64 K.x) ∧ WT.cell? ⟨w1.heap.size + 1, 1, none⟩ = some (.int .i64 K.y) ∧ WT.cell? ⟨Bq, 0, none⟩ = some (.int .i64 px) ∧ WT.cell? ⟨Bq, 1, none⟩ = some (.int .i64 py)) ∧
        Hid (Calls Tryz.prog 89 #[.pointer (some ⟨Q, 0, none⟩), .int .i64 (K.x + px), .int .i64 (K.y + py)] WT fun e WA => e = .returned (.tuple #[.pointer (some ⟨h, 0, none⟩), .bool true]) ∧ WA.cell? ⟨w.heap.size, 2, none⟩ = some (.bool u) ∧
          Hid (Calls Tryz.prog 109 #[.pointer (some ⟨h, 0, none⟩), .pointer (some ⟨t, 0, none⟩)] WA fun e w' => e = .returned (.tuple #[]) ∧ MadeP base WA h (R2 h) (S1 h ++ (S1 t).reverse.map (flipP up)) w') ∧
          Hid (Calls Tryz.prog 110 #[.pointer (some ⟨h, 0, none⟩), .pointer (some ⟨t, 0, none⟩)] WA fun e w' => e = .returned (.tuple #[]) ∧ MadeP base WA h (R2 h) ((S1 t).reverse.map (flipP up) ++ S1 h) w') ∧
          Hid (Decks WA base M R2 (putS S1 t ((S1 t).reverse.map (flipP up)))) ∧ Hid (Below WT.heap.size WT WA)) ∧ Hid (∀ D, M D → R2 D < w.heap.size ∨ W0.heap.size ≤ R2 D) ∧ Hid (∀ k, w.heap.size ≤ k → k < W0.heap.size → WT.heap[k]? = W0.heap[k]?) ∧ Hid (Below base w WT) ∧ Hid (KeepsOthers W WT) ∧ Hid (KeepS NoS W WT) ∧ Hid (W0.heap.size ≤ WT.heap.size) ∧ Hid (Bx WT w.heap.size [.int .i64 d, .int .i64 n, .bool u]) := by
      refine KT.out.mono ?_
      rintro e WT ⟨rfl, hmT⟩
      obtain ⟨R2, d2, r2, hs2, hbe2, ko2, ks2, hb2⟩ := loop_keep d1 hMt HLow.out r1 hb1W hmT (by simpa using d1.ne t hMt)
      have hs3 := fun k k0 k1 => (hs2 k k0 k1).trans (hsame k k0 k1)
      have k8 : Boxed WT w1.heap.size 120 (.pointer (some ⟨Q, 0, none⟩)) := (hs3 _ (by omega) (by omega)).trans H8.out
      have k9 : Boxed2 WT (w1.heap.size + 1) 23 (.int .i64 K.x) (.int .i64 K.y) := (hs3 _ (by omega) (by omega)).trans H9.out
      have kQ : Boxed2 WT Bq 23 (.int .i64 px) (.int .i64 py) := by
        obtain ⟨_, _, _, hb⟩ := hmT
        exact (hb.block Bq (Array.getElem?_eq_some_iff.1 kQ).1 hQt hQR).trans kQ
      have kF : Bx WT w.heap.size [.int .i64 d, .int .i64 n, .bool u] := HF.out.same (hs3 _ (by omega) (by omega))
      have gQ := HGQ.out.same (hs3 Q (by omega) (by omega)) (hs3 QA (by omega) (by omega))
      have KA : Calls Tryz.prog 89 #[.pointer (some ⟨Q, 0, none⟩), .int .i64 (K.x + px), .int .i64 (K.y + py)] WT fun e w' => e = .returned (.tuple #[.pointer (some ⟨h, 0, none⟩), .bool true]) ∧ Below WT.heap.size WT w' := shAt_yes gQ (K.x + px) (K.y + py) (ptrD h) hh1 hh2
      refine ⟨rfl, R2, ⟨k8.cell, k9.c0, k9.c1, kQ.c0, kQ.c1⟩, Lib.hid (KA.mono ?_), Lib.hid r2, Lib.hid hs3, Lib.hid (hbW.trans hbe2), Lib.hid ko2, Lib.hid ks2, Lib.hid hb2, Lib.hid kF⟩
      rintro e WA ⟨rfl, hbA⟩
      have dA := d2.up hbA
      have kh := dA.dk h hMh
      have kt := dA.dk t hMt
      rw [putS_ne hne.symm] at kh
      rw [putS_at] at kt
      have n1 : 0 < (S1 h).length := d1.ne h hMh
      have n2 : 0 < ((S1 t).reverse.map (flipP up)).length := by simpa using d1.ne t hMt
      have n3 : ((S1 t).reverse.map (flipP up)).length ≤ 1000000 := by simp; omega
      exact ⟨rfl, (kF.up hbA).cell 2 rfl, Lib.hid (pcUnder_any kh kt n1 n2 (by omega) n3), Lib.hid (pcOver_any kh kt n1 n2 (by omega) n3), Lib.hid dA, Lib.hid hbA⟩
    have HT2 := Lib.hid KT2; have HNE := Lib.hid hne; have HN1 := Lib.hid (d1.ne h hMh)
    clear KT2 KT KD hyR hQR hQt d1 r1 hsame hbW kQ kU kT hne hl1 hl2 hh1 hh2 hr hr2 hsx
    dsimp only
    gi_wp2_with (first
      | (refine ⟨trivial, ?_⟩; gi_at_call 108; refine (CallsIn.inRound l0 (callsIn_wide.2 HT2.out)).mono ?_; rintro e WT ⟨rfl, R2, ⟨c8, c90, c91, q0, q1⟩, HA2, HR2, HS2, HBE2, HKO2, HKS2, HB2, HKF⟩)
      | (refine ⟨trivial, ?_⟩; gi_at_call 89; refine (CallsIn.inRound l0 (callsIn_wide.2 HA2.out)).mono ?_; rintro e WA ⟨rfl, cu, HUn, HOv, HDA, HBA⟩; clear c8 c90 c91 q0 q1)
      | (refine ⟨trivial, ?_⟩; gi_at_call 109; refine (CallsIn.inRound l0 (callsIn_wide.2 HUn.out)).mono ?_; rintro e WU ⟨rfl, hmU⟩; have HMU := Lib.hid hmU; clear hmU)
      | (refine ⟨trivial, ?_⟩; gi_at_call 110; refine (CallsIn.inRound l0 (callsIn_wide.2 HOv.out)).mono ?_; rintro e WU ⟨rfl, hmU⟩; have HMU := Lib.hid hmU; clear hmU))
    · have hu : u = true := by assumption
      rw [hu] at HSn
      have hbA := HBA.out
      obtain ⟨R3, d3, r3, hs3', hbe3, ko3, ks3, hb3'⟩ := loop_keep HDA.out hMh HLow.out HR2.out (Nat.le_trans HB2.out hbA.size) HMU.out (by rw [List.length_append]; have := HN1.out; omega)
      refine ⟨((HKO2.out.trans (others_below hbA)).trans ko3).from _, (HKS2.out.trans (noS_up _ _ hbA)).trans ks3, ?_⟩
      show LoopI w W0 base w.heap.size W0.heap.size M (runS u up tb hb (pre ++ [k]) S) WU
      rw [hu, HSn.out]
      refine ⟨⟨R3, ?_, r3⟩, fun j j0 j1 => (hs3' j j0 j1).trans ((hbA.block j (Nat.lt_of_lt_of_le j1 HB2.out)).trans (HS2.out j j0 j1)), hb3', (HBE2.out.trans (hbA.mono (Nat.le_trans hbase HBE2.out.size))).trans hbe3⟩
      exact d3
    · have hu : u = false := by assumption
      rw [hu] at HSn
      have hbA := HBA.out
      obtain ⟨R3, d3, r3, hs3', hbe3, ko3, ks3, hb3'⟩ := loop_keep HDA.out hMh HLow.out HR2.out (Nat.le_trans HB2.out hbA.size) HMU.out (by rw [List.length_append]; have := HN1.out; omega)
      refine ⟨((HKO2.out.trans (others_below hbA)).trans ko3).from _, (HKS2.out.trans (noS_up _ _ hbA)).trans ks3, ?_⟩
      show LoopI w W0 base w.heap.size W0.heap.size M (runS u up tb hb (pre ++ [k]) S) WU
      rw [hu, HSn.out]
      refine ⟨⟨R3, ?_, r3⟩, fun j j0 j1 => (hs3' j j0 j1).trans ((hbA.block j (Nat.lt_of_lt_of_le j1 HB2.out)).trans (HS2.out j j0 j1)), hb3', (HBE2.out.trans (hbA.mono (Nat.le_trans hbase HBE2.out.size))).trans hbe3⟩
      exact d3
  case done =>
    rintro D ys W hD rfl hI hK
    obtain ⟨⟨R1, d1, r1⟩, hsame, hb1W, hbW⟩ := hI
    have k8 : Boxed W w1.heap.size 120 (.pointer (some ⟨Q, 0, none⟩)) := (hsame _ (by omega) (by omega)).trans H8.out
    have gQ := HGQ.out.same (hsame Q (by omega) (by omega)) (hsame QA (by omega) (by omega))
    have c8 := k8.cell
    gi_wp2
    refine ⟨by simp, .inl ⟨_, _, rfl, run_takeDeferred hK, ?_⟩⟩
    have hg := grownBy_putObj' W D (.deferred none)
    have hr' : ∀ r, some D = some r → ∃ o : Obj, W.heap[r]? = some o ∧ o.isCells = false := fun r e => by cases e; exact ⟨_, hK, rfl⟩
    exact ⟨_, results_tmp rfl _ _ _, Q, QA, R1, rfl, gQ.put hK rfl, d1.kept hg hr', by omega, by omega, hbW.trans (belowK_b (w := W0) (Nat.le_trans hbase (by omega)) W D _ _ hD hK rfl rfl)⟩
  case stop =>
    rintro D c pre W hD hpre h hK
    exact h.elim

end Go.Proofs.YtbfigaadbfggcaaGreatDoor
