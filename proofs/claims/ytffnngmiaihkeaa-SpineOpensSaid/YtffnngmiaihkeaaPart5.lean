/- Part 5 of the texts that the proofs of this seat share: UnfoldAfter, SchemeSc, StepAll. -/
import Derived.Test.YtffnngmiaihkeaaPart3
import Derived.Test.YtffnngmiaihkeaaPart4
/- What unfold.after makes of a sheet: the flap's piles, turned over, lie upon (beneath) those of the rest. -/
namespace Go.Proofs.Ytffnngmiaihkeaa
open Go.RowKit Go.Shelf
set_option linter.unusedVariables false
attribute [local go_sem] Oper.semAt_some
theorem run_store_func {P : Program} {w : World} {a : Addr} {m : Mode} (f : Fn) (x y : Array Value) : (store a (.func f x y) m).run P w = stored P w a (.func f x y) m := run_store P w a _ m rfl
attribute [local go_sem] run_store_func

/-- The pile t is turned over, and comes upon (under: beneath) the pile h. -/
def stepS (under up : Bool) (t h : Nat) (S : Nat → List Pc) : Nat → List Pc :=
  putS (putS S t ((S t).reverse.map (flipP up))) h (if under = true then S h ++ (S t).reverse.map (flipP up) else (S t).reverse.map (flipP up) ++ S h)
/-- One pile behind the other. -/
def runS {m : Nat} (under up : Bool) (tb hb : Ix m → Nat) (pre : List (Ix m)) (S : Nat → List Pc) : Nat → List Pc := pre.foldl (fun S k => stepS under up (tb k) (hb k) S) S
theorem runS_snoc {m : Nat} (under up : Bool) (tb hb : Ix m → Nat) (pre : List (Ix m)) (k : Ix m) (S : Nat → List Pc) : runS under up tb hb (pre ++ [k]) S = stepS under up (tb k) (hb k) (runS under up tb hb pre S) := by simp [runS]

theorem stepS_len {under up : Bool} {t h : Nat} {S : Nat → List Pc} (hne : t ≠ h) : (stepS under up t h S t).length = (S t).length ∧ (stepS under up t h S h).length = (S h).length + (S t).length := by
  unfold stepS
  rw [putS_ne hne, putS_at, putS_at]
  refine ⟨by simp, ?_⟩
  cases under <;> simp <;> omega
theorem stepS_far {under up : Bool} {t h D : Nat} {S : Nat → List Pc} (h1 : D ≠ t) (h2 : D ≠ h) : stepS under up t h S D = S D := by unfold stepS; rw [putS_ne h2, putS_ne h1]
/-- The flap's piles stay as great as they are; the rest's grow by one a round. -/
theorem runS_len {m : Nat} {under up : Bool} {tb hb : Ix m → Nat} {S : Nat → List Pc} {B : Nat} (hap : ∀ k j, tb k ≠ hb j) (ht : ∀ k, (S (tb k)).length ≤ B) (hh : ∀ k, (S (hb k)).length ≤ B) (n : Nat) : ∀ pre : List (Ix m), pre.length = n → (∀ k, (runS under up tb hb pre S (tb k)).length ≤ B) ∧ ∀ k, (runS under up tb hb pre S (hb k)).length ≤ B * (n + 1) := by
  induction n with
  | zero =>
    intro pre h
    obtain rfl : pre = [] := List.eq_nil_of_length_eq_zero h
    exact ⟨ht, fun k => by have := hh k; simpa [runS] using this⟩
  | succ n ih =>
    intro pre h
    obtain ⟨pre, x, rfl⟩ : ∃ p x, pre = p ++ [x] := ⟨pre.dropLast, pre.getLast (by rintro rfl; simp at h), (List.dropLast_concat_getLast _).symm⟩
    obtain ⟨h1, h2⟩ := ih pre (by simpa using h)
    rw [runS_snoc]
    generalize runS under up tb hb pre S = S' at *
    obtain ⟨l1, l2⟩ := stepS_len (under := under) (up := up) (S := S') (hap x x)
    have hB : B * (n + 1) + B = B * (n + 1 + 1) := by rw [Nat.mul_add B (n + 1) 1, Nat.mul_one]
    refine ⟨fun k => ?_, fun k => ?_⟩
    · by_cases e : tb k = tb x
      · rw [e, l1]; exact h1 x
      · rw [stepS_far e (hap k x)]; exact h1 k
    · by_cases e : hb k = hb x
      · rw [e, l2]; have := h1 x; have := h2 x; omega
      · rw [stepS_far (fun e' => hap x k e'.symm) e]; have := h2 k; omega

/-- A call in a round that changes one deck: what it leaves as it was. -/
theorem loop_keep {W W1 : World} {base b0 b1 D : Nat} {M : Nat → Prop} {R : Nat → Nat} {S : Nat → List Pc} {l : List Pc} (hD : Decks W base M R S) (ht : M D) (hlow : ∀ D, M D → D < b0) (hR : ∀ D, M D → R D < b0 ∨ b1 ≤ R D) (hb1 : b1 ≤ W.heap.size) (hm : MadeP base W D (R D) l W1) (hl : 0 < l.length) :
    ∃ R1, Decks W1 base M R1 (putS S D l) ∧ (∀ D, M D → R1 D < b0 ∨ b1 ≤ R1 D) ∧ (∀ k, b0 ≤ k → k < b1 → W1.heap[k]? = W.heap[k]?) ∧ Below base W W1 ∧ KeepsOthers W W1 ∧ KeepS NoS W W1 ∧ b1 ≤ W1.heap.size := by
  have k := hD.dk D ht
  obtain ⟨R1, d1, r1, b⟩ := hD.made ht hm hl
  have hbase : base ≤ W.heap.size := Nat.le_of_lt (Nat.lt_of_le_of_lt k.low k.ltD)
  obtain ⟨x, hx⟩ := k.cellsD
  obtain ⟨y, hy⟩ := k.cellsR
  refine ⟨R1, d1, fun E hM => ?_, fun j j0 j1 => b.block j (by omega) (by have := hlow D ht; omega) (by have := hR D ht; omega), b.below hbase k.low k.ltR.1, b.others ⟨_, _, hx⟩ ⟨_, _, hy⟩, b.keepS k, Nat.le_trans hb1 b.size⟩
  rcases r1 E hM with e | e
  · rw [e]; exact hR E hM
  · exact .inr (Nat.le_trans hb1 e)

/-- What stands between two rounds. -/
def LoopI (w W0 : World) (base b0 b1 : Nat) (M : Nat → Prop) (S : Nat → List Pc) (W : World) : Prop :=
  (∃ R, Decks W base M R S ∧ ∀ D, M D → R D < b0 ∨ b1 ≤ R D) ∧ (∀ k, b0 ≤ k → k < b1 → W.heap[k]? = W0.heap[k]?) ∧ b1 ≤ W.heap.size ∧ Below base w W
theorem loopI_own {β : Type} {w W0 : World} {base b0 b1 : Nat} {M : Nat → Prop} (f : β → Nat → List Pc) (hbw : base ≤ w.heap.size) (hb : base ≤ b1) : OwnFrom b1 (fun s W => LoopI w W0 base b0 b1 M (f s) W) := by
  rintro s X Y row ⟨⟨R, h1, h2⟩, h3, h4, h5⟩ hg hr
  refine ⟨⟨R, h1.kept hg (fun r e => (hr r e).2), h2⟩, fun k k0 k1 => (hg.block k (by omega) (fun e => ?_)).trans (h3 k k0 k1), Nat.le_trans h4 hg.size, h5.grown hg (Nat.le_trans hbw h5.size) (fun r e => Nat.le_trans hb (hr r e).1)⟩
  have := (hr k e.symm).1
  omega
theorem LoopI.alloc {w W0 : World} {base b0 b1 : Nat} {M : Nat → Prop} {S : Nat → List Pc} {W : World} (h : LoopI w W0 base b0 b1 M S W) (hbw : base ≤ w.heap.size) (o : Obj) : LoopI w W0 base b0 b1 M S (W.alloc o) := by
  obtain ⟨⟨R, h1, h2⟩, h3, h4, h5⟩ := h
  exact ⟨⟨R, h1.up (up_alloc (Below.refl _ _) _), h2⟩, fun k k0 k1 => (Below.heap_alloc _ _ _ (by omega)).trans (h3 k k0 k1), by simp; omega, h5.alloc (Nat.le_trans hbw h5.size) _⟩

set_option maxRecDepth 100000 in
set_option maxHeartbeats 4000000 in
theorem after_one {w : World} {base G : Nat} {c : Int} {L : List Ptr} (n : Int) (u : Bool) (K : Cut) (F LQ : List Ptr) (tb hb : Ix F.length → Nat) {M : Nat → Prop} {R : Nat → Nat} {S : Nat → List Pc}
    (KP : ∀ w', Below w.heap.size w w' → Calls Try.prog 43 #[.pointer (some ⟨G, 0, none⟩), .agg #[.int .i64 1, .int .i64 n, .bool u]] w' (PartedP w' c L K))
    (hF0 : wantMs true K.fc K.fr (wantPs c K.fx K.fy K.fc K.fr L) = F) (hQ0 : wantPs c K.rx K.ry K.rc K.rr L = LQ) (hD : Decks w base M R S) (hbase : base ≤ w.heap.size)
    (hT : ∀ k : Ix F.length, F[k.1]'k.2 = ptrD (tb k) ∧ M (tb k)) (hx : 0 ≤ K.x ∧ K.x ≤ 64 ∧ 0 ≤ K.y ∧ K.y ≤ 64)
    (hH : ∀ k : Ix F.length, hasB K.rc K.rr (K.x + (k.1 : Int).tmod K.fc) (K.y + (k.1 : Int).tdiv K.fc) = true ∧ LQ[at1 K.rc (K.x + (k.1 : Int).tmod K.fc) (K.y + (k.1 : Int).tdiv K.fc)]? = some (ptrD (hb k)) ∧ M (hb k))
    (hap : ∀ k j, tb k ≠ hb j) (hlen : ∀ D, M D → (S D).length ≤ 64) :
    Calls Try.prog 32 #[.pointer (some ⟨G, 0, none⟩), .agg #[.int .i64 1, .int .i64 n, .bool u]] w fun e w' => ∃ Q QA R', e = .returned (.pointer (some ⟨Q, 0, none⟩)) ∧ Gs w' Q QA K.rc K.rr LQ ∧ Decks w' base M R' (runS u true tb hb (ixs F.length F.length) S) ∧ w.heap.size ≤ Q ∧ w.heap.size ≤ QA ∧ Below base w w' := by
  have HP := Lib.hid KP; have HD := Lib.hid hD; have HT := Lib.hid hT; have HH := Lib.hid hH; have HA := Lib.hid hap; have HLn := Lib.hid hlen; have HF0 := Lib.hid hF0; have HQ0 := Lib.hid hQ0
  clear KP hD hT hH hap hlen hF0 hQ0
  have xF := ((Bx.new w 35 [.int .i64 1, .int .i64 n, .bool u]).alloc (.cells #[.bool true] 4)).alloc (.cells #[.func (.func 42) #[] #[.pointer (some ⟨w.heap.size + 1, 0, none⟩)]] 81)
  have xU := (Boxed.new (w.alloc (.cells #[.int .i64 1, .int .i64 n, .bool u] 35)) 4 (.bool true)).alloc (.cells #[.func (.func 42) #[] #[.pointer (some ⟨w.heap.size + 1, 0, none⟩)]] 81)
  have xT := Boxed.new ((w.alloc (.cells #[.int .i64 1, .int .i64 n, .bool u] 35)).alloc (.cells #[.bool true] 4)) 81 (.func (.func 42) #[] #[.pointer (some ⟨w.heap.size + 1, 0, none⟩)])
  have hb0 : Below w.heap.size w (((w.alloc (.cells #[.int .i64 1, .int .i64 n, .bool u] 35)).alloc (.cells #[.bool true] 4)).alloc (.cells #[.func (.func 42) #[] #[.pointer (some ⟨w.heap.size + 1, 0, none⟩)]] 81)) := up_alloc (up_alloc (up_alloc (Below.refl _ _) _) _) _
  have hs0 : (((w.alloc (.cells #[.int .i64 1, .int .i64 n, .bool u] 35)).alloc (.cells #[.bool true] 4)).alloc (.cells #[.func (.func 42) #[] #[.pointer (some ⟨w.heap.size + 1, 0, none⟩)]] 81)).heap.size = w.heap.size + 3 := by simp
  simp only [World.size_alloc] at xU xT
  refine (callsIn_wide (n := 3)).1 ?_
  refine callsIn_of_wp_marks Try.func32 rfl trivial ?_ rfl
  simp only [Try.ntmps32, List.size_toArray, List.length_cons, List.length_nil, Nat.reduceAdd, Nat.reduceSub, Array.replicate_succ, Array.replicate_zero, List.push_toArray, List.append_toArray, List.nil_append, List.cons_append]
  gi_wp2_with (first
    | (refine ⟨trivial, ?_⟩; gi_at_call 43; refine (callsIn_wide.2 (HP.out _ hb0)).mono ?_; rintro e w1 ⟨Fl, FA, Q, QA, rfl, hF, hQ, ⟨g1, g2, g3, g4⟩, hb1⟩; rw [hs0] at g1 g2 g3 g4; have yU : Boxed w1 (w.heap.size + 1) 4 (.bool true) := (hb1.block _ xU.lt).trans xU; have yT : Boxed w1 (w.heap.size + 1 + 1) 81 (.func (.func 42) #[] #[.pointer (some ⟨w.heap.size + 1, 0, none⟩)]) := (hb1.block _ xT.lt).trans xT; have yF := xF.up hb1; have hbw1 := up_trans hb0 hb1; have hs1 := hb1.size; rw [hs0] at hs1; have zU := ((yU.alloc (.cells #[.pointer (some ⟨Q, 0, none⟩)] 64)).alloc (.cells #[.int .i64 K.x, .int .i64 K.y] 78)).cell; have YU := Lib.hid yU; have YT := Lib.hid yT; have YF := Lib.hid yF; have HBW := Lib.hid hbw1; have HFl := Lib.hid hF; have HQ := Lib.hid hQ; clear hb1 yU yT yF hbw1 hF hQ xF xU xT hb0 hs0)
    | (refine ⟨trivial, ?_⟩; gi_at_call 44; refine (callsIn_wide.2 (shMirror_yes (HFl.out.up (up_alloc (up_alloc (Below.refl _ _) _) _)) true)).mono ?_; rintro e w3 ⟨P, PA, rfl, hP, gP1, gP2, hb3⟩)
    | (refine ⟨trivial, ?_⟩; gi_at_call 39; refine (callsIn_wide.2 (shAll_any _ _)).mono ?_; rintro e w4 ⟨rfl, rfl⟩))
  have hfl := HFl.out
  rw [mirror_eqS true K.fc K.fr _ hfl.len hfl.c1 hfl.c64 hfl.r64 hfl.r1, HF0.out] at hP
  have hQ1 := HQ.out
  rw [HQ0.out] at hQ1
  obtain ⟨W0, hW0⟩ : ∃ W0, w3.alloc (.cells #[.pointer (some ⟨P, 0, none⟩)] 64) = W0 := ⟨_, rfl⟩
  have up3 : Below w3.heap.size w3 W0 := by rw [← hW0]; exact up_alloc (Below.refl _ _) _
  have z8 := (Boxed.new w1 64 (.pointer (some ⟨Q, 0, none⟩))).alloc (.cells #[.int .i64 K.x, .int .i64 K.y] 78)
  have z9 : Boxed2 ((w1.alloc (.cells #[.pointer (some ⟨Q, 0, none⟩)] 64)).alloc (.cells #[.int .i64 K.x, .int .i64 K.y] 78)) (w1.heap.size + 1) 78 (.int .i64 K.x) (.int .i64 K.y) := by
    have := World.alloc_heap_new (w1.alloc (.cells #[.pointer (some ⟨Q, 0, none⟩)] 64)) (.cells #[.int .i64 K.x, .int .i64 K.y] 78)
    rwa [World.size_alloc] at this
  have hs2 : ((w1.alloc (.cells #[.pointer (some ⟨Q, 0, none⟩)] 64)).alloc (.cells #[.int .i64 K.x, .int .i64 K.y] 78)).heap.size = w1.heap.size + 2 := by simp
  have hs3 := hb3.size
  rw [hs2] at hs3 gP1 gP2
  have up2 : Below ((w1.alloc (.cells #[.pointer (some ⟨Q, 0, none⟩)] 64)).alloc (.cells #[.int .i64 K.x, .int .i64 K.y] 78)).heap.size ((w1.alloc (.cells #[.pointer (some ⟨Q, 0, none⟩)] 64)).alloc (.cells #[.int .i64 K.x, .int .i64 K.y] 78)) W0 := up_trans hb3 up3
  have up1 : Below w1.heap.size w1 W0 := up_trans (up_alloc (up_alloc (Below.refl _ _) _) _) up2
  have upw : Below w.heap.size w W0 := up_trans HBW.out up1
  have f8 : Boxed W0 w1.heap.size 64 (.pointer (some ⟨Q, 0, none⟩)) := (up2.block _ z8.lt).trans z8
  have f9 : Boxed2 W0 (w1.heap.size + 1) 78 (.int .i64 K.x) (.int .i64 K.y) := (up2.block _ (by rw [hs2]; omega)).trans z9
  have fU : Boxed W0 (w.heap.size + 1) 4 (.bool true) := (up1.block _ YU.out.lt).trans YU.out
  have fT : Boxed W0 (w.heap.size + 1 + 1) 81 (.func (.func 42) #[] #[.pointer (some ⟨w.heap.size + 1, 0, none⟩)]) := (up1.block _ YT.out.lt).trans YT.out
  have fF := YF.out.up up1
  have gQ := hQ1.up up1
  have gP := hP.up up3
  have yG : W0.cell? ⟨w3.heap.size, 0, none⟩ = some (.pointer (some ⟨P, 0, none⟩)) := by rw [← hW0]; simp [go_sem]
  have hsz : W0.heap.size = w3.heap.size + 1 := by rw [← hW0]; simp
  have hlow : ∀ D, M D → D < w.heap.size := fun D h => (HD.out.dk D h).ltD
  have hI0 : LoopI w W0 base w.heap.size W0.heap.size M (runS u true tb hb [] S) W0 := ⟨⟨R, HD.out.up upw, fun D h => .inl (HD.out.dk D h).ltR.2⟩, fun k _ _ => rfl, Nat.le_refl _, upw.mono hbase⟩
  have ltQ := gQ.ltG
  have ltQA := gQ.ltA
  rw [hW0]
  clear hW0 z8 z9 hs2 up3 up2 up1 hQ1 hP hfl HP HFl HQ YU YT YF HBW hb3 zU
  have H8 := Lib.hid f8; have H9 := Lib.hid f9; have HU := Lib.hid fU; have HTF := Lib.hid fT; have HF := Lib.hid fF; have HGQ := Lib.hid gQ; have HLow := Lib.hid hlow
  clear f8 f9 fU fT fF gQ hlow
  have hm64 := gP.le
  refine wpIn_rangeFunc_ownH rfl (by decide) (gf := 54) (lb := #[.pointer (some ⟨w3.heap.size, 0, none⟩)]) rfl trivial (enters_of Try.func54 (by kernel_rfl) rfl)
    (shAll_stopsI 2 NoS w3.heap.size P PA K.fc K.fr F W0 yG gP (fun W' hb b ho => ho.elim) (fun V V' _ h => noS_up V V' h)) KeepS.trans (fun W l o o' _ h1 h2 _ => noS_put W l o o' h1 h2) (Below.refl _ _) (fun _ => rfl)
    (fun pre W => LoopI w W0 base w.heap.size W0.heap.size M (runS u true tb hb pre S) W)
    (fun c pre W => False)
    (loopI_own (fun pre => runS u true tb hb pre S) hbase (Nat.le_trans hbase (by omega)))
    (fun c => ownFrom_pure _ (fun _ => False))
    hI0
    (fun k a' W => ∃ Bq, W0.heap.size ≤ Bq ∧ Boxed2 W Bq 78 (.int .i64 ((k.1 : Int).tmod K.fc)) (.int .i64 ((k.1 : Int).tdiv K.fc)) ∧
      a' = { tmps := #[.pointer (some ⟨G, 0, none⟩), .agg #[.int .i64 1, .int .i64 n, .bool u], undef, .pointer (some ⟨w.heap.size, 0, none⟩), .pointer none, .pointer (some ⟨w.heap.size + 1, 0, none⟩), .pointer (some ⟨w.heap.size + 1 + 1, 0, none⟩), .pointer (some ⟨Fl, 0, none⟩), .pointer (some ⟨w1.heap.size, 0, none⟩), .pointer (some ⟨w1.heap.size + 1, 0, none⟩), .pointer (some ⟨Bq, 0, none⟩), .pointer (some ⟨tb k, 0, none⟩), undef, undef, .pointer (some ⟨w.heap.size, 0, none⟩), .int .i64 1, .bool true, .bool true, undef, undef, undef, .bool true, .func (.func 42) #[] #[.pointer (some ⟨w.heap.size + 1, 0, none⟩)], .tuple #[.pointer (some ⟨Fl, 0, none⟩), .pointer (some ⟨Q, 0, none⟩), .agg #[.int .i64 K.x, .int .i64 K.y]], .pointer (some ⟨G, 0, none⟩), .agg #[.int .i64 1, .int .i64 n, .bool u], .tuple #[.pointer (some ⟨Fl, 0, none⟩), .pointer (some ⟨Q, 0, none⟩), .agg #[.int .i64 K.x, .int .i64 K.y]], .pointer (some ⟨Fl, 0, none⟩), .pointer (some ⟨Q, 0, none⟩), .agg #[.int .i64 K.x, .int .i64 K.y], .pointer (some ⟨Fl, 0, none⟩), .bool true, .pointer (some ⟨P, 0, none⟩), .func (.func 54) #[] #[.pointer (some ⟨w3.heap.size, 0, none⟩)], .agg #[.int .i64 ((k.1 : Int).tmod K.fc), .int .i64 ((k.1 : Int).tdiv K.fc)], .pointer (some ⟨tb k, 0, none⟩), undef, undef, undef, undef, undef, undef, undef, undef, undef, undef, undef, undef, undef, undef, undef, undef, undef, undef, undef, undef, undef, undef, undef, undef, undef, undef, undef], defers := [] })
    (fun k a' _ X Y row hs hg hr => by obtain ⟨Bx, h1, h2, h4⟩ := hs; exact ⟨Bx, h1, boxed2_own Bx _ _ _ () X Y row h2 hg (fun r e => (hr r e).2), h4⟩)
    ?assign ?body ?done ?stop
  case assign =>
    rintro l0 pre k W Kk hI hK
    have hk := (HT.out k).1
    unfold encI encV
    simp only [hk, ptrD]
    generalize (k.1 : Int).tmod K.fc = px at *
    generalize (k.1 : Int).tdiv K.fc = py at *
    gi_wp2
    exact hK _ _ ((KeepsOthers.alloc _ _).from _) (noS_up _ _ (up_alloc (Below.refl _ _) _)) (hI.alloc hbase _) ⟨W.heap.size, hI.2.2.1, World.alloc_heap_new W _, rfl⟩
  case body =>
    rintro l0 pre k a' W hl _ hI ⟨Bq, hBq, kQ, rfl⟩ hlen
    obtain ⟨⟨R1, d1, r1⟩, hsame, hb1W, hbW⟩ := hI
    obtain ⟨_, hMt⟩ := HT.out k
    obtain ⟨hh1, hh2, hMh⟩ := HH.out k
    obtain ⟨hl1, hl2⟩ := runS_len (under := u) (up := true) HA.out (fun k => HLn.out _ (HT.out k).2) (fun k => HLn.out _ (HH.out k).2.2) pre.length pre rfl
    have hl1 := hl1 k; have hl2 := hl2 k
    have hne := HA.out k k
    generalize (k.1 : Int).tmod K.fc = px at *
    generalize (k.1 : Int).tdiv K.fc = py at *
    have hsn := runS_snoc u true tb hb pre k S
    obtain ⟨S1, hS1⟩ : ∃ S1, runS u true tb hb pre S = S1 := ⟨_, rfl⟩
    rw [hS1] at d1 hl1 hl2 hsn
    have HSn := Lib.hid hsn
    clear hsn hS1
    obtain ⟨t, ht⟩ : ∃ t, tb k = t := ⟨_, rfl⟩
    obtain ⟨h, hh⟩ : ∃ h, hb k = h := ⟨_, rfl⟩
    rw [ht] at hMt hl1 hne HSn ⊢
    rw [hh] at hMh hl2 hne hh2 HSn
    clear ht hh
    have kU : Boxed W (w.heap.size + 1) 4 (.bool true) := (hsame _ (by omega) (by omega)).trans HU.out
    have kT : Boxed W (w.heap.size + 1 + 1) 81 (.func (.func 42) #[] #[.pointer (some ⟨w.heap.size + 1, 0, none⟩)]) := (hsame _ (by omega) (by omega)).trans HTF.out
    have KT := Lib.hid (pcTurn_any (d1.dk _ hMt) (d1.ne _ hMt) (by omega) kU.cell)
    have cT := kT.cell
    have KD := d1.dk _ hMt
    obtain ⟨yR, hyR⟩ := KD.cellsR
    have hQR : Bq ≠ R1 t := by
      rintro rfl
      rw [show W.heap[R1 t]? = _ from kQ] at hyR
      injection hyR with hyR
      injection hyR with _ hyR
      exact absurd hyR (by decide)
    have hQt : Bq ≠ t := by have := HLow.out t hMt; omega
    have hlt1 : w.heap.size + 3 ≤ W0.heap.size := by omega
    have hr := HGQ.out.c64; have hr2 := HGQ.out.r64
    have hsx : 0 ≤ K.x + px ∧ K.x + px < 64 ∧ 0 ≤ K.y + py ∧ K.y + py < 64 := by simp [hasB] at hh1; omega
    have wx : IntKind.i64.wrap (K.x + px) = K.x + px := IntWalk.i64_in _ (by omega)
    have wy : IntKind.i64.wrap (K.y + py) = K.y + py := IntWalk.i64_in _ (by omega)
    have KT2 : Calls Try.prog 45 #[.pointer (some ⟨t, 0, none⟩), .func (.func 42) #[] #[.pointer (some ⟨w.heap.size + 1, 0, none⟩)]] W fun e WT => e = .returned (.tuple #[]) ∧ ∃ R2,
        (WT.cell? ⟨w1.heap.size, 0, none⟩ = some (.pointer (some ⟨Q, 0, none⟩)) ∧ WT.cell? ⟨w1.heap.size + 1, 0, none⟩ = some (.int .i64 K.x) ∧ WT.cell? ⟨w1.heap.size + 1, 1, none⟩ = some (.int .i64 K.y) ∧ WT.cell? ⟨Bq, 0, none⟩ = some (.int .i64 px) ∧ WT.cell? ⟨Bq, 1, none⟩ = some (.int .i64 py)) ∧
        Hid (Calls Try.prog 33 #[.pointer (some ⟨Q, 0, none⟩), .int .i64 (K.x + px), .int .i64 (K.y + py)] WT fun e WA => e = .returned (.tuple #[.pointer (some ⟨h, 0, none⟩), .bool true]) ∧ WA.cell? ⟨w.heap.size, 2, none⟩ = some (.bool u) ∧
          Hid (Calls Try.prog 46 #[.pointer (some ⟨h, 0, none⟩), .pointer (some ⟨t, 0, none⟩)] WA fun e w' => e = .returned (.tuple #[]) ∧ MadeP base WA h (R2 h) (S1 h ++ (S1 t).reverse.map (flipP true)) w') ∧
          Hid (Calls Try.prog 47 #[.pointer (some ⟨h, 0, none⟩), .pointer (some ⟨t, 0, none⟩)] WA fun e w' => e = .returned (.tuple #[]) ∧ MadeP base WA h (R2 h) ((S1 t).reverse.map (flipP true) ++ S1 h) w') ∧
          Hid (Decks WA base M R2 (putS S1 t ((S1 t).reverse.map (flipP true)))) ∧ Hid (Below WT.heap.size WT WA)) ∧ Hid (∀ D, M D → R2 D < w.heap.size ∨ W0.heap.size ≤ R2 D) ∧ Hid (∀ k, w.heap.size ≤ k → k < W0.heap.size → WT.heap[k]? = W0.heap[k]?) ∧ Hid (Below base w WT) ∧ Hid (KeepsOthers W WT) ∧ Hid (KeepS NoS W WT) ∧ Hid (W0.heap.size ≤ WT.heap.size) ∧ Hid (Bx WT w.heap.size [.int .i64 1, .int .i64 n, .bool u]) := by
      refine KT.out.mono ?_
      rintro e WT ⟨rfl, hmT⟩
      obtain ⟨R2, d2, r2, hs2, hbe2, ko2, ks2, hb2⟩ := loop_keep d1 hMt HLow.out r1 hb1W hmT (by simpa using d1.ne t hMt)
      have hs3 := fun k k0 k1 => (hs2 k k0 k1).trans (hsame k k0 k1)
      have k8 : Boxed WT w1.heap.size 64 (.pointer (some ⟨Q, 0, none⟩)) := (hs3 _ (by omega) (by omega)).trans H8.out
      have k9 : Boxed2 WT (w1.heap.size + 1) 78 (.int .i64 K.x) (.int .i64 K.y) := (hs3 _ (by omega) (by omega)).trans H9.out
      have kQ : Boxed2 WT Bq 78 (.int .i64 px) (.int .i64 py) := by
        obtain ⟨_, _, _, hb⟩ := hmT
        exact (hb.block Bq (Array.getElem?_eq_some_iff.1 kQ).1 hQt hQR).trans kQ
      have kF : Bx WT w.heap.size [.int .i64 1, .int .i64 n, .bool u] := HF.out.same (hs3 _ (by omega) (by omega))
      have gQ := HGQ.out.same (hs3 Q (by omega) (by omega)) (hs3 QA (by omega) (by omega))
      have KA : Calls Try.prog 33 #[.pointer (some ⟨Q, 0, none⟩), .int .i64 (K.x + px), .int .i64 (K.y + py)] WT fun e w' => e = .returned (.tuple #[.pointer (some ⟨h, 0, none⟩), .bool true]) ∧ Below WT.heap.size WT w' := shAt_yes gQ (K.x + px) (K.y + py) (ptrD h) hh1 hh2
      refine ⟨rfl, R2, ⟨k8.cell, k9.c0, k9.c1, kQ.c0, kQ.c1⟩, Lib.hid (KA.mono ?_), Lib.hid r2, Lib.hid hs3, Lib.hid (hbW.trans hbe2), Lib.hid ko2, Lib.hid ks2, Lib.hid hb2, Lib.hid kF⟩
      rintro e WA ⟨rfl, hbA⟩
      have dA := d2.up hbA
      have kh := dA.dk h hMh
      have kt := dA.dk t hMt
      rw [putS_ne hne.symm] at kh
      rw [putS_at] at kt
      have n1 : 0 < (S1 h).length := d1.ne h hMh
      have n2 : 0 < ((S1 t).reverse.map (flipP true)).length := by simpa using d1.ne t hMt
      have n3 : ((S1 t).reverse.map (flipP true)).length ≤ 1000000 := by simp; omega
      exact ⟨rfl, (kF.up hbA).cell 2 rfl, Lib.hid (pcUnder_any kh kt n1 n2 (by omega) n3), Lib.hid (pcOver_any kh kt n1 n2 (by omega) n3), Lib.hid dA, Lib.hid hbA⟩
    have HT2 := Lib.hid KT2; have HNE := Lib.hid hne; have HN1 := Lib.hid (d1.ne h hMh)
    clear KT2 KT KD hyR hQR hQt d1 r1 hsame hbW kQ kU kT hne hl1 hl2 hh1 hh2 hr hr2 hsx
    dsimp only
    gi_wp2_with (first
      | (refine ⟨trivial, ?_⟩; gi_at_call 45; refine (CallsIn.inRound l0 (callsIn_wide.2 HT2.out)).mono ?_; rintro e WT ⟨rfl, R2, ⟨c8, c90, c91, q0, q1⟩, HA2, HR2, HS2, HBE2, HKO2, HKS2, HB2, HKF⟩)
      | (refine ⟨trivial, ?_⟩; gi_at_call 33; refine (CallsIn.inRound l0 (callsIn_wide.2 HA2.out)).mono ?_; rintro e WA ⟨rfl, cu, HUn, HOv, HDA, HBA⟩; clear c8 c90 c91 q0 q1)
      | (refine ⟨trivial, ?_⟩; gi_at_call 46; refine (CallsIn.inRound l0 (callsIn_wide.2 HUn.out)).mono ?_; rintro e WU ⟨rfl, hmU⟩; have HMU := Lib.hid hmU; clear hmU)
      | (refine ⟨trivial, ?_⟩; gi_at_call 47; refine (CallsIn.inRound l0 (callsIn_wide.2 HOv.out)).mono ?_; rintro e WU ⟨rfl, hmU⟩; have HMU := Lib.hid hmU; clear hmU))
    · have hu : u = true := by assumption
      rw [hu] at HSn
      have hbA := HBA.out
      obtain ⟨R3, d3, r3, hs3', hbe3, ko3, ks3, hb3'⟩ := loop_keep HDA.out hMh HLow.out HR2.out (Nat.le_trans HB2.out hbA.size) HMU.out (by rw [List.length_append]; have := HN1.out; omega)
      refine ⟨((HKO2.out.trans (others_below hbA)).trans ko3).from _, (HKS2.out.trans (noS_up _ _ hbA)).trans ks3, ?_⟩
      show LoopI w W0 base w.heap.size W0.heap.size M (runS u true tb hb (pre ++ [k]) S) WU
      rw [hu, HSn.out]
      refine ⟨⟨R3, ?_, r3⟩, fun j j0 j1 => (hs3' j j0 j1).trans ((hbA.block j (Nat.lt_of_lt_of_le j1 HB2.out)).trans (HS2.out j j0 j1)), hb3', (HBE2.out.trans (hbA.mono (Nat.le_trans hbase HBE2.out.size))).trans hbe3⟩
      exact d3
    · have hu : u = false := by assumption
      rw [hu] at HSn
      have hbA := HBA.out
      obtain ⟨R3, d3, r3, hs3', hbe3, ko3, ks3, hb3'⟩ := loop_keep HDA.out hMh HLow.out HR2.out (Nat.le_trans HB2.out hbA.size) HMU.out (by rw [List.length_append]; have := HN1.out; omega)
      refine ⟨((HKO2.out.trans (others_below hbA)).trans ko3).from _, (HKS2.out.trans (noS_up _ _ hbA)).trans ks3, ?_⟩
      show LoopI w W0 base w.heap.size W0.heap.size M (runS u true tb hb (pre ++ [k]) S) WU
      rw [hu, HSn.out]
      refine ⟨⟨R3, ?_, r3⟩, fun j j0 j1 => (hs3' j j0 j1).trans ((hbA.block j (Nat.lt_of_lt_of_le j1 HB2.out)).trans (HS2.out j j0 j1)), hb3', (HBE2.out.trans (hbA.mono (Nat.le_trans hbase HBE2.out.size))).trans hbe3⟩
      exact d3
  case done =>
    rintro D ys W hD rfl hI hK
    obtain ⟨⟨R1, d1, r1⟩, hsame, hb1W, hbW⟩ := hI
    have k8 : Boxed W w1.heap.size 64 (.pointer (some ⟨Q, 0, none⟩)) := (hsame _ (by omega) (by omega)).trans H8.out
    have gQ := HGQ.out.same (hsame Q (by omega) (by omega)) (hsame QA (by omega) (by omega))
    have c8 := k8.cell
    gi_wp2
    refine ⟨by simp, .inl ⟨_, _, rfl, run_takeDeferred hK, ?_⟩⟩
    have hg := grownBy_putObj' W D (.deferred none)
    have hr' : ∀ r, some D = some r → ∃ o : Obj, W.heap[r]? = some o ∧ o.isCells = false := fun r e => by cases e; exact ⟨_, hK, rfl⟩
    exact ⟨_, results_tmp rfl _ _ _, Q, QA, R1, rfl, gQ.put hK rfl, d1.kept hg hr', by omega, by omega, hbW.trans (belowK_b (w := W0) (Nat.le_trans hbase (by omega)) W D _ _ hD hK rfl rfl)⟩
  case stop =>
    rintro D c pre W hD hpre h hK
    exact h.elim

set_option maxRecDepth 100000 in
set_option maxHeartbeats 4000000 in
theorem after_more {w : World} {base G : Nat} {c : Int} {L : List Ptr} (d n : Int) (u up : Bool) (K : Cut) (F LQ : List Ptr) (tb hb : Ix F.length → Nat) {M : Nat → Prop} {R : Nat → Nat} {S : Nat → List Pc} (e1 : (d == 1) = false) (e2 : (d == 2) = up)
    (KP : ∀ w', Below w.heap.size w w' → Calls Try.prog 43 #[.pointer (some ⟨G, 0, none⟩), .agg #[.int .i64 d, .int .i64 n, .bool u]] w' (PartedP w' c L K))
    (hF0 : wantMs up K.fc K.fr (wantPs c K.fx K.fy K.fc K.fr L) = F) (hQ0 : wantPs c K.rx K.ry K.rc K.rr L = LQ) (hD : Decks w base M R S) (hbase : base ≤ w.heap.size)
    (hT : ∀ k : Ix F.length, F[k.1]'k.2 = ptrD (tb k) ∧ M (tb k)) (hx : 0 ≤ K.x ∧ K.x ≤ 64 ∧ 0 ≤ K.y ∧ K.y ≤ 64)
    (hH : ∀ k : Ix F.length, hasB K.rc K.rr (K.x + (k.1 : Int).tmod K.fc) (K.y + (k.1 : Int).tdiv K.fc) = true ∧ LQ[at1 K.rc (K.x + (k.1 : Int).tmod K.fc) (K.y + (k.1 : Int).tdiv K.fc)]? = some (ptrD (hb k)) ∧ M (hb k))
    (hap : ∀ k j, tb k ≠ hb j) (hlen : ∀ D, M D → (S D).length ≤ 64) :
    Calls Try.prog 32 #[.pointer (some ⟨G, 0, none⟩), .agg #[.int .i64 d, .int .i64 n, .bool u]] w fun e w' => ∃ Q QA R', e = .returned (.pointer (some ⟨Q, 0, none⟩)) ∧ Gs w' Q QA K.rc K.rr LQ ∧ Decks w' base M R' (runS u up tb hb (ixs F.length F.length) S) ∧ w.heap.size ≤ Q ∧ w.heap.size ≤ QA ∧ Below base w w' := by
  have HP := Lib.hid KP; have HD := Lib.hid hD; have HT := Lib.hid hT; have HH := Lib.hid hH; have HA := Lib.hid hap; have HLn := Lib.hid hlen; have HF0 := Lib.hid hF0; have HQ0 := Lib.hid hQ0
  clear KP hD hT hH hap hlen hF0 hQ0
  have xF := ((Bx.new w 35 [.int .i64 d, .int .i64 n, .bool u]).alloc (.cells #[.bool up] 4)).alloc (.cells #[.func (.func 42) #[] #[.pointer (some ⟨w.heap.size + 1, 0, none⟩)]] 81)
  have xU := (Boxed.new (w.alloc (.cells #[.int .i64 d, .int .i64 n, .bool u] 35)) 4 (.bool up)).alloc (.cells #[.func (.func 42) #[] #[.pointer (some ⟨w.heap.size + 1, 0, none⟩)]] 81)
  have xT := Boxed.new ((w.alloc (.cells #[.int .i64 d, .int .i64 n, .bool u] 35)).alloc (.cells #[.bool up] 4)) 81 (.func (.func 42) #[] #[.pointer (some ⟨w.heap.size + 1, 0, none⟩)])
  have hb0 : Below w.heap.size w (((w.alloc (.cells #[.int .i64 d, .int .i64 n, .bool u] 35)).alloc (.cells #[.bool up] 4)).alloc (.cells #[.func (.func 42) #[] #[.pointer (some ⟨w.heap.size + 1, 0, none⟩)]] 81)) := up_alloc (up_alloc (up_alloc (Below.refl _ _) _) _) _
  have hs0 : (((w.alloc (.cells #[.int .i64 d, .int .i64 n, .bool u] 35)).alloc (.cells #[.bool up] 4)).alloc (.cells #[.func (.func 42) #[] #[.pointer (some ⟨w.heap.size + 1, 0, none⟩)]] 81)).heap.size = w.heap.size + 3 := by simp
  simp only [World.size_alloc] at xU xT
  refine (callsIn_wide (n := 3)).1 ?_
  refine callsIn_of_wp_marks Try.func32 rfl trivial ?_ rfl
  simp only [Try.ntmps32, List.size_toArray, List.length_cons, List.length_nil, Nat.reduceAdd, Nat.reduceSub, Array.replicate_succ, Array.replicate_zero, List.push_toArray, List.append_toArray, List.nil_append, List.cons_append]
  gi_wp2_with (first
    | (refine ⟨trivial, ?_⟩; gi_at_call 43; refine (callsIn_wide.2 (HP.out _ hb0)).mono ?_; rintro e w1 ⟨Fl, FA, Q, QA, rfl, hF, hQ, ⟨g1, g2, g3, g4⟩, hb1⟩; rw [hs0] at g1 g2 g3 g4; have yU : Boxed w1 (w.heap.size + 1) 4 (.bool up) := (hb1.block _ xU.lt).trans xU; have yT : Boxed w1 (w.heap.size + 1 + 1) 81 (.func (.func 42) #[] #[.pointer (some ⟨w.heap.size + 1, 0, none⟩)]) := (hb1.block _ xT.lt).trans xT; have yF := xF.up hb1; have hbw1 := up_trans hb0 hb1; have hs1 := hb1.size; rw [hs0] at hs1; have zU := ((yU.alloc (.cells #[.pointer (some ⟨Q, 0, none⟩)] 64)).alloc (.cells #[.int .i64 K.x, .int .i64 K.y] 78)).cell; have YU := Lib.hid yU; have YT := Lib.hid yT; have YF := Lib.hid yF; have HBW := Lib.hid hbw1; have HFl := Lib.hid hF; have HQ := Lib.hid hQ; clear hb1 yU yT yF hbw1 hF hQ xF xU xT hb0 hs0)
    | (refine ⟨trivial, ?_⟩; gi_at_call 44; refine (callsIn_wide.2 (shMirror_yes (HFl.out.up (up_alloc (up_alloc (Below.refl _ _) _) _)) up)).mono ?_; rintro e w3 ⟨P, PA, rfl, hP, gP1, gP2, hb3⟩)
    | (refine ⟨trivial, ?_⟩; gi_at_call 39; refine (callsIn_wide.2 (shAll_any _ _)).mono ?_; rintro e w4 ⟨rfl, rfl⟩))
  have hfl := HFl.out
  rw [mirror_eqS up K.fc K.fr _ hfl.len hfl.c1 hfl.c64 hfl.r64 hfl.r1, HF0.out] at hP
  have hQ1 := HQ.out
  rw [HQ0.out] at hQ1
  obtain ⟨W0, hW0⟩ : ∃ W0, w3.alloc (.cells #[.pointer (some ⟨P, 0, none⟩)] 64) = W0 := ⟨_, rfl⟩
  have up3 : Below w3.heap.size w3 W0 := by rw [← hW0]; exact up_alloc (Below.refl _ _) _
  have z8 := (Boxed.new w1 64 (.pointer (some ⟨Q, 0, none⟩))).alloc (.cells #[.int .i64 K.x, .int .i64 K.y] 78)
  have z9 : Boxed2 ((w1.alloc (.cells #[.pointer (some ⟨Q, 0, none⟩)] 64)).alloc (.cells #[.int .i64 K.x, .int .i64 K.y] 78)) (w1.heap.size + 1) 78 (.int .i64 K.x) (.int .i64 K.y) := by
    have := World.alloc_heap_new (w1.alloc (.cells #[.pointer (some ⟨Q, 0, none⟩)] 64)) (.cells #[.int .i64 K.x, .int .i64 K.y] 78)
    rwa [World.size_alloc] at this
  have hs2 : ((w1.alloc (.cells #[.pointer (some ⟨Q, 0, none⟩)] 64)).alloc (.cells #[.int .i64 K.x, .int .i64 K.y] 78)).heap.size = w1.heap.size + 2 := by simp
  have hs3 := hb3.size
  rw [hs2] at hs3 gP1 gP2
  have up2 : Below ((w1.alloc (.cells #[.pointer (some ⟨Q, 0, none⟩)] 64)).alloc (.cells #[.int .i64 K.x, .int .i64 K.y] 78)).heap.size ((w1.alloc (.cells #[.pointer (some ⟨Q, 0, none⟩)] 64)).alloc (.cells #[.int .i64 K.x, .int .i64 K.y] 78)) W0 := up_trans hb3 up3
  have up1 : Below w1.heap.size w1 W0 := up_trans (up_alloc (up_alloc (Below.refl _ _) _) _) up2
  have upw : Below w.heap.size w W0 := up_trans HBW.out up1
  have f8 : Boxed W0 w1.heap.size 64 (.pointer (some ⟨Q, 0, none⟩)) := (up2.block _ z8.lt).trans z8
  have f9 : Boxed2 W0 (w1.heap.size + 1) 78 (.int .i64 K.x) (.int .i64 K.y) := (up2.block _ (by rw [hs2]; omega)).trans z9
  have fU : Boxed W0 (w.heap.size + 1) 4 (.bool up) := (up1.block _ YU.out.lt).trans YU.out
  have fT : Boxed W0 (w.heap.size + 1 + 1) 81 (.func (.func 42) #[] #[.pointer (some ⟨w.heap.size + 1, 0, none⟩)]) := (up1.block _ YT.out.lt).trans YT.out
  have fF := YF.out.up up1
  have gQ := hQ1.up up1
  have gP := hP.up up3
  have yG : W0.cell? ⟨w3.heap.size, 0, none⟩ = some (.pointer (some ⟨P, 0, none⟩)) := by rw [← hW0]; simp [go_sem]
  have hsz : W0.heap.size = w3.heap.size + 1 := by rw [← hW0]; simp
  have hlow : ∀ D, M D → D < w.heap.size := fun D h => (HD.out.dk D h).ltD
  have hI0 : LoopI w W0 base w.heap.size W0.heap.size M (runS u up tb hb [] S) W0 := ⟨⟨R, HD.out.up upw, fun D h => .inl (HD.out.dk D h).ltR.2⟩, fun k _ _ => rfl, Nat.le_refl _, upw.mono hbase⟩
  have ltQ := gQ.ltG
  have ltQA := gQ.ltA
  rw [hW0]
  clear hW0 z8 z9 hs2 up3 up2 up1 hQ1 hP hfl HP HFl HQ YU YT YF HBW hb3 zU
  have H8 := Lib.hid f8; have H9 := Lib.hid f9; have HU := Lib.hid fU; have HTF := Lib.hid fT; have HF := Lib.hid fF; have HGQ := Lib.hid gQ; have HLow := Lib.hid hlow
  clear f8 f9 fU fT fF gQ hlow
  have hm64 := gP.le
  refine wpIn_rangeFunc_ownH rfl (by decide) (gf := 54) (lb := #[.pointer (some ⟨w3.heap.size, 0, none⟩)]) rfl trivial (enters_of Try.func54 (by kernel_rfl) rfl)
    (shAll_stopsI 2 NoS w3.heap.size P PA K.fc K.fr F W0 yG gP (fun W' hb b ho => ho.elim) (fun V V' _ h => noS_up V V' h)) KeepS.trans (fun W l o o' _ h1 h2 _ => noS_put W l o o' h1 h2) (Below.refl _ _) (fun _ => rfl)
    (fun pre W => LoopI w W0 base w.heap.size W0.heap.size M (runS u up tb hb pre S) W)
    (fun c pre W => False)
    (loopI_own (fun pre => runS u up tb hb pre S) hbase (Nat.le_trans hbase (by omega)))
    (fun c => ownFrom_pure _ (fun _ => False))
    hI0
    (fun k a' W => ∃ Bq, W0.heap.size ≤ Bq ∧ Boxed2 W Bq 78 (.int .i64 ((k.1 : Int).tmod K.fc)) (.int .i64 ((k.1 : Int).tdiv K.fc)) ∧
      a' = { tmps := #[.pointer (some ⟨G, 0, none⟩), .agg #[.int .i64 d, .int .i64 n, .bool u], undef, .pointer (some ⟨w.heap.size, 0, none⟩), .pointer none, .pointer (some ⟨w.heap.size + 1, 0, none⟩), .pointer (some ⟨w.heap.size + 1 + 1, 0, none⟩), .pointer (some ⟨Fl, 0, none⟩), .pointer (some ⟨w1.heap.size, 0, none⟩), .pointer (some ⟨w1.heap.size + 1, 0, none⟩), .pointer (some ⟨Bq, 0, none⟩), .pointer (some ⟨tb k, 0, none⟩), undef, undef, .pointer (some ⟨w.heap.size, 0, none⟩), .int .i64 d, .bool false, .bool false, .pointer (some ⟨w.heap.size, 0, none⟩), .int .i64 d, .bool up, .bool up, .func (.func 42) #[] #[.pointer (some ⟨w.heap.size + 1, 0, none⟩)], .tuple #[.pointer (some ⟨Fl, 0, none⟩), .pointer (some ⟨Q, 0, none⟩), .agg #[.int .i64 K.x, .int .i64 K.y]], .pointer (some ⟨G, 0, none⟩), .agg #[.int .i64 d, .int .i64 n, .bool u], .tuple #[.pointer (some ⟨Fl, 0, none⟩), .pointer (some ⟨Q, 0, none⟩), .agg #[.int .i64 K.x, .int .i64 K.y]], .pointer (some ⟨Fl, 0, none⟩), .pointer (some ⟨Q, 0, none⟩), .agg #[.int .i64 K.x, .int .i64 K.y], .pointer (some ⟨Fl, 0, none⟩), .bool up, .pointer (some ⟨P, 0, none⟩), .func (.func 54) #[] #[.pointer (some ⟨w3.heap.size, 0, none⟩)], .agg #[.int .i64 ((k.1 : Int).tmod K.fc), .int .i64 ((k.1 : Int).tdiv K.fc)], .pointer (some ⟨tb k, 0, none⟩), undef, undef, undef, undef, undef, undef, undef, undef, undef, undef, undef, undef, undef, undef, undef, undef, undef, undef, undef, undef, undef, undef, undef, undef, undef, undef, undef], defers := [] })
    (fun k a' _ X Y row hs hg hr => by obtain ⟨Bx, h1, h2, h4⟩ := hs; exact ⟨Bx, h1, boxed2_own Bx _ _ _ () X Y row h2 hg (fun r e => (hr r e).2), h4⟩)
    ?assign ?body ?done ?stop
  case assign =>
    rintro l0 pre k W Kk hI hK
    have hk := (HT.out k).1
    unfold encI encV
    simp only [hk, ptrD]
    generalize (k.1 : Int).tmod K.fc = px at *
    generalize (k.1 : Int).tdiv K.fc = py at *
    gi_wp2
    exact hK _ _ ((KeepsOthers.alloc _ _).from _) (noS_up _ _ (up_alloc (Below.refl _ _) _)) (hI.alloc hbase _) ⟨W.heap.size, hI.2.2.1, World.alloc_heap_new W _, rfl⟩
  case body =>
    rintro l0 pre k a' W hl _ hI ⟨Bq, hBq, kQ, rfl⟩ hlen
    obtain ⟨⟨R1, d1, r1⟩, hsame, hb1W, hbW⟩ := hI
    obtain ⟨_, hMt⟩ := HT.out k
    obtain ⟨hh1, hh2, hMh⟩ := HH.out k
    obtain ⟨hl1, hl2⟩ := runS_len (under := u) (up := up) HA.out (fun k => HLn.out _ (HT.out k).2) (fun k => HLn.out _ (HH.out k).2.2) pre.length pre rfl
    have hl1 := hl1 k; have hl2 := hl2 k
    have hne := HA.out k k
    generalize (k.1 : Int).tmod K.fc = px at *
    generalize (k.1 : Int).tdiv K.fc = py at *
    have hsn := runS_snoc u up tb hb pre k S
    obtain ⟨S1, hS1⟩ : ∃ S1, runS u up tb hb pre S = S1 := ⟨_, rfl⟩
    rw [hS1] at d1 hl1 hl2 hsn
    have HSn := Lib.hid hsn
    clear hsn hS1
    obtain ⟨t, ht⟩ : ∃ t, tb k = t := ⟨_, rfl⟩
    obtain ⟨h, hh⟩ : ∃ h, hb k = h := ⟨_, rfl⟩
    rw [ht] at hMt hl1 hne HSn ⊢
    rw [hh] at hMh hl2 hne hh2 HSn
    clear ht hh
    have kU : Boxed W (w.heap.size + 1) 4 (.bool up) := (hsame _ (by omega) (by omega)).trans HU.out
    have kT : Boxed W (w.heap.size + 1 + 1) 81 (.func (.func 42) #[] #[.pointer (some ⟨w.heap.size + 1, 0, none⟩)]) := (hsame _ (by omega) (by omega)).trans HTF.out
    have KT := Lib.hid (pcTurn_any (d1.dk _ hMt) (d1.ne _ hMt) (by omega) kU.cell)
    have cT := kT.cell
    have KD := d1.dk _ hMt
    obtain ⟨yR, hyR⟩ := KD.cellsR
    have hQR : Bq ≠ R1 t := by
      rintro rfl
      rw [show W.heap[R1 t]? = _ from kQ] at hyR
      injection hyR with hyR
      injection hyR with _ hyR
      exact absurd hyR (by decide)
    have hQt : Bq ≠ t := by have := HLow.out t hMt; omega
    have hlt1 : w.heap.size + 3 ≤ W0.heap.size := by omega
    have hr := HGQ.out.c64; have hr2 := HGQ.out.r64
    have hsx : 0 ≤ K.x + px ∧ K.x + px < 64 ∧ 0 ≤ K.y + py ∧ K.y + py < 64 := by simp [hasB] at hh1; omega
    have wx : IntKind.i64.wrap (K.x + px) = K.x + px := IntWalk.i64_in _ (by omega)
    have wy : IntKind.i64.wrap (K.y + py) = K.y + py := IntWalk.i64_in _ (by omega)
    have KT2 : Calls Try.prog 45 #[.pointer (some ⟨t, 0, none⟩), .func (.func 42) #[] #[.pointer (some ⟨w.heap.size + 1, 0, none⟩)]] W fun e WT => e = .returned (.tuple #[]) ∧ ∃ R2,
        (WT.cell? ⟨w1.heap.size, 0, none⟩ = some (.pointer (some ⟨Q, 0, none⟩)) ∧ WT.cell? ⟨w1.heap.size + 1, 0, none⟩ = some (.int .i64 K.x) ∧ WT.cell? ⟨w1.heap.size + 1, 1, none⟩ = some (.int .i64 K.y) ∧ WT.cell? ⟨Bq, 0, none⟩ = some (.int .i64 px) ∧ WT.cell? ⟨Bq, 1, none⟩ = some (.int .i64 py)) ∧
        Hid (Calls Try.prog 33 #[.pointer (some ⟨Q, 0, none⟩), .int .i64 (K.x + px), .int .i64 (K.y + py)] WT fun e WA => e = .returned (.tuple #[.pointer (some ⟨h, 0, none⟩), .bool true]) ∧ WA.cell? ⟨w.heap.size, 2, none⟩ = some (.bool u) ∧
          Hid (Calls Try.prog 46 #[.pointer (some ⟨h, 0, none⟩), .pointer (some ⟨t, 0, none⟩)] WA fun e w' => e = .returned (.tuple #[]) ∧ MadeP base WA h (R2 h) (S1 h ++ (S1 t).reverse.map (flipP up)) w') ∧
          Hid (Calls Try.prog 47 #[.pointer (some ⟨h, 0, none⟩), .pointer (some ⟨t, 0, none⟩)] WA fun e w' => e = .returned (.tuple #[]) ∧ MadeP base WA h (R2 h) ((S1 t).reverse.map (flipP up) ++ S1 h) w') ∧
          Hid (Decks WA base M R2 (putS S1 t ((S1 t).reverse.map (flipP up)))) ∧ Hid (Below WT.heap.size WT WA)) ∧ Hid (∀ D, M D → R2 D < w.heap.size ∨ W0.heap.size ≤ R2 D) ∧ Hid (∀ k, w.heap.size ≤ k → k < W0.heap.size → WT.heap[k]? = W0.heap[k]?) ∧ Hid (Below base w WT) ∧ Hid (KeepsOthers W WT) ∧ Hid (KeepS NoS W WT) ∧ Hid (W0.heap.size ≤ WT.heap.size) ∧ Hid (Bx WT w.heap.size [.int .i64 d, .int .i64 n, .bool u]) := by
      refine KT.out.mono ?_
      rintro e WT ⟨rfl, hmT⟩
      obtain ⟨R2, d2, r2, hs2, hbe2, ko2, ks2, hb2⟩ := loop_keep d1 hMt HLow.out r1 hb1W hmT (by simpa using d1.ne t hMt)
      have hs3 := fun k k0 k1 => (hs2 k k0 k1).trans (hsame k k0 k1)
      have k8 : Boxed WT w1.heap.size 64 (.pointer (some ⟨Q, 0, none⟩)) := (hs3 _ (by omega) (by omega)).trans H8.out
      have k9 : Boxed2 WT (w1.heap.size + 1) 78 (.int .i64 K.x) (.int .i64 K.y) := (hs3 _ (by omega) (by omega)).trans H9.out
      have kQ : Boxed2 WT Bq 78 (.int .i64 px) (.int .i64 py) := by
        obtain ⟨_, _, _, hb⟩ := hmT
        exact (hb.block Bq (Array.getElem?_eq_some_iff.1 kQ).1 hQt hQR).trans kQ
      have kF : Bx WT w.heap.size [.int .i64 d, .int .i64 n, .bool u] := HF.out.same (hs3 _ (by omega) (by omega))
      have gQ := HGQ.out.same (hs3 Q (by omega) (by omega)) (hs3 QA (by omega) (by omega))
      have KA : Calls Try.prog 33 #[.pointer (some ⟨Q, 0, none⟩), .int .i64 (K.x + px), .int .i64 (K.y + py)] WT fun e w' => e = .returned (.tuple #[.pointer (some ⟨h, 0, none⟩), .bool true]) ∧ Below WT.heap.size WT w' := shAt_yes gQ (K.x + px) (K.y + py) (ptrD h) hh1 hh2
      refine ⟨rfl, R2, ⟨k8.cell, k9.c0, k9.c1, kQ.c0, kQ.c1⟩, Lib.hid (KA.mono ?_), Lib.hid r2, Lib.hid hs3, Lib.hid (hbW.trans hbe2), Lib.hid ko2, Lib.hid ks2, Lib.hid hb2, Lib.hid kF⟩
      rintro e WA ⟨rfl, hbA⟩
      have dA := d2.up hbA
      have kh := dA.dk h hMh
      have kt := dA.dk t hMt
      rw [putS_ne hne.symm] at kh
      rw [putS_at] at kt
      have n1 : 0 < (S1 h).length := d1.ne h hMh
      have n2 : 0 < ((S1 t).reverse.map (flipP up)).length := by simpa using d1.ne t hMt
      have n3 : ((S1 t).reverse.map (flipP up)).length ≤ 1000000 := by simp; omega
      exact ⟨rfl, (kF.up hbA).cell 2 rfl, Lib.hid (pcUnder_any kh kt n1 n2 (by omega) n3), Lib.hid (pcOver_any kh kt n1 n2 (by omega) n3), Lib.hid dA, Lib.hid hbA⟩
    have HT2 := Lib.hid KT2; have HNE := Lib.hid hne; have HN1 := Lib.hid (d1.ne h hMh)
    clear KT2 KT KD hyR hQR hQt d1 r1 hsame hbW kQ kU kT hne hl1 hl2 hh1 hh2 hr hr2 hsx
    dsimp only
    gi_wp2_with (first
      | (refine ⟨trivial, ?_⟩; gi_at_call 45; refine (CallsIn.inRound l0 (callsIn_wide.2 HT2.out)).mono ?_; rintro e WT ⟨rfl, R2, ⟨c8, c90, c91, q0, q1⟩, HA2, HR2, HS2, HBE2, HKO2, HKS2, HB2, HKF⟩)
      | (refine ⟨trivial, ?_⟩; gi_at_call 33; refine (CallsIn.inRound l0 (callsIn_wide.2 HA2.out)).mono ?_; rintro e WA ⟨rfl, cu, HUn, HOv, HDA, HBA⟩; clear c8 c90 c91 q0 q1)
      | (refine ⟨trivial, ?_⟩; gi_at_call 46; refine (CallsIn.inRound l0 (callsIn_wide.2 HUn.out)).mono ?_; rintro e WU ⟨rfl, hmU⟩; have HMU := Lib.hid hmU; clear hmU)
      | (refine ⟨trivial, ?_⟩; gi_at_call 47; refine (CallsIn.inRound l0 (callsIn_wide.2 HOv.out)).mono ?_; rintro e WU ⟨rfl, hmU⟩; have HMU := Lib.hid hmU; clear hmU))
    · have hu : u = true := by assumption
      rw [hu] at HSn
      have hbA := HBA.out
      obtain ⟨R3, d3, r3, hs3', hbe3, ko3, ks3, hb3'⟩ := loop_keep HDA.out hMh HLow.out HR2.out (Nat.le_trans HB2.out hbA.size) HMU.out (by rw [List.length_append]; have := HN1.out; omega)
      refine ⟨((HKO2.out.trans (others_below hbA)).trans ko3).from _, (HKS2.out.trans (noS_up _ _ hbA)).trans ks3, ?_⟩
      show LoopI w W0 base w.heap.size W0.heap.size M (runS u up tb hb (pre ++ [k]) S) WU
      rw [hu, HSn.out]
      refine ⟨⟨R3, ?_, r3⟩, fun j j0 j1 => (hs3' j j0 j1).trans ((hbA.block j (Nat.lt_of_lt_of_le j1 HB2.out)).trans (HS2.out j j0 j1)), hb3', (HBE2.out.trans (hbA.mono (Nat.le_trans hbase HBE2.out.size))).trans hbe3⟩
      exact d3
    · have hu : u = false := by assumption
      rw [hu] at HSn
      have hbA := HBA.out
      obtain ⟨R3, d3, r3, hs3', hbe3, ko3, ks3, hb3'⟩ := loop_keep HDA.out hMh HLow.out HR2.out (Nat.le_trans HB2.out hbA.size) HMU.out (by rw [List.length_append]; have := HN1.out; omega)
      refine ⟨((HKO2.out.trans (others_below hbA)).trans ko3).from _, (HKS2.out.trans (noS_up _ _ hbA)).trans ks3, ?_⟩
      show LoopI w W0 base w.heap.size W0.heap.size M (runS u up tb hb (pre ++ [k]) S) WU
      rw [hu, HSn.out]
      refine ⟨⟨R3, ?_, r3⟩, fun j j0 j1 => (hs3' j j0 j1).trans ((hbA.block j (Nat.lt_of_lt_of_le j1 HB2.out)).trans (HS2.out j j0 j1)), hb3', (HBE2.out.trans (hbA.mono (Nat.le_trans hbase HBE2.out.size))).trans hbe3⟩
      exact d3
  case done =>
    rintro D ys W hD rfl hI hK
    obtain ⟨⟨R1, d1, r1⟩, hsame, hb1W, hbW⟩ := hI
    have k8 : Boxed W w1.heap.size 64 (.pointer (some ⟨Q, 0, none⟩)) := (hsame _ (by omega) (by omega)).trans H8.out
    have gQ := HGQ.out.same (hsame Q (by omega) (by omega)) (hsame QA (by omega) (by omega))
    have c8 := k8.cell
    gi_wp2
    refine ⟨by simp, .inl ⟨_, _, rfl, run_takeDeferred hK, ?_⟩⟩
    have hg := grownBy_putObj' W D (.deferred none)
    have hr' : ∀ r, some D = some r → ∃ o : Obj, W.heap[r]? = some o ∧ o.isCells = false := fun r e => by cases e; exact ⟨_, hK, rfl⟩
    exact ⟨_, results_tmp rfl _ _ _, Q, QA, R1, rfl, gQ.put hK rfl, d1.kept hg hr', by omega, by omega, hbW.trans (belowK_b (w := W0) (Nat.le_trans hbase (by omega)) W D _ _ hD hK rfl rfl)⟩
  case stop =>
    rintro D c pre W hD hpre h hK
    exact h.elim

end Go.Proofs.Ytffnngmiaihkeaa
/- A scheme, as plain data. -/
namespace Go.Proofs.Ytffnngmiaihkeaa
/-- A scheme: columns, rows and steps. -/
structure Sc where
  c : Int
  r : Int
  l : List Sp
deriving DecidableEq
def zeroSc : Sc := ⟨0, 0, []⟩
def sideB (n : Int) : Bool := decide (1 ≤ n) && decide (n ≤ 64)
theorem sideB_true {n : Int} (h : sideB n = true) : 1 ≤ n ∧ n ≤ 64 := by simpa [sideB] using h
end Go.Proofs.Ytffnngmiaihkeaa
/- What step.All and the document's own After answer, for every list of steps that came in. -/
namespace Go.Proofs.Ytffnngmiaihkeaa
open Go.RowKit
set_option linter.unusedVariables false

/-- Steps one behind the other. -/
def allM : Int → Int → List Sp → Int × Int × Bool
  | c, r, [] => (c, r, true)
  | c, r, p :: l => if (aft c r p.d p.n).2.2 = true then allM (aft c r p.d p.n).1 (aft c r p.d p.n).2.1 l else (0, 0, false)
def allS (c r : Int) (l : List Sp) : Int × Int × Bool := if 1 ≤ c ∧ 1 ≤ r then allM c r l else (0, 0, false)
theorem allM_yes {c r c' r' : Int} {p : Sp} {l : List Sp} (h : aft c r p.d p.n = (c', r', true)) : allM c r (p :: l) = allM c' r' l := by simp [allM, h]
theorem allM_no {c r : Int} {p : Sp} {l : List Sp} (h : aft c r p.d p.n = (0, 0, false)) : allM c r (p :: l) = (0, 0, false) := by simp [allM, h]
theorem allS_one (c r : Int) (p : Sp) : allS c r [p] = aft c r p.d p.n := by
  unfold allS
  by_cases h : (aft c r p.d p.n).2.2 = true
  · obtain ⟨⟨h0, _⟩, h1⟩ := aft_yes h
    rw [if_pos h0]
    rcases h1 with ⟨_, _, e⟩ | ⟨_, _, e⟩
    all_goals rw [allM_yes (e), allM, e]
  · have h := aft_no (by simpa using h)
    rw [allM_no h, h]
    split <;> rfl

/-- The steps that came in lie at block b, from off on. -/
def InS (w : World) (b off : Nat) (l : List Sp) : Prop := ∀ j p, l[j]? = some p → w.cell? ⟨b, off + j * 3, none⟩ = some (.int .i64 p.d) ∧ w.cell? ⟨b, off + j * 3 + 1, none⟩ = some (.int .i64 p.n) ∧ w.cell? ⟨b, off + j * 3 + 2, none⟩ = some (.bool p.u)
theorem InS.up {w w' : World} {b off : Nat} {l : List Sp} (h : InS w b off l) (hb : Below w.heap.size w w') : InS w' b off l := fun j p hp => by
  obtain ⟨c0, c1, c2⟩ := h j p hp
  exact ⟨bl_cell hb c0, bl_cell hb c1, bl_cell hb c2⟩

theorem stepAll_bad (c r : Int) (v : Value) (w : World) (h : ¬ (1 ≤ c ∧ 1 ≤ r)) :
    Calls Try.prog 37 #[.int .i64 c, .int .i64 r, v] w fun e w' => e = .returned (.tuple #[.int .i64 0, .int .i64 0, .bool false]) ∧ Below w.heap.size w w' := by
  have KT := fun w => stepThere_any c r w
  rw [show (decide (1 ≤ c) && decide (1 ≤ r)) = false by simp; omega] at KT
  have HT := Lib.hid KT
  clear KT h
  go_enter Try.func37, Try.ntmps37
  go_wp2_with fail
  refine (HT.out _).mono ?_
  rintro e w1 ⟨rfl, rfl⟩
  go_wp2
  go_ret3
  exact ⟨rfl, Below.refl _ _⟩

def AllRel (l : List Sp) (F : Int × Int × Bool) (w : World) (x y i : Value) (wr : World) : Prop :=
  ∃ (k : Nat) (c r : Int), k ≤ l.length ∧ x = .int .i64 c ∧ y = .int .i64 r ∧ i = .int .i64 (k : Int) ∧ (1 ≤ c ∧ c ≤ 9223372036854775807) ∧ (1 ≤ r ∧ r ≤ 9223372036854775807) ∧ Hid (allM c r (l.drop k) = F) ∧ Below w.heap.size w wr

theorem drop_step {l : List Sp} {k : Nat} {p : Sp} (h : l[k]? = some p) : l.drop k = p :: l.drop (k + 1) := by
  obtain ⟨hlt, rfl⟩ := List.getElem?_eq_some_iff.1 h
  exact List.drop_eq_getElem_cons hlt
theorem aft_in {c r d n c' r' : Int} (h : aft c r d n = (c', r', true)) (c1 : c ≤ 9223372036854775807) (r1 : r ≤ 9223372036854775807) : (1 ≤ c' ∧ c' ≤ 9223372036854775807) ∧ 1 ≤ r' ∧ r' ≤ 9223372036854775807 := by
  obtain ⟨⟨h0, _⟩, h1⟩ := aft_yes (c := c) (r := r) (d := d) (n := n) (by rw [h])
  rcases h1 with ⟨_, _, e⟩ | ⟨_, _, e⟩
  all_goals
    rw [h] at e
    simp only [Prod.mk.injEq] at e
    omega

set_option maxHeartbeats 1000000 in
theorem stepAll_good (a : Option Addr) (cap : Nat) (c r : Int) (l : List Sp) (w : World) (c0 : 1 ≤ c) (c1 : c ≤ 9223372036854775807) (r0 : 1 ≤ r) (r1 : r ≤ 9223372036854775807) (hm : l.length ≤ 1000000) (ha : l = [] ∨ ∃ b off, a = some ⟨b, off, none⟩ ∧ InS w b off l) :
    Calls Try.prog 37 #[.int .i64 c, .int .i64 r, .slice a l.length cap] w fun e w' => e = .returned (.tuple #[.int .i64 (allM c r l).1, .int .i64 (allM c r l).2.1, .bool (allM c r l).2.2]) ∧ Below w.heap.size w w' := by
  have KT := fun w => stepThere_any c r w
  rw [show (decide (1 ≤ c) && decide (1 ≤ r)) = true by simp [c0, r0]] at KT
  obtain ⟨F, hF⟩ : ∃ F, allM c r l = F := ⟨_, rfl⟩
  rw [hF]
  have HF := Lib.hid hF; have HT := Lib.hid KT
  clear hF KT
  have HC := Lib.hid ha; clear ha
  generalize hn : l.length = n at *
  have HN := Lib.hid hn; clear hn
  go_enter Try.func37, Try.ntmps37
  go_wp2_with fail
  refine (HT.out _).mono ?_
  rintro e w1 ⟨rfl, rfl⟩
  go_wp2
  go_loopw [0, 1, 18] (fun x y i wr => AllRel l F w1 x y i wr) (fun _ _ i _ => n - (intOf i).toNat)
  case atStart => exact ⟨0, c, r, by omega, rfl, rfl, by go_num, ⟨c0, c1⟩, ⟨r0, r1⟩, HF.out, Below.refl _ _⟩
  case round =>
    obtain ⟨k, x, y, hk, rfl, rfl, rfl, ⟨x0, x1⟩, ⟨y0, y1⟩, HM, hb⟩ := hrel
    rw [HN.out] at hk
    by_cases hlt : k < n
    · obtain ⟨p, hp⟩ : ∃ p, l[k]? = some p := ⟨l[k]'(by rw [HN.out]; exact hlt), List.getElem?_eq_getElem _⟩
      obtain ⟨b, off, rfl, hc⟩ := HC.out.resolve_left (by rintro rfl; cases hp)
      obtain ⟨d0, d1, d2⟩ := hc.up hb k p hp
      have hd := drop_step hp
      have KA := fun w => stepAfter_any x y p.d p.n p.u w x1 y1
      have z0 : (0 : Int) ≤ (k : Int) := by omega
      have z1 : (k : Int) < (n : Int) := by omega
      cases hz : (aft x y p.d p.n).2.2
      · have E := Lib.hid (show F = (0, 0, false) by rw [← HM.out, hd]; exact allM_no (aft_no hz))
        rw [aft_no hz] at KA
        obtain ⟨pd, pn, pu⟩ := p
        simp only at d0 d1 d2 KA
        have HA := Lib.hid KA; have HB := Lib.hid hb
        clear KA hb hc hp hd hz
        go_wp2_with fail
        refine (HA.out _).mono ?_
        rintro e w2 ⟨rfl, hb2⟩
        go_wp2
        go_ret3
        exact ⟨ret3 E.out, up_trans (up_alloc HB.out _) hb2⟩
      · obtain ⟨x', y', hz'⟩ : ∃ x' y', aft x y p.d p.n = (x', y', true) := ⟨(aft x y p.d p.n).1, (aft x y p.d p.n).2.1, by rw [← hz]⟩
        have hin := aft_in hz' x1 y1
        have E := Lib.hid (show allM x' y' (l.drop (k + 1)) = F by rw [← HM.out, hd]; exact (allM_yes hz').symm)
        rw [hz'] at KA
        obtain ⟨pd, pn, pu⟩ := p
        simp only at d0 d1 d2 KA
        have HA := Lib.hid KA; have HB := Lib.hid hb; have HI := Lib.hid hin
        clear KA hb hc hp hd hz hz' hin
        go_wp2_with fail
        refine (HA.out _).mono ?_
        rintro e w2 ⟨rfl, hb2⟩
        go_wp2
        go_roundw
        case rel => exact ⟨k + 1, x', y', by rw [HN.out]; omega, rfl, rfl, by go_num, HI.out.1, HI.out.2, E.out, up_trans (up_alloc HB.out _) hb2⟩
        case measure => simp [intOf]; omega
    · obtain rfl : k = n := by omega
      have E := Lib.hid (show F = (x, y, true) by rw [← HM.out, List.drop_of_length_le (by rw [HN.out]; omega), allM])
      go_wp2
      go_ret3
      exact ⟨ret3 E.out, hb⟩

theorem stepAll_any (a : Option Addr) (cap : Nat) (c r : Int) (l : List Sp) (w : World) (c1 : c ≤ 9223372036854775807) (r1 : r ≤ 9223372036854775807) (hm : l.length ≤ 1000000) (ha : l = [] ∨ ∃ b off, a = some ⟨b, off, none⟩ ∧ InS w b off l) :
    Calls Try.prog 37 #[.int .i64 c, .int .i64 r, .slice a l.length cap] w fun e w' => e = .returned (.tuple #[.int .i64 (allS c r l).1, .int .i64 (allS c r l).2.1, .bool (allS c r l).2.2]) ∧ Below w.heap.size w w' := by
  unfold allS
  by_cases h : 1 ≤ c ∧ 1 ≤ r
  · rw [if_pos h]; exact stepAll_good a cap c r l w h.1 c1 h.2 r1 hm ha
  · rw [if_neg h]; exact stepAll_bad c r _ w h

theorem refAfter_bad (c r : Int) (v : Value) (w : World) (h : ¬ (1 ≤ c ∧ 1 ≤ r)) :
    Calls Try.prog 23 #[.int .i64 c, .int .i64 r, v] w fun e w' => e = .returned (.tuple #[.int .i64 0, .int .i64 0, .bool false]) ∧ Below w.heap.size w w' := by
  by_cases h1 : c < 1
  · clear h
    go_enter Try.func23, Try.ntmps23
    go_wp2
    go_ret3
    exact ⟨rfl, Below.refl _ _⟩
  · have h2 : r < 1 := by omega
    clear h
    go_enter Try.func23, Try.ntmps23
    go_wp2
    go_ret3
    exact ⟨rfl, Below.refl _ _⟩

theorem aft_wrong {c r d n : Int} (h : rightB d n = false) : aft c r d n = (0, 0, false) := by unfold aft; rw [if_neg (by simp [h])]
theorem aft_col {c r d n : Int} (hc : 1 ≤ c) (hr : 1 ≤ r) (h : rightB d n = true) (hd : d ≤ 2) : aft c r d n = if 2 * n ≤ c then (c - n, r, true) else (0, 0, false) := by unfold aft; rw [if_pos ⟨⟨hc, hr⟩, h⟩, if_pos hd]
theorem aft_row {c r d n : Int} (hc : 1 ≤ c) (hr : 1 ≤ r) (h : rightB d n = true) (hd : ¬ d ≤ 2) : aft c r d n = if 2 * n ≤ r then (c, r - n, true) else (0, 0, false) := by unfold aft; rw [if_pos ⟨⟨hc, hr⟩, h⟩, if_neg hd]

set_option maxHeartbeats 2000000 in
set_option maxRecDepth 100000 in
theorem refAfter_good (a : Option Addr) (cap : Nat) (c r : Int) (l : List Sp) (w : World) (c0 : 1 ≤ c) (c1 : c ≤ 9223372036854775807) (r0 : 1 ≤ r) (r1 : r ≤ 9223372036854775807) (hm : l.length ≤ 1000000) (ha : l = [] ∨ ∃ b off, a = some ⟨b, off, none⟩ ∧ InS w b off l) :
    Calls Try.prog 23 #[.int .i64 c, .int .i64 r, .slice a l.length cap] w fun e w' => e = .returned (.tuple #[.int .i64 (allM c r l).1, .int .i64 (allM c r l).2.1, .bool (allM c r l).2.2]) ∧ Below w.heap.size w w' := by
  obtain ⟨F, hF⟩ : ∃ F, allM c r l = F := ⟨_, rfl⟩
  rw [hF]
  have HF := Lib.hid hF
  clear hF
  have HC := Lib.hid ha; clear ha
  generalize hn : l.length = n at *
  have HN := Lib.hid hn; clear hn
  go_enter Try.func23, Try.ntmps23
  go_wp2
  go_loopw [0, 1, 9] (fun x y i wr => AllRel l F w x y i wr) (fun _ _ i _ => n - (intOf i).toNat)
  case atStart => exact ⟨0, c, r, by omega, rfl, rfl, by go_num, ⟨c0, c1⟩, ⟨r0, r1⟩, HF.out, Below.refl _ _⟩
  case round =>
    obtain ⟨k, x, y, hk, rfl, rfl, rfl, ⟨x0, x1⟩, ⟨y0, y1⟩, HM, hb⟩ := hrel
    rw [HN.out] at hk
    by_cases hlt : k < n
    · obtain ⟨p, hp⟩ : ∃ p, l[k]? = some p := ⟨l[k]'(by rw [HN.out]; exact hlt), List.getElem?_eq_getElem _⟩
      obtain ⟨b, off, rfl, hc⟩ := HC.out.resolve_left (by rintro rfl; cases hp)
      obtain ⟨d0, d1, d2⟩ := hc.up hb k p hp
      have hd := drop_step hp
      have KA := fun w => refRight_any p.d p.n p.u w
      have z0 : (0 : Int) ≤ (k : Int) := by omega
      have z1 : (k : Int) < (n : Int) := by omega
      have HB := Lib.hid hb
      obtain ⟨pd, pn, pu⟩ := p
      simp only at d0 d1 d2 KA
      clear hb hc hp
      cases hg : rightB pd pn
      · have E := Lib.hid (show F = (0, 0, false) by rw [← HM.out, hd]; exact allM_no (aft_wrong hg))
        rw [hg] at KA
        have HA := Lib.hid KA
        clear KA hd hg
        go_wp2_with fail
        refine (HA.out _).mono ?_
        rintro e w2 ⟨rfl, hb2⟩
        go_wp2
        go_ret3
        exact ⟨ret3 E.out, up_trans HB.out hb2⟩
      · obtain ⟨⟨g0, g1⟩, g2, g3⟩ := rightB_true hg
        rw [hg] at KA
        have HA := Lib.hid KA
        clear KA
        by_cases hs : pd ≤ 2
        · have ea := aft_col x0 y0 hg hs
          by_cases hq : 2 * pn ≤ x
          · rw [if_pos hq] at ea
            have E := Lib.hid (show allM (x - pn) y (l.drop (k + 1)) = F by rw [← HM.out, hd]; exact (allM_yes ea).symm)
            clear hd hg ea
            go_wp2_with fail
            refine (HA.out _).mono ?_
            rintro e w2 ⟨rfl, hb2⟩
            have e0 := bl_cell hb2 d0; have e1 := bl_cell hb2 d1
            have B2 := Lib.hid (up_trans HB.out hb2)
            clear hb2
            go_wp2
            go_roundw
            case rel => exact ⟨k + 1, x - pn, y, by rw [HN.out]; omega, rfl, rfl, by go_num, by omega, by omega, E.out, B2.out⟩
            case measure => simp [intOf]; omega
          · rw [if_neg hq] at ea
            have E := Lib.hid (show F = (0, 0, false) by rw [← HM.out, hd]; exact allM_no ea)
            have hq' : x - pn < pn := by omega
            clear hd hg ea
            go_wp2_with fail
            refine (HA.out _).mono ?_
            rintro e w2 ⟨rfl, hb2⟩
            have e0 := bl_cell hb2 d0; have e1 := bl_cell hb2 d1
            have B2 := Lib.hid (up_trans HB.out hb2)
            clear hb2
            go_wp2
            go_ret3
            exact ⟨ret3 E.out, B2.out⟩
        · have ea := aft_row x0 y0 hg hs
          by_cases hq : 2 * pn ≤ y
          · rw [if_pos hq] at ea
            have E := Lib.hid (show allM x (y - pn) (l.drop (k + 1)) = F by rw [← HM.out, hd]; exact (allM_yes ea).symm)
            clear hd hg ea
            go_wp2_with fail
            refine (HA.out _).mono ?_
            rintro e w2 ⟨rfl, hb2⟩
            have e0 := bl_cell hb2 d0; have e1 := bl_cell hb2 d1
            have B2 := Lib.hid (up_trans HB.out hb2)
            clear hb2
            go_wp2
            go_roundw
            case rel => exact ⟨k + 1, x, y - pn, by rw [HN.out]; omega, rfl, rfl, by go_num, by omega, by omega, E.out, B2.out⟩
            case measure => simp [intOf]; omega
          · rw [if_neg hq] at ea
            have E := Lib.hid (show F = (0, 0, false) by rw [← HM.out, hd]; exact allM_no ea)
            have hq' : y - pn < pn := by omega
            clear hd hg ea
            go_wp2_with fail
            refine (HA.out _).mono ?_
            rintro e w2 ⟨rfl, hb2⟩
            have e0 := bl_cell hb2 d0; have e1 := bl_cell hb2 d1
            have B2 := Lib.hid (up_trans HB.out hb2)
            clear hb2
            go_wp2
            go_ret3
            exact ⟨ret3 E.out, B2.out⟩
    · obtain rfl : k = n := by omega
      have E := Lib.hid (show F = (x, y, true) by rw [← HM.out, List.drop_of_length_le (by rw [HN.out]; omega), allM])
      go_wp2
      go_ret3
      exact ⟨ret3 E.out, hb⟩

theorem refAfter_any (a : Option Addr) (cap : Nat) (c r : Int) (l : List Sp) (w : World) (c1 : c ≤ 9223372036854775807) (r1 : r ≤ 9223372036854775807) (hm : l.length ≤ 1000000) (ha : l = [] ∨ ∃ b off, a = some ⟨b, off, none⟩ ∧ InS w b off l) :
    Calls Try.prog 23 #[.int .i64 c, .int .i64 r, .slice a l.length cap] w fun e w' => e = .returned (.tuple #[.int .i64 (allS c r l).1, .int .i64 (allS c r l).2.1, .bool (allS c r l).2.2]) ∧ Below w.heap.size w w' := by
  unfold allS
  by_cases h : 1 ≤ c ∧ 1 ≤ r
  · rw [if_pos h]; exact refAfter_good a cap c r l w h.1 c1 h.2 r1 hm ha
  · rw [if_neg h]; exact refAfter_bad c r _ w h
end Go.Proofs.Ytffnngmiaihkeaa
