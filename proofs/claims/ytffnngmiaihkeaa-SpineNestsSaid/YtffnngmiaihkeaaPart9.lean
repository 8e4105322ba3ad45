/- Part 9 of the texts that the proofs of this seat share: SpineCode, SpineBlk, SpineNests, SpineOpen, SpineAlive, RefEdge. -/
import Derived.Test.YtffnngmiaihkeaaPart8
import Derived.Test.YtffnngmiaihkeaaPart2
import Derived.Deep.RegionHeld3
import Derived.Deep.DeepCutAuto
import Derived.BigRegion
import Derived.WalkMore
/- What the methods of spine's block answer: is there such a leaf, and at which edge two leaves hang together. -/
namespace Go.Proofs.Ytffnngmiaihkeaa
open Go.RowKit
set_option linter.unusedVariables false

theorem blkHas_any (c k : Int) (a1 a2 : Option Addr) (n1 c1 n c2 : Nat) (w : World) (hn : n ≤ 64) :
    Calls Try.prog 22 #[.agg #[.int .i64 c, .slice a1 n1 c1, .slice a2 n c2], .int .i64 k] w fun e w' => e = .returned (.bool (decide (0 ≤ k) && decide (k ≤ (n : Int) - 1))) ∧ Below w.heap.size w w' := by
  have H := Lib.hid fun w => in_any k 0 ((n : Int) - 1) w
  go_enter Try.func22, Try.ntmps22
  go_wp2_with fail
  refine (H.out _).mono ?_
  rintro e w1 ⟨rfl, rfl⟩
  go_wp2
  go_ret
  exact ⟨rfl, up_alloc (Below.refl _ _) _⟩

set_option maxHeartbeats 1000000 in
set_option maxRecDepth 100000 in
theorem blkEdge_core (c X Y lo hi lf : Int) (fx fy u1 u2 u3 : Bool) (g1 g2 m c2 a b j : Nat) (w : World) (hm : m ≤ 64) (hc : 1 ≤ c ∧ c ≤ 64) (ha : a < m) (hb : b < m) (hj : j < m) (hlo : min X Y = lo) (hhi : max X Y = hi) (hjl : lo = (j : Int)) (hh : 0 ≤ hi ∧ hi ≤ 64)
    (x0 : w.cell? ⟨g2, a, none⟩ = some (.int .i64 X)) (y0 : w.cell? ⟨g2, b, none⟩ = some (.int .i64 Y))
    (p0 : w.cell? ⟨g1, j * 3, none⟩ = some (.int .i64 lf)) (p1 : w.cell? ⟨g1, j * 3 + 1, none⟩ = some (.bool fx)) (p2 : w.cell? ⟨g1, j * 3 + 2, none⟩ = some (.bool fy))
    (e1 : (hi == (j : Int) + 1) = u1) (e2 : (hi.tmod c != 0) = u2) (e3 : (hi == (j : Int) + c) = u3)
    (V : Int) (hV : V = if (u1 && u2) = true then (if fx = true then 1 else 2) else if u3 = true then (if fy = true then 3 else 4) else 0) :
    Calls Try.prog 16 #[.agg #[.int .i64 c, .slice (some ⟨g1, 0, none⟩) m m, .slice (some ⟨g2, 0, none⟩) m c2], .int .i64 (a : Int), .int .i64 (b : Int)] w fun e w' => e = .returned (.int .i64 V) ∧ Below w.heap.size w w' := by
  subst hjl
  have K1 := fun w => blkHas_any c (a : Int) (some ⟨g1, 0, none⟩) (some ⟨g2, 0, none⟩) m m m c2 w hm
  have K2 := fun w => blkHas_any c (b : Int) (some ⟨g1, 0, none⟩) (some ⟨g2, 0, none⟩) m m m c2 w hm
  rw [decide_eq_true (by omega : (0 : Int) ≤ (a : Int)), decide_eq_true (by omega : (a : Int) ≤ (m : Int) - 1)] at K1
  rw [decide_eq_true (by omega : (0 : Int) ≤ (b : Int)), decide_eq_true (by omega : (b : Int) ≤ (m : Int) - 1)] at K2
  simp only [Bool.and_self] at K1 K2
  have e2' : (hi % c != 0) = u2 := by rw [← Int.tmod_eq_emod_of_nonneg hh.1]; exact e2
  have H1 := Lib.hid K1; have H2 := Lib.hid K2
  have B0 := Lib.hid (up_alloc (Below.refl _ w) (.cells #[.int .i64 c, .slice (some ⟨g1, 0, none⟩) m m, .slice (some ⟨g2, 0, none⟩) m c2] 40))
  have HC := Lib.hid (And.intro x0 (And.intro y0 (And.intro p0 (And.intro p1 p2))))
  clear K1 K2 x0 y0 p0 p1 p2
  have z0 : (0 : Int) ≤ (a : Int) := by omega
  have z1 : (a : Int) < (m : Int) := by omega
  have z2 : (0 : Int) ≤ (b : Int) := by omega
  have z3 : (b : Int) < (m : Int) := by omega
  have z4 : (0 : Int) ≤ (j : Int) := by omega
  have z5 : (j : Int) < (m : Int) := by omega
  have hc0 : c ≠ 0 := by omega
  have HE := Lib.hid (And.intro e1 (And.intro e2 (And.intro e2' e3)))
  clear e1 e2 e2' e3
  go_enter Try.func16, Try.ntmps16
  go_wp2_with fail
  refine (H1.out _).mono ?_
  rintro e w1 ⟨rfl, hb1⟩
  have A1 := (Bx.new w 40 [.int .i64 c, .slice (some ⟨g1, 0, none⟩) m m, .slice (some ⟨g2, 0, none⟩) m c2]).up hb1
  have B1 := Lib.hid (up_trans B0.out hb1)
  have a0 := A1.cell 0 rfl; have a1 := A1.cell 1 rfl; have a2 := A1.cell 2 rfl
  clear hb1
  go_wp2_with fail
  refine (H2.out _).mono ?_
  rintro e w2 ⟨rfl, hb2⟩
  have A2 := A1.up hb2
  have B2 := Lib.hid (up_trans B1.out hb2)
  clear a0 a1 a2 hb2 A1 B1
  have a0 := A2.cell 0 rfl; have a1 := A2.cell 1 rfl; have a2 := A2.cell 2 rfl
  obtain ⟨x0, y0, p0, p1, p2⟩ := HC.out
  have x0 := bl_cell B2.out x0; have y0 := bl_cell B2.out y0
  have p0 := bl_cell B2.out p0; have p1 := bl_cell B2.out p1; have p2 := bl_cell B2.out p2
  go_wp2_with fail
  refine later_start (w := w2) ?_
  intro v
  have j0 := fun v : Later w2 => v.cell a0
  have j1 := fun v : Later w2 => v.cell a1
  have j2 := fun v : Later w2 => v.cell a2
  have k0 := fun v : Later w2 => v.cell x0
  have k1 := fun v : Later w2 => v.cell y0
  have q0 := fun v : Later w2 => v.cell p0
  have q1 := fun v : Later w2 => v.cell p1
  have q2 := fun v : Later w2 => v.cell p2
  clear a0 a1 a2 x0 y0 p0 p1 p2
  refine wp_region_later (by kernel_rfl) (by kernel_rfl) ?_
  repeat (go_big_quiet_step (fail))
  refine wpQuiet_nil ?_
  rintro _ ⟨v2, rfl⟩
  have a0 := j0 v2; have a1 := j1 v2; have a2 := j2 v2
  have p0 := q0 v2; have p1 := q1 v2; have p2 := q2 v2
  have B3 := Lib.hid (up_trans B2.out v2.up)
  have b0 := ((A2.up v2.up).alloc (.cells #[.int .i64 lf, .bool fx, .bool fy] 50)).cell 0 rfl
  clear j0 j1 j2 k0 k1 q0 q1 q2 B2
  generalize v2.now = w3 at *
  clear v v2
  obtain ⟨e1, e2, e2', e3⟩ := HE.out
  have hfin : ∀ o, Below w.heap.size w (w3.alloc o) := fun o => up_alloc B3.out o
  have HF := Lib.hid hfin
  clear hfin
  cases u1
  · cases u3
    · clear e2
      obtain rfl : V = 0 := hV
      go_wp2
      go_ret
      exact ⟨rfl, HF.out _⟩
    · cases fy
      · obtain rfl : V = 4 := hV
        go_wp2
        go_ret
        exact ⟨rfl, HF.out _⟩
      · obtain rfl : V = 3 := hV
        go_wp2
        go_ret
        exact ⟨rfl, HF.out _⟩
  · cases u2
    · cases u3
      · obtain rfl : V = 0 := hV
        go_wp2
        go_ret
        exact ⟨rfl, HF.out _⟩
      · cases fy
        · obtain rfl : V = 4 := hV
          go_wp2
          go_ret
          exact ⟨rfl, HF.out _⟩
        · obtain rfl : V = 3 := hV
          go_wp2
          go_ret
          exact ⟨rfl, HF.out _⟩
    · cases fx
      · obtain rfl : V = 2 := hV
        go_wp2
        go_ret
        exact ⟨rfl, HF.out _⟩
      · obtain rfl : V = 1 := hV
        go_wp2
        go_ret
        exact ⟨rfl, HF.out _⟩
end Go.Proofs.Ytffnngmiaihkeaa
/- What spine's folded answers, at which edge two leaves of a block hang together, and spine.Edge, for every scheme and every two ints. -/
namespace Go.Proofs.Ytffnngmiaihkeaa
open Go.RowKit
set_option linter.unusedVariables false

theorem blkEdge_out (c a b : Int) (a1 a2 : Option Addr) (n1 c1 n c2 : Nat) (w : World) (hn : n ≤ 64) (h : ¬ ((0 ≤ a ∧ a < (n : Int)) ∧ 0 ≤ b ∧ b < (n : Int))) :
    Calls Try.prog 16 #[.agg #[.int .i64 c, .slice a1 n1 c1, .slice a2 n c2], .int .i64 a, .int .i64 b] w fun e w' => e = .returned (.int .i64 0) ∧ Below w.heap.size w w' := by
  have K1 := fun w => blkHas_any c a a1 a2 n1 c1 n c2 w hn
  have K2 := fun w => blkHas_any c b a1 a2 n1 c1 n c2 w hn
  obtain ⟨u1, hu1⟩ : ∃ u, (decide (0 ≤ a) && decide (a ≤ (n : Int) - 1)) = u := ⟨_, rfl⟩
  obtain ⟨u2, hu2⟩ : ∃ u, (decide (0 ≤ b) && decide (b ≤ (n : Int) - 1)) = u := ⟨_, rfl⟩
  have hu : u1 = false ∨ u2 = false := by
    rw [← hu1, ← hu2]
    simp only [Bool.and_eq_false_iff, decide_eq_false_iff_not]
    omega
  rw [hu1] at K1
  rw [hu2] at K2
  have H1 := Lib.hid K1; have H2 := Lib.hid K2
  have B0 := Lib.hid (up_alloc (Below.refl _ w) (.cells #[.int .i64 c, .slice a1 n1 c1, .slice a2 n c2] 40))
  clear K1 K2 h hu1 hu2
  cases u1
  · clear hu
    go_enter Try.func16, Try.ntmps16
    go_wp2_with fail
    refine (H1.out _).mono ?_
    rintro e w1 ⟨rfl, hb1⟩
    have B1 := Lib.hid (up_trans B0.out hb1)
    clear hb1
    go_wp2
    go_ret
    exact ⟨rfl, B1.out⟩
  · obtain rfl : u2 = false := by simpa using hu
    clear hu
    go_enter Try.func16, Try.ntmps16
    go_wp2_with fail
    refine (H1.out _).mono ?_
    rintro e w1 ⟨rfl, hb1⟩
    have A1 := (Bx.new w 40 [.int .i64 c, .slice a1 n1 c1, .slice a2 n c2]).up hb1
    have B1 := Lib.hid (up_trans B0.out hb1)
    have x0 := A1.cell 0 rfl; have x1 := A1.cell 1 rfl; have x2 := A1.cell 2 rfl
    clear hb1
    go_wp2_with fail
    refine (H2.out _).mono ?_
    rintro e w2 ⟨rfl, hb2⟩
    have B2 := Lib.hid (up_trans B1.out hb2)
    clear x0 x1 x2 hb2 A1 B1
    go_wp2
    go_ret
    exact ⟨rfl, B2.out⟩

/-- v is the block of scheme s. -/
def BlkV (w : World) (s : Sc) (v : Value) : Prop := ∃ b b' c', v = .agg #[.int .i64 s.c, .slice b (pcR s).length (pcR s).length, .slice b' (pcR s).length c'] ∧ GotP w b (panR s) ∧ GotN w b' (numR s)
theorem BlkV.up {w w' : World} {s : Sc} {v : Value} (h : BlkV w s v) (hb : Below w.heap.size w w') : BlkV w' s v := by
  obtain ⟨b, b', c', e, h1, h2⟩ := h
  exact ⟨b, b', c', e, h1.up hb, h2.up hb⟩
theorem edgN_bool (c x y : Int) (fx fy : Bool) : edgN c x y fx fy = if ((y == x + 1) && (y.tmod c != 0)) = true then (if fx = true then 1 else 2) else if (y == x + c) = true then (if fy = true then 3 else 4) else 0 := by
  unfold edgN
  simp only [Bool.and_eq_true, beq_iff_eq, bne_iff_ne]

theorem blkEdge_any (s : Sc) (v : Value) (a b : Int) (w : World) (hv : BlkV w s v) :
    Calls Try.prog 16 #[v, .int .i64 a, .int .i64 b] w fun e w' => e = .returned (.int .i64 (edgM s.c (pcR s) a b)) ∧ Below w.heap.size w w' := by
  obtain ⟨b1, b2, c', rfl, hP, hN⟩ := hv
  have hm : (pcR s).length ≤ 64 := by rw [← pcR_length]; exact (panR_length s).1
  by_cases h : (0 ≤ a ∧ a < (pcR s).length) ∧ 0 ≤ b ∧ b < (pcR s).length
  · obtain ⟨⟨ha0, ha1⟩, hb0, hb1⟩ := h
    obtain ⟨i, rfl⟩ := Int.eq_ofNat_of_zero_le ha0
    obtain ⟨k, rfl⟩ := Int.eq_ofNat_of_zero_le hb0
    have hi : i < (pcR s).length := by omega
    have hk : k < (pcR s).length := by omega
    obtain ⟨p, hp⟩ : ∃ p, (pcR s)[i]? = some p := ⟨_, List.getElem?_eq_getElem hi⟩
    obtain ⟨q, hq⟩ : ∃ q, (pcR s)[k]? = some q := ⟨_, List.getElem?_eq_getElem hk⟩
    obtain ⟨jp, hjp, ep, pp⟩ := pcR_at s i p hp
    obtain ⟨jq, hjq, eq, pq⟩ := pcR_at s k q hq
    have hc := pcR_c s (by omega)
    rw [edgM_in hp hq]
    obtain ⟨g1, rfl, hr1⟩ := hP.resolve_left (by intro e; rw [e] at pp; simp at pp)
    have np : (numR s)[i]? = some (jp : Int) := by rw [numR_eq, List.getElem?_map, hp, Option.map_some, ep]
    have nq : (numR s)[k]? = some (jq : Int) := by rw [numR_eq, List.getElem?_map, hq, Option.map_some, eq]
    obtain ⟨g2, rfl, hr2⟩ := hN.resolve_left (by intro e; rw [e] at np; simp at np)
    have x0 := hr2 _ _ np
    have y0 := hr2 _ _ nq
    unfold edgP
    rw [ep, eq]
    by_cases hle : (jp : Int) ≤ (jq : Int)
    · rw [if_pos hle]
      obtain ⟨p0, p1, p2⟩ := hr1.cells pp
      exact blkEdge_core s.c jp jq jp jq _ p.fx p.fy _ _ _ g1 g2 _ c' i k jp w hm hc hi hk hjp (Int.min_eq_left hle) (Int.max_eq_right hle) rfl (by omega) x0 y0 p0 p1 p2 rfl rfl rfl _ (edgN_bool ..)
    · rw [if_neg hle]
      obtain ⟨p0, p1, p2⟩ := hr1.cells pq
      exact blkEdge_core s.c jp jq jq jp _ q.fx q.fy _ _ _ g1 g2 _ c' i k jq w hm hc hi hk hjq (Int.min_eq_right (by omega)) (Int.max_eq_left (by omega)) rfl (by omega) x0 y0 p0 p1 p2 rfl rfl rfl _ (edgN_bool ..)
  · rw [edgM_out h]
    exact blkEdge_out _ _ _ _ _ _ _ _ _ _ hm h

/-- Lists that are new stay as they are where another block is written. -/
def NewAt (base : Nat) (b : Option Addr) : Prop := ∀ g, b = some ⟨g, 0, none⟩ → base ≤ g
theorem GotP.store {w : World} {b : Option Addr} {P : List Pn} (h : GotP w b P) {base : Nat} (hn : NewAt base b) {p : Addr} (hp : p.block < base) (x : Value) : GotP (w.setCell p x) b P := by
  rcases h with h | ⟨g, e, h⟩
  · exact .inl h
  · have := hn g e
    exact .inr ⟨g, e, h.same (Below.heap_setCell _ _ _ _ (by omega))⟩
theorem GotN.store {w : World} {b : Option Addr} {N : List Int} (h : GotN w b N) {base : Nat} (hn : NewAt base b) {p : Addr} (hp : p.block < base) (x : Value) : GotN (w.setCell p x) b N := by
  rcases h with h | ⟨g, e, h⟩
  · exact .inl h
  · have := hn g e
    exact .inr ⟨g, e, fun i y hy => (World.cell?_setCell_far _ _ _ _ (by simp only; omega)).trans (h i y hy)⟩
theorem unfOf_new (s : Sc) (a : Option Addr) (cap : Nat) (w : World) (hc : s.c ≤ 9223372036854775807) (hr : s.r ≤ 9223372036854775807) (hl : s.l.length ≤ 1000000) (hI : InL w a s.l) :
    Calls Try.prog 20 #[.agg #[.int .i64 s.c, .int .i64 s.r, .slice a s.l.length cap]] w fun e w' => ∃ b, e = .returned (.slice b (panR s).length (panR s).length) ∧ GotP w' b (panR s) ∧ NewAt w.heap.size b ∧ Below w.heap.size w w' := by
  cases h : rightM s
  · have e : panR s = [] := by unfold panR; rw [if_neg (by simp [h])]
    rw [e]
    exact (unfOf_no s a cap w hc hr hl hI h).mono fun _ _ ⟨h1, h2⟩ => ⟨none, h1, .inl rfl, fun _ e => by simp at e, h2⟩
  · have e : panR s = panL s := by unfold panR; rw [if_pos h]
    rw [e, panL_length, ← pcL_length]
    refine (unfOf_yes s a cap w hI h).mono fun _ _ ⟨g, h1, h2, h3, h4⟩ => ⟨_, h1, .inr ⟨g, rfl, h2⟩, fun g' e => ?_, h4⟩
    simp only [Option.some.injEq, Addr.mk.injEq] at e
    omega
theorem unfOrder_new (s : Sc) (a : Option Addr) (cap : Nat) (w : World) (hc : s.c ≤ 9223372036854775807) (hr : s.r ≤ 9223372036854775807) (hl : s.l.length ≤ 1000000) (hI : InL w a s.l) :
    Calls Try.prog 21 #[.agg #[.int .i64 s.c, .int .i64 s.r, .slice a s.l.length cap]] w fun e w' => ∃ b c, e = .returned (.slice b (numR s).length c) ∧ GotN w' b (numR s) ∧ NewAt w.heap.size b ∧ Below w.heap.size w w' := by
  cases h : rightM s
  · have e : numR s = [] := by unfold numR; rw [if_neg (by simp [h])]
    rw [e]
    exact (unfOrder_no s a cap w hc hr hl hI h).mono fun _ _ ⟨h1, h2⟩ => ⟨none, 0, h1, .inl rfl, fun _ e => by simp at e, h2⟩
  · have e : numR s = (pcL s).map Pc.n := by unfold numR; rw [if_pos h]
    rw [e]
    refine (unfOrder_yes s a cap w hI h).mono fun e w' ⟨v, h1, h2, h3⟩ => ?_
    have h0 : 0 < ((pcL s).map Pc.n).length := by
      obtain ⟨hc, hr, _, _, _⟩ := right_bounds h
      have hp : 1 ≤ s.c * s.r := Int.le_trans (by omega) (Int.mul_le_mul hc.1 hr.1 (by omega) (by omega) : 1 * 1 ≤ s.c * s.r)
      rw [List.length_map, pcL_length]
      omega
    obtain ⟨g, cap', rfl, hb, _, hc⟩ := rowI_form h2 h0
    refine ⟨_, _, h1, .inr ⟨g, rfl, hc⟩, fun g' e => ?_, h3⟩
    simp only [Option.some.injEq, Addr.mk.injEq] at e
    omega

set_option maxHeartbeats 1000000 in
theorem spFolded_any (s : Sc) (a : Option Addr) (cap : Nat) (w : World) (hc : s.c ≤ 9223372036854775807) (hr : s.r ≤ 9223372036854775807) (hl : s.l.length ≤ 1000000) (hI : InL w a s.l) :
    Calls Try.prog 15 #[.agg #[.int .i64 s.c, .int .i64 s.r, .slice a s.l.length cap]] w fun e w' => (∃ v, e = .returned v ∧ BlkV w' s v) ∧ Below w.heap.size w w' := by
  have K1 := fun w1 (h : Below w.heap.size w w1) => unfOf_new s a cap w1 hc hr hl (hI.up h)
  have K2 := fun w1 (h : Below w.heap.size w w1) => unfOrder_new s a cap w1 hc hr hl (hI.up h)
  have hn : (numR s).length = (pcR s).length := by rw [numR_eq, List.length_map]
  unfold BlkV
  rw [pcR_length] at K1
  rw [hn] at K2
  generalize (pcR s).length = m at *
  generalize panR s = P at *
  generalize numR s = N at *
  generalize s.l.length = n at *
  generalize s.c = c at *
  generalize s.r = r at *
  have H1 := Lib.hid K1; have H2 := Lib.hid K2
  clear K1 K2 hI hn
  go_enter Try.func15, Try.ntmps15
  go_wp2_with fail
  have A := (Bx.new w 24 [.int .i64 c, .int .i64 r, .slice a n cap]).alloc (.cells #[.int .i64 0, .slice none 0 0, .slice none 0 0] 40)
  have R := Bx.new (w.alloc (.cells #[.int .i64 c, .int .i64 r, .slice a n cap] 24)) 40 [.int .i64 0, .slice none 0 0, .slice none 0 0]
  simp only [World.size_alloc] at R
  have B1 := up_alloc (up_alloc (Below.refl _ w) (.cells #[.int .i64 c, .int .i64 r, .slice a n cap] 24)) (.cells #[.int .i64 0, .slice none 0 0, .slice none 0 0] 40)
  generalize (w.alloc (.cells #[.int .i64 c, .int .i64 r, .slice a n cap] 24)).alloc (.cells #[.int .i64 0, .slice none 0 0, .slice none 0 0] 40) = w1 at *
  have HB := Lib.hid B1; have HA := Lib.hid A; have HR := Lib.hid R
  have KS : ∀ w' : World, Below w1.heap.size w1 w' → w'.cell? ⟨w.heap.size, 0, none⟩ = some (.int .i64 c) ∧ w'.cell? ⟨w.heap.size, 1, none⟩ = some (.int .i64 r) ∧ w'.cell? ⟨w.heap.size, 2, none⟩ = some (.slice a n cap) := fun w' h =>
    have X := A.up h
    ⟨X.cell 0 rfl, X.cell 1 rfl, X.cell 2 rfl⟩
  have hsz : w1.heap.size > w.heap.size + 1 := R.lt
  have HKS := Lib.hid KS
  clear B1 A R KS
  go_region_held3 (fun w' => w'.cell? ⟨w.heap.size, 0, none⟩ = some (.int .i64 c) ∧ w'.cell? ⟨w.heap.size, 1, none⟩ = some (.int .i64 r) ∧ w'.cell? ⟨w.heap.size, 2, none⟩ = some (.slice a n cap))
    ((first | (refine HKS.out _ ?_; first | exact hB2 | exact hB1 | exact up_drew (Below.refl _ _)) | (have X := (((HA.out.up hB2).far (p := ⟨w.heap.size + 1, 0, none⟩) (Nat.ne_of_gt (Nat.lt_succ_self _)) (.int .i64 c)).far (p := ⟨w.heap.size + 1, 1, none⟩) (Nat.ne_of_gt (Nat.lt_succ_self _)) (.slice b1 m m)).far (p := ⟨w.heap.size + 1, 2, none⟩) (Nat.ne_of_gt (Nat.lt_succ_self _)) (.slice b2 m c2); exact ⟨X.cell 0 rfl, X.cell 1 rfl, X.cell 2 rfl⟩)))
    (first
      | (go_at_call 20; with_reducible refine (H1.out _ (up_drew HB.out)).mono ?_; rintro e w2 ⟨b1, rfl, hp1, hn1, hb1⟩; have hB1 : Below w1.heap.size w1 w2 := up_trans (up_drew (Below.refl _ _)) hb1)
      | (go_at_call 21; with_reducible refine (H2.out _ (up_trans HB.out hB1)).mono ?_; rintro e w3 ⟨b2, c2, rfl, hp2, hn2, hb2⟩; have hB2 : Below w1.heap.size w1 w3 := up_trans hB1 hb2; replace hp1 := hp1.up hb2; have r0 := (HR.out.up hB2).cell 0 rfl; have r1 := (HR.out.up hB2).cell 1 rfl; have r2 := (HR.out.up hB2).cell 2 rfl; have rf := (HR.out.up hB2).free))
  rename_i hHeld
  clear hHeld r0 r1 r2 rf
  have hs2 : w1.heap.size ≤ w2.heap.size := hB1.size
  have hw1 : w1.drew.heap.size = w1.heap.size := rfl
  have Rz := (((HR.out.up hB2).set 0 (.int .i64 c)).set 1 (.slice b1 m m)).set 2 (.slice b2 m c2)
  have Hp1 := Lib.hid (((hp1.store hn1 (p := ⟨w.heap.size + 1, 0, none⟩) (by simp only [hw1]; omega) (.int .i64 c)).store hn1 (p := ⟨w.heap.size + 1, 1, none⟩) (by simp only [hw1]; omega) (.slice b1 m m)).store hn1 (p := ⟨w.heap.size + 1, 2, none⟩) (by simp only [hw1]; omega) (.slice b2 m c2))
  have Hp2 := Lib.hid (((hp2.store hn2 (p := ⟨w.heap.size + 1, 0, none⟩) (by simp only; omega) (.int .i64 c)).store hn2 (p := ⟨w.heap.size + 1, 1, none⟩) (by simp only; omega) (.slice b1 m m)).store hn2 (p := ⟨w.heap.size + 1, 2, none⟩) (by simp only; omega) (.slice b2 m c2))
  have BB := up_trans HB.out hB2
  have BU := Lib.hid (up_set (up_set (up_set BB (p := ⟨w.heap.size + 1, 0, none⟩) (by simp only; omega) (.int .i64 c)) (p := ⟨w.heap.size + 1, 1, none⟩) (by simp only; omega) (.slice b1 m m)) (p := ⟨w.heap.size + 1, 2, none⟩) (by simp only; omega) (.slice b2 m c2))
  generalize ((w3.setCell ⟨w.heap.size + 1, 0, none⟩ (.int .i64 c)).setCell ⟨w.heap.size + 1, 1, none⟩ (.slice b1 m m)).setCell ⟨w.heap.size + 1, 2, none⟩ (.slice b2 m c2) = w4 at *
  have r0 := Rz.cell 0 rfl; have r1 := Rz.cell 1 rfl; have r2 := Rz.cell 2 rfl
  clear hp1 hp2 hn1 hn2 hb1 hb2 hB1 hB2 Rz BB
  go_wp2
  refine bodyPost_ret (v := .agg #[.int .i64 c, .slice b1 m m, .slice b2 m c2]) (by simp [results, Try.results15, go_sem, r0, r1, r2]) rfl ⟨⟨_, rfl, b1, b2, c2, rfl, Hp1.out, Hp2.out⟩, BU.out⟩

theorem spEdge_any (s : Sc) (a : Option Addr) (cap : Nat) (x y : Int) (w : World) (hc : s.c ≤ 9223372036854775807) (hr : s.r ≤ 9223372036854775807) (hl : s.l.length ≤ 1000000) (hI : InL w a s.l) :
    Calls Try.prog 8 #[.agg #[.int .i64 s.c, .int .i64 s.r, .slice a s.l.length cap], .int .i64 x, .int .i64 y] w fun e w' => e = .returned (.int .i64 (edgM s.c (pcR s) x y)) ∧ Below w.heap.size w w' := by
  have K1 := fun w1 (h : Below w.heap.size w w1) => spFolded_any s a cap w1 hc hr hl (hI.up h)
  have K2 := fun v w1 => blkEdge_any s v x y w1
  generalize edgM s.c (pcR s) x y = E at *
  have HB0 := Lib.hid (up_alloc (Below.refl _ w) (.cells #[.int .i64 s.c, .int .i64 s.r, .slice a s.l.length cap] 24))
  have H1 := Lib.hid K1; have H2 := Lib.hid K2
  clear K1 K2 hI hc hr hl
  generalize s.l.length = n at *
  obtain ⟨c, hc⟩ : ∃ c, s.c = c := ⟨_, rfl⟩
  obtain ⟨r, hr⟩ : ∃ r, s.r = r := ⟨_, rfl⟩
  rw [hc, hr] at H1 HB0 ⊢
  clear hc hr
  go_enter Try.func8, Try.ntmps8
  go_wp2_with fail
  refine (H1.out _ HB0.out).mono ?_
  rintro e w1 ⟨⟨v, rfl, hv⟩, hb⟩
  have KV := H2.out v _ hv
  have HV := Lib.hid KV
  have B1 := Lib.hid (up_trans HB0.out hb)
  clear hb hv KV
  go_wp2_with fail
  refine HV.out.mono ?_
  rintro e w2 ⟨rfl, hb⟩
  have B2 := Lib.hid (up_trans B1.out hb)
  clear hb
  go_wp2
  go_ret
  exact ⟨rfl, B2.out⟩
end Go.Proofs.Ytffnngmiaihkeaa
/- What spine.Nests answers, for every scheme. -/
namespace Go.Proofs.Ytffnngmiaihkeaa
open Go.RowKit
set_option linter.unusedVariables false

theorem pcR_small (s : Sc) : (pcR s).length ≤ 64 := by rw [← pcR_length]; exact (panR_length s).1

theorem spNests_odd (s : Sc) (a : Option Addr) (cap : Nat) (w : World) (hc : s.c ≤ 9223372036854775807) (hr : s.r ≤ 9223372036854775807) (hl : s.l.length ≤ 1000000) (hI : InL w a s.l) (ho : (pcR s).length = 0 ∨ (pcR s).length % 2 ≠ 0) :
    Calls Try.prog 10 #[.agg #[.int .i64 s.c, .int .i64 s.r, .slice a s.l.length cap]] w fun e w' => e = .returned (.bool (nestM s.c (pcR s))) ∧ Below w.heap.size w w' := by
  rw [nest_odd ho]
  have K1 := fun w1 (h : Below w.heap.size w w1) => spFolded_any s a cap w1 hc hr hl (hI.up h)
  have hm := pcR_small s
  have HB0 := Lib.hid (up_alloc (Below.refl _ w) (.cells #[.int .i64 s.c, .int .i64 s.r, .slice a s.l.length cap] 24))
  unfold BlkV at K1
  generalize (pcR s).length = m at *
  generalize s.l.length = n at *
  generalize s.c = c at *
  generalize s.r = r at *
  generalize panR s = P at *
  generalize numR s = N at *
  have H1 := Lib.hid K1
  clear K1 hI hc hr hl
  have hw : ∀ (w1 : World) (o : Obj), Below w.heap.size w w1 → Below w.heap.size w (w1.alloc o) := fun _ o h => up_alloc h o
  have HW := Lib.hid hw
  clear hw
  rcases ho with rfl | ho
  · go_enter Try.func10, Try.ntmps10
    go_wp2_with fail
    refine (H1.out _ HB0.out).mono ?_
    rintro e w1 ⟨⟨v, rfl, b1, b2, c', rfl, _, _⟩, hb⟩
    have B1 := Lib.hid (up_trans HB0.out hb)
    clear hb
    go_wp2
    go_ret
    exact ⟨rfl, HW.out _ _ B1.out⟩
  · have e0 : ((m : Int) == 0) = false := by rw [Bool.eq_false_iff, ne_eq, beq_iff_eq]; omega
    have e1 : (m : Int) % 2 = 1 := by omega
    have e2 : (m : Int).tmod 2 = 1 := by rw [Int.tmod_eq_emod_of_nonneg (by omega)]; omega
    clear ho
    go_enter Try.func10, Try.ntmps10
    go_wp2_with fail
    refine (H1.out _ HB0.out).mono ?_
    rintro e w1 ⟨⟨v, rfl, b1, b2, c', rfl, _, _⟩, hb⟩
    have B1 := Lib.hid (up_trans HB0.out hb)
    clear hb
    go_wp2
    go_ret
    exact ⟨rfl, HW.out _ _ B1.out⟩

/-- The first k leaves hang together at Left with those that stand as far from the end. -/
def NestRel (w2 : World) (c : Int) (L : List Pc) (h : Nat) (i : Value) (wr : World) : Prop :=
  ∃ k : Nat, k ≤ h ∧ i = .int .i64 (k : Int) ∧ Hid (∀ j, j < k → edgM c L (j : Int) ((L.length : Int) - 1 - (j : Int)) = 1) ∧ Below w2.heap.size w2 wr

set_option maxHeartbeats 1000000 in
theorem spNests_even (s : Sc) (a : Option Addr) (cap : Nat) (w : World) (hc : s.c ≤ 9223372036854775807) (hr : s.r ≤ 9223372036854775807) (hl : s.l.length ≤ 1000000) (hI : InL w a s.l) (h : Nat) (h0 : 0 < h) (he : (pcR s).length = 2 * h) :
    Calls Try.prog 10 #[.agg #[.int .i64 s.c, .int .i64 s.r, .slice a s.l.length cap]] w fun e w' => e = .returned (.bool (nestM s.c (pcR s))) ∧ Below w.heap.size w w' := by
  have K1 := fun w1 (h : Below w.heap.size w w1) => spFolded_any s a cap w1 hc hr hl (hI.up h)
  have hm := pcR_small s
  have KE := fun v w1 (hv : BlkV w1 s v) (x y : Int) => blkEdge_any s v x y w1 hv
  have HB0 := Lib.hid (up_alloc (Below.refl _ w) (.cells #[.int .i64 s.c, .int .i64 s.r, .slice a s.l.length cap] 24))
  have hno := fun k (hk : k < h) => @nest_no s.c (pcR s) k (by omega)
  have hyes := fun (hk : ∀ k : Nat, k < h → edgM s.c (pcR s) (k : Int) (((pcR s).length : Int) - 1 - (k : Int)) = 1) => @nest_yes s.c (pcR s) (by omega) (by omega) (fun k h2 => hk k (by omega))
  have hform : ∀ w1 v, BlkV w1 s v → ∃ b1 b2 c', v = .agg #[.int .i64 s.c, .slice b1 (pcR s).length (pcR s).length, .slice b2 (pcR s).length c'] := fun w1 v ⟨b1, b2, c', e, _⟩ => ⟨b1, b2, c', e⟩
  have hlen : (pcR s).length = (pcR s).length := rfl
  unfold NestRel at *
  generalize pcR s = L at *
  obtain ⟨m, hmm⟩ : ∃ m, L.length = m := ⟨_, rfl⟩
  rw [hmm] at hm hno hyes hform he
  obtain ⟨c, hcc⟩ : ∃ c, s.c = c := ⟨_, rfl⟩
  obtain ⟨r, hrr⟩ : ∃ r, s.r = r := ⟨_, rfl⟩
  obtain ⟨n, hnn⟩ : ∃ n, s.l.length = n := ⟨_, rfl⟩
  rw [hcc, hrr, hnn] at K1 HB0
  rw [hcc] at hno hyes hform KE
  rw [hcc, hrr, hnn]
  obtain ⟨V, hV⟩ : ∃ V, nestM c L = V := ⟨_, rfl⟩
  rw [hV] at hno hyes ⊢
  have H1 := Lib.hid K1; have HE := Lib.hid KE; have HNo := Lib.hid hno; have HYes := Lib.hid hyes; have HF := Lib.hid hform
  clear K1 KE hno hyes hform hI hc hr hl hcc hrr hnn hV hlen
  have e0 : ((m : Int) == 0) = false := by rw [Bool.eq_false_iff, ne_eq, beq_iff_eq]; omega
  have e1 : (m : Int) % 2 = 0 := by omega
  have e2 : (m : Int).tmod 2 = 0 := by rw [Int.tmod_eq_emod_of_nonneg (by omega)]; omega
  have e3 : (m : Int) / 2 = (h : Int) := by omega
  have e4 : (m : Int).tdiv 2 = (h : Int) := by rw [Int.tdiv_eq_ediv_of_nonneg (by omega)]; omega
  have hhm : (h : Int) + h = m := by omega
  clear he
  have HM := Lib.hid hmm
  clear hmm
  go_enter Try.func10, Try.ntmps10
  go_wp2_with fail
  refine (H1.out _ HB0.out).mono ?_
  rintro e w1 ⟨⟨v, rfl, hv⟩, hb⟩
  have HV := Lib.hid hv
  obtain ⟨b1, b2, c', rfl⟩ := HF.out _ _ hv
  have B1 := Lib.hid (up_trans HB0.out hb)
  clear hv hb
  go_wp2
  have A := Bx.new w1 40 [.int .i64 c, .slice b1 m m, .slice b2 m c']
  have HV2 := Lib.hid (HV.out.up (up_alloc (Below.refl _ w1) (.cells #[.int .i64 c, .slice b1 m m, .slice b2 m c'] 40)))
  have B2 := Lib.hid (up_alloc B1.out (.cells #[.int .i64 c, .slice b1 m m, .slice b2 m c'] 40))
  obtain ⟨W, hW⟩ : ∃ W, w1.alloc (.cells #[.int .i64 c, .slice b1 m m, .slice b2 m c'] 40) = W := ⟨_, rfl⟩
  have hW' : w1.alloc (.cells [.int .i64 c, .slice b1 m m, .slice b2 m c'].toArray 40) = W := hW
  rw [hW'] at A
  rw [hW] at HV2 B2
  have HA := Lib.hid A
  rw [hW]
  clear hW hW' A HV B1
  go_loopw [20] (fun i wr => NestRel W c L h i wr) (fun i _ => h - (intOf i).toNat)
  case atStart => exact ⟨0, by omega, by go_num, Lib.hid (fun j hj => absurd hj (Nat.not_lt_zero _)), Below.refl _ _⟩
  case round =>
    obtain ⟨k, hk, rfl, hall, hb⟩ := hrel
    have A := HA.out.up hb
    have f0 := A.cell 0 rfl; have f1 := A.cell 1 rfl; have f2 := A.cell 2 rfl
    have HB := Lib.hid hb
    have HVk := Lib.hid (HV2.out.up hb)
    clear hb A
    by_cases hlt : k < h
    · have z1 : (k : Int) < (h : Int) := by omega
      have KE := HE.out _ _ HVk.out (k : Int) ((m : Int) - 1 - (k : Int))
      have hno := HNo.out k hlt
      obtain ⟨E, hE⟩ : ∃ E, edgM c L (k : Int) ((m : Int) - 1 - (k : Int)) = E := ⟨_, rfl⟩
      rw [hE] at KE hno
      have HKE := Lib.hid KE; have HNk := Lib.hid hno; have HEk := Lib.hid hE
      clear KE hno hE
      by_cases h1 : E = 1
      · subst h1
        go_wp2_with fail
        refine HKE.out.mono ?_
        rintro e w3 ⟨rfl, hb3⟩
        have HB3 := Lib.hid (up_trans HB.out hb3)
        clear hb3 f0 f1 f2
        go_wp2
        refine ⟨⟨k + 1, by omega, by go_num, Lib.hid (fun j hj => ?_), HB3.out⟩, by simp [intOf]; omega⟩
        by_cases hjk : j < k
        · exact hall.out j hjk
        · obtain rfl : j = k := by omega
          rw [HM.out]
          exact HEk.out
      · have h1' : (E != 1) = true := bne_iff_ne.2 h1
        obtain rfl := HNk.out h1
        go_wp2_with fail
        refine HKE.out.mono ?_
        rintro e w3 ⟨rfl, hb3⟩
        have HB3 := Lib.hid (up_trans HB.out hb3)
        clear hb3 f0 f1 f2
        go_wp2
        go_ret
        exact ⟨rfl, up_trans B2.out HB3.out⟩
    · obtain rfl : k = h := by omega
      obtain rfl := HYes.out (by have := hall.out; rwa [HM.out] at this)
      go_wp2
      go_ret
      exact ⟨rfl, up_trans B2.out HB.out⟩

theorem spNests_any (s : Sc) (a : Option Addr) (cap : Nat) (w : World) (hc : s.c ≤ 9223372036854775807) (hr : s.r ≤ 9223372036854775807) (hl : s.l.length ≤ 1000000) (hI : InL w a s.l) :
    Calls Try.prog 10 #[.agg #[.int .i64 s.c, .int .i64 s.r, .slice a s.l.length cap]] w fun e w' => e = .returned (.bool (nestM s.c (pcR s))) ∧ Below w.heap.size w w' := by
  by_cases ho : (pcR s).length = 0 ∨ (pcR s).length % 2 ≠ 0
  · exact spNests_odd s a cap w hc hr hl hI ho
  · exact spNests_even s a cap w hc hr hl hI ((pcR s).length / 2) (by omega) (by omega)
end Go.Proofs.Ytffnngmiaihkeaa
/- What spine.Open answers, for every scheme and every int. -/
namespace Go.Proofs.Ytffnngmiaihkeaa
open Go.RowKit
set_option linter.unusedVariables false

theorem spOpen_out (c r e : Int) (a : Option Addr) (n cap : Nat) (w : World) (he : (decide (1 ≤ e) && decide (e ≤ 4)) = false) :
    Calls Try.prog 12 #[.agg #[.int .i64 c, .int .i64 r, .slice a n cap], .int .i64 e] w fun e w' => e = .returned (.int .i64 0) ∧ Below w.heap.size w w' := by
  have K := fun w => in_any e 1 4 w
  rw [he] at K
  have H := Lib.hid K
  have HB0 := Lib.hid (up_alloc (Below.refl _ w) (.cells #[.int .i64 c, .int .i64 r, .slice a n cap] 24))
  clear K
  go_enter Try.func12, Try.ntmps12
  go_wp2
  go_step3
  go_wp2_with fail
  refine (H.out _).mono ?_
  rintro e w1 ⟨rfl, rfl⟩
  go_wp2
  try rw [Exit.noGoto_ret]
  go_ret
  exact ⟨rfl, HB0.out⟩

/-- So many of the first k leaves hang together with no other one at edge e. -/
def OpenRel (w2 : World) (c : Int) (L : List Pc) (e : Int) (m : Nat) (x i : Value) (wr : World) : Prop :=
  ∃ k : Nat, k ≤ m ∧ x = .int .i64 ((cntM c L e k : Nat) : Int) ∧ i = .int .i64 (k : Int) ∧ Below w2.heap.size w2 wr
def OpenIn (w3 : World) (c : Int) (L : List Pc) (e : Int) (m k : Nat) (i : Value) (wr : World) : Prop :=
  ∃ b : Nat, b ≤ m ∧ i = .int .i64 (b : Int) ∧ Hid (∀ j, j < b → edgM c L (k : Int) (j : Int) ≠ e) ∧ Below w3.heap.size w3 wr

set_option maxHeartbeats 1000000 in
theorem spOpen_in (s : Sc) (a : Option Addr) (cap : Nat) (e : Int) (w : World) (hc : s.c ≤ 9223372036854775807) (hr : s.r ≤ 9223372036854775807) (hl : s.l.length ≤ 1000000) (hI : InL w a s.l) (he : (decide (1 ≤ e) && decide (e ≤ 4)) = true) :
    Calls Try.prog 12 #[.agg #[.int .i64 s.c, .int .i64 s.r, .slice a s.l.length cap], .int .i64 e] w fun en w' => en = .returned (.int .i64 ((cntM s.c (pcR s) e (pcR s).length : Nat) : Int)) ∧ Below w.heap.size w w' := by
  have K1 := fun w1 (h : Below w.heap.size w w1) => spFolded_any s a cap w1 hc hr hl (hI.up h)
  have K0 := fun w => in_any e 1 4 w
  rw [he] at K0
  have hm := pcR_small s
  have KE := fun v w1 (hv : BlkV w1 s v) (x y : Int) => blkEdge_any s v x y w1 hv
  have HB0 := Lib.hid (up_alloc (Below.refl _ w) (.cells #[.int .i64 s.c, .int .i64 s.r, .slice a s.l.length cap] 24))
  have hform : ∀ w1 v, BlkV w1 s v → ∃ b1 b2 c', v = .agg #[.int .i64 s.c, .slice b1 (pcR s).length (pcR s).length, .slice b2 (pcR s).length c'] := fun w1 v ⟨b1, b2, c', e, _⟩ => ⟨b1, b2, c', e⟩
  have hfree := fun a b => @free_no s.c (pcR s) e a b
  have hfull := fun a => @free_yes s.c (pcR s) e a
  have hsucc := cnt_succ s.c (pcR s) e
  have hle := cnt_le s.c (pcR s) e
  generalize pcR s = L at *
  obtain ⟨m, hmm⟩ : ∃ m, L.length = m := ⟨_, rfl⟩
  rw [hmm] at hm hform hfree hfull ⊢
  obtain ⟨c, hcc⟩ : ∃ c, s.c = c := ⟨_, rfl⟩
  obtain ⟨r, hrr⟩ : ∃ r, s.r = r := ⟨_, rfl⟩
  obtain ⟨n, hnn⟩ : ∃ n, s.l.length = n := ⟨_, rfl⟩
  rw [hcc, hrr, hnn] at K1 HB0
  rw [hcc] at hform KE hfree hfull hsucc hle
  rw [hcc, hrr, hnn]
  have H0 := Lib.hid K0; have H1 := Lib.hid K1; have HE := Lib.hid KE; have HF := Lib.hid hform; have HNo := Lib.hid hfree; have HYes := Lib.hid hfull; have HS := Lib.hid hsucc; have HL := Lib.hid hle
  clear K0 K1 KE hform hfree hfull hsucc hle hI hc hr hl hcc hrr hnn he hmm
  go_enter Try.func12, Try.ntmps12
  go_wp2
  go_step3
  go_wp2_with fail
  refine (H0.out _).mono ?_
  rintro e0 w0 ⟨rfl, rfl⟩
  go_wp2_with fail
  refine (H1.out _ HB0.out).mono ?_
  rintro e0 w1 ⟨⟨v, rfl, hv⟩, hb⟩
  have HV := Lib.hid hv
  obtain ⟨b1, b2, c', rfl⟩ := HF.out _ _ hv
  have B1 := Lib.hid (up_trans HB0.out hb)
  clear hv hb
  go_wp2
  have A := Bx.new w1 40 [.int .i64 c, .slice b1 m m, .slice b2 m c']
  have HV2 := Lib.hid (HV.out.up (up_alloc (Below.refl _ w1) (.cells #[.int .i64 c, .slice b1 m m, .slice b2 m c'] 40)))
  have B2 := Lib.hid (up_alloc B1.out (.cells #[.int .i64 c, .slice b1 m m, .slice b2 m c'] 40))
  obtain ⟨W, hW⟩ : ∃ W, w1.alloc (.cells #[.int .i64 c, .slice b1 m m, .slice b2 m c'] 40) = W := ⟨_, rfl⟩
  have hW' : w1.alloc (.cells [.int .i64 c, .slice b1 m m, .slice b2 m c'].toArray 40) = W := hW
  rw [hW'] at A
  rw [hW] at HV2 B2
  have HA := Lib.hid A
  rw [hW]
  have f0 := A.cell 0 rfl; have f1 := A.cell 1 rfl; have f2 := A.cell 2 rfl
  clear hW hW' A HV B1
  go_step3
  go_wp2
  clear f0 f1 f2
  go_loopw [6, 17] (fun x i wr => OpenRel W c L e m x i wr) (fun x i _ => m - (intOf i).toNat)
  case atStart => exact ⟨0, by omega, by rw [cnt_zero]; rfl, by go_num, Below.refl _ _⟩
  case round =>
    obtain ⟨k, hk, rfl, rfl, hb⟩ := hrel
    have A := HA.out.up hb
    have f0 := A.cell 0 rfl; have f1 := A.cell 1 rfl; have f2 := A.cell 2 rfl
    have HB := Lib.hid hb
    have HVk := Lib.hid (HV2.out.up hb)
    have hcl := HL.out k
    have hcs := HS.out k
    obtain ⟨q, hq⟩ : ∃ q, cntM c L e k = q := ⟨_, rfl⟩
    rw [hq] at hcl hcs ⊢
    have HC := Lib.hid hcs; have HQ := Lib.hid hq
    clear hb A hcs hq
    by_cases hlt : k < m
    · have z1 : (k : Int) < (m : Int) := by omega
      go_wp2
      obtain ⟨V, hVV⟩ : ∃ V, V = wr := ⟨_, rfl⟩
      subst hVV
      go_loopw [23] (fun i wr => OpenIn V c L e m k i wr) (fun i _ => m - (intOf i).toNat)
      case atStart => exact ⟨0, by omega, by go_num, Lib.hid (fun j hj => absurd hj (Nat.not_lt_zero _)), Below.refl _ _⟩
      case round =>
        obtain ⟨b, hbm, rfl, hall, hb⟩ := hrel
        have A := HA.out.up (up_trans HB.out hb)
        clear f0 f1 f2
        have f0 := A.cell 0 rfl; have f1 := A.cell 1 rfl; have f2 := A.cell 2 rfl
        have HBb := Lib.hid (up_trans HB.out hb)
        have HB4 := Lib.hid hb
        have HVb := Lib.hid (HVk.out.up hb)
        clear hb A
        by_cases hbl : b < m
        · have z2 : (b : Int) < (m : Int) := by omega
          have KE := HE.out _ _ HVb.out (k : Int) (b : Int)
          obtain ⟨E, hE⟩ : ∃ E, edgM c L (k : Int) (b : Int) = E := ⟨_, rfl⟩
          rw [hE] at KE
          have HKE := Lib.hid KE; have HEk := Lib.hid hE
          clear KE hE
          by_cases h1 : E = e
          · subst h1
            have hfr := HNo.out k b hbl HEk.out
            go_wp2_with fail
            refine HKE.out.mono ?_
            rintro en w3 ⟨rfl, hb3⟩
            have HB3 := Lib.hid (up_trans HBb.out hb3)
            clear hb3 f0 f1 f2
            go_wp2
            refine ⟨⟨k + 1, by omega, by rw [HC.out, if_neg (by simp [hfr])]; rfl, by go_num, HB3.out⟩, by simp [intOf]; omega⟩
          · have h1' : (E == e) = false := beq_eq_false_iff_ne.2 h1
            go_wp2_with fail
            refine HKE.out.mono ?_
            rintro en w3 ⟨rfl, hb3⟩
            have HB3 := Lib.hid (up_trans HB4.out hb3)
            clear hb3 f0 f1 f2
            go_wp2
            refine ⟨⟨b + 1, by omega, by go_num, Lib.hid (fun j hj => ?_), HB3.out⟩, by simp [intOf]; omega⟩
            by_cases hjk : j < b
            · exact hall.out j hjk
            · obtain rfl : j = b := by omega
              rw [HEk.out]
              exact h1
        · obtain rfl : b = m := by omega
          have hfr := HYes.out k hall.out
          go_wp2
          refine ⟨⟨k + 1, by omega, by rw [HC.out, if_pos hfr]; rfl, by go_num, HBb.out⟩, by simp [intOf]; omega⟩
    · obtain rfl : k = m := by omega
      go_wp2
      rw [Exit.noGoto_ret]
      go_ret
      exact ⟨by rw [HQ.out]; rfl, up_trans B2.out HB.out⟩

theorem spOpen_any (s : Sc) (a : Option Addr) (cap : Nat) (e : Int) (w : World) (hc : s.c ≤ 9223372036854775807) (hr : s.r ≤ 9223372036854775807) (hl : s.l.length ≤ 1000000) (hI : InL w a s.l) :
    Calls Try.prog 12 #[.agg #[.int .i64 s.c, .int .i64 s.r, .slice a s.l.length cap], .int .i64 e] w fun en w' => en = .returned (.int .i64 ((openM s.c (pcR s) e : Nat) : Int)) ∧ Below w.heap.size w w' := by
  unfold openM
  by_cases he : 1 ≤ e ∧ e ≤ 4
  · rw [if_pos he]
    exact spOpen_in s a cap e w hc hr hl hI (by simp [he])
  · rw [if_neg he]
    exact spOpen_out _ _ _ _ _ _ _ (by simp only [Bool.and_eq_false_iff, decide_eq_false_iff_not]; omega)
end Go.Proofs.Ytffnngmiaihkeaa
/- gatherumlaw14.alive answers true. -/
namespace Go.Proofs.Ytffnngmiaihkeaa
open Go.RowKit
set_option linter.unusedVariables false

def s22 : Sc := ⟨2, 2, [⟨3, 1, false⟩, ⟨1, 1, false⟩]⟩
theorem nest_22 : nestM s22.c (pcR s22) = true := by decide +kernel
theorem edge_22 : edgM s22.c (pcR s22) 0 3 = 1 := by decide +kernel
theorem open_22 : openM s22.c (pcR s22) 1 = 0 := by decide +kernel
theorem inL_22 (w : World) : InL (w.alloc (.cells #[.int .i64 3, .int .i64 1, .bool false, .int .i64 1, .int .i64 1, .bool false] 35)) (some ⟨w.heap.size, 0, none⟩) s22.l := by
  refine .inr ⟨_, 0, rfl, ?_⟩
  intro j p hp
  match j, hp with
  | 0, hp =>
    cases hp
    refine ⟨?_, ?_, ?_⟩ <;> simp [go_sem]
  | 1, hp =>
    cases hp
    refine ⟨?_, ?_, ?_⟩ <;> simp [go_sem]
  | j + 2, hp => simp [s22] at hp

theorem spAlive_any (w : World) : Calls Try.prog 6 #[] w fun e w' => e = .returned (.bool true) ∧ Below w.heap.size w w' := by
  have K1 := fun W (h : InL W (some ⟨w.heap.size, 0, none⟩) s22.l) => spNests_any s22 (some ⟨w.heap.size, 0, none⟩) 2 W (by decide) (by decide) (by decide) h
  have K2 := fun W (h : InL W (some ⟨w.heap.size, 0, none⟩) s22.l) => spEdge_any s22 (some ⟨w.heap.size, 0, none⟩) 2 0 3 W (by decide) (by decide) (by decide) h
  have K3 := fun W (h : InL W (some ⟨w.heap.size, 0, none⟩) s22.l) => spOpen_any s22 (some ⟨w.heap.size, 0, none⟩) 2 1 W (by decide) (by decide) (by decide) h
  rw [nest_22] at K1
  rw [edge_22] at K2
  rw [open_22] at K3
  have hB : Below w.heap.size w ((w.alloc (.cells #[.int .i64 3, .int .i64 1, .bool false, .int .i64 1, .int .i64 1, .bool false] 35)).alloc (.cells #[.int .i64 2, .int .i64 2, .slice (some ⟨w.heap.size, 0, none⟩) 2 2] 24)) := up_alloc (up_alloc (Below.refl _ _) _) _
  have hI := (inL_22 w).up (up_alloc (Below.refl _ _) (.cells #[.int .i64 2, .int .i64 2, .slice (some ⟨w.heap.size, 0, none⟩) 2 2] 24))
  have A := Bx.new (w.alloc (.cells #[.int .i64 3, .int .i64 1, .bool false, .int .i64 1, .int .i64 1, .bool false] 35)) 24 [.int .i64 2, .int .i64 2, .slice (some ⟨w.heap.size, 0, none⟩) 2 2]
  rw [World.size_alloc] at A
  have H1 := Lib.hid K1; have H2 := Lib.hid K2; have H3 := Lib.hid K3; have HA := Lib.hid A; have HI := Lib.hid hI; have HB := Lib.hid hB
  clear K1 K2 K3 A hI hB
  go_enter Try.func6, Try.ntmps6
  go_wp2_with fail
  refine (H1.out _ HI.out).mono ?_
  rintro e w1 ⟨rfl, hb⟩
  have a0 := (HA.out.up hb).cell 0 rfl; have a1 := (HA.out.up hb).cell 1 rfl; have a2 := (HA.out.up hb).cell 2 rfl
  have HI1 := Lib.hid (HI.out.up hb)
  have HA1 := Lib.hid (HA.out.up hb)
  have B1 := Lib.hid (up_trans HB.out hb)
  clear hb
  go_wp2_with fail
  refine (H2.out _ HI1.out).mono ?_
  rintro e w2 ⟨rfl, hb⟩
  clear a0 a1 a2
  have a0 := (HA1.out.up hb).cell 0 rfl; have a1 := (HA1.out.up hb).cell 1 rfl; have a2 := (HA1.out.up hb).cell 2 rfl
  have HI2 := Lib.hid (HI1.out.up hb)
  have B2 := Lib.hid (up_trans B1.out hb)
  clear hb
  go_wp2_with fail
  refine (H3.out _ HI2.out).mono ?_
  rintro e w3 ⟨rfl, hb⟩
  have B3 := Lib.hid (up_trans B2.out hb)
  clear hb a0 a1 a2
  go_wp2
  go_ret
  exact ⟨rfl, B3.out⟩
end Go.Proofs.Ytffnngmiaihkeaa
/- At which edge two leaves hang together, by the reference, for every scheme and every two ints. -/
namespace Go.Proofs.Ytffnngmiaihkeaa
open Go.RowKit
set_option linter.unusedVariables false

/-- Two new boxes. -/
def TwoP (w1 : World) (P Q : List Value) (s8 s9 : Value) (wx : World) : Prop := ∃ g h : Nat, s8 = .pointer (some ⟨g, 0, none⟩) ∧ s9 = .pointer (some ⟨h, 0, none⟩) ∧ w1.heap.size ≤ g ∧ w1.heap.size ≤ h ∧ g ≠ h ∧ Bx wx g P ∧ Bx wx h Q ∧ Below w1.heap.size w1 wx
theorem twoP_1 (w1 : World) (t : TypeId) (p0 q0 : Value) (P Q : List Value) : TwoP w1 (p0 :: P) (q0 :: Q) (.pointer (some ⟨w1.heap.size, 0, none⟩)) (.pointer (some ⟨w1.heap.size + 1, 0, none⟩)) ((w1.alloc (.cells (p0 :: P).toArray t)).alloc (.cells (q0 :: Q).toArray t)).drew := by
  have H := Bx.new (w1.alloc (.cells (p0 :: P).toArray t)) t (q0 :: Q)
  rw [World.size_alloc] at H
  exact ⟨_, _, rfl, rfl, Nat.le_refl _, by omega, by omega, ((Bx.new w1 t (p0 :: P)).alloc _).drew, H.drew, up_drew (up_alloc (up_alloc (Below.refl _ _) _) _)⟩
theorem twoP_2 (w1 : World) (t : TypeId) (p0 q0 : Value) (P Q : List Value) : TwoP w1 (p0 :: P) (q0 :: Q) (.pointer (some ⟨w1.heap.size + 1, 0, none⟩)) (.pointer (some ⟨w1.heap.size, 0, none⟩)) ((w1.alloc (.cells (q0 :: Q).toArray t)).alloc (.cells (p0 :: P).toArray t)).drew := by
  have H := Bx.new (w1.alloc (.cells (q0 :: Q).toArray t)) t (p0 :: P)
  rw [World.size_alloc] at H
  exact ⟨_, _, rfl, rfl, by omega, Nat.le_refl _, by omega, H.drew, ((Bx.new w1 t (q0 :: Q)).alloc _).drew, up_drew (up_alloc (up_alloc (Below.refl _ _) _) _)⟩

set_option maxHeartbeats 2000000 in
set_option maxRecDepth 100000 in
theorem refEdge_up (c r X Y px py qx qy pc pr qc qr V : Int) (fx fy gx gy t1 t2 t3 t4 : Bool) (ad : Option Addr) (n cap a b m : Nat) (w : World) (hm : m ≤ 64) (hc : 1 ≤ c ∧ c ≤ 64) (ha : a < m) (hb : b < m) (hX : 0 ≤ X ∧ X ≤ 64) (hY : 0 ≤ Y ∧ Y ≤ 64) (hXY : ¬ Y < X)
    (e1 : X.tmod c = pc) (e2 : X.tdiv c = pr) (e3 : Y.tmod c = qc) (e4 : Y.tdiv c = qr) (hpc : 0 ≤ pc ∧ pc ≤ 64) (hpr : 0 ≤ pr ∧ pr ≤ 64) (hqc : 0 ≤ qc ∧ qc ≤ 64) (hqr : 0 ≤ qr ∧ qr ≤ 64)
    (k1 : (pr == qr) = t1) (k2 : (qc == pc + 1) = t2) (k3 : (pc == qc) = t3) (k4 : (qr == pr + 1) = t4)
    (hV : V = if (t1 && t2) = true then (if fx = true then 1 else 2) else if (t3 && t4) = true then (if fy = true then 3 else 4) else 0)
    (KF : ∀ w1, Below w.heap.size w w1 → Calls Try.prog 13 #[.agg #[.int .i64 c, .int .i64 r, .slice ad n cap]] w1 fun e w' => ∃ g cp, e = .returned (.slice (some ⟨g, 0, none⟩) m cp) ∧ (w'.cell? ⟨g, a * 5, none⟩ = some (.int .i64 X) ∧ w'.cell? ⟨g, a * 5 + 1, none⟩ = some (.int .i64 px) ∧ w'.cell? ⟨g, a * 5 + 2, none⟩ = some (.int .i64 py) ∧ w'.cell? ⟨g, a * 5 + 3, none⟩ = some (.bool fx) ∧ w'.cell? ⟨g, a * 5 + 4, none⟩ = some (.bool fy)) ∧
      (w'.cell? ⟨g, b * 5, none⟩ = some (.int .i64 Y) ∧ w'.cell? ⟨g, b * 5 + 1, none⟩ = some (.int .i64 qx) ∧ w'.cell? ⟨g, b * 5 + 2, none⟩ = some (.int .i64 qy) ∧ w'.cell? ⟨g, b * 5 + 3, none⟩ = some (.bool gx) ∧ w'.cell? ⟨g, b * 5 + 4, none⟩ = some (.bool gy)) ∧ Below w1.heap.size w1 w') :
    Calls Try.prog 9 #[.agg #[.int .i64 c, .int .i64 r, .slice ad n cap], .int .i64 (a : Int), .int .i64 (b : Int)] w fun e w' => e = .returned (.int .i64 V) ∧ Below w.heap.size w w' := by
  have HB0 := Lib.hid (up_alloc (Below.refl _ w) (.cells #[.int .i64 c, .int .i64 r, .slice ad n cap] 24))
  have HF := Lib.hid KF
  clear KF
  have e1' : X % c = pc := by rw [← Int.tmod_eq_emod_of_nonneg (by omega)]; exact e1
  have e2' : X / c = pr := by rw [← Int.tdiv_eq_ediv_of_nonneg (by omega)]; exact e2
  have e3' : Y % c = qc := by rw [← Int.tmod_eq_emod_of_nonneg (by omega)]; exact e3
  have e4' : Y / c = qr := by rw [← Int.tdiv_eq_ediv_of_nonneg (by omega)]; exact e4
  have hc0 : c ≠ 0 := by omega
  have z0 : (0 : Int) ≤ (a : Int) := by omega
  have z1 : (a : Int) < (m : Int) := by omega
  have z2 : (0 : Int) ≤ (b : Int) := by omega
  have z3 : (b : Int) < (m : Int) := by omega
  have y0 : decide ((a : Int) < 0) = false := by simp
  have y1 : decide ((b : Int) < 0) = false := by simp
  have y2 : decide ((m : Int) ≤ (a : Int)) = false := by simp; omega
  have y3 : decide ((m : Int) ≤ (b : Int)) = false := by simp; omega
  have y2' : decide (m ≤ a) = false := by simp; omega
  have y3' : decide (m ≤ b) = false := by simp; omega
  have y4 : decide (Y < X) = false := by simp; omega
  go_enter Try.func9, Try.ntmps9
  go_wp2_with fail
  refine (HF.out _ HB0.out).mono ?_
  rintro e w1 ⟨g, cp, rfl, ⟨p0, p1, p2, p3, p4⟩, ⟨q0, q1, q2, q3, q4⟩, hb1⟩
  have A := (Bx.new w 24 [.int .i64 c, .int .i64 r, .slice ad n cap]).up hb1
  have B1 := Lib.hid (up_trans HB0.out hb1)
  have KS : ∀ w' : World, Below w1.heap.size w1 w' → w'.cell? ⟨g, a * 5, none⟩ = some (.int .i64 X) ∧ w'.cell? ⟨g, a * 5 + 1, none⟩ = some (.int .i64 px) ∧ w'.cell? ⟨g, a * 5 + 2, none⟩ = some (.int .i64 py) ∧ w'.cell? ⟨g, a * 5 + 3, none⟩ = some (.bool fx) ∧ w'.cell? ⟨g, a * 5 + 4, none⟩ = some (.bool fy) ∧ w'.cell? ⟨g, b * 5, none⟩ = some (.int .i64 Y) ∧ w'.cell? ⟨g, b * 5 + 1, none⟩ = some (.int .i64 qx) ∧ w'.cell? ⟨g, b * 5 + 2, none⟩ = some (.int .i64 qy) ∧ w'.cell? ⟨g, b * 5 + 3, none⟩ = some (.bool gx) ∧ w'.cell? ⟨g, b * 5 + 4, none⟩ = some (.bool gy) := fun w' h =>
    ⟨bl_cell h p0, bl_cell h p1, bl_cell h p2, bl_cell h p3, bl_cell h p4, bl_cell h q0, bl_cell h q1, bl_cell h q2, bl_cell h q3, bl_cell h q4⟩
  have HS := Lib.hid KS
  have HA := Lib.hid A
  have E := Lib.hid (And.intro e1 (And.intro e2 (And.intro e3 (And.intro e4 (And.intro e1' (And.intro e2' (And.intro e3' e4')))))))
  have KK := Lib.hid (And.intro k1 (And.intro k2 (And.intro k3 k4)))
  clear hb1 p0 p1 p2 p3 p4 q0 q1 q2 q3 q4 KS A e1 e2 e3 e4 e1' e2' e3' e4' k1 k2 k3 k4
  go_wp2_with fail
  go_cut [8, 9] (fun s8 s9 wx => TwoP w1 [.int .i64 X, .int .i64 px, .int .i64 py, .bool fx, .bool fy] [.int .i64 Y, .int .i64 qx, .int .i64 qy, .bool gx, .bool gy] s8 s9 wx)
  case first =>
    go_region_held3 (fun w' => w'.cell? ⟨g, a * 5, none⟩ = some (.int .i64 X) ∧ w'.cell? ⟨g, a * 5 + 1, none⟩ = some (.int .i64 px) ∧ w'.cell? ⟨g, a * 5 + 2, none⟩ = some (.int .i64 py) ∧ w'.cell? ⟨g, a * 5 + 3, none⟩ = some (.bool fx) ∧ w'.cell? ⟨g, a * 5 + 4, none⟩ = some (.bool fy) ∧ w'.cell? ⟨g, b * 5, none⟩ = some (.int .i64 Y) ∧ w'.cell? ⟨g, b * 5 + 1, none⟩ = some (.int .i64 qx) ∧ w'.cell? ⟨g, b * 5 + 2, none⟩ = some (.int .i64 qy) ∧ w'.cell? ⟨g, b * 5 + 3, none⟩ = some (.bool gx) ∧ w'.cell? ⟨g, b * 5 + 4, none⟩ = some (.bool gy))
      ((refine HS.out _ ?_; repeat (first | (with_reducible exact Below.refl _ _) | (with_reducible apply up_drew) | (with_reducible apply up_alloc) | (with_reducible refine up_set ?_ (by simp <;> omega) _))))
      (fail)
    all_goals
      rename_i hHeld
      clear hHeld
      go_wp2_with fail
      go_meet
      first
        | exact twoP_1 w1 44 _ _ _ _
        | exact twoP_2 w1 44 _ _ _ _
  case rest =>
    obtain ⟨g', h', rfl, rfl, lg, lh, ne, G, H, hb⟩ := hcut
    have ne' : h' ≠ g' := fun e => ne e.symm
    have A2 := HA.out.up hb
    have B2 := Lib.hid (up_trans B1.out hb)
    have gA := G.cell 0 rfl
    have hA := H.cell 0 rfl
    clear hb gA hA lg lh
    have gA := G.cell 0 rfl; have gB := G.cell 3 rfl; have gC := G.cell 4 rfl
    have hA := H.cell 0 rfl
    have A4 := A2; have B4 := B2; have G4 := G; have H4 := H
    clear A2 B2 G H
    generalize wc = w4 at *
    go_wp2_with fail
    clear gA gB gC hA
    obtain ⟨e1, e2, e3, e4, e1', e2', e3', e4'⟩ := E.out
    obtain ⟨k1, k2, k3, k4⟩ := KK.out
    have a0 := fun u : Later w4 => u.cell (A4.cell 0 rfl)
    have g0 := fun u : Later w4 => u.cell (G4.cell 0 rfl); have g3 := fun u : Later w4 => u.cell (G4.cell 3 rfl); have g4 := fun u : Later w4 => u.cell (G4.cell 4 rfl)
    have h0 := fun u : Later w4 => u.cell (H4.cell 0 rfl)
    clear A4 G4 H4
    go_wp2_with fail
    refine later_start (w := w4) ?_
    intro u
    refine wp_region_later (by kernel_rfl) (by kernel_rfl) ?_
    repeat (go_big_quiet_step (fail))
    refine wpQuiet_nil ?_
    rintro _ ⟨v2, rfl⟩
    have x3 := g3 v2; have x4 := g4 v2
    have B5 := Lib.hid (up_trans B4.out v2.up)
    clear a0 g0 g3 g4 h0
    generalize v2.now = w5 at *
    clear u v2
    cases t1
    · cases t3
      · obtain rfl : V = 0 := hV
        go_wp2
        go_ret
        exact ⟨rfl, B5.out⟩
      · cases t4
        · obtain rfl : V = 0 := hV
          go_wp2
          go_ret
          exact ⟨rfl, B5.out⟩
        · cases fy
          · obtain rfl : V = 4 := hV
            go_wp2
            go_ret
            exact ⟨rfl, B5.out⟩
          · obtain rfl : V = 3 := hV
            go_wp2
            go_ret
            exact ⟨rfl, B5.out⟩
    · cases t2
      · cases t3
        · obtain rfl : V = 0 := hV
          go_wp2
          go_ret
          exact ⟨rfl, B5.out⟩
        · cases t4
          · obtain rfl : V = 0 := hV
            go_wp2
            go_ret
            exact ⟨rfl, B5.out⟩
          · cases fy
            · obtain rfl : V = 4 := hV
              go_wp2
              go_ret
              exact ⟨rfl, B5.out⟩
            · obtain rfl : V = 3 := hV
              go_wp2
              go_ret
              exact ⟨rfl, B5.out⟩
      · cases fx
        · obtain rfl : V = 2 := hV
          go_wp2
          go_ret
          exact ⟨rfl, B5.out⟩
        · obtain rfl : V = 1 := hV
          go_wp2
          go_ret
          exact ⟨rfl, B5.out⟩

set_option maxHeartbeats 2000000 in
set_option maxRecDepth 100000 in
theorem refEdge_down (c r X Y px py qx qy pc pr qc qr V : Int) (fx fy gx gy t1 t2 t3 t4 : Bool) (ad : Option Addr) (n cap a b m : Nat) (w : World) (hm : m ≤ 64) (hc : 1 ≤ c ∧ c ≤ 64) (ha : a < m) (hb : b < m) (hX : 0 ≤ X ∧ X ≤ 64) (hY : 0 ≤ Y ∧ Y ≤ 64) (hXY : Y < X)
    (e1 : Y.tmod c = pc) (e2 : Y.tdiv c = pr) (e3 : X.tmod c = qc) (e4 : X.tdiv c = qr) (hpc : 0 ≤ pc ∧ pc ≤ 64) (hpr : 0 ≤ pr ∧ pr ≤ 64) (hqc : 0 ≤ qc ∧ qc ≤ 64) (hqr : 0 ≤ qr ∧ qr ≤ 64)
    (k1 : (pr == qr) = t1) (k2 : (qc == pc + 1) = t2) (k3 : (pc == qc) = t3) (k4 : (qr == pr + 1) = t4)
    (hV : V = if (t1 && t2) = true then (if gx = true then 1 else 2) else if (t3 && t4) = true then (if gy = true then 3 else 4) else 0)
    (KF : ∀ w1, Below w.heap.size w w1 → Calls Try.prog 13 #[.agg #[.int .i64 c, .int .i64 r, .slice ad n cap]] w1 fun e w' => ∃ g cp, e = .returned (.slice (some ⟨g, 0, none⟩) m cp) ∧ (w'.cell? ⟨g, a * 5, none⟩ = some (.int .i64 X) ∧ w'.cell? ⟨g, a * 5 + 1, none⟩ = some (.int .i64 px) ∧ w'.cell? ⟨g, a * 5 + 2, none⟩ = some (.int .i64 py) ∧ w'.cell? ⟨g, a * 5 + 3, none⟩ = some (.bool fx) ∧ w'.cell? ⟨g, a * 5 + 4, none⟩ = some (.bool fy)) ∧
      (w'.cell? ⟨g, b * 5, none⟩ = some (.int .i64 Y) ∧ w'.cell? ⟨g, b * 5 + 1, none⟩ = some (.int .i64 qx) ∧ w'.cell? ⟨g, b * 5 + 2, none⟩ = some (.int .i64 qy) ∧ w'.cell? ⟨g, b * 5 + 3, none⟩ = some (.bool gx) ∧ w'.cell? ⟨g, b * 5 + 4, none⟩ = some (.bool gy)) ∧ Below w1.heap.size w1 w') :
    Calls Try.prog 9 #[.agg #[.int .i64 c, .int .i64 r, .slice ad n cap], .int .i64 (a : Int), .int .i64 (b : Int)] w fun e w' => e = .returned (.int .i64 V) ∧ Below w.heap.size w w' := by
  have HB0 := Lib.hid (up_alloc (Below.refl _ w) (.cells #[.int .i64 c, .int .i64 r, .slice ad n cap] 24))
  have HF := Lib.hid KF
  clear KF
  have e1' : Y % c = pc := by rw [← Int.tmod_eq_emod_of_nonneg (by omega)]; exact e1
  have e2' : Y / c = pr := by rw [← Int.tdiv_eq_ediv_of_nonneg (by omega)]; exact e2
  have e3' : X % c = qc := by rw [← Int.tmod_eq_emod_of_nonneg (by omega)]; exact e3
  have e4' : X / c = qr := by rw [← Int.tdiv_eq_ediv_of_nonneg (by omega)]; exact e4
  have hc0 : c ≠ 0 := by omega
  have z0 : (0 : Int) ≤ (a : Int) := by omega
  have z1 : (a : Int) < (m : Int) := by omega
  have z2 : (0 : Int) ≤ (b : Int) := by omega
  have z3 : (b : Int) < (m : Int) := by omega
  have y0 : decide ((a : Int) < 0) = false := by simp
  have y1 : decide ((b : Int) < 0) = false := by simp
  have y2 : decide ((m : Int) ≤ (a : Int)) = false := by simp; omega
  have y3 : decide ((m : Int) ≤ (b : Int)) = false := by simp; omega
  have y2' : decide (m ≤ a) = false := by simp; omega
  have y3' : decide (m ≤ b) = false := by simp; omega
  have y4 : decide (Y < X) = true := by simp; omega
  go_enter Try.func9, Try.ntmps9
  go_wp2_with fail
  refine (HF.out _ HB0.out).mono ?_
  rintro e w1 ⟨g, cp, rfl, ⟨p0, p1, p2, p3, p4⟩, ⟨q0, q1, q2, q3, q4⟩, hb1⟩
  have A := (Bx.new w 24 [.int .i64 c, .int .i64 r, .slice ad n cap]).up hb1
  have B1 := Lib.hid (up_trans HB0.out hb1)
  have KS : ∀ w' : World, Below w1.heap.size w1 w' → w'.cell? ⟨g, a * 5, none⟩ = some (.int .i64 X) ∧ w'.cell? ⟨g, a * 5 + 1, none⟩ = some (.int .i64 px) ∧ w'.cell? ⟨g, a * 5 + 2, none⟩ = some (.int .i64 py) ∧ w'.cell? ⟨g, a * 5 + 3, none⟩ = some (.bool fx) ∧ w'.cell? ⟨g, a * 5 + 4, none⟩ = some (.bool fy) ∧ w'.cell? ⟨g, b * 5, none⟩ = some (.int .i64 Y) ∧ w'.cell? ⟨g, b * 5 + 1, none⟩ = some (.int .i64 qx) ∧ w'.cell? ⟨g, b * 5 + 2, none⟩ = some (.int .i64 qy) ∧ w'.cell? ⟨g, b * 5 + 3, none⟩ = some (.bool gx) ∧ w'.cell? ⟨g, b * 5 + 4, none⟩ = some (.bool gy) := fun w' h =>
    ⟨bl_cell h p0, bl_cell h p1, bl_cell h p2, bl_cell h p3, bl_cell h p4, bl_cell h q0, bl_cell h q1, bl_cell h q2, bl_cell h q3, bl_cell h q4⟩
  have HS := Lib.hid KS
  have HA := Lib.hid A
  have E := Lib.hid (And.intro e1 (And.intro e2 (And.intro e3 (And.intro e4 (And.intro e1' (And.intro e2' (And.intro e3' e4')))))))
  have KK := Lib.hid (And.intro k1 (And.intro k2 (And.intro k3 k4)))
  clear hb1 p0 p1 p2 p3 p4 q0 q1 q2 q3 q4 KS A e1 e2 e3 e4 e1' e2' e3' e4' k1 k2 k3 k4
  go_wp2_with fail
  go_cut [8, 9] (fun s8 s9 wx => TwoP w1 [.int .i64 X, .int .i64 px, .int .i64 py, .bool fx, .bool fy] [.int .i64 Y, .int .i64 qx, .int .i64 qy, .bool gx, .bool gy] s8 s9 wx)
  case first =>
    go_region_held3 (fun w' => w'.cell? ⟨g, a * 5, none⟩ = some (.int .i64 X) ∧ w'.cell? ⟨g, a * 5 + 1, none⟩ = some (.int .i64 px) ∧ w'.cell? ⟨g, a * 5 + 2, none⟩ = some (.int .i64 py) ∧ w'.cell? ⟨g, a * 5 + 3, none⟩ = some (.bool fx) ∧ w'.cell? ⟨g, a * 5 + 4, none⟩ = some (.bool fy) ∧ w'.cell? ⟨g, b * 5, none⟩ = some (.int .i64 Y) ∧ w'.cell? ⟨g, b * 5 + 1, none⟩ = some (.int .i64 qx) ∧ w'.cell? ⟨g, b * 5 + 2, none⟩ = some (.int .i64 qy) ∧ w'.cell? ⟨g, b * 5 + 3, none⟩ = some (.bool gx) ∧ w'.cell? ⟨g, b * 5 + 4, none⟩ = some (.bool gy))
      ((refine HS.out _ ?_; repeat (first | (with_reducible exact Below.refl _ _) | (with_reducible apply up_drew) | (with_reducible apply up_alloc) | (with_reducible refine up_set ?_ (by simp <;> omega) _))))
      (fail)
    all_goals
      rename_i hHeld
      clear hHeld
      go_wp2_with fail
      go_meet
      first
        | exact twoP_1 w1 44 _ _ _ _
        | exact twoP_2 w1 44 _ _ _ _
  case rest =>
    obtain ⟨g', h', rfl, rfl, lg, lh, ne, G, H, hb⟩ := hcut
    have ne' : h' ≠ g' := fun e => ne e.symm
    have A2 := HA.out.up hb
    have B2 := Lib.hid (up_trans B1.out hb)
    have gA := G.cell 0 rfl
    have hA := H.cell 0 rfl
    clear gA hA
    have gA := G.cell 0 rfl; have gB := G.cell 1 rfl; have gC := G.cell 2 rfl; have gD := G.cell 3 rfl; have gE := G.cell 4 rfl; have gF := G.free
    have hA := H.cell 0 rfl; have hB := H.cell 1 rfl; have hC := H.cell 2 rfl; have hD := H.cell 3 rfl; have hE := H.cell 4 rfl; have hF := H.free
    go_wp2_with fail
    have G4 := ((((((((((G.set 0 (.int .i64 Y)).set 1 (.int .i64 qx)).set 2 (.int .i64 qy)).set 3 (.bool gx)).set 4 (.bool gy)).far (p := ⟨h', 0, none⟩) ne' (.int .i64 X)).far (p := ⟨h', 1, none⟩) ne' (.int .i64 px)).far (p := ⟨h', 2, none⟩) ne' (.int .i64 py)).far (p := ⟨h', 3, none⟩) ne' (.bool fx)).far (p := ⟨h', 4, none⟩) ne' (.bool fy))
    have H4 := ((((((((((H.far (p := ⟨g', 0, none⟩) ne (.int .i64 Y)).far (p := ⟨g', 1, none⟩) ne (.int .i64 qx)).far (p := ⟨g', 2, none⟩) ne (.int .i64 qy)).far (p := ⟨g', 3, none⟩) ne (.bool gx)).far (p := ⟨g', 4, none⟩) ne (.bool gy)).set 0 (.int .i64 X)).set 1 (.int .i64 px)).set 2 (.int .i64 py)).set 3 (.bool fx)).set 4 (.bool fy))
    have U4 := (up_set (up_set (up_set (up_set (up_set (up_set (up_set (up_set (up_set (up_set hb (p := ⟨g', 0, none⟩) lg (.int .i64 Y)) (p := ⟨g', 1, none⟩) lg (.int .i64 qx)) (p := ⟨g', 2, none⟩) lg (.int .i64 qy)) (p := ⟨g', 3, none⟩) lg (.bool gx)) (p := ⟨g', 4, none⟩) lg (.bool gy)) (p := ⟨h', 0, none⟩) lh (.int .i64 X)) (p := ⟨h', 1, none⟩) lh (.int .i64 px)) (p := ⟨h', 2, none⟩) lh (.int .i64 py)) (p := ⟨h', 3, none⟩) lh (.bool fx)) (p := ⟨h', 4, none⟩) lh (.bool fy))
    clear gA gB gC gD gE gF hA hB hC hD hE hF G H A2 B2 hb lg lh
    generalize ((((((((((wc.setCell ⟨g', 0, none⟩ (.int .i64 Y)).setCell ⟨g', 1, none⟩ (.int .i64 qx)).setCell ⟨g', 2, none⟩ (.int .i64 qy)).setCell ⟨g', 3, none⟩ (.bool gx)).setCell ⟨g', 4, none⟩ (.bool gy)).setCell ⟨h', 0, none⟩ (.int .i64 X)).setCell ⟨h', 1, none⟩ (.int .i64 px)).setCell ⟨h', 2, none⟩ (.int .i64 py)).setCell ⟨h', 3, none⟩ (.bool fx)).setCell ⟨h', 4, none⟩ (.bool fy)) = w4 at *
    simp only [List.set_cons_zero, List.set_cons_succ] at G4 H4
    have A4 := HA.out.up U4
    have B4 := Lib.hid (up_trans B1.out U4)
    clear U4
    obtain ⟨e1, e2, e3, e4, e1', e2', e3', e4'⟩ := E.out
    obtain ⟨k1, k2, k3, k4⟩ := KK.out
    have a0 := fun u : Later w4 => u.cell (A4.cell 0 rfl)
    have g0 := fun u : Later w4 => u.cell (G4.cell 0 rfl); have g3 := fun u : Later w4 => u.cell (G4.cell 3 rfl); have g4 := fun u : Later w4 => u.cell (G4.cell 4 rfl)
    have h0 := fun u : Later w4 => u.cell (H4.cell 0 rfl)
    clear A4 G4 H4
    go_wp2_with fail
    refine later_start (w := w4) ?_
    intro u
    refine wp_region_later (by kernel_rfl) (by kernel_rfl) ?_
    repeat (go_big_quiet_step (fail))
    refine wpQuiet_nil ?_
    rintro _ ⟨v2, rfl⟩
    have x3 := g3 v2; have x4 := g4 v2
    have B5 := Lib.hid (up_trans B4.out v2.up)
    clear a0 g0 g3 g4 h0
    generalize v2.now = w5 at *
    clear u v2
    cases t1
    · cases t3
      · obtain rfl : V = 0 := hV
        go_wp2
        go_ret
        exact ⟨rfl, B5.out⟩
      · cases t4
        · obtain rfl : V = 0 := hV
          go_wp2
          go_ret
          exact ⟨rfl, B5.out⟩
        · cases gy
          · obtain rfl : V = 4 := hV
            go_wp2
            go_ret
            exact ⟨rfl, B5.out⟩
          · obtain rfl : V = 3 := hV
            go_wp2
            go_ret
            exact ⟨rfl, B5.out⟩
    · cases t2
      · cases t3
        · obtain rfl : V = 0 := hV
          go_wp2
          go_ret
          exact ⟨rfl, B5.out⟩
        · cases t4
          · obtain rfl : V = 0 := hV
            go_wp2
            go_ret
            exact ⟨rfl, B5.out⟩
          · cases gy
            · obtain rfl : V = 4 := hV
              go_wp2
              go_ret
              exact ⟨rfl, B5.out⟩
            · obtain rfl : V = 3 := hV
              go_wp2
              go_ret
              exact ⟨rfl, B5.out⟩
      · cases gx
        · obtain rfl : V = 2 := hV
          go_wp2
          go_ret
          exact ⟨rfl, B5.out⟩
        · obtain rfl : V = 1 := hV
          go_wp2
          go_ret
          exact ⟨rfl, B5.out⟩
end Go.Proofs.Ytffnngmiaihkeaa
